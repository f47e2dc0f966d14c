/- Package record's Unpack: a batch is read, or the reader panics. -/
import Derived.Test.YtgfamaddghajlaaRcG
namespace Go.Proofs.Ytgfamaddghajlaa.W
open Go.RowKit Go.Sort
open Go.Proofs.Ytgfamaddghajlaa.M Go.Proofs.Ytgfamaddghajlaa.D Go.Proofs.Ytgfamaddghajlaa.Z
set_option linter.unusedVariables false
set_option linter.unusedSimpArgs false

theorem infoRec : (Try.prog.info? 23).map (fun i => (i.zero, i.size, i.bytes)) = some (some (.agg #[.int .i64 0, .int .i64 0, .string ⟨#[]⟩, .string ⟨#[]⟩, .bool false, .int .i64 0, .int .i64 0, .int .i64 0]), 8, 80) := by kernel_rfl
theorem own_nilR {W : World} {B : Nat} {e : TypeId} {sz : Nat} : W.ownsRow B e sz (.slice none 0 0) 0 [] := ⟨by simp, .inl ⟨rfl, rfl⟩⟩
/-- What a batch comes to. -/
def BatPost (w : World) (b : Nat) (s : ByteArray) (e : Ending) (w' : World) : Prop :=
  (∃ rs A c, good rs ∧ packL rs = s.data.toList ∧ e = .returned (.slice A rs.length c) ∧ w'.ownsRow w.heap.size 23 8 (.slice A rs.length c) rs.length (rcRows rs) ∧ Kept (fun r => r = b) w w') ∨
  ((∀ rs, good rs → packL rs ≠ s.data.toList) ∧ e = .panicked faultC ∧ Kept (fun r => r = b) w w')

set_option maxRecDepth 100000 in
set_option maxHeartbeats 4000000 in
theorem batch_any (b : Nat) (s : ByteArray) (w : World) (h : Whole w b 52 (rdL s 0)) (hs : s.size ≤ 100000) :
    Calls Try.prog 38 #[.pointer (some ⟨b, 0, none⟩)] w fun e w' => BatPost w b s e w' := by
  have hlen : s.data.toList.length = s.size := by simp
  have hb := h.lt
  have c0 : w.cell? ⟨b, 0, none⟩ = some (.string s) := h.cell 0
  have c1 : w.cell? ⟨b, 1, none⟩ = some (.int .i64 ((0 : Nat) : Int)) := h.cell 1
  have hK0 := Lib.hid (Kept.refl (fun r => r = b) w)
  by_cases h7 : 773 < s.size
  · have h7i : (773 : Int) < (s.size : Int) := by omega
    have hno := Lib.hid (show ∀ rs, good rs → packL rs ≠ s.data.toList from fun rs hg he => by
      have := hg.2.2
      rw [he, hlen] at this
      omega)
    clear h
    go_enter Try.func38, Try.ntmps38
    go_wp2_with fail
    rw [show decide ((s.size : Int) ≤ 773) = false from decide_eq_false (by omega)]
    refine (demand_no _).mono ?_
    rintro e w1 ⟨rfl, rfl⟩
    go_wp2_with fail
    exact ⟨rfl, .inr ⟨hno.out, rfl, hK0.out⟩⟩
  have h7i : (s.size : Int) ≤ 773 := by omega
  obtain ⟨i0, hi0, hz0, hz1, hz2⟩ := info_parts infoRec
  have hU0 := Lib.hid (Upto.zero s)
  replace h := Lib.hid h
  obtain ⟨S, hS⟩ : ∃ S, Hid (s.size = S) := ⟨_, Lib.hid rfl⟩
  rw [hS.out] at h7 h7i hs
  have hSi : (s.size : Int) = (S : Int) := by rw [hS.out]
  go_enter Try.func38, Try.ntmps38
  go_wp2_with fail
  refine (demand_yes _).mono ?_
  rintro e w1 ⟨rfl, rfl⟩
  clear c0 c1
  go_wp2_with fail
  go_loopg [3] (S + 1) (fun ga v wr => ∃ (p a cc : Nat) (A : Option Addr) (acc : List Rc), p ≤ S ∧ S ≤ p + ga ∧ v = .slice A a cc ∧ Hid (acc.length = a ∧ Upto s acc p ∧ wr.ownsRow w.heap.size 23 8 (.slice A a cc) a (rcRows acc) ∧ Whole wr b 52 (rdL s p) ∧ Kept (fun r => r = b) w wr))
  case atStart => exact ⟨0, 0, 0, none, [], by omega, by omega, rfl, Lib.hid ⟨rfl, hU0.out, own_nilR, h.out, hK0.out⟩⟩
  case round =>
    clear h hK0 hU0
    obtain ⟨p, a, cc, A, acc, hp, hga, rfl, hrel⟩ := hrel
    obtain ⟨hal, hU, how, hR, hK⟩ := hrel.out
    clear hrel
    generalize wr = wo at *
    have c0 : wo.cell? ⟨b, 0, none⟩ = some (.string s) := hR.cell 0
    have c1 : wo.cell? ⟨b, 1, none⟩ = some (.int .i64 (p : Int)) := hR.cell 1
    have hU8 := packL_many hU.2.1
    have hUl := hU.len
    have ha97 : a ≤ 97 := by omega
    by_cases hlt : p < S
    · have hrec := record_any b s p wo.drew hR (by rw [hS.out]; exact hs) (by rw [hS.out]; exact hp)
      unfold RecPost at hrec
      replace hU := Lib.hid hU
      replace how := Lib.hid how
      replace hK := Lib.hid hK
      replace hR := Lib.hid hR
      rcases hr : recAt s p with _ | ⟨r, q⟩
      · rw [hr] at hrec
        dsimp only at hrec
        have hno := Lib.hid (show ∀ rs, good rs → packL rs ≠ s.data.toList from fun rs hg => hU.out.stuck hr (by rw [hS.out]; exact hlt) rs hg.1.2.1)
        replace hrec := Lib.hid hrec
        clear hr hU8 hUl
        go_wp2_with fail
        go_region
        all_goals
          go_wp2_with fail
          refine hrec.out.mono ?_
          rintro e w2 ⟨rfl, hk⟩
          have hk2 := Lib.hid ((show Kept (fun r => r = b) w wo.drew from ⟨hK.out.os, hK.out.tape, hK.out.output, hK.out.size, hK.out.block⟩).trans hk)
          clear hk
          go_wp2_with fail
          exact ⟨rfl, .inr ⟨hno.out, rfl, hk2.out⟩⟩
      · rw [hr] at hrec
        dsimp only at hrec
        obtain ⟨hU2, hpq⟩ := hU.out.step hr
        have hqs := hU2.1
        rw [hS.out] at hqs
        replace hU2 := Lib.hid hU2
        replace hrec := Lib.hid hrec
        clear hr hU8 hUl
        go_wp2_with fail
        go_region
        all_goals
          go_wp2_with fail
          refine hrec.out.mono ?_
          rintro e w2 ⟨rfl, hr2, hk⟩
          have hk2 := (show Kept (fun r => r = b) w wo.drew from ⟨hK.out.os, hK.out.tape, hK.out.output, hK.out.size, hK.out.block⟩).trans hk
          have how2 := own_of_kept (w := wo.drew) how.out hk (fun k hk' e => by have := ownFar how.out k hk'; omega)
          replace hk2 := Lib.hid hk2
          replace how2 := Lib.hid how2
          replace hr2 := Lib.hid hr2
          clear how hK hR hk hrec c0 c1
          go_wp2_with (with_reducible refine zAppend _ _ _ rfl ?_)
          refine Lib.hid ?_
          refine wpList_append_lies _ rfl _ _ 38 rfl w.heap.size 23 i0 _ 8 80 Try.underlying38 hi0 hz0 hz1 hz2 rfl (by omega) _ _ _ rfl (how2.out.alloc _) _ 1 1 (rcL r) rfl rfl (World.news_of_block (heap_alloc_new _ _)) (by simp [Value.oneCell']) (by omega) (by unfold maxLen; omega) (by omega) (by have := hk2.out.size; simp; omega) (w2.heap.size + 1) (by simp) ?_
          intro gg cap2 w5 hown5 hgrow5 hat5 hlt5
          have hk5 : Kept (fun r => r = b) w w5 := (hk2.out.alloc _).grown hgrow5 (fun k hk => .inr (ownFar how2.out k hk))
          have hr5 : Whole w5 b 52 (rdL s q) := (hr2.out.alloc _).kept hgrow5 (fun e => by have := ownFar how2.out b e.symm; omega)
          have hown6 : w5.ownsRow w.heap.size 23 8 (.slice (some ⟨gg, 0, none⟩) (a + 1) cap2) (a + 1) (rcRows (acc ++ [r])) := by
            rw [rcRows_append, show rcRows [r] = rcL r from by simp [rcRows]]
            exact hown5
          have hfin := Lib.hid (And.intro (show (acc ++ [r]).length = a + 1 by rw [List.length_append, hal]; rfl) (And.intro hU2.out (And.intro hown6 (And.intro hr5 hk5))))
          clear hown5 hgrow5 hat5 hown6 hr5 hk5 how2 hr2 hk2
          go_wp2_with fail
          go_roundg (gk - 1)
          case measure => omega
          case rel => exact ⟨q, a + 1, cap2, some ⟨gg, 0, none⟩, acc ++ [r], hqs, by omega, rfl, hfin⟩
    · obtain rfl : p = S := by omega
      have hwh : packL acc = s.data.toList := Upto.whole (by rw [hS.out]; exact hU)
      have hRc : RcAt wo.drew A acc := rcAt_own (w := wo.drew) (n := a) (c := cc) (B := w.heap.size) how hal
      have hck : ∃ x, (Calls Try.prog 33 #[.slice A a cc] wo.drew fun e w' => e = .returned (.int .i64 x) ∧ Below wo.drew.heap.size wo.drew w') ∧ ((x = 0 ∧ good acc) ∨ (x ≠ 0 ∧ ¬ good acc)) := by
        rw [← hal]
        by_cases hf : fair acc
        · refine ⟨_, check_fair A cc acc wo.drew hRc (by omega) hf, ?_⟩
          by_cases h8 : 8 < acc.length
          · rw [if_pos h8]; exact .inr ⟨by decide, fun e => by have := e.2.1; omega⟩
          · rw [if_neg h8]; exact .inl ⟨rfl, hf, by omega, by rw [hwh, hlen, hS.out]; omega⟩
        · exact ⟨1, check_not A cc acc wo.drew hRc (by omega) hf, .inr ⟨by decide, fun e => hf e.1⟩⟩
      obtain ⟨x, hck, hx⟩ := hck
      have hu := Lib.hid (show ∀ rs, good rs → packL rs = s.data.toList → rs = acc from fun rs hg he => packL_inj hU.2.1 hg.1.2.1 (he.trans hwh.symm))
      have hKd : Kept (fun r => r = b) w wo.drew := ⟨hK.os, hK.tape, hK.output, hK.size, hK.block⟩
      replace hck := Lib.hid hck
      replace hwh := Lib.hid hwh
      replace how := Lib.hid how
      replace hKd := Lib.hid hKd
      clear hU hR hK hRc hU8 hUl
      rcases hx with ⟨rfl, hg⟩ | ⟨hx, hg⟩
      · replace hg := Lib.hid hg
        go_wp2_with fail
        go_region
        all_goals
          go_wp2_with fail
          refine hck.out.mono ?_
          rintro e w2 ⟨rfl, hb2⟩
          go_wp2_with fail
          refine (demand_yes _).mono ?_
          rintro e w3 ⟨rfl, rfl⟩
          have hfin : BatPost w b s (.returned (.slice A a cc)) w2 := .inl ⟨acc, A, cc, hg.out, hwh.out, by rw [hal], by rw [hal]; exact own_of_kept (own := fun _ => False) (w := wo.drew) how.out (Kept.of_below hb2) (fun _ _ e => e), hKd.out.trans (Kept.of_below hb2)⟩
          replace hfin := Lib.hid hfin
          clear hb2
          go_wp2_with fail
          go_ret
          exact hfin.out
      · have hno : Hid (∀ rs, good rs → packL rs ≠ s.data.toList) := Lib.hid (fun rs h1 h2 => hg (by rw [← hu.out rs h1 h2]; exact h1))
        have hx2 : (x == 0) = false := by simpa using hx
        clear hg hu
        go_wp2_with fail
        go_region
        all_goals
          go_wp2_with fail
          refine hck.out.mono ?_
          rintro e w2 ⟨rfl, hb2⟩
          have hk2 := Lib.hid (hKd.out.trans (Kept.of_below (own := fun r => r = b) hb2))
          clear hb2
          go_wp2_with fail
          refine (demand_no _).mono ?_
          rintro e w3 ⟨rfl, rfl⟩
          go_wp2_with fail
          exact ⟨rfl, .inr ⟨hno.out, rfl, hk2.out⟩⟩
end Go.Proofs.Ytgfamaddghajlaa.W
