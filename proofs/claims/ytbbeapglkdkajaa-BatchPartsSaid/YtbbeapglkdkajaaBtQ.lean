/- Package batch's all over records. -/
import Derived.Test.YtbbeapglkdkajaaBtB
namespace Go.Proofs.Ytbbeapglkdkajaa.W
open Go.RowKit Go.Sort
open Go.Proofs.Ytbbeapglkdkajaa.M Go.Proofs.Ytbbeapglkdkajaa.D Go.Proofs.Ytbbeapglkdkajaa.Z
set_option linter.unusedVariables false
set_option linter.unusedSimpArgs false

section
variable (P : Rc → Bool) (gf b : Nat) (eg : ∀ args w, (callFunc gf args).run Try.prog w = .ok (.enter gf args) w)
  (hf : ∀ (p : Rc) W, Calls Try.prog gf #[.agg #[.int .i64 p.off, .int .i64 p.tick, .string p.key, .string p.val, .bool p.gone, .int .i64 p.prod, .int .i64 p.seq, .int .i64 p.frm]] W fun e w' => e = .returned (.bool (P p)) ∧ Below W.heap.size W w')
include eg hf
set_option maxRecDepth 100000 in
theorem qnot_any (p : Rc) (w : World) (hc : w.cell? ⟨b, 0, none⟩ = some (.func (.func gf) #[] #[])) :
    Calls Try.prog 52 #[.agg #[.int .i64 p.off, .int .i64 p.tick, .string p.key, .string p.val, .bool p.gone, .int .i64 p.prod, .int .i64 p.seq, .int .i64 p.frm], .pointer (some ⟨b, 0, none⟩)] w fun e w' => e = .returned (.bool (!P p)) ∧ Below w.heap.size w w' := by
  have hm := Lib.hid (fun W => hf p W)
  obtain ⟨m, hme⟩ : ∃ m, Hid (P p = m) := ⟨_, Lib.hid rfl⟩
  rw [hme.out] at hm ⊢
  have hb0 := grewAlloc (Below.refl w.heap.size w) (.cells #[.int .i64 p.off, .int .i64 p.tick, .string p.key, .string p.val, .bool p.gone, .int .i64 p.prod, .int .i64 p.seq, .int .i64 p.frm] 33)
  have hc1 := keepZ hb0 hc
  replace hb0 := Lib.hid hb0
  clear hf
  go_enter Try.func52, Try.ntmps52
  go_wp2_with fail
  refine (hm.out _).mono ?_
  rintro e w1 ⟨rfl, hb⟩
  have hB1 := Lib.hid (grew hb0.out hb)
  clear hb0 hb hc1
  go_wp2_with fail
  go_ret
  exact ⟨rfl, hB1.out⟩
end
section
variable (P : Rc → Bool) (gf b : Nat) (eg : ∀ args w, (callFunc gf args).run Try.prog w = .ok (.enter gf args) w)
  (hf : ∀ (p : Rc) W, Calls Try.prog gf #[.agg #[.int .i64 p.off, .int .i64 p.tick, .string p.key, .string p.val, .bool p.gone, .int .i64 p.prod, .int .i64 p.seq, .int .i64 p.frm]] W fun e w' => e = .returned (.bool (P p)) ∧ Below W.heap.size W w')
include eg hf
set_option maxRecDepth 100000 in
set_option maxHeartbeats 4000000 in
theorem qindex_any (va : Option Addr) (c : Nat) (ps : List Rc) (w : World) (h : RcAt w va ps) (hc : w.cell? ⟨b, 0, none⟩ = some (.func (.func gf) #[] #[])) (hn : ps.length ≤ 100000) (k : Nat) (hk : k ≤ ps.length) (hlow : ∀ j s, j < k → ps[j]? = some s → P s = true) (hend : ∀ s, ps[k]? = some s → P s = false) :
    Calls Try.prog 65 #[.slice va ps.length c, .func (.func 52) #[] #[.pointer (some ⟨b, 0, none⟩)]] w fun e w' => e = .returned (.int .i64 (if k < ps.length then (k : Int) else -1)) ∧ Below w.heap.size w w' := by
  obtain ⟨N, hN⟩ : ∃ N, Hid (ps.length = N) := ⟨_, Lib.hid rfl⟩
  rw [hN.out] at hn hk ⊢
  have hm := Lib.hid (fun (p : Rc) W hW => qnot_any P gf b eg hf p W hW)
  obtain ⟨R, hR⟩ : ∃ R : Int, Hid ((if k < N then (k : Int) else -1) = R) := ⟨_, Lib.hid rfl⟩
  rw [hR.out]
  replace h := Lib.hid h
  replace hlow := Lib.hid hlow
  replace hend := Lib.hid hend
  replace hc := Lib.hid hc
  have eg2 := fun args W => (show (callFunc 52 args).run Try.prog W = .ok (.enter 52 args) W by kernel_rfl)
  clear hf
  go_enter Try.func65, Try.ntmps65
  go_wp2_with fail
  go_loopg [8] N (fun ga i wr => ∃ a : Nat, a ≤ k ∧ N ≤ a + ga ∧ i = .int .i64 a ∧ Hid (Below w.heap.size w wr))
  case atStart => exact ⟨0, by omega, by omega, rfl, Lib.hid (Below.refl _ _)⟩
  case round =>
    obtain ⟨a, ha, hg, rfl, hb⟩ := hrel
    generalize wr = wo at *
    by_cases hlt : a < N
    · obtain ⟨p, hp⟩ : ∃ p, ps[a]? = some p := ⟨_, List.getElem?_eq_getElem (by have := hN.out; omega)⟩
      obtain ⟨b2, o, rfl, c0, c1, c2, c3, c4, c5, c6, c7⟩ := (h.out.below hb.out).get hp
      have hlow1 := Lib.hid (fun (e : a < k) => hlow.out a p e hp)
      have hend1 := Lib.hid (fun (e : a = k) => hend.out p (by rw [← e]; exact hp))
      have hcw := Lib.hid (hm.out p wo (keepZ hb.out hc.out))
      replace hp := Lib.hid hp
      by_cases hka : a = k
      · have hbad := hend1.out hka
        rw [hbad] at hcw
        have hRa : (a : Int) = R := by rw [← hR.out, if_pos (by omega), hka]
        subst hRa
        subst hka
        clear hbad hlow1 hend1
        go_wp2_with fail
        refine hcw.out.mono ?_
        rintro e w1 ⟨rfl, hb1⟩
        have hB1 := Lib.hid (grew hb.out hb1)
        clear c0 c1 c2 c3 c4 c5 c6 c7 hb1 hb hcw
        go_wp2_with fail
        go_ret
        exact ⟨rfl, hB1.out⟩
      · have hgood := hlow1.out (by omega)
        rw [hgood] at hcw
        clear hgood hlow1 hend1
        go_wp2_with fail
        refine hcw.out.mono ?_
        rintro e w1 ⟨rfl, hb1⟩
        have hB1 := Lib.hid (grew hb.out hb1)
        clear c0 c1 c2 c3 c4 c5 c6 c7 hb1 hb hcw
        go_wp2_with fail
        go_roundg (gk - 1)
        case measure => omega
        case rel => exact ⟨a + 1, by omega, by omega, by go_num, hB1⟩
    · have hRk : R = -1 := by rw [← hR.out, if_neg (by omega)]
      subst hRk
      go_wp2_with fail
      go_ret
      exact ⟨rfl, hb.out⟩
set_option maxRecDepth 100000 in
theorem qcontains_any (va : Option Addr) (c : Nat) (ps : List Rc) (w : World) (h : RcAt w va ps) (hc : w.cell? ⟨b, 0, none⟩ = some (.func (.func gf) #[] #[])) (hn : ps.length ≤ 100000) :
    Calls Try.prog 53 #[.slice va ps.length c, .func (.func 52) #[] #[.pointer (some ⟨b, 0, none⟩)]] w fun e w' => e = .returned (.bool (!(ps.all P))) ∧ Below w.heap.size w w' := by
  obtain ⟨K, hi, hK⟩ : ∃ K : Int, (Calls Try.prog 65 #[.slice va ps.length c, .func (.func 52) #[] #[.pointer (some ⟨b, 0, none⟩)]] w fun e w' => e = .returned (.int .i64 K) ∧ Below w.heap.size w w') ∧ (!(ps.all P)) = decide (0 ≤ K) := by
    by_cases hall : ∀ r ∈ ps, P r = true
    · refine ⟨-1, ?_, ?_⟩
      · have := qindex_any P gf b eg hf va c ps w h hc hn ps.length (Nat.le_refl _) (fun j s _ hj => hall s (List.mem_of_getElem? hj)) (fun s hs => by have := (List.getElem?_eq_some_iff.1 hs).1; omega)
        rw [if_neg (by omega)] at this
        exact this
      · rw [List.all_eq_true.2 hall]; rfl
    · obtain ⟨k, r, h1, h2, h3⟩ := first_bad_of P ps hall
      have hk : k < ps.length := (List.getElem?_eq_some_iff.1 h1).1
      refine ⟨(k : Int), ?_, ?_⟩
      · have := qindex_any P gf b eg hf va c ps w h hc hn k (by omega) h3 (fun s hs => by rw [h1] at hs; cases hs; exact h2)
        rw [if_pos hk] at this
        exact this
      · rw [show ps.all P = false from by
          cases hb : ps.all P with
          | false => rfl
          | true => exact absurd (List.all_eq_true.1 hb) hall]
        simp
  replace hi := Lib.hid hi
  obtain ⟨N, hN⟩ : ∃ N, Hid (ps.length = N) := ⟨_, Lib.hid rfl⟩
  rw [hN.out] at hi ⊢
  rw [hK]
  clear hK hf
  go_enter Try.func53, Try.ntmps53
  go_wp2_with fail
  refine hi.out.mono ?_
  rintro e w1 ⟨rfl, hb⟩
  replace hb := Lib.hid hb
  go_wp2_with fail
  go_ret
  exact ⟨rfl, hb.out⟩
set_option maxRecDepth 100000 in
theorem qall_any (va : Option Addr) (c : Nat) (ps : List Rc) (w : World) (h : RcAt w va ps) (hn : ps.length ≤ 100000) :
    Calls Try.prog 33 #[.slice va ps.length c, .func (.func gf) #[] #[]] w fun e w' => e = .returned (.bool (ps.all P)) ∧ Below w.heap.size w w' := by
  obtain ⟨V, hV⟩ : ∃ V, Hid (V = w.alloc (.cells #[.func (.func gf) #[] #[]] 73)) := ⟨_, Lib.hid rfl⟩
  have hb0 : Below w.heap.size w V := by rw [hV.out]; exact grewAlloc (Below.refl _ _) _
  have hX : Whole V w.heap.size 73 [.func (.func gf) #[] #[]] := by rw [hV.out]; exact Whole.new w _ _
  have hct := Lib.hid (qcontains_any P gf w.heap.size eg hf va c ps V (h.below hb0) (hX.cell 0) hn)
  obtain ⟨N, hN⟩ : ∃ N, Hid (ps.length = N) := ⟨_, Lib.hid rfl⟩
  obtain ⟨A, hA⟩ : ∃ A, Hid (ps.all P = A) := ⟨_, Lib.hid rfl⟩
  rw [hN.out, hA.out] at hct ⊢
  obtain ⟨q, hq⟩ : ∃ q, Hid (w.heap.size = q) := ⟨_, Lib.hid rfl⟩
  replace hb0 := Lib.hid hb0
  clear hX h hf
  rw [hq.out] at hct
  go_enter Try.func33, Try.ntmps33
  go_upto_region 1 with fail
  rw [← show V = _ from hV.out, hq.out]
  clear hV
  go_wp2_with fail
  refine hct.out.mono ?_
  rintro e w1 ⟨rfl, hb⟩
  have hB := Lib.hid (grew hb0.out hb)
  clear hb0 hb hct
  go_wp2_with fail
  go_ret
  exact ⟨by simp, hB.out⟩
end
end Go.Proofs.Ytbbeapglkdkajaa.W
