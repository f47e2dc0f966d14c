/- Package dedup's reader of numbers, whatever the bytes. Package dedup's Decode, whatever the bytes. -/
import Derived.Test.YtgogackkeodciaaGreatDdV
import Derived.Test.YtgogackkeodciaaGreatUnchains
import Derived.Test.YtgogackkeodciaaGreatQuietB
import Derived.Deep.QuietTactic
import Derived.BigQuiet
import Derived.Deep.LoopGhost
import Derived.Deep.Cut
section
namespace Go.Proofs.YtgogackkeodciaaGreat.W
open Go.RowKit Go.Sort
open Go.Proofs.YtgogackkeodciaaGreat.M Go.Proofs.YtgogackkeodciaaGreat.D
set_option linter.unusedVariables false
set_option linter.unusedSimpArgs false

/-- A reader's cells. -/
abbrev drL (s : ByteArray) (p : Nat) : List Value := [.string s, .int .i64 (p : Int)]
theorem slice_at (s : ByteArray) (p : Nat) (hp : p ≤ s.size) (W : World) : (Instr.sliceAt 9 (.string s) (some (.int .i64 (p : Int))) none none).run Tryz.prog W = .ok (.string (s.extract p s.size)) W := by
  have h1 : (p : Int) ≤ (s.size : Int) := by omega
  simp [go_sem, h1, Tryz.underlying9]
set_option maxRecDepth 100000 in
set_option maxHeartbeats 4000000 in
theorem dnum_yes (b : Nat) (s : ByteArray) (p q : Nat) (v : Int) (w : World) (h : Whole w b 195 (drL s p)) (hs : s.size ≤ 100000) (hp : p ≤ s.size) (hn : chAt s.data.toList p = some (v, q)) :
    Calls Tryz.prog 120 #[.pointer (some ⟨b, 0, none⟩)] w fun e w' => e = .returned (.int .i64 (wrap64 v)) ∧ Whole w' b 195 (drL s q) ∧ Kept (fun r => r = b) w w' := by
  have hz : (s.extract p s.size).size ≤ 1099511627776 := by rw [ByteArray.size_extract]; omega
  have hu := fun W => unchain_any (s.extract p s.size) W hz
  rw [ext_drop] at hu
  obtain ⟨a1, a2, _⟩ := chAt_back hn (by simpa using hp)
  have hl : s.data.toList.length = s.size := by simp
  unfold chAt at hn
  obtain ⟨n, hU⟩ : ∃ n : Nat, unch (s.data.toList.drop p) = (v, (n : Int), 0) ∧ q = p + n := by
    obtain ⟨f0, f1, hf⟩ := unch_facts (s.data.toList.drop p)
    obtain ⟨a, n, e, hU⟩ : ∃ v n x, unch (s.data.toList.drop p) = (v, n, x) := ⟨_, _, _, rfl⟩
    rw [hU] at hn hf ⊢
    dsimp only at hn hf
    by_cases he : e = 0
    · subst he
      rw [if_pos rfl] at hn
      simp only [Option.some.injEq, Prod.mk.injEq] at hn
      obtain ⟨rfl, rfl⟩ := hn
      rcases hf with ⟨_, hn1, _⟩ | ⟨hx, _⟩
      · exact ⟨n.toNat, by rw [Int.toNat_of_nonneg (by omega)], rfl⟩
      · exact absurd rfl hx
    · rw [if_neg he] at hn; cases hn
  obtain ⟨hU, rfl⟩ := hU
  rw [hU] at hu
  replace hu := Lib.hid hu
  have hsl := slice_at s p hp
  have c0 : w.cell? ⟨b, 0, none⟩ = some (.string s) := h.cell 0
  have c1 : w.cell? ⟨b, 1, none⟩ = some (.int .i64 (p : Int)) := h.cell 1
  have z1 := h.frozen 1
  have hw : IntKind.i64.wrap ((p : Int) + (n : Int)) = ((p + n : Nat) : Int) := by rw [IntWalk.i64_in _ (by omega)]; omega
  have hk := Kept.refl (fun r => r = b) w
  replace h := Lib.hid h
  replace hk := Lib.hid hk
  clear hn hU a1 a2 hz
  go_enter Tryz.func120, Tryz.ntmps120
  go_wp2_with fail
  go_quiet (first | (go_at_call 105; exact Calls.quiet_of_same ((hu.out _).mono fun e w' ⟨x1, x2⟩ => ⟨x1, x2.symm⟩)))
  go_wp2_with fail
  go_ret
  refine ⟨rfl, ?_, ?_⟩
  · exact (h.out.drewN nq).store 1 [.int .i64 ((p + n : Nat) : Int)] (by simp)
  · exact (hk.out.drewN nq).setCell (.inl rfl) _ _

set_option maxRecDepth 100000 in
set_option maxHeartbeats 4000000 in
theorem dnum_no (b : Nat) (s : ByteArray) (p : Nat) (w : World) (h : Whole w b 195 (drL s p)) (hs : s.size ≤ 100000) (hp : p ≤ s.size) (hn : chAt s.data.toList p = none) :
    Calls Tryz.prog 120 #[.pointer (some ⟨b, 0, none⟩)] w fun e w' => e = .returned (.int .i64 (-1)) ∧ Whole w' b 195 (drL s p) ∧ Kept (fun r => r = b) w w' := by
  have hz : (s.extract p s.size).size ≤ 1099511627776 := by rw [ByteArray.size_extract]; omega
  have hu := fun W => unchain_any (s.extract p s.size) W hz
  rw [ext_drop] at hu
  unfold chAt at hn
  obtain ⟨v, n, x, hU⟩ : ∃ v n x, unch (s.data.toList.drop p) = (v, n, x) := ⟨_, _, _, rfl⟩
  rw [hU] at hn hu
  dsimp only at hn
  have hx : x ≠ 0 := fun e => by rw [if_pos e] at hn; cases hn
  have hxb : (x == 0) = false := by simpa using hx
  have hxc : (x != 0) = true := by simpa using hx
  replace hu := Lib.hid hu
  have hsl := slice_at s p hp
  have c0 : w.cell? ⟨b, 0, none⟩ = some (.string s) := h.cell 0
  have c1 : w.cell? ⟨b, 1, none⟩ = some (.int .i64 (p : Int)) := h.cell 1
  have hk := Kept.refl (fun r => r = b) w
  replace h := Lib.hid h
  replace hk := Lib.hid hk
  clear hn hU hz hx
  go_enter Tryz.func120, Tryz.ntmps120
  go_wp2_with fail
  go_quiet (first | (go_at_call 105; exact Calls.quiet_of_same ((hu.out _).mono fun e w' ⟨x1, x2⟩ => ⟨x1, x2.symm⟩)))
  go_wp2_with fail
  go_ret
  exact ⟨rfl, h.out.drewN nq, hk.out.drewN nq⟩
theorem dnum_any (b : Nat) (s : ByteArray) (p q : Nat) (a : Int) (w : World) (h : Whole w b 195 (drL s p)) (hs : s.size ≤ 100000) (hp : p ≤ s.size) (hn : numD s.data.toList p = (a, q)) :
    Calls Tryz.prog 120 #[.pointer (some ⟨b, 0, none⟩)] w fun e w' => e = .returned (.int .i64 a) ∧ Whole w' b 195 (drL s q) ∧ Kept (fun r => r = b) w w' := by
  unfold numD at hn
  cases hc : chAt s.data.toList p with
  | none =>
    rw [hc] at hn
    cases hn
    exact dnum_no b s p w h hs hp hc
  | some u =>
    obtain ⟨v, q'⟩ := u
    rw [hc] at hn
    cases hn
    exact dnum_yes b s p q v w h hs hp hc
end Go.Proofs.YtgogackkeodciaaGreat.W
end
section
namespace Go.Proofs.YtgogackkeodciaaGreat.W
open Go.RowKit Go.Sort
open Go.Proofs.YtgogackkeodciaaGreat.M Go.Proofs.YtgogackkeodciaaGreat.D Go.Proofs.YtgogackkeodciaaGreat.Z
set_option linter.unusedVariables false
set_option linter.unusedSimpArgs false

theorem numD_most (l : List UInt8) (p : Nat) : (numD l p).1 ≤ 9223372036854775807 := by
  unfold numD
  cases chAt l p with
  | none => dsimp only; omega
  | some u => dsimp only; unfold wrap64; omega
/-- How many there are, as the program reads it. -/
theorem decT_prog {l : List UInt8} (h : 0 ≤ (numD l 0).1) : decT l = decS l (numD l 0).2 (numD l 0).1.toNat := by
  have hle := (numD_le (l := l) (p := 0) (Nat.zero_le _)).2
  unfold decT
  cases hn : numR l 0 with
  | none =>
    have := numD_out hn (Nat.zero_le _)
    dsimp only
    rw [decS_many hle (by omega)]
  | some u =>
    obtain ⟨v, q⟩ := u
    obtain ⟨e, _⟩ := numD_in hn (Nat.zero_le _)
    rw [e] at hle ⊢
    dsimp only at hle ⊢
    by_cases h16 : 16 < v
    · rw [if_pos h16, decS_many hle (by omega)]
    · rw [if_neg h16]
theorem decT_neg {l : List UInt8} (h : (numD l 0).1 < 0) : decT l = none := by
  unfold decT
  cases hn : numR l 0 with
  | none => rfl
  | some u =>
    obtain ⟨v, q⟩ := u
    obtain ⟨e, _, _, h0, _⟩ := numD_in hn (Nat.zero_le _)
    rw [e] at h
    dsimp only at h
    omega

/-- What lies there between two rows. -/
def DecAt (w wr : World) (tb rb : Nat) (s : ByteArray) (t : List La) (p : Nat) : Prop := Tb w.heap.size wr tb t ∧ Whole wr rb 195 (drL s p) ∧ Below w.heap.size w wr ∧ w.heap.size ≤ rb
theorem DecAt.below {w a b : World} {tb rb : Nat} {s : ByteArray} {t : List La} {p : Nat} (h : DecAt w a tb rb s t p) (hb : Below a.heap.size a b) : DecAt w b tb rb s t p :=
  ⟨h.1.below hb, h.2.1.below hb h.2.1.lt, h.2.2.1.trans (hb.mono h.2.2.1.size), h.2.2.2⟩
theorem DecAt.num {w wr w' : World} {tb rb : Nat} {s : ByteArray} {t : List La} {p q : Nat} (h : DecAt w wr tb rb s t p) (hr : Whole w' rb 195 (drL s q)) (hk : Kept (fun r => r = rb) wr w') : DecAt w w' tb rb s t q := by
  obtain ⟨⟨m, ht⟩, h2, h3, h4⟩ := h
  have hno := ht.ne h2 (by decide)
  refine ⟨⟨m, ht.box.of_kept hk (fun e => hno (.inl e.symm)), ?_, ht.new, ht.newM⟩, hr, h3.trans (hk.below h3.size (fun k e => by rw [e]; exact h4)), h4⟩
  rcases ht.map with e | ⟨mb, e, ho⟩
  · exact .inl e
  · refine .inr ⟨mb, e, ?_⟩
    obtain ⟨es, clock, hb, F, hs, hD⟩ := ho
    exact ⟨es, clock, (hk.block mb (Array.getElem?_eq_some_iff.1 hb).1 (fun e2 => hno (.inr (by rw [e, e2])))).trans hb, F, hs, hD⟩
theorem dnote_yes {w wr : World} {tb rb : Nat} {s : ByteArray} {t : List La} {p : Nat} (x : La) (h : DecAt w wr tb rb s t p) (hok : TabOk t) (hx : noteE t x = 0) :
    Calls Tryz.prog 121 #[.pointer (some ⟨tb, 0, none⟩), .int .i64 x.p, .int .i64 x.s, .int .i64 x.n, .int .i64 x.o] wr fun e w' => e = .returned (.int .i64 0) ∧ DecAt w w' tb rb s (noteL t x) p := by
  obtain ⟨⟨m, ht⟩, h2, h3, h4⟩ := h
  refine (note_yes tb m t x wr ht h3.size hok hx).mono ?_
  rintro e w' ⟨r1, r2, r3⟩
  exact ⟨r1, r2, h2.of_kept r3 (ht.ne h2 (by decide)), h3.trans (r3.below h3.size (fun k hk => by
    rcases hk with e | e
    · rw [e]; exact ht.new
    · exact ht.newM k e)), h4⟩
/-- What Decode leaves. -/
def DecPost (w : World) (s : ByteArray) (e : Ending) (w' : World) : Prop :=
  (decT s.data.toList = none ∧ e = .returned (.tuple #[.pointer none, .int .i64 0, .int .i64 4]) ∧ Below w.heap.size w w') ∨
  (∃ t p tb, decT s.data.toList = some (t, p) ∧ e = .returned (.tuple #[.pointer (some ⟨tb, 0, none⟩), .int .i64 (p : Nat), .int .i64 0]) ∧ Tb w.heap.size w' tb t ∧ Below w.heap.size w w')
set_option maxRecDepth 100000 in
set_option maxHeartbeats 8000000 in
theorem ddec_any (s : ByteArray) (w : World) (hs : s.size ≤ 100000) :
    Calls Tryz.prog 102 #[.string s] w (DecPost w s) := by
  obtain ⟨l, hl⟩ : ∃ l, Hid (s.data.toList = l) := ⟨_, Lib.hid rfl⟩
  have hlen : l.length = s.size := by rw [← hl.out]; simp
  have hnum := fun b p q a W hW hp hn => dnum_any b s p q a W hW hs hp hn
  unfold DecPost
  rw [hl.out] at hnum ⊢
  replace hnum := Lib.hid hnum
  have hnew := Lib.hid (dnew_any w)
  have hbB : w.heap.size ≤ w.heap.size := Nat.le_refl _
  obtain ⟨tb, htb⟩ : ∃ tb, Hid (w.heap.size = tb) := ⟨_, Lib.hid rfl⟩
  obtain ⟨⟨m0, p0⟩, h0⟩ : ∃ u, numD l 0 = u := ⟨_, rfl⟩
  have hp0 := (numD_le (l := l) (p := 0) (Nat.zero_le _)).2
  have hmost := numD_most l 0
  have hneg := decT_neg (l := l)
  have hpos := decT_prog (l := l)
  rw [h0] at hp0 hmost hneg hpos
  dsimp only at hp0 hmost hneg hpos
  replace hneg := Lib.hid hneg
  replace hpos := Lib.hid hpos
  replace h0 := Lib.hid h0
  clear hbB
  go_enter Tryz.func102, Tryz.ntmps102
  go_wp2_with fail
  refine hnew.out.mono ?_
  rintro e w1 ⟨rfl, hT, hb1⟩
  obtain ⟨W1, hW1⟩ : ∃ V, Hid (V = w1.alloc (.cells #[.string s, .int .i64 0] 195)) := ⟨_, Lib.hid rfl⟩
  have hbx : Below w1.heap.size w1 W1 := by rw [hW1.out]; exact grewAlloc (Below.refl _ _) _
  have hD : Hid (DecAt w W1 tb w1.heap.size s [] 0) := Lib.hid ⟨by rw [← htb.out]; exact hT.below hbx, by rw [hW1.out]; exact Whole.new w1 _ _, grew hb1 hbx, hb1.size⟩
  obtain ⟨rb, hrb⟩ : ∃ rb, Hid (w1.heap.size = rb) := ⟨_, Lib.hid rfl⟩
  rw [hrb.out] at hD
  rw [htb.out]
  clear hnew hT hb1 hbx
  go_upto_region 2 with fail
  rw [← show W1 = _ from hW1.out, hrb.out]
  clear hW1 hrb
  go_wp2_with fail
  refine (hnum.out rb 0 p0 m0 W1 hD.out.2.1 (Nat.zero_le _) h0.out).mono ?_
  rintro e w2 ⟨rfl, hr2, hk2⟩
  have hD2 := Lib.hid (hD.out.num hr2 hk2)
  clear hD hr2 hk2
  by_cases hn : m0 < 0
  · go_wp2_with fail
    go_ret3
    exact .inl ⟨hneg.out hn, rfl, hD2.out.2.2.1⟩
  obtain ⟨M, rfl⟩ : ∃ M : Nat, m0 = (M : Int) := ⟨m0.toNat, by omega⟩
  have hdT := hpos.out (by omega)
  rw [Int.toNat_natCast] at hdT
  replace hdT := Lib.hid hdT
  clear hneg hpos
  go_wp2_with fail
  go_loopg [8, 20] M (fun ga av i wr => ∃ (k : Nat) (t : List La) (p : Nat), k ≤ M ∧ M ≤ k + ga ∧ i = .int .i64 k ∧ av = .int .i64 (aheadF t) ∧ Hid (decS l p0 k = some (t, p) ∧ DecAt w wr tb rb s t p))
  case atStart => exact ⟨0, [], 0 + p0, by omega, by omega, rfl, rfl, Lib.hid ⟨by rw [Nat.zero_add]; rfl, by rw [Nat.zero_add]; exact hD2.out⟩⟩
  case round =>
    clear hD2
    obtain ⟨k, t, p, hk, hg, rfl, rfl, hrel⟩ := hrel
    generalize wr = wo at *
    obtain ⟨hds, hD⟩ := hrel.out
    clear hrel
    obtain ⟨f1, f2, f3, _, f5⟩ := decS_facts (by omega) hds
    replace hD := Lib.hid hD
    replace hds := Lib.hid hds
    replace f2 := Lib.hid f2
    by_cases hlt : k < M
    · obtain ⟨⟨a, q1⟩, n1⟩ : ∃ u, numD l p = u := ⟨_, rfl⟩
      have g1 := (numD_le f3).2
      rw [n1] at g1
      obtain ⟨⟨b, q2⟩, n2⟩ : ∃ u, numD l q1 = u := ⟨_, rfl⟩
      have g2 := (numD_le (show q1 ≤ l.length from g1)).2
      rw [n2] at g2
      obtain ⟨⟨c, q3⟩, n3⟩ : ∃ u, numD l q2 = u := ⟨_, rfl⟩
      have g3 := (numD_le (show q2 ≤ l.length from g2)).2
      rw [n3] at g3
      obtain ⟨⟨d, q4⟩, n4⟩ : ∃ u, numD l q3 = u := ⟨_, rfl⟩
      have g4 := (numD_le (show q3 ≤ l.length from g3)).2
      rw [n4] at g4
      dsimp only at g1 g2 g3 g4
      have hrow : rowD l p = (⟨a, b, c, d⟩, q4) := by
        unfold rowD
        simp only [n1, n2, n3, n4]
      obtain ⟨H, hH⟩ : ∃ H, Hid (aheadF t = H) := ⟨_, Lib.hid rfl⟩
      rw [hH.out]
      have hki : (k : Int) < (M : Int) := by omega
      replace n1 := Lib.hid n1
      replace n2 := Lib.hid n2
      replace n3 := Lib.hid n3
      replace n4 := Lib.hid n4
      replace hrow := Lib.hid hrow
      replace f5 := Lib.hid f5
      go_wp2_with fail
      refine (hnum.out rb p q1 a wo hD.out.2.1 (by omega) n1.out).mono ?_
      rintro e w3 ⟨rfl, hr, hkk⟩
      have hD3 := Lib.hid (hD.out.num hr hkk)
      clear hr hkk hD
      go_wp2_with fail
      refine (hnum.out rb q1 q2 b w3 hD3.out.2.1 (by omega) n2.out).mono ?_
      rintro e w4 ⟨rfl, hr, hkk⟩
      have hD4 := Lib.hid (hD3.out.num hr hkk)
      clear hr hkk hD3
      go_wp2_with fail
      refine (hnum.out rb q2 q3 c w4 hD4.out.2.1 (by omega) n3.out).mono ?_
      rintro e w5 ⟨rfl, hr, hkk⟩
      have hD5 := Lib.hid (hD4.out.num hr hkk)
      clear hr hkk hD4
      go_wp2_with fail
      refine (hnum.out rb q3 q4 d w5 hD5.out.2.1 (by omega) n4.out).mono ?_
      rintro e w6 ⟨rfl, hr, hkk⟩
      have hD6 := Lib.hid (hD5.out.num hr hkk)
      clear hr hkk hD5 n1 n2 n3 n4
      cases hst : stepD l (t, p) with
      | none =>
        have hno := step_no hst f3
        rw [hrow.out, hH.out] at hno
        dsimp only at hno
        have hdn : decT l = none := by
          rw [hdT.out]
          refine decS_down (show k + 1 ≤ M by omega) ?_
          unfold decS
          rw [hds.out]
          exact hst
        replace hdn := Lib.hid hdn
        replace hst := Lib.hid hst
        clear hdT hds hrow
        by_cases c1 : a ≤ H
        · go_wp2_with fail
          go_ret3
          exact .inl ⟨hdn.out, rfl, hD6.out.2.2.1⟩
        · have hno2 : noteE t ⟨a, b, c, d⟩ ≠ 0 := hno.resolve_left c1
          have c1' : H < a := by omega
          have hnt := note_no tb t ⟨a, b, c, d⟩ w6 hD6.out.1 f2.out hno2
          obtain ⟨er, her⟩ : ∃ e, Hid (noteE t ⟨a, b, c, d⟩ = e) := ⟨_, Lib.hid rfl⟩
          rw [her.out] at hnt hno2
          have er2 : (er == 0) = false := by simpa using hno2
          have er3 : (er != 0) = true := by simpa using hno2
          replace hnt := Lib.hid hnt
          replace hno2 := Lib.hid hno2
          clear hno
          go_wp2_with fail
          refine hnt.out.mono ?_
          rintro e w7 ⟨rfl, hb7⟩
          have hD7 := Lib.hid (hD6.out.below hb7)
          clear hnt hb7 hD6
          go_wp2_with fail
          go_ret3
          exact .inl ⟨hdn.out, rfl, hD7.out.2.2.1⟩
      | some u =>
        obtain ⟨t2, q⟩ := u
        obtain ⟨x, _, y1, y2, y3, y4, y5⟩ := step_yes hst f3 f5.out
        rw [hrow.out] at y1
        cases y1
        rw [hH.out] at y2
        dsimp only at y2
        have c1 : ¬ a ≤ H := by omega
        have hds2 : decS l p0 (k + 1) = some (t2, q4) := by
          unfold decS
          rw [hds.out]
          exact hst
        have hnt := Lib.hid (dnote_yes ⟨a, b, c, d⟩ hD6.out f2.out y3)
        rw [y4] at hnt
        replace hds2 := Lib.hid hds2
        replace hst := Lib.hid hst
        replace y3 := Lib.hid y3
        replace y4 := Lib.hid y4
        replace y5 := Lib.hid y5
        clear hds hrow hD6
        go_wp2_with fail
        refine hnt.out.mono ?_
        rintro e w7 ⟨rfl, hD7⟩
        replace hD7 := Lib.hid hD7
        clear hnt
        go_wp2_with fail
        go_roundg (gk - 1)
        case measure => omega
        case rel => exact ⟨k + 1, t2, q4, by omega, by omega, by go_num, by rw [y5.out], Lib.hid ⟨hds2.out, hD7.out⟩⟩
    · obtain rfl : k = M := by omega
      have hfin : Hid (decT l = some (t, p)) := Lib.hid (hdT.out.trans hds.out)
      have y0 : wo.cell? ⟨rb, 0, none⟩ = some (.string s) := hD.out.2.1.cell 0
      have y1 : wo.cell? ⟨rb, 1, none⟩ = some (.int .i64 (p : Int)) := hD.out.2.1.cell 1
      clear hdT hds
      go_wp2_with fail
      go_quiet (fail)
      go_wp2_with fail
      go_ret3
      have hbz : Below wo.heap.size wo (wo.drewN nq) := ((Kept.refl (fun _ => False) wo).drewN nq).below (Nat.le_refl _) (fun _ h => h.elim)
      exact .inr ⟨t, p, tb, hfin.out, rfl, hD.out.1.below hbz, hD.out.2.2.1.trans (hbz.mono hD.out.2.2.1.size)⟩
end Go.Proofs.YtgogackkeodciaaGreat.W
end
