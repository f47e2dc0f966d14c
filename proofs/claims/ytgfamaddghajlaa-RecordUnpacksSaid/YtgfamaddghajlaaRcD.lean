/- Package record's reader: a field that is a yes or no, a text that is not there, a record. -/
import Derived.Test.YtgfamaddghajlaaRcC
import Derived.LoopN
import Derived.Deep.Cut
namespace Go.Proofs.Ytgfamaddghajlaa.W
open Go.RowKit Go.Sort
open Go.Proofs.Ytgfamaddghajlaa.M Go.Proofs.Ytgfamaddghajlaa.D
set_option linter.unusedVariables false
set_option linter.unusedSimpArgs false

set_option maxRecDepth 100000 in
set_option maxHeartbeats 4000000 in
theorem text_no (b : Nat) (s : ByteArray) (p : Nat) (w : World) (h : Whole w b 52 (rdL s p)) (hs : s.size ≤ 100000) (hp : p ≤ s.size) (hn : txAt s p = none) :
    Calls Try.prog 45 #[.pointer (some ⟨b, 0, none⟩)] w fun e w' => e = .panicked faultC ∧ Kept (fun r => r = b) w w' := by
  have hz : (s.extract p s.size).size ≤ 1099511627776 := by rw [ByteArray.size_extract]; omega
  have hu := fun W => untext_any (s.extract p s.size) W hz
  unfold txAt at hn
  obtain ⟨v, n, x, hU⟩ : ∃ v n x, untx (s.extract p s.size) = (v, n, x) := ⟨_, _, _, rfl⟩
  rw [hU] at hn hu
  dsimp only at hn
  have hx : x ≠ 0 := fun e => by rw [if_pos e] at hn; cases hn
  have cu := Lib.hid (Z.regrown_any hu w)
  have hps := fun W => pass_no b n x W hx
  replace hps := Lib.hid hps
  have hsl := slice_from s p hp
  have c0 : w.cell? ⟨b, 0, none⟩ = some (.string s) := h.cell 0
  have c1 : w.cell? ⟨b, 1, none⟩ = some (.int .i64 (p : Int)) := h.cell 1
  have g0 := fun d os => cell_regrown c0 d os
  have g1 := fun d os => cell_regrown c1 d os
  have hk := Kept.refl (fun r => r = b) w
  replace hk := Lib.hid hk
  clear hn hU hz hx hu c0 c1 h
  go_enter Try.func45, Try.ntmps45
  go_wp2_with fail
  refine wp_region_quiet_below (by kernel_rfl) (by kernel_rfl) ?_
  repeat (go_big_quiet_step (first | exact cu.out _ _))
  refine wpQuiet_nil ?_
  intro _ hw'
  obtain ⟨⟨dq, osq⟩, hw''⟩ := hw'
  subst hw''
  have hk2 := hk.out.trans (Kept.of_below (own := fun r => r = b) (below_regrown w dq osq))
  clear g0 g1 hk cu
  generalize grow (redrawn w dq) osq = w7 at *
  replace hk2 := Lib.hid hk2
  go_wp2_with fail
  refine (hps.out _).mono ?_
  rintro e w1 ⟨rfl, rfl⟩
  go_wp2_with fail
  exact ⟨rfl, rfl, hk2.out⟩

theorem wrap64_one {g : Int} (h0 : 0 ≤ g) (h1 : g < 18446744073709551616) (h2 : 1 < g) : wrap64 g ≠ 0 ∧ wrap64 g ≠ 1 := by
  unfold wrap64; omega
theorem wrap64_low {g : Int} (h0 : 0 ≤ g) (h1 : g ≤ 9223372036854775807) : wrap64 g = g := by
  unfold wrap64; omega
theorem wrap64_in {v m : Int} (h0 : 0 ≤ v) (h1 : v < 18446744073709551616) (hm : m ≤ 9223372036854775807) : (0 ≤ wrap64 v ∧ wrap64 v ≤ m) ↔ (0 ≤ v ∧ v ≤ m) := by
  unfold wrap64; omega
theorem wrap64_nil {v : Int} (h0 : 0 ≤ v) (h1 : v < 18446744073709551616) : wrap64 v = 0 ↔ v = 0 := by
  unfold wrap64; omega

set_option maxRecDepth 100000 in
theorem rflag_yes (b : Nat) (s : ByteArray) (p q : Nat) (g : Int) (w : World) (h : Whole w b 52 (rdL s p)) (hs : s.size ≤ 100000) (hp : p ≤ s.size) (hn : chAt s.data.toList p = some (g, q)) (hg : g ≤ 1) :
    Calls Try.prog 44 #[.pointer (some ⟨b, 0, none⟩)] w fun e w' => e = .returned (.bool (decide (g = 1))) ∧ RdAt w b s q w' := by
  obtain ⟨_, _, g0, _, _⟩ := chAt_back hn (by simpa using hp)
  have hnu := number_yes b s p q g w h hs hp hn
  have hft := fun W => flag_any true W
  have hff := fun W => flag_any false W
  rw [show goneI true = 1 from rfl] at hft
  rw [show goneI false = 0 from rfl] at hff
  replace hft := Lib.hid hft
  replace hff := Lib.hid hff
  rcases (show g = 0 ∨ g = 1 by omega) with rfl | rfl
  · rw [wrap64_low (by omega) (by omega)] at hnu
    replace hnu := Lib.hid hnu
    clear hn
    go_enter Try.func44, Try.ntmps44
    go_wp2_with fail
    refine hnu.out.mono ?_
    rintro e w1 ⟨rfl, hR⟩
    replace hR := Lib.hid hR
    go_wp2_with fail
    refine (hft.out _).mono ?_
    rintro e w2 ⟨rfl, rfl⟩
    go_wp2_with fail
    refine (hff.out _).mono ?_
    rintro e w2 ⟨rfl, rfl⟩
    go_wp2_with fail
    refine (demand_yes _).mono ?_
    rintro e w2 ⟨rfl, rfl⟩
    go_wp2_with fail
    refine (hft.out _).mono ?_
    rintro e w2 ⟨rfl, rfl⟩
    go_wp2_with fail
    go_ret
    exact ⟨rfl, hR.out⟩
  · rw [wrap64_low (by omega) (by omega)] at hnu
    replace hnu := Lib.hid hnu
    clear hn
    go_enter Try.func44, Try.ntmps44
    go_wp2_with fail
    refine hnu.out.mono ?_
    rintro e w1 ⟨rfl, hR⟩
    replace hR := Lib.hid hR
    go_wp2_with fail
    refine (hft.out _).mono ?_
    rintro e w2 ⟨rfl, rfl⟩
    go_wp2_with fail
    refine (demand_yes _).mono ?_
    rintro e w2 ⟨rfl, rfl⟩
    go_wp2_with fail
    refine (hft.out _).mono ?_
    rintro e w2 ⟨rfl, rfl⟩
    go_wp2_with fail
    go_ret
    exact ⟨rfl, hR.out⟩
theorem rflag_no (b : Nat) (s : ByteArray) (p : Nat) (w : World) (h : Whole w b 52 (rdL s p)) (hs : s.size ≤ 100000) (hp : p ≤ s.size) (hn : chAt s.data.toList p = none) :
    Calls Try.prog 44 #[.pointer (some ⟨b, 0, none⟩)] w fun e w' => e = .panicked faultC ∧ Kept (fun r => r = b) w w' := by
  have hnu := Lib.hid (number_no b s p w h hs hp hn)
  clear hn h
  go_enter Try.func44, Try.ntmps44
  go_wp2_with fail
  refine hnu.out.mono ?_
  rintro e w1 ⟨rfl, hR⟩
  replace hR := Lib.hid hR
  go_wp2_with fail
  exact ⟨rfl, rfl, hR.out⟩
theorem rflag_odd (b : Nat) (s : ByteArray) (p q : Nat) (g : Int) (w : World) (h : Whole w b 52 (rdL s p)) (hs : s.size ≤ 100000) (hp : p ≤ s.size) (hn : chAt s.data.toList p = some (g, q)) (hg : 1 < g) :
    Calls Try.prog 44 #[.pointer (some ⟨b, 0, none⟩)] w fun e w' => e = .panicked faultC ∧ Kept (fun r => r = b) w w' := by
  obtain ⟨_, _, g0, g1, _⟩ := chAt_back hn (by simpa using hp)
  have hnu := number_yes b s p q g w h hs hp hn
  have hft := fun W => flag_any true W
  have hff := fun W => flag_any false W
  rw [show goneI true = 1 from rfl] at hft
  rw [show goneI false = 0 from rfl] at hff
  replace hft := Lib.hid hft
  replace hff := Lib.hid hff
  obtain ⟨n0, n1⟩ := wrap64_one g0 g1 hg
  obtain ⟨G, hG⟩ : ∃ G, Hid (wrap64 g = G) := ⟨_, Lib.hid rfl⟩
  rw [hG.out] at n0 n1 hnu
  have e0 : (G == 0) = false := by simpa using n0
  have e1 : (G == 1) = false := by simpa using n1
  replace hnu := Lib.hid hnu
  clear hn h
  go_enter Try.func44, Try.ntmps44
  go_wp2_with fail
  refine hnu.out.mono ?_
  rintro e w1 ⟨rfl, hR⟩
  have hK := Lib.hid hR.2
  clear hR
  go_wp2_with fail
  refine (hft.out _).mono ?_
  rintro e w2 ⟨rfl, rfl⟩
  go_wp2_with fail
  refine (hff.out _).mono ?_
  rintro e w2 ⟨rfl, rfl⟩
  go_wp2_with fail
  refine (demand_no _).mono ?_
  rintro e w2 ⟨rfl, rfl⟩
  go_wp2_with fail
  exact ⟨rfl, rfl, hK.out⟩

/-- What reading a record comes to. -/
def RecPost (w : World) (b : Nat) (s : ByteArray) (p : Nat) (e : Ending) (w' : World) : Prop :=
  match recAt s p with
  | some (r, q) => e = .returned (rcV r) ∧ RdAt w b s q w'
  | none => e = .panicked faultC ∧ Kept (fun r => r = b) w w'
theorem RecPost.no {w w' : World} {b p : Nat} {s : ByteArray} {e : Ending} (h : recAt s p = none) (he : e = .panicked faultC) (hk : Kept (fun r => r = b) w w') : RecPost w b s p e w' := by
  unfold RecPost; rw [h]; exact ⟨he, hk⟩
theorem RecPost.yes {w w' : World} {b p q : Nat} {s : ByteArray} {e : Ending} {r : Rc} (h : recAt s p = some (r, q)) (he : e = .returned (rcV r)) (hk : RdAt w b s q w') : RecPost w b s p e w' := by
  unfold RecPost; rw [h]; exact ⟨he, hk⟩
theorem ok_wrap {o t c d f : Int} {k v : ByteArray} {g : Bool} (ho : 0 ≤ o ∧ o < 18446744073709551616) (ht : 0 ≤ t ∧ t < 18446744073709551616) (hc : 0 ≤ c ∧ c < 18446744073709551616) (hd : 0 ≤ d ∧ d < 18446744073709551616) (hf : 0 ≤ f ∧ f < 18446744073709551616) :
    (Rc.mk (wrap64 o) (wrap64 t) k v g (wrap64 c) (wrap64 d) (wrap64 f)).ok ↔ (Rc.mk o t k v g c d f).ok := by
  unfold Rc.ok
  simp only [wrap64_in ho.1 ho.2 (show (1048576 : Int) ≤ 9223372036854775807 by omega), wrap64_in ht.1 ht.2 (show (1099511627776 : Int) ≤ 9223372036854775807 by omega), wrap64_in hc.1 hc.2 (show (1099511627776 : Int) ≤ 9223372036854775807 by omega), wrap64_in hd.1 hd.2 (show (1099511627776 : Int) ≤ 9223372036854775807 by omega), wrap64_in hf.1 hf.2 (show (1099511627776 : Int) ≤ 9223372036854775807 by omega), wrap64_nil hc.1 hc.2, wrap64_nil hd.1 hd.2]
theorem same_wrap {o t c d f : Int} {k v : ByteArray} {g : Bool} (h : (Rc.mk o t k v g c d f).ok) : Rc.mk (wrap64 o) (wrap64 t) k v g (wrap64 c) (wrap64 d) (wrap64 f) = Rc.mk o t k v g c d f := by
  obtain ⟨⟨o0, o1⟩, ⟨t0, t1⟩, ⟨p0, p1⟩, ⟨q0, q1⟩, ⟨f0, f1⟩, _⟩ := h
  simp only at o0 o1 t0 t1 p0 p1 q0 q1 f0 f1
  rw [wrap64_low o0 (by omega), wrap64_low t0 (by omega), wrap64_low p0 (by omega), wrap64_low q0 (by omega), wrap64_low f0 (by omega)]

theorem index5p (xb : Nat) (w : World) (a0 a1 a2 a3 a4 : Value) (h0 : a0 = .pointer (some ⟨xb, 0, none⟩)) (h1 : a1 = .pointer (some ⟨xb, 1, none⟩)) (h2 : a2 = .pointer (some ⟨xb, 5, none⟩)) (h3 : a3 = .pointer (some ⟨xb, 6, none⟩)) (h4 : a4 = .pointer (some ⟨xb, 7, none⟩)) :
    (Instr.index 83 (.agg #[a0, a1, a2, a3, a4]) (.int .i64 0)).run Try.prog w = .ok (.pointer (some ⟨xb, 0, none⟩)) w ∧
    (Instr.index 83 (.agg #[a0, a1, a2, a3, a4]) (.int .i64 1)).run Try.prog w = .ok (.pointer (some ⟨xb, 1, none⟩)) w ∧
    (Instr.index 83 (.agg #[a0, a1, a2, a3, a4]) (.int .i64 2)).run Try.prog w = .ok (.pointer (some ⟨xb, 5, none⟩)) w ∧
    (Instr.index 83 (.agg #[a0, a1, a2, a3, a4]) (.int .i64 3)).run Try.prog w = .ok (.pointer (some ⟨xb, 6, none⟩)) w ∧
    (Instr.index 83 (.agg #[a0, a1, a2, a3, a4]) (.int .i64 4)).run Try.prog w = .ok (.pointer (some ⟨xb, 7, none⟩)) w := by
  subst h0 h1 h2 h3 h4
  have hz : ∀ w, (Go.sizeOf 82).run Try.prog w = .ok 1 w := fun w => by kernel_rfl
  have ha : ∀ w, (isAgg 82).run Try.prog w = .ok false w := fun w => by kernel_rfl
  refine ⟨?_, ?_, ?_, ?_, ?_⟩ <;> simp [Instr.index, run_underlying Try.underlying83, asIntOf, hz, ha, go_sem]

set_option maxRecDepth 100000 in
set_option maxHeartbeats 8000000 in
theorem record_any (b : Nat) (s : ByteArray) (p : Nat) (w : World) (h : Whole w b 52 (rdL s p)) (hs : s.size ≤ 100000) (hp : p ≤ s.size) :
    Calls Try.prog 28 #[.pointer (some ⟨b, 0, none⟩)] w fun e w' => RecPost w b s p e w' := by
  have hlen : s.data.toList.length = s.size := by simp
  have hb := h.lt
  obtain ⟨n, hn⟩ : ∃ n, Hid (w.heap.size = n) := ⟨_, Lib.hid rfl⟩
  have hbn : b ≠ n ∧ b ≠ n + 1 := by have := hn.out; omega
  have hR := (Whole.new w 23 [.int .i64 0, .int .i64 0, .string ⟨#[]⟩, .string ⟨#[]⟩, .bool false, .int .i64 0, .int .i64 0, .int .i64 0]).alloc (.cells #[.int .i64 0, .int .i64 0, .string ⟨#[]⟩, .string ⟨#[]⟩, .bool false, .int .i64 0, .int .i64 0, .int .i64 0] 23)
  have hX := Whole.new (w.alloc (.cells #[.int .i64 0, .int .i64 0, .string ⟨#[]⟩, .string ⟨#[]⟩, .bool false, .int .i64 0, .int .i64 0, .int .i64 0] 23)) 23 [.int .i64 0, .int .i64 0, .string ⟨#[]⟩, .string ⟨#[]⟩, .bool false, .int .i64 0, .int .i64 0, .int .i64 0]
  rw [show (w.alloc (.cells #[.int .i64 0, .int .i64 0, .string ⟨#[]⟩, .string ⟨#[]⟩, .bool false, .int .i64 0, .int .i64 0, .int .i64 0] 23)).heap.size = n + 1 by rw [← hn.out]; simp] at hX
  rw [hn.out] at hR
  have hH0 := (h.alloc (.cells #[.int .i64 0, .int .i64 0, .string ⟨#[]⟩, .string ⟨#[]⟩, .bool false, .int .i64 0, .int .i64 0, .int .i64 0] 23)).alloc (.cells #[.int .i64 0, .int .i64 0, .string ⟨#[]⟩, .string ⟨#[]⟩, .bool false, .int .i64 0, .int .i64 0, .int .i64 0] 23)
  have hK0 := ((Kept.refl (fun r => r = b) w).alloc (.cells #[.int .i64 0, .int .i64 0, .string ⟨#[]⟩, .string ⟨#[]⟩, .bool false, .int .i64 0, .int .i64 0, .int .i64 0] 23)).alloc (.cells #[.int .i64 0, .int .i64 0, .string ⟨#[]⟩, .string ⟨#[]⟩, .bool false, .int .i64 0, .int .i64 0, .int .i64 0] 23)
  obtain ⟨W0, hW0⟩ : ∃ W0, Hid (W0 = (w.alloc (.cells #[.int .i64 0, .int .i64 0, .string ⟨#[]⟩, .string ⟨#[]⟩, .bool false, .int .i64 0, .int .i64 0, .int .i64 0] 23)).alloc (.cells #[.int .i64 0, .int .i64 0, .string ⟨#[]⟩, .string ⟨#[]⟩, .bool false, .int .i64 0, .int .i64 0, .int .i64 0] 23)) := ⟨_, Lib.hid rfl⟩
  rw [← hW0.out] at hR hX hH0 hK0
  have hix := fun W => index5p (n + 1) W _ _ _ _ _ rfl rfl rfl rfl rfl
  have x0 := fun W => (hix W).1
  have x1 := fun W => (hix W).2.1
  have x2 := fun W => (hix W).2.2.1
  have x3 := fun W => (hix W).2.2.2.1
  have x4 := fun W => (hix W).2.2.2.2
  replace hR := Lib.hid hR
  replace hX := Lib.hid hX
  replace hK0 := Lib.hid hK0
  replace hH0 := Lib.hid hH0
  replace h := Lib.hid h
  clear hix
  go_enter Try.func28, Try.ntmps28
  go_upto_region 2 with fail
  rw [← show W0 = _ from hW0.out, hn.out]
  clear hW0
  go_wp2_with fail
  refine wp_loop_rounds 6 ?_
  rw [rounds_succ]
  go_wp2_with fail
  rcases e0 : chAt s.data.toList p with _ | ⟨o, p1⟩
  · refine (number_no b s p _ hH0.out hs hp e0).mono ?_
    rintro e w1 ⟨rfl, hk⟩
    have hk1 := Lib.hid (hK0.out.trans hk)
    clear hk hR hX
    go_wp2_with fail
    exact ⟨rfl, RecPost.no (by unfold recAt; simp only [e0, Option.bind_none]) rfl hk1.out⟩
  have b0 := chAt_back e0 (by omega)
  have hp1 : p1 ≤ s.size := by have := b0.2.1; omega
  have y0 := Lib.hid (show 0 ≤ o ∧ o < 18446744073709551616 from ⟨b0.2.2.1, b0.2.2.2.1⟩)
  refine (number_yes b s p p1 o _ hH0.out hs hp e0).mono ?_
  rintro e V0 ⟨rfl, hr, hk⟩
  replace e0 := Lib.hid e0
  have hX1 := hX.out.of_kept hk (Ne.symm hbn.2)
  have hR1 := hR.out.of_kept hk (Ne.symm hbn.1)
  have z := hX1.frozen 0
  have cc : V0.cell? ⟨n + 1, 0, none⟩ = some (.int .i64 0) := hX1.cell 0
  have hXn : Whole (V0.setCell ⟨n + 1, 0, none⟩ (.int .i64 (wrap64 o))) (n + 1) 23 [.int .i64 (wrap64 o), .int .i64 0, .string ⟨#[]⟩, .string ⟨#[]⟩, .bool false, .int .i64 0, .int .i64 0, .int .i64 0] := hX1.store 0 [.int .i64 (wrap64 o)] (by simp)
  have hRn : Whole (V0.setCell ⟨n + 1, 0, none⟩ (.int .i64 (wrap64 o))) n 23 [.int .i64 0, .int .i64 0, .string ⟨#[]⟩, .string ⟨#[]⟩, .bool false, .int .i64 0, .int .i64 0, .int .i64 0] := hR1.far (by omega) 0 [.int .i64 (wrap64 o)]
  have hHn : Whole (V0.setCell ⟨n + 1, 0, none⟩ (.int .i64 (wrap64 o))) b 52 (rdL s p1) := hr.far hbn.2 0 [.int .i64 (wrap64 o)]
  have hKn := (hK0.out.trans hk).setCell (c := n + 1) (.inr (by have := hn.out; omega)) 0 (.int .i64 (wrap64 o))
  clear hX hR hH0 hK0 hX1 hR1 hr hk b0
  have hX := Lib.hid hXn
  have hR := Lib.hid hRn
  have hH1 := Lib.hid hHn
  have hK1 := Lib.hid hKn
  clear hXn hRn hHn hKn
  go_wp2_with fail
  clear z cc
  rw [rounds_succ]
  go_wp2_with fail
  rcases e1 : chAt s.data.toList p1 with _ | ⟨t, p2⟩
  · refine (number_no b s p1 _ hH1.out hs hp1 e1).mono ?_
    rintro e w1 ⟨rfl, hk⟩
    have hk1 := Lib.hid (hK1.out.trans hk)
    clear hk hR hX
    go_wp2_with fail
    exact ⟨rfl, RecPost.no (by unfold recAt; simp only [e0.out, Option.bind_some, e1, Option.bind_none]) rfl hk1.out⟩
  have b1 := chAt_back e1 (by omega)
  have hp2 : p2 ≤ s.size := by have := b1.2.1; omega
  have y1 := Lib.hid (show 0 ≤ t ∧ t < 18446744073709551616 from ⟨b1.2.2.1, b1.2.2.2.1⟩)
  refine (number_yes b s p1 p2 t _ hH1.out hs hp1 e1).mono ?_
  rintro e V1 ⟨rfl, hr, hk⟩
  replace e1 := Lib.hid e1
  have hX1 := hX.out.of_kept hk (Ne.symm hbn.2)
  have hR1 := hR.out.of_kept hk (Ne.symm hbn.1)
  have z := hX1.frozen 1
  have cc : V1.cell? ⟨n + 1, 1, none⟩ = some (.int .i64 0) := hX1.cell 1
  have hXn : Whole (V1.setCell ⟨n + 1, 1, none⟩ (.int .i64 (wrap64 t))) (n + 1) 23 [.int .i64 (wrap64 o), .int .i64 (wrap64 t), .string ⟨#[]⟩, .string ⟨#[]⟩, .bool false, .int .i64 0, .int .i64 0, .int .i64 0] := hX1.store 1 [.int .i64 (wrap64 t)] (by simp)
  have hRn : Whole (V1.setCell ⟨n + 1, 1, none⟩ (.int .i64 (wrap64 t))) n 23 [.int .i64 0, .int .i64 0, .string ⟨#[]⟩, .string ⟨#[]⟩, .bool false, .int .i64 0, .int .i64 0, .int .i64 0] := hR1.far (by omega) 1 [.int .i64 (wrap64 t)]
  have hHn : Whole (V1.setCell ⟨n + 1, 1, none⟩ (.int .i64 (wrap64 t))) b 52 (rdL s p2) := hr.far hbn.2 1 [.int .i64 (wrap64 t)]
  have hKn := (hK1.out.trans hk).setCell (c := n + 1) (.inr (by have := hn.out; omega)) 1 (.int .i64 (wrap64 t))
  clear hX hR hH1 hK1 hX1 hR1 hr hk b1
  have hX := Lib.hid hXn
  have hR := Lib.hid hRn
  have hH2 := Lib.hid hHn
  have hK2 := Lib.hid hKn
  clear hXn hRn hHn hKn
  go_wp2_with fail
  clear z cc
  rw [rounds_succ]
  go_wp2_with fail
  rcases e2 : chAt s.data.toList p2 with _ | ⟨c, p3⟩
  · refine (number_no b s p2 _ hH2.out hs hp2 e2).mono ?_
    rintro e w1 ⟨rfl, hk⟩
    have hk1 := Lib.hid (hK2.out.trans hk)
    clear hk hR hX
    go_wp2_with fail
    exact ⟨rfl, RecPost.no (by unfold recAt; simp only [e0.out, Option.bind_some, e1.out, Option.bind_some, e2, Option.bind_none]) rfl hk1.out⟩
  have b2 := chAt_back e2 (by omega)
  have hp3 : p3 ≤ s.size := by have := b2.2.1; omega
  have y2 := Lib.hid (show 0 ≤ c ∧ c < 18446744073709551616 from ⟨b2.2.2.1, b2.2.2.2.1⟩)
  refine (number_yes b s p2 p3 c _ hH2.out hs hp2 e2).mono ?_
  rintro e V2 ⟨rfl, hr, hk⟩
  replace e2 := Lib.hid e2
  have hX1 := hX.out.of_kept hk (Ne.symm hbn.2)
  have hR1 := hR.out.of_kept hk (Ne.symm hbn.1)
  have z := hX1.frozen 5
  have cc : V2.cell? ⟨n + 1, 5, none⟩ = some (.int .i64 0) := hX1.cell 5
  have hXn : Whole (V2.setCell ⟨n + 1, 5, none⟩ (.int .i64 (wrap64 c))) (n + 1) 23 [.int .i64 (wrap64 o), .int .i64 (wrap64 t), .string ⟨#[]⟩, .string ⟨#[]⟩, .bool false, .int .i64 (wrap64 c), .int .i64 0, .int .i64 0] := hX1.store 5 [.int .i64 (wrap64 c)] (by simp)
  have hRn : Whole (V2.setCell ⟨n + 1, 5, none⟩ (.int .i64 (wrap64 c))) n 23 [.int .i64 0, .int .i64 0, .string ⟨#[]⟩, .string ⟨#[]⟩, .bool false, .int .i64 0, .int .i64 0, .int .i64 0] := hR1.far (by omega) 5 [.int .i64 (wrap64 c)]
  have hHn : Whole (V2.setCell ⟨n + 1, 5, none⟩ (.int .i64 (wrap64 c))) b 52 (rdL s p3) := hr.far hbn.2 5 [.int .i64 (wrap64 c)]
  have hKn := (hK2.out.trans hk).setCell (c := n + 1) (.inr (by have := hn.out; omega)) 5 (.int .i64 (wrap64 c))
  clear hX hR hH2 hK2 hX1 hR1 hr hk b2
  have hX := Lib.hid hXn
  have hR := Lib.hid hRn
  have hH3 := Lib.hid hHn
  have hK3 := Lib.hid hKn
  clear hXn hRn hHn hKn
  go_wp2_with fail
  clear z cc
  rw [rounds_succ]
  go_wp2_with fail
  rcases e3 : chAt s.data.toList p3 with _ | ⟨d, p4⟩
  · refine (number_no b s p3 _ hH3.out hs hp3 e3).mono ?_
    rintro e w1 ⟨rfl, hk⟩
    have hk1 := Lib.hid (hK3.out.trans hk)
    clear hk hR hX
    go_wp2_with fail
    exact ⟨rfl, RecPost.no (by unfold recAt; simp only [e0.out, Option.bind_some, e1.out, Option.bind_some, e2.out, Option.bind_some, e3, Option.bind_none]) rfl hk1.out⟩
  have b3 := chAt_back e3 (by omega)
  have hp4 : p4 ≤ s.size := by have := b3.2.1; omega
  have y3 := Lib.hid (show 0 ≤ d ∧ d < 18446744073709551616 from ⟨b3.2.2.1, b3.2.2.2.1⟩)
  refine (number_yes b s p3 p4 d _ hH3.out hs hp3 e3).mono ?_
  rintro e V3 ⟨rfl, hr, hk⟩
  replace e3 := Lib.hid e3
  have hX1 := hX.out.of_kept hk (Ne.symm hbn.2)
  have hR1 := hR.out.of_kept hk (Ne.symm hbn.1)
  have z := hX1.frozen 6
  have cc : V3.cell? ⟨n + 1, 6, none⟩ = some (.int .i64 0) := hX1.cell 6
  have hXn : Whole (V3.setCell ⟨n + 1, 6, none⟩ (.int .i64 (wrap64 d))) (n + 1) 23 [.int .i64 (wrap64 o), .int .i64 (wrap64 t), .string ⟨#[]⟩, .string ⟨#[]⟩, .bool false, .int .i64 (wrap64 c), .int .i64 (wrap64 d), .int .i64 0] := hX1.store 6 [.int .i64 (wrap64 d)] (by simp)
  have hRn : Whole (V3.setCell ⟨n + 1, 6, none⟩ (.int .i64 (wrap64 d))) n 23 [.int .i64 0, .int .i64 0, .string ⟨#[]⟩, .string ⟨#[]⟩, .bool false, .int .i64 0, .int .i64 0, .int .i64 0] := hR1.far (by omega) 6 [.int .i64 (wrap64 d)]
  have hHn : Whole (V3.setCell ⟨n + 1, 6, none⟩ (.int .i64 (wrap64 d))) b 52 (rdL s p4) := hr.far hbn.2 6 [.int .i64 (wrap64 d)]
  have hKn := (hK3.out.trans hk).setCell (c := n + 1) (.inr (by have := hn.out; omega)) 6 (.int .i64 (wrap64 d))
  clear hX hR hH3 hK3 hX1 hR1 hr hk b3
  have hX := Lib.hid hXn
  have hR := Lib.hid hRn
  have hH4 := Lib.hid hHn
  have hK4 := Lib.hid hKn
  clear hXn hRn hHn hKn
  go_wp2_with fail
  clear z cc
  rw [rounds_succ]
  go_wp2_with fail
  rcases e4 : chAt s.data.toList p4 with _ | ⟨f, p5⟩
  · refine (number_no b s p4 _ hH4.out hs hp4 e4).mono ?_
    rintro e w1 ⟨rfl, hk⟩
    have hk1 := Lib.hid (hK4.out.trans hk)
    clear hk hR hX
    go_wp2_with fail
    exact ⟨rfl, RecPost.no (by unfold recAt; simp only [e0.out, Option.bind_some, e1.out, Option.bind_some, e2.out, Option.bind_some, e3.out, Option.bind_some, e4, Option.bind_none]) rfl hk1.out⟩
  have b4 := chAt_back e4 (by omega)
  have hp5 : p5 ≤ s.size := by have := b4.2.1; omega
  have y4 := Lib.hid (show 0 ≤ f ∧ f < 18446744073709551616 from ⟨b4.2.2.1, b4.2.2.2.1⟩)
  refine (number_yes b s p4 p5 f _ hH4.out hs hp4 e4).mono ?_
  rintro e V4 ⟨rfl, hr, hk⟩
  replace e4 := Lib.hid e4
  have hX1 := hX.out.of_kept hk (Ne.symm hbn.2)
  have hR1 := hR.out.of_kept hk (Ne.symm hbn.1)
  have z := hX1.frozen 7
  have cc : V4.cell? ⟨n + 1, 7, none⟩ = some (.int .i64 0) := hX1.cell 7
  have hXn : Whole (V4.setCell ⟨n + 1, 7, none⟩ (.int .i64 (wrap64 f))) (n + 1) 23 [.int .i64 (wrap64 o), .int .i64 (wrap64 t), .string ⟨#[]⟩, .string ⟨#[]⟩, .bool false, .int .i64 (wrap64 c), .int .i64 (wrap64 d), .int .i64 (wrap64 f)] := hX1.store 7 [.int .i64 (wrap64 f)] (by simp)
  have hRn : Whole (V4.setCell ⟨n + 1, 7, none⟩ (.int .i64 (wrap64 f))) n 23 [.int .i64 0, .int .i64 0, .string ⟨#[]⟩, .string ⟨#[]⟩, .bool false, .int .i64 0, .int .i64 0, .int .i64 0] := hR1.far (by omega) 7 [.int .i64 (wrap64 f)]
  have hHn : Whole (V4.setCell ⟨n + 1, 7, none⟩ (.int .i64 (wrap64 f))) b 52 (rdL s p5) := hr.far hbn.2 7 [.int .i64 (wrap64 f)]
  have hKn := (hK4.out.trans hk).setCell (c := n + 1) (.inr (by have := hn.out; omega)) 7 (.int .i64 (wrap64 f))
  clear hX hR hH4 hK4 hX1 hR1 hr hk b4
  have hX := Lib.hid hXn
  have hR := Lib.hid hRn
  have hH5 := Lib.hid hHn
  have hK5 := Lib.hid hKn
  clear hXn hRn hHn hKn
  go_wp2_with fail
  clear z cc
  rw [rounds_succ]
  go_wp2_with fail
  rcases e5 : chAt s.data.toList p5 with _ | ⟨g, p6⟩
  · refine (rflag_no b s p5 _ hH5.out hs hp5 e5).mono ?_
    rintro e w1 ⟨rfl, hk⟩
    have hk1 := Lib.hid (hK5.out.trans hk)
    clear hk hR hX
    go_wp2_with fail
    exact ⟨rfl, RecPost.no (by unfold recAt; simp only [e0.out, Option.bind_some, e1.out, Option.bind_some, e2.out, Option.bind_some, e3.out, Option.bind_some, e4.out, Option.bind_some, e5, Option.bind_none]) rfl hk1.out⟩
  by_cases hg : 1 < g
  · refine (rflag_odd b s p5 p6 g _ hH5.out hs hp5 e5 hg).mono ?_
    rintro e w1 ⟨rfl, hk⟩
    have hk1 := Lib.hid (hK5.out.trans hk)
    clear hk hR hX
    go_wp2_with fail
    exact ⟨rfl, RecPost.no (by unfold recAt; simp only [e0.out, Option.bind_some, e1.out, Option.bind_some, e2.out, Option.bind_some, e3.out, Option.bind_some, e4.out, Option.bind_some, e5, Option.bind_some]; rw [if_pos hg]) rfl hk1.out⟩
  have b5 := chAt_back e5 (by omega)
  have hp6 : p6 ≤ s.size := by have := b5.2.1; omega
  refine (rflag_yes b s p5 p6 g _ hH5.out hs hp5 e5 (by omega)).mono ?_
  rintro e V5 ⟨rfl, hr, hk⟩
  replace e5 := Lib.hid e5
  replace hg := Lib.hid hg
  have hX1 := hX.out.of_kept hk (Ne.symm hbn.2)
  have hR1 := hR.out.of_kept hk (Ne.symm hbn.1)
  have z := hX1.frozen 4
  have cc : V5.cell? ⟨n + 1, 4, none⟩ = some (.bool false) := hX1.cell 4
  have hXn : Whole (V5.setCell ⟨n + 1, 4, none⟩ (.bool (decide (g = 1)))) (n + 1) 23 [.int .i64 (wrap64 o), .int .i64 (wrap64 t), .string ⟨#[]⟩, .string ⟨#[]⟩, .bool (decide (g = 1)), .int .i64 (wrap64 c), .int .i64 (wrap64 d), .int .i64 (wrap64 f)] := hX1.store 4 [.bool (decide (g = 1))] (by simp)
  have hRn : Whole (V5.setCell ⟨n + 1, 4, none⟩ (.bool (decide (g = 1)))) n 23 [.int .i64 0, .int .i64 0, .string ⟨#[]⟩, .string ⟨#[]⟩, .bool false, .int .i64 0, .int .i64 0, .int .i64 0] := hR1.far (by omega) 4 [.bool (decide (g = 1))]
  have hHn : Whole (V5.setCell ⟨n + 1, 4, none⟩ (.bool (decide (g = 1)))) b 52 (rdL s p6) := hr.far hbn.2 4 [.bool (decide (g = 1))]
  have hKn := (hK5.out.trans hk).setCell (c := n + 1) (.inr (by have := hn.out; omega)) 4 (.bool (decide (g = 1)))
  clear hX hR hH5 hK5 hX1 hR1 hr hk
  have hX := Lib.hid hXn
  have hR := Lib.hid hRn
  have hH6 := Lib.hid hHn
  have hK6 := Lib.hid hKn
  clear hXn hRn hHn hKn
  go_wp2_with fail
  clear z cc
  rcases e6 : txAt s p6 with _ | ⟨k, p7⟩
  · refine (text_no b s p6 _ hH6.out hs hp6 e6).mono ?_
    rintro e w1 ⟨rfl, hk⟩
    have hk1 := Lib.hid (hK6.out.trans hk)
    clear hk hR hX
    go_wp2_with fail
    exact ⟨rfl, RecPost.no (by unfold recAt; simp only [e0.out, Option.bind_some, e1.out, Option.bind_some, e2.out, Option.bind_some, e3.out, Option.bind_some, e4.out, Option.bind_some, e5.out, Option.bind_some, Option.bind_some]; rw [if_neg (show ¬ 1 < g by have := hg.out; omega)]; simp only [e6, Option.bind_none]) rfl hk1.out⟩
  have hp7 : p7 ≤ s.size := (txAt_back e6 hp6).2.1
  refine (text_yes b s p6 p7 k _ hH6.out hs hp6 e6).mono ?_
  rintro e V6 ⟨rfl, hr, hk⟩
  replace e6 := Lib.hid e6
  have hX1 := hX.out.of_kept hk (Ne.symm hbn.2)
  have hR1 := hR.out.of_kept hk (Ne.symm hbn.1)
  have z := hX1.frozen 2
  have cc : V6.cell? ⟨n + 1, 2, none⟩ = some (.string ⟨#[]⟩) := hX1.cell 2
  have hXn : Whole (V6.setCell ⟨n + 1, 2, none⟩ (.string k)) (n + 1) 23 [.int .i64 (wrap64 o), .int .i64 (wrap64 t), .string k, .string ⟨#[]⟩, .bool (decide (g = 1)), .int .i64 (wrap64 c), .int .i64 (wrap64 d), .int .i64 (wrap64 f)] := hX1.store 2 [.string k] (by simp)
  have hRn : Whole (V6.setCell ⟨n + 1, 2, none⟩ (.string k)) n 23 [.int .i64 0, .int .i64 0, .string ⟨#[]⟩, .string ⟨#[]⟩, .bool false, .int .i64 0, .int .i64 0, .int .i64 0] := hR1.far (by omega) 2 [.string k]
  have hHn : Whole (V6.setCell ⟨n + 1, 2, none⟩ (.string k)) b 52 (rdL s p7) := hr.far hbn.2 2 [.string k]
  have hKn := (hK6.out.trans hk).setCell (c := n + 1) (.inr (by have := hn.out; omega)) 2 (.string k)
  clear hX hR hH6 hK6 hX1 hR1 hr hk
  have hX := Lib.hid hXn
  have hR := Lib.hid hRn
  have hH7 := Lib.hid hHn
  have hK7 := Lib.hid hKn
  clear hXn hRn hHn hKn
  go_wp2_with fail
  clear z cc
  rcases e7 : txAt s p7 with _ | ⟨v, p8⟩
  · refine (text_no b s p7 _ hH7.out hs hp7 e7).mono ?_
    rintro e w1 ⟨rfl, hk⟩
    have hk1 := Lib.hid (hK7.out.trans hk)
    clear hk hR hX
    go_wp2_with fail
    exact ⟨rfl, RecPost.no (by unfold recAt; simp only [e0.out, Option.bind_some, e1.out, Option.bind_some, e2.out, Option.bind_some, e3.out, Option.bind_some, e4.out, Option.bind_some, e5.out, Option.bind_some, Option.bind_some]; rw [if_neg (show ¬ 1 < g by have := hg.out; omega)]; simp only [e6.out, Option.bind_some, e7, Option.bind_none]) rfl hk1.out⟩
  have hp8 : p8 ≤ s.size := (txAt_back e7 hp7).2.1
  refine (text_yes b s p7 p8 v _ hH7.out hs hp7 e7).mono ?_
  rintro e V7 ⟨rfl, hr, hk⟩
  replace e7 := Lib.hid e7
  have hX1 := hX.out.of_kept hk (Ne.symm hbn.2)
  have hR1 := hR.out.of_kept hk (Ne.symm hbn.1)
  have z := hX1.frozen 3
  have cc : V7.cell? ⟨n + 1, 3, none⟩ = some (.string ⟨#[]⟩) := hX1.cell 3
  have hXn : Whole (V7.setCell ⟨n + 1, 3, none⟩ (.string v)) (n + 1) 23 [.int .i64 (wrap64 o), .int .i64 (wrap64 t), .string k, .string v, .bool (decide (g = 1)), .int .i64 (wrap64 c), .int .i64 (wrap64 d), .int .i64 (wrap64 f)] := hX1.store 3 [.string v] (by simp)
  have hRn : Whole (V7.setCell ⟨n + 1, 3, none⟩ (.string v)) n 23 [.int .i64 0, .int .i64 0, .string ⟨#[]⟩, .string ⟨#[]⟩, .bool false, .int .i64 0, .int .i64 0, .int .i64 0] := hR1.far (by omega) 3 [.string v]
  have hHn : Whole (V7.setCell ⟨n + 1, 3, none⟩ (.string v)) b 52 (rdL s p8) := hr.far hbn.2 3 [.string v]
  have hKn := (hK7.out.trans hk).setCell (c := n + 1) (.inr (by have := hn.out; omega)) 3 (.string v)
  clear hX hR hH7 hK7 hX1 hR1 hr hk
  have hX := Lib.hid hXn
  have hR := Lib.hid hRn
  have hH8 := Lib.hid hHn
  have hK8 := Lib.hid hKn
  clear hXn hRn hHn hKn
  obtain ⟨c0, c1, c2, c3, c4, c5, c6, c7⟩ := recCells hX.out
  go_wp2_with fail
  clear z cc c0 c1 c2 c3 c4 c5 c6 c7
  have hm := fun W => may_any (wrap64 o) (wrap64 t) k v (decide (g = 1)) (wrap64 c) (wrap64 d) (wrap64 f) W
  have hiff := ok_wrap (k := k) (v := v) (g := decide (g = 1)) y0.out y1.out y2.out y3.out y4.out
  by_cases hok : (Rc.mk o t k v (decide (g = 1)) c d f).ok
  · have hsame := same_wrap hok
    rw [show (Rc.mk (wrap64 o) (wrap64 t) k v (decide (g = 1)) (wrap64 c) (wrap64 d) (wrap64 f)).may = true from decide_eq_true (hiff.2 hok)] at hm
    have hrec : recAt s p = some (Rc.mk o t k v (decide (g = 1)) c d f, p8) := by
      unfold recAt; simp only [e0.out, Option.bind_some, e1.out, Option.bind_some, e2.out, Option.bind_some, e3.out, Option.bind_some, e4.out, Option.bind_some, e5.out, Option.bind_some, Option.bind_some]; rw [if_neg (show ¬ 1 < g by have := hg.out; omega)]; simp only [e6.out, Option.bind_some, e7.out, Option.bind_some, Option.bind_some]; rw [if_pos hok]
    have hval : rcV (Rc.mk o t k v (decide (g = 1)) c d f) = .agg #[.int .i64 (wrap64 o), .int .i64 (wrap64 t), .string k, .string v, .bool (decide (g = 1)), .int .i64 (wrap64 c), .int .i64 (wrap64 d), .int .i64 (wrap64 f)] := by rw [← hsame]
    replace hm := Lib.hid hm
    replace hrec := Lib.hid hrec
    replace hval := Lib.hid hval
    clear hok hsame hiff
    refine (hm.out _).mono ?_
    rintro e w2 ⟨rfl, hb2⟩
    go_wp2_with fail
    refine (demand_yes _).mono ?_
    rintro e w3 ⟨rfl, rfl⟩
    have hX3 := hX.out.below hb2 hX.out.lt
    have hR3 := hR.out.below hb2 hR.out.lt
    have hH3 := hH8.out.below hb2 hH8.out.lt
    have hK3 := hK8.out.trans (Kept.of_below (own := fun r => r = b) hb2)
    obtain ⟨c0, c1, c2, c3, c4, c5, c6, c7⟩ := recCells hX3
    obtain ⟨d0, d1, d2, d3, d4, d5, d6, d7⟩ := recCells hR3
    have z0 := hR3.frozen 0
    have z1 := hR3.frozen 1
    have z2 := hR3.frozen 2
    have z3 := hR3.frozen 3
    have z4 := hR3.frozen 4
    have z5 := hR3.frozen 5
    have z6 := hR3.frozen 6
    have z7 := hR3.frozen 7
    have hR4 : Whole (w2.setCells n 0 [.int .i64 (wrap64 o), .int .i64 (wrap64 t), .string k, .string v, .bool (decide (g = 1)), .int .i64 (wrap64 c), .int .i64 (wrap64 d), .int .i64 (wrap64 f)]) n 23 [.int .i64 (wrap64 o), .int .i64 (wrap64 t), .string k, .string v, .bool (decide (g = 1)), .int .i64 (wrap64 c), .int .i64 (wrap64 d), .int .i64 (wrap64 f)] := hR3.store 0 [.int .i64 (wrap64 o), .int .i64 (wrap64 t), .string k, .string v, .bool (decide (g = 1)), .int .i64 (wrap64 c), .int .i64 (wrap64 d), .int .i64 (wrap64 f)] (by simp)
    have hH4 : Whole (w2.setCells n 0 [.int .i64 (wrap64 o), .int .i64 (wrap64 t), .string k, .string v, .bool (decide (g = 1)), .int .i64 (wrap64 c), .int .i64 (wrap64 d), .int .i64 (wrap64 f)]) b 52 (rdL s p8) := hH3.far hbn.1 0 _
    have hK4 := Lib.hid (hK3.setCells (c := n) (.inr (by have := hn.out; omega)) 0 [.int .i64 (wrap64 o), .int .i64 (wrap64 t), .string k, .string v, .bool (decide (g = 1)), .int .i64 (wrap64 c), .int .i64 (wrap64 d), .int .i64 (wrap64 f)])
    obtain ⟨f0, f1, f2, f3, f4, f5, f6, f7⟩ := recCells hR4
    replace hH4 := Lib.hid hH4
    simp only [World.setCells, Nat.zero_add, Nat.reduceAdd] at f0 f1 f2 f3 f4 f5 f6 f7
    clear hX hR hH8 hK8 hb2 hX3 hR3 hH3 hK3 hR4
    go_wp2_with fail
    exact bodyPost_ret (v := .agg #[.int .i64 (wrap64 o), .int .i64 (wrap64 t), .string k, .string v, .bool (decide (g = 1)), .int .i64 (wrap64 c), .int .i64 (wrap64 d), .int .i64 (wrap64 f)]) (by simp [results, Try.results28, go_sem, f0, f1, f2, f3, f4, f5, f6, f7]) rfl (RecPost.yes hrec.out (by rw [hval.out]) ⟨hH4.out, hK4.out⟩)
  · rw [show (Rc.mk (wrap64 o) (wrap64 t) k v (decide (g = 1)) (wrap64 c) (wrap64 d) (wrap64 f)).may = false from decide_eq_false (fun e => hok (hiff.1 e))] at hm
    have hrec : recAt s p = none := by
      unfold recAt; simp only [e0.out, Option.bind_some, e1.out, Option.bind_some, e2.out, Option.bind_some, e3.out, Option.bind_some, e4.out, Option.bind_some, e5.out, Option.bind_some, Option.bind_some]; rw [if_neg (show ¬ 1 < g by have := hg.out; omega)]; simp only [e6.out, Option.bind_some, e7.out, Option.bind_some, Option.bind_some]; rw [if_neg hok]
    replace hm := Lib.hid hm
    replace hrec := Lib.hid hrec
    clear hok hiff
    refine (hm.out _).mono ?_
    rintro e w2 ⟨rfl, hb2⟩
    have hK3 := Lib.hid (hK8.out.trans (Kept.of_below (own := fun r => r = b) hb2))
    clear hX hR hH8 hK8 hb2
    go_wp2_with fail
    refine (demand_no _).mono ?_
    rintro e w3 ⟨rfl, rfl⟩
    go_wp2_with fail
    exact ⟨rfl, RecPost.no hrec.out rfl hK3.out⟩
end Go.Proofs.Ytgfamaddghajlaa.W
