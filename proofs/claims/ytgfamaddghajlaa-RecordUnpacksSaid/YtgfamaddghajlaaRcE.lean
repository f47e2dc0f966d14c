/- Package record's reads (a panic that is recovered), Decode. -/
import Derived.Test.YtgfamaddghajlaaRcD
import Derived.Defers
import Derived.Recover
import Derived.Test.YtgfamaddghajlaaCells
namespace Go.Proofs.Ytgfamaddghajlaa.W
open Go.RowKit Go.Sort
open Go.Proofs.Ytgfamaddghajlaa.M Go.Proofs.Ytgfamaddghajlaa.D
set_option linter.unusedVariables false
set_option linter.unusedSimpArgs false

/-- A chain of one panic, recovered. -/
abbrev caughtC : List PanicEntry := [{ v := .iface 79 (.agg #[]), recovered := true }]
theorem tmps16 : (#[] ++ Array.replicate (Try.f42.ntmps - (#[] : Array Value).size) undef : Array Value) = #[undef, undef, undef, undef, undef, undef, undef, undef, undef, undef, undef, undef, undef, undef, undef, undef] := by kernel_rfl
set_option maxRecDepth 100000 in
set_option maxHeartbeats 4000000 in
theorem catch_idle (w : World) : CallsD Try.prog 42 #[] .returning w fun e u' w' => e = .returned (.tuple #[]) ∧ u' = .returning ∧ Below w.heap.size w w' := by
  refine callsD_of_wpS Try.func42 rfl fun c₀ cs hu => ?_
  have hta : ∀ W, (Instr.typeAssert .nilIface 20 79 true).run Try.prog W = .ok (.tuple #[.agg #[], .bool false]) W := fun W => by kernel_rfl
  rw [tmps16]
  apply wpS_seq
  apply wpS_region
  simp [wpOpsS, go_sem, recoverD, hu, Exit.thenS]
  refine wpS_of_wp ?_
  go_wp2_with fail
  exact ⟨rfl, .returning, by cases c₀; simp_all, .tuple #[], by simp [results, Try.results42, go_sem], rfl, rfl, (Below.refl _ _).alloc (Nat.le_refl _) _⟩
set_option maxRecDepth 100000 in
set_option maxHeartbeats 4000000 in
theorem catch_fault (w : World) : CallsD Try.prog 42 #[] (.panicking faultC) w fun e u' w' => e = .returned (.tuple #[]) ∧ u' = .panicking caughtC ∧ Below w.heap.size w w' := by
  refine callsD_of_wpS Try.func42 rfl fun c₀ cs hu => ?_
  have hta : ∀ W, (Instr.typeAssert (.iface 79 (.agg #[])) 20 79 true).run Try.prog W = .ok (.tuple #[.agg #[], .bool true]) W := fun W => by kernel_rfl
  rw [tmps16]
  apply wpS_seq
  apply wpS_region
  simp [wpOpsS, go_sem, recoverD, hu, Exit.thenS]
  refine wpS_of_wp ?_
  go_wp2_with fail
  exact ⟨rfl, .panicking caughtC, by cases c₀; simp_all, .tuple #[], by simp [results, Try.results42, go_sem], rfl, rfl, (Below.refl _ _).alloc (Nat.le_refl _) _⟩
set_option maxRecDepth 100000 in
set_option maxHeartbeats 4000000 in
/-- What is read, or false. -/
theorem reads_any (g : FuncId) (cap : Array Value) (w : World) (Good Bad : World → Prop) (eg : ∀ args W, (callFunc g args).run Try.prog W = .ok (.enter g args) W)
    (hc : Calls Try.prog g cap w fun e w' => (e = .returned (.tuple #[]) ∧ Good w') ∨ (e = .panicked faultC ∧ Bad w')) :
    Calls Try.prog 26 #[.func (.func g) #[] cap] w fun e w' => (e = .returned (.bool true) ∧ ∃ w1, Good w1 ∧ Below w1.heap.size w1 w') ∨ (e = .returned (.bool false) ∧ ∃ w1, Bad w1 ∧ Below w1.heap.size w1 w') := by
  replace hc := Lib.hid hc
  go_enter_defers Try.func26, Try.ntmps26
  go_wp2_with fail
  refine hc.out.mono ?_
  rintro e w1 (⟨rfl, h1⟩ | ⟨rfl, h1⟩)
  · replace h1 := Lib.hid h1
    go_wp2_with fail
    refine leaves_cons (f := 42) (args := #[]) (by simp) (by simp [go_sem]) ?_
    refine (catch_idle w1).mono ?_
    rintro e u' w2 ⟨rfl, rfl, hb⟩
    exact ⟨.bool true, by simp [results, Try.results26, go_sem], .inl ⟨rfl, w1, h1.out, hb⟩⟩
  · replace h1 := Lib.hid h1
    go_wp2_with fail
    refine leaves_cons (f := 42) (args := #[]) (by simp) (by simp [go_sem]) ?_
    refine (catch_fault w1).mono ?_
    rintro e u' w2 ⟨rfl, rfl, hb⟩
    exact ⟨.bool false, by simp [results, Try.results26, go_sem], .inr ⟨rfl, w1, h1.out, hb⟩⟩

/-- No record. -/
abbrev rc0 : Rc := ⟨0, 0, ⟨#[]⟩, ⟨#[]⟩, false, 0, 0, 0⟩
set_option maxRecDepth 100000 in
set_option maxHeartbeats 4000000 in
theorem one_yes (fb rb : Nat) (s : ByteArray) (r : Rc) (q : Nat) (w : World) (h : Whole w fb 52 (rdL s 0)) (hR : Whole w rb 23 (rcL rc0)) (hne : fb ≠ rb) (hs : s.size ≤ 100000) (hr : recAt s 0 = some (r, q)) :
    Calls Try.prog 27 #[.pointer (some ⟨fb, 0, none⟩), .pointer (some ⟨rb, 0, none⟩)] w fun e w' => e = .returned (.tuple #[]) ∧ (Whole w' fb 52 (rdL s q) ∧ Whole w' rb 23 (rcL r) ∧ Kept (fun k => k = fb ∨ k = rb) w w') := by
  have hra := record_any fb s 0 w h hs (Nat.zero_le _)
  unfold RecPost at hra
  rw [hr] at hra
  dsimp only at hra
  replace hra := Lib.hid hra
  replace hR := Lib.hid hR
  clear h hr
  go_enter Try.func27, Try.ntmps27
  go_wp2_with fail
  refine hra.out.mono ?_
  rintro e w1 ⟨rfl, h1, hk⟩
  have hR1 := hR.out.of_kept hk (Ne.symm hne)
  obtain ⟨c0, c1, c2, c3, c4, c5, c6, c7⟩ := recCells hR1
  have z0 := hR1.frozen 0
  have z1 := hR1.frozen 1
  have z2 := hR1.frozen 2
  have z3 := hR1.frozen 3
  have z4 := hR1.frozen 4
  have z5 := hR1.frozen 5
  have z6 := hR1.frozen 6
  have z7 := hR1.frozen 7
  have hRn : Whole (w1.setCells rb 0 (rcL r)) rb 23 (rcL r) := hR1.store 0 (rcL r) (by simp)
  have h1n : Whole (w1.setCells rb 0 (rcL r)) fb 52 (rdL s q) := h1.far hne 0 _
  have hKn : Kept (fun k => k = fb ∨ k = rb) w (w1.setCells rb 0 (rcL r)) := (hk.mono (own' := fun k => k = fb ∨ k = rb) (fun k _ e => .inl e)).setCells (c := rb) (.inl (.inr rfl)) 0 _
  have hfin := Lib.hid (And.intro h1n (And.intro hRn hKn))
  clear hR hR1 h1 hk hRn h1n hKn hra
  go_wp2_with fail
  go_end0
  exact ⟨rfl, hfin.out⟩
theorem one_no (fb rb : Nat) (s : ByteArray) (w : World) (h : Whole w fb 52 (rdL s 0)) (hs : s.size ≤ 100000) (hr : recAt s 0 = none) :
    Calls Try.prog 27 #[.pointer (some ⟨fb, 0, none⟩), .pointer (some ⟨rb, 0, none⟩)] w fun e w' => e = .panicked faultC ∧ Kept (fun k => k = fb) w w' := by
  have hra := record_any fb s 0 w h hs (Nat.zero_le _)
  unfold RecPost at hra
  rw [hr] at hra
  dsimp only at hra
  replace hra := Lib.hid hra
  clear h hr
  go_enter Try.func27, Try.ntmps27
  go_wp2_with fail
  refine hra.out.mono ?_
  rintro e w1 ⟨rfl, hk⟩
  replace hk := Lib.hid hk
  go_wp2_with fail
  exact ⟨rfl, rfl, hk.out⟩

theorem decClo (args : Array Value) (W : World) : (callFunc 27 args).run Try.prog W = .ok (.enter 27 args) W := by kernel_rfl
set_option maxRecDepth 100000 in
set_option maxHeartbeats 4000000 in
theorem dec_yes (s : ByteArray) (r : Rc) (q : Nat) (w : World) (hs : s.size ≤ 100000) (hr : recAt s 0 = some (r, q)) :
    Calls Try.prog 14 #[.string s] w fun e w' => e = .returned (.tuple #[rcV r, .int .i64 (q : Int), .int .i64 0]) ∧ Below w.heap.size w w' := by
  have hmf : ∀ (fn : Fn) (first cap : Array Value) (w : World), (Instr.makeFunc fn first cap).run Try.prog w = .ok (.func fn first cap) w := fun _ _ _ _ => rfl
  obtain ⟨W, hW, hA, hF, hX, hB⟩ := Z.three_boxes w 23 52 23 (rcL rc0) (rdL s 0) (rcL rc0)
  have hone := one_yes (w.heap.size + 1) (w.heap.size + 1 + 1) s r q W hF hX (by omega) hs hr
  have hrd := reads_any 27 _ W (fun w' => Whole w' (w.heap.size + 1) 52 (rdL s q) ∧ Whole w' (w.heap.size + 1 + 1) 23 (rcL r) ∧ Kept (fun k => k = w.heap.size + 1 ∨ k = w.heap.size + 1 + 1) W w') (fun _ => False) decClo (hone.mono fun e w' h => .inl h)
  replace hrd := Lib.hid hrd
  replace hA := Lib.hid hA
  replace hB := Lib.hid hB
  clear hone hF hX hr
  go_enter Try.func14, Try.ntmps14
  go_upto_region 3 with fail
  rw [← show W = ((w.alloc (.cells #[.int .i64 0, .int .i64 0, .string ⟨#[]⟩, .string ⟨#[]⟩, .bool false, .int .i64 0, .int .i64 0, .int .i64 0] 23)).alloc (.cells #[.string s, .int .i64 0] 52)).alloc (.cells #[.int .i64 0, .int .i64 0, .string ⟨#[]⟩, .string ⟨#[]⟩, .bool false, .int .i64 0, .int .i64 0, .int .i64 0] 23) from hW]
  clear hW
  go_wp2_with fail
  refine hrd.out.mono ?_
  intro e w1 hc
  obtain ⟨rfl, w2, ⟨h1, h2, h3⟩, hb⟩ := hc.resolve_right (fun ⟨_, w2, hf, _⟩ => hf)
  have hA1 := (hA.out.of_kept h3 (by omega)).below hb ((hA.out.of_kept h3 (by omega)).lt)
  have hF1 := h1.below hb h1.lt
  have hX1 := h2.below hb h2.lt
  have hB1 := (hB.out.trans (h3.below (B := w.heap.size) hB.out.size (fun k e => by omega))).trans (hb.mono (Nat.le_trans hB.out.size h3.size))
  obtain ⟨c0, c1, c2, c3, c4, c5, c6, c7⟩ := recCells hX1
  obtain ⟨d0, d1, d2, d3, d4, d5, d6, d7⟩ := recCells hA1
  have f1 : w1.cell? ⟨w.heap.size + 1, 1, none⟩ = some (.int .i64 (q : Int)) := hF1.cell 1
  have z0 := hA1.frozen 0
  have z1 := hA1.frozen 1
  have z2 := hA1.frozen 2
  have z3 := hA1.frozen 3
  have z4 := hA1.frozen 4
  have z5 := hA1.frozen 5
  have z6 := hA1.frozen 6
  have z7 := hA1.frozen 7
  replace hA1 := Lib.hid hA1
  replace hB1 := Lib.hid hB1
  clear hA hB hrd h1 h2 h3 hb hF1 hX1
  have hA2 : Whole (w1.setCells w.heap.size 0 (rcL r)) w.heap.size 23 (rcL r) := hA1.out.store 0 (rcL r) (by simp)
  have hB2 := Lib.hid (Z.below_store hB1.out (Nat.le_refl _) (Nat.le_refl _) 0 (rcL r))
  obtain ⟨e0, e1, e2, e3, e4, e5, e6, e7⟩ := recCells hA2
  simp only [World.setCells, Nat.zero_add, Nat.reduceAdd] at e0 e1 e2 e3 e4 e5 e6 e7
  clear hA1 hB1 hA2 hc
  go_wp2_with fail
  go_region
  go_wp2_with fail
  exact bodyPost_ret (v := .tuple #[rcV r, .int .i64 (q : Int), .int .i64 0]) (by simp [results, Try.results14, go_sem, e0, e1, e2, e3, e4, e5, e6, e7]) rfl ⟨rfl, hB2.out.drew⟩

set_option maxRecDepth 100000 in
set_option maxHeartbeats 4000000 in
theorem dec_no (s : ByteArray) (w : World) (hs : s.size ≤ 100000) (hr : recAt s 0 = none) :
    Calls Try.prog 14 #[.string s] w fun e w' => e = .returned (.tuple #[rcV rc0, .int .i64 0, .int .i64 4]) ∧ Below w.heap.size w w' := by
  have hmf : ∀ (fn : Fn) (first cap : Array Value) (w : World), (Instr.makeFunc fn first cap).run Try.prog w = .ok (.func fn first cap) w := fun _ _ _ _ => rfl
  obtain ⟨W, hW, hA, hF, hX, hB⟩ := Z.three_boxes w 23 52 23 (rcL rc0) (rdL s 0) (rcL rc0)
  have hone := one_no (w.heap.size + 1) (w.heap.size + 1 + 1) s W hF hs hr
  have hrd := reads_any 27 _ W (fun _ => False) (fun w' => Kept (fun k => k = w.heap.size + 1) W w') decClo (hone.mono fun e w' h => .inr h)
  replace hrd := Lib.hid hrd
  replace hA := Lib.hid hA
  replace hB := Lib.hid hB
  clear hone hF hX hr
  go_enter Try.func14, Try.ntmps14
  go_upto_region 3 with fail
  rw [← show W = ((w.alloc (.cells #[.int .i64 0, .int .i64 0, .string ⟨#[]⟩, .string ⟨#[]⟩, .bool false, .int .i64 0, .int .i64 0, .int .i64 0] 23)).alloc (.cells #[.string s, .int .i64 0] 52)).alloc (.cells #[.int .i64 0, .int .i64 0, .string ⟨#[]⟩, .string ⟨#[]⟩, .bool false, .int .i64 0, .int .i64 0, .int .i64 0] 23) from hW]
  clear hW
  go_wp2_with fail
  refine hrd.out.mono ?_
  intro e w1 hc
  obtain ⟨rfl, w2, h3, hb⟩ := hc.resolve_left (fun ⟨_, w2, hf, _⟩ => hf)
  have hA1 := (hA.out.of_kept h3 (by omega)).below hb ((hA.out.of_kept h3 (by omega)).lt)
  have hB1 := (hB.out.trans (h3.below (B := w.heap.size) hB.out.size (fun k e => by omega))).trans (hb.mono (Nat.le_trans hB.out.size h3.size))
  obtain ⟨d0, d1, d2, d3, d4, d5, d6, d7⟩ := recCells hA1
  have z0 := hA1.frozen 0
  have z1 := hA1.frozen 1
  have z2 := hA1.frozen 2
  have z3 := hA1.frozen 3
  have z4 := hA1.frozen 4
  have z5 := hA1.frozen 5
  have z6 := hA1.frozen 6
  have z7 := hA1.frozen 7
  have hA2 : Whole (w1.setCells w.heap.size 0 (rcL rc0)) w.heap.size 23 (rcL rc0) := hA1.store 0 (rcL rc0) (by simp)
  have hB2 := Lib.hid (Z.below_store hB1 (Nat.le_refl _) (Nat.le_refl _) 0 (rcL rc0))
  obtain ⟨e0, e1, e2, e3, e4, e5, e6, e7⟩ := recCells hA2
  simp only [World.setCells, Nat.zero_add, Nat.reduceAdd] at e0 e1 e2 e3 e4 e5 e6 e7
  clear hA hB hrd h3 hb hA1 hB1 hA2 hc
  go_wp2_with fail
  exact bodyPost_ret (v := .tuple #[rcV rc0, .int .i64 0, .int .i64 4]) (by simp [results, Try.results14, go_sem, e0, e1, e2, e3, e4, e5, e6, e7]) rfl ⟨rfl, hB2.out⟩
end Go.Proofs.Ytgfamaddghajlaa.W
