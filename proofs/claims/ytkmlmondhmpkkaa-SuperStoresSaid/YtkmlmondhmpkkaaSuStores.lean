/- The walks of the law SuperStores (written by wip/tools/gensst.py). -/
import Derived.Test.YtkmlmondhmpkkaaProg
import Derived.Test.YtkmlmondhmpkkaaSuStore
import Derived.Test.YtkmlmondhmpkkaaSuThree
namespace Go.Proofs.Ytkmlmondhmpkkaa.W
open Go.RowKit Go.Sort
open Go.Proofs.Ytkmlmondhmpkkaa.M Go.Proofs.Ytkmlmondhmpkkaa.D Go.Proofs.Ytkmlmondhmpkkaa.Z
set_option linter.unusedVariables false

set_option maxRecDepth 100000 in
set_option maxHeartbeats 4000000 in
theorem sstores_done (a b c e f p t b2 c2 e2 f2 : Nat) (q : Int) (ka : Option Addr) (km cap : Nat) (L1 L2 L3 : List (List UInt8)) (ws2 : List (Nat × List UInt8)) (fz st : Int) (gn : Bool) (w : World)
    (l0 : a < 4294967296) (l1 : b < 4294967296) (l2 : c < 4294967296) (l3 : e < 4294967296) (l4 : f < 4294967296) (r0 : t < 4294967296) (r1 : b2 < 4294967296) (r2 : c2 < 4294967296) (r3 : e2 < 4294967296) (r4 : f2 < 4294967296) (ht : a + 1 = t) (hkm : km ≤ 40) (k1 : q < 0)
    (hs1 : ∀ (w0 W : World) (vb d g : Nat), SV w0 vb d g (zeros 6) [] 2 3 (-1) 0 false W → Calls Try.prog 27 #[.pointer (some ⟨vb, 0, none⟩), .agg #[.int .u32 a, .int .u32 b, .int .u32 c, .int .u32 e, .int .u32 f]] W fun r w' => r = .returned (.int .i64 0) ∧ SV w0 vb d g L1 [] 2 3 (-1) 2 false w')
    (hs2 : ∀ (w0 W : World) (vb d g : Nat), SV w0 vb d g L1 [] 2 3 q 2 false W → Calls Try.prog 27 #[.pointer (some ⟨vb, 0, none⟩), .agg #[.int .u32 t, .int .u32 b2, .int .u32 c2, .int .u32 e2, .int .u32 f2]] W fun r w' => r = .returned (.int .i64 0) ∧ SV w0 vb d g L2 ws2 2 3 fz st gn w')
    (hcr : ∀ (w0 W : World) (vb d g : Nat), Below w.heap.size w w0 → SV w0 vb d g L2 ws2 2 3 fz st gn W → Calls Try.prog 29 #[.pointer (some ⟨vb, 0, none⟩), .slice ka km cap] W fun r w' => r = .returned (.int .i64 0) ∧ SV w0 vb d g L3 [] 2 3 (-1) 0 false w')
    (hld : ∀ (w0 W : World) (vb d g : Nat), SV w0 vb d g L3 [] 2 3 (-1) 0 false W → Calls Try.prog 30 #[.pointer (some ⟨vb, 0, none⟩)] W fun r w' => r = .returned (.tuple #[.agg #[.int .u32 t, .int .u32 b2, .int .u32 c2, .int .u32 e2, .int .u32 f2], .int .i64 0]) ∧ Below W.heap.size W w') :
    Calls Try.prog 7 #[.agg #[.int .u32 a, .int .u32 b, .int .u32 c, .int .u32 e, .int .u32 f], .agg #[.int .u32 p, .int .u32 b2, .int .u32 c2, .int .u32 e2, .int .u32 f2], .agg #[.int .i64 q, .slice ka km cap]] w fun r w' => r = .returned (.bool true) ∧ Below w.heap.size w w' := by
  have hfu : ∀ (w0 W : World) (vb d g : Nat), SV w0 vb d g L1 [] 2 3 (-1) 2 false W → Calls Try.prog 28 #[.pointer (some ⟨vb, 0, none⟩), .int .i64 q] W fun r w' => r = .returned (.tuple #[]) ∧ SV w0 vb d g L1 [] 2 3 q 2 false w' := fun w0 W vb d g h => sv_fuse q h
  have eqN : ∀ W : World, (Op.equalIn 10000 43 (.agg #[.int .u32 t, .int .u32 b2, .int .u32 c2, .int .u32 e2, .int .u32 f2]) (.agg #[.int .u32 t, .int .u32 b2, .int .u32 c2, .int .u32 e2, .int .u32 f2])).run Try.prog W = .ok true W := fun W => same_super t b2 c2 e2 f2 r0 r1 r2 r3 r4 W
  have d0 : decide (0 ≤ q) = false := by simp; omega
  have p0 : ¬ (0 ≤ q) := by omega
  have d1 : decide (q < 2) = true := by simp; omega
  have p1 : q < 2 := by omega
  have d2 : decide (q < 0) = true := by simp; omega
  have p2 : q < 0 := by omega
  have d3 : decide (2 ≤ q) = false := by simp; omega
  have p3 : ¬ (2 ≤ q) := by omega
  have hwr : IntKind.u32.wrap ((a : Int) + 1) = (t : Int) := by
    have h := IntWalk.u32_in ((a : Int) + 1) (by omega)
    omega
  have hmax : ((a : Int) == 4294967295) = false := by rw [beq_eq_false_iff_ne]; omega
  have hk1 : decide (40 < (km : Int)) = false := by simp; omega
  have hk2 : (km : Int) ≤ 40 := by omega
  replace hs1 := Lib.hid hs1
  replace hs2 := Lib.hid hs2
  replace hcr := Lib.hid hcr
  replace hld := Lib.hid hld
  replace hfu := Lib.hid hfu
  obtain ⟨W3, hW3, hA, hC, hS, hB3⟩ := three_boxes w 43 43 62 (u32s a b c e f) (u32s p b2 c2 e2 f2) [.int .i64 q, .slice ka km cap]
  have a0 : W3.cell? ⟨w.heap.size, 0, none⟩ = some (.int .u32 a) := hA.cell 0
  have n0 : W3.cell? ⟨w.heap.size + 1, 0, none⟩ = some (.int .u32 p) := hC.cell 0
  have z0 := hC.frozen 0
  have q1 : W3.cell? ⟨w.heap.size + 1 + 1, 1, none⟩ = some (.slice ka km cap) := hS.cell 1
  have hA4 := hA.far (c := w.heap.size + 1) (by omega) 0 [.int .u32 t]
  have hS4 := hS.far (c := w.heap.size + 1) (by omega) 0 [.int .u32 t]
  have hC4 : Whole (W3.setCells (w.heap.size + 1) 0 [.int .u32 t]) (w.heap.size + 1) 43 (u32s t b2 c2 e2 f2) := hC.store 0 [.int .u32 t] (by simp)
  have hB4 := below_store hB3 (c := w.heap.size + 1) (by omega) (Nat.le_refl _) 0 [.int .u32 t]
  obtain ⟨W4, hW4⟩ : ∃ W4, Hid (W3.setCells (w.heap.size + 1) 0 [.int .u32 t] = W4) := ⟨_, Lib.hid rfl⟩
  rw [hW4.out] at hA4 hS4 hC4 hB4
  have hA5 : Hid (∀ W, Below W4.heap.size W4 W → Whole W w.heap.size 43 (u32s a b c e f)) := Lib.hid (fun W hb => hA4.below hb hA4.lt)
  have hC5 : Hid (∀ W, Below W4.heap.size W4 W → Whole W (w.heap.size + 1) 43 (u32s t b2 c2 e2 f2)) := Lib.hid (fun W hb => hC4.below hb hC4.lt)
  have hS5 : Hid (∀ W, Below W4.heap.size W4 W → Whole W (w.heap.size + 1 + 1) 62 [.int .i64 q, .slice ka km cap]) := Lib.hid (fun W hb => hS4.below hb hS4.lt)
  replace hB4 := Lib.hid hB4
  replace hW3 := Lib.hid hW3
  clear hA hC hS hB3 hA4 hC4 hS4 l0 l1 l2 l3 l4 r0 r1 r2 r3 r4 ht
  go_enter Try.func7, Try.ntmps7
  go_wp2_with (with_reducible refine zLoad 22 _ rfl ?_)
  refine Lib.hid ?_
  rw [show (((w.alloc (Obj.cells #[.int .u32 a, .int .u32 b, .int .u32 c, .int .u32 e, .int .u32 f] 43)).alloc (Obj.cells #[.int .u32 p, .int .u32 b2, .int .u32 c2, .int .u32 e2, .int .u32 f2] 43)).alloc (Obj.cells #[.int .i64 q, .slice ka km cap] 62)) = W3 from hW3.out.symm]
  clear hW3
  go_wp2_with fail
  rw [show W3.setCell ⟨w.heap.size + 1, 0, none⟩ (.int .u32 t) = W4 from hW4.out]
  clear hW4 a0 n0 z0 q1 hwr hmax
  refine (new_in 6 W4 (by decide) (by decide)).mono ?_
  rintro _ w4 ⟨rfl, hD4, hb4⟩
  go_wp2_with fail
  refine (vnew_in (from_ := 2) (n := 3) w4 hD4 (by decide) (by decide)).mono ?_
  rintro _ w5 ⟨rfl, hv5, hb5⟩
  have h5 := sv_new 6 2 3 W4 w4 w5 hb4 hv5 hb5
  clear hb5 hb4 hD4 hv5
  generalize w4.heap.size = vb at *
  clear w4
  obtain ⟨⟨s0, s1⟩, s2, s3, s4⟩ := five (hA5.out _ h5.since)
  replace h5 := Lib.hid h5
  go_wp2_with fail
  refine (hs1.out _ _ _ _ _ h5.out).mono ?_
  rintro _ w6 ⟨rfl, h6⟩
  clear s0 s1 s2 s3 s4 h5 hs1
  have q0 : w6.cell? ⟨w.heap.size + 1 + 1, 0, none⟩ = some (.int .i64 q) := (hS5.out _ h6.since).cell 0
  replace h6 := Lib.hid h6
  go_wp2_with fail
  refine (hfu.out _ _ _ _ _ h6.out).mono ?_
  rintro _ w7 ⟨rfl, h7⟩
  clear q0 h6 hfu
  obtain ⟨⟨s0, s1⟩, s2, s3, s4⟩ := five (hC5.out _ h7.since)
  replace h7 := Lib.hid h7
  go_wp2_with fail
  refine (hs2.out _ _ _ _ _ h7.out).mono ?_
  rintro _ w8 ⟨rfl, h8⟩
  clear s0 s1 s2 s3 s4 h7 hs2
  have q0 : w8.cell? ⟨w.heap.size + 1 + 1, 0, none⟩ = some (.int .i64 q) := (hS5.out _ h8.since).cell 0
  have q1 : w8.cell? ⟨w.heap.size + 1 + 1, 1, none⟩ = some (.slice ka km cap) := (hS5.out _ h8.since).cell 1
  replace h8 := Lib.hid h8
  go_wp2_with fail
  refine (hcr.out _ _ _ _ _ hB4.out h8.out).mono ?_
  rintro _ w9 ⟨rfl, h9⟩
  clear q0 q1 h8 hcr
  replace h9 := Lib.hid h9
  go_wp2_with fail
  refine (hld.out _ _ _ _ _ h9.out).mono ?_
  rintro _ w10 ⟨rfl, hb10⟩
  have hX := Whole.new w10 43 (u32s t b2 c2 e2 f2)
  have h11 := h9.out.below (grewAlloc hb10 (.cells #[.int .u32 t, .int .u32 b2, .int .u32 c2, .int .u32 e2, .int .u32 f2] 43))
  clear hb10 h9 hld
  obtain ⟨⟨x0, x1⟩, x2, x3, x4⟩ := five hX
  obtain ⟨⟨s0, s1⟩, s2, s3, s4⟩ := five (hC5.out _ h11.since)
  obtain ⟨⟨y0, y1⟩, y2, y3, y4⟩ := five (hA5.out _ h11.since)
  replace h11 := Lib.hid h11
  clear hX hA5 hC5 hS5
  go_wp2_with fail
  refine (three_any _).mono ?_
  rintro _ w19 ⟨rfl, hb19⟩
  go_wp2_with fail
  go_ret
  exact ⟨rfl, grew hB4.out (h11.out.below hb19).since⟩

set_option maxRecDepth 100000 in
set_option maxHeartbeats 4000000 in
theorem sstores_more (a b c e f p t b2 c2 e2 f2 : Nat) (q : Int) (ka : Option Addr) (km cap : Nat) (L1 L2 L3 : List (List UInt8)) (ws2 : List (Nat × List UInt8)) (fz st : Int) (gn : Bool) (w : World)
    (l0 : a < 4294967296) (l1 : b < 4294967296) (l2 : c < 4294967296) (l3 : e < 4294967296) (l4 : f < 4294967296) (r0 : t < 4294967296) (r1 : b2 < 4294967296) (r2 : c2 < 4294967296) (r3 : e2 < 4294967296) (r4 : f2 < 4294967296) (ht : a + 1 = t) (hkm : km ≤ 40) (k1 : 2 ≤ q)
    (hs1 : ∀ (w0 W : World) (vb d g : Nat), SV w0 vb d g (zeros 6) [] 2 3 (-1) 0 false W → Calls Try.prog 27 #[.pointer (some ⟨vb, 0, none⟩), .agg #[.int .u32 a, .int .u32 b, .int .u32 c, .int .u32 e, .int .u32 f]] W fun r w' => r = .returned (.int .i64 0) ∧ SV w0 vb d g L1 [] 2 3 (-1) 2 false w')
    (hs2 : ∀ (w0 W : World) (vb d g : Nat), SV w0 vb d g L1 [] 2 3 q 2 false W → Calls Try.prog 27 #[.pointer (some ⟨vb, 0, none⟩), .agg #[.int .u32 t, .int .u32 b2, .int .u32 c2, .int .u32 e2, .int .u32 f2]] W fun r w' => r = .returned (.int .i64 0) ∧ SV w0 vb d g L2 ws2 2 3 fz st gn w')
    (hcr : ∀ (w0 W : World) (vb d g : Nat), Below w.heap.size w w0 → SV w0 vb d g L2 ws2 2 3 fz st gn W → Calls Try.prog 29 #[.pointer (some ⟨vb, 0, none⟩), .slice ka km cap] W fun r w' => r = .returned (.int .i64 0) ∧ SV w0 vb d g L3 [] 2 3 (-1) 0 false w')
    (hld : ∀ (w0 W : World) (vb d g : Nat), SV w0 vb d g L3 [] 2 3 (-1) 0 false W → Calls Try.prog 30 #[.pointer (some ⟨vb, 0, none⟩)] W fun r w' => r = .returned (.tuple #[.agg #[.int .u32 t, .int .u32 b2, .int .u32 c2, .int .u32 e2, .int .u32 f2], .int .i64 0]) ∧ Below W.heap.size W w') :
    Calls Try.prog 7 #[.agg #[.int .u32 a, .int .u32 b, .int .u32 c, .int .u32 e, .int .u32 f], .agg #[.int .u32 p, .int .u32 b2, .int .u32 c2, .int .u32 e2, .int .u32 f2], .agg #[.int .i64 q, .slice ka km cap]] w fun r w' => r = .returned (.bool true) ∧ Below w.heap.size w w' := by
  have hfu : ∀ (w0 W : World) (vb d g : Nat), SV w0 vb d g L1 [] 2 3 (-1) 2 false W → Calls Try.prog 28 #[.pointer (some ⟨vb, 0, none⟩), .int .i64 q] W fun r w' => r = .returned (.tuple #[]) ∧ SV w0 vb d g L1 [] 2 3 q 2 false w' := fun w0 W vb d g h => sv_fuse q h
  have eqN : ∀ W : World, (Op.equalIn 10000 43 (.agg #[.int .u32 t, .int .u32 b2, .int .u32 c2, .int .u32 e2, .int .u32 f2]) (.agg #[.int .u32 t, .int .u32 b2, .int .u32 c2, .int .u32 e2, .int .u32 f2])).run Try.prog W = .ok true W := fun W => same_super t b2 c2 e2 f2 r0 r1 r2 r3 r4 W
  have d0 : decide (0 ≤ q) = true := by simp; omega
  have p0 : 0 ≤ q := by omega
  have d1 : decide (q < 2) = false := by simp; omega
  have p1 : ¬ (q < 2) := by omega
  have d2 : decide (q < 0) = false := by simp; omega
  have p2 : ¬ (q < 0) := by omega
  have d3 : decide (2 ≤ q) = true := by simp; omega
  have p3 : 2 ≤ q := by omega
  have hwr : IntKind.u32.wrap ((a : Int) + 1) = (t : Int) := by
    have h := IntWalk.u32_in ((a : Int) + 1) (by omega)
    omega
  have hmax : ((a : Int) == 4294967295) = false := by rw [beq_eq_false_iff_ne]; omega
  have hk1 : decide (40 < (km : Int)) = false := by simp; omega
  have hk2 : (km : Int) ≤ 40 := by omega
  replace hs1 := Lib.hid hs1
  replace hs2 := Lib.hid hs2
  replace hcr := Lib.hid hcr
  replace hld := Lib.hid hld
  replace hfu := Lib.hid hfu
  obtain ⟨W3, hW3, hA, hC, hS, hB3⟩ := three_boxes w 43 43 62 (u32s a b c e f) (u32s p b2 c2 e2 f2) [.int .i64 q, .slice ka km cap]
  have a0 : W3.cell? ⟨w.heap.size, 0, none⟩ = some (.int .u32 a) := hA.cell 0
  have n0 : W3.cell? ⟨w.heap.size + 1, 0, none⟩ = some (.int .u32 p) := hC.cell 0
  have z0 := hC.frozen 0
  have q1 : W3.cell? ⟨w.heap.size + 1 + 1, 1, none⟩ = some (.slice ka km cap) := hS.cell 1
  have hA4 := hA.far (c := w.heap.size + 1) (by omega) 0 [.int .u32 t]
  have hS4 := hS.far (c := w.heap.size + 1) (by omega) 0 [.int .u32 t]
  have hC4 : Whole (W3.setCells (w.heap.size + 1) 0 [.int .u32 t]) (w.heap.size + 1) 43 (u32s t b2 c2 e2 f2) := hC.store 0 [.int .u32 t] (by simp)
  have hB4 := below_store hB3 (c := w.heap.size + 1) (by omega) (Nat.le_refl _) 0 [.int .u32 t]
  obtain ⟨W4, hW4⟩ : ∃ W4, Hid (W3.setCells (w.heap.size + 1) 0 [.int .u32 t] = W4) := ⟨_, Lib.hid rfl⟩
  rw [hW4.out] at hA4 hS4 hC4 hB4
  have hA5 : Hid (∀ W, Below W4.heap.size W4 W → Whole W w.heap.size 43 (u32s a b c e f)) := Lib.hid (fun W hb => hA4.below hb hA4.lt)
  have hC5 : Hid (∀ W, Below W4.heap.size W4 W → Whole W (w.heap.size + 1) 43 (u32s t b2 c2 e2 f2)) := Lib.hid (fun W hb => hC4.below hb hC4.lt)
  have hS5 : Hid (∀ W, Below W4.heap.size W4 W → Whole W (w.heap.size + 1 + 1) 62 [.int .i64 q, .slice ka km cap]) := Lib.hid (fun W hb => hS4.below hb hS4.lt)
  replace hB4 := Lib.hid hB4
  replace hW3 := Lib.hid hW3
  clear hA hC hS hB3 hA4 hC4 hS4 l0 l1 l2 l3 l4 r0 r1 r2 r3 r4 ht
  go_enter Try.func7, Try.ntmps7
  go_wp2_with (with_reducible refine zLoad 22 _ rfl ?_)
  refine Lib.hid ?_
  rw [show (((w.alloc (Obj.cells #[.int .u32 a, .int .u32 b, .int .u32 c, .int .u32 e, .int .u32 f] 43)).alloc (Obj.cells #[.int .u32 p, .int .u32 b2, .int .u32 c2, .int .u32 e2, .int .u32 f2] 43)).alloc (Obj.cells #[.int .i64 q, .slice ka km cap] 62)) = W3 from hW3.out.symm]
  clear hW3
  go_wp2_with fail
  rw [show W3.setCell ⟨w.heap.size + 1, 0, none⟩ (.int .u32 t) = W4 from hW4.out]
  clear hW4 a0 n0 z0 q1 hwr hmax
  refine (new_in 6 W4 (by decide) (by decide)).mono ?_
  rintro _ w4 ⟨rfl, hD4, hb4⟩
  go_wp2_with fail
  refine (vnew_in (from_ := 2) (n := 3) w4 hD4 (by decide) (by decide)).mono ?_
  rintro _ w5 ⟨rfl, hv5, hb5⟩
  have h5 := sv_new 6 2 3 W4 w4 w5 hb4 hv5 hb5
  clear hb5 hb4 hD4 hv5
  generalize w4.heap.size = vb at *
  clear w4
  obtain ⟨⟨s0, s1⟩, s2, s3, s4⟩ := five (hA5.out _ h5.since)
  replace h5 := Lib.hid h5
  go_wp2_with fail
  refine (hs1.out _ _ _ _ _ h5.out).mono ?_
  rintro _ w6 ⟨rfl, h6⟩
  clear s0 s1 s2 s3 s4 h5 hs1
  have q0 : w6.cell? ⟨w.heap.size + 1 + 1, 0, none⟩ = some (.int .i64 q) := (hS5.out _ h6.since).cell 0
  replace h6 := Lib.hid h6
  go_wp2_with fail
  refine (hfu.out _ _ _ _ _ h6.out).mono ?_
  rintro _ w7 ⟨rfl, h7⟩
  clear q0 h6 hfu
  obtain ⟨⟨s0, s1⟩, s2, s3, s4⟩ := five (hC5.out _ h7.since)
  replace h7 := Lib.hid h7
  go_wp2_with fail
  refine (hs2.out _ _ _ _ _ h7.out).mono ?_
  rintro _ w8 ⟨rfl, h8⟩
  clear s0 s1 s2 s3 s4 h7 hs2
  have q0 : w8.cell? ⟨w.heap.size + 1 + 1, 0, none⟩ = some (.int .i64 q) := (hS5.out _ h8.since).cell 0
  have q1 : w8.cell? ⟨w.heap.size + 1 + 1, 1, none⟩ = some (.slice ka km cap) := (hS5.out _ h8.since).cell 1
  replace h8 := Lib.hid h8
  go_wp2_with fail
  refine (hcr.out _ _ _ _ _ hB4.out h8.out).mono ?_
  rintro _ w9 ⟨rfl, h9⟩
  clear q0 q1 h8 hcr
  replace h9 := Lib.hid h9
  go_wp2_with fail
  refine (hld.out _ _ _ _ _ h9.out).mono ?_
  rintro _ w10 ⟨rfl, hb10⟩
  have hX := Whole.new w10 43 (u32s t b2 c2 e2 f2)
  have h11 := h9.out.below (grewAlloc hb10 (.cells #[.int .u32 t, .int .u32 b2, .int .u32 c2, .int .u32 e2, .int .u32 f2] 43))
  clear hb10 h9 hld
  obtain ⟨⟨x0, x1⟩, x2, x3, x4⟩ := five hX
  obtain ⟨⟨s0, s1⟩, s2, s3, s4⟩ := five (hC5.out _ h11.since)
  obtain ⟨⟨y0, y1⟩, y2, y3, y4⟩ := five (hA5.out _ h11.since)
  replace h11 := Lib.hid h11
  clear hX hA5 hC5 hS5
  go_wp2_with fail
  refine (three_any _).mono ?_
  rintro _ w19 ⟨rfl, hb19⟩
  go_wp2_with fail
  go_ret
  exact ⟨rfl, grew hB4.out (h11.out.below hb19).since⟩

set_option maxRecDepth 100000 in
set_option maxHeartbeats 4000000 in
theorem sstores_next (a b c e f p t b2 c2 e2 f2 : Nat) (q : Int) (ka : Option Addr) (km cap : Nat) (L1 L2 L3 : List (List UInt8)) (ws2 : List (Nat × List UInt8)) (fz st : Int) (gn : Bool) (w : World)
    (l0 : a < 4294967296) (l1 : b < 4294967296) (l2 : c < 4294967296) (l3 : e < 4294967296) (l4 : f < 4294967296) (r0 : t < 4294967296) (r1 : b2 < 4294967296) (r2 : c2 < 4294967296) (r3 : e2 < 4294967296) (r4 : f2 < 4294967296) (ht : a + 1 = t) (hkm : km ≤ 40) (k0 : 0 ≤ q) (k1 : q < 2)
    (hs1 : ∀ (w0 W : World) (vb d g : Nat), SV w0 vb d g (zeros 6) [] 2 3 (-1) 0 false W → Calls Try.prog 27 #[.pointer (some ⟨vb, 0, none⟩), .agg #[.int .u32 a, .int .u32 b, .int .u32 c, .int .u32 e, .int .u32 f]] W fun r w' => r = .returned (.int .i64 0) ∧ SV w0 vb d g L1 [] 2 3 (-1) 2 false w')
    (hs2 : ∀ (w0 W : World) (vb d g : Nat), SV w0 vb d g L1 [] 2 3 q 2 false W → Calls Try.prog 27 #[.pointer (some ⟨vb, 0, none⟩), .agg #[.int .u32 t, .int .u32 b2, .int .u32 c2, .int .u32 e2, .int .u32 f2]] W fun r w' => r = .returned (.int .i64 21) ∧ SV w0 vb d g L2 ws2 2 3 fz st gn w')
    (hcr : ∀ (w0 W : World) (vb d g : Nat), Below w.heap.size w w0 → SV w0 vb d g L2 ws2 2 3 fz st gn W → Calls Try.prog 29 #[.pointer (some ⟨vb, 0, none⟩), .slice ka km cap] W fun r w' => r = .returned (.int .i64 0) ∧ SV w0 vb d g L3 [] 2 3 (-1) 0 false w')
    (hld : ∀ (w0 W : World) (vb d g : Nat), SV w0 vb d g L3 [] 2 3 (-1) 0 false W → Calls Try.prog 30 #[.pointer (some ⟨vb, 0, none⟩)] W fun r w' => r = .returned (.tuple #[.agg #[.int .u32 t, .int .u32 b2, .int .u32 c2, .int .u32 e2, .int .u32 f2], .int .i64 0]) ∧ Below W.heap.size W w') :
    Calls Try.prog 7 #[.agg #[.int .u32 a, .int .u32 b, .int .u32 c, .int .u32 e, .int .u32 f], .agg #[.int .u32 p, .int .u32 b2, .int .u32 c2, .int .u32 e2, .int .u32 f2], .agg #[.int .i64 q, .slice ka km cap]] w fun r w' => r = .returned (.bool true) ∧ Below w.heap.size w w' := by
  have hfu : ∀ (w0 W : World) (vb d g : Nat), SV w0 vb d g L1 [] 2 3 (-1) 2 false W → Calls Try.prog 28 #[.pointer (some ⟨vb, 0, none⟩), .int .i64 q] W fun r w' => r = .returned (.tuple #[]) ∧ SV w0 vb d g L1 [] 2 3 q 2 false w' := fun w0 W vb d g h => sv_fuse q h
  have eqN : ∀ W : World, (Op.equalIn 10000 43 (.agg #[.int .u32 t, .int .u32 b2, .int .u32 c2, .int .u32 e2, .int .u32 f2]) (.agg #[.int .u32 t, .int .u32 b2, .int .u32 c2, .int .u32 e2, .int .u32 f2])).run Try.prog W = .ok true W := fun W => same_super t b2 c2 e2 f2 r0 r1 r2 r3 r4 W
  have d0 : decide (0 ≤ q) = true := by simp; omega
  have p0 : 0 ≤ q := by omega
  have d1 : decide (q < 2) = true := by simp; omega
  have p1 : q < 2 := by omega
  have d2 : decide (q < 0) = false := by simp; omega
  have p2 : ¬ (q < 0) := by omega
  have d3 : decide (2 ≤ q) = false := by simp; omega
  have p3 : ¬ (2 ≤ q) := by omega
  have hwr : IntKind.u32.wrap ((a : Int) + 1) = (t : Int) := by
    have h := IntWalk.u32_in ((a : Int) + 1) (by omega)
    omega
  have hmax : ((a : Int) == 4294967295) = false := by rw [beq_eq_false_iff_ne]; omega
  have hk1 : decide (40 < (km : Int)) = false := by simp; omega
  have hk2 : (km : Int) ≤ 40 := by omega
  replace hs1 := Lib.hid hs1
  replace hs2 := Lib.hid hs2
  replace hcr := Lib.hid hcr
  replace hld := Lib.hid hld
  replace hfu := Lib.hid hfu
  obtain ⟨W3, hW3, hA, hC, hS, hB3⟩ := three_boxes w 43 43 62 (u32s a b c e f) (u32s p b2 c2 e2 f2) [.int .i64 q, .slice ka km cap]
  have a0 : W3.cell? ⟨w.heap.size, 0, none⟩ = some (.int .u32 a) := hA.cell 0
  have n0 : W3.cell? ⟨w.heap.size + 1, 0, none⟩ = some (.int .u32 p) := hC.cell 0
  have z0 := hC.frozen 0
  have q1 : W3.cell? ⟨w.heap.size + 1 + 1, 1, none⟩ = some (.slice ka km cap) := hS.cell 1
  have hA4 := hA.far (c := w.heap.size + 1) (by omega) 0 [.int .u32 t]
  have hS4 := hS.far (c := w.heap.size + 1) (by omega) 0 [.int .u32 t]
  have hC4 : Whole (W3.setCells (w.heap.size + 1) 0 [.int .u32 t]) (w.heap.size + 1) 43 (u32s t b2 c2 e2 f2) := hC.store 0 [.int .u32 t] (by simp)
  have hB4 := below_store hB3 (c := w.heap.size + 1) (by omega) (Nat.le_refl _) 0 [.int .u32 t]
  obtain ⟨W4, hW4⟩ : ∃ W4, Hid (W3.setCells (w.heap.size + 1) 0 [.int .u32 t] = W4) := ⟨_, Lib.hid rfl⟩
  rw [hW4.out] at hA4 hS4 hC4 hB4
  have hA5 : Hid (∀ W, Below W4.heap.size W4 W → Whole W w.heap.size 43 (u32s a b c e f)) := Lib.hid (fun W hb => hA4.below hb hA4.lt)
  have hC5 : Hid (∀ W, Below W4.heap.size W4 W → Whole W (w.heap.size + 1) 43 (u32s t b2 c2 e2 f2)) := Lib.hid (fun W hb => hC4.below hb hC4.lt)
  have hS5 : Hid (∀ W, Below W4.heap.size W4 W → Whole W (w.heap.size + 1 + 1) 62 [.int .i64 q, .slice ka km cap]) := Lib.hid (fun W hb => hS4.below hb hS4.lt)
  replace hB4 := Lib.hid hB4
  replace hW3 := Lib.hid hW3
  clear hA hC hS hB3 hA4 hC4 hS4 l0 l1 l2 l3 l4 r0 r1 r2 r3 r4 ht
  go_enter Try.func7, Try.ntmps7
  go_wp2_with (with_reducible refine zLoad 22 _ rfl ?_)
  refine Lib.hid ?_
  rw [show (((w.alloc (Obj.cells #[.int .u32 a, .int .u32 b, .int .u32 c, .int .u32 e, .int .u32 f] 43)).alloc (Obj.cells #[.int .u32 p, .int .u32 b2, .int .u32 c2, .int .u32 e2, .int .u32 f2] 43)).alloc (Obj.cells #[.int .i64 q, .slice ka km cap] 62)) = W3 from hW3.out.symm]
  clear hW3
  go_wp2_with fail
  rw [show W3.setCell ⟨w.heap.size + 1, 0, none⟩ (.int .u32 t) = W4 from hW4.out]
  clear hW4 a0 n0 z0 q1 hwr hmax
  refine (new_in 6 W4 (by decide) (by decide)).mono ?_
  rintro _ w4 ⟨rfl, hD4, hb4⟩
  go_wp2_with fail
  refine (vnew_in (from_ := 2) (n := 3) w4 hD4 (by decide) (by decide)).mono ?_
  rintro _ w5 ⟨rfl, hv5, hb5⟩
  have h5 := sv_new 6 2 3 W4 w4 w5 hb4 hv5 hb5
  clear hb5 hb4 hD4 hv5
  generalize w4.heap.size = vb at *
  clear w4
  obtain ⟨⟨s0, s1⟩, s2, s3, s4⟩ := five (hA5.out _ h5.since)
  replace h5 := Lib.hid h5
  go_wp2_with fail
  refine (hs1.out _ _ _ _ _ h5.out).mono ?_
  rintro _ w6 ⟨rfl, h6⟩
  clear s0 s1 s2 s3 s4 h5 hs1
  have q0 : w6.cell? ⟨w.heap.size + 1 + 1, 0, none⟩ = some (.int .i64 q) := (hS5.out _ h6.since).cell 0
  replace h6 := Lib.hid h6
  go_wp2_with fail
  refine (hfu.out _ _ _ _ _ h6.out).mono ?_
  rintro _ w7 ⟨rfl, h7⟩
  clear q0 h6 hfu
  obtain ⟨⟨s0, s1⟩, s2, s3, s4⟩ := five (hC5.out _ h7.since)
  replace h7 := Lib.hid h7
  go_wp2_with fail
  refine (hs2.out _ _ _ _ _ h7.out).mono ?_
  rintro _ w8 ⟨rfl, h8⟩
  clear s0 s1 s2 s3 s4 h7 hs2
  have q0 : w8.cell? ⟨w.heap.size + 1 + 1, 0, none⟩ = some (.int .i64 q) := (hS5.out _ h8.since).cell 0
  have q1 : w8.cell? ⟨w.heap.size + 1 + 1, 1, none⟩ = some (.slice ka km cap) := (hS5.out _ h8.since).cell 1
  replace h8 := Lib.hid h8
  go_wp2_with fail
  refine (hcr.out _ _ _ _ _ hB4.out h8.out).mono ?_
  rintro _ w9 ⟨rfl, h9⟩
  clear q0 q1 h8 hcr
  replace h9 := Lib.hid h9
  go_wp2_with fail
  refine (hld.out _ _ _ _ _ h9.out).mono ?_
  rintro _ w10 ⟨rfl, hb10⟩
  have hX := Whole.new w10 43 (u32s t b2 c2 e2 f2)
  have h11 := h9.out.below (grewAlloc hb10 (.cells #[.int .u32 t, .int .u32 b2, .int .u32 c2, .int .u32 e2, .int .u32 f2] 43))
  clear hb10 h9 hld
  obtain ⟨⟨x0, x1⟩, x2, x3, x4⟩ := five hX
  obtain ⟨⟨s0, s1⟩, s2, s3, s4⟩ := five (hC5.out _ h11.since)
  obtain ⟨⟨y0, y1⟩, y2, y3, y4⟩ := five (hA5.out _ h11.since)
  replace h11 := Lib.hid h11
  clear hX hA5 hC5 hS5
  go_wp2_with fail
  refine (three_any _).mono ?_
  rintro _ w19 ⟨rfl, hb19⟩
  go_wp2_with fail
  go_ret
  exact ⟨rfl, grew hB4.out (h11.out.below hb19).since⟩

set_option maxRecDepth 100000 in
set_option maxHeartbeats 4000000 in
theorem sstores_last (a b c e f p t b2 c2 e2 f2 : Nat) (q : Int) (ka : Option Addr) (km cap : Nat) (L1 L2 L3 : List (List UInt8)) (ws2 : List (Nat × List UInt8)) (fz st : Int) (gn : Bool) (w : World)
    (l0 : a < 4294967296) (l1 : b < 4294967296) (l2 : c < 4294967296) (l3 : e < 4294967296) (l4 : f < 4294967296) (r0 : t < 4294967296) (r1 : b2 < 4294967296) (r2 : c2 < 4294967296) (r3 : e2 < 4294967296) (r4 : f2 < 4294967296) (ht : a + 1 = t) (hkm : km ≤ 40) (k0 : 0 ≤ q) (k1 : q < 2)
    (hs1 : ∀ (w0 W : World) (vb d g : Nat), SV w0 vb d g (zeros 6) [] 2 3 (-1) 0 false W → Calls Try.prog 27 #[.pointer (some ⟨vb, 0, none⟩), .agg #[.int .u32 a, .int .u32 b, .int .u32 c, .int .u32 e, .int .u32 f]] W fun r w' => r = .returned (.int .i64 0) ∧ SV w0 vb d g L1 [] 2 3 (-1) 2 false w')
    (hs2 : ∀ (w0 W : World) (vb d g : Nat), SV w0 vb d g L1 [] 2 3 q 2 false W → Calls Try.prog 27 #[.pointer (some ⟨vb, 0, none⟩), .agg #[.int .u32 t, .int .u32 b2, .int .u32 c2, .int .u32 e2, .int .u32 f2]] W fun r w' => r = .returned (.int .i64 21) ∧ SV w0 vb d g L2 ws2 2 3 fz st gn w')
    (hcr : ∀ (w0 W : World) (vb d g : Nat), Below w.heap.size w w0 → SV w0 vb d g L2 ws2 2 3 fz st gn W → Calls Try.prog 29 #[.pointer (some ⟨vb, 0, none⟩), .slice ka km cap] W fun r w' => r = .returned (.int .i64 0) ∧ SV w0 vb d g L3 [] 2 3 (-1) 0 false w')
    (hld : ∀ (w0 W : World) (vb d g : Nat), SV w0 vb d g L3 [] 2 3 (-1) 0 false W → Calls Try.prog 30 #[.pointer (some ⟨vb, 0, none⟩)] W fun r w' => r = .returned (.tuple #[.agg #[.int .u32 a, .int .u32 b, .int .u32 c, .int .u32 e, .int .u32 f], .int .i64 0]) ∧ Below W.heap.size W w') :
    Calls Try.prog 7 #[.agg #[.int .u32 a, .int .u32 b, .int .u32 c, .int .u32 e, .int .u32 f], .agg #[.int .u32 p, .int .u32 b2, .int .u32 c2, .int .u32 e2, .int .u32 f2], .agg #[.int .i64 q, .slice ka km cap]] w fun r w' => r = .returned (.bool true) ∧ Below w.heap.size w w' := by
  have hfu : ∀ (w0 W : World) (vb d g : Nat), SV w0 vb d g L1 [] 2 3 (-1) 2 false W → Calls Try.prog 28 #[.pointer (some ⟨vb, 0, none⟩), .int .i64 q] W fun r w' => r = .returned (.tuple #[]) ∧ SV w0 vb d g L1 [] 2 3 q 2 false w' := fun w0 W vb d g h => sv_fuse q h
  have eqN : ∀ W : World, (Op.equalIn 10000 43 (.agg #[.int .u32 a, .int .u32 b, .int .u32 c, .int .u32 e, .int .u32 f]) (.agg #[.int .u32 t, .int .u32 b2, .int .u32 c2, .int .u32 e2, .int .u32 f2])).run Try.prog W = .ok false W := fun W => by
    obtain ⟨r, h1, h2⟩ := eq_super a b c e f t b2 c2 e2 f2 l0 l1 l2 l3 l4 r0 r1 r2 r3 r4
    rw [h2]
    cases r with
    | false => rfl
    | true => exact absurd (h1.1 rfl).1 (by omega)
  have eqS : ∀ W : World, (Op.equalIn 10000 43 (.agg #[.int .u32 a, .int .u32 b, .int .u32 c, .int .u32 e, .int .u32 f]) (.agg #[.int .u32 a, .int .u32 b, .int .u32 c, .int .u32 e, .int .u32 f])).run Try.prog W = .ok true W := fun W => same_super a b c e f l0 l1 l2 l3 l4 W
  have d0 : decide (0 ≤ q) = true := by simp; omega
  have p0 : 0 ≤ q := by omega
  have d1 : decide (q < 2) = true := by simp; omega
  have p1 : q < 2 := by omega
  have d2 : decide (q < 0) = false := by simp; omega
  have p2 : ¬ (q < 0) := by omega
  have d3 : decide (2 ≤ q) = false := by simp; omega
  have p3 : ¬ (2 ≤ q) := by omega
  have hwr : IntKind.u32.wrap ((a : Int) + 1) = (t : Int) := by
    have h := IntWalk.u32_in ((a : Int) + 1) (by omega)
    omega
  have hmax : ((a : Int) == 4294967295) = false := by rw [beq_eq_false_iff_ne]; omega
  have hk1 : decide (40 < (km : Int)) = false := by simp; omega
  have hk2 : (km : Int) ≤ 40 := by omega
  replace hs1 := Lib.hid hs1
  replace hs2 := Lib.hid hs2
  replace hcr := Lib.hid hcr
  replace hld := Lib.hid hld
  replace hfu := Lib.hid hfu
  obtain ⟨W3, hW3, hA, hC, hS, hB3⟩ := three_boxes w 43 43 62 (u32s a b c e f) (u32s p b2 c2 e2 f2) [.int .i64 q, .slice ka km cap]
  have a0 : W3.cell? ⟨w.heap.size, 0, none⟩ = some (.int .u32 a) := hA.cell 0
  have n0 : W3.cell? ⟨w.heap.size + 1, 0, none⟩ = some (.int .u32 p) := hC.cell 0
  have z0 := hC.frozen 0
  have q1 : W3.cell? ⟨w.heap.size + 1 + 1, 1, none⟩ = some (.slice ka km cap) := hS.cell 1
  have hA4 := hA.far (c := w.heap.size + 1) (by omega) 0 [.int .u32 t]
  have hS4 := hS.far (c := w.heap.size + 1) (by omega) 0 [.int .u32 t]
  have hC4 : Whole (W3.setCells (w.heap.size + 1) 0 [.int .u32 t]) (w.heap.size + 1) 43 (u32s t b2 c2 e2 f2) := hC.store 0 [.int .u32 t] (by simp)
  have hB4 := below_store hB3 (c := w.heap.size + 1) (by omega) (Nat.le_refl _) 0 [.int .u32 t]
  obtain ⟨W4, hW4⟩ : ∃ W4, Hid (W3.setCells (w.heap.size + 1) 0 [.int .u32 t] = W4) := ⟨_, Lib.hid rfl⟩
  rw [hW4.out] at hA4 hS4 hC4 hB4
  have hA5 : Hid (∀ W, Below W4.heap.size W4 W → Whole W w.heap.size 43 (u32s a b c e f)) := Lib.hid (fun W hb => hA4.below hb hA4.lt)
  have hC5 : Hid (∀ W, Below W4.heap.size W4 W → Whole W (w.heap.size + 1) 43 (u32s t b2 c2 e2 f2)) := Lib.hid (fun W hb => hC4.below hb hC4.lt)
  have hS5 : Hid (∀ W, Below W4.heap.size W4 W → Whole W (w.heap.size + 1 + 1) 62 [.int .i64 q, .slice ka km cap]) := Lib.hid (fun W hb => hS4.below hb hS4.lt)
  replace hB4 := Lib.hid hB4
  replace hW3 := Lib.hid hW3
  clear hA hC hS hB3 hA4 hC4 hS4 l0 l1 l2 l3 l4 r0 r1 r2 r3 r4 ht
  go_enter Try.func7, Try.ntmps7
  go_wp2_with (with_reducible refine zLoad 22 _ rfl ?_)
  refine Lib.hid ?_
  rw [show (((w.alloc (Obj.cells #[.int .u32 a, .int .u32 b, .int .u32 c, .int .u32 e, .int .u32 f] 43)).alloc (Obj.cells #[.int .u32 p, .int .u32 b2, .int .u32 c2, .int .u32 e2, .int .u32 f2] 43)).alloc (Obj.cells #[.int .i64 q, .slice ka km cap] 62)) = W3 from hW3.out.symm]
  clear hW3
  go_wp2_with fail
  rw [show W3.setCell ⟨w.heap.size + 1, 0, none⟩ (.int .u32 t) = W4 from hW4.out]
  clear hW4 a0 n0 z0 q1 hwr hmax
  refine (new_in 6 W4 (by decide) (by decide)).mono ?_
  rintro _ w4 ⟨rfl, hD4, hb4⟩
  go_wp2_with fail
  refine (vnew_in (from_ := 2) (n := 3) w4 hD4 (by decide) (by decide)).mono ?_
  rintro _ w5 ⟨rfl, hv5, hb5⟩
  have h5 := sv_new 6 2 3 W4 w4 w5 hb4 hv5 hb5
  clear hb5 hb4 hD4 hv5
  generalize w4.heap.size = vb at *
  clear w4
  obtain ⟨⟨s0, s1⟩, s2, s3, s4⟩ := five (hA5.out _ h5.since)
  replace h5 := Lib.hid h5
  go_wp2_with fail
  refine (hs1.out _ _ _ _ _ h5.out).mono ?_
  rintro _ w6 ⟨rfl, h6⟩
  clear s0 s1 s2 s3 s4 h5 hs1
  have q0 : w6.cell? ⟨w.heap.size + 1 + 1, 0, none⟩ = some (.int .i64 q) := (hS5.out _ h6.since).cell 0
  replace h6 := Lib.hid h6
  go_wp2_with fail
  refine (hfu.out _ _ _ _ _ h6.out).mono ?_
  rintro _ w7 ⟨rfl, h7⟩
  clear q0 h6 hfu
  obtain ⟨⟨s0, s1⟩, s2, s3, s4⟩ := five (hC5.out _ h7.since)
  replace h7 := Lib.hid h7
  go_wp2_with fail
  refine (hs2.out _ _ _ _ _ h7.out).mono ?_
  rintro _ w8 ⟨rfl, h8⟩
  clear s0 s1 s2 s3 s4 h7 hs2
  have q0 : w8.cell? ⟨w.heap.size + 1 + 1, 0, none⟩ = some (.int .i64 q) := (hS5.out _ h8.since).cell 0
  have q1 : w8.cell? ⟨w.heap.size + 1 + 1, 1, none⟩ = some (.slice ka km cap) := (hS5.out _ h8.since).cell 1
  replace h8 := Lib.hid h8
  go_wp2_with fail
  refine (hcr.out _ _ _ _ _ hB4.out h8.out).mono ?_
  rintro _ w9 ⟨rfl, h9⟩
  clear q0 q1 h8 hcr
  replace h9 := Lib.hid h9
  go_wp2_with fail
  refine (hld.out _ _ _ _ _ h9.out).mono ?_
  rintro _ w10 ⟨rfl, hb10⟩
  have hX := Whole.new w10 43 (u32s a b c e f)
  have h11 := h9.out.below (grewAlloc hb10 (.cells #[.int .u32 a, .int .u32 b, .int .u32 c, .int .u32 e, .int .u32 f] 43))
  clear hb10 h9 hld
  obtain ⟨⟨x0, x1⟩, x2, x3, x4⟩ := five hX
  obtain ⟨⟨s0, s1⟩, s2, s3, s4⟩ := five (hC5.out _ h11.since)
  obtain ⟨⟨y0, y1⟩, y2, y3, y4⟩ := five (hA5.out _ h11.since)
  replace h11 := Lib.hid h11
  clear hX hA5 hC5 hS5
  go_wp2_with fail
  refine (three_any _).mono ?_
  rintro _ w19 ⟨rfl, hb19⟩
  go_wp2_with fail
  go_ret
  exact ⟨rfl, grew hB4.out (h11.out.below hb19).since⟩

end Go.Proofs.Ytkmlmondhmpkkaa.W
