/- The walk of the law SuperLoads. -/
import Derived.Test.YtkmlmondhmpkkaaSuStore
import Derived.Test.YtkmlmondhmpkkaaQuietB
namespace Go.Proofs.Ytkmlmondhmpkkaa.W
open Go.RowKit Go.Sort
open Go.Proofs.Ytkmlmondhmpkkaa.M Go.Proofs.Ytkmlmondhmpkkaa.D Go.Proofs.Ytkmlmondhmpkkaa.Z
set_option linter.unusedVariables false
theorem sv_write_free {w0 W : World} {vb d g : Nat} {lie : List (List UInt8)} {ws : List (Nat × List UInt8)} {from_ n : Nat} {steps : Int} (a : Nat) (s : ByteArray) (h : SV w0 vb d g lie ws from_ n (-1) steps false W) (ha : a < n) (hz : s.size = 64) (h0 : 0 ≤ steps) (h1 : steps < 1000000) (hw : ws.length ≤ 100000) :
    Calls Try.prog 31 #[.pointer (some ⟨vb, 0, none⟩), .int .i64 a, .string s] W fun e w' => e = .returned (.int .i64 0) ∧ SV w0 vb d g lie (ws ++ [(from_ + a, s.data.toList)]) from_ n (-1) (steps + 1) false w' :=
  sv_write a s h ha hz (by decide) h0 h1 (by decide) (by decide) hw
theorem newBelow {w0 w' : World} {c0 c1 c2 c3 c4 : Value} {t : TypeId} (hb : Below (w0.alloc (.cells #[c0, c1, c2, c3, c4] t)).drew.heap.size (w0.alloc (.cells #[c0, c1, c2, c3, c4] t)).drew w') : Whole w' w0.heap.size t [c0, c1, c2, c3, c4] := by
  have h : Whole (w0.alloc (.cells #[c0, c1, c2, c3, c4] t)).drew w0.heap.size t [c0, c1, c2, c3, c4] := Whole.new w0 t [c0, c1, c2, c3, c4]
  exact h.below hb h.lt
theorem keepNew {V0 w : World} (h : Below V0.heap.size V0 w) (o : Obj) : Below V0.heap.size V0 (w.alloc o) := grewAlloc h o
theorem keepSet {V0 w : World} {q : Nat} (h : Below V0.heap.size V0 w) (hq : V0.heap.size ≤ q) (c0 c1 c2 c3 c4 : Value) : Below V0.heap.size V0 (((((w.setCell ⟨q, 0, none⟩ c0).setCell ⟨q, 1, none⟩ c1).setCell ⟨q, 2, none⟩ c2).setCell ⟨q, 3, none⟩ c3).setCell ⟨q, 4, none⟩ c4) :=
  below_store h hq (Nat.le_refl _) 0 [c0, c1, c2, c3, c4]
set_option maxRecDepth 100000 in
set_option maxHeartbeats 4000000 in
theorem sloads_go (a b : List UInt8) (ha : a.length = 64) (hb : b.length = 64) (n0 n1 n2 n3 n4 m0 m1 m2 m3 m4 : Nat) (x : Int) (w : World) (l0 : n0 < 4294967296) (l1 : n1 < 4294967296) (l2 : n2 < 4294967296) (l3 : n3 < 4294967296) (l4 : n4 < 4294967296)
    (k0 : m0 < 4294967296) (k1 : m1 < 4294967296) (k2 : m2 < 4294967296) (k3 : m3 < 4294967296) (k4 : m4 < 4294967296)
    (hld : ∀ (w0 W : World) (vb d g : Nat), SV w0 vb d g (zeros 4) [(1, a), (2, b)] 1 2 (-1) 2 false W → Calls Try.prog 30 #[.pointer (some ⟨vb, 0, none⟩)] W fun e w' => e = .returned (.tuple #[.agg #[.int .u32 m0, .int .u32 m1, .int .u32 m2, .int .u32 m3, .int .u32 m4], .int .i64 x]) ∧ Below W.heap.size W w')
    (hpi : ∀ W : World, Calls Try.prog 23 #[.string (B a), .string (B b)] W fun e w' => e = .returned (.tuple #[.agg #[.int .u32 m0, .int .u32 m1, .int .u32 m2, .int .u32 m3, .int .u32 m4], .int .i64 x]) ∧ Below W.heap.size W w') :
    Calls Try.prog 8 #[.agg (bytesV a).toArray, .agg (bytesV b).toArray, .agg #[.int .u32 n0, .int .u32 n1, .int .u32 n2, .int .u32 n3, .int .u32 n4]] w fun e w' => e = .returned (.bool true) ∧ Below w.heap.size w w' := by
  have hwA : ∀ (w0 W : World) (vb d g : Nat), SV w0 vb d g (zeros 4) [] 1 2 (-1) 0 false W → Calls Try.prog 31 #[.pointer (some ⟨vb, 0, none⟩), .int .i64 0, .string (B a)] W fun e w' => e = .returned (.int .i64 0) ∧ SV w0 vb d g (zeros 4) [(1, a)] 1 2 (-1) 1 false w' := fun w0 W vb d g h => sv_write_free 0 (B a) h (by decide) (by rw [B_size]; exact ha) (by decide) (by decide) (by simp)
  have hwB : ∀ (w0 W : World) (vb d g : Nat), SV w0 vb d g (zeros 4) [(1, a)] 1 2 (-1) 1 false W → Calls Try.prog 31 #[.pointer (some ⟨vb, 0, none⟩), .int .i64 1, .string (B b)] W fun e w' => e = .returned (.int .i64 0) ∧ SV w0 vb d g (zeros 4) [(1, a), (2, b)] 1 2 (-1) 2 false w' := fun w0 W vb d g h => sv_write_free 1 (B b) h (by decide) (by rw [B_size]; exact hb) (by decide) (by decide) (by simp)
  have hfu : ∀ (w0 W : World) (vb d g : Nat), SV w0 vb d g (zeros 4) [(1, a), (2, b)] 1 2 (-1) 2 false W → Calls Try.prog 28 #[.pointer (some ⟨vb, 0, none⟩), .int .i64 0] W fun e w' => e = .returned (.tuple #[]) ∧ SV w0 vb d g (zeros 4) [(1, a), (2, b)] 1 2 0 2 false w' := fun w0 W vb d g h => sv_fuse 0 h
  have hst : ∀ (w0 W : World) (vb d g : Nat), SV w0 vb d g (zeros 4) [(1, a), (2, b)] 1 2 0 2 false W → Calls Try.prog 27 #[.pointer (some ⟨vb, 0, none⟩), .agg #[.int .u32 n0, .int .u32 n1, .int .u32 n2, .int .u32 n3, .int .u32 n4]] W fun e w' => e = .returned (.int .i64 21) ∧ SV w0 vb d g (zeros 4) [(1, a), (2, b)] 1 2 0 2 true w' := fun w0 W vb d g h => sv_store_dead n0 n1 n2 n3 n4 l0 l1 l2 l3 l4 h (by decide) (.inr rfl)
  have hdl : ∀ (w0 W : World) (vb d g : Nat), SV w0 vb d g (zeros 4) [(1, a), (2, b)] 1 2 0 2 true W → Calls Try.prog 30 #[.pointer (some ⟨vb, 0, none⟩)] W fun e w' => e = .returned (.tuple #[.agg #[.int .u32 0, .int .u32 0, .int .u32 0, .int .u32 0, .int .u32 0], .int .i64 21]) ∧ Below W.heap.size W w' := fun w0 W vb d g h => sv_load_dead h (by decide)
  have hsn := fun W => store_none n0 n1 n2 n3 n4 l0 l1 l2 l3 l4 W
  have hsm : ∀ W : World, (Op.equalIn 10000 43 (.agg #[.int .u32 m0, .int .u32 m1, .int .u32 m2, .int .u32 m3, .int .u32 m4]) (.agg #[.int .u32 m0, .int .u32 m1, .int .u32 m2, .int .u32 m3, .int .u32 m4])).run Try.prog W = .ok true W := fun W => same_super m0 m1 m2 m3 m4 k0 k1 k2 k3 k4 W
  have hsz : ∀ W : World, (Op.equalIn 10000 43 (.agg #[.int .u32 0, .int .u32 0, .int .u32 0, .int .u32 0, .int .u32 0]) (.agg #[.int .u32 0, .int .u32 0, .int .u32 0, .int .u32 0, .int .u32 0])).run Try.prog W = .ok true W := fun W => same_super 0 0 0 0 0 (by decide) (by decide) (by decide) (by decide) (by decide) W
  have hxx : (x != x) = false := by simp
  have hcA : ∀ {W : World} {q : Nat}, Whole W q 74 (bytesV a) → (convert 39 9 (.slice (some ⟨q, 0, none⟩) 64 64)).run Try.prog W = .ok (.string (B a)) W := fun h => by
    have h := convBytes 64 h.range
    rwa [ha] at h
  have hcB : ∀ {W : World} {q : Nat}, Whole W q 74 (bytesV b) → (convert 39 9 (.slice (some ⟨q, 0, none⟩) 64 64)).run Try.prog W = .ok (.string (B b)) W := fun h => by
    have h := convBytes 64 h.range
    rwa [hb] at h
  replace hwA := Lib.hid hwA
  replace hwB := Lib.hid hwB
  replace hfu := Lib.hid hfu
  replace hst := Lib.hid hst
  replace hdl := Lib.hid hdl
  replace hsn := Lib.hid hsn
  replace hld := Lib.hid hld
  replace hpi := Lib.hid hpi
  obtain ⟨W3, hW3, hA, hC, hS, hB3⟩ := three_boxes w 74 74 43 (bytesV a) (bytesV b) (u32s n0 n1 n2 n3 n4)
  have eA := hA.lt
  have eC := hC.lt
  have eS := hS.lt
  replace hW3 := Lib.hid hW3
  replace hcA : Hid (∀ W, Below W3.heap.size W3 W → (convert 39 9 (.slice (some ⟨w.heap.size, 0, none⟩) 64 64)).run Try.prog W = .ok (.string (B a)) W) := Lib.hid (fun W hb => hcA (hA.below hb eA))
  replace hcB : Hid (∀ W, Below W3.heap.size W3 W → (convert 39 9 (.slice (some ⟨w.heap.size + 1, 0, none⟩) 64 64)).run Try.prog W = .ok (.string (B b)) W) := Lib.hid (fun W hb => hcB (hC.below hb eC))
  replace hS : Hid (∀ W, Below W3.heap.size W3 W → Whole W (w.heap.size + 1 + 1) 43 (u32s n0 n1 n2 n3 n4)) := Lib.hid (fun W hb => hS.below hb eS)
  have hend : Hid (∀ W, Below W3.heap.size W3 W → Below w.heap.size w W) := Lib.hid (fun W hb => grew hB3 hb)
  clear hA hC hB3 eA eC eS l0 l1 l2 l3 l4 k0 k1 k2 k3 k4 ha hb
  go_enter Try.func8, Try.ntmps8
  go_wp2_with fail
  rw [show (((w.alloc (Obj.cells (bytesV a).toArray 74)).alloc (Obj.cells (bytesV b).toArray 74)).alloc (Obj.cells #[.int .u32 n0, .int .u32 n1, .int .u32 n2, .int .u32 n3, .int .u32 n4] 43)) = W3 from hW3.out.symm]
  clear hW3
  refine (new_in 4 W3 (by decide) (by decide)).mono ?_
  rintro _ w4 ⟨rfl, hD4, hb4⟩
  go_wp2_with fail
  refine (vnew_in (from_ := 1) (n := 2) w4 hD4 (by decide) (by decide)).mono ?_
  rintro _ w5 ⟨rfl, hv5, hb5⟩
  have h5 := sv_new 4 1 2 W3 w4 w5 hb4 hv5 hb5
  clear hb5 hb4 hD4 hv5
  generalize w4.heap.size = vb at *
  clear w4
  have cA := hcA.out _ h5.since
  replace h5 := Lib.hid h5
  go_wp2_with fail
  refine (hwA.out _ _ _ _ _ h5.out).mono ?_
  rintro _ w6 ⟨rfl, h6⟩
  clear cA h5 hwA
  have cB := hcB.out _ h6.since
  replace h6 := Lib.hid h6
  go_wp2_with fail
  refine (hwB.out _ _ _ _ _ h6.out).mono ?_
  rintro _ w7 ⟨rfl, h7⟩
  clear cB h6 hwB w6
  replace h7 := Lib.hid h7
  go_wp2_with fail
  refine (hld.out _ _ _ _ _ h7.out).mono ?_
  rintro _ w8 ⟨rfl, hb8⟩
  have hX := Whole.new w8 43 (u32s m0 m1 m2 m3 m4)
  have h9 := h7.out.below (grewAlloc hb8 (.cells (u32s m0 m1 m2 m3 m4).toArray 43))
  obtain ⟨V0, hV⟩ : ∃ V0, Hid (V0 = w8.alloc (.cells #[.int .u32 m0, .int .u32 m1, .int .u32 m2, .int .u32 m3, .int .u32 m4] 43)) := ⟨_, Lib.hid rfl⟩
  replace hX : Whole V0 w8.heap.size 43 (u32s m0 m1 m2 m3 m4) := by rw [hV.out]; exact hX
  replace h9 : SV W3 vb (W3.heap.size + 1) W3.heap.size (zeros 4) [(1, a), (2, b)] 1 2 (-1) 2 false V0 := by rw [hV.out]; exact h9
  have cA : ∀ W, Below V0.heap.size V0 W → (convert 39 9 (.slice (some ⟨w.heap.size, 0, none⟩) 64 64)).run Try.prog W = .ok (.string (B a)) W := fun W hb => hcA.out _ (h9.below hb).since
  have cB : ∀ W, Below V0.heap.size V0 W → (convert 39 9 (.slice (some ⟨w.heap.size + 1, 0, none⟩) 64 64)).run Try.prog W = .ok (.string (B b)) W := fun W hb => hcB.out _ (h9.below hb).since
  clear hb8 h7 w7 hld hcA hcB
  replace h9 := Lib.hid h9
  replace hX := Lib.hid hX
  go_wp2_with fail
  rw [← hV.out]
  clear hV
  have hV0 : Below V0.heap.size V0 V0.drew := (Below.refl _ _).drew
  go_region_held3 (fun w' => Below V0.heap.size V0 w') (first | assumption | exact keepNew (by assumption) _ | exact keepSet (by first | assumption | exact keepNew (by assumption) _) (by first | exact Nat.le_refl _ | exact Below.size (by assumption)) _ _ _ _ _ | (go_keep)) (first
    | (go_at_call 23; (with_reducible refine (hpi.out _).mono ?_); rintro _ w10 ⟨rfl, hb10⟩; have hk10 : Below V0.heap.size V0 w10 := grew (by assumption) hb10; (try (have hy := newBelow hb10; have y0 := hy.cell 0; have y1 := hy.cell 1; have y2 := hy.cell 2; have y3 := hy.cell 3; have y4 := hy.cell 4; have z0 := hy.frozen 0; have z1 := hy.frozen 1; have z2 := hy.frozen 2; have z3 := hy.frozen 3; have z4 := hy.frozen 4; simp only [List.getElem?_cons_zero, List.getElem?_cons_succ] at y0 y1 y2 y3 y4))))
  all_goals (first
    | (have hY := whole_all hy (vs := u32s m0 m1 m2 m3 m4) rfl; have hK : Below V0.heap.size V0 (w10.setCells V0.heap.size 0 (u32s m0 m1 m2 m3 m4)) := (by assumption); clear hy y0 y1 y2 y3 y4 z0 z1 z2 z3 z4
       rw [show ((((w10.setCell ⟨V0.heap.size, 0, none⟩ (.int .u32 m0)).setCell ⟨V0.heap.size, 1, none⟩ (.int .u32 m1)).setCell ⟨V0.heap.size, 2, none⟩ (.int .u32 m2)).setCell ⟨V0.heap.size, 3, none⟩ (.int .u32 m3)).setCell ⟨V0.heap.size, 4, none⟩ (.int .u32 m4) = w10.setCells V0.heap.size 0 (u32s m0 m1 m2 m3 m4) from rfl]
       generalize w10.setCells V0.heap.size 0 (u32s m0 m1 m2 m3 m4) = w11 at hY hK ⊢
       obtain ⟨yb, hyb⟩ : ∃ yb, Hid (V0.heap.size = yb) := ⟨_, Lib.hid rfl⟩
       rw [hyb.out] at hY ⊢)
    | (have hY := Whole.new w10 43 (u32s m0 m1 m2 m3 m4); have hK : Below V0.heap.size V0 (w10.alloc (.cells #[.int .u32 m0, .int .u32 m1, .int .u32 m2, .int .u32 m3, .int .u32 m4] 43)) := (by assumption)
       rw [show (u32s m0 m1 m2 m3 m4).toArray = #[.int .u32 m0, .int .u32 m1, .int .u32 m2, .int .u32 m3, .int .u32 m4] from rfl] at hY
       generalize w10.alloc (.cells #[.int .u32 m0, .int .u32 m1, .int .u32 m2, .int .u32 m3, .int .u32 m4] 43) = w11 at hY hK ⊢
       obtain ⟨yb, hyb⟩ : ∃ yb, Hid (w10.heap.size = yb) := ⟨_, Lib.hid rfl⟩
       rw [hyb.out] at hY ⊢))
  all_goals clear hyb hb10 hk10 hV0 cA cB hpi
  all_goals (
    have hX11 := hX.out.below hK hX.out.lt
    have h11 := h9.out.below hK
    clear hX h9 hK
    generalize w8.heap.size = xb at *
    obtain ⟨⟨x0, x1⟩, x2, x3, x4⟩ := five hX11
    obtain ⟨⟨y0, y1⟩, y2, y3, y4⟩ := five hY
    replace h11 := Lib.hid h11
    clear hX11 hY
    go_wp2_with fail
    refine (hfu.out _ _ _ _ _ h11.out).mono ?_
    rintro _ w12 ⟨rfl, h12⟩
    clear x0 x1 x2 x3 x4 y0 y1 y2 y3 y4 h11 hfu
    obtain ⟨⟨s0, s1⟩, s2, s3, s4⟩ := five (hS.out _ h12.since)
    replace h12 := Lib.hid h12
    go_wp2_with fail
    refine (hst.out _ _ _ _ _ h12.out).mono ?_
    rintro _ w13 ⟨rfl, h13⟩
    clear s0 s1 s2 s3 s4 h12 hst
    replace h13 := Lib.hid h13
    go_wp2_with fail
    refine (hdl.out _ _ _ _ _ h13.out).mono ?_
    rintro _ w14 ⟨rfl, hb14⟩
    have hZ := Whole.new w14 43 (u32s 0 0 0 0 0)
    have h15 := Lib.hid (h13.out.below (grewAlloc hb14 (.cells #[.int .u32 0, .int .u32 0, .int .u32 0, .int .u32 0, .int .u32 0] 43)))
    clear hb14 h13 hdl
    go_wp2_with fail
    refine (load_none _).mono ?_
    rintro _ w16 ⟨rfl, hb16⟩
    have hZ17 := (hZ.below hb16 hZ.lt).alloc (.cells #[.int .u32 0, .int .u32 0, .int .u32 0, .int .u32 0, .int .u32 0] 43)
    have hN17 := Whole.new w16 43 (u32s 0 0 0 0 0)
    have h17 := h15.out.below (grewAlloc hb16 (.cells #[.int .u32 0, .int .u32 0, .int .u32 0, .int .u32 0, .int .u32 0] 43))
    clear hZ hb16 h15
    generalize w14.heap.size = zb at *
    obtain ⟨⟨x0, x1⟩, x2, x3, x4⟩ := five hZ17
    obtain ⟨⟨y0, y1⟩, y2, y3, y4⟩ := five hN17
    obtain ⟨⟨s0, s1⟩, s2, s3, s4⟩ := five (hS.out _ h17.since)
    replace h17 := Lib.hid h17
    clear hZ17 hN17 hS
    go_wp2_with fail
    refine (hsn.out _).mono ?_
    rintro _ w18 ⟨rfl, hb18⟩
    clear x0 x1 x2 x3 x4 y0 y1 y2 y3 y4 s0 s1 s2 s3 s4
    go_wp2_with fail
    refine (three_any _).mono ?_
    rintro _ w19 ⟨rfl, hb19⟩
    go_wp2_with fail
    go_ret
    exact ⟨rfl, hend.out _ ((h17.out.below hb18).below hb19).since⟩)
end Go.Proofs.Ytkmlmondhmpkkaa.W
