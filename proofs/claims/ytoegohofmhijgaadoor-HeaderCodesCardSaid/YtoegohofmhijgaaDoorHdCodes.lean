/- The walks of HeaderCodes. -/
import Derived.Test.YtoegohofmhijgaaDoorHdOne
namespace Go.Proofs.YtoegohofmhijgaaDoor.W
open Go.RowKit Go.Sort
open Go.Proofs.YtoegohofmhijgaaDoor.M Go.Proofs.YtoegohofmhijgaaDoor.D Go.Proofs.YtoegohofmhijgaaDoor.Z
set_option linter.unusedVariables false

theorem wfI (a : Nat) (h : a ≤ 1099511627776) : (Lit.int .i64 (a : Int)).wf = true := by
  have h1 : IntKind.i64.min = -9223372036854775808 := by decide
  have h2 : IntKind.i64.max = 9223372036854775807 := by decide
  simp [Lit.wf, h1, h2]; omega
theorem wfUn (a : Nat) (h : a < 4294967296) : (Lit.int .u32 (a : Int)).wf = true := by
  have h1 : IntKind.u32.min = 0 := by decide
  have h2 : IntKind.u32.max = 4294967295 := by decide
  simp [Lit.wf, h1, h2]; omega
set_option maxRecDepth 100000 in
set_option maxHeartbeats 8000000 in
theorem hcodes_no (a g s b : Int) (t : ByteArray) (n0 n1 n2 n3 k : Int) (w : World) (hT : Wide w) (ht : t.size ≤ 200) (hk : okH a b = false)
    (k0 : (Lit.int .i64 n0).wf = true) (k1 : (Lit.int .u32 n1).wf = true) (k2 : (Lit.int .u32 n2).wf = true) (k3 : (Lit.int .i64 n3).wf = true)
    (hp : ∀ W : World, Wide W → Calls Tryd.prog 8 #[.string t] W fun x w' => x = .returned (.tuple #[.agg #[.int .i64 n0, .int .u32 n1, .int .u32 n2, .int .i64 n3], .int .i64 k]) ∧ Below W.heap.size W w')
    (hr : ∀ W : World, Calls Tryd.prog 9 #[.string t] W fun x w' => x = .returned (.agg #[.int .i64 n0, .int .u32 n1, .int .u32 n2, .int .i64 n3, .int .i64 k]) ∧ Below W.heap.size W w') :
    Calls Tryd.prog 3 #[.agg #[.int .i64 a, .int .u32 g, .int .u32 s, .int .i64 b], .string t] w fun x w' => x = .returned (.bool true) ∧ Below w.heap.size w w' := by
  have hsm : ∀ W : World, (Op.equalIn 10000 29 (.agg #[.int .i64 n0, .int .u32 n1, .int .u32 n2, .int .i64 n3]) (.agg #[.int .i64 n0, .int .u32 n1, .int .u32 n2, .int .i64 n3])).run Tryd.prog W = .ok true W := fun W => same_rhd n0 n1 n2 n3 k0 k1 k2 k3 W
  have hrf : ∀ W : World, Calls Tryd.prog 10 #[.agg #[.int .i64 n0, .int .u32 n1, .int .u32 n2, .int .i64 n3]] W fun x w' => x = .returned (.agg #[.int .i64 n0, .int .u32 n1, .int .u32 n2, .int .i64 n3]) ∧ Below W.heap.size W w' := fun W => refH_any n0 n1 n2 n3 W
  have hrs := fun W => refH_any a g s b W
  have hkk : (k != k) = false := by simp
  have hen := Lib.hid (fun W => encH_no a g s b W hk)
  have hma := fun W => rmayH_any a g s b W
  rw [hk] at hma
  clear hk
  have z1 : (t.size : Int) ≤ 200 := by omega
  have ok1 : decide (200 < (t.size : Int)) = false := by simp; omega
  replace hp := Lib.hid hp
  replace hr := Lib.hid hr
  replace hrf := Lib.hid hrf
  replace hrs := Lib.hid hrs
  replace hma := Lib.hid hma
  replace hT := Lib.hid hT
  clear ht k0 k1 k2 k3
  go_enter Tryd.func3, Tryd.ntmps3
  go_wp2_with fail
  have hA := Whole.new w 24 (hdr a g s b)
  have hB := (Below.refl w.heap.size w).alloc (Nat.le_refl _) (.cells (hdr a g s b).toArray 24)
  refine (hp.out _ (hT.out.below hB)).mono ?_
  rintro ee w1 ⟨rfl, hb1⟩
  replace hA := (hA.below hb1 hA.lt).alloc (.cells (hdr n0 n1 n2 n3).toArray 24)
  replace hB := grewAlloc (grew hB hb1) (.cells (hdr n0 n1 n2 n3).toArray 24)
  have hX := Whole.new w1 24 (hdr n0 n1 n2 n3)
  clear hb1
  go_wp2_with fail
  refine (hr.out _).mono ?_
  rintro ee w2 ⟨rfl, hb2⟩
  replace hA := (hA.below hb2 hA.lt).alloc (.cells #[.int .i64 n0, .int .u32 n1, .int .u32 n2, .int .i64 n3, .int .i64 k] 31)
  replace hX := (hX.below hb2 hX.lt).alloc (.cells #[.int .i64 n0, .int .u32 n1, .int .u32 n2, .int .i64 n3, .int .i64 k] 31)
  replace hB := grewAlloc (grew hB hb2) (.cells #[.int .i64 n0, .int .u32 n1, .int .u32 n2, .int .i64 n3, .int .i64 k] 31)
  have hG := Whole.new w2 31 [.int .i64 n0, .int .u32 n1, .int .u32 n2, .int .i64 n3, .int .i64 k]
  clear hb2
  go_wp2_with fail
  generalize w1.heap.size = xb at *
  obtain ⟨V0, hV⟩ : ∃ V0, Hid (V0 = w2.alloc (.cells #[.int .i64 n0, .int .u32 n1, .int .u32 n2, .int .i64 n3, .int .i64 k] 31)) := ⟨_, Lib.hid rfl⟩
  rw [← hV.out]
  replace hA : Whole V0 w.heap.size 24 (hdr a g s b) := by rw [hV.out]; exact hA
  replace hX : Whole V0 xb 24 (hdr n0 n1 n2 n3) := by rw [hV.out]; exact hX
  replace hG : Whole V0 w2.heap.size 31 [.int .i64 n0, .int .u32 n1, .int .u32 n2, .int .i64 n3, .int .i64 k] := by rw [hV.out]; exact hG
  replace hB : Hid (Below w.heap.size w V0) := Lib.hid (by rw [hV.out]; exact hB)
  clear hV
  generalize w2.heap.size = gb at *
  have g4 : ∀ dd os, (grow (redrawn V0 dd) os).cell? ⟨gb, 4, none⟩ = some (.int .i64 k) := fun dd os => (hG.below (below_regrown V0 dd os) hG.lt).cell 4
  have hr0 : Hid (∀ w', (∃ p : Regrown, w' = grow (redrawn V0 p.d) p.os) → w'.rangeAt xb 0 (hdr n0 n1 n2 n3)) := Lib.hid (by
    rintro _ ⟨p, rfl⟩
    exact (hX.below (below_regrown V0 p.d p.os) hX.lt).range)
  have hr1 : Hid (∀ w', (∃ p : Regrown, w' = grow (redrawn V0 p.d) p.os) → w'.rangeAt gb 0 (hdr n0 n1 n2 n3)) := Lib.hid (by
    rintro _ ⟨p, rfl⟩
    have h := (hG.below (below_regrown V0 p.d p.os) hG.lt).part 0 4
    exact h)
  have ca0 := Lib.hid (regrown_any hrf.out V0)
  replace hA := Lib.hid hA
  replace hX := Lib.hid hX
  replace hG := Lib.hid hG
  have hz0 : Hid ((Tryd.prog.info? 24).map (·.size) = some (hdr n0 n1 n2 n3).length) := Lib.hid sizeH4
  have hz1 : Hid ((Tryd.prog.info? 29).map (·.size) = some (hdr n0 n1 n2 n3).length) := Lib.hid sizeR4
  refine wp_region_quiet_below (by kernel_rfl) (by kernel_rfl) ?_
  repeat (first
    | ((with_reducible refine quiet_load 24 _ xb (hdr n0 n1 n2 n3) ?_ hr0.out Tryd.underlying24 ?_ hz0.out ?_ ?_); (· rfl); (· rfl); (· rfl); simp only [Act.put, List.setIfInBounds_toArray, List.set_cons_zero, List.set_cons_succ])
    | ((with_reducible refine quiet_load 29 _ gb (hdr n0 n1 n2 n3) ?_ hr1.out Tryd.underlying29 ?_ hz1.out ?_ ?_); (· rfl); (· rfl); (· rfl); simp only [Act.put, List.setIfInBounds_toArray, List.set_cons_zero, List.set_cons_succ])
    | go_big_quiet_step (first | exact ca0.out _ _))
  refine wpQuiet_nil ?_
  intro _ hw'
  obtain ⟨⟨dq, osq⟩, hw''⟩ := hw'
  subst hw''
  replace hB := Lib.hid (grew hB.out (below_regrown V0 dq osq))
  replace hA := hA.out.below (below_regrown V0 dq osq) hA.out.lt
  clear g4 hr0 hr1 hz0 hz1 ca0 hX hG hsm
  generalize grow (redrawn V0 dq) osq = V1 at *
  have a0 := hA.cell 0
  have a1 := hA.cell 1
  have a2 := hA.cell 2
  have a3 := hA.cell 3
  simp only [List.getElem?_cons_zero, List.getElem?_cons_succ] at a0 a1 a2 a3
  go_wp2_with fail
  refine (hen.out _).mono ?_
  rintro ee w3 ⟨rfl, hb3⟩
  replace hA := hA.below hb3 hA.lt
  replace hB := Lib.hid (grew hB.out hb3)
  clear hb3 a0 a1 a2 a3
  have a0 := hA.cell 0
  have a1 := hA.cell 1
  have a2 := hA.cell 2
  have a3 := hA.cell 3
  simp only [List.getElem?_cons_zero, List.getElem?_cons_succ] at a0 a1 a2 a3
  go_wp2_with fail
  refine (hrs.out _).mono ?_
  rintro ee w3 ⟨rfl, hb3⟩
  replace hA := hA.below hb3 hA.lt
  replace hB := Lib.hid (grew hB.out hb3)
  clear hb3 a0 a1 a2 a3
  have a0 := hA.cell 0
  have a1 := hA.cell 1
  have a2 := hA.cell 2
  have a3 := hA.cell 3
  simp only [List.getElem?_cons_zero, List.getElem?_cons_succ] at a0 a1 a2 a3
  go_wp2_with fail
  refine (hma.out _).mono ?_
  rintro ee w3 ⟨rfl, hb3⟩
  replace hA := hA.below hb3 hA.lt
  replace hB := Lib.hid (grew hB.out hb3)
  clear hb3 a0 a1 a2 a3
  have a0 := hA.cell 0
  have a1 := hA.cell 1
  have a2 := hA.cell 2
  have a3 := hA.cell 3
  simp only [List.getElem?_cons_zero, List.getElem?_cons_succ] at a0 a1 a2 a3
  go_wp2_with fail
  refine (one_any _ (hT.out.below hB.out)).mono ?_
  rintro ee w4 ⟨rfl, hb4⟩
  go_wp2_with fail
  go_ret
  exact ⟨rfl, grew hB.out hb4⟩
set_option maxRecDepth 100000 in
set_option maxHeartbeats 8000000 in
theorem hcodes_yes (a g s b : Nat) (t : ByteArray) (n0 n1 n2 n3 k : Int) (w : World) (hT : Wide w) (ht : t.size ≤ 200) (h0 : 1 ≤ a) (ha : a < 65536) (hg : g < 4294967296) (hs : s < 4294967296) (hb : b ≤ 1099511627776)
    (k0 : (Lit.int .i64 n0).wf = true) (k1 : (Lit.int .u32 n1).wf = true) (k2 : (Lit.int .u32 n2).wf = true) (k3 : (Lit.int .i64 n3).wf = true)
    (hp : ∀ W : World, Wide W → Calls Tryd.prog 8 #[.string t] W fun x w' => x = .returned (.tuple #[.agg #[.int .i64 n0, .int .u32 n1, .int .u32 n2, .int .i64 n3], .int .i64 k]) ∧ Below W.heap.size W w')
    (hr : ∀ W : World, Calls Tryd.prog 9 #[.string t] W fun x w' => x = .returned (.agg #[.int .i64 n0, .int .u32 n1, .int .u32 n2, .int .i64 n3, .int .i64 k]) ∧ Below W.heap.size W w') :
    Calls Tryd.prog 3 #[.agg #[.int .i64 (a : Int), .int .u32 (g : Int), .int .u32 (s : Int), .int .i64 (b : Int)], .string t] w fun x w' => x = .returned (.bool true) ∧ Below w.heap.size w w' := by
  have hsm : ∀ W : World, (Op.equalIn 10000 29 (.agg #[.int .i64 n0, .int .u32 n1, .int .u32 n2, .int .i64 n3]) (.agg #[.int .i64 n0, .int .u32 n1, .int .u32 n2, .int .i64 n3])).run Tryd.prog W = .ok true W := fun W => same_rhd n0 n1 n2 n3 k0 k1 k2 k3 W
  have hrf : ∀ W : World, Calls Tryd.prog 10 #[.agg #[.int .i64 n0, .int .u32 n1, .int .u32 n2, .int .i64 n3]] W fun x w' => x = .returned (.agg #[.int .i64 n0, .int .u32 n1, .int .u32 n2, .int .i64 n3]) ∧ Below W.heap.size W w' := fun W => refH_any n0 n1 n2 n3 W
  have hrs := fun W => refH_any (a : Int) (g : Int) (s : Int) (b : Int) W
  have hkk : (k != k) = false := by simp
  have hen := fun W hW => encH_yes a g s b W hW h0 ha hg hs hb
  have hre := fun W => rencH_any a g s b W ha hg hs hb
  have hde := fun W hW => decH_of a g s b t W hW h0 ha hg hs hb
  have hss : ∀ W : World, (Op.equalIn 10000 24 (.agg #[.int .i64 (a : Int), .int .u32 (g : Int), .int .u32 (s : Int), .int .i64 (b : Int)]) (.agg #[.int .i64 (a : Int), .int .u32 (g : Int), .int .u32 (s : Int), .int .i64 (b : Int)])).run Tryd.prog W = .ok true W := fun W => same_hd a g s b (wfI a (by omega)) (wfUn g hg) (wfUn s hs) (wfI b (by omega)) W
  have hma := fun W => rmayH_any (a : Int) g s b W
  rw [okH_yes a b h0 ha hb] at hma
  have hTz : (B (headerL a g s b)).size = 32 := by rw [B_size, headerL_len]
  obtain ⟨U, hUU⟩ : ∃ U, Hid (B (headerL a g s b) = U) := ⟨_, Lib.hid rfl⟩
  rw [hUU.out] at hen hre hde hTz
  have hUe := bytes_eq (rfl : U = U)
  replace hen := Lib.hid hen
  replace hre := Lib.hid hre
  replace hde := Lib.hid hde
  clear h0 ha hg hs hb hUU
  have z1 : (t.size : Int) ≤ 200 := by omega
  have ok1 : decide (200 < (t.size : Int)) = false := by simp; omega
  replace hp := Lib.hid hp
  replace hr := Lib.hid hr
  replace hrf := Lib.hid hrf
  replace hrs := Lib.hid hrs
  replace hma := Lib.hid hma
  replace hT := Lib.hid hT
  clear ht k0 k1 k2 k3
  go_enter Tryd.func3, Tryd.ntmps3
  go_wp2_with fail
  have hA := Whole.new w 24 (hdr (a : Int) (g : Int) (s : Int) (b : Int))
  have hB := (Below.refl w.heap.size w).alloc (Nat.le_refl _) (.cells (hdr (a : Int) (g : Int) (s : Int) (b : Int)).toArray 24)
  refine (hp.out _ (hT.out.below hB)).mono ?_
  rintro ee w1 ⟨rfl, hb1⟩
  replace hA := (hA.below hb1 hA.lt).alloc (.cells (hdr n0 n1 n2 n3).toArray 24)
  replace hB := grewAlloc (grew hB hb1) (.cells (hdr n0 n1 n2 n3).toArray 24)
  have hX := Whole.new w1 24 (hdr n0 n1 n2 n3)
  clear hb1
  go_wp2_with fail
  refine (hr.out _).mono ?_
  rintro ee w2 ⟨rfl, hb2⟩
  replace hA := (hA.below hb2 hA.lt).alloc (.cells #[.int .i64 n0, .int .u32 n1, .int .u32 n2, .int .i64 n3, .int .i64 k] 31)
  replace hX := (hX.below hb2 hX.lt).alloc (.cells #[.int .i64 n0, .int .u32 n1, .int .u32 n2, .int .i64 n3, .int .i64 k] 31)
  replace hB := grewAlloc (grew hB hb2) (.cells #[.int .i64 n0, .int .u32 n1, .int .u32 n2, .int .i64 n3, .int .i64 k] 31)
  have hG := Whole.new w2 31 [.int .i64 n0, .int .u32 n1, .int .u32 n2, .int .i64 n3, .int .i64 k]
  clear hb2
  go_wp2_with fail
  generalize w1.heap.size = xb at *
  obtain ⟨V0, hV⟩ : ∃ V0, Hid (V0 = w2.alloc (.cells #[.int .i64 n0, .int .u32 n1, .int .u32 n2, .int .i64 n3, .int .i64 k] 31)) := ⟨_, Lib.hid rfl⟩
  rw [← hV.out]
  replace hA : Whole V0 w.heap.size 24 (hdr (a : Int) (g : Int) (s : Int) (b : Int)) := by rw [hV.out]; exact hA
  replace hX : Whole V0 xb 24 (hdr n0 n1 n2 n3) := by rw [hV.out]; exact hX
  replace hG : Whole V0 w2.heap.size 31 [.int .i64 n0, .int .u32 n1, .int .u32 n2, .int .i64 n3, .int .i64 k] := by rw [hV.out]; exact hG
  replace hB : Hid (Below w.heap.size w V0) := Lib.hid (by rw [hV.out]; exact hB)
  clear hV
  generalize w2.heap.size = gb at *
  have g4 : ∀ dd os, (grow (redrawn V0 dd) os).cell? ⟨gb, 4, none⟩ = some (.int .i64 k) := fun dd os => (hG.below (below_regrown V0 dd os) hG.lt).cell 4
  have hr0 : Hid (∀ w', (∃ p : Regrown, w' = grow (redrawn V0 p.d) p.os) → w'.rangeAt xb 0 (hdr n0 n1 n2 n3)) := Lib.hid (by
    rintro _ ⟨p, rfl⟩
    exact (hX.below (below_regrown V0 p.d p.os) hX.lt).range)
  have hr1 : Hid (∀ w', (∃ p : Regrown, w' = grow (redrawn V0 p.d) p.os) → w'.rangeAt gb 0 (hdr n0 n1 n2 n3)) := Lib.hid (by
    rintro _ ⟨p, rfl⟩
    have h := (hG.below (below_regrown V0 p.d p.os) hG.lt).part 0 4
    exact h)
  have ca0 := Lib.hid (regrown_any hrf.out V0)
  replace hA := Lib.hid hA
  replace hX := Lib.hid hX
  replace hG := Lib.hid hG
  have hz0 : Hid ((Tryd.prog.info? 24).map (·.size) = some (hdr n0 n1 n2 n3).length) := Lib.hid sizeH4
  have hz1 : Hid ((Tryd.prog.info? 29).map (·.size) = some (hdr n0 n1 n2 n3).length) := Lib.hid sizeR4
  refine wp_region_quiet_below (by kernel_rfl) (by kernel_rfl) ?_
  repeat (first
    | ((with_reducible refine quiet_load 24 _ xb (hdr n0 n1 n2 n3) ?_ hr0.out Tryd.underlying24 ?_ hz0.out ?_ ?_); (· rfl); (· rfl); (· rfl); simp only [Act.put, List.setIfInBounds_toArray, List.set_cons_zero, List.set_cons_succ])
    | ((with_reducible refine quiet_load 29 _ gb (hdr n0 n1 n2 n3) ?_ hr1.out Tryd.underlying29 ?_ hz1.out ?_ ?_); (· rfl); (· rfl); (· rfl); simp only [Act.put, List.setIfInBounds_toArray, List.set_cons_zero, List.set_cons_succ])
    | go_big_quiet_step (first | exact ca0.out _ _))
  refine wpQuiet_nil ?_
  intro _ hw'
  obtain ⟨⟨dq, osq⟩, hw''⟩ := hw'
  subst hw''
  replace hB := Lib.hid (grew hB.out (below_regrown V0 dq osq))
  replace hA := hA.out.below (below_regrown V0 dq osq) hA.out.lt
  clear g4 hr0 hr1 hz0 hz1 ca0 hX hG hsm
  generalize grow (redrawn V0 dq) osq = V1 at *
  have a0 := hA.cell 0
  have a1 := hA.cell 1
  have a2 := hA.cell 2
  have a3 := hA.cell 3
  simp only [List.getElem?_cons_zero, List.getElem?_cons_succ] at a0 a1 a2 a3
  go_wp2_with fail
  refine (hen.out _ (hT.out.below hB.out)).mono ?_
  rintro ee w3 ⟨rfl, hb3⟩
  replace hA := hA.below hb3 hA.lt
  replace hB := Lib.hid (grew hB.out hb3)
  clear hb3 a0 a1 a2 a3
  have a0 := hA.cell 0
  have a1 := hA.cell 1
  have a2 := hA.cell 2
  have a3 := hA.cell 3
  simp only [List.getElem?_cons_zero, List.getElem?_cons_succ] at a0 a1 a2 a3
  go_wp2_with fail
  refine (hrs.out _).mono ?_
  rintro ee w3 ⟨rfl, hb3⟩
  replace hA := hA.below hb3 hA.lt
  replace hB := Lib.hid (grew hB.out hb3)
  clear hb3 a0 a1 a2 a3
  have a0 := hA.cell 0
  have a1 := hA.cell 1
  have a2 := hA.cell 2
  have a3 := hA.cell 3
  simp only [List.getElem?_cons_zero, List.getElem?_cons_succ] at a0 a1 a2 a3
  go_wp2_with fail
  refine (hma.out _).mono ?_
  rintro ee w3 ⟨rfl, hb3⟩
  replace hA := hA.below hb3 hA.lt
  replace hB := Lib.hid (grew hB.out hb3)
  clear hb3 a0 a1 a2 a3
  have a0 := hA.cell 0
  have a1 := hA.cell 1
  have a2 := hA.cell 2
  have a3 := hA.cell 3
  simp only [List.getElem?_cons_zero, List.getElem?_cons_succ] at a0 a1 a2 a3
  go_wp2_with fail
  refine (hde.out _ (hT.out.below hB.out)).mono ?_
  rintro ee w4 ⟨rfl, hb4⟩
  clear a0 a1 a2 a3
  replace hA := (hA.below hb4 hA.lt).alloc (.cells (hdr (a : Int) (g : Int) (s : Int) (b : Int)).toArray 24)
  replace hB := Lib.hid (grewAlloc (grew hB.out hb4) (.cells (hdr (a : Int) (g : Int) (s : Int) (b : Int)).toArray 24))
  have hY := Whole.new w4 24 (hdr (a : Int) (g : Int) (s : Int) (b : Int))
  clear hb4
  have a0 : (w4.alloc (.cells #[.int .i64 (a : Int), .int .u32 (g : Int), .int .u32 (s : Int), .int .i64 (b : Int)] 24)).cell? ⟨w.heap.size, 0, none⟩ = some (.int .i64 (a : Int)) := hA.cell 0
  have a1 : (w4.alloc (.cells #[.int .i64 (a : Int), .int .u32 (g : Int), .int .u32 (s : Int), .int .i64 (b : Int)] 24)).cell? ⟨w.heap.size, 1, none⟩ = some (.int .u32 (g : Int)) := hA.cell 1
  have a2 : (w4.alloc (.cells #[.int .i64 (a : Int), .int .u32 (g : Int), .int .u32 (s : Int), .int .i64 (b : Int)] 24)).cell? ⟨w.heap.size, 2, none⟩ = some (.int .u32 (s : Int)) := hA.cell 2
  have a3 : (w4.alloc (.cells #[.int .i64 (a : Int), .int .u32 (g : Int), .int .u32 (s : Int), .int .i64 (b : Int)] 24)).cell? ⟨w.heap.size, 3, none⟩ = some (.int .i64 (b : Int)) := hA.cell 3
  have y0 := a0
  have y1 := a1
  have y2 := a2
  have y3 := a3
  go_wp2_with fail
  generalize w4.heap.size = yb at *
  refine (hrs.out _).mono ?_
  rintro ee w3 ⟨rfl, hb3⟩
  replace hA := hA.below hb3 hA.lt
  replace hY := hY.below hb3 hY.lt
  replace hB := Lib.hid (grew hB.out hb3)
  clear hb3 a0 a1 a2 a3 y0 y1 y2 y3
  have a0 := hA.cell 0
  have a1 := hA.cell 1
  have a2 := hA.cell 2
  have a3 := hA.cell 3
  simp only [List.getElem?_cons_zero, List.getElem?_cons_succ] at a0 a1 a2 a3
  have y0 := hY.cell 0
  have y1 := hY.cell 1
  have y2 := hY.cell 2
  have y3 := hY.cell 3
  simp only [List.getElem?_cons_zero, List.getElem?_cons_succ] at y0 y1 y2 y3
  go_wp2_with fail
  refine (hre.out _).mono ?_
  rintro ee w3 ⟨rfl, hb3⟩
  replace hA := hA.below hb3 hA.lt
  replace hY := hY.below hb3 hY.lt
  replace hB := Lib.hid (grew hB.out hb3)
  clear hb3 a0 a1 a2 a3 y0 y1 y2 y3
  have a0 := hA.cell 0
  have a1 := hA.cell 1
  have a2 := hA.cell 2
  have a3 := hA.cell 3
  simp only [List.getElem?_cons_zero, List.getElem?_cons_succ] at a0 a1 a2 a3
  have y0 := hY.cell 0
  have y1 := hY.cell 1
  have y2 := hY.cell 2
  have y3 := hY.cell 3
  simp only [List.getElem?_cons_zero, List.getElem?_cons_succ] at y0 y1 y2 y3
  go_wp2_with fail
  refine (one_any _ (hT.out.below hB.out)).mono ?_
  rintro ee w5 ⟨rfl, hb5⟩
  go_wp2_with fail
  go_ret
  exact ⟨rfl, grew hB.out hb5⟩
end Go.Proofs.YtoegohofmhijgaaDoor.W
