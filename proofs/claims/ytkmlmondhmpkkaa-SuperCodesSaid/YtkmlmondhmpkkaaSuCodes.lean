/- The walks of SuperCodes. -/
import Derived.Test.YtkmlmondhmpkkaaSuThree
import Derived.Test.YtkmlmondhmpkkaaQuietB
namespace Go.Proofs.Ytkmlmondhmpkkaa.W
open Go.RowKit Go.Sort
open Go.Proofs.Ytkmlmondhmpkkaa.M Go.Proofs.Ytkmlmondhmpkkaa.D Go.Proofs.Ytkmlmondhmpkkaa.Z
set_option linter.unusedVariables false

set_option maxRecDepth 100000 in
set_option maxHeartbeats 4000000 in
theorem scodes_yes (a b c d e : Nat) (t : ByteArray) {n0 n1 n2 n3 n4 : Nat} (w : World) (ht : t.size ≤ 200) (ba : a < 4294967296) (bb : b < 4294967296) (bc : c < 4294967296) (bd : d < 4294967296) (be : e < 4294967296) (l0 : n0 < 4294967296) (l1 : n1 < 4294967296) (l2 : n2 < 4294967296) (l3 : n3 < 4294967296) (l4 : n4 < 4294967296)
    (hp : ∀ W : World, Calls Try.prog 17 #[.string t] W fun x w' => x = .returned (.tuple #[.agg #[.int .u32 n0, .int .u32 n1, .int .u32 n2, .int .u32 n3, .int .u32 n4], .int .i64 0]) ∧ Below W.heap.size W w')
    (hr : ∀ W : World, Calls Try.prog 18 #[.string t] W fun x w' => x = .returned (.agg #[.int .u32 n0, .int .u32 n1, .int .u32 n2, .int .u32 n3, .int .u32 n4, .bool true]) ∧ Below W.heap.size W w') :
    Calls Try.prog 5 #[.agg #[.int .u32 a, .int .u32 b, .int .u32 c, .int .u32 d, .int .u32 e], .string t] w fun x w' => x = .returned (.bool true) ∧ Below w.heap.size w w' := by
  have hsm : ∀ W : World, (Op.equalIn 10000 48 (.agg #[.int .u32 n0, .int .u32 n1, .int .u32 n2, .int .u32 n3, .int .u32 n4]) (.agg #[.int .u32 n0, .int .u32 n1, .int .u32 n2, .int .u32 n3, .int .u32 n4])).run Try.prog W = .ok true W := fun W => same_rsuper n0 n1 n2 n3 n4 l0 l1 l2 l3 l4 W
  have hsz : ∀ W : World, (Op.equalIn 10000 43 (.agg #[.int .u32 0, .int .u32 0, .int .u32 0, .int .u32 0, .int .u32 0]) (.agg #[.int .u32 0, .int .u32 0, .int .u32 0, .int .u32 0, .int .u32 0])).run Try.prog W = .ok true W := fun W => same_super 0 0 0 0 0 (by decide) (by decide) (by decide) (by decide) (by decide) W
  have hss := same_super a b c d e ba bb bc bd be
  have hrf : ∀ W : World, Calls Try.prog 19 #[.agg #[.int .u32 n0, .int .u32 n1, .int .u32 n2, .int .u32 n3, .int .u32 n4]] W fun x w' => x = .returned (.agg #[.int .u32 n0, .int .u32 n1, .int .u32 n2, .int .u32 n3, .int .u32 n4]) ∧ Below W.heap.size W w' := fun W => ref_any n0 n1 n2 n3 n4 W
  have hrs := fun W => ref_any (a : Int) b c d e W
  have hen := fun W => suEncode_any a b c d e W ba bb bc bd be
  have hre := fun W => ruEncode_any a b c d e W ba bb bc bd be
  have hU := isU_super a b c d e ba bb bc bd be
  obtain ⟨m0, m1, m2, m3, m4⟩ := nums_super a b c d e ba bb bc bd be
  have hde := fun W => suDecode_yes (B (superU a b c d e)) W hU
  rw [m0, m1, m2, m3, m4] at hde
  have hpl := fun W => place_any (a : Int) b c d e W (by omega) (by omega)
  have hpp : (((a : Int) % 2) == ((a : Int) % 2)) = true := by simp
  have htm : Int.tmod (a : Int) 2 = (a : Int) % 2 := Int.tmod_eq_emod_of_nonneg (by omega)
  obtain ⟨U, hUU⟩ : ∃ U, Hid (B (superU a b c d e) = U) := ⟨_, Lib.hid rfl⟩
  rw [hUU.out] at hen hre hde
  have hUe := bytes_eq (rfl : U = U)
  clear hU m0 m1 m2 m3 m4 hUU
  have z1 : (t.size : Int) ≤ 200 := by omega
  have ok1 : decide (200 < (t.size : Int)) = false := by simp; omega
  replace hp := Lib.hid hp
  replace hr := Lib.hid hr
  replace hrf := Lib.hid hrf
  replace hrs := Lib.hid hrs
  replace hen := Lib.hid hen
  replace hre := Lib.hid hre
  replace hde := Lib.hid hde
  replace hpl := Lib.hid hpl
  clear ht
  go_enter Try.func5, Try.ntmps5
  go_wp2_with fail
  have hA := Whole.new w 43 (u32s a b c d e)
  have hB := (Below.refl w.heap.size w).alloc (Nat.le_refl _) (.cells (u32s a b c d e).toArray 43)
  refine (hp.out _).mono ?_
  rintro ee w1 ⟨rfl, hb1⟩
  replace hA := (hA.below hb1 hA.lt).alloc (.cells (u32s n0 n1 n2 n3 n4).toArray 43)
  replace hB := grewAlloc (grew hB hb1) (.cells (u32s n0 n1 n2 n3 n4).toArray 43)
  have hX := Whole.new w1 43 (u32s n0 n1 n2 n3 n4)
  clear hb1
  go_wp2_with fail
  refine (hr.out _).mono ?_
  rintro ee w2 ⟨rfl, hb2⟩
  replace hA := (hA.below hb2 hA.lt).alloc (.cells #[.int .u32 n0, .int .u32 n1, .int .u32 n2, .int .u32 n3, .int .u32 n4, .bool true] 50)
  replace hX := (hX.below hb2 hX.lt).alloc (.cells #[.int .u32 n0, .int .u32 n1, .int .u32 n2, .int .u32 n3, .int .u32 n4, .bool true] 50)
  replace hB := grewAlloc (grew hB hb2) (.cells #[.int .u32 n0, .int .u32 n1, .int .u32 n2, .int .u32 n3, .int .u32 n4, .bool true] 50)
  have hG := Whole.new w2 50 [.int .u32 n0, .int .u32 n1, .int .u32 n2, .int .u32 n3, .int .u32 n4, .bool true]
  clear hb2
  go_wp2_with fail
  generalize w1.heap.size = xb at *
  obtain ⟨V0, hV⟩ : ∃ V0, Hid (V0 = w2.alloc (.cells #[.int .u32 n0, .int .u32 n1, .int .u32 n2, .int .u32 n3, .int .u32 n4, .bool true] 50)) := ⟨_, Lib.hid rfl⟩
  rw [← hV.out]
  replace hA : Whole V0 w.heap.size 43 (u32s a b c d e) := by rw [hV.out]; exact hA
  replace hX : Whole V0 xb 43 (u32s n0 n1 n2 n3 n4) := by rw [hV.out]; exact hX
  replace hG : Whole V0 w2.heap.size 50 [.int .u32 n0, .int .u32 n1, .int .u32 n2, .int .u32 n3, .int .u32 n4, .bool true] := by rw [hV.out]; exact hG
  replace hB : Hid (Below w.heap.size w V0) := Lib.hid (by rw [hV.out]; exact hB)
  clear hV
  generalize w2.heap.size = gb at *
  have g5 : ∀ dd os, (grow (redrawn V0 dd) os).cell? ⟨gb, 5, none⟩ = some (.bool true) := fun dd os => (hG.below (below_regrown V0 dd os) hG.lt).cell 5
  have hr0 : Hid (∀ w', (∃ p : Regrown, w' = grow (redrawn V0 p.d) p.os) → w'.rangeAt xb 0 (u32s n0 n1 n2 n3 n4)) := Lib.hid (by
    rintro _ ⟨p, rfl⟩
    have h := (hX.below (below_regrown V0 p.d p.os) hX.lt).range
    exact h)
  have hr1 : Hid (∀ w', (∃ p : Regrown, w' = grow (redrawn V0 p.d) p.os) → w'.rangeAt gb 0 (u32s n0 n1 n2 n3 n4)) := Lib.hid (by
    rintro _ ⟨p, rfl⟩
    have h := (hG.below (below_regrown V0 p.d p.os) hG.lt).part 0 5
    exact h)
  have ca0 := Lib.hid (regrown_any hrf.out V0)
  replace hA := Lib.hid hA
  replace hX := Lib.hid hX
  replace hG := Lib.hid hG
  have hz0 : Hid ((Try.prog.info? 43).map (·.size) = some (u32s n0 n1 n2 n3 n4).length) := Lib.hid sizeS5
  have hz1 : Hid ((Try.prog.info? 48).map (·.size) = some (u32s n0 n1 n2 n3 n4).length) := Lib.hid sizeR5
  refine wp_region_quiet_below (by kernel_rfl) (by kernel_rfl) ?_
  repeat (first
    | ((with_reducible refine quiet_load 43 _ xb (u32s n0 n1 n2 n3 n4) ?_ hr0.out Try.underlying43 ?_ hz0.out ?_ ?_); (· rfl); (· rfl); (· rfl); simp only [Act.put, List.setIfInBounds_toArray, List.set_cons_zero, List.set_cons_succ])
    | ((with_reducible refine quiet_load 48 _ gb (u32s n0 n1 n2 n3 n4) ?_ hr1.out Try.underlying48 ?_ hz1.out ?_ ?_); (· rfl); (· rfl); (· rfl); simp only [Act.put, List.setIfInBounds_toArray, List.set_cons_zero, List.set_cons_succ])
    | go_big_quiet_step (first | exact ca0.out _ _))
  refine wpQuiet_nil ?_
  intro _ hw'
  obtain ⟨⟨dq, osq⟩, hw''⟩ := hw'
  subst hw''
  replace hB := Lib.hid (grew hB.out (below_regrown V0 dq osq))
  replace hA := hA.out.below (below_regrown V0 dq osq) hA.out.lt
  replace hX := hX.out.below (below_regrown V0 dq osq) hX.out.lt
  replace hG := hG.out.below (below_regrown V0 dq osq) hG.out.lt
  clear g5 hr0 hr1 hz0 hz1 ca0
  generalize grow (redrawn V0 dq) osq = V1 at *
  clear hX hG hsm hsz
  obtain ⟨⟨q0, q1⟩, q2, q3, q4⟩ := five hA
  go_wp2_with fail
  refine (hen.out _).mono ?_
  rintro ee w3 ⟨rfl, hb3⟩
  replace hA := hA.below hb3 hA.lt
  replace hB := Lib.hid (grew hB.out hb3)
  clear hb3 q0 q1 q2 q3 q4
  go_wp2_with fail
  refine (hde.out _).mono ?_
  rintro ee w4 ⟨rfl, hb4⟩
  replace hA := (hA.below hb4 hA.lt).alloc (.cells (u32s a b c d e).toArray 43)
  replace hB := Lib.hid (grewAlloc (grew hB.out hb4) (.cells (u32s a b c d e).toArray 43))
  have hY := Whole.new w4 43 (u32s a b c d e)
  clear hb4
  go_wp2_with fail
  obtain ⟨V2, hV⟩ : ∃ V2, Hid (V2 = w4.alloc (.cells #[.int .u32 a, .int .u32 b, .int .u32 c, .int .u32 d, .int .u32 e] 43)) := ⟨_, Lib.hid rfl⟩
  rw [← hV.out]
  replace hA : Whole V2 w.heap.size 43 (u32s a b c d e) := by rw [hV.out]; exact hA
  replace hY : Whole V2 w4.heap.size 43 (u32s a b c d e) := by rw [hV.out]; exact hY
  replace hB : Hid (Below w.heap.size w V2) := Lib.hid (by rw [hV.out]; exact hB.out)
  clear hV
  generalize w4.heap.size = yb at *
  have g0 : ∀ dd os, (grow (redrawn V2 dd) os).cell? ⟨w.heap.size, 0, none⟩ = some (.int .u32 a) := fun dd os => (hA.below (below_regrown V2 dd os) hA.lt).cell 0
  have hr0 : Hid (∀ w', (∃ p : Regrown, w' = grow (redrawn V2 p.d) p.os) → w'.rangeAt w.heap.size 0 (u32s a b c d e)) := Lib.hid (by
    rintro _ ⟨p, rfl⟩
    have h := (hA.below (below_regrown V2 p.d p.os) hA.lt).range
    exact h)
  have hr1 : Hid (∀ w', (∃ p : Regrown, w' = grow (redrawn V2 p.d) p.os) → w'.rangeAt yb 0 (u32s a b c d e)) := Lib.hid (by
    rintro _ ⟨p, rfl⟩
    have h := (hY.below (below_regrown V2 p.d p.os) hY.lt).range
    exact h)
  have ca0 := Lib.hid (regrown_any hrs.out V2)
  have ca1 := Lib.hid (regrown_any hre.out V2)
  have ca2 := Lib.hid (regrown_any hpl.out V2)
  have ca3 := Lib.hid (regrown_any three_any V2)
  replace hA := Lib.hid hA
  replace hY := Lib.hid hY
  have hz0 : Hid ((Try.prog.info? 43).map (·.size) = some (u32s a b c d e).length) := Lib.hid sizeS5
  have hz1 : Hid ((Try.prog.info? 43).map (·.size) = some (u32s a b c d e).length) := Lib.hid sizeS5
  refine wp_region_quiet_below (by kernel_rfl) (by kernel_rfl) ?_
  repeat (first
    | ((with_reducible refine quiet_load 43 _ w.heap.size (u32s a b c d e) ?_ hr0.out Try.underlying43 ?_ hz0.out ?_ ?_); (· rfl); (· rfl); (· rfl); simp only [Act.put, List.setIfInBounds_toArray, List.set_cons_zero, List.set_cons_succ])
    | ((with_reducible refine quiet_load 43 _ yb (u32s a b c d e) ?_ hr1.out Try.underlying43 ?_ hz1.out ?_ ?_); (· rfl); (· rfl); (· rfl); simp only [Act.put, List.setIfInBounds_toArray, List.set_cons_zero, List.set_cons_succ])
    | go_big_quiet_step (first | exact ca0.out _ _ | exact ca1.out _ _ | exact ca2.out _ _ | exact ca3.out _ _))
  refine wpQuiet_nil ?_
  intro _ hw'
  obtain ⟨⟨dq, osq⟩, hw''⟩ := hw'
  subst hw''
  replace hB := Lib.hid (grew hB.out (below_regrown V2 dq osq))
  replace hA := hA.out.below (below_regrown V2 dq osq) hA.out.lt
  replace hY := hY.out.below (below_regrown V2 dq osq) hY.out.lt
  clear g0 hr0 hr1 hz0 hz1 ca0 ca1 ca2 ca3
  generalize grow (redrawn V2 dq) osq = V3 at *
  go_wp2_with fail
  go_ret
  exact ⟨rfl, hB.out⟩
set_option maxRecDepth 100000 in
set_option maxHeartbeats 4000000 in
theorem scodes_no (a b c d e : Nat) (t : ByteArray) (w : World) (ht : t.size ≤ 200) (ba : a < 4294967296) (bb : b < 4294967296) (bc : c < 4294967296) (bd : d < 4294967296) (be : e < 4294967296) 
    (hp : ∀ W : World, Calls Try.prog 17 #[.string t] W fun x w' => x = .returned (.tuple #[.agg #[.int .u32 0, .int .u32 0, .int .u32 0, .int .u32 0, .int .u32 0], .int .i64 4]) ∧ Below W.heap.size W w')
    (hr : ∀ W : World, Calls Try.prog 18 #[.string t] W fun x w' => x = .returned (.agg #[.int .u32 0, .int .u32 0, .int .u32 0, .int .u32 0, .int .u32 0, .bool false]) ∧ Below W.heap.size W w') :
    Calls Try.prog 5 #[.agg #[.int .u32 a, .int .u32 b, .int .u32 c, .int .u32 d, .int .u32 e], .string t] w fun x w' => x = .returned (.bool true) ∧ Below w.heap.size w w' := by
  have hsm : ∀ W : World, (Op.equalIn 10000 48 (.agg #[.int .u32 0, .int .u32 0, .int .u32 0, .int .u32 0, .int .u32 0]) (.agg #[.int .u32 0, .int .u32 0, .int .u32 0, .int .u32 0, .int .u32 0])).run Try.prog W = .ok true W := fun W => same_rsuper 0 0 0 0 0 (by decide) (by decide) (by decide) (by decide) (by decide) W
  have hsz : ∀ W : World, (Op.equalIn 10000 43 (.agg #[.int .u32 0, .int .u32 0, .int .u32 0, .int .u32 0, .int .u32 0]) (.agg #[.int .u32 0, .int .u32 0, .int .u32 0, .int .u32 0, .int .u32 0])).run Try.prog W = .ok true W := fun W => same_super 0 0 0 0 0 (by decide) (by decide) (by decide) (by decide) (by decide) W
  have hss := same_super a b c d e ba bb bc bd be
  have hrf : ∀ W : World, Calls Try.prog 19 #[.agg #[.int .u32 0, .int .u32 0, .int .u32 0, .int .u32 0, .int .u32 0]] W fun x w' => x = .returned (.agg #[.int .u32 0, .int .u32 0, .int .u32 0, .int .u32 0, .int .u32 0]) ∧ Below W.heap.size W w' := fun W => ref_any 0 0 0 0 0 W
  have hrs := fun W => ref_any (a : Int) b c d e W
  have hen := fun W => suEncode_any a b c d e W ba bb bc bd be
  have hre := fun W => ruEncode_any a b c d e W ba bb bc bd be
  have hU := isU_super a b c d e ba bb bc bd be
  obtain ⟨m0, m1, m2, m3, m4⟩ := nums_super a b c d e ba bb bc bd be
  have hde := fun W => suDecode_yes (B (superU a b c d e)) W hU
  rw [m0, m1, m2, m3, m4] at hde
  have hpl := fun W => place_any (a : Int) b c d e W (by omega) (by omega)
  have hpp : (((a : Int) % 2) == ((a : Int) % 2)) = true := by simp
  have htm : Int.tmod (a : Int) 2 = (a : Int) % 2 := Int.tmod_eq_emod_of_nonneg (by omega)
  obtain ⟨U, hUU⟩ : ∃ U, Hid (B (superU a b c d e) = U) := ⟨_, Lib.hid rfl⟩
  rw [hUU.out] at hen hre hde
  have hUe := bytes_eq (rfl : U = U)
  clear hU m0 m1 m2 m3 m4 hUU
  have z1 : (t.size : Int) ≤ 200 := by omega
  have ok1 : decide (200 < (t.size : Int)) = false := by simp; omega
  replace hp := Lib.hid hp
  replace hr := Lib.hid hr
  replace hrf := Lib.hid hrf
  replace hrs := Lib.hid hrs
  replace hen := Lib.hid hen
  replace hre := Lib.hid hre
  replace hde := Lib.hid hde
  replace hpl := Lib.hid hpl
  clear ht
  go_enter Try.func5, Try.ntmps5
  go_wp2_with fail
  have hA := Whole.new w 43 (u32s a b c d e)
  have hB := (Below.refl w.heap.size w).alloc (Nat.le_refl _) (.cells (u32s a b c d e).toArray 43)
  refine (hp.out _).mono ?_
  rintro ee w1 ⟨rfl, hb1⟩
  replace hA := (hA.below hb1 hA.lt).alloc (.cells (u32s 0 0 0 0 0).toArray 43)
  replace hB := grewAlloc (grew hB hb1) (.cells (u32s 0 0 0 0 0).toArray 43)
  have hX := Whole.new w1 43 (u32s 0 0 0 0 0)
  clear hb1
  go_wp2_with fail
  refine (hr.out _).mono ?_
  rintro ee w2 ⟨rfl, hb2⟩
  replace hA := (hA.below hb2 hA.lt).alloc (.cells #[.int .u32 0, .int .u32 0, .int .u32 0, .int .u32 0, .int .u32 0, .bool false] 50)
  replace hX := (hX.below hb2 hX.lt).alloc (.cells #[.int .u32 0, .int .u32 0, .int .u32 0, .int .u32 0, .int .u32 0, .bool false] 50)
  replace hB := grewAlloc (grew hB hb2) (.cells #[.int .u32 0, .int .u32 0, .int .u32 0, .int .u32 0, .int .u32 0, .bool false] 50)
  have hG := Whole.new w2 50 [.int .u32 0, .int .u32 0, .int .u32 0, .int .u32 0, .int .u32 0, .bool false]
  clear hb2
  go_wp2_with fail
  generalize w1.heap.size = xb at *
  obtain ⟨V0, hV⟩ : ∃ V0, Hid (V0 = w2.alloc (.cells #[.int .u32 0, .int .u32 0, .int .u32 0, .int .u32 0, .int .u32 0, .bool false] 50)) := ⟨_, Lib.hid rfl⟩
  rw [← hV.out]
  replace hA : Whole V0 w.heap.size 43 (u32s a b c d e) := by rw [hV.out]; exact hA
  replace hX : Whole V0 xb 43 (u32s 0 0 0 0 0) := by rw [hV.out]; exact hX
  replace hG : Whole V0 w2.heap.size 50 [.int .u32 0, .int .u32 0, .int .u32 0, .int .u32 0, .int .u32 0, .bool false] := by rw [hV.out]; exact hG
  replace hB : Hid (Below w.heap.size w V0) := Lib.hid (by rw [hV.out]; exact hB)
  clear hV
  generalize w2.heap.size = gb at *
  have g5 : ∀ dd os, (grow (redrawn V0 dd) os).cell? ⟨gb, 5, none⟩ = some (.bool false) := fun dd os => (hG.below (below_regrown V0 dd os) hG.lt).cell 5
  have hr0 : Hid (∀ w', (∃ p : Regrown, w' = grow (redrawn V0 p.d) p.os) → w'.rangeAt xb 0 (u32s 0 0 0 0 0)) := Lib.hid (by
    rintro _ ⟨p, rfl⟩
    have h := (hX.below (below_regrown V0 p.d p.os) hX.lt).range
    exact h)
  have hr1 : Hid (∀ w', (∃ p : Regrown, w' = grow (redrawn V0 p.d) p.os) → w'.rangeAt gb 0 (u32s 0 0 0 0 0)) := Lib.hid (by
    rintro _ ⟨p, rfl⟩
    have h := (hG.below (below_regrown V0 p.d p.os) hG.lt).part 0 5
    exact h)
  have ca0 := Lib.hid (regrown_any hrf.out V0)
  replace hA := Lib.hid hA
  replace hX := Lib.hid hX
  replace hG := Lib.hid hG
  have hz0 : Hid ((Try.prog.info? 43).map (·.size) = some (u32s 0 0 0 0 0).length) := Lib.hid sizeS5
  have hz1 : Hid ((Try.prog.info? 48).map (·.size) = some (u32s 0 0 0 0 0).length) := Lib.hid sizeR5
  refine wp_region_quiet_below (by kernel_rfl) (by kernel_rfl) ?_
  repeat (first
    | ((with_reducible refine quiet_load 43 _ xb (u32s 0 0 0 0 0) ?_ hr0.out Try.underlying43 ?_ hz0.out ?_ ?_); (· rfl); (· rfl); (· rfl); simp only [Act.put, List.setIfInBounds_toArray, List.set_cons_zero, List.set_cons_succ])
    | ((with_reducible refine quiet_load 48 _ gb (u32s 0 0 0 0 0) ?_ hr1.out Try.underlying48 ?_ hz1.out ?_ ?_); (· rfl); (· rfl); (· rfl); simp only [Act.put, List.setIfInBounds_toArray, List.set_cons_zero, List.set_cons_succ])
    | go_big_quiet_step (first | exact ca0.out _ _))
  refine wpQuiet_nil ?_
  intro _ hw'
  obtain ⟨⟨dq, osq⟩, hw''⟩ := hw'
  subst hw''
  replace hB := Lib.hid (grew hB.out (below_regrown V0 dq osq))
  replace hA := hA.out.below (below_regrown V0 dq osq) hA.out.lt
  replace hX := hX.out.below (below_regrown V0 dq osq) hX.out.lt
  replace hG := hG.out.below (below_regrown V0 dq osq) hG.out.lt
  clear g5 hr0 hr1 hz0 hz1 ca0
  generalize grow (redrawn V0 dq) osq = V1 at *
  clear hX hG hsm hsz
  obtain ⟨⟨q0, q1⟩, q2, q3, q4⟩ := five hA
  go_wp2_with fail
  refine (hen.out _).mono ?_
  rintro ee w3 ⟨rfl, hb3⟩
  replace hA := hA.below hb3 hA.lt
  replace hB := Lib.hid (grew hB.out hb3)
  clear hb3 q0 q1 q2 q3 q4
  go_wp2_with fail
  refine (hde.out _).mono ?_
  rintro ee w4 ⟨rfl, hb4⟩
  replace hA := (hA.below hb4 hA.lt).alloc (.cells (u32s a b c d e).toArray 43)
  replace hB := Lib.hid (grewAlloc (grew hB.out hb4) (.cells (u32s a b c d e).toArray 43))
  have hY := Whole.new w4 43 (u32s a b c d e)
  clear hb4
  go_wp2_with fail
  obtain ⟨V2, hV⟩ : ∃ V2, Hid (V2 = w4.alloc (.cells #[.int .u32 a, .int .u32 b, .int .u32 c, .int .u32 d, .int .u32 e] 43)) := ⟨_, Lib.hid rfl⟩
  rw [← hV.out]
  replace hA : Whole V2 w.heap.size 43 (u32s a b c d e) := by rw [hV.out]; exact hA
  replace hY : Whole V2 w4.heap.size 43 (u32s a b c d e) := by rw [hV.out]; exact hY
  replace hB : Hid (Below w.heap.size w V2) := Lib.hid (by rw [hV.out]; exact hB.out)
  clear hV
  generalize w4.heap.size = yb at *
  have g0 : ∀ dd os, (grow (redrawn V2 dd) os).cell? ⟨w.heap.size, 0, none⟩ = some (.int .u32 a) := fun dd os => (hA.below (below_regrown V2 dd os) hA.lt).cell 0
  have hr0 : Hid (∀ w', (∃ p : Regrown, w' = grow (redrawn V2 p.d) p.os) → w'.rangeAt w.heap.size 0 (u32s a b c d e)) := Lib.hid (by
    rintro _ ⟨p, rfl⟩
    have h := (hA.below (below_regrown V2 p.d p.os) hA.lt).range
    exact h)
  have hr1 : Hid (∀ w', (∃ p : Regrown, w' = grow (redrawn V2 p.d) p.os) → w'.rangeAt yb 0 (u32s a b c d e)) := Lib.hid (by
    rintro _ ⟨p, rfl⟩
    have h := (hY.below (below_regrown V2 p.d p.os) hY.lt).range
    exact h)
  have ca0 := Lib.hid (regrown_any hrs.out V2)
  have ca1 := Lib.hid (regrown_any hre.out V2)
  have ca2 := Lib.hid (regrown_any hpl.out V2)
  have ca3 := Lib.hid (regrown_any three_any V2)
  replace hA := Lib.hid hA
  replace hY := Lib.hid hY
  have hz0 : Hid ((Try.prog.info? 43).map (·.size) = some (u32s a b c d e).length) := Lib.hid sizeS5
  have hz1 : Hid ((Try.prog.info? 43).map (·.size) = some (u32s a b c d e).length) := Lib.hid sizeS5
  refine wp_region_quiet_below (by kernel_rfl) (by kernel_rfl) ?_
  repeat (first
    | ((with_reducible refine quiet_load 43 _ w.heap.size (u32s a b c d e) ?_ hr0.out Try.underlying43 ?_ hz0.out ?_ ?_); (· rfl); (· rfl); (· rfl); simp only [Act.put, List.setIfInBounds_toArray, List.set_cons_zero, List.set_cons_succ])
    | ((with_reducible refine quiet_load 43 _ yb (u32s a b c d e) ?_ hr1.out Try.underlying43 ?_ hz1.out ?_ ?_); (· rfl); (· rfl); (· rfl); simp only [Act.put, List.setIfInBounds_toArray, List.set_cons_zero, List.set_cons_succ])
    | go_big_quiet_step (first | exact ca0.out _ _ | exact ca1.out _ _ | exact ca2.out _ _ | exact ca3.out _ _))
  refine wpQuiet_nil ?_
  intro _ hw'
  obtain ⟨⟨dq, osq⟩, hw''⟩ := hw'
  subst hw''
  replace hB := Lib.hid (grew hB.out (below_regrown V2 dq osq))
  replace hA := hA.out.below (below_regrown V2 dq osq) hA.out.lt
  replace hY := hY.out.below (below_regrown V2 dq osq) hY.out.lt
  clear g0 hr0 hr1 hz0 hz1 ca0 ca1 ca2 ca3
  generalize grow (redrawn V2 dq) osq = V3 at *
  go_wp2_with fail
  go_ret
  exact ⟨rfl, hB.out⟩
end Go.Proofs.Ytkmlmondhmpkkaa.W
