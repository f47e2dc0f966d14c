/- For every two strings the law SuperPicks returns true: which super lies in two sectors, or that there is none, is as the definition tells. No condition. -/
import Derived.Test.YtkmlmondhmpkkaaRows
import Derived.Test.YtkmlmondhmpkkaaSuThree
import Derived.Test.YtkmlmondhmpkkaaQuietB
import Derived.ChangeOld
import Derived.ShutString
namespace Go.Proofs.Ytkmlmondhmpkkaa.W
open Go.RowKit Go.Sort
open Go.Proofs.Ytkmlmondhmpkkaa.M Go.Proofs.Ytkmlmondhmpkkaa.D Go.Proofs.Ytkmlmondhmpkkaa.Z
set_option linter.unusedVariables false
set_option maxRecDepth 100000 in
set_option maxHeartbeats 4000000 in
theorem spicks_some (a b : ByteArray) {n0 n1 n2 n3 n4 : Nat} (w : World) (ha : ¬ 200 < a.size) (hb : ¬ 200 < b.size) (l0 : n0 < 4294967296) (l1 : n1 < 4294967296) (l2 : n2 < 4294967296) (l3 : n3 < 4294967296) (l4 : n4 < 4294967296)
    (hp : ∀ W : World, Calls Try.prog 23 #[.string a, .string b] W fun x w' => x = .returned (.tuple #[.agg #[.int .u32 n0, .int .u32 n1, .int .u32 n2, .int .u32 n3, .int .u32 n4], .int .i64 0]) ∧ Below W.heap.size W w')
    (hr : ∀ W : World, Calls Try.prog 24 #[.string a, .string b] W fun x w' => x = .returned (.agg #[.int .u32 n0, .int .u32 n1, .int .u32 n2, .int .u32 n3, .int .u32 n4, .bool true]) ∧ Below W.heap.size W w') :
    Calls Try.prog 6 #[.string a, .string b] w fun e w' => e = .returned (.bool true) ∧ Below w.heap.size w w' := by
  have hsm : ∀ W : World, (Op.equalIn 10000 48 (.agg #[.int .u32 n0, .int .u32 n1, .int .u32 n2, .int .u32 n3, .int .u32 n4]) (.agg #[.int .u32 n0, .int .u32 n1, .int .u32 n2, .int .u32 n3, .int .u32 n4])).run Try.prog W = .ok true W := fun W => same_rsuper n0 n1 n2 n3 n4 l0 l1 l2 l3 l4 W
  have hrf : ∀ W : World, Calls Try.prog 19 #[.agg #[.int .u32 n0, .int .u32 n1, .int .u32 n2, .int .u32 n3, .int .u32 n4]] W fun x w' => x = .returned (.agg #[.int .u32 n0, .int .u32 n1, .int .u32 n2, .int .u32 n3, .int .u32 n4]) ∧ Below W.heap.size W w' := fun W => ref_any n0 n1 n2 n3 n4 W
  have ok1 : decide (200 < (a.size : Int)) = false := by simp; omega
  have ok2 : decide (200 < (b.size : Int)) = false := by simp; omega
  have z1 : (a.size : Int) ≤ 200 := by omega
  have z2 : (b.size : Int) ≤ 200 := by omega
  have hi1 : Hid ((Try.prog.info? 43).map (·.size) = some (u32s n0 n1 n2 n3 n4).length) := Lib.hid sizeS5
  have hi2 : Hid ((Try.prog.info? 48).map (·.size) = some (u32s n0 n1 n2 n3 n4).length) := Lib.hid sizeR5
  replace hp := Lib.hid hp
  replace hr := Lib.hid hr
  replace hrf := Lib.hid hrf
  clear ha hb
  go_enter Try.func6, Try.ntmps6
  go_wp2_with fail
  refine (hp.out _).mono ?_
  rintro ee w1 ⟨rfl, hb1⟩
  have hX := Whole.new w1 43 (u32s n0 n1 n2 n3 n4)
  have hB := grewAlloc hb1 (.cells (u32s n0 n1 n2 n3 n4).toArray 43)
  clear hb1
  go_wp2_with fail
  refine (hr.out _).mono ?_
  rintro ee w2 ⟨rfl, hb2⟩
  replace hX := (hX.below hb2 hX.lt).alloc (.cells #[.int .u32 n0, .int .u32 n1, .int .u32 n2, .int .u32 n3, .int .u32 n4, .bool true] 50)
  replace hB := grewAlloc (grew hB hb2) (.cells #[.int .u32 n0, .int .u32 n1, .int .u32 n2, .int .u32 n3, .int .u32 n4, .bool true] 50)
  have hG := Whole.new w2 50 [.int .u32 n0, .int .u32 n1, .int .u32 n2, .int .u32 n3, .int .u32 n4, .bool true]
  clear hb2
  go_wp2_with fail
  generalize w1.heap.size = xb at *
  obtain ⟨V0, hV⟩ : ∃ V0, Hid (V0 = w2.alloc (.cells #[.int .u32 n0, .int .u32 n1, .int .u32 n2, .int .u32 n3, .int .u32 n4, .bool true] 50)) := ⟨_, Lib.hid rfl⟩
  rw [← hV.out]
  replace hX : Whole V0 xb 43 (u32s n0 n1 n2 n3 n4) := by rw [hV.out]; exact hX
  replace hG : Whole V0 w2.heap.size 50 [.int .u32 n0, .int .u32 n1, .int .u32 n2, .int .u32 n3, .int .u32 n4, .bool true] := by rw [hV.out]; exact hG
  replace hB : Hid (Below w.heap.size w V0) := Lib.hid (by rw [hV.out]; exact hB)
  clear hV
  generalize w2.heap.size = gb at *
  have g5 : ∀ dd os, (grow (redrawn V0 dd) os).cell? ⟨gb, 5, none⟩ = some (.bool true) := fun dd os => (hG.below (below_regrown V0 dd os) hG.lt).cell 5
  have hrx : Hid (∀ w', (∃ p : Regrown, w' = grow (redrawn V0 p.d) p.os) → w'.rangeAt xb 0 (u32s n0 n1 n2 n3 n4)) := Lib.hid (by rintro _ ⟨p, rfl⟩; exact (hX.below (below_regrown V0 p.d p.os) hX.lt).range)
  have hrg : Hid (∀ w', (∃ p : Regrown, w' = grow (redrawn V0 p.d) p.os) → w'.rangeAt gb 0 (u32s n0 n1 n2 n3 n4)) := Lib.hid (by
    rintro _ ⟨p, rfl⟩
    have h := (hG.below (below_regrown V0 p.d p.os) hG.lt).part 0 5
    exact h)
  have cr := Lib.hid (regrown_any hrf.out V0)
  have c3 := Lib.hid (regrown_any three_any V0)
  clear hX hG
  refine wp_region_quiet_below (by kernel_rfl) (by kernel_rfl) ?_
  repeat (first
    | ((with_reducible refine quiet_load 43 _ xb (u32s n0 n1 n2 n3 n4) ?_ hrx.out Try.underlying43 ?_ hi1.out ?_ ?_); (· rfl); (· rfl); (· rfl); simp only [Act.put, List.setIfInBounds_toArray, List.set_cons_zero, List.set_cons_succ])
    | ((with_reducible refine quiet_load 48 _ gb (u32s n0 n1 n2 n3 n4) ?_ hrg.out Try.underlying48 ?_ hi2.out ?_ ?_); (· rfl); (· rfl); (· rfl); simp only [Act.put, List.setIfInBounds_toArray, List.set_cons_zero, List.set_cons_succ])
    | go_big_quiet_step (first | exact cr.out _ _ | exact c3.out _ _))
  refine wpQuiet_nil ?_
  intro _ hw'
  obtain ⟨⟨dq, osq⟩, hw''⟩ := hw'
  subst hw''
  have hB4 := grew hB.out (below_regrown V0 dq osq)
  clear g5 hrx hrg cr c3 hB
  go_wp2_with fail
  go_ret
  exact ⟨rfl, hB4⟩
set_option maxRecDepth 100000 in
set_option maxHeartbeats 4000000 in
theorem spicks_none (a b : ByteArray) (w : World) (ha : ¬ 200 < a.size) (hb : ¬ 200 < b.size) 
    (hp : ∀ W : World, Calls Try.prog 23 #[.string a, .string b] W fun x w' => x = .returned (.tuple #[.agg #[.int .u32 0, .int .u32 0, .int .u32 0, .int .u32 0, .int .u32 0], .int .i64 22]) ∧ Below W.heap.size W w')
    (hr : ∀ W : World, Calls Try.prog 24 #[.string a, .string b] W fun x w' => x = .returned (.agg #[.int .u32 0, .int .u32 0, .int .u32 0, .int .u32 0, .int .u32 0, .bool false]) ∧ Below W.heap.size W w') :
    Calls Try.prog 6 #[.string a, .string b] w fun e w' => e = .returned (.bool true) ∧ Below w.heap.size w w' := by
  have hsm : ∀ W : World, (Op.equalIn 10000 48 (.agg #[.int .u32 0, .int .u32 0, .int .u32 0, .int .u32 0, .int .u32 0]) (.agg #[.int .u32 0, .int .u32 0, .int .u32 0, .int .u32 0, .int .u32 0])).run Try.prog W = .ok true W := fun W => same_rsuper 0 0 0 0 0 (by decide) (by decide) (by decide) (by decide) (by decide) W
  have hrf : ∀ W : World, Calls Try.prog 19 #[.agg #[.int .u32 0, .int .u32 0, .int .u32 0, .int .u32 0, .int .u32 0]] W fun x w' => x = .returned (.agg #[.int .u32 0, .int .u32 0, .int .u32 0, .int .u32 0, .int .u32 0]) ∧ Below W.heap.size W w' := fun W => ref_any 0 0 0 0 0 W
  have ok1 : decide (200 < (a.size : Int)) = false := by simp; omega
  have ok2 : decide (200 < (b.size : Int)) = false := by simp; omega
  have z1 : (a.size : Int) ≤ 200 := by omega
  have z2 : (b.size : Int) ≤ 200 := by omega
  have hi1 : Hid ((Try.prog.info? 43).map (·.size) = some (u32s 0 0 0 0 0).length) := Lib.hid sizeS5
  have hi2 : Hid ((Try.prog.info? 48).map (·.size) = some (u32s 0 0 0 0 0).length) := Lib.hid sizeR5
  replace hp := Lib.hid hp
  replace hr := Lib.hid hr
  replace hrf := Lib.hid hrf
  clear ha hb
  go_enter Try.func6, Try.ntmps6
  go_wp2_with fail
  refine (hp.out _).mono ?_
  rintro ee w1 ⟨rfl, hb1⟩
  have hX := Whole.new w1 43 (u32s 0 0 0 0 0)
  have hB := grewAlloc hb1 (.cells (u32s 0 0 0 0 0).toArray 43)
  clear hb1
  go_wp2_with fail
  refine (hr.out _).mono ?_
  rintro ee w2 ⟨rfl, hb2⟩
  replace hX := (hX.below hb2 hX.lt).alloc (.cells #[.int .u32 0, .int .u32 0, .int .u32 0, .int .u32 0, .int .u32 0, .bool false] 50)
  replace hB := grewAlloc (grew hB hb2) (.cells #[.int .u32 0, .int .u32 0, .int .u32 0, .int .u32 0, .int .u32 0, .bool false] 50)
  have hG := Whole.new w2 50 [.int .u32 0, .int .u32 0, .int .u32 0, .int .u32 0, .int .u32 0, .bool false]
  clear hb2
  go_wp2_with fail
  generalize w1.heap.size = xb at *
  obtain ⟨V0, hV⟩ : ∃ V0, Hid (V0 = w2.alloc (.cells #[.int .u32 0, .int .u32 0, .int .u32 0, .int .u32 0, .int .u32 0, .bool false] 50)) := ⟨_, Lib.hid rfl⟩
  rw [← hV.out]
  replace hX : Whole V0 xb 43 (u32s 0 0 0 0 0) := by rw [hV.out]; exact hX
  replace hG : Whole V0 w2.heap.size 50 [.int .u32 0, .int .u32 0, .int .u32 0, .int .u32 0, .int .u32 0, .bool false] := by rw [hV.out]; exact hG
  replace hB : Hid (Below w.heap.size w V0) := Lib.hid (by rw [hV.out]; exact hB)
  clear hV
  generalize w2.heap.size = gb at *
  have g5 : ∀ dd os, (grow (redrawn V0 dd) os).cell? ⟨gb, 5, none⟩ = some (.bool false) := fun dd os => (hG.below (below_regrown V0 dd os) hG.lt).cell 5
  have hrx : Hid (∀ w', (∃ p : Regrown, w' = grow (redrawn V0 p.d) p.os) → w'.rangeAt xb 0 (u32s 0 0 0 0 0)) := Lib.hid (by rintro _ ⟨p, rfl⟩; exact (hX.below (below_regrown V0 p.d p.os) hX.lt).range)
  have hrg : Hid (∀ w', (∃ p : Regrown, w' = grow (redrawn V0 p.d) p.os) → w'.rangeAt gb 0 (u32s 0 0 0 0 0)) := Lib.hid (by
    rintro _ ⟨p, rfl⟩
    have h := (hG.below (below_regrown V0 p.d p.os) hG.lt).part 0 5
    exact h)
  have cr := Lib.hid (regrown_any hrf.out V0)
  have c3 := Lib.hid (regrown_any three_any V0)
  clear hX hG
  refine wp_region_quiet_below (by kernel_rfl) (by kernel_rfl) ?_
  repeat (first
    | ((with_reducible refine quiet_load 43 _ xb (u32s 0 0 0 0 0) ?_ hrx.out Try.underlying43 ?_ hi1.out ?_ ?_); (· rfl); (· rfl); (· rfl); simp only [Act.put, List.setIfInBounds_toArray, List.set_cons_zero, List.set_cons_succ])
    | ((with_reducible refine quiet_load 48 _ gb (u32s 0 0 0 0 0) ?_ hrg.out Try.underlying48 ?_ hi2.out ?_ ?_); (· rfl); (· rfl); (· rfl); simp only [Act.put, List.setIfInBounds_toArray, List.set_cons_zero, List.set_cons_succ])
    | go_big_quiet_step (first | exact cr.out _ _ | exact c3.out _ _))
  refine wpQuiet_nil ?_
  intro _ hw'
  obtain ⟨⟨dq, osq⟩, hw''⟩ := hw'
  subst hw''
  have hB4 := grew hB.out (below_regrown V0 dq osq)
  clear g5 hrx hrg cr c3 hB
  go_wp2_with fail
  go_ret
  exact ⟨rfl, hB4⟩

end Go.Proofs.Ytkmlmondhmpkkaa.W
namespace Go.Proofs.Ytkmlmondhmpkkaa.superPicks
open Go.ChangeShapes Go.WideShapes Go.ChangeAt Go.RowKit
open Go.ChangeMaps (open_string shut_string)
open Go.Proofs.Ytkmlmondhmpkkaa.M Go.Proofs.Ytkmlmondhmpkkaa.W Go.Proofs.Ytkmlmondhmpkkaa.D Go.Proofs.Ytkmlmondhmpkkaa.Z
set_option linter.unusedVariables false
theorem walk (a b : ByteArray) (w : World) (w0 : a.size ≤ maxLen) (w1 : b.size ≤ maxLen) :
    Calls Try.prog 6 #[.string a, .string b] w fun e w' => e = .returned (.bool true) ∧ Below w.heap.size w w' := by
  unfold maxLen at w0 w1
  by_cases ha : 200 < a.size
  · go_enter Try.func6, Try.ntmps6
    go_wp2_with fail
    refine (three_any _).mono ?_
    rintro e w8 ⟨rfl, hb8⟩
    go_wp2_with fail
    go_ret
    exact ⟨rfl, hb8⟩
  by_cases hb : 200 < b.size
  · have ok1 : decide (200 < (a.size : Int)) = false := by simp; omega
    have z1 : (a.size : Int) ≤ 200 := by omega
    clear ha
    go_enter Try.func6, Try.ntmps6
    go_wp2_with fail
    refine (three_any _).mono ?_
    rintro e w8 ⟨rfl, hb8⟩
    go_wp2_with fail
    go_ret
    exact ⟨rfl, hb8⟩
  obtain ⟨r, hr⟩ := picks_some a b
  have hp := fun W => suPick_any a b W (by omega) (by omega) r hr
  have hq := fun W => ruPick_any a b W (by omega) (by omega) r hr
  cases r with
  | none =>
    simp only [pickV] at hp
    simp only [gotV] at hq
    exact spicks_none a b w ha hb hp hq
  | some s =>
    simp only [pickV, u5] at hp
    simp only [gotV] at hq
    exact spicks_some a b w ha hb (numU_lt _ _) (numU_lt _ _) (numU_lt _ _) (numU_lt _ _) (numU_lt _ _) hp hq


theorem own : ownKnob Try.prog.godebug = none := by kernel_rfl
theorem laidOut : laidOutB Try.prog = true := by kernel_rfl

set_option maxRecDepth 100000 in
theorem lifted (os : Os) (started : os.Started) (H : Type) (enc : TypeId × Value → H) :
    ReturnsInHanded {} Try.checked os 6 .any (Rows.superPicksSpec.pre6 enc Try.prog Try.f6 Rows.superPicksRow.domain false) (Rows.superPicksSpec.post enc Try.prog Try.f6 false true false false) := by
  refine returnsInHanded_of_change (C := Try.checked) own started (by kernel_rfl) Try.func6
    (ChangeSpec.witness6 (enc := enc) (C := Try.checked) false ⟨#[], #[.string ByteArray.empty, .string ByteArray.empty], []⟩ 8 (by kernel_rfl) (by kernel_rfl) (by kernel_rfl) (by kernel_rfl)) ?_
  intro W base args ds gs before hval0 hW hcnd _
  have hval : ∀ (j : Nat) t v, Try.f6.params[j]? = some t → args[j]? = some v → Value.okWide Try.prog W .any base t v := hval0
  have hW' := hW
  obtain ⟨p, q, hA0, hV, rfl, hfz, hnd⟩ := hW
  have hA : DataW.TrodAll enc Try.prog W 0 (fun _ => true) true Try.f6.params.toList args.toList ds p := hA0
  rw [Try.params6] at hA hval
  obtain ⟨v0, vs0, d0, ds0, p0, q0, hargs, rfl, rfl, h0, r0⟩ := trodAll_cons hA
  obtain ⟨v1, vs1, d1, ds1, p1, q1, rfl, rfl, rfl, h1, r1⟩ := trodAll_cons r0
  obtain ⟨rfl, rfl, rfl⟩ := trodAll_nil r1
  obtain rfl : args = #[v0, v1] := by cases args; simp_all
  obtain ⟨rfl, rfl⟩ := trodVars_none hV
  obtain ⟨a0, rfl, rfl, rfl, w0⟩ := open_string Try.underlying9 (hval 0 9 v0 rfl rfl) h0
  obtain ⟨a1, rfl, rfl, rfl, w1⟩ := open_string Try.underlying9 (hval 1 9 v1 rfl rfl) h1
  clear hA0 hval0
  refine (walk a0 a1 W w0 w1).mono fun e W' ⟨he, bel⟩ => ?_
  subst he
  exact ⟨_, rfl, _, _, _, [], [], [], hW', trodAll_mk1 (shut_bool Try.underlying4 _), (trodAll_cons_mk (shut_string Try.underlying9 w0) (trodAll_cons_mk (shut_string Try.underlying9 w1) trodAll_mk0)), rfl, bel.frame _, fun h => by cases h⟩

theorem over : Rows.superPicksRow.holds Try.pinned (OpenSpec.ofChange Rows.superPicksSpec) :=
  OpenClaim.holds_of_wide 6 Try.f6 rfl rfl rfl rfl rfl rfl rfl ⟨rfl, rfl, rfl, rfl, rfl⟩ rfl rfl rfl rfl rfl (by kernel_rfl) Try.func6 (by kernel_rfl)
    (of_decide_eq_true (by kernel_rfl)) (by unfold Func.isWrapper; first | (rw [if_pos (by decide +kernel)]; kernel_rfl) | (rw [if_neg (by decide +kernel)]; exact ⟨rfl, rfl⟩))
    (fun os started H enc _ => lifted os started H enc)

/-- The statement. -/
theorem proved : Rows.SuperPicksSaid := over
#print axioms proved

end Go.Proofs.Ytkmlmondhmpkkaa.superPicks
