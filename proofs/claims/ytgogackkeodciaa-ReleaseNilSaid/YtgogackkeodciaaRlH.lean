/- Package release: the first release is applied, and done. -/
import Derived.Test.YtgogackkeodciaaRlG
import Derived.Deep.AppendSrc
namespace Go.Proofs.Ytgogackkeodciaa.W
open Go.RowKit Go.Sort
open Go.Proofs.Ytgogackkeodciaa.M Go.Proofs.Ytgogackkeodciaa.D Go.Proofs.Ytgogackkeodciaa.Z
set_option linter.unusedVariables false
set_option linter.unusedSimpArgs false

theorem infoRe25 : (Try.prog.info? 67).map (fun i => (i.zero, i.size, i.bytes)) = some (some (.agg #[.int .i64 0, .int .i64 0, .int .i64 0, .string ⟨#[]⟩, .int .i64 0, .int .i64 0, .string ⟨#[]⟩, .int .i64 0, .string ⟨#[]⟩, .string ⟨#[]⟩, .bool false]), 11, 120) := by kernel_rfl
set_option maxRecDepth 100000 in
set_option maxHeartbeats 4000000 in
theorem step_app25 {W : World} {ops : Array Oper} {o : Oper} {a : Go.Act} {K : Go.Act → World → Prop} {Q : Exit → Go.Act → World → Prop} {E : Prop} (q : Nat) (hgd : o.guard = none) (s x : Operand)
    (ho : o.op = .call { callee := .builtin .append, args := #[s, x], argTypes := #[74, 74] }) (hs : a.eval s = .slice none 0 0) (hx : a.eval x = .slice (some ⟨q, 0, none⟩) 1 1)
    (hsrc : ∀ j v, ([.int .i64 1, .int .i64 1, .int .i64 2, .string ⟨#[115]⟩, .int .i64 0, .int .i64 3, .string ⟨#[116]⟩, .int .i64 1, .string ⟨#[107]⟩, .string ⟨#[118]⟩, .bool false] : List Value)[j]? = some v → W.cell? ⟨q, j, none⟩ = some v)
    (h : ∀ c gb W2 cur, gb = W.heap.size → Below W.heap.size W W2 → Whole W2 gb 67 cur → cur.take 11 = [.int .i64 1, .int .i64 1, .int .i64 2, .string ⟨#[115]⟩, .int .i64 0, .int .i64 3, .string ⟨#[116]⟩, .int .i64 1, .string ⟨#[107]⟩, .string ⟨#[118]⟩, .bool false] → cur.length = c * 11 → 1 ≤ c → c ≤ maxLen → K (a.put o.dst (.slice (some ⟨gb, 0, none⟩) 1 c)) W2) :
    if Region.wanted o (yielded ops a.tmps) = true then Oper.wp Try.prog o a W K Q else E := by
  obtain ⟨i0, hi0, hz0, hz1, hz2⟩ := info_parts infoRe25
  have hsr : Src Try.prog i0.size 74 (.slice (some ⟨q, 0, none⟩) 1 1) 1 [.int .i64 1, .int .i64 1, .int .i64 2, .string ⟨#[115]⟩, .int .i64 0, .int .i64 3, .string ⟨#[116]⟩, .int .i64 1, .string ⟨#[107]⟩, .string ⟨#[118]⟩, .bool false] W :=
    Src.ofSlice W Try.underlying74 ⟨q, 0, none⟩ 1 1 [.int .i64 1, .int .i64 1, .int .i64 2, .string ⟨#[115]⟩, .int .i64 0, .int .i64 3, .string ⟨#[116]⟩, .int .i64 1, .string ⟨#[107]⟩, .string ⟨#[118]⟩, .bool false] (by rw [hz1]; rfl) (fun j v hj => by rw [show (⟨q, 0, none⟩ : Addr).add j = ⟨q, j, none⟩ from by simp [Addr.add]; omega]; exact hsrc j v hj) (by intro v hv; simp at hv; rcases hv with rfl | rfl | rfl | rfl | rfl | rfl | rfl | rfl | rfl | rfl | rfl <;> rfl)
  have hr := run_append_grow_src (P := Try.prog) W 74 74 o.type 67 i0 _ Try.underlying74 hi0 hz0 none 0 0 [] (run_firstCells_none _ i0.size 0 0 0) (.slice (some ⟨q, 0, none⟩) 1 1) 1 [.int .i64 1, .int .i64 1, .int .i64 2, .string ⟨#[115]⟩, .int .i64 0, .int .i64 3, .string ⟨#[116]⟩, .int .i64 1, .string ⟨#[107]⟩, .string ⟨#[118]⟩, .bool false] hsr (by decide) (by decide) (growslice_fits (by decide) (by rw [hz2]; omega))
  have hg := grownCap_ge W (0 + 1) 0 67
  have hm := grownCap_le_maxLen W (0 + 1) 0 67 (by unfold maxLen; omega)
  have hsz := size_zeroCells (Value.agg #[.int .i64 0, .int .i64 0, .int .i64 0, .string ⟨#[]⟩, .int .i64 0, .int .i64 0, .string ⟨#[]⟩, .int .i64 0, .string ⟨#[]⟩, .string ⟨#[]⟩, .bool false]).cells (grownCap W (0 + 1) 0 67 - (0 + 1))
  generalize Builtin.zeroCells _ _ = Z at hr hsz
  generalize grownCap W (0 + 1) 0 67 = cap at hr hg hm hsz
  have hk := h cap W.heap.size (W.drew.alloc (.cells (([] ++ [.int .i64 1, .int .i64 1, .int .i64 2, .string ⟨#[115]⟩, .int .i64 0, .int .i64 3, .string ⟨#[116]⟩, .int .i64 1, .string ⟨#[107]⟩, .string ⟨#[118]⟩, .bool false] : List Value).toArray ++ Z) 67)) ([] ++ [.int .i64 1, .int .i64 1, .int .i64 2, .string ⟨#[115]⟩, .int .i64 0, .int .i64 3, .string ⟨#[116]⟩, .int .i64 1, .string ⟨#[107]⟩, .string ⟨#[118]⟩, .bool false] ++ Z.toList) rfl (grewAlloc (Below.refl W.heap.size W).drew _) (by
      have := heap_alloc_new W.drew (.cells (([] ++ [.int .i64 1, .int .i64 1, .int .i64 2, .string ⟨#[115]⟩, .int .i64 0, .int .i64 3, .string ⟨#[116]⟩, .int .i64 1, .string ⟨#[107]⟩, .string ⟨#[118]⟩, .bool false] : List Value).toArray ++ Z) 67)
      unfold Whole
      rw [show (([] ++ [.int .i64 1, .int .i64 1, .int .i64 2, .string ⟨#[115]⟩, .int .i64 0, .int .i64 3, .string ⟨#[116]⟩, .int .i64 1, .string ⟨#[107]⟩, .string ⟨#[118]⟩, .bool false] : List Value) ++ Z.toList).toArray = ([] ++ [.int .i64 1, .int .i64 1, .int .i64 2, .string ⟨#[115]⟩, .int .i64 0, .int .i64 3, .string ⟨#[116]⟩, .int .i64 1, .string ⟨#[107]⟩, .string ⟨#[118]⟩, .bool false] : List Value).toArray ++ Z from by apply Array.ext'; simp]
      exact this) rfl (by
      rw [List.length_append]
      have e : Z.toList.length = (cap - (0 + 1)) * 11 := by
        rw [show Z.toList.length = Z.size from by simp, hsz]
        congr 1
      rw [e]
      show 11 + (cap - (0 + 1)) * 11 = cap * 11
      omega) (by omega) hm
  have hw : Region.wanted o (yielded ops a.tmps) = true := by simp [Region.wanted, hgd]
  rw [if_pos hw]
  unfold Oper.wp execOp
  simp only [ho, resolve, invoke, builtin, Sem.run_bind, Sem.run_pure, Result.andThen_ok, List.map_toArray, List.map_cons, List.map_nil, hs, hx, hr]
  exact hk
theorem payA25 : B (relE ⟨0 + 1, 1, 2, ⟨#[115]⟩, 0, 3, ⟨#[116]⟩, 1, ⟨#[107]⟩, ⟨#[118]⟩, false⟩) = pR0 := by decide +kernel
theorem digA25 : dig (digL ⟨#[107]⟩ ⟨#[118]⟩ false) < 18446744073709551616 := by decide +kernel
theorem rightA25 : rightF [⟨⟨#[107]⟩, ⟨#[118]⟩, false⟩] = 0 := by decide +kernel
theorem nameS25 : nameB ⟨#[115]⟩ = true := by decide +kernel
theorem nameT25 : nameB ⟨#[116]⟩ = true := by decide +kernel
/-- Make of the first release, whatever its number. -/
theorem makeA25 (lb : Nat) (num : Int) (c : Nat) (w : World) (h : Whole w lb 123 [.int .i64 0, .slice none 0 c]) :
    Calls Try.prog 27 #[.pointer (some ⟨lb, 0, none⟩), .agg #[.int .i64 num, .int .i64 1, .int .i64 2, .string ⟨#[115]⟩, .int .i64 0, .int .i64 3, .string ⟨#[116]⟩, .int .i64 1, .string ⟨#[107]⟩, .string ⟨#[118]⟩, .bool false]] w fun e w' => e = .returned (.tuple #[.agg #[.int .i64 1, .string pR0], .int .i64 0]) ∧ Below w.heap.size w w' :=
  make25_yes lb 0 0 none 0 c num 1 2 ⟨#[115]⟩ 0 3 ⟨#[116]⟩ 1 ⟨#[107]⟩ ⟨#[118]⟩ false w h (by decide) (by decide) (by decide) (by decide) (by decide) nameS25 (by decide) (by decide) (by decide) nameT25 (by decide) (by decide) (by decide) (by decide) rightA25 digA25 pR0 payA25
set_option maxRecDepth 100000 in
set_option maxHeartbeats 4000000 in
theorem applyRel25_A (lb : Nat) (w : World) (h : Whole w lb 123 [.int .i64 0, .slice none 0 0]) :
    Calls Try.prog 65 #[.pointer (some ⟨lb, 0, none⟩), .agg #[.int .i64 1, .int .i64 1, .int .i64 2, .string ⟨#[115]⟩, .int .i64 0, .int .i64 3, .string ⟨#[116]⟩, .int .i64 1, .string ⟨#[107]⟩, .string ⟨#[118]⟩, .bool false], .agg #[.int .i64 1, .string pR0]] w fun e w' => e = .returned (.int .i64 0) ∧ ∃ gb c cur, Whole w' lb 123 [.int .i64 0, .slice (some ⟨gb, 0, none⟩) 1 c] ∧ Whole w' gb 67 cur ∧ cur.take 11 = [.int .i64 1, .int .i64 1, .int .i64 2, .string ⟨#[115]⟩, .int .i64 0, .int .i64 3, .string ⟨#[116]⟩, .int .i64 1, .string ⟨#[107]⟩, .string ⟨#[118]⟩, .bool false] ∧ cur.length = c * 11 ∧ 1 ≤ c ∧ c ≤ maxLen ∧ w.heap.size ≤ gb ∧ Kept (fun q => q = lb) w w' := by
  obtain ⟨V, hV⟩ : ∃ V, Hid (V = (w.alloc (.cells #[.int .i64 1, .int .i64 1, .int .i64 2, .string ⟨#[115]⟩, .int .i64 0, .int .i64 3, .string ⟨#[116]⟩, .int .i64 1, .string ⟨#[107]⟩, .string ⟨#[118]⟩, .bool false] 67)).alloc (.cells #[.int .i64 1, .string pR0] 33)) := ⟨_, Lib.hid rfl⟩
  have hB : Below w.heap.size w V := by rw [hV.out]; exact grewAlloc (grewAlloc (Below.refl _ _) _) _
  have hP : Whole V w.heap.size 67 [.int .i64 1, .int .i64 1, .int .i64 2, .string ⟨#[115]⟩, .int .i64 0, .int .i64 3, .string ⟨#[116]⟩, .int .i64 1, .string ⟨#[107]⟩, .string ⟨#[118]⟩, .bool false] := by rw [hV.out]; exact (Whole.new w _ _).alloc _
  have hR : Whole V (w.heap.size + 1) 33 [.int .i64 1, .string pR0] := by
    rw [hV.out]
    have := Whole.new (w.alloc (.cells #[.int .i64 1, .int .i64 1, .int .i64 2, .string ⟨#[115]⟩, .int .i64 0, .int .i64 3, .string ⟨#[116]⟩, .int .i64 1, .string ⟨#[107]⟩, .string ⟨#[118]⟩, .bool false] 67)) 33 [.int .i64 1, .string pR0]
    simpa using this
  obtain ⟨pb, hpb⟩ : ∃ q, Hid (w.heap.size = q) := ⟨_, Lib.hid rfl⟩
  obtain ⟨fb, hfb⟩ : ∃ q, Hid (w.heap.size + 1 = q) := ⟨_, Lib.hid rfl⟩
  rw [hpb.out] at hP
  rw [hfb.out] at hR
  have hG := h.below hB h.lt
  have k1 := Lib.hid (makeA25 lb 1 0 V hG)
  have p0 : V.cell? ⟨pb, 0, none⟩ = some (.int .i64 1) := hP.cell 0
  have p1 : V.cell? ⟨pb, 1, none⟩ = some (.int .i64 1) := hP.cell 1
  have p2 : V.cell? ⟨pb, 2, none⟩ = some (.int .i64 2) := hP.cell 2
  have p3 : V.cell? ⟨pb, 3, none⟩ = some (.string ⟨#[115]⟩) := hP.cell 3
  have p4 : V.cell? ⟨pb, 4, none⟩ = some (.int .i64 0) := hP.cell 4
  have p5 : V.cell? ⟨pb, 5, none⟩ = some (.int .i64 3) := hP.cell 5
  have p6 : V.cell? ⟨pb, 6, none⟩ = some (.string ⟨#[116]⟩) := hP.cell 6
  have p7 : V.cell? ⟨pb, 7, none⟩ = some (.int .i64 1) := hP.cell 7
  have p8 : V.cell? ⟨pb, 8, none⟩ = some (.string ⟨#[107]⟩) := hP.cell 8
  have p9 : V.cell? ⟨pb, 9, none⟩ = some (.string ⟨#[118]⟩) := hP.cell 9
  have p10 : V.cell? ⟨pb, 10, none⟩ = some (.bool false) := hP.cell 10
  have eqF : ∀ W, (binOp .neq 33 (.agg #[.int .i64 1, .string pR0]) (.agg #[.int .i64 1, .string pR0])).run Try.prog W = .ok (.bool false) W := fun W => by kernel_rfl
  replace hP := Lib.hid hP
  replace hR := Lib.hid hR
  replace hB := Lib.hid hB
  replace hG := Lib.hid hG
  clear h
  go_enter Try.func65, Try.ntmps65
  go_upto_region 1 with fail
  rw [← show V = _ from hV.out, hfb.out, hpb.out]
  clear hV hpb hfb
  go_wp2_with fail
  refine k1.out.mono ?_
  rintro _ w1 ⟨rfl, b1⟩
  obtain ⟨V2, hV2⟩ : ∃ x, Hid (x = w1.alloc (.cells #[.int .i64 1, .string pR0] 33)) := ⟨_, Lib.hid rfl⟩
  have s12 : Below V.heap.size V V2 := by rw [hV2.out]; exact grewAlloc b1 _
  have hF2 : Whole V2 w1.heap.size 33 [.int .i64 1, .string pR0] := by rw [hV2.out]; exact Whole.new w1 _ _
  obtain ⟨xb, hxb⟩ : ∃ q, Hid (w1.heap.size = q) := ⟨_, Lib.hid rfl⟩
  rw [hxb.out] at hF2
  have hR2 := hR.out.below s12 hR.out.lt
  have hP2 := hP.out.below s12 hP.out.lt
  have hG2 := hG.out.below s12 hG.out.lt
  have x0 : V2.cell? ⟨xb, 0, none⟩ = some (.int .i64 1) := hF2.cell 0
  have x1 : V2.cell? ⟨xb, 1, none⟩ = some (.string pR0) := hF2.cell 1
  have y0 : V2.cell? ⟨fb, 0, none⟩ = some (.int .i64 1) := hR2.cell 0
  have y1 : V2.cell? ⟨fb, 1, none⟩ = some (.string pR0) := hR2.cell 1
  have hB2 := Lib.hid (grew hB.out s12)
  replace hP2 := Lib.hid hP2
  replace hG2 := Lib.hid hG2
  clear k1 b1 s12 hF2 hR2 hB hP hR hG p0 p1 p2 p3 p4 p5 p6 p7 p8 p9 p10
  go_upto_region 2 with fail
  rw [← show V2 = _ from hV2.out, hxb.out]
  clear hV2 hxb
  go_upto_region 4 with fail
  have r0 : V2.cell? ⟨pb, 0, none⟩ = some (.int .i64 1) := hP2.out.cell 0
  have r1 : V2.cell? ⟨pb, 1, none⟩ = some (.int .i64 1) := hP2.out.cell 1
  have r2 : V2.cell? ⟨pb, 2, none⟩ = some (.int .i64 2) := hP2.out.cell 2
  have r3 : V2.cell? ⟨pb, 3, none⟩ = some (.string ⟨#[115]⟩) := hP2.out.cell 3
  have r4 : V2.cell? ⟨pb, 4, none⟩ = some (.int .i64 0) := hP2.out.cell 4
  have r5 : V2.cell? ⟨pb, 5, none⟩ = some (.int .i64 3) := hP2.out.cell 5
  have r6 : V2.cell? ⟨pb, 6, none⟩ = some (.string ⟨#[116]⟩) := hP2.out.cell 6
  have r7 : V2.cell? ⟨pb, 7, none⟩ = some (.int .i64 1) := hP2.out.cell 7
  have r8 : V2.cell? ⟨pb, 8, none⟩ = some (.string ⟨#[107]⟩) := hP2.out.cell 8
  have r9 : V2.cell? ⟨pb, 9, none⟩ = some (.string ⟨#[118]⟩) := hP2.out.cell 9
  have r10 : V2.cell? ⟨pb, 10, none⟩ = some (.bool false) := hP2.out.cell 10
  have hnew : Whole (V2.alloc (.cells #[.int .i64 1, .int .i64 1, .int .i64 2, .string ⟨#[115]⟩, .int .i64 0, .int .i64 3, .string ⟨#[116]⟩, .int .i64 1, .string ⟨#[107]⟩, .string ⟨#[118]⟩, .bool false] 67)) V2.heap.size 67 [.int .i64 1, .int .i64 1, .int .i64 2, .string ⟨#[115]⟩, .int .i64 0, .int .i64 3, .string ⟨#[116]⟩, .int .i64 1, .string ⟨#[107]⟩, .string ⟨#[118]⟩, .bool false] := Whole.new V2 _ _
  have g1 : V2.cell? ⟨lb, 1, none⟩ = some (.slice none 0 0) := hG2.out.cell 1
  have g2 : (V2.alloc (.cells #[.int .i64 1, .int .i64 1, .int .i64 2, .string ⟨#[115]⟩, .int .i64 0, .int .i64 3, .string ⟨#[116]⟩, .int .i64 1, .string ⟨#[107]⟩, .string ⟨#[118]⟩, .bool false] 67)).cell? ⟨lb, 1, none⟩ = some (.slice none 0 0) := (hG2.out.alloc _).cell 1
  have fin : Hid (∀ c gb W2 cur, gb = (V2.alloc (.cells #[.int .i64 1, .int .i64 1, .int .i64 2, .string ⟨#[115]⟩, .int .i64 0, .int .i64 3, .string ⟨#[116]⟩, .int .i64 1, .string ⟨#[107]⟩, .string ⟨#[118]⟩, .bool false] 67)).drew.heap.size → Below (V2.alloc (.cells #[.int .i64 1, .int .i64 1, .int .i64 2, .string ⟨#[115]⟩, .int .i64 0, .int .i64 3, .string ⟨#[116]⟩, .int .i64 1, .string ⟨#[107]⟩, .string ⟨#[118]⟩, .bool false] 67)).drew.heap.size (V2.alloc (.cells #[.int .i64 1, .int .i64 1, .int .i64 2, .string ⟨#[115]⟩, .int .i64 0, .int .i64 3, .string ⟨#[116]⟩, .int .i64 1, .string ⟨#[107]⟩, .string ⟨#[118]⟩, .bool false] 67)).drew W2 → Whole W2 gb 67 cur → cur.take 11 = [.int .i64 1, .int .i64 1, .int .i64 2, .string ⟨#[115]⟩, .int .i64 0, .int .i64 3, .string ⟨#[116]⟩, .int .i64 1, .string ⟨#[107]⟩, .string ⟨#[118]⟩, .bool false] → cur.length = c * 11 → 1 ≤ c → c ≤ maxLen → W2.cell? ⟨lb, 1, none⟩ = some (.slice none 0 0) ∧ W2.frozen? ⟨lb, 1, none⟩ = false ∧ Hid (∃ gb' c' cur, (Value.slice (some ⟨gb, 0, none⟩) 1 c = .slice (some ⟨gb', 0, none⟩) 1 c') ∧ Whole (W2.setCell ⟨lb, 1, none⟩ (.slice (some ⟨gb, 0, none⟩) 1 c)) lb 123 [.int .i64 0, .slice (some ⟨gb', 0, none⟩) 1 c'] ∧ Whole (W2.setCell ⟨lb, 1, none⟩ (.slice (some ⟨gb, 0, none⟩) 1 c)) gb' 67 cur ∧ cur.take 11 = [.int .i64 1, .int .i64 1, .int .i64 2, .string ⟨#[115]⟩, .int .i64 0, .int .i64 3, .string ⟨#[116]⟩, .int .i64 1, .string ⟨#[107]⟩, .string ⟨#[118]⟩, .bool false] ∧ cur.length = c' * 11 ∧ 1 ≤ c' ∧ c' ≤ maxLen ∧ w.heap.size ≤ gb' ∧ Kept (fun q => q = lb) w (W2.setCell ⟨lb, 1, none⟩ (.slice (some ⟨gb, 0, none⟩) 1 c)))) := Lib.hid (fun c gb W2 cur e1 b2 hW2 h1 h2 h3 h4 => by
    have hb : Below V2.heap.size V2 W2 := grew (a := V2) (b := (V2.alloc (.cells #[.int .i64 1, .int .i64 1, .int .i64 2, .string ⟨#[115]⟩, .int .i64 0, .int .i64 3, .string ⟨#[116]⟩, .int .i64 1, .string ⟨#[107]⟩, .string ⟨#[118]⟩, .bool false] 67)).drew) ((Below.refl V2.heap.size V2).alloc (Nat.le_refl _) _).drew b2
    have hG3 := hG2.out.below hb hG2.out.lt
    have hgs : V2.heap.size ≤ gb := by rw [e1]; simp
    have hne : gb ≠ lb := by have := hG2.out.lt; omega
    refine ⟨hG3.cell 1, hG3.frozen 1, Lib.hid ⟨gb, c, cur, rfl, hG3.store 1 [.slice (some ⟨gb, 0, none⟩) 1 c] (by simp), hW2.far hne 1 [.slice (some ⟨gb, 0, none⟩) 1 c], h1, h2, h3, h4, Nat.le_trans hB2.out.size hgs, ?_⟩⟩
    exact ((Kept.of_below (own := fun q => q = lb) hB2.out).trans (Kept.of_below (own := fun q => q = lb) hb)).setCell (.inl rfl) 1 _)
  clear x0 x1 y0 y1 eqF hG2 hP2 hB2
  go_region_law (first | (refine step_app25 V2.heap.size (by rfl) _ _ (by rfl) (by rfl) (by rfl) (fun j v hj => (hnew.cell j).trans hj) ?_; intro c gb W2 cur e1 b2 hW2 h1 h2 h3 h4; obtain ⟨g3, g4, hfin⟩ := fin.out c gb W2 cur e1 b2 hW2 h1 h2 h3 h4; clear e1 b2 hW2 h1 h2 h3 h4 fin))
  all_goals
    clear r0 r1 r2 r3 r4 r5 r6 r7 r8 r9 r10 g1 g2 g3 g4 hnew
    go_wp2_with fail
    go_ret
    obtain ⟨gb', c', cur', e, m1, m2, m3, m4, m5, m6, m7, m8⟩ := hfin.out
    exact ⟨rfl, gb', c', cur', m1, m2, m3, m4, m5, m6, m7, m8⟩
end Go.Proofs.Ytgogackkeodciaa.W
