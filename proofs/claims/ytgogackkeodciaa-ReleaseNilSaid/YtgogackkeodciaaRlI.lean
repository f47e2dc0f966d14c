/- Package release: Pending; the first release is done. -/
import Derived.Test.YtgogackkeodciaaRlH
import Derived.Deep.Upon
namespace Go.Proofs.Ytgogackkeodciaa.W
open Go.RowKit Go.Sort
open Go.Proofs.Ytgogackkeodciaa.M Go.Proofs.Ytgogackkeodciaa.D Go.Proofs.Ytgogackkeodciaa.Z
set_option linter.unusedVariables false
set_option linter.unusedSimpArgs false

theorem app_by25 {P : Program} {w w' : World} {ops : Array Oper} {rest : List Oper} {o : Oper} {a : Go.Act} {Q : Exit → Go.Act → World → Prop} (hgd : o.guard = none) (s x : Operand) (t : TypeId)
    (ho : o.op = .call { callee := .builtin .append, args := #[s, x], argTypes := #[t, t] }) (vs vx v : Value) (hs : a.eval s = vs) (hx : a.eval x = vx)
    (hr : (Builtin.append_ #[t, t] o.type #[vs, vx]).run P w = .ok v w') (h : wpList P ops Q rest (a.put o.dst v) w') : wpList P ops Q (o :: rest) a w :=
  wpList_plain hgd fun _ hK => by
    unfold Oper.wp execOp
    simp only [ho, resolve, invoke, builtin, Sem.run_bind, Sem.run_pure, Result.andThen_ok, List.map_toArray, List.map_cons, List.map_nil, hs, hx, hr]
    exact hK _ _ h
theorem eqlNil25 (w : World) (a : Option Addr) (n c : Nat) : (binOp .eql 74 (.slice a n c) (.slice none 0 0)).run Try.prog w = .ok (.bool a.isNone) w := by
  simp only [binOp]
  simp [Op.equal, Op.maxDepth, Lib.run_equalIn_slice_nil w 9999 74 67 a n c 0 0 Try.underlying74]
theorem clone25_empty (ad : Addr) (c : Nat) (w : World) : Calls Try.prog 70 #[.slice (some ad) 0 c] w fun e w' => e = .returned (.slice (some ⟨w.heap.size, 0, none⟩) 0 0) ∧ Below w.heap.size w w' := by
  have hn := fun W => eqlNil25 W (some ad) 0 c
  obtain ⟨i0, hi0, hz0, hz1, hz2⟩ := info_parts infoRe25
  have hb := Lib.hid (grewAlloc (Below.refl w.heap.size w) (.cells #[] 67))
  have hr := Lib.hid (run_append_nothing (P := Try.prog) (w.alloc (.cells #[] 67)) 74 74 74 67 i0 Try.underlying74 hi0 (some ⟨w.heap.size, 0, none⟩) 0 0 (Nat.le_refl _) (.slice (some ad) 0 c) (Src.ofSlice _ Try.underlying74 ad 0 c [] (by simp) (fun j u hj => by simp at hj) (fun u hu => by simp at hu)))
  go_enter Try.func70, Try.ntmps70
  go_wp2_with (with_reducible refine zAppend _ _ _ rfl ?_)
  refine Lib.hid ?_
  refine app_by25 rfl _ _ 74 rfl _ _ _ rfl rfl hr.out ?_
  go_wp2_with fail
  go_ret
  exact ⟨rfl, hb.out⟩
set_option maxRecDepth 100000 in
set_option maxHeartbeats 4000000 in
theorem clone25_one (gb c : Nat) (cur : List Value) (w : World) (h : Whole w gb 67 cur) (ht : cur.take 11 = [.int .i64 1, .int .i64 1, .int .i64 2, .string ⟨#[115]⟩, .int .i64 0, .int .i64 3, .string ⟨#[116]⟩, .int .i64 1, .string ⟨#[107]⟩, .string ⟨#[118]⟩, .bool false]) :
    Calls Try.prog 70 #[.slice (some ⟨gb, 0, none⟩) 1 c] w fun e w' => ∃ q c' cur', e = .returned (.slice (some ⟨q, 0, none⟩) 1 c') ∧ Whole w' q 67 cur' ∧ cur'.take 11 = [.int .i64 1, .int .i64 1, .int .i64 2, .string ⟨#[115]⟩, .int .i64 0, .int .i64 3, .string ⟨#[116]⟩, .int .i64 1, .string ⟨#[107]⟩, .string ⟨#[118]⟩, .bool false] ∧ w.heap.size ≤ q ∧ Below w.heap.size w w' := by
  have hn := fun W => eqlNil25 W (some ⟨gb, 0, none⟩) 1 c
  obtain ⟨i0, hi0, hz0, hz1, hz2⟩ := info_parts infoRe25
  obtain ⟨V, hV⟩ : ∃ V, Hid (V = w.alloc (.cells #[] 67)) := ⟨_, Lib.hid rfl⟩
  have hB : Below w.heap.size w V := by rw [hV.out]; exact grewAlloc (Below.refl _ _) _
  have hW := h.below hB h.lt
  have hsr : Src Try.prog i0.size 74 (.slice (some ⟨gb, 0, none⟩) 1 c) 1 [.int .i64 1, .int .i64 1, .int .i64 2, .string ⟨#[115]⟩, .int .i64 0, .int .i64 3, .string ⟨#[116]⟩, .int .i64 1, .string ⟨#[107]⟩, .string ⟨#[118]⟩, .bool false] V :=
    Src.ofSlice V Try.underlying74 ⟨gb, 0, none⟩ 1 c [.int .i64 1, .int .i64 1, .int .i64 2, .string ⟨#[115]⟩, .int .i64 0, .int .i64 3, .string ⟨#[116]⟩, .int .i64 1, .string ⟨#[107]⟩, .string ⟨#[118]⟩, .bool false] (by rw [hz1]; rfl) (fun j v hj => by
      rw [show (⟨gb, 0, none⟩ : Addr).add j = ⟨gb, j, none⟩ from by simp [Addr.add]; omega, hW.cell]
      rw [← ht, List.getElem?_take] at hj
      split at hj
      · exact hj
      · cases hj) (by intro v hv; simp at hv; rcases hv with rfl | rfl | rfl | rfl | rfl | rfl | rfl | rfl | rfl | rfl | rfl <;> rfl)
  have hr := run_append_grow_src (P := Try.prog) V 74 74 74 67 i0 _ Try.underlying74 hi0 hz0 (some ⟨w.heap.size, 0, none⟩) 0 0 [] (run_firstCells_some _ i0.size 0 _ 0 0 [] (by simp) (fun j v hj => by simp at hj)) (.slice (some ⟨gb, 0, none⟩) 1 c) 1 [.int .i64 1, .int .i64 1, .int .i64 2, .string ⟨#[115]⟩, .int .i64 0, .int .i64 3, .string ⟨#[116]⟩, .int .i64 1, .string ⟨#[107]⟩, .string ⟨#[118]⟩, .bool false] hsr (by decide) (by decide) (growslice_fits (by decide) (by rw [hz2]; omega))
  generalize Builtin.zeroCells _ _ = Z at hr
  generalize grownCap V (0 + 1) 0 67 = cap at hr
  have hfin : Hid (∃ q c' cur', (Ending.returned (.slice (some ⟨V.heap.size, 0, none⟩) (0 + 1) cap) : Ending) = .returned (.slice (some ⟨q, 0, none⟩) 1 c') ∧ Whole (V.drew.alloc (.cells (([] ++ [.int .i64 1, .int .i64 1, .int .i64 2, .string ⟨#[115]⟩, .int .i64 0, .int .i64 3, .string ⟨#[116]⟩, .int .i64 1, .string ⟨#[107]⟩, .string ⟨#[118]⟩, .bool false] : List Value).toArray ++ Z) 67)) q 67 cur' ∧ cur'.take 11 = [.int .i64 1, .int .i64 1, .int .i64 2, .string ⟨#[115]⟩, .int .i64 0, .int .i64 3, .string ⟨#[116]⟩, .int .i64 1, .string ⟨#[107]⟩, .string ⟨#[118]⟩, .bool false] ∧ w.heap.size ≤ q ∧ Below w.heap.size w (V.drew.alloc (.cells (([] ++ [.int .i64 1, .int .i64 1, .int .i64 2, .string ⟨#[115]⟩, .int .i64 0, .int .i64 3, .string ⟨#[116]⟩, .int .i64 1, .string ⟨#[107]⟩, .string ⟨#[118]⟩, .bool false] : List Value).toArray ++ Z) 67))) := Lib.hid ⟨V.heap.size, cap, [] ++ [.int .i64 1, .int .i64 1, .int .i64 2, .string ⟨#[115]⟩, .int .i64 0, .int .i64 3, .string ⟨#[116]⟩, .int .i64 1, .string ⟨#[107]⟩, .string ⟨#[118]⟩, .bool false] ++ Z.toList, rfl, by
    have := heap_alloc_new V.drew (.cells (([] ++ [.int .i64 1, .int .i64 1, .int .i64 2, .string ⟨#[115]⟩, .int .i64 0, .int .i64 3, .string ⟨#[116]⟩, .int .i64 1, .string ⟨#[107]⟩, .string ⟨#[118]⟩, .bool false] : List Value).toArray ++ Z) 67)
    unfold Whole
    rw [show (([] ++ [.int .i64 1, .int .i64 1, .int .i64 2, .string ⟨#[115]⟩, .int .i64 0, .int .i64 3, .string ⟨#[116]⟩, .int .i64 1, .string ⟨#[107]⟩, .string ⟨#[118]⟩, .bool false] : List Value) ++ Z.toList).toArray = ([] ++ [.int .i64 1, .int .i64 1, .int .i64 2, .string ⟨#[115]⟩, .int .i64 0, .int .i64 3, .string ⟨#[116]⟩, .int .i64 1, .string ⟨#[107]⟩, .string ⟨#[118]⟩, .bool false] : List Value).toArray ++ Z from by apply Array.ext'; simp]
    exact this, rfl, hB.size, grewAlloc (Below.drew hB) _⟩
  replace hr := Lib.hid hr
  clear hsr hW h ht hB
  go_enter Try.func70, Try.ntmps70
  go_wp2_with (with_reducible refine zAppend _ _ _ rfl ?_)
  refine Lib.hid ?_
  rw [← show V = _ from hV.out]
  refine app_by25 rfl _ _ 74 rfl _ _ _ rfl rfl hr.out ?_
  go_wp2_with fail
  go_ret
  exact hfin.out
set_option maxRecDepth 100000 in
set_option maxHeartbeats 4000000 in
theorem pending25_one (lb gb c : Nat) (x : Value) (cur : List Value) (w : World) (hG : Whole w lb 123 [x, .slice (some ⟨gb, 0, none⟩) 1 c]) (h : Whole w gb 67 cur) (ht : cur.take 11 = [.int .i64 1, .int .i64 1, .int .i64 2, .string ⟨#[115]⟩, .int .i64 0, .int .i64 3, .string ⟨#[116]⟩, .int .i64 1, .string ⟨#[107]⟩, .string ⟨#[118]⟩, .bool false]) :
    Calls Try.prog 30 #[.pointer (some ⟨lb, 0, none⟩)] w fun e w' => ∃ q c' cur', e = .returned (.slice (some ⟨q, 0, none⟩) 1 c') ∧ Whole w' q 67 cur' ∧ cur'.take 11 = [.int .i64 1, .int .i64 1, .int .i64 2, .string ⟨#[115]⟩, .int .i64 0, .int .i64 3, .string ⟨#[116]⟩, .int .i64 1, .string ⟨#[107]⟩, .string ⟨#[118]⟩, .bool false] ∧ w.heap.size ≤ q ∧ Below w.heap.size w w' := by
  have hc := Lib.hid (clone25_one gb c cur w h ht)
  have c1 : w.cell? ⟨lb, 1, none⟩ = some (.slice (some ⟨gb, 0, none⟩) 1 c) := hG.cell 1
  clear hG h ht
  go_enter Try.func30, Try.ntmps30
  go_wp2_with fail
  refine hc.out.mono ?_
  rintro _ w1 ⟨q, c', cur', rfl, m1, m2, m3, m4⟩
  have hfin := Lib.hid (And.intro m1 (And.intro m2 (And.intro m3 m4)))
  clear m1 m2 m3 m4 hc
  go_wp2_with fail
  go_ret
  exact ⟨q, c', cur', rfl, hfin.out⟩
set_option maxRecDepth 100000 in
set_option maxHeartbeats 4000000 in
theorem pending25_empty (lb c : Nat) (x : Value) (ad : Addr) (w : World) (hG : Whole w lb 123 [x, .slice (some ad) 0 c]) :
    Calls Try.prog 30 #[.pointer (some ⟨lb, 0, none⟩)] w fun e w' => e = .returned (.slice (some ⟨w.heap.size, 0, none⟩) 0 0) ∧ Below w.heap.size w w' := by
  have hc := Lib.hid (clone25_empty ad c w)
  have c1 : w.cell? ⟨lb, 1, none⟩ = some (.slice (some ad) 0 c) := hG.cell 1
  clear hG
  go_enter Try.func30, Try.ntmps30
  go_wp2_with fail
  refine hc.out.mono ?_
  rintro _ w1 ⟨rfl, b1⟩
  replace b1 := Lib.hid b1
  go_wp2_with fail
  go_ret
  exact ⟨rfl, b1.out⟩
set_option maxRecDepth 100000 in
set_option maxHeartbeats 4000000 in
theorem applyDone25_A (lb gb c : Nat) (w : World) (h : Whole w lb 123 [.int .i64 0, .slice (some ⟨gb, 0, none⟩) 1 c]) (hc1 : 1 ≤ c) :
    Calls Try.prog 67 #[.pointer (some ⟨lb, 0, none⟩), .int .i64 1, .agg #[.int .i64 2, .string ⟨#[1]⟩]] w fun e w' => e = .returned (.int .i64 0) ∧ ∃ q, Whole w' lb 123 [.int .i64 1, .slice (some ⟨q, 0, none⟩) 0 0] ∧ Kept (fun q => q = lb) w w' := by
  obtain ⟨V, hV⟩ : ∃ V, Hid (V = w.alloc (.cells #[.int .i64 2, .string ⟨#[1]⟩] 33)) := ⟨_, Lib.hid rfl⟩
  have hB : Below w.heap.size w V := by rw [hV.out]; exact grewAlloc (Below.refl _ _) _
  have hR : Whole V w.heap.size 33 [.int .i64 2, .string ⟨#[1]⟩] := by rw [hV.out]; exact Whole.new w _ _
  obtain ⟨fb, hfb⟩ : ∃ q, Hid (w.heap.size = q) := ⟨_, Lib.hid rfl⟩
  rw [hfb.out] at hR
  have hG := h.below hB h.lt
  have k1 := Lib.hid (finish25_yes lb 0 1 1 (some ⟨gb, 0, none⟩) 1 c V hG (by decide) (by decide) (by decide) (by decide) ⟨#[1]⟩ (by decide +kernel))
  have eqF : ∀ W, (binOp .neq 33 (.agg #[.int .i64 2, .string ⟨#[1]⟩]) (.agg #[.int .i64 2, .string ⟨#[1]⟩])).run Try.prog W = .ok (.bool false) W := fun W => by kernel_rfl
  have hw1 : IntKind.i64.wrap 1 = 1 := by decide
  replace hR := Lib.hid hR
  replace hB := Lib.hid hB
  replace hG := Lib.hid hG
  clear h hc1
  go_enter Try.func67, Try.ntmps67
  go_upto_region 1 with fail
  rw [← show V = _ from hV.out, hfb.out]
  clear hV hfb
  go_wp2_with fail
  refine k1.out.mono ?_
  rintro _ w1 ⟨rfl, b1⟩
  obtain ⟨V2, hV2⟩ : ∃ x, Hid (x = w1.alloc (.cells #[.int .i64 2, .string ⟨#[1]⟩] 33)) := ⟨_, Lib.hid rfl⟩
  have s12 : Below V.heap.size V V2 := by rw [hV2.out]; exact grewAlloc b1 _
  have hF2 : Whole V2 w1.heap.size 33 [.int .i64 2, .string ⟨#[1]⟩] := by rw [hV2.out]; exact Whole.new w1 _ _
  obtain ⟨xb, hxb⟩ : ∃ q, Hid (w1.heap.size = q) := ⟨_, Lib.hid rfl⟩
  rw [hxb.out] at hF2
  have hR2 := hR.out.below s12 hR.out.lt
  have hG2 := hG.out.below s12 hG.out.lt
  have x0 : V2.cell? ⟨xb, 0, none⟩ = some (.int .i64 2) := hF2.cell 0
  have x1 : V2.cell? ⟨xb, 1, none⟩ = some (.string ⟨#[1]⟩) := hF2.cell 1
  have y0 : V2.cell? ⟨fb, 0, none⟩ = some (.int .i64 2) := hR2.cell 0
  have y1 : V2.cell? ⟨fb, 1, none⟩ = some (.string ⟨#[1]⟩) := hR2.cell 1
  have hB2 := Lib.hid (grew hB.out s12)
  replace hG2 := Lib.hid hG2
  clear k1 b1 s12 hF2 hR2 hB hR hG
  go_upto_region 2 with fail
  rw [← show V2 = _ from hV2.out, hxb.out]
  clear hV2 hxb
  go_upto_region 4 with fail
  clear x0 x1 y0 y1 eqF
  have g0 : ∀ W, Kept (fun q => q = lb) V2 W → Below V2.heap.size V2 W → W.cell? ⟨lb, 0, none⟩ = some (.int .i64 0) := fun W _ hb => (hG2.out.below hb hG2.out.lt).cell 0
  have a0 : ∀ W, Below V2.heap.size V2 W → W.cell? ⟨lb, 0, none⟩ = some (.int .i64 0) := fun W hb => (hG2.out.below hb hG2.out.lt).cell 0
  have a1 : ∀ W, Below V2.heap.size V2 W → W.cell? ⟨lb, 1, none⟩ = some (.slice (some ⟨gb, 0, none⟩) 1 c) := fun W hb => (hG2.out.below hb hG2.out.lt).cell 1
  have s10 : Kept (fun q => q = lb) V2 V2 := Kept.refl _ _
  clear g0
  have hcl := Lib.hid (fun ad C W => clone25_empty ad C W)
  have b0 : V2.cell? ⟨lb, 0, none⟩ = some (.int .i64 0) := hG2.out.cell 0
  have b1 : V2.cell? ⟨lb, 1, none⟩ = some (.slice (some ⟨gb, 0, none⟩) 1 c) := hG2.out.cell 1
  clear a0 a1 s10
  by_cases hcc : c = 1
  all_goals
    first | subst hcc | skip
    go_region_law (first
      | (go_simp; go_at_call 70; (with_reducible refine (hcl.out _ _ _).mono ?_); rintro _ y1 ⟨rfl, c1⟩; have d1 : Below V2.heap.size V2 y1 := grew (Below.refl _ _).drew c1; have e1 := (hG2.out.below d1 hG2.out.lt).cell 1; have e2 := (hG2.out.below d1 hG2.out.lt).frozen 1))
  all_goals
    have hG3 := hG2.out.below d1 hG2.out.lt
    obtain ⟨y2, hy2⟩ : ∃ x, Hid (x = y1.setCell ⟨lb, 1, none⟩ (.slice (some ⟨V2.heap.size, 0, none⟩) 0 0)) := ⟨_, Lib.hid rfl⟩
    have hG4 : Whole y2 lb 123 [.int .i64 0, .slice (some ⟨V2.heap.size, 0, none⟩) 0 0] := by rw [hy2.out]; exact hG3.store 1 [.slice (some ⟨V2.heap.size, 0, none⟩) 0 0] (by simp)
    have hk4 : Kept (fun q => q = lb) V2 y2 := by rw [hy2.out]; exact (Kept.of_below (own := fun q => q = lb) d1).setCell (.inl rfl) 1 _
    rw [← show y2 = _ from hy2.out]
    have t0 : y2.cell? ⟨lb, 0, none⟩ = some (.int .i64 0) := hG4.cell 0
    have u0 := hG4.frozen 0
    have hfin : Hid (∃ q, Whole (y2.setCell ⟨lb, 0, none⟩ (.int .i64 1)) lb 123 [.int .i64 1, .slice (some ⟨q, 0, none⟩) 0 0] ∧ Kept (fun q => q = lb) w (y2.setCell ⟨lb, 0, none⟩ (.int .i64 1))) := Lib.hid ⟨V2.heap.size, hG4.store 0 [.int .i64 1] (by simp), ((Kept.of_below (own := fun q => q = lb) hB2.out).trans hk4).setCell (.inl rfl) 0 _⟩
    clear hG3 hy2 hG4 hk4 e1 e2 d1 c1 b0 b1 hG2 hcl hB2
    go_wp2_with fail
    go_ret
    exact ⟨rfl, hfin.out⟩
end Go.Proofs.Ytgogackkeodciaa.W
