/- Package release: the law's small case: the first release. -/
import Derived.Test.YtgogackkeodciaaRlJ
namespace Go.Proofs.Ytgogackkeodciaa.W
open Go.RowKit Go.Sort
open Go.Proofs.Ytgogackkeodciaa.M Go.Proofs.Ytgogackkeodciaa.D Go.Proofs.Ytgogackkeodciaa.Z
set_option linter.unusedVariables false
set_option linter.unusedSimpArgs false

theorem cutA25 : pR0.extract 0 8 = ⟨#[1, 1, 2, 1, 115, 0, 3, 1]⟩ := by decide +kernel
set_option maxRecDepth 100000 in
set_option maxHeartbeats 4000000 in
theorem first25_any (w : World) : Calls Try.prog 23 #[] w fun e w' => e = .returned (.bool true) ∧ Below w.heap.size w w' := by
  have hnew := Lib.hid (new25_any w)
  go_enter Try.func23, Try.ntmps23
  go_wp2_with fail
  refine hnew.out.mono ?_
  rintro _ w1 ⟨rfl, hG1, b1⟩
  obtain ⟨lb, hlb⟩ : ∃ q, Hid (w.heap.size = q) := ⟨_, Lib.hid rfl⟩
  have hlw : w.heap.size ≤ lb := by have := hlb.out; omega
  rw [hlb.out] at hG1
  rw [show w.heap.size = lb from hlb.out]
  obtain ⟨V2, hV2⟩ : ∃ x, Hid (x = w1.alloc (.cells #[.int .i64 0, .int .i64 1, .int .i64 2, .string ⟨#[115]⟩, .int .i64 0, .int .i64 3, .string ⟨#[116]⟩, .int .i64 1, .string ⟨#[107]⟩, .string ⟨#[118]⟩, .bool false] 67)) := ⟨_, Lib.hid rfl⟩
  have s2 : Below w1.heap.size w1 V2 := by rw [hV2.out]; exact grewAlloc (Below.refl _ _) _
  have hr2 : Whole V2 w1.heap.size 67 [.int .i64 0, .int .i64 1, .int .i64 2, .string ⟨#[115]⟩, .int .i64 0, .int .i64 3, .string ⟨#[116]⟩, .int .i64 1, .string ⟨#[107]⟩, .string ⟨#[118]⟩, .bool false] := by rw [hV2.out]; exact Whole.new w1 _ _
  obtain ⟨rx, hrx⟩ : ∃ q, Hid (w1.heap.size = q) := ⟨_, Lib.hid rfl⟩
  rw [hrx.out] at hr2
  have hG2 := hG1.below s2 hG1.lt
  have hlr : lb ≠ rx := by have := hrx.out; have := hG1.lt; omega
  have hrw : w.heap.size ≤ rx := by have := hrx.out; have := b1.size; omega
  have hB2 := Lib.hid (grew b1 s2)
  have hmk := Lib.hid (makeA25 lb 0 0 V2 hG2)
  have p0 : V2.cell? ⟨rx, 0, none⟩ = some (.int .i64 0) := hr2.cell 0
  have p1 : V2.cell? ⟨rx, 1, none⟩ = some (.int .i64 1) := hr2.cell 1
  have p2 : V2.cell? ⟨rx, 2, none⟩ = some (.int .i64 2) := hr2.cell 2
  have p3 : V2.cell? ⟨rx, 3, none⟩ = some (.string ⟨#[115]⟩) := hr2.cell 3
  have p4 : V2.cell? ⟨rx, 4, none⟩ = some (.int .i64 0) := hr2.cell 4
  have p5 : V2.cell? ⟨rx, 5, none⟩ = some (.int .i64 3) := hr2.cell 5
  have p6 : V2.cell? ⟨rx, 6, none⟩ = some (.string ⟨#[116]⟩) := hr2.cell 6
  have p7 : V2.cell? ⟨rx, 7, none⟩ = some (.int .i64 1) := hr2.cell 7
  have p8 : V2.cell? ⟨rx, 8, none⟩ = some (.string ⟨#[107]⟩) := hr2.cell 8
  have p9 : V2.cell? ⟨rx, 9, none⟩ = some (.string ⟨#[118]⟩) := hr2.cell 9
  have p10 : V2.cell? ⟨rx, 10, none⟩ = some (.bool false) := hr2.cell 10
  replace hr2 := Lib.hid hr2
  replace hG2 := Lib.hid hG2
  clear hnew hlb hG1 b1 s2
  go_upto_region 3 with fail
  rw [← show V2 = _ from hV2.out, hrx.out]
  clear hV2 hrx
  go_wp2_with fail
  refine hmk.out.mono ?_
  rintro _ w3 ⟨rfl, b3⟩
  obtain ⟨V4, hV4⟩ : ∃ x, Hid (x = w3.alloc (.cells #[.int .i64 1, .string pR0] 33)) := ⟨_, Lib.hid rfl⟩
  have s4 : Below V2.heap.size V2 V4 := by rw [hV4.out]; exact grewAlloc b3 _
  have hF4 : Whole V4 w3.heap.size 33 [.int .i64 1, .string pR0] := by rw [hV4.out]; exact Whole.new w3 _ _
  obtain ⟨fx, hfx⟩ : ∃ q, Hid (w3.heap.size = q) := ⟨_, Lib.hid rfl⟩
  rw [hfx.out] at hF4
  have hG4 := hG2.out.below s4 hG2.out.lt
  have hr4 := Lib.hid (hr2.out.below s4 hr2.out.lt)
  have hlf : lb ≠ fx := by have := hfx.out; have := hG2.out.lt; have := b3.size; omega
  have hrf : rx ≠ fx := by have := hfx.out; have := hr2.out.lt; have := b3.size; omega
  have hB4 := Lib.hid (grew hB2.out s4)
  have hap := Lib.hid (apply25_A lb V4 hG4)
  have q0 : V4.cell? ⟨fx, 0, none⟩ = some (.int .i64 1) := hF4.cell 0
  have q1 : V4.cell? ⟨fx, 1, none⟩ = some (.string pR0) := hF4.cell 1
  replace hF4 := Lib.hid hF4
  clear hmk b3 s4 hG4 hB2 hr2 hG2 p0 p1 p2 p3 p4 p5 p6 p7 p8 p9 p10
  go_upto_region 4 with fail
  rw [← show V4 = _ from hV4.out, hfx.out]
  clear hV4 hfx
  go_wp2_with fail
  refine hap.out.mono ?_
  rintro _ w5 ⟨rfl, gb, c, cur, hG5, hc5, ht5, hc1, hgb, hk5⟩
  have hr5 := Lib.hid (hr4.out.of_kept hk5 (Ne.symm hlr))
  have hF5 := Lib.hid (hF4.out.of_kept hk5 (Ne.symm hlf))
  have hB5 := Lib.hid (hB4.out.trans (hk5.below (B := w.heap.size) hB4.out.size (fun k e => by rw [e]; exact hlw)))
  have hpd := Lib.hid (pending25_one lb gb c _ cur w5 hG5 hc5 ht5)
  replace hG5 := Lib.hid hG5
  clear hap hk5 hr4 hF4 hB4 hc5 ht5 hgb q0 q1
  go_wp2_with fail
  refine hpd.out.mono ?_
  rintro _ w6 ⟨q, c', cur', rfl, hq6, ht6, hq, b6⟩
  have hqr : q ≠ rx := by have := hr5.out.lt; omega
  have hql : q ≠ lb := by have := hG5.out.lt; omega
  have hqf : q ≠ fx := by have := hF5.out.lt; omega
  have hr6 := hr5.out.below b6 hr5.out.lt
  have hG6 := hG5.out.below b6 hG5.out.lt
  have hF6 := hF5.out.below b6 hF5.out.lt
  have y0 : w6.cell? ⟨rx, 0, none⟩ = some (.int .i64 0) := hr6.cell 0
  have z0 := hr6.frozen 0
  obtain ⟨w7, hw7⟩ : ∃ x, Hid (x = w6.setCell ⟨rx, 0, none⟩ (.int .i64 1)) := ⟨_, Lib.hid rfl⟩
  have hr7 : Whole w7 rx 67 [.int .i64 1, .int .i64 1, .int .i64 2, .string ⟨#[115]⟩, .int .i64 0, .int .i64 3, .string ⟨#[116]⟩, .int .i64 1, .string ⟨#[107]⟩, .string ⟨#[118]⟩, .bool false] := by rw [hw7.out]; exact hr6.store 0 [.int .i64 1] (by simp)
  have hG7 : Whole w7 lb 123 [.int .i64 0, .slice (some ⟨gb, 0, none⟩) 1 c] := by rw [hw7.out]; exact hG6.far hlr 0 [.int .i64 1]
  have hF7 : Whole w7 fx 33 [.int .i64 1, .string pR0] := by rw [hw7.out]; exact hF6.far (Ne.symm hrf) 0 [.int .i64 1]
  have hq7 : Whole w7 q 67 cur' := by rw [hw7.out]; exact hq6.far hqr 0 [.int .i64 1]
  have hB7 : Below w.heap.size w w7 := by rw [hw7.out]; exact (grew hB5.out b6).setCell hrw _
  have hfi := Lib.hid (finish25_yes lb 0 1 1 (some ⟨gb, 0, none⟩) 1 c w7 hG7 (by decide) (by decide) (by decide) (by decide) ⟨#[1]⟩ (by decide +kernel))
  replace hr7 := Lib.hid hr7
  replace hG7 := Lib.hid hG7
  replace hF7 := Lib.hid hF7
  replace hq7 := Lib.hid hq7
  replace hB7 := Lib.hid hB7
  replace ht6 := Lib.hid ht6
  clear hr6 hG6 hF6 b6 hr5 hG5 hF5 hB5 hq6 hpd hq
  go_upto_region 7 with fail
  rw [← show w7 = _ from hw7.out]
  clear hw7 y0 z0
  go_wp2_with fail
  refine hfi.out.mono ?_
  rintro _ w8 ⟨rfl, b8⟩
  obtain ⟨V9, hV9⟩ : ∃ x, Hid (x = w8.alloc (.cells #[.int .i64 2, .string ⟨#[1]⟩] 33)) := ⟨_, Lib.hid rfl⟩
  have s9 : Below w7.heap.size w7 V9 := by rw [hV9.out]; exact grewAlloc b8 _
  have hI9 : Whole V9 w8.heap.size 33 [.int .i64 2, .string ⟨#[1]⟩] := by rw [hV9.out]; exact Whole.new w8 _ _
  obtain ⟨ix, hix⟩ : ∃ q, Hid (w8.heap.size = q) := ⟨_, Lib.hid rfl⟩
  rw [hix.out] at hI9
  have hG9 := hG7.out.below s9 hG7.out.lt
  have hr9 := Lib.hid (hr7.out.below s9 hr7.out.lt)
  have hF9 := Lib.hid (hF7.out.below s9 hF7.out.lt)
  have hq9 := Lib.hid (hq7.out.below s9 hq7.out.lt)
  have hB9 := Lib.hid (grew hB7.out s9)
  have hap := Lib.hid (apply25_B lb gb c V9 hG9 hc1)
  have i0 : V9.cell? ⟨ix, 0, none⟩ = some (.int .i64 2) := hI9.cell 0
  have i1 : V9.cell? ⟨ix, 1, none⟩ = some (.string ⟨#[1]⟩) := hI9.cell 1
  clear hfi b8 s9 hG9 hI9 hr7 hG7 hF7 hq7 hB7
  go_upto_region 8 with fail
  rw [← show V9 = _ from hV9.out, hix.out]
  clear hV9 hix
  go_wp2_with fail
  refine hap.out.mono ?_
  rintro _ wa ⟨rfl, q2, hGa, hka⟩
  have hra := hr9.out.of_kept hka (Ne.symm hlr)
  have hFa := hF9.out.of_kept hka (Ne.symm hlf)
  have hqa := hq9.out.of_kept hka hql
  have hBa := Lib.hid (hB9.out.trans (hka.below (B := w.heap.size) hB9.out.size (fun k e => by rw [e]; exact hlw)))
  have hla := Lib.hid (fun W (hb : Below wa.heap.size wa W) => last25_any lb 1 (some ⟨q2, 0, none⟩) 0 0 W (hGa.below hb hGa.lt) (by decide) (by decide))
  have hdo := Lib.hid (fun W (hb : Below wa.heap.size wa W) => done25_any lb 1 _ W (hGa.below hb hGa.lt))
  have hpe := Lib.hid (fun W (hb : Below wa.heap.size wa W) => pending25_empty lb 0 _ ⟨q2, 0, none⟩ W (hGa.below hb hGa.lt))
  have hqc : ∀ (j : Nat) v, ([.int .i64 1, .int .i64 1, .int .i64 2, .string ⟨#[115]⟩, .int .i64 0, .int .i64 3, .string ⟨#[116]⟩, .int .i64 1, .string ⟨#[107]⟩, .string ⟨#[118]⟩, .bool false] : List Value)[j]? = some v → ∀ W, Below wa.heap.size wa W → W.cell? ⟨q, j, none⟩ = some v := fun j v hj W hb => by
    rw [(hqa.below hb hqa.lt).cell]
    rw [← ht6.out, List.getElem?_take] at hj
    split at hj
    · exact hj
    · cases hj
  have u0 := hqc 0 (.int .i64 1) rfl
  have v0 : ∀ W, Below wa.heap.size wa W → W.cell? ⟨rx, 0, none⟩ = some (.int .i64 1) := fun W hb => (hra.below hb hra.lt).cell 0
  have u1 := hqc 1 (.int .i64 1) rfl
  have v1 : ∀ W, Below wa.heap.size wa W → W.cell? ⟨rx, 1, none⟩ = some (.int .i64 1) := fun W hb => (hra.below hb hra.lt).cell 1
  have u2 := hqc 2 (.int .i64 2) rfl
  have v2 : ∀ W, Below wa.heap.size wa W → W.cell? ⟨rx, 2, none⟩ = some (.int .i64 2) := fun W hb => (hra.below hb hra.lt).cell 2
  have u3 := hqc 3 (.string ⟨#[115]⟩) rfl
  have v3 : ∀ W, Below wa.heap.size wa W → W.cell? ⟨rx, 3, none⟩ = some (.string ⟨#[115]⟩) := fun W hb => (hra.below hb hra.lt).cell 3
  have u4 := hqc 4 (.int .i64 0) rfl
  have v4 : ∀ W, Below wa.heap.size wa W → W.cell? ⟨rx, 4, none⟩ = some (.int .i64 0) := fun W hb => (hra.below hb hra.lt).cell 4
  have u5 := hqc 5 (.int .i64 3) rfl
  have v5 : ∀ W, Below wa.heap.size wa W → W.cell? ⟨rx, 5, none⟩ = some (.int .i64 3) := fun W hb => (hra.below hb hra.lt).cell 5
  have u6 := hqc 6 (.string ⟨#[116]⟩) rfl
  have v6 : ∀ W, Below wa.heap.size wa W → W.cell? ⟨rx, 6, none⟩ = some (.string ⟨#[116]⟩) := fun W hb => (hra.below hb hra.lt).cell 6
  have u7 := hqc 7 (.int .i64 1) rfl
  have v7 : ∀ W, Below wa.heap.size wa W → W.cell? ⟨rx, 7, none⟩ = some (.int .i64 1) := fun W hb => (hra.below hb hra.lt).cell 7
  have u8 := hqc 8 (.string ⟨#[107]⟩) rfl
  have v8 : ∀ W, Below wa.heap.size wa W → W.cell? ⟨rx, 8, none⟩ = some (.string ⟨#[107]⟩) := fun W hb => (hra.below hb hra.lt).cell 8
  have u9 := hqc 9 (.string ⟨#[118]⟩) rfl
  have v9 : ∀ W, Below wa.heap.size wa W → W.cell? ⟨rx, 9, none⟩ = some (.string ⟨#[118]⟩) := fun W hb => (hra.below hb hra.lt).cell 9
  have u10 := hqc 10 (.bool false) rfl
  have v10 : ∀ W, Below wa.heap.size wa W → W.cell? ⟨rx, 10, none⟩ = some (.bool false) := fun W hb => (hra.below hb hra.lt).cell 10
  have fp : ∀ W, Below wa.heap.size wa W → W.cell? ⟨fx, 1, none⟩ = some (.string pR0) := fun W hb => (hFa.below hb hFa.lt).cell 1
  have eqR : ∀ W, (binOp .eql 67 (.agg #[.int .i64 1, .int .i64 1, .int .i64 2, .string ⟨#[115]⟩, .int .i64 0, .int .i64 3, .string ⟨#[116]⟩, .int .i64 1, .string ⟨#[107]⟩, .string ⟨#[118]⟩, .bool false]) (.agg #[.int .i64 1, .int .i64 1, .int .i64 2, .string ⟨#[115]⟩, .int .i64 0, .int .i64 3, .string ⟨#[116]⟩, .int .i64 1, .string ⟨#[107]⟩, .string ⟨#[118]⟩, .bool false])).run Try.prog W = .ok (.bool true) W := fun W => by kernel_rfl
  have hsl := fun W => slice_to25 pR0 8 (by decide) W
  rw [cutA25] at hsl
  have s10 : Below wa.heap.size wa wa := Below.refl _ _
  have s10d : Below wa.heap.size wa wa.drew := (Below.refl _ _).drew
  clear hap hka hr9 hF9 hq9 hB9 i0 i1 hGa hra hFa hqa hqc ht6
  go_upto_region 9 with fail
  go_region_held3 (fun w' => Below wa.heap.size wa w') (with_reducible first | assumption) (first
    | (go_at_call 31; (with_reducible refine (hla.out _ (by assumption)).mono ?_); rintro _ y1 ⟨rfl, b1⟩; have s11 : Below wa.heap.size wa y1 := grew (by assumption) b1)
    | (go_at_call 32; (with_reducible refine (hdo.out _ (by assumption)).mono ?_); rintro _ y2 ⟨rfl, rfl⟩)
    | (go_at_call 30; (with_reducible refine (hpe.out _ (by assumption)).mono ?_); rintro _ y3 ⟨rfl, b3⟩; have s13 : Below wa.heap.size wa y3 := grew (by assumption) b3))
  all_goals
    have hfin := Lib.hid (grew hBa.out s13)
    clear u0 u1 u2 u3 u4 u5 u6 u7 u8 u9 u10 v0 v1 v2 v3 v4 v5 v6 v7 v8 v9 v10 fp eqR hsl hla hdo hpe
    go_wp2_with fail
    go_ret
    exact ⟨congrArg (fun b => Ending.returned (Value.bool b)) (by decide +kernel), hfin.out⟩
end Go.Proofs.Ytgogackkeodciaa.W
