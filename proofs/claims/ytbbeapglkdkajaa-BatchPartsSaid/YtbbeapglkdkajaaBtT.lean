/- The small case of layer 17. -/
import Derived.Test.YtbbeapglkdkajaaBtD
import Derived.Test.YtbbeapglkdkajaaBtR
namespace Go.Proofs.Ytbbeapglkdkajaa.W
open Go.RowKit Go.Sort
open Go.Proofs.Ytbbeapglkdkajaa.M Go.Proofs.Ytbbeapglkdkajaa.D Go.Proofs.Ytbbeapglkdkajaa.Z
set_option linter.unusedVariables false
set_option linter.unusedSimpArgs false

abbrev two17 : List Pr := [⟨⟨#[97]⟩, ⟨#[120]⟩, false⟩, ⟨⟨#[98]⟩, ⟨#[]⟩, true⟩]
abbrev hd17 : Rc := ⟨5, 3, ⟨#[]⟩, ⟨#[]⟩, false, 2, 9, 0⟩
abbrev rs17 : List Rc := [⟨5, 3, ⟨#[97]⟩, ⟨#[120]⟩, false, 2, 9, 0⟩, ⟨6, 3, ⟨#[98]⟩, ⟨#[]⟩, true, 2, 10, 0⟩]
theorem right17 : rightF two17 = 0 := by decide
theorem recs17 : recsF hd17 two17 = rs17 := by rfl
theorem may17 : (recsF hd17 two17).all Rc.may = true := by rw [recs17]; decide
theorem wt17 : wtL two17 = 3 := by decide
theorem ok17 : ∀ r ∈ rs17, wfR r := fun r hr => by
  simp only [List.mem_cons, List.not_mem_nil, or_false] at hr
  rcases hr with rfl | rfl
  · exact ok_wf (by decide)
  · exact ok_wf (by decide)
theorem prAt_whole {W : World} {q : Nat} {t : TypeId} {ps : List Pr} (h : Whole W q t (prRows ps)) : PrAt W (some ⟨q, 0, none⟩) ps := fun i p hi =>
  ⟨q, 0, rfl, h.lt, fun j v hj => by rw [Nat.zero_add, h.cell]; exact prRows_at ps i p hi j v hj⟩
theorem rcAt_whole {W : World} {q : Nat} {t : TypeId} {rs : List Rc} (h : Whole W q t (rcRows rs)) : RcAt W (some ⟨q, 0, none⟩) rs := fun i r hi =>
  ⟨q, 0, rfl, h.lt, fun j v hj => by rw [Nat.zero_add, h.cell]; exact rcRows_at rs i r hi j v hj⟩
set_option maxRecDepth 100000 in
set_option maxHeartbeats 4000000 in
theorem two17_any (w : World) : Calls Try.prog 10 #[] w fun e w' => e = .returned (.bool true) ∧ Below w.heap.size w w' := by
  obtain ⟨V, hV⟩ : ∃ V, Hid (V = w.alloc (.cells #[.string ⟨#[97]⟩, .string ⟨#[120]⟩, .bool false, .string ⟨#[98]⟩, .string ⟨#[]⟩, .bool true] 26)) := ⟨_, Lib.hid rfl⟩
  have hb0 : Below w.heap.size w V := by rw [hV.out]; exact grewAlloc (Below.refl _ _) _
  have hX : PrAt V (some ⟨w.heap.size, 0, none⟩) two17 := prAt_whole (t := 26) (by rw [hV.out]; exact Whole.new w _ _)
  obtain ⟨q, hq⟩ : ∃ q, Hid (w.heap.size = q) := ⟨_, Lib.hid rfl⟩
  rw [hq.out] at hX
  have hr := Lib.hid (records_by hd17 (some ⟨q, 0, none⟩) 2 two17 V hX (by decide) right17 true may17)
  rw [recs17] at hr
  have hwt := Lib.hid (fun W (hW : PrAt W (some ⟨q, 0, none⟩) two17) => weight_any (some ⟨q, 0, none⟩) 2 two17 W hW (by decide) (by rw [wt17]; omega))
  rw [wt17] at hwt
  have hsm := Lib.hid (fun (x y c d : Nat) W (h1 : RcAt W (some ⟨x, 0, none⟩) rs17) (h2 : RcAt W (some ⟨y, 0, none⟩) rs17) => same_recs (some ⟨x, 0, none⟩) (some ⟨y, 0, none⟩) 2 c d rs17 W h1 h2 rfl (by decide) ok17)
  replace hX := Lib.hid hX
  replace hb0 := Lib.hid hb0
  go_enter Try.func10, Try.ntmps10
  go_upto_region 2 with fail
  rw [← show V = _ from hV.out, hq.out]
  clear hV hq
  go_wp2_with fail
  refine hr.out.mono ?_
  rintro e w1 ⟨A, rfl, hr1, hb1, hA1⟩
  have hX1 := Lib.hid (hX.out.below hb1)
  have hB1 := Lib.hid (grew hb0.out hb1)
  obtain ⟨V2, hV2⟩ : ∃ V, Hid (V = w1.alloc (.cells #[.int .i64 5, .int .i64 3, .string ⟨#[97]⟩, .string ⟨#[120]⟩, .bool false, .int .i64 2, .int .i64 9, .int .i64 0, .int .i64 6, .int .i64 3, .string ⟨#[98]⟩, .string ⟨#[]⟩, .bool true, .int .i64 2, .int .i64 10, .int .i64 0] 33)) := ⟨_, Lib.hid rfl⟩
  have hb2 : Below w1.heap.size w1 V2 := by rw [hV2.out]; exact grewAlloc (Below.refl _ _) _
  have hY : RcAt V2 (some ⟨w1.heap.size, 0, none⟩) rs17 := rcAt_whole (t := 33) (by rw [hV2.out]; exact Whole.new w1 _ _)
  have hs := Lib.hid (hsm.out A w1.heap.size 2 2 V2 (hr1.below hb2) hY)
  have hX2 := Lib.hid (hX1.out.below hb2)
  have hB2 := Lib.hid (grew hB1.out hb2)
  clear hA1 hr hr1 hb1 hb0 hX hX1 hB1 hY hb2
  go_wp2_with fail
  rw [← show V2 = _ from hV2.out]
  clear hV2
  refine hs.out.mono ?_
  rintro e w3 ⟨rfl, hb3⟩
  have hw := Lib.hid (hwt.out w3 (hX2.out.below hb3))
  have hB3 := Lib.hid (grew hB2.out hb3)
  clear hs hX2 hB2 hb3
  go_wp2_with fail
  refine hw.out.mono ?_
  rintro e w4 ⟨rfl, hb4⟩
  have hB4 := Lib.hid (grew hB3.out hb4)
  clear hw hB3 hb4
  go_wp2_with fail
  go_ret
  exact ⟨rfl, hB4.out⟩
end Go.Proofs.Ytbbeapglkdkajaa.W
