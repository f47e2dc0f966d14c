/- For every act the law OffsetsNil returns true: of nil each call of package offsets tells ErrState, or nothing; the small case stands beside it. No condition. -/
import Derived.Test.YtgogackkeodciaaRows
import Derived.Test.YtgogackkeodciaaOfI
import Derived.Test.YtgogackkeodciaaOfN
import Derived.Test.YtgogackkeodciaaOpenA24
import Derived.ChangeOld
import Derived.Deep.Cut
namespace Go.Proofs.Ytgogackkeodciaa.offsetsNil
open Go.ChangeShapes Go.WideShapes Go.ChangeAt Go.RowKit Go.Sort
open Go.ChangeMaps (open_string shut_string)
open Go.Proofs.Ytgogackkeodciaa.M Go.Proofs.Ytgogackkeodciaa.W Go.Proofs.Ytgogackkeodciaa.D Go.Proofs.Ytgogackkeodciaa.Z
set_option linter.unusedVariables false
set_option linter.unusedSimpArgs false

set_option maxRecDepth 100000 in
set_option maxHeartbeats 4000000 in
theorem walk (z0 : Int) (z1 : Int) (z2 : ByteArray) (z3 : ByteArray) (z4 : Int) (z5 : Int) (z6 : ByteArray) (w : World) (_ : (Lit.int .i64 z0).wf = true) (_ : (Lit.int .i64 z1).wf = true) (_ : z2.size ≤ maxLen) (_ : z3.size ≤ maxLen) (_ : (Lit.int .i64 z4).wf = true) (_ : (Lit.int .i64 z5).wf = true) (_ : z6.size ≤ maxLen) :
    Calls Try.prog 5 #[.agg #[.int .i64 z0, .int .i64 z1, .string z2, .string z3, .int .i64 z4, .int .i64 z5, .string z6]] w fun e w' => e = .returned (.bool true) ∧ Below w.heap.size w w' := by
  obtain ⟨V, hV⟩ : ∃ V, Hid (V = w.alloc (.cells #[.int .i64 z0, .int .i64 z1, .string z2, .string z3, .int .i64 z4, .int .i64 z5, .string z6] 35)) := ⟨_, Lib.hid rfl⟩
  have hB : Below w.heap.size w V := by rw [hV.out]; exact grewAlloc (Below.refl _ _) _
  have hP : Whole V w.heap.size 35 [.int .i64 z0, .int .i64 z1, .string z2, .string z3, .int .i64 z4, .int .i64 z5, .string z6] := by rw [hV.out]; exact Whole.new w _ _
  obtain ⟨pb, hpb⟩ : ∃ q, Hid (w.heap.size = q) := ⟨_, Lib.hid rfl⟩
  rw [hpb.out] at hP
  have p1 : V.cell? ⟨pb, 1, none⟩ = some (.int .i64 z1) := hP.cell 1
  have p2 : V.cell? ⟨pb, 2, none⟩ = some (.string z2) := hP.cell 2
  have p3 : V.cell? ⟨pb, 3, none⟩ = some (.string z3) := hP.cell 3
  have p4 : V.cell? ⟨pb, 4, none⟩ = some (.int .i64 z4) := hP.cell 4
  have hfi := Lib.hid (fun W => five24_any W)
  replace hB := Lib.hid hB
  replace hP := Lib.hid hP
  go_enter Try.func5, Try.ntmps5
  go_upto_region 1 with fail
  rw [← show V = _ from hV.out, hpb.out]
  clear hV hpb
  go_wp2_with fail
  refine (commit24_nil z2 z3 z4 z1 _).mono ?_
  rintro _ w2 ⟨rfl, b2⟩
  obtain ⟨V3, hV3⟩ : ∃ x, Hid (x = w2.alloc (.cells #[.int .i64 0, .string ⟨#[]⟩] 33)) := ⟨_, Lib.hid rfl⟩
  have s3 : Below V.heap.size V V3 := by rw [hV3.out]; exact grewAlloc b2 _
  have hF3 : Whole V3 w2.heap.size 33 [.int .i64 0, .string ⟨#[]⟩] := by rw [hV3.out]; exact Whole.new w2 _ _
  obtain ⟨fx, hfx⟩ : ∃ q, Hid (w2.heap.size = q) := ⟨_, Lib.hid rfl⟩
  rw [hfx.out] at hF3
  have q2 : V3.cell? ⟨pb, 2, none⟩ = some (.string z2) := (hP.out.below s3 hP.out.lt).cell 2
  replace hF3 := Lib.hid hF3
  replace s3 := Lib.hid s3
  clear b2 p1 p2 p3 p4
  go_upto_region 3 with fail
  rw [← show V3 = _ from hV3.out, hfx.out]
  clear hV3 hfx
  go_wp2_with fail
  refine (clear24_nil z2 _).mono ?_
  rintro _ w4 ⟨rfl, b4⟩
  obtain ⟨V5, hV5⟩ : ∃ x, Hid (x = w4.alloc (.cells #[.int .i64 0, .string ⟨#[]⟩] 33)) := ⟨_, Lib.hid rfl⟩
  have s35 : Below V3.heap.size V3 V5 := by rw [hV5.out]; exact grewAlloc b4 _
  have hH5 : Whole V5 w4.heap.size 33 [.int .i64 0, .string ⟨#[]⟩] := by rw [hV5.out]; exact Whole.new w4 _ _
  obtain ⟨hx, hhx⟩ : ∃ q, Hid (w4.heap.size = q) := ⟨_, Lib.hid rfl⟩
  rw [hhx.out] at hH5
  have s5 := grew s3.out s35
  have hP5 := hP.out.below s5 hP.out.lt
  have e2 : V5.cell? ⟨pb, 2, none⟩ = some (.string z2) := hP5.cell 2
  have e3 : V5.cell? ⟨pb, 3, none⟩ = some (.string z3) := hP5.cell 3
  have e4 : V5.cell? ⟨pb, 4, none⟩ = some (.int .i64 z4) := hP5.cell 4
  have hF5 := Lib.hid (hF3.out.below s35 hF3.out.lt)
  replace hH5 := Lib.hid hH5
  replace s5 := Lib.hid s5
  clear b4 s35 hP5 hF3 s3 q2
  go_upto_region 4 with fail
  rw [← show V5 = _ from hV5.out, hhx.out]
  clear hV5 hhx
  go_wp2_with fail
  refine (get24_nil z2 z3 z4 _).mono ?_
  rintro _ w6 ⟨rfl, b6⟩
  have hF6 := hF5.out.below b6 hF5.out.lt
  have hH6 := hH5.out.below b6 hH5.out.lt
  have s6 := grew s5.out b6
  have hP6 := hP.out.below s6 hP.out.lt
  have a0 : w6.cell? ⟨fx, 0, none⟩ = some (.int .i64 0) := hF6.cell 0
  have a1 : w6.cell? ⟨fx, 1, none⟩ = some (.string ⟨#[]⟩) := hF6.cell 1
  have b0 : w6.cell? ⟨hx, 0, none⟩ = some (.int .i64 0) := hH6.cell 0
  have b1 : w6.cell? ⟨hx, 1, none⟩ = some (.string ⟨#[]⟩) := hH6.cell 1
  have e5 : w6.cell? ⟨pb, 5, none⟩ = some (.int .i64 z5) := hP6.cell 5
  have e6 : w6.cell? ⟨pb, 6, none⟩ = some (.string z6) := hP6.cell 6
  have ef : ∀ W, (binOp .eql 33 (.agg #[.int .i64 0, .string ⟨#[]⟩]) (.agg #[.int .i64 0, .string ⟨#[]⟩])).run Try.prog W = .ok (.bool true) W := fun W => by kernel_rfl
  have hB6 := Lib.hid (grew hB.out s6)
  clear b6 hF6 hH6 s6 hP6 hF5 hH5 s5 hP hB e2 e3 e4
  go_wp2_with fail
  refine (apply24_nil z5 z6 _).mono ?_
  rintro _ w7 ⟨rfl, b7⟩
  have hB7 := Lib.hid (grew hB6.out b7)
  clear b7 a0 a1 b0 b1 e5 e6 ef
  go_wp2_with fail
  refine (keys24_nil _).mono ?_
  rintro _ w8 ⟨rfl, rfl⟩
  go_wp2_with fail
  refine (groups24_nil _).mono ?_
  rintro _ w8 ⟨rfl, rfl⟩
  go_wp2_with fail
  refine (snap24_nil _).mono ?_
  rintro _ w8 ⟨rfl, rfl⟩
  go_wp2_with fail
  refine (hfi.out _).mono ?_
  rintro _ w9 ⟨rfl, b9⟩
  have hfin := Lib.hid (grew hB7.out b9)
  clear b9
  go_wp2_with fail
  go_ret
  exact ⟨rfl, hfin.out⟩


theorem own : ownKnob Try.prog.godebug = none := by kernel_rfl
theorem laidOut : laidOutB Try.prog = true := by kernel_rfl

set_option maxRecDepth 100000 in
theorem lifted (os : Os) (started : os.Started) (H : Type) (enc : TypeId × Value → H) :
    ReturnsInHanded {} Try.checked os 5 .any (Rows.offsetsNilSpec.pre6 enc Try.prog Try.f5 Rows.offsetsNilRow.domain false) (Rows.offsetsNilSpec.post enc Try.prog Try.f5 false true false false) := by
  refine returnsInHanded_of_change (C := Try.checked) own started (by kernel_rfl) Try.func5
    (ChangeSpec.witness6 (enc := enc) (C := Try.checked) false ⟨#[], #[.agg #[.int .i64 0, .int .i64 0, .string ByteArray.empty, .string ByteArray.empty, .int .i64 0, .int .i64 0, .string ByteArray.empty]], []⟩ 8 (by kernel_rfl) (by kernel_rfl) (by kernel_rfl) (by kernel_rfl)) ?_
  intro W base args ds gs before hval0 hW hcnd _
  have hval : ∀ (j : Nat) t v, Try.f5.params[j]? = some t → args[j]? = some v → Value.okWide Try.prog W .any base t v := hval0
  have hW' := hW
  obtain ⟨p, q, hA0, hV, rfl, hfz, hnd⟩ := hW
  have hA : DataW.TrodAll enc Try.prog W 0 (fun _ => true) true Try.f5.params.toList args.toList ds p := hA0
  rw [Try.params5] at hA hval
  obtain ⟨v0, vs0, d0, ds0, p0, q0, hargs, rfl, rfl, h0, r0⟩ := trodAll_cons hA
  obtain ⟨rfl, rfl, rfl⟩ := trodAll_nil r0
  obtain rfl : args = #[v0] := by cases args; simp_all
  obtain ⟨rfl, rfl⟩ := trodVars_none hV
  have k0 := h0
  have lt0 : ∀ x ∈ p0, x.block < W.heap.size := by obtain ⟨m, hm⟩ := k0; exact DataW.trod_lt m _ _ _ hm
  obtain ⟨z00, z10, z20, z30, z40, z50, z60, rfl, y00, y10, y20, y30, y40, y50, y60⟩ := Go.Proofs.Ytgogackkeodciaa.W.open_a24 (hval 0 35 v0 rfl rfl) h0
  clear hA0 hval0
  refine (walk z00 z10 z20 z30 z40 z50 z60 W y00 y10 y20 y30 y40 y50 y60).mono fun e W' ⟨he, bel⟩ => ?_
  subst he
  exact ⟨_, rfl, _, _, _, [], _, [], hW', trodAll_mk1 (shut_bool Try.underlying4 _), (trodAll_cons_mk (Below.trod laidOut (by kernel_rfl) (of_decide_eq_true (by kernel_rfl)) k0 bel lt0) trodAll_mk0), rfl, bel.frame _, fun h => by cases h⟩

theorem over : Rows.offsetsNilRow.holds Try.pinned (OpenSpec.ofChange Rows.offsetsNilSpec) :=
  OpenClaim.holds_of_wide 5 Try.f5 rfl rfl rfl rfl rfl rfl rfl ⟨rfl, rfl, rfl, rfl, rfl⟩ rfl rfl rfl rfl rfl (by kernel_rfl) Try.func5 (by kernel_rfl)
    (of_decide_eq_true (by kernel_rfl)) (by unfold Func.isWrapper; first | (rw [if_pos (by decide +kernel)]; kernel_rfl) | (rw [if_neg (by decide +kernel)]; exact ⟨rfl, rfl⟩))
    (fun os started H enc _ => lifted os started H enc)

/-- The statement. -/
theorem proved : Rows.OffsetsNilSaid := over
#print axioms proved

end Go.Proofs.Ytgogackkeodciaa.offsetsNil
