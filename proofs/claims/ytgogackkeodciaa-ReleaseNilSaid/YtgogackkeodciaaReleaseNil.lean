/- For every act the law ReleaseNil returns true: of nil each call of package release tells ErrState, or nothing; the small case stands beside it. No condition. -/
import Derived.Test.YtgogackkeodciaaRows
import Derived.Test.YtgogackkeodciaaRlN
import Derived.Test.YtgogackkeodciaaOpenA25
import Derived.ChangeOld
import Derived.Deep.Cut
import Derived.Deep.RegionHeld3
namespace Go.Proofs.Ytgogackkeodciaa.releaseNil
open Go.ChangeShapes Go.WideShapes Go.ChangeAt Go.RowKit Go.Sort
open Go.ChangeMaps (open_string shut_string)
open Go.Proofs.Ytgogackkeodciaa.M Go.Proofs.Ytgogackkeodciaa.W Go.Proofs.Ytgogackkeodciaa.D Go.Proofs.Ytgogackkeodciaa.Z
set_option linter.unusedVariables false
set_option linter.unusedSimpArgs false

set_option maxRecDepth 100000 in
set_option maxHeartbeats 4000000 in
theorem walk (z0 : Int) (z1 : Int) (z2 : Int) (z3 : Int) (z4 : Int) (z5 : ByteArray) (z6 : Int) (z7 : Int) (z8 : ByteArray) (z9 : Int) (za : ByteArray) (zb : ByteArray) (zc : Bool) (zd : Int) (ze : ByteArray) (w : World) (_ : (Lit.int .i64 z0).wf = true) (_ : (Lit.int .i64 z1).wf = true) (_ : (Lit.int .i64 z2).wf = true) (_ : (Lit.int .i64 z3).wf = true) (_ : (Lit.int .i64 z4).wf = true) (_ : z5.size ≤ maxLen) (_ : (Lit.int .i64 z6).wf = true) (_ : (Lit.int .i64 z7).wf = true) (_ : z8.size ≤ maxLen) (_ : (Lit.int .i64 z9).wf = true) (_ : za.size ≤ maxLen) (_ : zb.size ≤ maxLen) (_ : (Lit.int .i64 zd).wf = true) (_ : ze.size ≤ maxLen) :
    Calls Try.prog 7 #[.agg #[.int .i64 z0, .int .i64 z1, .int .i64 z2, .int .i64 z3, .int .i64 z4, .string z5, .int .i64 z6, .int .i64 z7, .string z8, .int .i64 z9, .string za, .string zb, .bool zc, .int .i64 zd, .string ze]] w fun e w' => e = .returned (.bool true) ∧ Below w.heap.size w w' := by
  obtain ⟨V, hV⟩ : ∃ V, Hid (V = w.alloc (.cells #[.int .i64 z0, .int .i64 z1, .int .i64 z2, .int .i64 z3, .int .i64 z4, .string z5, .int .i64 z6, .int .i64 z7, .string z8, .int .i64 z9, .string za, .string zb, .bool zc, .int .i64 zd, .string ze] 69)) := ⟨_, Lib.hid rfl⟩
  have hB : Below w.heap.size w V := by rw [hV.out]; exact grewAlloc (Below.refl _ _) _
  have hP : Whole V w.heap.size 69 [.int .i64 z0, .int .i64 z1, .int .i64 z2, .int .i64 z3, .int .i64 z4, .string z5, .int .i64 z6, .int .i64 z7, .string z8, .int .i64 z9, .string za, .string zb, .bool zc, .int .i64 zd, .string ze] := by rw [hV.out]; exact Whole.new w _ _
  obtain ⟨pb, hpb⟩ : ∃ q, Hid (w.heap.size = q) := ⟨_, Lib.hid rfl⟩
  rw [hpb.out] at hP
  have p0 : V.cell? ⟨pb, 0, none⟩ = some (.int .i64 z0) := hP.cell 0
  have p1 : V.cell? ⟨pb, 1, none⟩ = some (.int .i64 z1) := hP.cell 1
  have p2 : V.cell? ⟨pb, 2, none⟩ = some (.int .i64 z2) := hP.cell 2
  have p3 : V.cell? ⟨pb, 3, none⟩ = some (.int .i64 z3) := hP.cell 3
  have p4 : V.cell? ⟨pb, 4, none⟩ = some (.int .i64 z4) := hP.cell 4
  have p5 : V.cell? ⟨pb, 5, none⟩ = some (.string z5) := hP.cell 5
  have p6 : V.cell? ⟨pb, 6, none⟩ = some (.int .i64 z6) := hP.cell 6
  have p7 : V.cell? ⟨pb, 7, none⟩ = some (.int .i64 z7) := hP.cell 7
  have p8 : V.cell? ⟨pb, 8, none⟩ = some (.string z8) := hP.cell 8
  have p9 : V.cell? ⟨pb, 9, none⟩ = some (.int .i64 z9) := hP.cell 9
  have p10 : V.cell? ⟨pb, 10, none⟩ = some (.string za) := hP.cell 10
  have p11 : V.cell? ⟨pb, 11, none⟩ = some (.string zb) := hP.cell 11
  have p12 : V.cell? ⟨pb, 12, none⟩ = some (.bool zc) := hP.cell 12
  have p13 : V.cell? ⟨pb, 13, none⟩ = some (.int .i64 zd) := hP.cell 13
  have p14 : V.cell? ⟨pb, 14, none⟩ = some (.string ze) := hP.cell 14
  have hlo := Lib.hid (long25_any z2 z3 z4 z5 z6 z7 z8 z9 za zb zc V)
  have hfi := Lib.hid (fun W => first25_any W)
  replace hB := Lib.hid hB
  replace hP := Lib.hid hP
  go_enter Try.func7, Try.ntmps7
  go_upto_region 1 with fail
  rw [← show V = _ from hV.out, hpb.out]
  clear hV hpb
  go_wp2_with fail
  refine hlo.out.mono ?_
  rintro _ w1 ⟨rfl, b1⟩
  have c1 := Lib.hid b1
  have hP1 := hP.out.below b1 hP.out.lt
  have q14 : w1.cell? ⟨pb, 14, none⟩ = some (.string ze) := hP1.cell 14
  have q1 : w1.cell? ⟨pb, 1, none⟩ = some (.int .i64 z1) := hP1.cell 1
  have q2 : w1.cell? ⟨pb, 2, none⟩ = some (.int .i64 z2) := hP1.cell 2
  have q3 : w1.cell? ⟨pb, 3, none⟩ = some (.int .i64 z3) := hP1.cell 3
  have q4 : w1.cell? ⟨pb, 4, none⟩ = some (.int .i64 z4) := hP1.cell 4
  have q5 : w1.cell? ⟨pb, 5, none⟩ = some (.string z5) := hP1.cell 5
  have q6 : w1.cell? ⟨pb, 6, none⟩ = some (.int .i64 z6) := hP1.cell 6
  have q7 : w1.cell? ⟨pb, 7, none⟩ = some (.int .i64 z7) := hP1.cell 7
  have q8 : w1.cell? ⟨pb, 8, none⟩ = some (.string z8) := hP1.cell 8
  have q9 : w1.cell? ⟨pb, 9, none⟩ = some (.int .i64 z9) := hP1.cell 9
  have q10 : w1.cell? ⟨pb, 10, none⟩ = some (.string za) := hP1.cell 10
  have q11 : w1.cell? ⟨pb, 11, none⟩ = some (.string zb) := hP1.cell 11
  have q12 : w1.cell? ⟨pb, 12, none⟩ = some (.bool zc) := hP1.cell 12
  clear hP1 b1 hlo p0 p1 p2 p3 p4 p5 p6 p7 p8 p9 p10 p11 p12 p13 p14
  cases hl : longB z5 z8 za zb with
  | true =>
    go_wp2_with fail
    refine (hfi.out _).mono ?_
    rintro _ w2 ⟨rfl, b2⟩
    have hfin := Lib.hid (grew hB.out (grew c1.out b2))
    clear b2
    go_wp2_with fail
    go_ret
    exact ⟨rfl, hfin.out⟩
  | false =>
    by_cases hz : 500 < ze.size
    · have hz2 : (500 : Int) < (ze.size : Int) := by omega
      go_wp2_with fail
      refine (hfi.out _).mono ?_
      rintro _ w2 ⟨rfl, b2⟩
      have hfin := Lib.hid (grew hB.out (grew c1.out b2))
      clear b2
      go_wp2_with fail
      go_ret
      exact ⟨rfl, hfin.out⟩
    have hz2 : ¬ (500 : Int) < (ze.size : Int) := by omega
    go_wp2_with fail
    refine (make25_nil z2 z3 z4 z5 z6 z7 z8 z9 za zb zc _).mono ?_
    rintro _ w2 ⟨rfl, b2⟩
    obtain ⟨V3, hV3⟩ : ∃ x, Hid (x = w2.alloc (.cells #[.int .i64 0, .string ⟨#[]⟩] 33)) := ⟨_, Lib.hid rfl⟩
    have s3 : Below V.heap.size V V3 := by rw [hV3.out]; exact grewAlloc (grew c1.out b2) _
    have hF3 : Whole V3 w2.heap.size 33 [.int .i64 0, .string ⟨#[]⟩] := by rw [hV3.out]; exact Whole.new w2 _ _
    obtain ⟨fx, hfx⟩ : ∃ q, Hid (w2.heap.size = q) := ⟨_, Lib.hid rfl⟩
    rw [hfx.out] at hF3
    have q1' : V3.cell? ⟨pb, 1, none⟩ = some (.int .i64 z1) := (hP.out.below s3 hP.out.lt).cell 1
    replace hF3 := Lib.hid hF3
    replace s3 := Lib.hid s3
    clear b2 c1 q1 q2 q3 q4 q5 q6 q7 q8 q9 q10 q11 q12 q14
    go_upto_region 5 with fail
    rw [← show V3 = _ from hV3.out, hfx.out]
    clear hV3 hfx
    go_wp2_with fail
    refine (finish25_nil z1 _).mono ?_
    rintro _ w4 ⟨rfl, b4⟩
    obtain ⟨V5, hV5⟩ : ∃ x, Hid (x = w4.alloc (.cells #[.int .i64 0, .string ⟨#[]⟩] 33)) := ⟨_, Lib.hid rfl⟩
    have s35 : Below V3.heap.size V3 V5 := by rw [hV5.out]; exact grewAlloc b4 _
    have hH5 : Whole V5 w4.heap.size 33 [.int .i64 0, .string ⟨#[]⟩] := by rw [hV5.out]; exact Whole.new w4 _ _
    obtain ⟨hx, hhx⟩ : ∃ q, Hid (w4.heap.size = q) := ⟨_, Lib.hid rfl⟩
    rw [hhx.out] at hH5
    have s5 := grew s3.out s35
    have hF5 := hF3.out.below s35 hF3.out.lt
    have hP5 := hP.out.below s5 hP.out.lt
    have a0 : V5.cell? ⟨fx, 0, none⟩ = some (.int .i64 0) := hF5.cell 0
    have a1 : V5.cell? ⟨fx, 1, none⟩ = some (.string ⟨#[]⟩) := hF5.cell 1
    have b0 : V5.cell? ⟨hx, 0, none⟩ = some (.int .i64 0) := hH5.cell 0
    have b1 : V5.cell? ⟨hx, 1, none⟩ = some (.string ⟨#[]⟩) := hH5.cell 1
    have e13 : V5.cell? ⟨pb, 13, none⟩ = some (.int .i64 zd) := hP5.cell 13
    have e14 : V5.cell? ⟨pb, 14, none⟩ = some (.string ze) := hP5.cell 14
    have ef : ∀ W, (binOp .eql 33 (.agg #[.int .i64 0, .string ⟨#[]⟩]) (.agg #[.int .i64 0, .string ⟨#[]⟩])).run Try.prog W = .ok (.bool true) W := fun W => by kernel_rfl
    have hB5 := Lib.hid (grew hB.out s5)
    clear b4 s35 s5 hF5 hH5 hP5 hF3 s3 hP hB q1'
    go_upto_region 6 with fail
    rw [← show V5 = _ from hV5.out, hhx.out]
    clear hV5 hhx
    go_wp2_with fail
    refine (apply25_nil zd ze _).mono ?_
    rintro _ w6 ⟨rfl, b6⟩
    have hB6 := Lib.hid (grew hB5.out b6)
    clear b6 a0 a1 b0 b1 e13 e14 ef
    go_wp2_with fail
    refine (pending25_nil _).mono ?_
    rintro _ w7 ⟨rfl, rfl⟩
    go_wp2_with fail
    refine (last25_nil _).mono ?_
    rintro _ w7 ⟨rfl, rfl⟩
    go_wp2_with fail
    refine (done25_nil _).mono ?_
    rintro _ w7 ⟨rfl, rfl⟩
    go_wp2_with fail
    refine (snap25_nil _).mono ?_
    rintro _ w7 ⟨rfl, rfl⟩
    go_wp2_with fail
    refine (hfi.out _).mono ?_
    rintro _ w8 ⟨rfl, b8⟩
    have hfin := Lib.hid (grew hB6.out b8)
    clear b8
    go_wp2_with fail
    go_ret
    exact ⟨rfl, hfin.out⟩


theorem own : ownKnob Try.prog.godebug = none := by kernel_rfl
theorem laidOut : laidOutB Try.prog = true := by kernel_rfl

set_option maxRecDepth 100000 in
theorem lifted (os : Os) (started : os.Started) (H : Type) (enc : TypeId × Value → H) :
    ReturnsInHanded {} Try.checked os 7 .any (Rows.releaseNilSpec.pre6 enc Try.prog Try.f7 Rows.releaseNilRow.domain false) (Rows.releaseNilSpec.post enc Try.prog Try.f7 false true false false) := by
  refine returnsInHanded_of_change (C := Try.checked) own started (by kernel_rfl) Try.func7
    (ChangeSpec.witness6 (enc := enc) (C := Try.checked) false ⟨#[], #[.agg #[.int .i64 0, .int .i64 0, .int .i64 0, .int .i64 0, .int .i64 0, .string ByteArray.empty, .int .i64 0, .int .i64 0, .string ByteArray.empty, .int .i64 0, .string ByteArray.empty, .string ByteArray.empty, .bool false, .int .i64 0, .string ByteArray.empty]], []⟩ 8 (by kernel_rfl) (by kernel_rfl) (by kernel_rfl) (by kernel_rfl)) ?_
  intro W base args ds gs before hval0 hW hcnd _
  have hval : ∀ (j : Nat) t v, Try.f7.params[j]? = some t → args[j]? = some v → Value.okWide Try.prog W .any base t v := hval0
  have hW' := hW
  obtain ⟨p, q, hA0, hV, rfl, hfz, hnd⟩ := hW
  have hA : DataW.TrodAll enc Try.prog W 0 (fun _ => true) true Try.f7.params.toList args.toList ds p := hA0
  rw [Try.params7] at hA hval
  obtain ⟨v0, vs0, d0, ds0, p0, q0, hargs, rfl, rfl, h0, r0⟩ := trodAll_cons hA
  obtain ⟨rfl, rfl, rfl⟩ := trodAll_nil r0
  obtain rfl : args = #[v0] := by cases args; simp_all
  obtain ⟨rfl, rfl⟩ := trodVars_none hV
  have k0 := h0
  have lt0 : ∀ x ∈ p0, x.block < W.heap.size := by obtain ⟨m, hm⟩ := k0; exact DataW.trod_lt m _ _ _ hm
  obtain ⟨z00, z10, z20, z30, z40, z50, z60, z70, z80, z90, za0, zb0, zc0, zd0, ze0, rfl, y00, y10, y20, y30, y40, y50, y60, y70, y80, y90, ya0, yb0, yd0, ye0⟩ := Go.Proofs.Ytgogackkeodciaa.W.open_a25 (hval 0 69 v0 rfl rfl) h0
  clear hA0 hval0
  refine (walk z00 z10 z20 z30 z40 z50 z60 z70 z80 z90 za0 zb0 zc0 zd0 ze0 W y00 y10 y20 y30 y40 y50 y60 y70 y80 y90 ya0 yb0 yd0 ye0).mono fun e W' ⟨he, bel⟩ => ?_
  subst he
  exact ⟨_, rfl, _, _, _, [], _, [], hW', trodAll_mk1 (shut_bool Try.underlying4 _), (trodAll_cons_mk (Below.trod laidOut (by kernel_rfl) (of_decide_eq_true (by kernel_rfl)) k0 bel lt0) trodAll_mk0), rfl, bel.frame _, fun h => by cases h⟩

theorem over : Rows.releaseNilRow.holds Try.pinned (OpenSpec.ofChange Rows.releaseNilSpec) :=
  OpenClaim.holds_of_wide 7 Try.f7 rfl rfl rfl rfl rfl rfl rfl ⟨rfl, rfl, rfl, rfl, rfl⟩ rfl rfl rfl rfl rfl (by kernel_rfl) Try.func7 (by kernel_rfl)
    (of_decide_eq_true (by kernel_rfl)) (by unfold Func.isWrapper; first | (rw [if_pos (by decide +kernel)]; kernel_rfl) | (rw [if_neg (by decide +kernel)]; exact ⟨rfl, rfl⟩))
    (fun os started H enc _ => lifted os started H enc)

/-- The statement. -/
theorem proved : Rows.ReleaseNilSaid := over
#print axioms proved

end Go.Proofs.Ytgogackkeodciaa.releaseNil
