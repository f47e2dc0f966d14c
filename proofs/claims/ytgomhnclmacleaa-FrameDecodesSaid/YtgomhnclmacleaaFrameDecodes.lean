/- For every stamp, place and string the law FrameDecodes returns true: the frame with which bytes begin is that of the definition. No condition. -/
import Derived.Test.YtgomhnclmacleaaRows
import Derived.Test.YtgomhnclmacleaaBare
import Derived.Test.YtgomhnclmacleaaFrRefD
import Derived.ChangeOld
import Derived.ShutString
namespace Go.Proofs.Ytgomhnclmacleaa.frameDecodes
open Go.ChangeShapes Go.WideShapes Go.ChangeAt Go.RowKit
open Go.ChangeMaps (open_string shut_string)
open Go.Proofs.Ytgomhnclmacleaa.M Go.Proofs.Ytgomhnclmacleaa.W Go.Proofs.Ytgomhnclmacleaa.D
set_option linter.unusedVariables false

set_option maxRecDepth 100000 in
set_option maxHeartbeats 4000000 in
theorem walk (a0 a1 : Int) (a2 : ByteArray) (w : World) (w0 : (Lit.int .u32 a0).wf = true) (w1 : (Lit.int .i64 a1).wf = true) (w2 : a2.size ≤ maxLen) :
    Calls Try.prog 10 #[.int .u32 a0, .int .i64 a1, .string a2] w fun e w' => e = .returned (.bool true) ∧ Below w.heap.size w w' := by
  obtain ⟨l0, l1⟩ := bounds_u32 w0
  unfold maxLen at w2
  by_cases hl : 900 < a2.size
  · go_enter Try.func10, Try.ntmps10
    go_wp2_with fail
    refine (bare_any _).mono ?_
    rintro e w1 ⟨rfl, hb⟩
    go_wp2_with fail
    go_ret
    exact ⟨rfl, hb⟩
  · have hd := fun W => decode_any a0 a1 a2 W l0 (by omega) (by omega)
    have hr := fun W => rdecode_any a0 a1 a2 W l0 (by omega) (by omega)
    unfold decV at hd
    unfold rdecV at hr
    obtain ⟨K, hK⟩ : ∃ K, Hid (decK a0 a1 a2 = K) := ⟨_, Lib.hid rfl⟩
    obtain ⟨Py, hP⟩ : ∃ K, Hid (decP a0 a1 a2 = K) := ⟨_, Lib.hid rfl⟩
    obtain ⟨n, hn⟩ : ∃ K, Hid (decN a0 a1 a2 = K) := ⟨_, Lib.hid rfl⟩
    obtain ⟨x, hx⟩ : ∃ K, Hid (decWhy a0 a1 a2 = K) := ⟨_, Lib.hid rfl⟩
    rw [hK.out, hP.out, hn.out, hx.out] at hd hr
    replace hd := Lib.hid hd
    replace hr := Lib.hid hr
    go_enter Try.func10, Try.ntmps10
    go_wp2_with fail
    refine (hd.out _).mono ?_
    rintro e w3 ⟨rfl, hb3⟩
    go_wp2_with fail
    refine (hr.out _).mono ?_
    rintro e w4 ⟨rfl, hb4⟩
    have hF := (Whole.new w3 72 [.int .i64 K, .string Py]).below hb4 (by simp)
    have hF4 := hF.alloc (.cells #[.int .i64 K, .string Py, .int .i64 n, .int .i64 x] 81)
    have c0 := hF4.cell 0
    have c1 := hF4.cell 1
    simp only [List.getElem?_cons_zero, List.getElem?_cons_succ] at c0 c1
    have g4 := Lib.hid (grewAlloc (grew (grewAlloc hb3 (.cells #[.int .i64 K, .string Py] 72)) hb4) (.cells #[.int .i64 K, .string Py, .int .i64 n, .int .i64 x] 81))
    clear hF hF4 hb3 hb4
    go_wp2_with fail
    refine (bare_any _).mono ?_
    rintro e w5 ⟨rfl, hb5⟩
    go_wp2_with fail
    go_ret
    exact ⟨rfl, grew g4.out hb5⟩


theorem own : ownKnob Try.prog.godebug = none := by kernel_rfl
theorem laidOut : laidOutB Try.prog = true := by kernel_rfl

set_option maxRecDepth 100000 in
theorem lifted (os : Os) (started : os.Started) (H : Type) (enc : TypeId × Value → H) :
    ReturnsInHanded {} Try.checked os 10 .any (Rows.frameDecodesSpec.pre6 enc Try.prog Try.f10 Rows.frameDecodesRow.domain false) (Rows.frameDecodesSpec.post enc Try.prog Try.f10 false true false false) := by
  refine returnsInHanded_of_change (C := Try.checked) own started (by kernel_rfl) Try.func10
    (ChangeSpec.witness6 (enc := enc) (C := Try.checked) false ⟨#[], #[.int .u32 0, .int .i64 0, .string ByteArray.empty], []⟩ 8 (by kernel_rfl) (by kernel_rfl) (by kernel_rfl) (by kernel_rfl)) ?_
  intro W base args ds gs before hval0 hW hcnd _
  have hval : ∀ (j : Nat) t v, Try.f10.params[j]? = some t → args[j]? = some v → Value.okWide Try.prog W .any base t v := hval0
  have hW' := hW
  obtain ⟨p, q, hA0, hV, rfl, hfz, hnd⟩ := hW
  have hA : DataW.TrodAll enc Try.prog W 0 (fun _ => true) true Try.f10.params.toList args.toList ds p := hA0
  rw [Try.params10] at hA hval
  obtain ⟨v0, vs0, d0, ds0, p0, q0, hargs, rfl, rfl, h0, r0⟩ := trodAll_cons hA
  obtain ⟨v1, vs1, d1, ds1, p1, q1, rfl, rfl, rfl, h1, r1⟩ := trodAll_cons r0
  obtain ⟨v2, vs2, d2, ds2, p2, q2, rfl, rfl, rfl, h2, r2⟩ := trodAll_cons r1
  obtain ⟨rfl, rfl, rfl⟩ := trodAll_nil r2
  obtain rfl : args = #[v0, v1, v2] := by cases args; simp_all
  obtain ⟨rfl, rfl⟩ := trodVars_none hV
  obtain ⟨a0, rfl, rfl, rfl, w0⟩ := open_int Try.underlying68 (hval 0 68 v0 rfl rfl) h0
  obtain ⟨a1, rfl, rfl, rfl, w1⟩ := open_int Try.underlying3 (hval 1 3 v1 rfl rfl) h1
  obtain ⟨a2, rfl, rfl, rfl, w2⟩ := open_string Try.underlying9 (hval 2 9 v2 rfl rfl) h2
  clear hA0 hval0
  refine (walk a0 a1 a2 W w0 w1 w2).mono fun e W' ⟨he, bel⟩ => ?_
  subst he
  exact ⟨_, rfl, _, _, _, [], [], [], hW', trodAll_mk1 (shut_bool Try.underlying4 _), (trodAll_cons_mk (shut_int Try.underlying68 w0) (trodAll_cons_mk (shut_int Try.underlying3 w1) (trodAll_cons_mk (shut_string Try.underlying9 w2) trodAll_mk0))), rfl, bel.frame _, fun h => by cases h⟩

theorem over : Rows.frameDecodesRow.holds Try.pinned (OpenSpec.ofChange Rows.frameDecodesSpec) :=
  OpenClaim.holds_of_wide 10 Try.f10 rfl rfl rfl rfl rfl rfl rfl ⟨rfl, rfl, rfl, rfl, rfl⟩ rfl rfl rfl rfl rfl (by kernel_rfl) Try.func10 (by kernel_rfl)
    (of_decide_eq_true (by kernel_rfl)) (by unfold Func.isWrapper; first | (rw [if_pos (by decide +kernel)]; kernel_rfl) | (rw [if_neg (by decide +kernel)]; exact ⟨rfl, rfl⟩))
    (fun os started H enc _ => lifted os started H enc)

/-- The statement. -/
theorem proved : Rows.FrameDecodesSaid := over
#print axioms proved

end Go.Proofs.Ytgomhnclmacleaa.frameDecodes
