/- For every sealed sector, number and string the law SealCodes returns true: a sealed sector's bytes, or why there is none, and what any bytes tell, are those of the definition; Open of Seal tells what was sealed; what opens is a sealed sector. No condition. -/
import Derived.Test.YtkmlmondhmpkkaaRows
import Derived.Test.YtkmlmondhmpkkaaCodes
import Derived.ChangeOld
import Derived.ShutString
namespace Go.Proofs.Ytkmlmondhmpkkaa.sealCodes
open Go.ChangeShapes Go.WideShapes Go.ChangeAt Go.RowKit
open Go.ChangeMaps (open_string shut_string)
open Go.Proofs.Ytkmlmondhmpkkaa.M Go.Proofs.Ytkmlmondhmpkkaa.W Go.Proofs.Ytkmlmondhmpkkaa.D Go.Proofs.Ytkmlmondhmpkkaa.Z
set_option linter.unusedVariables false

theorem walk (st c : Int) (dl : List UInt8) (less : Int) (s : ByteArray) (w : World) (w0 : (Lit.int .u32 st).wf = true) (w1 : (Lit.int .i64 c).wf = true) (w2 : dl.length = 52) (w3 : (Lit.int .i64 less).wf = true) (w4 : s.size ≤ maxLen) :
    Calls Try.prog 3 #[.agg (sealedV st c dl).toArray, .int .i64 less, .string s] w fun e w' => e = .returned (.bool true) ∧ Below w.heap.size w w' := by
  obtain ⟨l0, l1⟩ := bounds_u32 w0
  obtain ⟨q0, q1⟩ := bounds_i64 w3
  unfold maxLen at w4
  by_cases hs : 200 < s.size
  · exact codes_long st c dl less s w hs (by omega)
  by_cases ho : opensS s
  · cases hm : mayB c (lessN less) with
    | true => exact codes_yes_may st c dl less s w w2 l0 l1 q0 q1 (by omega) ho hm
    | false => exact codes_yes_not st c dl less s w w2 l0 l1 q0 q1 (by omega) ho hm
  · cases hm : mayB c (lessN less) with
    | true => exact codes_no_may st c dl less s w w2 l0 l1 q0 q1 (by omega) ho hm
    | false => exact codes_no_not st c dl less s w w2 l0 l1 q0 q1 (by omega) ho hm


theorem own : ownKnob Try.prog.godebug = none := by kernel_rfl
theorem laidOut : laidOutB Try.prog = true := by kernel_rfl

set_option maxRecDepth 100000 in
theorem lifted (os : Os) (started : os.Started) (H : Type) (enc : TypeId × Value → H) :
    ReturnsInHanded {} Try.checked os 3 .any (Rows.sealCodesSpec.pre6 enc Try.prog Try.f3 Rows.sealCodesRow.domain false) (Rows.sealCodesSpec.post enc Try.prog Try.f3 false true false false) := by
  refine returnsInHanded_of_change (C := Try.checked) own started (by kernel_rfl) Try.func3
    (ChangeSpec.witness6 (enc := enc) (C := Try.checked) false ⟨#[], #[.agg (#[.int .u32 0, .int .i64 0] ++ Array.replicate 52 (.int .u8 0)), .int .i64 0, .string ByteArray.empty], []⟩ 8 (by kernel_rfl) (by kernel_rfl) (by kernel_rfl) (by kernel_rfl)) ?_
  intro W base args ds gs before hval0 hW hcnd _
  have hval : ∀ (j : Nat) t v, Try.f3.params[j]? = some t → args[j]? = some v → Value.okWide Try.prog W .any base t v := hval0
  have hW' := hW
  obtain ⟨p, q, hA0, hV, rfl, hfz, hnd⟩ := hW
  have hA : DataW.TrodAll enc Try.prog W 0 (fun _ => true) true Try.f3.params.toList args.toList ds p := hA0
  rw [Try.params3] at hA hval
  obtain ⟨v0, vs0, d0, ds0, p0, q0, hargs, rfl, rfl, h0, r0⟩ := trodAll_cons hA
  obtain ⟨v1, vs1, d1, ds1, p1, q1, rfl, rfl, rfl, h1, r1⟩ := trodAll_cons r0
  obtain ⟨v2, vs2, d2, ds2, p2, q2, rfl, rfl, rfl, h2, r2⟩ := trodAll_cons r1
  obtain ⟨rfl, rfl, rfl⟩ := trodAll_nil r2
  obtain rfl : args = #[v0, v1, v2] := by cases args; simp_all
  obtain ⟨rfl, rfl⟩ := trodVars_none hV
  have k0 := h0
  have lt0 : ∀ x ∈ p0, x.block < W.heap.size := by obtain ⟨m, hm⟩ := k0; exact DataW.trod_lt m _ _ _ hm
  obtain ⟨st0, ct0, dl0, rfl, wst0, wct0, wdl0⟩ := M.open_sealed (hval 0 25 v0 rfl rfl) h0
  obtain ⟨a1, rfl, rfl, rfl, w1⟩ := open_int Try.underlying3 (hval 1 3 v1 rfl rfl) h1
  obtain ⟨a2, rfl, rfl, rfl, w2⟩ := open_string Try.underlying9 (hval 2 9 v2 rfl rfl) h2
  clear hA0 hval0
  refine (walk st0 ct0 dl0 a1 a2 W wst0 wct0 wdl0 w1 w2).mono fun e W' ⟨he, bel⟩ => ?_
  subst he
  exact ⟨_, rfl, _, _, _, [], _, [], hW', trodAll_mk1 (shut_bool Try.underlying4 _), (trodAll_cons_mk (Below.trod laidOut (by kernel_rfl) (of_decide_eq_true (by kernel_rfl)) k0 bel lt0) (trodAll_cons_mk (shut_int Try.underlying3 w1) (trodAll_cons_mk (shut_string Try.underlying9 w2) trodAll_mk0))), rfl, bel.frame _, fun h => by cases h⟩

theorem over : Rows.sealCodesRow.holds Try.pinned (OpenSpec.ofChange Rows.sealCodesSpec) :=
  OpenClaim.holds_of_wide 3 Try.f3 rfl rfl rfl rfl rfl rfl rfl ⟨rfl, rfl, rfl, rfl, rfl⟩ rfl rfl rfl rfl rfl (by kernel_rfl) Try.func3 (by kernel_rfl)
    (of_decide_eq_true (by kernel_rfl)) (by unfold Func.isWrapper; first | (rw [if_pos (by decide +kernel)]; kernel_rfl) | (rw [if_neg (by decide +kernel)]; exact ⟨rfl, rfl⟩))
    (fun os started H enc _ => lifted os started H enc)

/-- The statement. -/
theorem proved : Rows.SealCodesSaid := over
#print axioms proved

end Go.Proofs.Ytkmlmondhmpkkaa.sealCodes
