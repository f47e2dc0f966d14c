/- For every int the law LayoutNil returns true: a nil layout has no labels. No condition. -/
import Derived.Test.YtdagbepjhbmlfaaRows
import Derived.Test.YtdagbepjhbmlfaaPair
import Derived.ChangeOld
import Derived.ShutString
namespace Go.Proofs.Ytdagbepjhbmlfaa.layoutNil
open Go.ChangeShapes Go.WideShapes Go.ChangeAt Go.RowKit
open Go.ChangeMaps (open_string shut_string)
open Go.Proofs.Ytdagbepjhbmlfaa.Y
open Go.Proofs.Ytdagbepjhbmlfaa.I
set_option linter.unusedVariables false

set_option maxRecDepth 100000 in
theorem walk (a0 : Int) (w : World) (w0 : (Lit.int .i64 a0).wf = true) :
    Calls Try.prog 14 #[.int .i64 a0] w fun e w' => e = .returned (.bool true) ∧ Below w.heap.size w w' := by
  clear w0
  go_enter Try.func14, Try.ntmps14
  go_wp2_with fail
  refine (extent_nil _ a0).mono ?_
  rintro e w1 ⟨rfl, hb1⟩
  obtain ⟨W3, hW3⟩ : ∃ W, Hid (W = w1.alloc (.cells #[.int .i64 0, .int .i64 0] 96)) := ⟨_, Lib.hid rfl⟩
  have hb3 : Below w1.heap.size w1 W3 := by rw [hW3.out]; exact allocBelow' w1 _
  have a0 : W3.cell? ⟨w1.heap.size, 0, none⟩ = some (.int .i64 0) := by rw [hW3.out]; exact (Go.Proofs.Ytdagbepjhbmlfaa.D.Whole.new w1 96 [.int .i64 0, .int .i64 0]).cell 0
  have a1 : W3.cell? ⟨w1.heap.size, 1, none⟩ = some (.int .i64 0) := by rw [hW3.out]; exact (Go.Proofs.Ytdagbepjhbmlfaa.D.Whole.new w1 96 [.int .i64 0, .int .i64 0]).cell 1
  replace hb3 := hb1.trans (hb3.mono hb1.size)
  clear hb1
  go_wp2_with fail
  rw [← hW3.out]
  refine (owner_nil _ _).mono ?_
  rintro e w2 ⟨rfl, rfl⟩
  clear hW3
  go_wp2_with fail
  refine (labels_nil _).mono ?_
  rintro e w2 ⟨rfl, rfl⟩
  go_wp2_with fail
  refine (sectors_nil _).mono ?_
  rintro e w2 ⟨rfl, rfl⟩
  go_wp2_with fail
  refine (pair_any _).mono ?_
  rintro e w2 ⟨rfl, hb2⟩
  replace hb2 := hb3.trans (hb2.mono hb3.size)
  clear hb3
  go_wp2_with fail
  go_ret
  exact ⟨rfl, hb2⟩

theorem own : ownKnob Try.prog.godebug = none := by kernel_rfl
theorem laidOut : laidOutB Try.prog = true := by kernel_rfl

set_option maxRecDepth 100000 in
theorem lifted (os : Os) (started : os.Started) (H : Type) (enc : TypeId × Value → H) :
    ReturnsInHanded {} Try.checked os 14 .any (Rows.layoutNilSpec.pre6 enc Try.prog Try.f14 Rows.layoutNilRow.domain false) (Rows.layoutNilSpec.post enc Try.prog Try.f14 false true false false) := by
  refine returnsInHanded_of_change (C := Try.checked) own started (by kernel_rfl) Try.func14
    (ChangeSpec.witness6 (enc := enc) (C := Try.checked) false ⟨#[], #[.int .i64 0], []⟩ 8 (by kernel_rfl) (by kernel_rfl) (by kernel_rfl) (by kernel_rfl)) ?_
  intro W base args ds gs before hval0 hW hcnd _
  have hval : ∀ (j : Nat) t v, Try.f14.params[j]? = some t → args[j]? = some v → Value.okWide Try.prog W .any base t v := hval0
  have hW' := hW
  obtain ⟨p, q, hA0, hV, rfl, hfz, hnd⟩ := hW
  have hA : DataW.TrodAll enc Try.prog W 0 (fun _ => true) true Try.f14.params.toList args.toList ds p := hA0
  rw [Try.params14] at hA hval
  obtain ⟨v0, vs0, d0, ds0, p0, q0, hargs, rfl, rfl, h0, r0⟩ := trodAll_cons hA
  obtain ⟨rfl, rfl, rfl⟩ := trodAll_nil r0
  obtain rfl : args = #[v0] := by cases args; simp_all
  obtain ⟨rfl, rfl⟩ := trodVars_none hV
  obtain ⟨a0, rfl, rfl, rfl, w0⟩ := open_int Try.underlying3 (hval 0 3 v0 rfl rfl) h0
  clear hA0 hval0
  refine (walk a0 W w0).mono fun e W' ⟨he, bel⟩ => ?_
  subst he
  exact ⟨_, rfl, _, _, _, [], [], [], hW', trodAll_mk1 (shut_bool Try.underlying4 _), (trodAll_cons_mk (shut_int Try.underlying3 w0) trodAll_mk0), rfl, bel.frame _, fun h => by cases h⟩

theorem over : Rows.layoutNilRow.holds Try.pinned (OpenSpec.ofChange Rows.layoutNilSpec) :=
  OpenClaim.holds_of_wide 14 Try.f14 rfl rfl rfl rfl rfl rfl rfl ⟨rfl, rfl, rfl, rfl, rfl⟩ rfl rfl rfl rfl rfl (by kernel_rfl) Try.func14 (by kernel_rfl)
    (of_decide_eq_true (by kernel_rfl)) (by unfold Func.isWrapper; first | (rw [if_pos (by decide +kernel)]; kernel_rfl) | (rw [if_neg (by decide +kernel)]; exact ⟨rfl, rfl⟩))
    (fun os started H enc _ => lifted os started H enc)

/-- The statement. -/
theorem proved : Rows.LayoutNilSaid := over
#print axioms proved

end Go.Proofs.Ytdagbepjhbmlfaa.layoutNil
