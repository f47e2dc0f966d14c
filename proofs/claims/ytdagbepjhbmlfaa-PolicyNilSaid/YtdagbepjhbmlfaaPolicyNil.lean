/- For every row of rules and every int the law PolicyNil returns true: a nil policy, a nil ledger, a policy of a nil lattice have no rules. No condition. -/
import Derived.Test.YtdagbepjhbmlfaaRows
import Derived.Test.YtdagbepjhbmlfaaPolTwo
import Derived.Test.YtdagbepjhbmlfaaRulesIn
import Derived.ChangeOld
namespace Go.Proofs.Ytdagbepjhbmlfaa.policyNil
open Go.ChangeShapes Go.WideShapes Go.ChangeAt Go.RowKit
open Go.Proofs.Ytdagbepjhbmlfaa.Q
open Go.Proofs.Ytdagbepjhbmlfaa.D (Whole)
set_option linter.unusedVariables false

set_option maxRecDepth 100000 in
theorem walk (a : Option Addr) (n cap : Nat) (r : Nat → Rule1) (x : Int) (w : World) (h : Rls w a n cap r) (wx : (Lit.int .i64 x).wf = true) :
    Calls Try.prog 9 #[.slice a n cap, .int .i64 x] w fun e w' => e = .returned (.bool true) ∧ Below w.heap.size w w' := by
  have hl := h.le
  have hm := h.max
  unfold maxLen at hm
  clear h wx
  by_cases h60 : 60 < n
  · go_enter Try.func9, Try.ntmps9
    go_wp2_with fail
    refine (two_any _).mono ?_
    rintro e w1 ⟨rfl, hb1⟩
    go_wp2_with fail
    go_ret
    exact ⟨rfl, hb1⟩
  replace h60 : n ≤ 60 := by omega
  go_enter Try.func9, Try.ntmps9
  go_wp2_with fail
  refine (polnew_nil a n cap _).mono ?_
  rintro e w1 ⟨rfl, rfl⟩
  go_wp2_with fail
  refine (find_nil _ x x).mono ?_
  rintro e w1 ⟨rfl, rfl⟩
  go_wp2_with fail
  refine (rule_nil _ x).mono ?_
  rintro e w1 ⟨rfl, hb1⟩
  obtain ⟨W3, hW3⟩ : ∃ W, Hid (W = w1.alloc (.cells #[.int .i64 0, .int .i64 0, .int .i64 0] 69)) := ⟨_, Lib.hid rfl⟩
  have hb3 : Below w1.heap.size w1 W3 := by rw [hW3.out]; exact allocB w1 _
  have hall := fun i => (Whole.new w1 69 [.int .i64 0, .int .i64 0, .int .i64 0]).cell i
  have a0 : W3.cell? ⟨w1.heap.size, 0, none⟩ = some (.int .i64 0) := by rw [hW3.out]; exact hall 0
  have a1 : W3.cell? ⟨w1.heap.size, 1, none⟩ = some (.int .i64 0) := by rw [hW3.out]; exact hall 1
  have a2 : W3.cell? ⟨w1.heap.size, 2, none⟩ = some (.int .i64 0) := by rw [hW3.out]; exact hall 2
  replace hb3 := hb1.trans (hb3.mono hb1.size)
  clear hb1 hall
  go_wp2_with fail
  rw [← hW3.out]
  clear hW3
  refine (ledger_nil _ x).mono ?_
  rintro e w2 ⟨rfl, rfl⟩
  go_wp2_with fail
  refine (tick_nil _).mono ?_
  rintro e w2 ⟨rfl, rfl⟩
  go_wp2_with fail
  refine (psize_nil _).mono ?_
  rintro e w2 ⟨rfl, rfl⟩
  go_wp2_with fail
  refine (left_nil _ x).mono ?_
  rintro e w2 ⟨rfl, rfl⟩
  go_wp2_with fail
  refine (spend_nil _ x).mono ?_
  rintro e w2 ⟨rfl, rfl⟩
  go_wp2_with fail
  refine (two_any _).mono ?_
  rintro e w4 ⟨rfl, hb4⟩
  replace hb4 := hb3.trans (hb4.mono hb3.size)
  clear hb3
  go_wp2_with fail
  go_ret
  exact ⟨rfl, hb4⟩

theorem own : ownKnob Try.prog.godebug = none := by kernel_rfl
theorem laidOut : laidOutB Try.prog = true := by kernel_rfl

set_option maxRecDepth 100000 in
theorem lifted (os : Os) (started : os.Started) (H : Type) (enc : TypeId × Value → H) :
    ReturnsInHanded {} Try.checked os 9 .any (Rows.policyNilSpec.pre6 enc Try.prog Try.f9 Rows.policyNilRow.domain false) (Rows.policyNilSpec.post enc Try.prog Try.f9 false true false false) := by
  refine returnsInHanded_of_change (C := Try.checked) own started (by kernel_rfl) Try.func9
    (ChangeSpec.witness6 (enc := enc) (C := Try.checked) false ⟨#[], #[.slice none 0 0, .int .i64 0], []⟩ 8 (by kernel_rfl) (by kernel_rfl) (by kernel_rfl) (by kernel_rfl)) ?_
  intro W base args ds gs before hval0 hW hcnd _
  have hval : ∀ (j : Nat) t v, Try.f9.params[j]? = some t → args[j]? = some v → Value.okWide Try.prog W .any base t v := hval0
  have hW' := hW
  obtain ⟨p, q, hA0, hV, rfl, hfz, hnd⟩ := hW
  have hA : DataW.TrodAll enc Try.prog W 0 (fun _ => true) true Try.f9.params.toList args.toList ds p := hA0
  rw [Try.params9] at hA hval
  obtain ⟨v0, vs0, d0, ds0, p0, q0, hargs, rfl, rfl, h0, r0⟩ := trodAll_cons hA
  obtain ⟨v1, vs1, d1, ds1, p1, q1, rfl, rfl, rfl, h1, r1⟩ := trodAll_cons r0
  obtain ⟨rfl, rfl, rfl⟩ := trodAll_nil r1
  obtain rfl : args = #[v0, v1] := by cases args; simp_all
  obtain ⟨rfl, rfl⟩ := trodVars_none hV
  obtain ⟨a0, len0, cap0, rfl⟩ := okWide_slice Try.underlying54 (hval 0 54 v0 rfl rfl)
  have k0 := h0
  have lt0 : ∀ x ∈ p0, x.block < W.heap.size := by obtain ⟨m, hm⟩ := k0; exact DataW.trod_lt m _ _ _ hm
  obtain ⟨z0, w0⟩ := Q.open_rules h0
  obtain ⟨a1, rfl, rfl, rfl, w1⟩ := open_int Try.underlying3 (hval 1 3 v1 rfl rfl) h1
  clear hA0 hval0
  refine (walk a0 len0 cap0 z0 a1 W w0 w1).mono fun e W' ⟨he, bel⟩ => ?_
  subst he
  exact ⟨_, rfl, _, _, _, [], _, [], hW', trodAll_mk1 (shut_bool Try.underlying4 _), (trodAll_cons_mk (Below.trod laidOut (by kernel_rfl) (of_decide_eq_true (by kernel_rfl)) k0 bel lt0) (trodAll_cons_mk (shut_int Try.underlying3 w1) trodAll_mk0)), rfl, bel.frame _, fun h => by cases h⟩

theorem over : Rows.policyNilRow.holds Try.pinned (OpenSpec.ofChange Rows.policyNilSpec) :=
  OpenClaim.holds_of_wide 9 Try.f9 rfl rfl rfl rfl rfl rfl rfl ⟨rfl, rfl, rfl, rfl, rfl⟩ rfl rfl rfl rfl rfl (by kernel_rfl) Try.func9 (by kernel_rfl)
    (of_decide_eq_true (by kernel_rfl)) (by unfold Func.isWrapper; first | (rw [if_pos (by decide +kernel)]; kernel_rfl) | (rw [if_neg (by decide +kernel)]; exact ⟨rfl, rfl⟩))
    (fun os started H enc _ => lifted os started H enc)

/-- The statement. -/
theorem proved : Rows.PolicyNilSaid := over
#print axioms proved

end Go.Proofs.Ytdagbepjhbmlfaa.policyNil
