/- For every act the law DiskNil returns true: a nil disk keeps nothing. No condition. -/
import Derived.Test.YtbhbiejaneencaaRows
import Derived.Test.YtbhbiejaneencaaOpenAct
import Derived.ChangeOld
namespace Go.Proofs.Ytbhbiejaneencaa.D
open Go.RowKit
set_option linter.unusedVariables false
theorem waiting_nil (a b : Int) (w : World) : Calls Try.prog 20 #[.pointer none, .int .i64 a, .int .i64 b] w fun e w' => e = .returned (.int .i64 0) ∧ Below w.heap.size w w' := by
  go_enter Try.func20, Try.ntmps20
  go_wp2_with fail
  refine (span_nil _ a b).mono ?_
  rintro e w1 ⟨rfl, hb1⟩
  have hbel := (allocBelow w (.cells #[.int .i64 a, .int .i64 b] 88)).trans (hb1.mono (allocBelow w _).size)
  go_wp2_with fail
  go_ret
  exact ⟨rfl, hbel⟩
end Go.Proofs.Ytbhbiejaneencaa.D

namespace Go.Proofs.Ytbhbiejaneencaa.diskNil
open Go.ChangeShapes Go.WideShapes Go.ChangeAt Go.RowKit
open Go.Proofs.Ytbhbiejaneencaa.D
set_option linter.unusedVariables false

set_option maxHeartbeats 2000000 in
set_option maxRecDepth 100000 in
theorem walk (k at_ n c : Int) (kv : Value) (kl : List (Int × Int)) (w : World) (wk : (Lit.int .i64 k).wf = true) (wa : (Lit.int .i64 at_).wf = true) (wn : (Lit.int .i64 n).wf = true) (wc : (Lit.int .u8 c).wf = true) (hkl : Keeps w kv kl) :
    Calls Try.prog 7 #[.agg #[.int .i64 k, .int .i64 at_, .int .i64 n, .int .u8 c, kv]] w fun e w' => e = .returned (.bool true) ∧ Below w.heap.size w w' := by
  obtain ⟨b, rfl⟩ := byte_of wc
  obtain ⟨ka, kcap, rfl, -⟩ := hkl.form
  clear wk wa wn wc hkl
  obtain ⟨W, hW⟩ : ∃ W, Hid (W = w.alloc (.cells #[.int .i64 k, .int .i64 at_, .int .i64 n, .int .u8 (b.toNat : Int), .slice ka kl.length kcap] 36)) := ⟨_, Lib.hid rfl⟩
  have hbW : Below w.heap.size w W := by rw [hW.out]; exact allocBelow w _
  have hall := fun i => (Whole.new w 36 [.int .i64 k, .int .i64 at_, .int .i64 n, .int .u8 (b.toNat : Int), .slice ka kl.length kcap]).cell i
  have c0 : W.cell? ⟨w.heap.size, 0, none⟩ = some (.int .i64 k) := by rw [hW.out]; exact hall 0
  have c1 : W.cell? ⟨w.heap.size, 1, none⟩ = some (.int .i64 at_) := by rw [hW.out]; exact hall 1
  have c2 : W.cell? ⟨w.heap.size, 2, none⟩ = some (.int .i64 n) := by rw [hW.out]; exact hall 2
  have c3 : W.cell? ⟨w.heap.size, 3, none⟩ = some (.int .u8 (b.toNat : Int)) := by rw [hW.out]; exact hall 3
  have c4 : W.cell? ⟨w.heap.size, 4, none⟩ = some (.slice ka kl.length kcap) := by rw [hW.out]; exact hall 4
  clear hall
  obtain ⟨m, hm⟩ : ∃ m, Hid (kl.length = m) := ⟨_, Lib.hid rfl⟩
  rw [hm.out] at c4 ⊢
  rw [hm.out] at hW
  by_cases hgt : 40 < m
  · go_enter Try.func7, Try.ntmps7
    go_wp2_with fail
    refine (torn_any _).mono ?_
    rintro e w1 ⟨rfl, hb1⟩
    rw [← hW.out] at hb1
    have hbel := hbW.trans (hb1.mono hbW.size)
    go_wp2_with fail
    go_ret
    exact ⟨rfl, hbel⟩
  · go_enter Try.func7, Try.ntmps7
    go_wp2_with fail
    rw [← hW.out]
    refine (read_nil _ at_).mono ?_
    rintro e w1 ⟨rfl, rfl⟩
    go_wp2_with fail
    refine (lies_nil _ at_).mono ?_
    rintro e w1 ⟨rfl, rfl⟩
    go_wp2_with fail
    clear hW
    go_region_held3 (fun w' => w'.cell? ⟨w.heap.size, 0, none⟩ = some (.int .i64 k) ∧ w'.cell? ⟨w.heap.size, 1, none⟩ = some (.int .i64 at_) ∧ w'.cell? ⟨w.heap.size, 2, none⟩ = some (.int .i64 n) ∧ w'.cell? ⟨w.heap.size, 3, none⟩ = some (.int .u8 (b.toNat : Int)) ∧ w'.cell? ⟨w.heap.size, 4, none⟩ = some (.slice ka m kcap)) (go_keep) (first
      | (go_at_call 27; (with_reducible refine (text_any k at_ n b (.slice ka m kcap) _).mono ?_); rintro e w2 ⟨T, rfl, -, hb2⟩; have d0 := keepCell hb2 c0; have d1 := keepCell hb2 c1; have d2 := keepCell hb2 c2; have d3 := keepCell hb2 c3; have d4 := keepCell hb2 c4)
      | (go_at_call 26; (with_reducible refine (write_nil _ at_ T).mono ?_); rintro e w3 ⟨rfl, rfl⟩)
      | (go_at_call 24; (with_reducible refine (flush_nil _ at_ n).mono ?_); rintro e w3 ⟨rfl, hb3⟩; have e0 := keepCell hb3 d0; have e1 := keepCell hb3 d1; have e2 := keepCell hb3 d2; have e3 := keepCell hb3 d3; have e4 := keepCell hb3 d4)
      | (go_at_call 25; (with_reducible refine (crash_nil _ at_ n (.slice ka m kcap)).mono ?_); rintro e w4 ⟨rfl, hb4⟩; have f0 := keepCell hb4 e0; have f1 := keepCell hb4 e1; have f2 := keepCell hb4 e2; have f3 := keepCell hb4 e3; have f4 := keepCell hb4 e4)
      | (go_at_call 28; (with_reducible refine (size_nil _).mono ?_); rintro e w5 ⟨rfl, rfl⟩)
      | (go_at_call 20; (with_reducible refine (waiting_nil at_ n _).mono ?_); rintro e w5 ⟨rfl, hb5⟩; have g0 := keepCell hb5 f0; have g1 := keepCell hb5 f1; have g2 := keepCell hb5 f2; have g3 := keepCell hb5 f3; have g4 := keepCell hb5 f4)
      | (go_at_call 14; (with_reducible refine (torn_any _).mono ?_); rintro e w6 ⟨rfl, hb6⟩; have i0 := keepCell hb6 g0; have i1 := keepCell hb6 g1; have i2 := keepCell hb6 g2; have i3 := keepCell hb6 g3; have i4 := keepCell hb6 g4))
    have q2 : Below W.heap.size W w2 := below_of_drew hb2
    have q3 := q2.trans (hb3.mono q2.size)
    have q4 := q3.trans (hb4.mono q3.size)
    have q5 := q4.trans (hb5.mono q4.size)
    have q6 := hbW.trans ((q5.trans (hb6.mono q5.size)).mono hbW.size)
    go_wp2_with fail
    go_ret
    exact ⟨rfl, q6⟩

theorem own : ownKnob Try.prog.godebug = none := by kernel_rfl
theorem laidOut : laidOutB Try.prog = true := by kernel_rfl

set_option maxRecDepth 100000 in
theorem lifted (os : Os) (started : os.Started) (H : Type) (enc : TypeId × Value → H) :
    ReturnsInHanded {} Try.checked os 7 .any (Rows.diskNilSpec.pre6 enc Try.prog Try.f7 Rows.diskNilRow.domain false) (Rows.diskNilSpec.post enc Try.prog Try.f7 false true false false) := by
  refine returnsInHanded_of_change (C := Try.checked) own started (by kernel_rfl) Try.func7
    (ChangeSpec.witness6 (enc := enc) (C := Try.checked) false ⟨#[], #[.agg #[.int .i64 0, .int .i64 0, .int .i64 0, .int .u8 0, .slice none 0 0]], []⟩ 8 (by kernel_rfl) (by kernel_rfl) (by kernel_rfl) (by kernel_rfl)) ?_
  intro W base args ds gs before hval0 hW hcnd _
  have hval : ∀ (j : Nat) t v, Try.f7.params[j]? = some t → args[j]? = some v → Value.okWide Try.prog W .any base t v := hval0
  have hW' := hW
  obtain ⟨p, q, hA0, hV, rfl, hfz, hnd⟩ := hW
  have hA : DataW.TrodAll enc Try.prog W 0 (fun _ => true) true Try.f7.params.toList args.toList ds p := hA0
  rw [Try.params7] at hA hval
  obtain ⟨v0, vs0, d0, ds0, p0, q0, hargs, rfl, rfl, h0, r0⟩ := trodAll_cons hA
  obtain ⟨rfl, rfl, rfl⟩ := trodAll_nil r0
  obtain rfl : args = #[v0] := by cases args; simp_all
  obtain ⟨rfl, rfl⟩ := trodVars_none hV
  have k0 := h0
  have lt0 : ∀ x ∈ p0, x.block < W.heap.size := by obtain ⟨m, hm⟩ := k0; exact DataW.trod_lt m _ _ _ hm
  obtain ⟨ak0, aa0, an0, ac0, av0, al0, rfl, wk0, wa0, wn0, wc0, w0⟩ := D.open_act (hval 0 36 v0 rfl rfl) h0
  clear hA0 hval0
  refine (walk ak0 aa0 an0 ac0 av0 al0 W wk0 wa0 wn0 wc0 w0).mono fun e W' ⟨he, bel⟩ => ?_
  subst he
  exact ⟨_, rfl, _, _, _, [], _, [], hW', trodAll_mk1 (shut_bool Try.underlying4 _), (trodAll_cons_mk (Below.trod laidOut (by kernel_rfl) (of_decide_eq_true (by kernel_rfl)) k0 bel lt0) trodAll_mk0), rfl, bel.frame _, fun h => by cases h⟩

theorem over : Rows.diskNilRow.holds Try.pinned (OpenSpec.ofChange Rows.diskNilSpec) :=
  OpenClaim.holds_of_wide 7 Try.f7 rfl rfl rfl rfl rfl rfl rfl ⟨rfl, rfl, rfl, rfl, rfl⟩ rfl rfl rfl rfl rfl (by kernel_rfl) Try.func7 (by kernel_rfl)
    (of_decide_eq_true (by kernel_rfl)) (by unfold Func.isWrapper; first | (rw [if_pos (by decide +kernel)]; kernel_rfl) | (rw [if_neg (by decide +kernel)]; exact ⟨rfl, rfl⟩))
    (fun os started H enc _ => lifted os started H enc)

/-- The statement. -/
theorem proved : Rows.DiskNilSaid := over
#print axioms proved

end Go.Proofs.Ytbhbiejaneencaa.diskNil
