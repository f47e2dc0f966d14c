/- For every act the law ViewNil returns true: a nil view, and one of a nil disk, have no sectors. No condition. -/
import Derived.Test.YtgomhnclmacleaaRows
import Derived.Test.YtgomhnclmacleaaEight
import Derived.ChangeOld
namespace Go.Proofs.Ytgomhnclmacleaa.viewNil
open Go.ChangeShapes Go.WideShapes Go.ChangeAt Go.RowKit
open Go.Proofs.Ytgomhnclmacleaa.D
set_option linter.unusedVariables false

set_option maxHeartbeats 4000000 in
set_option maxRecDepth 100000 in
theorem walk (k at_ n c : Int) (kv : Value) (kl : List (Int × Int)) (w : World) (wk : (Lit.int .i64 k).wf = true) (wa : (Lit.int .i64 at_).wf = true) (wn : (Lit.int .i64 n).wf = true) (wc : (Lit.int .u8 c).wf = true) (hkl : Keeps w kv kl) :
    Calls Try.prog 8 #[.agg #[.int .i64 k, .int .i64 at_, .int .i64 n, .int .u8 c, kv]] w fun e w' => e = .returned (.bool true) ∧ Below w.heap.size w w' := by
  obtain ⟨b, rfl⟩ := byte_of wc
  obtain ⟨ka, kcap, rfl, -⟩ := hkl.form
  clear wk wa wn wc hkl
  obtain ⟨W, hW⟩ : ∃ W, Hid (W = w.alloc (.cells #[.int .i64 k, .int .i64 at_, .int .i64 n, .int .u8 (b.toNat : Int), .slice ka kl.length kcap] 59)) := ⟨_, Lib.hid rfl⟩
  have hbW : Below w.heap.size w W := by rw [hW.out]; exact allocBelow w _
  have hall := fun i => (Whole.new w 59 [.int .i64 k, .int .i64 at_, .int .i64 n, .int .u8 (b.toNat : Int), .slice ka kl.length kcap]).cell i
  have c0 : W.cell? ⟨w.heap.size, 0, none⟩ = some (.int .i64 k) := by rw [hW.out]; exact hall 0
  have c1 : W.cell? ⟨w.heap.size, 1, none⟩ = some (.int .i64 at_) := by rw [hW.out]; exact hall 1
  have c2 : W.cell? ⟨w.heap.size, 2, none⟩ = some (.int .i64 n) := by rw [hW.out]; exact hall 2
  have c3 : W.cell? ⟨w.heap.size, 3, none⟩ = some (.int .u8 (b.toNat : Int)) := by rw [hW.out]; exact hall 3
  have c4 : W.cell? ⟨w.heap.size, 4, none⟩ = some (.slice ka kl.length kcap) := by rw [hW.out]; exact hall 4
  clear hall
  obtain ⟨m, hm⟩ : ∃ m, Hid (kl.length = m) := ⟨_, Lib.hid rfl⟩
  rw [hm.out] at c4 ⊢
  rw [hm.out] at hW
  by_cases hgt : 40 < m
  · go_enter Try.func8, Try.ntmps8
    go_wp2_with fail
    refine (eight_any _).mono ?_
    rintro e w1 ⟨rfl, hb1⟩
    rw [← hW.out] at hb1
    have hbel := hbW.trans (hb1.mono hbW.size)
    go_wp2_with fail
    go_ret
    exact ⟨rfl, hbel⟩
  · go_enter Try.func8, Try.ntmps8
    go_wp2_with fail
    rw [← hW.out]
    refine (vnew_nil at_ n _).mono ?_
    rintro e w1 ⟨rfl, rfl⟩
    go_wp2_with fail
    refine (vread_nil at_ _).mono ?_
    rintro e w1 ⟨rfl, rfl⟩
    go_wp2_with fail
    refine (vfuse_nil n _).mono ?_
    rintro e w1 ⟨rfl, rfl⟩
    go_wp2_with fail
    clear hW
    go_region_held3 (fun w' => w'.cell? ⟨w.heap.size, 0, none⟩ = some (.int .i64 k) ∧ w'.cell? ⟨w.heap.size, 1, none⟩ = some (.int .i64 at_) ∧ w'.cell? ⟨w.heap.size, 2, none⟩ = some (.int .i64 n) ∧ w'.cell? ⟨w.heap.size, 3, none⟩ = some (.int .u8 (b.toNat : Int)) ∧ w'.cell? ⟨w.heap.size, 4, none⟩ = some (.slice ka m kcap)) (go_keep) (first
      | (go_at_call 35; (with_reducible refine (text7 k at_ n b (.slice ka m kcap) _).mono ?_); rintro e w2 ⟨T, rfl, -, hb2⟩; have d0 := keepCell hb2 c0; have d1 := keepCell hb2 c1; have d2 := keepCell hb2 c2; have d3 := keepCell hb2 c3; have d4 := keepCell hb2 c4)
      | (go_at_call 34; (with_reducible refine (vwrite_nil at_ T _).mono ?_); rintro e w3 ⟨rfl, rfl⟩)
      | (go_at_call 36; (with_reducible refine (vflush_nil _).mono ?_); rintro e w3 ⟨rfl, rfl⟩)
      | (go_at_call 37; (with_reducible refine (vcrash_nil (.slice ka m kcap) _).mono ?_); rintro e w4 ⟨rfl, rfl⟩)
      | (go_at_call 38; (with_reducible refine (vsize_nil _).mono ?_); rintro e w5 ⟨rfl, rfl⟩)
      | (go_at_call 39; (with_reducible refine (vwaiting_nil _).mono ?_); rintro e w5 ⟨rfl, rfl⟩)
      | (go_at_call 31; (with_reducible refine (vsteps_nil _).mono ?_); rintro e w5 ⟨rfl, rfl⟩)
      | (go_at_call 32; (with_reducible refine (vdead_nil _).mono ?_); rintro e w5 ⟨rfl, rfl⟩)
      | (go_at_call 27; (with_reducible refine (eight_any _).mono ?_); rintro e w6 ⟨rfl, hb6⟩; have i0 := keepCell hb6 d0; have i1 := keepCell hb6 d1; have i2 := keepCell hb6 d2; have i3 := keepCell hb6 d3; have i4 := keepCell hb6 d4))
    have q2 : Below W.heap.size W w2 := below_of_drew hb2
    have q6 := hbW.trans ((q2.trans (hb6.mono q2.size)).mono hbW.size)
    go_wp2_with fail
    go_ret
    exact ⟨rfl, q6⟩

theorem own : ownKnob Try.prog.godebug = none := by kernel_rfl
theorem laidOut : laidOutB Try.prog = true := by kernel_rfl

set_option maxRecDepth 100000 in
theorem lifted (os : Os) (started : os.Started) (H : Type) (enc : TypeId × Value → H) :
    ReturnsInHanded {} Try.checked os 8 .any (Rows.viewNilSpec.pre6 enc Try.prog Try.f8 Rows.viewNilRow.domain false) (Rows.viewNilSpec.post enc Try.prog Try.f8 false true false false) := by
  refine returnsInHanded_of_change (C := Try.checked) own started (by kernel_rfl) Try.func8
    (ChangeSpec.witness6 (enc := enc) (C := Try.checked) false ⟨#[], #[.agg #[.int .i64 0, .int .i64 0, .int .i64 0, .int .u8 0, .slice none 0 0]], []⟩ 8 (by kernel_rfl) (by kernel_rfl) (by kernel_rfl) (by kernel_rfl)) ?_
  intro W base args ds gs before hval0 hW hcnd _
  have hval : ∀ (j : Nat) t v, Try.f8.params[j]? = some t → args[j]? = some v → Value.okWide Try.prog W .any base t v := hval0
  have hW' := hW
  obtain ⟨p, q, hA0, hV, rfl, hfz, hnd⟩ := hW
  have hA : DataW.TrodAll enc Try.prog W 0 (fun _ => true) true Try.f8.params.toList args.toList ds p := hA0
  rw [Try.params8] at hA hval
  obtain ⟨v0, vs0, d0, ds0, p0, q0, hargs, rfl, rfl, h0, r0⟩ := trodAll_cons hA
  obtain ⟨rfl, rfl, rfl⟩ := trodAll_nil r0
  obtain rfl : args = #[v0] := by cases args; simp_all
  obtain ⟨rfl, rfl⟩ := trodVars_none hV
  have k0 := h0
  have lt0 : ∀ x ∈ p0, x.block < W.heap.size := by obtain ⟨m, hm⟩ := k0; exact DataW.trod_lt m _ _ _ hm
  obtain ⟨ak0, aa0, an0, ac0, av0, al0, rfl, wk0, wa0, wn0, wc0, w0⟩ := D.open_act7 (hval 0 59 v0 rfl rfl) h0
  clear hA0 hval0
  refine (walk ak0 aa0 an0 ac0 av0 al0 W wk0 wa0 wn0 wc0 w0).mono fun e W' ⟨he, bel⟩ => ?_
  subst he
  exact ⟨_, rfl, _, _, _, [], _, [], hW', trodAll_mk1 (shut_bool Try.underlying4 _), (trodAll_cons_mk (Below.trod laidOut (by kernel_rfl) (of_decide_eq_true (by kernel_rfl)) k0 bel lt0) trodAll_mk0), rfl, bel.frame _, fun h => by cases h⟩

theorem over : Rows.viewNilRow.holds Try.pinned (OpenSpec.ofChange Rows.viewNilSpec) :=
  OpenClaim.holds_of_wide 8 Try.f8 rfl rfl rfl rfl rfl rfl rfl ⟨rfl, rfl, rfl, rfl, rfl⟩ rfl rfl rfl rfl rfl (by kernel_rfl) Try.func8 (by kernel_rfl)
    (of_decide_eq_true (by kernel_rfl)) (by unfold Func.isWrapper; first | (rw [if_pos (by decide +kernel)]; kernel_rfl) | (rw [if_neg (by decide +kernel)]; exact ⟨rfl, rfl⟩))
    (fun os started H enc _ => lifted os started H enc)

/-- The statement. -/
theorem proved : Rows.ViewNilSaid := over
#print axioms proved

end Go.Proofs.Ytgomhnclmacleaa.viewNil
