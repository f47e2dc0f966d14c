/- For every table of bools the law LatticeNews returns true: which tables are lattices, and why others are none. No condition. -/
import Derived.Test.YtbhbiejaneencaaRows
import Derived.Test.YtbhbiejaneencaaFour
import Derived.Test.YtbhbiejaneencaaGrid
import Derived.ChangeOld
import Derived.ShutString
namespace Go.Proofs.Ytbhbiejaneencaa.latticeNews
open Go.ChangeShapes Go.WideShapes Go.ChangeAt Go.RowKit
open Go.ChangeMaps (open_string shut_string)
open Go.Proofs.Ytbhbiejaneencaa.L
set_option linter.unusedVariables false

set_option maxRecDepth 100000 in
theorem walk (a : Option Addr) (len cap : Nat) (A : Nat → Option Addr) (L C : Nat → Nat) (B : Nat → Nat → Bool) (w : World) (h : Tab w a len A L C B) :
    Calls Try.prog 8 #[.slice a len cap] w fun e w' => e = .returned (.bool true) ∧ Below w.heap.size w w' := by
  cases hl : largeB len L <;> replace hl := Lib.hid hl
  · go_enter Try.func8, Try.ntmps8
    go_wp2_with fail
    refine (large_any a len cap A L C B _ h).mono ?_
    rintro e w1 ⟨rfl, rfl⟩
    rw [hl.out]
    go_wp2_with fail
    refine (new_any a len cap A L C B _ h).mono ?_
    rintro e w1 hnew
    rcases hnew with ⟨hne, rfl, hb1⟩ | ⟨h0, p, rfl, hF, hb1⟩
    · have hb1' : ((wrongN len L B : Int) == 0) = false := by rw [beq_eq_false_iff_ne]; omega
      have hb2 : ((wrongN len L B : Int) != 0) = true := by rw [bne_iff_ne]; omega
      have hT := h.below hb1
      clear hne
      go_wp2_with fail
      refine (wrong_any a len cap A L C B _ hT).mono ?_
      rintro e w2 ⟨rfl, hb3⟩
      go_wp2_with fail
      refine (four_any _).mono ?_
      rintro e w3 ⟨rfl, hb4⟩
      go_wp2_with fail
      go_ret
      exact ⟨rfl, (hb1.trans (hb3.mono hb1.size)).trans (hb4.mono (Nat.le_trans hb1.size hb3.size))⟩
    · have hT := h.below hb1
      replace h0 := Lib.hid h0
      go_wp2_with fail
      refine (wrong_any a len cap A L C B _ hT).mono ?_
      rintro e w2 ⟨rfl, hb3⟩
      rw [h0.out]
      have hq := hF.lat.size
      have hq2 := keepCell hb3 hq
      go_wp2_with fail
      refine (four_any _).mono ?_
      rintro e w3 ⟨rfl, hb4⟩
      go_wp2_with fail
      go_ret
      exact ⟨rfl, (hb1.trans (hb3.mono hb1.size)).trans (hb4.mono (Nat.le_trans hb1.size hb3.size))⟩
  · go_enter Try.func8, Try.ntmps8
    go_wp2_with fail
    refine (large_any a len cap A L C B _ h).mono ?_
    rintro e w1 ⟨rfl, rfl⟩
    rw [hl.out]
    go_wp2_with fail
    refine (four_any _).mono ?_
    rintro e w1 ⟨rfl, hb⟩
    go_wp2_with fail
    go_ret
    exact ⟨rfl, hb⟩

theorem own : ownKnob Try.prog.godebug = none := by kernel_rfl
theorem laidOut : laidOutB Try.prog = true := by kernel_rfl

set_option maxRecDepth 100000 in
theorem lifted (os : Os) (started : os.Started) (H : Type) (enc : TypeId × Value → H) :
    ReturnsInHanded {} Try.checked os 8 .any (Rows.latticeNewsSpec.pre6 enc Try.prog Try.f8 Rows.latticeNewsRow.domain false) (Rows.latticeNewsSpec.post enc Try.prog Try.f8 false true false false) := by
  refine returnsInHanded_of_change (C := Try.checked) own started (by kernel_rfl) Try.func8
    (ChangeSpec.witness6 (enc := enc) (C := Try.checked) false ⟨#[], #[.slice none 0 0], []⟩ 8 (by kernel_rfl) (by kernel_rfl) (by kernel_rfl) (by kernel_rfl)) ?_
  intro W base args ds gs before hval0 hW hcnd _
  have hval : ∀ (j : Nat) t v, Try.f8.params[j]? = some t → args[j]? = some v → Value.okWide Try.prog W .any base t v := hval0
  have hW' := hW
  obtain ⟨p, q, hA0, hV, rfl, hfz, hnd⟩ := hW
  have hA : DataW.TrodAll enc Try.prog W 0 (fun _ => true) true Try.f8.params.toList args.toList ds p := hA0
  rw [Try.params8] at hA hval
  obtain ⟨v0, vs0, d0, ds0, p0, q0, hargs, rfl, rfl, h0, r0⟩ := trodAll_cons hA
  obtain ⟨rfl, rfl, rfl⟩ := trodAll_nil r0
  obtain rfl : args = #[v0] := by cases args; simp_all
  obtain ⟨rfl, rfl⟩ := trodVars_none hV
  obtain ⟨a0, len0, cap0, rfl⟩ := okWide_slice Try.underlying57 (hval 0 57 v0 rfl rfl)
  have k0 := h0
  have lt0 : ∀ x ∈ p0, x.block < W.heap.size := by obtain ⟨m, hm⟩ := k0; exact DataW.trod_lt m _ _ _ hm
  obtain ⟨A0, L0, C0, B0, w0⟩ := L.open_grid Try.underlying57 Try.underlying68 Try.underlying4 (by kernel_rfl) (by kernel_rfl) h0
  clear hA0 hval0
  refine (walk a0 len0 cap0 A0 L0 C0 B0 W w0).mono fun e W' ⟨he, bel⟩ => ?_
  subst he
  exact ⟨_, rfl, _, _, _, [], _, [], hW', trodAll_mk1 (shut_bool Try.underlying4 _), (trodAll_cons_mk (Below.trod laidOut (by kernel_rfl) (of_decide_eq_true (by kernel_rfl)) k0 bel lt0) trodAll_mk0), rfl, bel.frame _, fun h => by cases h⟩

theorem over : Rows.latticeNewsRow.holds Try.pinned (OpenSpec.ofChange Rows.latticeNewsSpec) :=
  OpenClaim.holds_of_wide 8 Try.f8 rfl rfl rfl rfl rfl rfl rfl ⟨rfl, rfl, rfl, rfl, rfl⟩ rfl rfl rfl rfl rfl (by kernel_rfl) Try.func8 (by kernel_rfl)
    (of_decide_eq_true (by kernel_rfl)) (by unfold Func.isWrapper; first | (rw [if_pos (by decide +kernel)]; kernel_rfl) | (rw [if_neg (by decide +kernel)]; exact ⟨rfl, rfl⟩))
    (fun os started H enc _ => lifted os started H enc)

/-- The statement. -/
theorem proved : Rows.LatticeNewsSaid := over
#print axioms proved

end Go.Proofs.Ytbhbiejaneencaa.latticeNews
