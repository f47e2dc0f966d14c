/- For every []int the law LayoutNews returns true: which numbers of segments are a layout, and how many sectors it has. No condition. -/
import Derived.Test.YtdagbepjhbmlfaaRows
import Derived.Test.YtdagbepjhbmlfaaPair
import Derived.Test.YtdagbepjhbmlfaaLayOwn
import Derived.ChangeOld
namespace Go.Proofs.Ytdagbepjhbmlfaa.layoutNews
open Go.ChangeShapes Go.WideShapes Go.ChangeAt Go.RowKit
open Go.Proofs.Ytdagbepjhbmlfaa.Y
open Go.Proofs.Ytdagbepjhbmlfaa.I
set_option linter.unusedVariables false

set_option maxRecDepth 100000 in
theorem walk (a : Option Addr) (n cap : Nat) (z : Nat → Int) (w : World) (h : Ints w a n cap z) :
    Calls Try.prog 11 #[.slice a n cap] w fun e w' => e = .returned (.bool true) ∧ Below w.heap.size w w' := by
  have hl := h.le
  have hm := h.max
  unfold maxLen at hm
  by_cases h40 : 40 < n
  · clear h
    go_enter Try.func11, Try.ntmps11
    go_wp2_with fail
    refine (pair_any _).mono ?_
    rintro e w1 ⟨rfl, hb1⟩
    go_wp2_with fail
    go_ret
    exact ⟨rfl, hb1⟩
  replace h40 : n ≤ 40 := by omega
  have hd : decide (40 < (n : Int)) = false := by simp; omega
  by_cases hM : May n z
  · have h6 := hM.2.1
    have h1 := hM.1
    have hN := Lib.hid (new_may a n cap z w h hM)
    replace h := Lib.hid h
    replace hM := Lib.hid hM
    go_enter Try.func11, Try.ntmps11
    go_wp2_with fail
    refine hN.out.mono ?_
    rintro e w1 ⟨rfl, hL, hb1⟩
    clear hN
    have hI1 := Lib.hid (h.out.below hb1)
    have hbn := beg_le hL.good n (Nat.le_refl _)
    have hO := Lib.hid (fun w' (hb : Below w.heap.size w w') => owners_any a n cap z w' (h.out.below hb) hM.out)
    obtain ⟨p, hp⟩ : ∃ p, Hid (w.heap.size = p) := ⟨_, Lib.hid rfl⟩
    have hwp : Hid (Below w.heap.size w w1) := Lib.hid hb1
    rw [hp.out] at hL ⊢
    clear hb1
    go_wp2_with fail
    refine (may_any a n cap z _ hI1.out).mono ?_
    rintro e w2 ⟨hm2, rfl⟩
    rcases hm2 with ⟨_, rfl⟩ | ⟨hno, _⟩
    case inr => exact absurd hM.out hno
    obtain ⟨S, hS⟩ : ∃ S, Hid (beg (fun k => (z k).toNat) n = S) := ⟨_, Lib.hid rfl⟩
    rw [hS.out] at hbn
    go_wp2_with fail
    refine (labels_any p n _ _ hL).mono ?_
    rintro e w3 ⟨rfl, rfl⟩
    go_wp2_with fail
    refine (sectors_any p n _ _ hL).mono ?_
    rintro e w4 ⟨rfl, hb4⟩
    rw [hS.out]
    have hb5 := hwp.out.trans (hb4.mono hwp.out.size)
    have hO5 := hO.out w4 hb5
    rw [hS.out] at hO5
    replace hO5 := Lib.hid hO5
    clear hO hL hwp hb4
    go_wp2_with fail
    refine hO5.out.mono ?_
    rintro e w6 ⟨gg, c2, rfl, hb6, hc2, _, _⟩
    clear hO5
    unfold maxLen at hc2
    replace hb6 := hb5.trans (hb6.mono hb5.size)
    clear hb5
    go_wp2_with fail
    refine (pair_any _).mono ?_
    rintro e w7 ⟨rfl, hb7⟩
    have hb8 := hb6.trans (hb7.mono hb6.size)
    clear hb6 hb7
    rw [← hp.out]
    clear hp
    go_wp2_with fail
    go_ret
    exact ⟨rfl, hb8⟩
  · have hN := Lib.hid (new_not a n cap z w h hM)
    have hM' : Hid (¬ May n z) := Lib.hid hM
    clear hM
    replace h := Lib.hid h
    go_enter Try.func11, Try.ntmps11
    go_wp2_with fail
    refine hN.out.mono ?_
    rintro e w1 ⟨rfl, hb1⟩
    clear hN
    have hI1 := Lib.hid (h.out.below hb1)
    go_wp2_with fail
    refine (may_any a n cap z _ hI1.out).mono ?_
    rintro e w2 ⟨hm2, rfl⟩
    rcases hm2 with ⟨hy, _⟩ | ⟨_, rfl⟩
    case inl => exact absurd hy hM'.out
    go_wp2_with fail
    refine (pair_any _).mono ?_
    rintro e w7 ⟨rfl, hb7⟩
    have hb8 := hb1.trans (hb7.mono hb1.size)
    clear hb1 hb7
    go_wp2_with fail
    go_ret
    exact ⟨rfl, hb8⟩

theorem own : ownKnob Try.prog.godebug = none := by kernel_rfl
theorem laidOut : laidOutB Try.prog = true := by kernel_rfl

set_option maxRecDepth 100000 in
theorem lifted (os : Os) (started : os.Started) (H : Type) (enc : TypeId × Value → H) :
    ReturnsInHanded {} Try.checked os 11 .any (Rows.layoutNewsSpec.pre6 enc Try.prog Try.f11 Rows.layoutNewsRow.domain false) (Rows.layoutNewsSpec.post enc Try.prog Try.f11 false true false false) := by
  refine returnsInHanded_of_change (C := Try.checked) own started (by kernel_rfl) Try.func11
    (ChangeSpec.witness6 (enc := enc) (C := Try.checked) false ⟨#[], #[.slice none 0 0], []⟩ 8 (by kernel_rfl) (by kernel_rfl) (by kernel_rfl) (by kernel_rfl)) ?_
  intro W base args ds gs before hval0 hW hcnd _
  have hval : ∀ (j : Nat) t v, Try.f11.params[j]? = some t → args[j]? = some v → Value.okWide Try.prog W .any base t v := hval0
  have hW' := hW
  obtain ⟨p, q, hA0, hV, rfl, hfz, hnd⟩ := hW
  have hA : DataW.TrodAll enc Try.prog W 0 (fun _ => true) true Try.f11.params.toList args.toList ds p := hA0
  rw [Try.params11] at hA hval
  obtain ⟨v0, vs0, d0, ds0, p0, q0, hargs, rfl, rfl, h0, r0⟩ := trodAll_cons hA
  obtain ⟨rfl, rfl, rfl⟩ := trodAll_nil r0
  obtain rfl : args = #[v0] := by cases args; simp_all
  obtain ⟨rfl, rfl⟩ := trodVars_none hV
  obtain ⟨a0, len0, cap0, rfl⟩ := okWide_slice Try.underlying74 (hval 0 74 v0 rfl rfl)
  have k0 := h0
  have lt0 : ∀ x ∈ p0, x.block < W.heap.size := by obtain ⟨m, hm⟩ := k0; exact DataW.trod_lt m _ _ _ hm
  obtain ⟨z0, w0⟩ := I.open_nums h0
  clear hA0 hval0
  refine (walk a0 len0 cap0 z0 W w0).mono fun e W' ⟨he, bel⟩ => ?_
  subst he
  exact ⟨_, rfl, _, _, _, [], _, [], hW', trodAll_mk1 (shut_bool Try.underlying4 _), (trodAll_cons_mk (Below.trod laidOut (by kernel_rfl) (of_decide_eq_true (by kernel_rfl)) k0 bel lt0) trodAll_mk0), rfl, bel.frame _, fun h => by cases h⟩

theorem over : Rows.layoutNewsRow.holds Try.pinned (OpenSpec.ofChange Rows.layoutNewsSpec) :=
  OpenClaim.holds_of_wide 11 Try.f11 rfl rfl rfl rfl rfl rfl rfl ⟨rfl, rfl, rfl, rfl, rfl⟩ rfl rfl rfl rfl rfl (by kernel_rfl) Try.func11 (by kernel_rfl)
    (of_decide_eq_true (by kernel_rfl)) (by unfold Func.isWrapper; first | (rw [if_pos (by decide +kernel)]; kernel_rfl) | (rw [if_neg (by decide +kernel)]; exact ⟨rfl, rfl⟩))
    (fun os started H enc _ => lifted os started H enc)

/-- The statement. -/
theorem proved : Rows.LayoutNewsSaid := over
#print axioms proved

end Go.Proofs.Ytdagbepjhbmlfaa.layoutNews
