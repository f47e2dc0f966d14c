/- For every []int the law LayoutParts returns true: each sector is in just one extent, that of its owner. No condition. -/
import Derived.Test.YtdagbepjhbmlfaaRows
import Derived.Test.YtdagbepjhbmlfaaPair
import Derived.ChangeOld
namespace Go.Proofs.Ytdagbepjhbmlfaa.layoutParts
open Go.ChangeShapes Go.WideShapes Go.ChangeAt Go.RowKit
open Go.Proofs.Ytdagbepjhbmlfaa.Y
open Go.Proofs.Ytdagbepjhbmlfaa.I
set_option linter.unusedVariables false

set_option maxHeartbeats 2000000 in
set_option maxRecDepth 100000 in
theorem walk (a : Option Addr) (n cap : Nat) (z : Nat → Int) (w : World) (h : Ints w a n cap z) :
    Calls Try.prog 13 #[.slice a n cap] w fun e w' => e = .returned (.bool true) ∧ Below w.heap.size w w' := by
  have hl := h.le
  have hm := h.max
  unfold maxLen at hm
  by_cases hM : May n z
  · have h6 := hM.2.1
    have h1 := hM.1
    have hN := Lib.hid (new_may a n cap z w h hM)
    have hY := Lib.hid (may_any a n cap z w h)
    replace hM := Lib.hid hM
    clear h
    go_enter Try.func13, Try.ntmps13
    go_wp2_with fail
    refine hY.out.mono ?_
    rintro e w2 ⟨hm2, rfl⟩
    rcases hm2 with ⟨_, rfl⟩ | ⟨hno, _⟩
    case inr => exact absurd hM.out hno
    clear hY
    go_wp2_with fail
    refine hN.out.mono ?_
    rintro e w1 ⟨rfl, hL, hb1⟩
    clear hN hM
    obtain ⟨f, hf⟩ : ∃ f : Nat → Nat, Hid ((fun k => (z k).toNat) = f) := ⟨_, Lib.hid rfl⟩
    rw [hf.out] at hL
    clear hf
    obtain ⟨p, hp⟩ : ∃ p, Hid (w.heap.size = p) := ⟨_, Lib.hid rfl⟩
    have hwp : Hid (Below w.heap.size w w1) := Lib.hid hb1
    rw [hp.out] at hL ⊢
    clear hb1
    have hbn := beg_le hL.good n (Nat.le_refl _)
    go_wp2_with fail
    refine (sectors_any p n _ _ hL).mono ?_
    rintro e w3 ⟨rfl, hb3⟩
    replace hL := hL.below hb3
    replace hb3 := Lib.hid (hwp.out.trans (hb3.mono hwp.out.size))
    clear hwp
    obtain ⟨S, hS⟩ : ∃ S, Hid (beg f n = S) := ⟨_, Lib.hid rfl⟩
    rw [hS.out] at hbn ⊢
    go_wp2_with fail
    go_loopg [22] S (fun ga i wr => ∃ s : Nat, s ≤ S ∧ S ≤ s + ga ∧ i = .int .i64 s ∧ Hid (Below w.heap.size w wr) ∧ Lay wr p n f)
    case atStart => exact ⟨0, by omega, by omega, rfl, hb3, hL⟩
    case round =>
      clear hL hb3
      obtain ⟨s, hs, hsg, rfl, hb, hL⟩ := hrel
      generalize wr = wo at *
      generalize gk = g0 at *
      by_cases hlt : s < S
      · go_wp2_with fail
        refine (owner_in p n f _ s hL (by rw [hS.out]; exact hlt)).mono ?_
        rintro e w4 ⟨o, rfl, hb4, ho, ho1, ho2⟩
        have hon : o < 6 := by omega
        replace hL := hL.below hb4
        replace hb4 := Lib.hid (hb.out.trans (hb4.mono hb.out.size))
        have hone : Hid (∀ k, (beg f k ≤ s ∧ s < beg f (k + 1)) ↔ k = o) := Lib.hid (fun k => beg_one ho1 ho2)
        clear ho1 ho2 hb
        go_wp2_with fail
        go_loopg [35] n (fun ga i wr => ∃ k : Nat, k ≤ n ∧ n ≤ k + ga ∧ i = .int .i64 k ∧ Hid (Below w.heap.size w wr) ∧ Lay wr p n f)
        case atStart => exact ⟨0, by omega, by omega, rfl, hb4, hL⟩
        case round =>
          clear hL hb4
          obtain ⟨k, hk, hkg, rfl, hb, hL⟩ := hrel
          generalize wr = wq at *
          generalize gk = g1 at *
          by_cases hlk : k < n
          · have hbk := beg_le hL.good k (by omega)
            have hgk := (hL.good k hlk).2
            have h1 := hone.out k
            rw [show beg f (k + 1) = beg f k + (2 + 16 * f k) from rfl] at h1
            have hx := Lib.hid (extent_in p n f wq k hL hlk)
            obtain ⟨A, hA⟩ : ∃ A, Hid (beg f k = A) := ⟨_, Lib.hid rfl⟩
            obtain ⟨D, hD⟩ : ∃ D, Hid (2 + 16 * f k = D) := ⟨_, Lib.hid rfl⟩
            have hDle : D ≤ 1026 := by rw [← hD.out]; omega
            rw [hA.out, hD.out] at h1 hx
            rw [hA.out] at hbk
            clear hA hD hgk
            have hall : Hid (∀ w', Below wq.heap.size wq w' → ∀ ob, Hid (Below w.heap.size w (w'.alloc ob)) ∧ Lay (w'.alloc ob) p n f) := Lib.hid (fun w' hb' ob => ⟨Lib.hid ((hb.out.trans (hb'.mono hb.out.size)).alloc (Nat.le_trans hb.out.size hb'.size) ob), (hL.below hb').below (allocBelow' _ _)⟩)
            by_cases hko : k = o
            · subst hko
              obtain ⟨hsA, hsD⟩ := h1.2 rfl
              have hd1 : decide ((A : Int) ≤ s) = true := decide_eq_true (by omega)
              have hd2 : decide ((s : Int) < (A : Int) + D) = true := decide_eq_true (by omega)
              have heq : ((k : Int) == (k : Int)) = true := beq_self_eq_true _
              replace h1 := Lib.hid h1
              go_wp2_with fail
              refine hx.out.mono ?_
              rintro e w5 ⟨rfl, hb5⟩
              obtain ⟨hbF, hLF⟩ := hall.out w5 hb5 (.cells #[.int .i64 A, .int .i64 D] 96)
              clear hall hL hb hb5 hx
              go_wp2_with fail
              go_roundg (g1 - 1)
              case measure => omega
              case rel => exact ⟨k + 1, by omega, by omega, by go_num, hbF, hLF⟩
            · by_cases hsA : s < A
              · replace h1 := Lib.hid h1
                have hne : ((k : Int) == (o : Int)) = false := by rw [beq_eq_false_iff_ne]; omega
                go_wp2_with fail
                refine hx.out.mono ?_
                rintro e w5 ⟨rfl, hb5⟩
                obtain ⟨hbF, hLF⟩ := hall.out w5 hb5 (.cells #[.int .i64 A, .int .i64 D] 96)
                clear hall hL hb hb5 hx
                go_wp2_with fail
                go_roundg (g1 - 1)
                case measure => omega
                case rel => exact ⟨k + 1, by omega, by omega, by go_num, hbF, hLF⟩
              · have hsD : A + D ≤ s := by
                  rcases Nat.lt_or_ge s (A + D) with h | h
                  · exact absurd (h1.1 ⟨by omega, h⟩) hko
                  · exact h
                have hsA' : A ≤ s := by omega
                replace h1 := Lib.hid h1
                have hne : ((k : Int) == (o : Int)) = false := by rw [beq_eq_false_iff_ne]; omega
                clear hsA
                go_wp2_with fail
                refine hx.out.mono ?_
                rintro e w5 ⟨rfl, hb5⟩
                obtain ⟨hbF, hLF⟩ := hall.out w5 hb5 (.cells #[.int .i64 A, .int .i64 D] 96)
                clear hall hL hb hb5 hx
                go_wp2_with fail
                go_roundg (g1 - 1)
                case measure => omega
                case rel => exact ⟨k + 1, by omega, by omega, by go_num, hbF, hLF⟩
          · go_wp2_with fail
            go_roundg (g0 - 1)
            case measure => omega
            case rel => exact ⟨s + 1, by omega, by omega, by go_num, hb, hL⟩
      · obtain rfl : s = S := by omega
        clear hL
        go_wp2_with fail
        refine (pair_any _).mono ?_
        rintro e w7 ⟨rfl, hb7⟩
        have hb8 := hb.out.trans (hb7.mono hb.out.size)
        clear hb hb7
        rw [← hp.out]
        go_wp2_with fail
        go_ret
        exact ⟨rfl, hb8⟩
  · have hY := Lib.hid (may_any a n cap z w h)
    replace hM : Hid (¬ May n z) := Lib.hid hM
    clear h
    go_enter Try.func13, Try.ntmps13
    go_wp2_with fail
    refine hY.out.mono ?_
    rintro e w2 ⟨hm2, rfl⟩
    rcases hm2 with ⟨hy, _⟩ | ⟨_, rfl⟩
    case inl => exact absurd hy hM.out
    go_wp2_with fail
    refine (pair_any _).mono ?_
    rintro e w7 ⟨rfl, hb7⟩
    go_wp2_with fail
    go_ret
    exact ⟨rfl, hb7⟩

theorem own : ownKnob Try.prog.godebug = none := by kernel_rfl
theorem laidOut : laidOutB Try.prog = true := by kernel_rfl

set_option maxRecDepth 100000 in
theorem lifted (os : Os) (started : os.Started) (H : Type) (enc : TypeId × Value → H) :
    ReturnsInHanded {} Try.checked os 13 .any (Rows.layoutPartsSpec.pre6 enc Try.prog Try.f13 Rows.layoutPartsRow.domain false) (Rows.layoutPartsSpec.post enc Try.prog Try.f13 false true false false) := by
  refine returnsInHanded_of_change (C := Try.checked) own started (by kernel_rfl) Try.func13
    (ChangeSpec.witness6 (enc := enc) (C := Try.checked) false ⟨#[], #[.slice none 0 0], []⟩ 8 (by kernel_rfl) (by kernel_rfl) (by kernel_rfl) (by kernel_rfl)) ?_
  intro W base args ds gs before hval0 hW hcnd _
  have hval : ∀ (j : Nat) t v, Try.f13.params[j]? = some t → args[j]? = some v → Value.okWide Try.prog W .any base t v := hval0
  have hW' := hW
  obtain ⟨p, q, hA0, hV, rfl, hfz, hnd⟩ := hW
  have hA : DataW.TrodAll enc Try.prog W 0 (fun _ => true) true Try.f13.params.toList args.toList ds p := hA0
  rw [Try.params13] at hA hval
  obtain ⟨v0, vs0, d0, ds0, p0, q0, hargs, rfl, rfl, h0, r0⟩ := trodAll_cons hA
  obtain ⟨rfl, rfl, rfl⟩ := trodAll_nil r0
  obtain rfl : args = #[v0] := by cases args; simp_all
  obtain ⟨rfl, rfl⟩ := trodVars_none hV
  obtain ⟨a0, len0, cap0, rfl⟩ := okWide_slice Try.underlying74 (hval 0 74 v0 rfl rfl)
  have k0 := h0
  have lt0 : ∀ x ∈ p0, x.block < W.heap.size := by obtain ⟨m, hm⟩ := k0; exact DataW.trod_lt m _ _ _ hm
  obtain ⟨z0, w0⟩ := I.open_nums h0
  clear hA0 hval0
  refine (walk a0 len0 cap0 z0 W w0).mono fun e W' ⟨he, bel⟩ => ?_
  subst he
  exact ⟨_, rfl, _, _, _, [], _, [], hW', trodAll_mk1 (shut_bool Try.underlying4 _), (trodAll_cons_mk (Below.trod laidOut (by kernel_rfl) (of_decide_eq_true (by kernel_rfl)) k0 bel lt0) trodAll_mk0), rfl, bel.frame _, fun h => by cases h⟩

theorem over : Rows.layoutPartsRow.holds Try.pinned (OpenSpec.ofChange Rows.layoutPartsSpec) :=
  OpenClaim.holds_of_wide 13 Try.f13 rfl rfl rfl rfl rfl rfl rfl ⟨rfl, rfl, rfl, rfl, rfl⟩ rfl rfl rfl rfl rfl (by kernel_rfl) Try.func13 (by kernel_rfl)
    (of_decide_eq_true (by kernel_rfl)) (by unfold Func.isWrapper; first | (rw [if_pos (by decide +kernel)]; kernel_rfl) | (rw [if_neg (by decide +kernel)]; exact ⟨rfl, rfl⟩))
    (fun os started H enc _ => lifted os started H enc)

/-- The statement. -/
theorem proved : Rows.LayoutPartsSaid := over
#print axioms proved

end Go.Proofs.Ytdagbepjhbmlfaa.layoutParts
