/- For every []int and every two ints the law LayoutOwners returns true: the label of any sector, any label's extent. No condition. -/
import Derived.Test.YtdagbepjhbmlfaaRows
import Derived.Test.YtdagbepjhbmlfaaPair
import Derived.Test.YtdagbepjhbmlfaaLayOwn
import Derived.Test.YtdagbepjhbmlfaaTail
import Derived.ChangeOld
namespace Go.Proofs.Ytdagbepjhbmlfaa.layoutOwners
open Go.ChangeShapes Go.WideShapes Go.ChangeAt Go.RowKit
open Go.Proofs.Ytdagbepjhbmlfaa.Y
open Go.Proofs.Ytdagbepjhbmlfaa.I
open Go.Proofs.Ytdagbepjhbmlfaa.Z
set_option linter.unusedVariables false

set_option maxHeartbeats 4000000 in
set_option maxRecDepth 100000 in
theorem walk (a : Option Addr) (n cap : Nat) (z : Nat → Int) (lab sec : Int) (w : World) (h : Ints w a n cap z) (wl : (Lit.int .i64 lab).wf = true) (ws : (Lit.int .i64 sec).wf = true) :
    Calls Try.prog 12 #[.slice a n cap, .int .i64 lab, .int .i64 sec] w fun e w' => e = .returned (.bool true) ∧ Below w.heap.size w w' := by
  have hl := h.le
  have hm := h.max
  unfold maxLen at hm
  clear wl ws
  by_cases hM : May n z
  · have h6 := hM.2.1
    have h1 := hM.1
    have hN := Lib.hid (new_may a n cap z w h hM)
    have hY := Lib.hid (may_any a n cap z w h)
    have hO := Lib.hid (fun w' (hb : Below w.heap.size w w') => owners_any a n cap z w' (h.below hb) hM)
    obtain ⟨f, hf⟩ : ∃ f : Nat → Nat, Hid ((fun k => (z k).toNat) = f) := ⟨_, Lib.hid rfl⟩
    have hC : Hid (∀ k, k < n → ∃ b o, a = some ⟨b, o, none⟩ ∧ ∀ w', Below w.heap.size w w' → w'.cell? ⟨b, o + k, none⟩ = some (.int .i64 (f k))) := Lib.hid (fun k hk => by
      have h2 := hM.2.2 k hk
      obtain ⟨b, o, h3, h4⟩ := h.cell k hk
      refine ⟨b, o, h3, fun w' hb => ?_⟩
      rw [← hf.out, show (((fun k => (z k).toNat) k : Nat) : Int) = z k by show (((z k).toNat : Nat) : Int) = z k; omega]
      exact keepCell' hb h4)
    replace hM := Lib.hid hM
    clear h
    rw [hf.out] at hN hO
    clear hf
    go_enter Try.func12, Try.ntmps12
    go_wp2_with fail
    refine hY.out.mono ?_
    rintro e w2 ⟨hm2, rfl⟩
    rcases hm2 with ⟨_, rfl⟩ | ⟨hno, _⟩
    case inr => exact absurd hM.out hno
    clear hY
    go_wp2_with fail
    refine hN.out.mono ?_
    rintro e w1 ⟨rfl, hL, hb1⟩
    clear hN hM
    obtain ⟨p, hp⟩ : ∃ p, Hid (w.heap.size = p) := ⟨_, Lib.hid rfl⟩
    rw [hp.out] at hL
    rw [hp.out]
    rw [← hp.out]
    have hbn := beg_le hL.good n (Nat.le_refl _)
    replace hO := Lib.hid (hO.out w1 hb1)
    go_wp2_with fail
    refine hO.out.mono ?_
    rintro e w3 ⟨gg, c2, rfl, hb3, hc2, _, hW⟩
    clear hO
    unfold maxLen at hc2
    replace hL := hL.below hb3
    replace hb3 := Lib.hid (hb1.trans (hb3.mono hb1.size))
    replace hW : Hid (∀ w', Below w3.heap.size w3 w' → ∀ o s, o < n → beg f o ≤ s → s < beg f (o + 1) → w'.cell? ⟨gg, s, none⟩ = some (.int .i64 o)) := Lib.hid (fun w' hb o s ho h1 h2 => keepCell' hb (hW o s ho h1 h2))
    obtain ⟨S, hS⟩ : ∃ S, Hid (beg f n = S) := ⟨_, Lib.hid rfl⟩
    rw [hS.out] at hbn
    rw [hp.out, hS.out]
    clear hb1
    have hsec : (sec < 0) ∨ (0 ≤ sec ∧ S ≤ sec) ∨ ∃ s : Nat, sec = s ∧ s < S := by
      by_cases h1 : sec < 0
      · exact .inl h1
      · by_cases h2 : S ≤ sec
        · exact .inr (.inl ⟨by omega, h2⟩)
        · exact .inr (.inr ⟨sec.toNat, by omega, by omega⟩)
    have hlab : (lab < 0) ∨ (0 ≤ lab ∧ n ≤ lab) ∨ ∃ k : Nat, lab = k ∧ k < n := by
      by_cases h1 : lab < 0
      · exact .inl h1
      · by_cases h2 : n ≤ lab
        · exact .inr (.inl ⟨by omega, h2⟩)
        · exact .inr (.inr ⟨lab.toNat, by omega, by omega⟩)
    replace hlab := Lib.hid hlab
    rcases hsec with hs0 | ⟨hs0, hs1⟩ | ⟨s, rfl, hs1⟩
    go_wp2_with fail
    refine (owner_out p n f _ sec hL (by rw [hS.out]; omega)).mono ?_
    rintro e w4 ⟨rfl, hb4⟩
    go_wp2_with fail
    rotate_left
    have hd : decide (sec < 0) = false := decide_eq_false (by omega)
    go_wp2_with fail
    refine (owner_out p n f _ sec hL (by rw [hS.out]; omega)).mono ?_
    rintro e w4 ⟨rfl, hb4⟩
    go_wp2_with fail
    rotate_left
    have hd : decide ((s : Int) < 0) = false := decide_eq_false (by omega)
    have hd2 : decide ((S : Int) ≤ s) = false := decide_eq_false (by omega)
    go_wp2_with fail
    refine (owner_in p n f _ s hL (by rw [hS.out]; omega)).mono ?_
    rintro e w4 ⟨o, rfl, hb4, ho, ho1, ho2⟩
    have hcw := hW.out w4 hb4 o s ho ho1 ho2
    have hon : o < 6 := by omega
    clear ho1 ho2
    go_wp2_with fail
    clear hcw hon ho
    rotate_left
    all_goals
      replace hL := hL.below hb4
      have hb5 := hb3.out.trans (hb4.mono hb3.out.size)
      rcases hlab.out with hl0 | ⟨hl0, hl1⟩ | ⟨k, hkl, hk⟩
      · refine (extent_out p n f _ lab hL (.inl hl0)).mono ?_
        rintro e w5 ⟨rfl, hb6⟩
        replace hb6 := (hb5.trans (hb6.mono hb5.size)).alloc (Nat.le_trans hb5.size hb6.size) (.cells #[.int .i64 0, .int .i64 0] 96)
        clear hb5 hb4 hL
        go_wp2_with fail
        refine (pair_any _).mono ?_
        rintro e w7 ⟨rfl, hb7⟩
        have hb8 := hb6.trans (hb7.mono hb6.size)
        clear hb6 hb7
        go_wp2_with fail
        go_ret
        exact ⟨rfl, hb8⟩
      · have hdl : decide (lab < 0) = false := decide_eq_false (by omega)
        refine (extent_out p n f _ lab hL (.inr hl1)).mono ?_
        rintro e w5 ⟨rfl, hb6⟩
        replace hb6 := (hb5.trans (hb6.mono hb5.size)).alloc (Nat.le_trans hb5.size hb6.size) (.cells #[.int .i64 0, .int .i64 0] 96)
        clear hb5 hb4 hL
        go_wp2_with fail
        refine (pair_any _).mono ?_
        rintro e w7 ⟨rfl, hb7⟩
        have hb8 := hb6.trans (hb7.mono hb6.size)
        clear hb6 hb7
        go_wp2_with fail
        go_ret
        exact ⟨rfl, hb8⟩
      · have hdl : decide (lab < 0) = false := decide_eq_false (by omega)
        have hdl2 : decide ((n : Int) ≤ lab) = false := decide_eq_false (by omega)
        obtain ⟨b, o, rfl, hcF⟩ := hC.out k hk
        have hF := hL.good k hk
        have hAS : beg f k < S := by rw [← hS.out]; exact beg_lt hk
        obtain ⟨α, hα⟩ : ∃ α : Int, Hid ((beg f k : Int) = α) := ⟨_, Lib.hid rfl⟩
        obtain ⟨φ, hφ⟩ : ∃ φ : Int, Hid ((f k : Int) = φ) := ⟨_, Lib.hid rfl⟩
        have hx : Hid (Calls Try.prog 51 #[.pointer (some ⟨p, 0, none⟩), .int .i64 lab] w4 fun e w' => e = .returned (.tuple #[.agg #[.int .i64 α, .int .i64 (2 + 16 * φ)], .int .i64 0]) ∧ Below w4.heap.size w4 w') := by
          have h := extent_in p n f w4 k hL hk
          rw [show ((2 + 16 * f k : Nat) : Int) = 2 + 16 * φ by have := hφ.out; omega, hα.out, ← hkl] at h
          exact Lib.hid h
        have et : lab.toNat = k := by omega
        have ea : α.toNat = beg f k := by have := hα.out; omega
        have i0 : 0 ≤ lab := by omega
        have i1 : lab < n := by omega
        have i2 : 0 ≤ α := by have := hα.out; omega
        have i3 : α < S := by have := hα.out; omega
        have i4 : 0 ≤ φ := by have := hφ.out; omega
        have i5 : φ ≤ 64 := by have := hφ.out; omega
        have hk2 : beg f k < beg f (k + 1) := beg_lt (Nat.lt_succ_self k)
        have hW0 : Hid (∀ w', Below w.heap.size w w' → w'.cell? ⟨b, o + lab.toNat, none⟩ = some (.int .i64 φ)) := Lib.hid (fun w' hb' => by rw [et, ← hφ.out]; exact hcF w' hb')
        have hW1 : Hid (∀ w', Below w3.heap.size w3 w' → w'.cell? ⟨gg, α.toNat, none⟩ = some (.int .i64 lab)) := Lib.hid (fun w' hb' => by rw [ea, hkl]; exact hW.out w' hb' k _ hk (Nat.le_refl _) hk2)
        have hW2 : Hid (∀ w', Below w3.heap.size w3 w' → lab ≠ 0 → 1 ≤ α ∧ w'.cell? ⟨gg, α.toNat - 1, none⟩ = some (.int .i64 (lab - 1))) := Lib.hid (fun w' hb' hne => by
          obtain ⟨j, rfl⟩ : ∃ j, k = j + 1 := ⟨k - 1, by omega⟩
          have hpos : 0 < beg f (j + 1) := beg_lt (i := 0) (Nat.succ_pos j)
          have h := hW.out w' hb' j (beg f (j + 1) - 1) (by omega) (by simp only [beg]; omega) (by omega)
          have := hα.out
          refine ⟨by omega, ?_⟩
          rw [show α.toNat - 1 = beg f (j + 1) - 1 by omega, h, show lab - 1 = (j : Int) by omega])
        have hA0 : Hid (lab = 0 → α = 0) := Lib.hid (fun h => by
          have : k = 0 := by omega
          subst this
          rw [← hα.out]; rfl)
        clear hk2 et ea hAS hα hφ hF hcF hkl hk
        refine hx.out.mono ?_
        rintro e w5 ⟨rfl, hb6⟩
        clear hx hL
        obtain ⟨W, hWW⟩ : ∃ W, Hid (W = w5.alloc (.cells #[.int .i64 α, .int .i64 (2 + 16 * φ)] 96)) := ⟨_, Lib.hid rfl⟩
        have hbW : Below w4.heap.size w4 W := by rw [hWW.out]; exact hb6.alloc hb6.size _
        have x0 : W.cell? ⟨w5.heap.size, 0, none⟩ = some (.int .i64 α) := by rw [hWW.out]; exact (Go.Proofs.Ytdagbepjhbmlfaa.D.Whole.new w5 96 [.int .i64 α, .int .i64 (2 + 16 * φ)]).cell 0
        have x1 : W.cell? ⟨w5.heap.size, 1, none⟩ = some (.int .i64 (2 + 16 * φ)) := by rw [hWW.out]; exact (Go.Proofs.Ytdagbepjhbmlfaa.D.Whole.new w5 96 [.int .i64 α, .int .i64 (2 + 16 * φ)]).cell 1
        have x2 := hW0.out W (hb5.trans (hbW.mono hb5.size))
        have x3 := hW1.out W (hb4.trans (hbW.mono hb4.size))
        have hbF := hb5.trans (hbW.mono hb5.size)
        have hW3 := hW2.out W (hb4.trans (hbW.mono hb4.size))
        obtain ⟨q, hq⟩ : ∃ q, Hid (w5.heap.size = q) := ⟨_, Lib.hid rfl⟩
        rw [hq.out] at x0 x1
        clear hW0 hW1 hW2 hb5 hb6 hb4 hbW
        have v1 : IntKind.i64.wrap (16 * φ) = 16 * φ := IntWalk.i64_in _ (by omega)
        have v2 : IntKind.i64.wrap (2 + 16 * φ) = 2 + 16 * φ := IntWalk.i64_in _ (by omega)
        have e1 : ((2 + 16 * φ) == (2 + 16 * φ)) = true := beq_self_eq_true _
        by_cases hk0 : lab = 0
        · have hA := hA0.out hk0
          clear hW3 hA0
          subst hk0
          subst hA
          have n0 : 0 < n := by omega
          have n1 : 0 < S := by omega
          go_wp2_with fail
          rw [← hWW.out, hq.out]
          clear hWW hq
          have j0 : W.cell? ⟨b, o, none⟩ = some (.int .i64 φ) := by simpa using x2
          have j1 : W.cell? ⟨gg, 0, none⟩ = some (.int .i64 0) := by simpa using x3
          clear x2 x3
          obtain ⟨V, hV⟩ : ∃ V, Hid (V = W.drew) := ⟨_, Lib.hid rfl⟩
          have y0 : V.cell? ⟨q, 0, none⟩ = some (.int .i64 0) := by rw [hV.out]; exact x0
          have y1 : V.cell? ⟨q, 1, none⟩ = some (.int .i64 (2 + 16 * φ)) := by rw [hV.out]; exact x1
          have y2 : V.cell? ⟨b, o, none⟩ = some (.int .i64 φ) := by rw [hV.out]; exact j0
          have y3 : V.cell? ⟨gg, 0, none⟩ = some (.int .i64 0) := by rw [hV.out]; exact j1
          clear x0 x1 j0 j1
          refine quiet_tail 55 V (by kernel_rfl) (by kernel_rfl) hV.out ?_
          simp only [List.take_succ_cons, List.take_zero, List.drop_succ_cons, List.drop_zero]
          repeat (go_big_quiet_step (fail))
          refine wpQuiet_nil ?_
          clear y0 y1 y2 y3
          refine Lib.hid ?_
          go_wp2_with fail
          refine Or.inl ?_
          refine (pair_any _).mono ?_
          rintro e w7 ⟨rfl, hb7⟩
          have hbV : Below w.heap.size w V := by rw [hV.out]; exact below_drewN' hbF 1
          have hb8 := hbV.trans (hb7.mono hbV.size)
          clear hbV hb7 hbF hV
          go_wp2_with fail
          go_ret
          exact ⟨rfl, hb8⟩
        · obtain ⟨hA, x4⟩ := hW3 hk0
          clear hA0
          have d1 : (α == 0) = false := by rw [beq_eq_false_iff_ne]; omega
          have d2 : decide (0 ≤ α) = true := decide_eq_true i2
          have d3 : decide (α < (S : Int)) = true := decide_eq_true i3
          have e2 : (lab == lab) = true := beq_self_eq_true _
          have e3 : ((lab - 1) == (lab - 1)) = true := beq_self_eq_true _
          have v3 : IntKind.i64.wrap (α - 1) = α - 1 := IntWalk.i64_in _ (by omega)
          have v4 : IntKind.i64.wrap (lab - 1) = lab - 1 := IntWalk.i64_in _ (by omega)
          have i6 : 0 ≤ α - 1 := by omega
          have i7 : α - 1 < S := by omega
          go_wp2_with fail
          rw [← hWW.out, hq.out]
          clear hWW hq
          obtain ⟨V, hV⟩ : ∃ V, Hid (V = W.drew) := ⟨_, Lib.hid rfl⟩
          have y0 : V.cell? ⟨q, 0, none⟩ = some (.int .i64 α) := by rw [hV.out]; exact x0
          have y1 : V.cell? ⟨q, 1, none⟩ = some (.int .i64 (2 + 16 * φ)) := by rw [hV.out]; exact x1
          have y2 : V.cell? ⟨b, o + lab.toNat, none⟩ = some (.int .i64 φ) := by rw [hV.out]; exact x2
          have y3 : V.cell? ⟨gg, α.toNat, none⟩ = some (.int .i64 lab) := by rw [hV.out]; exact x3
          have y4 : V.cell? ⟨gg, α.toNat - 1, none⟩ = some (.int .i64 (lab - 1)) := by rw [hV.out]; exact x4
          clear x0 x1 x2 x3 x4
          refine quiet_tail 55 V (by kernel_rfl) (by kernel_rfl) hV.out ?_
          simp only [List.take_succ_cons, List.take_zero, List.drop_succ_cons, List.drop_zero]
          repeat (go_big_quiet_step (fail))
          refine wpQuiet_nil ?_
          clear y0 y1 y2 y3 y4
          refine Lib.hid ?_
          go_wp2_with fail
          refine Or.inl ?_
          refine (pair_any _).mono ?_
          rintro e w7 ⟨rfl, hb7⟩
          have hbV : Below w.heap.size w V := by rw [hV.out]; exact below_drewN' hbF 1
          have hb8 := hbV.trans (hb7.mono hbV.size)
          clear hbV hb7 hbF hV
          go_wp2_with fail
          go_ret
          exact ⟨rfl, hb8⟩
  · have hY := Lib.hid (may_any a n cap z w h)
    replace hM : Hid (¬ May n z) := Lib.hid hM
    clear h
    go_enter Try.func12, Try.ntmps12
    go_wp2_with fail
    refine hY.out.mono ?_
    rintro e w2 ⟨hm2, rfl⟩
    rcases hm2 with ⟨hy, _⟩ | ⟨_, rfl⟩
    case inl => exact absurd hy hM.out
    go_wp2_with fail
    refine (pair_any _).mono ?_
    rintro e w7 ⟨rfl, hb7⟩
    go_wp2_with fail
    go_ret
    exact ⟨rfl, hb7⟩

theorem own : ownKnob Try.prog.godebug = none := by kernel_rfl
theorem laidOut : laidOutB Try.prog = true := by kernel_rfl

set_option maxRecDepth 100000 in
theorem lifted (os : Os) (started : os.Started) (H : Type) (enc : TypeId × Value → H) :
    ReturnsInHanded {} Try.checked os 12 .any (Rows.layoutOwnersSpec.pre6 enc Try.prog Try.f12 Rows.layoutOwnersRow.domain false) (Rows.layoutOwnersSpec.post enc Try.prog Try.f12 false true false false) := by
  refine returnsInHanded_of_change (C := Try.checked) own started (by kernel_rfl) Try.func12
    (ChangeSpec.witness6 (enc := enc) (C := Try.checked) false ⟨#[], #[.slice none 0 0, .int .i64 0, .int .i64 0], []⟩ 8 (by kernel_rfl) (by kernel_rfl) (by kernel_rfl) (by kernel_rfl)) ?_
  intro W base args ds gs before hval0 hW hcnd _
  have hval : ∀ (j : Nat) t v, Try.f12.params[j]? = some t → args[j]? = some v → Value.okWide Try.prog W .any base t v := hval0
  have hW' := hW
  obtain ⟨p, q, hA0, hV, rfl, hfz, hnd⟩ := hW
  have hA : DataW.TrodAll enc Try.prog W 0 (fun _ => true) true Try.f12.params.toList args.toList ds p := hA0
  rw [Try.params12] at hA hval
  obtain ⟨v0, vs0, d0, ds0, p0, q0, hargs, rfl, rfl, h0, r0⟩ := trodAll_cons hA
  obtain ⟨v1, vs1, d1, ds1, p1, q1, rfl, rfl, rfl, h1, r1⟩ := trodAll_cons r0
  obtain ⟨v2, vs2, d2, ds2, p2, q2, rfl, rfl, rfl, h2, r2⟩ := trodAll_cons r1
  obtain ⟨rfl, rfl, rfl⟩ := trodAll_nil r2
  obtain rfl : args = #[v0, v1, v2] := by cases args; simp_all
  obtain ⟨rfl, rfl⟩ := trodVars_none hV
  obtain ⟨a0, len0, cap0, rfl⟩ := okWide_slice Try.underlying74 (hval 0 74 v0 rfl rfl)
  have k0 := h0
  have lt0 : ∀ x ∈ p0, x.block < W.heap.size := by obtain ⟨m, hm⟩ := k0; exact DataW.trod_lt m _ _ _ hm
  obtain ⟨z0, w0⟩ := I.open_nums h0
  obtain ⟨a1, rfl, rfl, rfl, w1⟩ := open_int Try.underlying3 (hval 1 3 v1 rfl rfl) h1
  obtain ⟨a2, rfl, rfl, rfl, w2⟩ := open_int Try.underlying3 (hval 2 3 v2 rfl rfl) h2
  clear hA0 hval0
  refine (walk a0 len0 cap0 z0 a1 a2 W w0 w1 w2).mono fun e W' ⟨he, bel⟩ => ?_
  subst he
  exact ⟨_, rfl, _, _, _, [], _, [], hW', trodAll_mk1 (shut_bool Try.underlying4 _), (trodAll_cons_mk (Below.trod laidOut (by kernel_rfl) (of_decide_eq_true (by kernel_rfl)) k0 bel lt0) (trodAll_cons_mk (shut_int Try.underlying3 w1) (trodAll_cons_mk (shut_int Try.underlying3 w2) trodAll_mk0))), rfl, bel.frame _, fun h => by cases h⟩

theorem over : Rows.layoutOwnersRow.holds Try.pinned (OpenSpec.ofChange Rows.layoutOwnersSpec) :=
  OpenClaim.holds_of_wide 12 Try.f12 rfl rfl rfl rfl rfl rfl rfl ⟨rfl, rfl, rfl, rfl, rfl⟩ rfl rfl rfl rfl rfl (by kernel_rfl) Try.func12 (by kernel_rfl)
    (of_decide_eq_true (by kernel_rfl)) (by unfold Func.isWrapper; first | (rw [if_pos (by decide +kernel)]; kernel_rfl) | (rw [if_neg (by decide +kernel)]; exact ⟨rfl, rfl⟩))
    (fun os started H enc _ => lifted os started H enc)

/-- The statement. -/
theorem proved : Rows.LayoutOwnersSaid := over
#print axioms proved

end Go.Proofs.Ytdagbepjhbmlfaa.layoutOwners
