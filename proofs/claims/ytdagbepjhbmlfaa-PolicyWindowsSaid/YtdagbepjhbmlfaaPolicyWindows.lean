/- For every two ints and every []int the law PolicyWindows returns true: in no window more is let down by a rule than its budget. No condition. -/
import Derived.Test.YtdagbepjhbmlfaaRows
import Derived.Test.YtdagbepjhbmlfaaPolTwo
import Derived.Test.YtdagbepjhbmlfaaInts
import Derived.Test.YtdagbepjhbmlfaaMinMax
import Derived.ChangeOld
namespace Go.Proofs.Ytdagbepjhbmlfaa.policyWindows
open Go.ChangeShapes Go.WideShapes Go.ChangeAt Go.RowKit
open Go.Proofs.Ytdagbepjhbmlfaa.Q
open Go.Proofs.Ytdagbepjhbmlfaa.Z
open Go.Proofs.Ytdagbepjhbmlfaa.I
open Go.Proofs.Ytdagbepjhbmlfaa.D (Whole Kept)
set_option linter.unusedVariables false

theorem tick_mod' {win at_ q m : Nat} (hm : m < win) (he : win * q + m = at_) : tickT win m = (at_ + 1) % win := by
  unfold tickT
  by_cases h : m + 1 = win
  · rw [if_pos h]
    have e : at_ + 1 = win * (q + 1) := by rw [Nat.mul_add]; omega
    rw [e, Nat.mul_mod_right]
  · rw [if_neg h]
    have e : at_ + 1 = win * q + (m + 1) := by omega
    rw [e, Nat.mul_add_mod, Nat.mod_eq_of_lt (by omega)]
theorem tick_mod {win at_ : Nat} (hw : 1 ≤ win) : tickT win (at_ % win) = (at_ + 1) % win := tick_mod' (Nat.mod_lt at_ (by omega)) (Nat.div_add_mod at_ win)
set_option maxRecDepth 100000 in
theorem walk_two (b win : Int) (a : Option Addr) (n cap : Nat) (z : Nat → Int) (w : World) (h : Ints w a n cap z) (hbad : b < 1 ∨ 100 < b ∨ win < 1 ∨ 100 < win ∨ 100 < n) :
    Calls Try.prog 10 #[.int .i64 b, .int .i64 win, .slice a n cap] w fun e w' => e = .returned (.bool true) ∧ Below w.heap.size w w' := by
  have hl := h.le
  have hm := h.max
  unfold maxLen at hm
  clear h
  have fin : ∀ (_ : Hid (b < 1 ∨ (1 ≤ b ∧ (100 < b ∨ (b ≤ 100 ∧ (win < 1 ∨ (1 ≤ win ∧ (100 < win ∨ (win ≤ 100 ∧ 100 < n))))))))), Calls Try.prog 10 #[.int .i64 b, .int .i64 win, .slice a n cap] w fun e w' => e = .returned (.bool true) ∧ Below w.heap.size w w' := fun h => by
    rcases h.out with h1 | ⟨h1, h2 | ⟨h2, h3 | ⟨h3, h4 | ⟨h4, h5⟩⟩⟩⟩
    · clear hbad h
      go_enter Try.func10, Try.ntmps10
      go_wp2_with fail
      refine (two_any _).mono ?_
      rintro e w1 ⟨rfl, hb1⟩
      go_wp2_with fail
      go_ret
      exact ⟨rfl, hb1⟩
    · have d1 : decide (b < 1) = false := decide_eq_false (by omega)
      clear hbad h
      go_enter Try.func10, Try.ntmps10
      go_wp2_with fail
      refine (two_any _).mono ?_
      rintro e w1 ⟨rfl, hb1⟩
      go_wp2_with fail
      go_ret
      exact ⟨rfl, hb1⟩
    · have d1 : decide (b < 1) = false := decide_eq_false (by omega)
      have d2 : decide (100 < b) = false := decide_eq_false (by omega)
      clear hbad h
      go_enter Try.func10, Try.ntmps10
      go_wp2_with fail
      refine (two_any _).mono ?_
      rintro e w1 ⟨rfl, hb1⟩
      go_wp2_with fail
      go_ret
      exact ⟨rfl, hb1⟩
    · have d1 : decide (b < 1) = false := decide_eq_false (by omega)
      have d2 : decide (100 < b) = false := decide_eq_false (by omega)
      have d3 : decide (win < 1) = false := decide_eq_false (by omega)
      clear hbad h
      go_enter Try.func10, Try.ntmps10
      go_wp2_with fail
      refine (two_any _).mono ?_
      rintro e w1 ⟨rfl, hb1⟩
      go_wp2_with fail
      go_ret
      exact ⟨rfl, hb1⟩
    · have d1 : decide (b < 1) = false := decide_eq_false (by omega)
      have d2 : decide (100 < b) = false := decide_eq_false (by omega)
      have d3 : decide (win < 1) = false := decide_eq_false (by omega)
      have d4 : decide (100 < win) = false := decide_eq_false (by omega)
      clear hbad h
      go_enter Try.func10, Try.ntmps10
      go_wp2_with fail
      refine (two_any _).mono ?_
      rintro e w1 ⟨rfl, hb1⟩
      go_wp2_with fail
      go_ret
      exact ⟨rfl, hb1⟩
  exact fin (Lib.hid (by omega))

set_option maxHeartbeats 4000000 in
set_option maxRecDepth 100000 in
theorem walk_main (b win : Nat) (a : Option Addr) (n cap : Nat) (z : Nat → Int) (w : World) (h : Ints w a n cap z) (hb1 : 1 ≤ b) (hb2 : b ≤ 100) (hw1 : 1 ≤ win) (hw2 : win ≤ 100) (hn : n ≤ 100) :
    Calls Try.prog 10 #[.int .i64 b, .int .i64 win, .slice a n cap] w fun e w' => e = .returned (.bool true) ∧ Below w.heap.size w w' := by
  have hl := h.le
  have hm := h.max
  unfold maxLen at hm
  have d1 : decide ((b : Int) < 1) = false := decide_eq_false (by omega)
  have d2 : decide (100 < (b : Int)) = false := decide_eq_false (by omega)
  have d3 : decide ((win : Int) < 1) = false := decide_eq_false (by omega)
  have d4 : decide (100 < (win : Int)) = false := decide_eq_false (by omega)
  have d5 : decide (100 < (n : Int)) = false := decide_eq_false (by omega)
  have hT := two_tab w
  have hB := two_below w
  replace h := Lib.hid h
  go_enter Try.func10, Try.ntmps10
  go_wp2_with fail
  refine (Go.Proofs.Ytdagbepjhbmlfaa.L.new_any (some ⟨w.heap.size + 2, 0, none⟩) 2 2 _ _ _ _ (twoW w) hT).mono ?_
  rintro e w1 (⟨hne, _⟩ | ⟨_, lp, rfl, hF, hbb1⟩)
  · exact absurd two_ok hne
  replace hbb1 := hB.trans (hbb1.mono hB.size)
  have hL := hF.lat
  clear hT hB hF
  obtain ⟨W2, hW2⟩ : ∃ W, Hid (W = w1.alloc (.cells #[.int .i64 1, .int .i64 0, .int .i64 b] 69)) := ⟨_, Lib.hid rfl⟩
  have hbb2 : Below w1.heap.size w1 W2 := by rw [hW2.out]; exact allocB w1 _
  have hR : Rls W2 (some ⟨w1.heap.size, 0, none⟩) 1 1 (oneR b) := by rw [hW2.out]; exact one_rls w1 b
  have hN := Lib.hid (polnew_any lp 2 twoB _ 1 1 (oneR b) W2 (latB hL hbb2) hR)
  replace hbb2 := hbb1.trans (hbb2.mono hbb1.size)
  clear hR hL hbb1
  go_wp2_with fail
  rw [← hW2.out]
  refine hN.out.mono ?_
  rintro e w3 (⟨hne, _⟩ | ⟨_, p, rfl, hP, hb3⟩)
  · exact absurd (one_ok b (by omega) (by omega)) hne
  clear hN hW2
  replace hb3 := hbb2.trans (hb3.mono hbb2.size)
  clear hbb2
  have hPol := hP.pol
  clear hP
  obtain ⟨B, hBB⟩ : ∃ B, Hid (w3.heap.size = B) := ⟨_, Lib.hid rfl⟩
  rw [hBB.out] at hPol
  go_wp2_with fail
  refine (ledger_in B p 1 (oneR b) w3 win hPol (by omega)).mono ?_
  rintro e w4 ⟨rfl, hb4, hLed⟩
  rw [hBB.out] at hLed ⊢
  replace hb4 := Lib.hid (hb3.trans (hb4.mono hb3.size))
  have hgw : w.heap.size ≤ B := by rw [← hBB.out]; exact hb3.size
  clear hb3 hPol hBB
  have hkb : Hid (∀ a c : World, Below w.heap.size w a → Kept (fun b => b = B) a c → Below w.heap.size w c) := Lib.hid (fun a c h1 h2 => h1.trans (h2.below h1.size (fun k hk => by omega)))
  replace hLed := Lib.hid hLed
  go_wp2_with fail
  go_loopg [13, 59] n (fun ga nv i wr => ∃ k s : Nat, k ≤ n ∧ n ≤ k + ga ∧ i = .int .i64 k ∧ nv = .int .i64 s ∧ s ≤ 100 ∧ Hid (Below w.heap.size w wr) ∧ Hid (∃ sp, Led wr B B p 1 (oneR b) win (k % win) sp ∧ (k % win = 0 → sp 0 = 0) ∧ (k % win ≠ 0 → sp 0 = s)))
  case atStart => exact ⟨0, 0, by omega, by omega, rfl, rfl, by omega, hb4, Lib.hid ⟨_, by rw [Nat.zero_mod]; exact hLed.out, fun _ => rfl, fun h => absurd (Nat.zero_mod _) h⟩⟩
  case round =>
    clear hb4 hLed
    obtain ⟨k, s, hk, hg, rfl, rfl, hs100, hb, hex⟩ := hrel
    obtain ⟨sp, hL, hs0, hs1⟩ := hex.out
    clear hex
    generalize wr = wo at *
    generalize gk = g0 at *
    by_cases hlt : k < n
    · obtain ⟨xb, xo, rfl, hc⟩ := (h.out.below hb.out).cell k hlt
      obtain ⟨Z, hZ⟩ : ∃ Z, Hid (z k = Z) := ⟨_, Lib.hid rfl⟩
      rw [hZ.out] at hc
      have htm := Lib.hid (tick_mod (win := win) (at_ := k) hw1)
      have hmod : (k : Int) % (win : Int) = ((k % win : Nat) : Int) := rfl
      obtain ⟨m, hmm⟩ : ∃ m, Hid (k % win = m) := ⟨_, Lib.hid rfl⟩
      rw [hmm.out] at hL hs0 hs1 htm hmod
      obtain ⟨M, hM⟩ : ∃ M : Nat, Hid (min (max Z 0) 200 = (M : Int)) := ⟨(min (max Z 0) 200).toNat, Lib.hid (by omega)⟩
      have hM200 : M ≤ 200 := by have := hM.out; omega
      clear hZ hmm
      have hrun : Hid (∀ t : Nat, sp 0 = t → t ≤ b) := Lib.hid (fun t ht => by have := hL.spent 0 (by omega); simp only [oneR] at this; omega)
      rcases Nat.eq_zero_or_pos m with hm0 | hm0
      have hst : Hid (sp 0 = 0) := Lib.hid (hs0 hm0)
      subst hm0
      have hq : ((k : Int) % (win : Int) == 0) = true := by rw [hmod]; rfl
      clear hs0 hs1 hmod
      go_wp2_with (with_reducible refine zMax _ _ _ _ rfl ?_)
      rotate_left
      have hst : Hid (sp 0 = s) := Lib.hid (hs1 (by omega))
      have hq : ((k : Int) % (win : Int) == 0) = false := by rw [hmod, beq_eq_false_iff_ne]; omega
      clear hs0 hs1 hmod
      go_wp2_with (with_reducible refine zMax _ _ _ _ rfl ?_)
      all_goals
        refine Lib.hid ?_
        refine zwMax rfl _ _ _ _ rfl Z 0 rfl rfl ?_
        go_wp2_with (with_reducible refine zMin _ _ _ _ rfl ?_)
        refine Lib.hid ?_
        refine zwMin rfl _ _ _ _ rfl (max Z 0) 200 rfl rfl ?_
        rw [hM.out]
        clear hM hc hq
        go_wp2_with fail
        go_loopg [13, 71] M (fun ga nv i wr => ∃ j t : Nat, j ≤ M ∧ M ≤ j + ga ∧ i = .int .i64 j ∧ nv = .int .i64 t ∧ Hid (Below w.heap.size w wr) ∧ Hid (∃ sp, Led wr B B p 1 (oneR b) win _ sp ∧ sp 0 = t))
        case atStart => first | exact ⟨0, 0, by omega, by omega, rfl, rfl, hb, Lib.hid ⟨sp, hL, hst.out⟩⟩ | exact ⟨0, s, by omega, by omega, rfl, rfl, hb, Lib.hid ⟨sp, hL, hst.out⟩⟩
        case round =>
          clear hb hL hst hrun
          clear sp
          obtain ⟨j, t, hj, hjg, rfl, rfl, hb, hex⟩ := hrel
          obtain ⟨sp, hL, hst⟩ := hex.out
          clear hex
          generalize wr = wq at *
          generalize gk = g1 at *
          have htb : t ≤ b := by
            have := hL.spent 0 (by omega)
            rw [hst] at this
            simp only [oneR] at this
            omega
          by_cases hlj : j < M
          · by_cases hfull : t = b
            · go_wp2_with fail
              refine (spend_none B B p 1 (oneR b) win _ sp _ 0 hL (by omega) (by rw [hst, hfull]; rfl)).mono ?_
              rintro e w5 ⟨rfl, hb5⟩
              have hL5 := Lib.hid (hL.below hb5)
              replace hb5 := Lib.hid (hb.out.trans (hb5.mono hb.out.size))
              clear hL hb
              go_wp2_with fail
              go_roundg (g1 - 1)
              case measure => omega
              case rel => exact ⟨j + 1, b, by omega, by omega, by go_num, rfl, hb5, Lib.hid ⟨sp, hL5.out, hst.trans hfull⟩⟩
            · go_wp2_with fail
              refine (spend_one B B p 1 (oneR b) win _ sp _ 0 hL (by omega) (by rw [hst]; show (t : Int) < b; omega)).mono ?_
              rintro e w5 ⟨rfl, hk5, hL5⟩
              replace hL5 := Lib.hid hL5
              have hb5 := Lib.hid (hkb.out _ _ hb.out hk5)
              clear hL hb hk5
              go_wp2_with fail
              go_roundg (g1 - 1)
              case measure => omega
              case rel => exact ⟨j + 1, t + 1, by omega, by omega, by go_num, by go_num, hb5, Lib.hid ⟨_, hL5.out, by simp [more, hst]⟩⟩
          · have hd : decide ((b : Int) < t) = false := decide_eq_false (by omega)
            have hne : (((b : Int) - t) != ((b : Int) - t)) = false := by simp
            go_wp2_with fail
            refine (left_in B B p 1 (oneR b) win _ sp _ 0 hL (by omega)).mono ?_
            rintro e w5 ⟨rfl, hb5⟩
            rw [hst]
            have hL5 := hL.below hb5
            replace hb5 := hb.out.trans (hb5.mono hb.out.size)
            clear hL hb
            rw [show (oneR b 0).bud = (b : Int) from rfl]
            go_wp2_with fail
            refine (tick_any B B p 1 (oneR b) win _ sp _ hL5).mono ?_
            rintro e w6 ⟨rfl, hk6, hL6⟩
            rw [htm.out] at hL6
            have hb6 := Lib.hid (hkb.out _ _ hb5 hk6)
            have hex6 : Hid (∃ sp, Led w6 B B p 1 (oneR b) win ((k + 1) % win) sp ∧ ((k + 1) % win = 0 → sp 0 = 0) ∧ ((k + 1) % win ≠ 0 → sp 0 = t)) := by
              refine Lib.hid ⟨_, hL6, fun h => ?_, fun h => ?_⟩
              · rw [← htm.out] at h
                unfold tickS
                unfold tickT at h
                split
                · rfl
                · rename_i hne2; rw [if_neg hne2] at h; omega
              · rw [← htm.out] at h
                unfold tickS
                unfold tickT at h
                split
                · rename_i he2; rw [if_pos he2] at h; exact absurd rfl h
                · exact hst
            clear hL5 hb5 hk6 hL6 hst
            go_wp2_with fail
            go_roundg (g0 - 1)
            case measure => omega
            case rel => exact ⟨k + 1, t, by omega, by omega, by go_num, rfl, by omega, hb6, hex6⟩
    · obtain rfl : k = n := by omega
      clear hL hs0 hs1
      go_wp2_with fail
      refine (two_any _).mono ?_
      rintro e w7 ⟨rfl, hb7⟩
      have hb8 := hb.out.trans (hb7.mono hb.out.size)
      clear hb hb7
      go_wp2_with fail
      go_ret
      exact ⟨rfl, hb8⟩
theorem walk (b win : Int) (a : Option Addr) (n cap : Nat) (z : Nat → Int) (w : World) (wb : (Lit.int .i64 b).wf = true) (ww : (Lit.int .i64 win).wf = true) (h : Ints w a n cap z) :
    Calls Try.prog 10 #[.int .i64 b, .int .i64 win, .slice a n cap] w fun e w' => e = .returned (.bool true) ∧ Below w.heap.size w w' := by
  by_cases hbad : b < 1 ∨ 100 < b ∨ win < 1 ∨ 100 < win ∨ 100 < n
  · exact walk_two b win a n cap z w h hbad
  · obtain ⟨b, rfl⟩ := Int.eq_ofNat_of_zero_le (show 0 ≤ b by omega)
    obtain ⟨win, rfl⟩ := Int.eq_ofNat_of_zero_le (show 0 ≤ win by omega)
    exact walk_main b win a n cap z w h (by omega) (by omega) (by omega) (by omega) (by omega)

theorem own : ownKnob Try.prog.godebug = none := by kernel_rfl
theorem laidOut : laidOutB Try.prog = true := by kernel_rfl

set_option maxRecDepth 100000 in
theorem lifted (os : Os) (started : os.Started) (H : Type) (enc : TypeId × Value → H) :
    ReturnsInHanded {} Try.checked os 10 .any (Rows.policyWindowsSpec.pre6 enc Try.prog Try.f10 Rows.policyWindowsRow.domain false) (Rows.policyWindowsSpec.post enc Try.prog Try.f10 false true false false) := by
  refine returnsInHanded_of_change (C := Try.checked) own started (by kernel_rfl) Try.func10
    (ChangeSpec.witness6 (enc := enc) (C := Try.checked) false ⟨#[], #[.int .i64 0, .int .i64 0, .slice none 0 0], []⟩ 8 (by kernel_rfl) (by kernel_rfl) (by kernel_rfl) (by kernel_rfl)) ?_
  intro W base args ds gs before hval0 hW hcnd _
  have hval : ∀ (j : Nat) t v, Try.f10.params[j]? = some t → args[j]? = some v → Value.okWide Try.prog W .any base t v := hval0
  have hW' := hW
  obtain ⟨p, q, hA0, hV, rfl, hfz, hnd⟩ := hW
  have hA : DataW.TrodAll enc Try.prog W 0 (fun _ => true) true Try.f10.params.toList args.toList ds p := hA0
  rw [Try.params10] at hA hval
  obtain ⟨v0, vs0, d0, ds0, p0, q0, hargs, rfl, rfl, h0, r0⟩ := trodAll_cons hA
  obtain ⟨v1, vs1, d1, ds1, p1, q1, rfl, rfl, rfl, h1, r1⟩ := trodAll_cons r0
  obtain ⟨v2, vs2, d2, ds2, p2, q2, rfl, rfl, rfl, h2, r2⟩ := trodAll_cons r1
  obtain ⟨rfl, rfl, rfl⟩ := trodAll_nil r2
  obtain rfl : args = #[v0, v1, v2] := by cases args; simp_all
  obtain ⟨rfl, rfl⟩ := trodVars_none hV
  obtain ⟨a0, rfl, rfl, rfl, w0⟩ := open_int Try.underlying3 (hval 0 3 v0 rfl rfl) h0
  obtain ⟨a1, rfl, rfl, rfl, w1⟩ := open_int Try.underlying3 (hval 1 3 v1 rfl rfl) h1
  obtain ⟨a2, len2, cap2, rfl⟩ := okWide_slice Try.underlying74 (hval 2 74 v2 rfl rfl)
  have k2 := h2
  have lt2 : ∀ x ∈ p2, x.block < W.heap.size := by obtain ⟨m, hm⟩ := k2; exact DataW.trod_lt m _ _ _ hm
  obtain ⟨z2, w2⟩ := I.open_nums h2
  clear hA0 hval0
  refine (walk a0 a1 a2 len2 cap2 z2 W w0 w1 w2).mono fun e W' ⟨he, bel⟩ => ?_
  subst he
  exact ⟨_, rfl, _, _, _, [], _, [], hW', trodAll_mk1 (shut_bool Try.underlying4 _), (trodAll_cons_mk (shut_int Try.underlying3 w0) (trodAll_cons_mk (shut_int Try.underlying3 w1) (trodAll_cons_mk (Below.trod laidOut (by kernel_rfl) (of_decide_eq_true (by kernel_rfl)) k2 bel lt2) trodAll_mk0))), rfl, bel.frame _, fun h => by cases h⟩

theorem over : Rows.policyWindowsRow.holds Try.pinned (OpenSpec.ofChange Rows.policyWindowsSpec) :=
  OpenClaim.holds_of_wide 10 Try.f10 rfl rfl rfl rfl rfl rfl rfl ⟨rfl, rfl, rfl, rfl, rfl⟩ rfl rfl rfl rfl rfl (by kernel_rfl) Try.func10 (by kernel_rfl)
    (of_decide_eq_true (by kernel_rfl)) (by unfold Func.isWrapper; first | (rw [if_pos (by decide +kernel)]; kernel_rfl) | (rw [if_neg (by decide +kernel)]; exact ⟨rfl, rfl⟩))
    (fun os started H enc _ => lifted os started H enc)

/-- The statement. -/
theorem proved : Rows.PolicyWindowsSaid := over
#print axioms proved

end Go.Proofs.Ytdagbepjhbmlfaa.policyWindows
