/- For every table of bools and two ints the law LatticeTells returns true: what a lattice tells of two labels, and of all. No condition. -/
import Derived.Test.YtbhbiejaneencaaRows
import Derived.Test.YtbhbiejaneencaaFour
import Derived.Test.YtbhbiejaneencaaGrid
import Derived.Test.YtbhbiejaneencaaSqTop
import Derived.Deep.RegionHeld3
import Derived.ChangeOld
import Derived.ShutString
namespace Go.Proofs.Ytbhbiejaneencaa.latticeTells
open Go.ChangeShapes Go.WideShapes Go.ChangeAt Go.RowKit
open Go.ChangeMaps (open_string shut_string)
open Go.Proofs.Ytbhbiejaneencaa.L
set_option linter.unusedVariables false
attribute [local go_sem ↓] Go.wp_at_zero Go.wp_at_succ

theorem sqDrew {w : World} {bk off n : Nat} {F : Nat → Nat → Bool} (h : Sq w bk off n F) : Sq w.drew bk off n F := ⟨h.small, h.rows⟩
theorem fullDrew {w : World} {p n : Nat} {F : Nat → Nat → Bool} (h : Full w p n F) : Full w.drew p n F := ⟨⟨h.lat.small, h.lat.size, h.lat.flows⟩, h.joins, h.meets⟩
theorem belowDrew {B : Nat} {a w : World} (h : Below B a w) : Below B a w.drew := ⟨h.os, h.tape, h.output, h.size, h.block⟩
theorem belowDrewN {B : Nat} {a w : World} (h : Below B a w) (n : Nat) : Below B a (w.drewN n) := ⟨h.os, h.tape, h.output, h.size, h.block⟩

set_option maxRecDepth 100000 in
set_option maxHeartbeats 4000000 in
theorem walk (a : Option Addr) (len cap : Nat) (A : Nat → Option Addr) (L C : Nat → Nat) (B : Nat → Nat → Bool) (x y : Int) (w : World) (h : Tab w a len A L C B) (wx : (Lit.int .i64 x).wf = true) (wy : (Lit.int .i64 y).wf = true) :
    Calls Try.prog 9 #[.slice a len cap, .int .i64 x, .int .i64 y] w fun e w' => e = .returned (.bool true) ∧ Below w.heap.size w w' := by
  obtain ⟨lx0, lx1⟩ := bounds_i64 wx
  obtain ⟨ly0, ly1⟩ := bounds_i64 wy
  clear wx wy
  cases hl : largeB len L <;> replace hl := Lib.hid hl
  · go_enter Try.func9, Try.ntmps9
    go_wp2_with fail
    refine (large_any a len cap A L C B _ h).mono ?_
    rintro e w1 ⟨rfl, rfl⟩
    rw [hl.out]
    go_wp2_with fail
    refine (wrong_any a len cap A L C B _ h).mono ?_
    rintro e w1 ⟨rfl, hb1⟩
    have hT := h.below hb1
    by_cases h0 : wrongN len L B = 0
    · obtain ⟨hsq, hlat⟩ := isLat_of h0
      rw [h0]
      replace h0 := Lib.hid h0
      go_wp2_with fail
      refine (new_any a len cap A L C B _ hT).mono ?_
      rintro e W hnew
      rcases hnew with ⟨hne, -, -⟩ | ⟨-, p, rfl, hF, hb2⟩
      · exact absurd h0.out hne
      have hbW := hb1.trans (hb2.mono hb1.size)
      have hs := hF.lat.small
      obtain ⟨bk, off, rfl, hpos, hS⟩ := (hT.below hb2).square hsq
      clear hb1 hb2 hT hsq h0 hl h
      go_wp2_with fail
      refine (size_any p len B _ hF.lat).mono ?_
      rintro e w2 ⟨rfl, rfl⟩
      go_wp2_with fail
      refine (top_in p len B _ hF.lat).mono ?_
      rintro e w2 ⟨rfl, hb2⟩
      replace hF := hF.below hb2
      replace hS := hS.below hb2
      replace hbW := hbW.trans (hb2.mono hbW.size)
      clear hb2
      go_wp2_with fail
      refine (rtop_any bk off len cap B _ hS hlat hpos).mono ?_
      rintro e w3 ⟨rfl, rfl⟩
      go_wp2_with fail
      refine (bottom_in p len B _ hF.lat).mono ?_
      rintro e w3 ⟨rfl, hb2⟩
      replace hF := hF.below hb2
      replace hS := hS.below hb2
      replace hbW := hbW.trans (hb2.mono hbW.size)
      clear hb2
      go_wp2_with fail
      refine (turned_any bk off len cap B _ hS hpos).mono ?_
      rintro e w4 ⟨b1, o1, c1, rfl, hS1, hb2⟩
      replace hF := hF.below hb2
      replace hS := hS.below hb2
      replace hbW := hbW.trans (hb2.mono hbW.size)
      clear hb2
      go_wp2_with fail
      refine (rtop_any b1 o1 len c1 (turn B) _ hS1 hlat.dual hpos).mono ?_
      rintro e w5 ⟨rfl, rfl⟩
      rw [turn_turn]
      by_cases hin : 0 ≤ x ∧ x < len ∧ 0 ≤ y ∧ y < len
      · obtain ⟨hx0, hx1, hy0, hy1⟩ := hin
        obtain ⟨k, rfl⟩ := Int.eq_ofNat_of_zero_le hx0
        obtain ⟨l, rfl⟩ := Int.eq_ofNat_of_zero_le hy0
        have hk : k < len := by omega
        have hl : l < len := by omega
        have j1 := Lib.hid (joinI_J hlat hk hl)
        have j2 := Lib.hid (joinI_J hlat.dual hk hl)
        have n1 := near_J hlat hk hl
        have n2 := near_J hlat.dual hk hl
        have hjx := (J_spec hlat hk hl).1
        have hjy := (J_spec hlat.dual hk hl).1
        generalize J len B k l = jx at *
        generalize J len (turn B) k l = jy at *
        go_wp2_with fail
        refine (join_in p len k l jx B _ hF hk hl n1).mono ?_
        rintro e w5 ⟨rfl, rfl⟩
        go_wp2_with fail
        refine (meet_in p len k l jy B _ hF hk hl n2).mono ?_
        rintro e w5 ⟨rfl, rfl⟩
        clear n1 n2
        have hd1 : decide ((k : Int) < 0) = false := by simp
        have hd2 : decide (len ≤ k) = false := by simp; omega
        have hd3 : decide ((l : Int) < 0) = false := by simp
        have hd4 : decide (len ≤ l) = false := by simp; omega
        obtain ⟨R, O, C2, hr, he⟩ := hS.rows
        have e1 := hr k hk
        have e2 := he k l hk hl
        clear hr he
        have hk1 : (k : Int) < (len : Int) := by omega
        have hl1 : (l : Int) < (len : Int) := by omega
        cases hv : B k l <;> rw [hv] at e2 <;> replace hv := Lib.hid hv
        · go_wp2_with fail
          go_region_held3 (fun w' => w'.cell? ⟨bk, off + k, none⟩ = some (.slice (some ⟨R k, O k, none⟩) len (C2 k)) ∧ w'.cell? ⟨R k, O k + l, none⟩ = some (.bool false)) (go_keep) (first
            | (go_at_call 41; refine (rjoin_any bk off len cap B _ k l (sqDrew hS) hk hl).mono ?_; rintro e w5 ⟨rfl, rfl⟩; rw [j1.out])
            | (go_at_call 42; refine (rmeet_any bk off len cap B _ k l (sqDrew hS) hk hl).mono ?_; rintro e w6 ⟨rfl, hb6⟩; rw [j2.out]; have hF6 := (fullDrew hF).below hb6; have e16 := keepCell hb6 e1; have e26 := keepCell hb6 e2; have hS6 := (sqDrew hS).below hb6; have hbW6 := (belowDrew hbW).trans (hb6.mono (belowDrew hbW).size))
            | (go_at_call 40; refine (flows_in p len k l B _ hF6.lat hk hl).mono ?_; rintro e w7 ⟨rfl, rfl⟩; rw [hv.out]))
          clear e1 e2 e16 e26 hb6 j1 j2 hS1 hd1 hd2 hd3 hd4 hk1 hl1
          go_wp2_with fail
          refine (above_in p len k B _ hF6.lat hk).mono ?_
          rintro e wa ⟨A1, d1, rfl, hi1, hba⟩
          have hFa := hF6.below hba
          have hSa := hS6.below hba
          have hbWa := hbW6.trans (hba.mono hbW6.size)
          clear hF6 hS6 hbW6 hba
          go_wp2_with fail
          refine (rabove_any bk off len cap B _ k hSa hk).mono ?_
          rintro e wb ⟨A2, d2, rfl, hi2, hbb⟩
          have hi3 := hi1.below hbb
          have hFb := hFa.below hbb
          have hSb := hSa.below hbb
          have hbWb := hbWa.trans (hbb.mono hbWa.size)
          have hlen := Nat.le_trans (pick_len len (B k)) hs
          clear hFa hSa hbWa hbb hi1
          go_wp2_with fail
          refine (ints_any A1 A2 d1 d2 _ _ hi3 hi2 hlen).mono ?_
          rintro e wc ⟨rfl, nq, rfl⟩
          have hFc := hFb.drewN nq
          have hSc : Sq (wb.drewN nq) bk off len B := ⟨hSb.small, hSb.rows⟩
          have hbWc := belowDrewN hbWb nq
          clear hFb hSb hbWb hi3 hi2
          go_wp2_with fail
          refine (below_in p len k B _ hFc.lat hk).mono ?_
          rintro e wd ⟨A3, d3, rfl, hi4, hbd⟩
          have hSd := hSc.below hbd
          have hbWd := hbWc.trans (hbd.mono hbWc.size)
          clear hFc hSc hbWc hbd
          go_wp2_with fail
          refine (turned_any bk off len cap B _ hSd hpos).mono ?_
          rintro e we ⟨b2, o2, c2, rfl, hSe, hbe⟩
          have hi5 := hi4.below hbe
          have hbWe := hbWd.trans (hbe.mono hbWd.size)
          clear hSd hbWd hbe hi4
          go_wp2_with fail
          refine (rabove_any b2 o2 len c2 (turn B) _ k hSe hk).mono ?_
          rintro e wf ⟨A4, d4, rfl, hi6, hbf⟩
          have hi7 := hi5.below hbf
          have hbWf := hbWe.trans (hbf.mono hbWe.size)
          have hlen2 := Nat.le_trans (pick_len len (turn B k)) hs
          clear hSe hbWe hbf hi5
          go_wp2_with fail
          refine (ints_any A3 A4 d3 d4 _ _ hi7 hi6 hlen2).mono ?_
          rintro e wg ⟨rfl, nr, rfl⟩
          have hbWg := belowDrewN hbWf nr
          go_wp2_with fail
          refine (four_any _).mono ?_
          rintro e wh ⟨rfl, hb⟩
          go_wp2_with fail
          go_ret
          exact ⟨rfl, hbWg.trans (hb.mono hbWg.size)⟩
        · go_wp2_with fail
          go_region_held3 (fun w' => w'.cell? ⟨bk, off + k, none⟩ = some (.slice (some ⟨R k, O k, none⟩) len (C2 k)) ∧ w'.cell? ⟨R k, O k + l, none⟩ = some (.bool true)) (go_keep) (first
            | (go_at_call 41; refine (rjoin_any bk off len cap B _ k l (sqDrew hS) hk hl).mono ?_; rintro e w5 ⟨rfl, rfl⟩; rw [j1.out])
            | (go_at_call 42; refine (rmeet_any bk off len cap B _ k l (sqDrew hS) hk hl).mono ?_; rintro e w6 ⟨rfl, hb6⟩; rw [j2.out]; have hF6 := (fullDrew hF).below hb6; have e16 := keepCell hb6 e1; have e26 := keepCell hb6 e2; have hS6 := (sqDrew hS).below hb6; have hbW6 := (belowDrew hbW).trans (hb6.mono (belowDrew hbW).size))
            | (go_at_call 40; refine (flows_in p len k l B _ hF6.lat hk hl).mono ?_; rintro e w7 ⟨rfl, rfl⟩; rw [hv.out]))
          clear e1 e2 e16 e26 hb6 j1 j2 hS1 hd1 hd2 hd3 hd4 hk1 hl1
          go_wp2_with fail
          refine (above_in p len k B _ hF6.lat hk).mono ?_
          rintro e wa ⟨A1, d1, rfl, hi1, hba⟩
          have hFa := hF6.below hba
          have hSa := hS6.below hba
          have hbWa := hbW6.trans (hba.mono hbW6.size)
          clear hF6 hS6 hbW6 hba
          go_wp2_with fail
          refine (rabove_any bk off len cap B _ k hSa hk).mono ?_
          rintro e wb ⟨A2, d2, rfl, hi2, hbb⟩
          have hi3 := hi1.below hbb
          have hFb := hFa.below hbb
          have hSb := hSa.below hbb
          have hbWb := hbWa.trans (hbb.mono hbWa.size)
          have hlen := Nat.le_trans (pick_len len (B k)) hs
          clear hFa hSa hbWa hbb hi1
          go_wp2_with fail
          refine (ints_any A1 A2 d1 d2 _ _ hi3 hi2 hlen).mono ?_
          rintro e wc ⟨rfl, nq, rfl⟩
          have hFc := hFb.drewN nq
          have hSc : Sq (wb.drewN nq) bk off len B := ⟨hSb.small, hSb.rows⟩
          have hbWc := belowDrewN hbWb nq
          clear hFb hSb hbWb hi3 hi2
          go_wp2_with fail
          refine (below_in p len k B _ hFc.lat hk).mono ?_
          rintro e wd ⟨A3, d3, rfl, hi4, hbd⟩
          have hSd := hSc.below hbd
          have hbWd := hbWc.trans (hbd.mono hbWc.size)
          clear hFc hSc hbWc hbd
          go_wp2_with fail
          refine (turned_any bk off len cap B _ hSd hpos).mono ?_
          rintro e we ⟨b2, o2, c2, rfl, hSe, hbe⟩
          have hi5 := hi4.below hbe
          have hbWe := hbWd.trans (hbe.mono hbWd.size)
          clear hSd hbWd hbe hi4
          go_wp2_with fail
          refine (rabove_any b2 o2 len c2 (turn B) _ k hSe hk).mono ?_
          rintro e wf ⟨A4, d4, rfl, hi6, hbf⟩
          have hi7 := hi5.below hbf
          have hbWf := hbWe.trans (hbf.mono hbWe.size)
          have hlen2 := Nat.le_trans (pick_len len (turn B k)) hs
          clear hSe hbWe hbf hi5
          go_wp2_with fail
          refine (ints_any A3 A4 d3 d4 _ _ hi7 hi6 hlen2).mono ?_
          rintro e wg ⟨rfl, nr, rfl⟩
          have hbWg := belowDrewN hbWf nr
          go_wp2_with fail
          refine (four_any _).mono ?_
          rintro e wh ⟨rfl, hb⟩
          go_wp2_with fail
          go_ret
          exact ⟨rfl, hbWg.trans (hb.mono hbWg.size)⟩
      · have hin2 : x < 0 ∨ len ≤ x ∨ y < 0 ∨ len ≤ y := by omega
        have hfl : Hid (flowsB len B x y = false) := by
          show flowsB len B x y = false
          unfold flowsB hasB
          by_cases g1 : 0 ≤ x ∧ x < len
          · have : ¬ (0 ≤ y ∧ y < len) := by omega
            by_cases g2 : 0 ≤ y
            · have : ¬ y < len := by omega
              simp [this]
            · simp [g2]
          · by_cases g2 : 0 ≤ x
            · have : ¬ x < len := by omega
              simp [this]
            · simp [g2]
        go_wp2_with fail
        refine (join_out p len x y B _ hF.lat hin2).mono ?_
        rintro e w5 ⟨rfl, rfl⟩
        go_wp2_with fail
        refine (meet_out p len x y B _ hF.lat hin2).mono ?_
        rintro e w5 ⟨rfl, rfl⟩
        have hcond : Hid ((decide (x < 0) || decide ((len : Int) ≤ x) || decide (y < 0) || decide ((len : Int) ≤ y)) = true) := by
          show _ = true
          simp only [Bool.or_eq_true, decide_eq_true_eq]
          omega
        clear hin hin2
        rcases (show x < 0 ∨ (0 ≤ x ∧ len ≤ x) ∨ (0 ≤ x ∧ x < len ∧ y < 0) ∨ (0 ≤ x ∧ x < len ∧ 0 ≤ y ∧ len ≤ y) by
          have := hcond.out
          simp only [Bool.or_eq_true, decide_eq_true_eq] at this
          omega) with g | ⟨g1, g2⟩ | ⟨g1, g2, g3⟩ | ⟨g1, g2, g3, g4⟩
        all_goals
          clear hcond
          go_wp2_with fail
          refine (flows_any p len x y B _ hF.lat).mono ?_
          rintro e w5 ⟨rfl, rfl⟩
          rw [hfl.out]
          go_wp2_with fail
          refine (four_any _).mono ?_
          rintro e wh ⟨rfl, hb⟩
          go_wp2_with fail
          go_ret
          exact ⟨rfl, hbW.trans (hb.mono hbW.size)⟩
    · have hb2 : ((wrongN len L B : Int) != 0) = true := by rw [bne_iff_ne]; omega
      clear h0
      go_wp2_with fail
      refine (four_any _).mono ?_
      rintro e w2 ⟨rfl, hb⟩
      go_wp2_with fail
      go_ret
      exact ⟨rfl, hb1.trans (hb.mono hb1.size)⟩
  · go_enter Try.func9, Try.ntmps9
    go_wp2_with fail
    refine (large_any a len cap A L C B _ h).mono ?_
    rintro e w1 ⟨rfl, rfl⟩
    rw [hl.out]
    go_wp2_with fail
    refine (four_any _).mono ?_
    rintro e w1 ⟨rfl, hb⟩
    go_wp2_with fail
    go_ret
    exact ⟨rfl, hb⟩

theorem own : ownKnob Try.prog.godebug = none := by kernel_rfl
theorem laidOut : laidOutB Try.prog = true := by kernel_rfl

set_option maxRecDepth 100000 in
theorem lifted (os : Os) (started : os.Started) (H : Type) (enc : TypeId × Value → H) :
    ReturnsInHanded {} Try.checked os 9 .any (Rows.latticeTellsSpec.pre6 enc Try.prog Try.f9 Rows.latticeTellsRow.domain false) (Rows.latticeTellsSpec.post enc Try.prog Try.f9 false true false false) := by
  refine returnsInHanded_of_change (C := Try.checked) own started (by kernel_rfl) Try.func9
    (ChangeSpec.witness6 (enc := enc) (C := Try.checked) false ⟨#[], #[.slice none 0 0, .int .i64 0, .int .i64 0], []⟩ 8 (by kernel_rfl) (by kernel_rfl) (by kernel_rfl) (by kernel_rfl)) ?_
  intro W base args ds gs before hval0 hW hcnd _
  have hval : ∀ (j : Nat) t v, Try.f9.params[j]? = some t → args[j]? = some v → Value.okWide Try.prog W .any base t v := hval0
  have hW' := hW
  obtain ⟨p, q, hA0, hV, rfl, hfz, hnd⟩ := hW
  have hA : DataW.TrodAll enc Try.prog W 0 (fun _ => true) true Try.f9.params.toList args.toList ds p := hA0
  rw [Try.params9] at hA hval
  obtain ⟨v0, vs0, d0, ds0, p0, q0, hargs, rfl, rfl, h0, r0⟩ := trodAll_cons hA
  obtain ⟨v1, vs1, d1, ds1, p1, q1, rfl, rfl, rfl, h1, r1⟩ := trodAll_cons r0
  obtain ⟨v2, vs2, d2, ds2, p2, q2, rfl, rfl, rfl, h2, r2⟩ := trodAll_cons r1
  obtain ⟨rfl, rfl, rfl⟩ := trodAll_nil r2
  obtain rfl : args = #[v0, v1, v2] := by cases args; simp_all
  obtain ⟨rfl, rfl⟩ := trodVars_none hV
  obtain ⟨a0, len0, cap0, rfl⟩ := okWide_slice Try.underlying57 (hval 0 57 v0 rfl rfl)
  have k0 := h0
  have lt0 : ∀ x ∈ p0, x.block < W.heap.size := by obtain ⟨m, hm⟩ := k0; exact DataW.trod_lt m _ _ _ hm
  obtain ⟨A0, L0, C0, B0, w0⟩ := L.open_grid Try.underlying57 Try.underlying68 Try.underlying4 (by kernel_rfl) (by kernel_rfl) h0
  obtain ⟨a1, rfl, rfl, rfl, w1⟩ := open_int Try.underlying3 (hval 1 3 v1 rfl rfl) h1
  obtain ⟨a2, rfl, rfl, rfl, w2⟩ := open_int Try.underlying3 (hval 2 3 v2 rfl rfl) h2
  clear hA0 hval0
  refine (walk a0 len0 cap0 A0 L0 C0 B0 a1 a2 W w0 w1 w2).mono fun e W' ⟨he, bel⟩ => ?_
  subst he
  exact ⟨_, rfl, _, _, _, [], _, [], hW', trodAll_mk1 (shut_bool Try.underlying4 _), (trodAll_cons_mk (Below.trod laidOut (by kernel_rfl) (of_decide_eq_true (by kernel_rfl)) k0 bel lt0) (trodAll_cons_mk (shut_int Try.underlying3 w1) (trodAll_cons_mk (shut_int Try.underlying3 w2) trodAll_mk0))), rfl, bel.frame _, fun h => by cases h⟩

theorem over : Rows.latticeTellsRow.holds Try.pinned (OpenSpec.ofChange Rows.latticeTellsSpec) :=
  OpenClaim.holds_of_wide 9 Try.f9 rfl rfl rfl rfl rfl rfl rfl ⟨rfl, rfl, rfl, rfl, rfl⟩ rfl rfl rfl rfl rfl (by kernel_rfl) Try.func9 (by kernel_rfl)
    (of_decide_eq_true (by kernel_rfl)) (by unfold Func.isWrapper; first | (rw [if_pos (by decide +kernel)]; kernel_rfl) | (rw [if_neg (by decide +kernel)]; exact ⟨rfl, rfl⟩))
    (fun os started H enc _ => lifted os started H enc)

/-- The statement. -/
theorem proved : Rows.LatticeTellsSaid := over
#print axioms proved

end Go.Proofs.Ytbhbiejaneencaa.latticeTells
