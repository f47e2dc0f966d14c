/- For every int and every slice of acts the law ViewFuse returns true: with a fuse of n at most n steps are done. No condition. -/
import Derived.Test.YtgomhnclmacleaaRows
import Derived.Test.YtgomhnclmacleaaViewE
import Derived.ChangeOld
namespace Go.Proofs.Ytgomhnclmacleaa.viewFuse
open Go.ChangeShapes Go.WideShapes Go.ChangeAt Go.RowKit
open Go.Proofs.Ytgomhnclmacleaa.D
set_option linter.unusedVariables false

theorem zeros9 : (zeros 9).length = 9 := by simp [zeros]
set_option maxHeartbeats 8000000 in
set_option maxRecDepth 100000 in
theorem walk (n : Int) (av : Value) (xs : List Act1) (w : World) (wn : (Lit.int .i64 n).wf = true) (hA : Acts w av xs) :
    Calls Try.prog 7 #[.int .i64 n, av] w fun e w' => e = .returned (.bool true) ∧ Below w.heap.size w w' := by
  obtain ⟨n0, n1⟩ := bounds_i64 wn
  have hlg := Lib.hid (large7 av xs w hA)
  by_cases hbig : largeB xs = true
  · rw [hbig] at hlg
    clear hbig
    go_enter Try.func7, Try.ntmps7
    go_wp2_with fail
    refine hlg.out.mono ?_
    rintro e w1 ⟨rfl, hb1⟩
    go_wp2_with fail
    refine (eight_any _).mono ?_
    rintro e w2 ⟨rfl, hb2⟩
    go_wp2_with fail
    go_ret
    exact ⟨rfl, hb1.trans (hb2.mono hb1.size)⟩
  replace hbig : largeB xs = false := by simpa using hbig
  rw [hbig] at hlg
  by_cases hneg : n < 0
  · clear hbig
    go_enter Try.func7, Try.ntmps7
    go_wp2_with fail
    refine hlg.out.mono ?_
    rintro e w1 ⟨rfl, hb1⟩
    go_wp2_with fail
    refine (eight_any _).mono ?_
    rintro e w2 ⟨rfl, hb2⟩
    go_wp2_with fail
    go_ret
    exact ⟨rfl, hb1.trans (hb2.mono hb1.size)⟩
  have n2 : 0 ≤ n := by omega
  have hm40 : xs.length ≤ 40 := by
    unfold largeB at hbig
    rw [Bool.or_eq_false_iff] at hbig
    have := of_decide_eq_false hbig.1
    omega
  obtain ⟨ka, cap, rfl, hle, hcap, hx⟩ := hA.form
  unfold maxLen at hcap
  obtain ⟨m, hm⟩ : ∃ m, Hid (xs.length = m) := ⟨_, Lib.hid rfl⟩
  have hget : Hid (∀ j, j < m → ∃ q, xs[j]? = some q) := fun j hj => ⟨_, List.getElem?_eq_getElem (by rw [hm.out]; exact hj)⟩
  rw [hm.out] at hle hlg hm40 ⊢
  replace hx := Lib.hid hx
  clear hA hbig hm hneg
  go_enter Try.func7, Try.ntmps7
  go_wp2_with fail
  refine hlg.out.mono ?_
  rintro e w1 ⟨rfl, hb1⟩
  clear hlg
  go_wp2_with fail
  refine (new_in 9 _ (by decide) (by decide)).mono ?_
  rintro e w2 ⟨rfl, hd2, hb2⟩
  obtain ⟨D0, hD0⟩ : ∃ D, Hid (w1.heap.size + 1 = D) := ⟨_, Lib.hid rfl⟩
  obtain ⟨G0, hG0⟩ : ∃ D, Hid (w1.heap.size = D) := ⟨_, Lib.hid rfl⟩
  rw [hD0.out] at hd2 ⊢
  rw [show Dk w2 D0 w1.heap.size (.slice none 0 0) (zeros 9) [] = Dk w2 D0 G0 (.slice none 0 0) (zeros 9) [] from by rw [hG0.out]] at hd2
  have hl9 := zeros9
  generalize zeros 9 = lie at hd2 hl9
  go_wp2_with fail
  refine (vnew_in (from_ := 3) (n := 4) _ hd2 (by decide) (by omega)).mono ?_
  rintro e w3 ⟨rfl, hv3, hb3⟩
  obtain ⟨vb, hvb⟩ : ∃ D, Hid (w2.heap.size = D) := ⟨_, Lib.hid rfl⟩
  rw [hvb.out] at hv3 ⊢
  have hs1 := hb1.size
  have hs2 := hb2.size
  have hP : ∀ k, (k = vb ∨ mine D0 G0 (.slice none 0 0) k) → Since w k := fun k h => by
    have e1 := hD0.out
    have e2 := hG0.out
    have e3 := hvb.out
    show w.heap.size ≤ k
    rcases h with h | h | h | h
    · omega
    · omega
    · omega
    · cases h
  have k3 := Kept.of_below (own := Since w) (hb1.trans ((hb2.trans (hb3.mono hs2)).mono hs1))
  go_wp2_with fail
  refine (vfuse_any n hv3).mono ?_
  rintro e w4 ⟨rfl, hv4, hk4⟩
  have k4 : Hid (Kept (Since w) w w4) := Lib.hid (k3.trans (hk4.mono (fun k _ h => hP k (.inl h))))
  have hVS : Hid (VS (Since w) w4 vb D0 G0 n 0) := Lib.hid ⟨_, _, _, by
    have e1 : fuseT n 0 = n := by unfold fuseT; rw [if_pos (by omega)]; omega
    have e2 : stepsT n 0 = 0 := by unfold stepsT; omega
    have e3 : goneT n 0 = false := decide_eq_false (by omega)
    rw [e1, e2, e3]; exact hv4, by decide, hP⟩
  clear hv4 hk4 k3 hP hs1 hs2 hv3 hb1 hb2 hb3 hd2 hD0 hG0 hvb
  go_wp2_with fail
  go_loopg [9, 34] m (fun ga tr i wr => ∃ k t : Nat, k ≤ m ∧ m ≤ k + ga ∧ t ≤ k ∧ i = .int .i64 k ∧ tr = .int .i64 t ∧ Hid (VS (Since w) wr vb D0 G0 n t) ∧ Hid (Kept (Since w) w wr))
  case atStart => exact ⟨0, 0, by omega, by omega, by omega, rfl, rfl, hVS, k4⟩
  case round =>
    obtain ⟨k, t, hk, hg, ht, rfl, rfl, hvs, hkr⟩ := hrel
    by_cases hlt : k < m
    · obtain ⟨x, hxk⟩ := hget.out k hlt
      obtain ⟨_, b, o, kv, rfl, hbl, q0, q1, q2, q3, q4, hkk⟩ := hx.out k x hxk
      obtain ⟨kka, kcap, rfl⟩ := hkk.len
      have hbr := hkr.out.below (B := w.heap.size) (Nat.le_refl _) (fun _ h => h)
      have r0 := keepCell hbr q0
      have r1 := keepCell hbr q1
      have r2 := keepCell hbr q2
      have r3 := keepCell hbr q3
      have r4 := keepCell hbr q4
      obtain ⟨ml, hml⟩ : ∃ ml, Hid (x.kl.length = ml) := ⟨_, Lib.hid rfl⟩
      rw [hml.out] at r4
      obtain ⟨kd, xa, xn, xc, xl⟩ := x
      dsimp only at r0 r1 r2 r3 r4
      have hsr := hbr.size
      clear q0 q1 q2 q3 q4 hkk hxk hml hbr
      by_cases h0 : kd = 0
      · subst h0
        have hbA := allocBelow wr (.cells #[.int .i64 0, .int .i64 xa, .int .i64 xn, .int .u8 (xc.toNat : Int), .slice kka ml kcap] 59)
        have hdn := Lib.hid (done_write (P := Since w) (d := D0) xa xn xc kka ml kcap (hvs.out.below hbA) (fun k hk => Nat.le_trans hsr (Nat.le_trans hbA.size hk)) n2 n1 (by omega))
        have kA : Hid (Kept (Since w) w (wr.alloc (.cells #[.int .i64 0, .int .i64 xa, .int .i64 xn, .int .u8 (xc.toNat : Int), .slice kka ml kcap] 59))) := Lib.hid (hkr.out.alloc _)
        clear hbA
        go_wp2_with fail
        refine hdn.out.mono ?_
        rintro e w5 ⟨y, rfl, hnx, hk5⟩
        have k5 : Hid (Kept (Since w) w w5) := Lib.hid (kA.out.trans hk5)
        clear hk5 kA hdn r0 r1 r2 r3 r4 hvs hkr
        rcases hnx with ⟨y0, y1, hv5⟩ | ⟨hy, hv5⟩
        · have e1 : (y == 0) = false := by rw [beq_eq_false_iff_ne]; exact y0
          have e2 : (y == 21) = false := by rw [beq_eq_false_iff_ne]; exact y1
          replace hv5 := Lib.hid hv5
          by_cases htn : n < (t : Int)
          · go_wp2_with fail
            go_roundg (gk - 1)
            case measure => omega
            case rel => exact ⟨k + 1, t, by omega, by omega, by omega, by go_num, rfl, hv5, k5⟩
          · go_wp2_with fail
            go_roundg (gk - 1)
            case measure => omega
            case rel => exact ⟨k + 1, t, by omega, by omega, by omega, by go_num, rfl, hv5, k5⟩
        · replace hv5 := Lib.hid hv5
          by_cases htn : (t : Int) < n
          · rw [if_pos htn] at hy
            subst hy
            have e3 : ¬ n < (t : Int) + 1 := by omega
            go_wp2_with fail
            go_roundg (gk - 1)
            case measure => omega
            case rel => exact ⟨k + 1, t + 1, by omega, by omega, by omega, by go_num, by go_num, hv5, k5⟩
          · rw [if_neg htn] at hy
            subst hy
            have e3 : n < (t : Int) + 1 := by omega
            go_wp2_with fail
            go_roundg (gk - 1)
            case measure => omega
            case rel => exact ⟨k + 1, t + 1, by omega, by omega, by omega, by go_num, by go_num, hv5, k5⟩
      · by_cases h1 : kd = 1
        · subst h1
          have hbA := allocBelow wr (.cells #[.int .i64 1, .int .i64 xa, .int .i64 xn, .int .u8 (xc.toNat : Int), .slice kka ml kcap] 59)
          have hdn := Lib.hid (done_flush (P := Since w) (d := D0) xa xn xc kka ml kcap (hvs.out.below hbA) (fun k hk => Nat.le_trans hsr (Nat.le_trans hbA.size hk)) n2 n1 (by omega))
          have kA : Hid (Kept (Since w) w (wr.alloc (.cells #[.int .i64 1, .int .i64 xa, .int .i64 xn, .int .u8 (xc.toNat : Int), .slice kka ml kcap] 59))) := Lib.hid (hkr.out.alloc _)
          clear hbA
          go_wp2_with fail
          refine hdn.out.mono ?_
          rintro e w5 ⟨y, rfl, hnx, hk5⟩
          have k5 : Hid (Kept (Since w) w w5) := Lib.hid (kA.out.trans hk5)
          clear hk5 kA hdn r0 r1 r2 r3 r4 hvs hkr
          rcases hnx with ⟨y0, y1, hv5⟩ | ⟨hy, hv5⟩
          · have e1 : (y == 0) = false := by rw [beq_eq_false_iff_ne]; exact y0
            have e2 : (y == 21) = false := by rw [beq_eq_false_iff_ne]; exact y1
            replace hv5 := Lib.hid hv5
            by_cases htn : n < (t : Int)
            · go_wp2_with fail
              go_roundg (gk - 1)
              case measure => omega
              case rel => exact ⟨k + 1, t, by omega, by omega, by omega, by go_num, rfl, hv5, k5⟩
            · go_wp2_with fail
              go_roundg (gk - 1)
              case measure => omega
              case rel => exact ⟨k + 1, t, by omega, by omega, by omega, by go_num, rfl, hv5, k5⟩
          · replace hv5 := Lib.hid hv5
            by_cases htn : (t : Int) < n
            · rw [if_pos htn] at hy
              subst hy
              have e3 : ¬ n < (t : Int) + 1 := by omega
              go_wp2_with fail
              go_roundg (gk - 1)
              case measure => omega
              case rel => exact ⟨k + 1, t + 1, by omega, by omega, by omega, by go_num, by go_num, hv5, k5⟩
            · rw [if_neg htn] at hy
              subst hy
              have e3 : n < (t : Int) + 1 := by omega
              go_wp2_with fail
              go_roundg (gk - 1)
              case measure => omega
              case rel => exact ⟨k + 1, t + 1, by omega, by omega, by omega, by go_num, by go_num, hv5, k5⟩
        · have e1 : (kd != 0) = true := by simpa using h0
          have e2 : (kd != 1) = true := by simpa using h1
          replace h0 := Lib.hid h0
          replace h1 := Lib.hid h1
          have kA : Hid (Kept (Since w) w (wr.alloc (.cells #[.int .i64 kd, .int .i64 xa, .int .i64 xn, .int .u8 (xc.toNat : Int), .slice kka ml kcap] 59))) := Lib.hid (hkr.out.alloc _)
          have hv5 : Hid (VS (Since w) (wr.alloc (.cells #[.int .i64 kd, .int .i64 xa, .int .i64 xn, .int .u8 (xc.toNat : Int), .slice kka ml kcap] 59)) vb D0 G0 n t) := Lib.hid (hvs.out.below (allocBelow wr _))
          go_wp2_with fail
          go_roundg (gk - 1)
          case measure => omega
          case rel => exact ⟨k + 1, t, by omega, by omega, by omega, by go_num, rfl, hv5, kA⟩
    · obtain rfl : k = m := by omega
      obtain ⟨v, lie9, ws, hvw, _, _⟩ := hvs.out
      have hbr := Lib.hid (hkr.out.below (B := w.heap.size) (Nat.le_refl _) (fun _ h => h))
      have hst := Lib.hid (vsteps_any hvw)
      have hde := Lib.hid (vdead_any hvw)
      clear hvw hvs hkr hlt hx hget hVS k4
      by_cases htn : n < (t : Int)
      · rw [show stepsT n t = n from by unfold stepsT; omega] at hst
        rw [show goneT n t = true from decide_eq_true htn] at hde
        have hmn : min n (t : Int) = n := by omega
        go_wp2_with fail
        refine hst.out.mono ?_
        rintro e w5 ⟨rfl, rfl⟩
        go_wp2_with fail
        refine hde.out.mono ?_
        rintro e w5 ⟨rfl, rfl⟩
        go_wp2_with fail
        refine (eight_any _).mono ?_
        rintro e w6 ⟨rfl, hb6⟩
        go_wp2_with fail
        go_ret
        exact ⟨rfl, hbr.out.trans (hb6.mono hbr.out.size)⟩
      · rw [show stepsT n t = t from by unfold stepsT; omega] at hst
        rw [show goneT n t = false from decide_eq_false htn] at hde
        have hmn : min n (t : Int) = t := by omega
        rcases Int.lt_or_eq_of_le (show (t : Int) ≤ n by omega) with htn2 | htn2
        · have h3 : ¬ n < (t : Int) := by omega
          have h4 : ¬ n ≤ (t : Int) := by omega
          go_wp2_with fail
          refine hst.out.mono ?_
          rintro e w5 ⟨rfl, rfl⟩
          go_wp2_with fail
          refine hde.out.mono ?_
          rintro e w5 ⟨rfl, rfl⟩
          go_wp2_with fail
          refine (eight_any _).mono ?_
          rintro e w6 ⟨rfl, hb6⟩
          go_wp2_with fail
          go_ret
          exact ⟨ret_b7 (by simp; try omega), hbr.out.trans (hb6.mono hbr.out.size)⟩
        · subst htn2
          go_wp2_with fail
          refine hst.out.mono ?_
          rintro e w5 ⟨rfl, rfl⟩
          go_wp2_with fail
          refine hde.out.mono ?_
          rintro e w5 ⟨rfl, rfl⟩
          go_wp2_with fail
          refine (eight_any _).mono ?_
          rintro e w6 ⟨rfl, hb6⟩
          go_wp2_with fail
          go_ret
          exact ⟨ret_b7 (by simp; try omega), hbr.out.trans (hb6.mono hbr.out.size)⟩

theorem own : ownKnob Try.prog.godebug = none := by kernel_rfl
theorem laidOut : laidOutB Try.prog = true := by kernel_rfl

set_option maxRecDepth 100000 in
theorem lifted (os : Os) (started : os.Started) (H : Type) (enc : TypeId × Value → H) :
    ReturnsInHanded {} Try.checked os 7 .any (Rows.viewFuseSpec.pre6 enc Try.prog Try.f7 Rows.viewFuseRow.domain false) (Rows.viewFuseSpec.post enc Try.prog Try.f7 false true false false) := by
  refine returnsInHanded_of_change (C := Try.checked) own started (by kernel_rfl) Try.func7
    (ChangeSpec.witness6 (enc := enc) (C := Try.checked) false ⟨#[], #[.int .i64 0, .slice none 0 0], []⟩ 8 (by kernel_rfl) (by kernel_rfl) (by kernel_rfl) (by kernel_rfl)) ?_
  intro W base args ds gs before hval0 hW hcnd _
  have hval : ∀ (j : Nat) t v, Try.f7.params[j]? = some t → args[j]? = some v → Value.okWide Try.prog W .any base t v := hval0
  have hW' := hW
  obtain ⟨p, q, hA0, hV, rfl, hfz, hnd⟩ := hW
  have hA : DataW.TrodAll enc Try.prog W 0 (fun _ => true) true Try.f7.params.toList args.toList ds p := hA0
  rw [Try.params7] at hA hval
  obtain ⟨v0, vs0, d0, ds0, p0, q0, hargs, rfl, rfl, h0, r0⟩ := trodAll_cons hA
  obtain ⟨v1, vs1, d1, ds1, p1, q1, rfl, rfl, rfl, h1, r1⟩ := trodAll_cons r0
  obtain ⟨rfl, rfl, rfl⟩ := trodAll_nil r1
  obtain rfl : args = #[v0, v1] := by cases args; simp_all
  obtain ⟨rfl, rfl⟩ := trodVars_none hV
  obtain ⟨a0, rfl, rfl, rfl, w0⟩ := open_int Try.underlying3 (hval 0 3 v0 rfl rfl) h0
  have k1 := h1
  have lt1 : ∀ x ∈ p1, x.block < W.heap.size := by obtain ⟨m, hm⟩ := k1; exact DataW.trod_lt m _ _ _ hm
  obtain ⟨a1, len1, cap1, rfl⟩ := okWide_slice Try.underlying53 (hval 1 53 v1 rfl rfl)
  obtain ⟨fu1, hf1⟩ := h1
  obtain ⟨xs1, w1⟩ := D.open_acts7 (show DataW.trod enc Try.prog W 0 (fun _ => true) true fu1 53 [.slice a1 len1 cap1] = some _ from hf1)
  clear hA0 hval0
  refine (walk a0 (.slice a1 len1 cap1) xs1 W w0 w1).mono fun e W' ⟨he, bel⟩ => ?_
  subst he
  exact ⟨_, rfl, _, _, _, [], _, [], hW', trodAll_mk1 (shut_bool Try.underlying4 _), (trodAll_cons_mk (shut_int Try.underlying3 w0) (trodAll_cons_mk (Below.trod laidOut (by kernel_rfl) (of_decide_eq_true (by kernel_rfl)) k1 bel lt1) trodAll_mk0)), rfl, bel.frame _, fun h => by cases h⟩

theorem over : Rows.viewFuseRow.holds Try.pinned (OpenSpec.ofChange Rows.viewFuseSpec) :=
  OpenClaim.holds_of_wide 7 Try.f7 rfl rfl rfl rfl rfl rfl rfl ⟨rfl, rfl, rfl, rfl, rfl⟩ rfl rfl rfl rfl rfl (by kernel_rfl) Try.func7 (by kernel_rfl)
    (of_decide_eq_true (by kernel_rfl)) (by unfold Func.isWrapper; first | (rw [if_pos (by decide +kernel)]; kernel_rfl) | (rw [if_neg (by decide +kernel)]; exact ⟨rfl, rfl⟩))
    (fun os started H enc _ => lifted os started H enc)

/-- The statement. -/
theorem proved : Rows.ViewFuseSaid := over
#print axioms proved

end Go.Proofs.Ytgomhnclmacleaa.viewFuse
