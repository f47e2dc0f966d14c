/- What is wrong with a table, and its top, as the definition has them. -/
import Derived.Test.YtdagbepjhbmlfaaProg
import Derived.Test.YtdagbepjhbmlfaaTurn
import Derived.Test.YtdagbepjhbmlfaaSqOrder
namespace Go.Proofs.Ytdagbepjhbmlfaa.L
open Go.RowKit
set_option linter.unusedVariables false

theorem Tab.square {w : World} {a : Option Addr} {len : Nat} {A : Nat → Option Addr} {L C : Nat → Nat} {B : Nat → Nat → Bool} (h : Tab w a len A L C B) (hs : sqB len L = true) : ∃ bk off, a = some ⟨bk, off, none⟩ ∧ 0 < len ∧ Sq w bk off len B := by
  unfold sqB at hs
  simp only [Bool.and_eq_true, decide_eq_true_eq] at hs
  obtain ⟨⟨h0, h6⟩, hall⟩ := hs
  obtain ⟨bk, off, rfl, _, _⟩ := h.at_ 0 h0
  refine ⟨bk, off, rfl, h0, h6, fun r => (A r).elim 0 (·.block), fun r => (A r).elim 0 (·.off), C, fun r hr => ?_, fun r j hr hj => ?_⟩
  · obtain ⟨bk', off', e, hc, _⟩ := h.at_ r hr
    obtain ⟨rfl, rfl⟩ : bk = bk' ∧ off = off' := by simpa using e
    have hL : L r = len := by simpa using allB_iff.1 hall r hr
    obtain ⟨rb, ro, hA, _⟩ := h.el r 0 hr (by omega)
    rw [hA, hL] at hc
    simp only [hA, Option.elim]
    exact hc
  · have hL : L r = len := by simpa using allB_iff.1 hall r hr
    obtain ⟨rb, ro, hA, hc⟩ := h.el r j hr (by omega)
    simp only [hA, Option.elim]
    exact hc

theorem rmeet_any (bk off n cap : Nat) (F : Nat → Nat → Bool) (w : World) (a b : Nat) (h : Sq w bk off n F) (ha : a < n) (hb : b < n) :
    Calls Try.prog 70 #[.slice (some ⟨bk, off, none⟩) n cap, .int .i64 a, .int .i64 b] w fun e w' => e = .returned (.int .i64 (joinI n (turn F) a b)) ∧ Below w.heap.size w w' := by
  go_enter Try.func70, Try.ntmps70
  go_wp2_with fail
  refine (turned_any bk off n cap F _ h (by omega)).mono ?_
  rintro e w1 ⟨b1, o1, c1, rfl, hsq, hb1⟩
  go_wp2_with fail
  refine (rjoin_any b1 o1 n c1 (turn F) _ a b hsq ha hb).mono ?_
  rintro e w2 ⟨rfl, rfl⟩
  go_wp2_with fail
  go_ret
  exact ⟨rfl, hb1⟩

theorem ret_nat {a b : Nat} (h : a = b) : Ending.returned (.int .i64 (a : Int)) = .returned (.int .i64 (b : Int)) := by rw [h]
section
variable (a : Option Addr) (len cap : Nat) (A : Nat → Option Addr) (L C : Nat → Nat) (B : Nat → Nat → Bool) (w : World)
set_option maxHeartbeats 1000000 in
theorem wrong_any (h : Tab w a len A L C B) :
    Calls Try.prog 29 #[.slice a len cap] w fun e w' => e = .returned (.int .i64 (wrongN len L B : Nat)) ∧ Below w.heap.size w w' := by
  cases hsq : sqB len L
  · have hfin := Lib.hid (show wrongN len L B = 1 by simp [wrongN, hsq])
    replace hsq := Lib.hid hsq
    go_enter Try.func29, Try.ntmps29
    go_wp2_with fail
    refine (square_any a len cap A L C B _ h).mono ?_
    rintro e w1 ⟨rfl, rfl⟩
    rw [hsq.out]
    go_wp2_with fail
    go_ret
    exact ⟨(ret_nat hfin.out).symm, Below.refl _ _⟩
  · obtain ⟨bk, off, rfl, h0, hS⟩ := h.square hsq
    cases ho : orderB len B
    · have hfin := Lib.hid (show wrongN len L B = 4 by simp [wrongN, hsq, ho])
      replace hsq := Lib.hid hsq
      replace ho := Lib.hid ho
      go_enter Try.func29, Try.ntmps29
      go_wp2_with fail
      refine (square_any _ len cap A L C B _ h).mono ?_
      rintro e w1 ⟨rfl, rfl⟩
      rw [hsq.out]
      go_wp2_with fail
      refine (rorder_any bk off len cap B _ hS).mono ?_
      rintro e w1 ⟨rfl, rfl⟩
      rw [rorder_eq, ho.out]
      go_wp2_with fail
      go_ret
      exact ⟨(ret_nat hfin.out).symm, Below.refl _ _⟩
    · have h6 := hS.small
      have hpairs : Hid (∀ v, pairsB len B = v → wrongN len L B = if v = false then 6 else 0) := fun v hv => by simp [wrongN, hsq, ho, hv]
      replace hsq := Lib.hid hsq
      replace ho := Lib.hid ho
      go_enter Try.func29, Try.ntmps29
      go_wp2_with fail
      refine (square_any _ len cap A L C B _ h).mono ?_
      rintro e w1 ⟨rfl, rfl⟩
      rw [hsq.out]
      go_wp2_with fail
      refine (rorder_any bk off len cap B _ hS).mono ?_
      rintro e w1 ⟨rfl, rfl⟩
      rw [rorder_eq, ho.out]
      go_wp2_with fail
      go_loopg [13] len (fun g i wr => ∃ k : Nat, k ≤ len ∧ len ≤ k + g ∧ i = .int .i64 k ∧ Hid (∀ j, j < k → allB len (pairB len B j) = true) ∧ Below w.heap.size w wr)
      case atStart => exact ⟨0, by omega, by omega, rfl, fun j hj => by omega, Below.refl _ _⟩
      case round =>
        obtain ⟨k, hk, hg, rfl, hj, hbel⟩ := hrel
        by_cases hkn : k < len
        · generalize gk = gout at *
          generalize wr = wo at *
          go_wp2_with fail
          go_loopg [18] len (fun g i wr => ∃ l : Nat, l ≤ len ∧ len ≤ l + g ∧ i = .int .i64 l ∧ Hid (∀ j, j < l → pairB len B k j = true) ∧ Below w.heap.size w wr)
          case atStart => exact ⟨0, by omega, by omega, rfl, fun j hj => by omega, hbel⟩
          case round =>
            clear hbel
            obtain ⟨l, hl, hgl, rfl, hjl, hbel⟩ := hrel
            by_cases hln : l < len
            · have hS1 := hS.below hbel
              have hno : Hid (pairB len B k l = false → wrongN len L B = 6) := fun hr => hpairs.out false (allB_false hkn (allB_false hln hr))
              go_wp2_with fail
              refine (rjoin_any bk off len cap B _ k l hS1 hkn hln).mono ?_
              rintro e w1 ⟨rfl, rfl⟩
              cases g1 : (near len B k l).isSome
              · rw [joinI_neg g1]
                have hfin := Lib.hid (hno.out (by unfold pairB; rw [g1]; rfl))
                replace g1 := Lib.hid g1
                go_wp2_with fail
                go_ret
                exact ⟨(ret_nat hfin.out).symm, hbel⟩
              · obtain ⟨c, _, hc, _⟩ := joinI_pos g1
                rw [hc]
                clear hc
                replace g1 := Lib.hid g1
                go_wp2_with fail
                refine (rmeet_any bk off len cap B _ k l hS1 hkn hln).mono ?_
                rintro e w1 ⟨rfl, hb1⟩
                have hbel1 := hbel.trans (hb1.mono hbel.size)
                cases g2 : (near len (turn B) k l).isSome
                · rw [joinI_neg g2]
                  have hfin := Lib.hid (hno.out (by unfold pairB; rw [g1.out, g2]; rfl))
                  replace g2 := Lib.hid g2
                  go_wp2_with fail
                  go_ret
                  exact ⟨(ret_nat hfin.out).symm, hbel1⟩
                · obtain ⟨d, _, hd, _⟩ := joinI_pos g2
                  rw [hd]
                  clear hd
                  replace g2 := Lib.hid g2
                  go_wp2_with fail
                  go_roundg (gk - 1)
                  case measure => omega
                  case rel => exact ⟨l + 1, by omega, by omega, by go_num, upto hjl.out (by unfold pairB; rw [g1.out, g2.out]; rfl), hbel1⟩
            · obtain rfl : l = len := by omega
              go_wp2_with fail
              go_roundg (gout - 1)
              case measure => omega
              case rel => exact ⟨k + 1, by omega, by omega, by go_num, upto hj.out (allB_true hjl.out), hbel⟩
        · obtain rfl : k = len := by omega
          have hfin := Lib.hid (hpairs.out true (allB_true hj.out))
          go_wp2_with fail
          go_ret
          exact ⟨(ret_nat hfin.out).symm, hbel⟩
end
end Go.Proofs.Ytdagbepjhbmlfaa.L
