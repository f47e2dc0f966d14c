/- The walks of the functions that only read a square table. -/
import Derived.Test.YtdagbepjhbmlfaaProg
import Derived.Test.YtdagbepjhbmlfaaTable
namespace Go.Proofs.Ytdagbepjhbmlfaa.L
open Go.RowKit
set_option linter.unusedVariables false
section
variable (bk off n cap : Nat) (F : Nat → Nat → Bool) (w : World)

theorem isjoin_any (a b x : Nat) (h : Sq w bk off n F) (ha : a < n) (hb : b < n) (hx : x < n) :
    Calls Try.prog 83 #[.slice (some ⟨bk, off, none⟩) n cap, .int .i64 a, .int .i64 b, .int .i64 x] w fun e w' => e = .returned (.bool (nearP n F a b x)) ∧ w = w' := by
  have hs := h.small
  obtain ⟨r1, o1, c1, e1, e2⟩ := h.get a x ha hx
  obtain ⟨r2, o2, c2, e3, e4⟩ := h.get b x hb hx
  cases f1 : F a x <;> rw [f1] at e2 <;> replace f1 := Lib.hid f1
  · have hfin := Lib.hid (show nearP n F a b x = false by unfold nearP; rw [f1.out]; rfl)
    go_enter Try.func83, Try.ntmps83
    go_wp2_with fail
    go_ret
    exact ⟨ret_bool hfin.out.symm, rfl⟩
  · cases f2 : F b x <;> rw [f2] at e4 <;> replace f2 := Lib.hid f2
    · have hfin := Lib.hid (show nearP n F a b x = false by unfold nearP; rw [f1.out, f2.out]; rfl)
      go_enter Try.func83, Try.ntmps83
      go_wp2_with fail
      go_ret
      exact ⟨ret_bool hfin.out.symm, rfl⟩
    · have hall : Hid (∀ v, allB n (fun o => !(F a o && F b o) || F x o) = v → nearP n F a b x = v) := fun v hv => by unfold nearP; rw [f1.out, f2.out, hv]; rfl
      go_enter Try.func83, Try.ntmps83
      go_wp2_with fail
      clear e1 e2 e3 e4
      go_loopg [30] n (fun g i wr => ∃ k : Nat, k ≤ n ∧ n ≤ k + g ∧ i = .int .i64 k ∧ Hid (∀ j, j < k → (!(F a j && F b j) || F x j) = true) ∧ w = wr)
      case atStart => exact ⟨0, by omega, by omega, rfl, fun j hj => by omega, rfl⟩
      case round =>
        obtain ⟨k, hk, hg, rfl, hj, rfl⟩ := hrel
        by_cases hlt : k < n
        · obtain ⟨r1, o1, c1, e1, e2⟩ := h.get a k ha hlt
          obtain ⟨r2, o2, c2, e3, e4⟩ := h.get b k hb hlt
          obtain ⟨r3, o3, c3, e5, e6⟩ := h.get x k hx hlt
          cases g1 : F a k <;> rw [g1] at e2 <;> replace g1 := Lib.hid g1
          · go_wp2_with fail
            go_roundg (gk - 1)
            case measure => omega
            case rel => exact ⟨k + 1, by omega, by omega, by go_num, upto hj.out (by rw [g1.out]; rfl), rfl⟩
          · cases g2 : F b k <;> rw [g2] at e4 <;> replace g2 := Lib.hid g2
            · go_wp2_with fail
              go_roundg (gk - 1)
              case measure => omega
              case rel => exact ⟨k + 1, by omega, by omega, by go_num, upto hj.out (by rw [g1.out, g2.out]; rfl), rfl⟩
            · cases g3 : F x k <;> rw [g3] at e6 <;> replace g3 := Lib.hid g3
              · have hfin := Lib.hid (hall.out false (allB_false hlt (by rw [g1.out, g2.out, g3.out]; rfl)))
                go_wp2_with fail
                go_ret
                exact ⟨ret_bool hfin.out.symm, rfl⟩
              · go_wp2_with fail
                go_roundg (gk - 1)
                case measure => omega
                case rel => exact ⟨k + 1, by omega, by omega, by go_num, upto hj.out (by rw [g1.out, g2.out, g3.out]; rfl), rfl⟩
        · obtain rfl : k = n := by omega
          have hfin := Lib.hid (hall.out true (allB_true hj.out))
          go_wp2_with fail
          go_ret
          exact ⟨ret_bool hfin.out.symm, rfl⟩

theorem rjoin_any (a b : Nat) (h : Sq w bk off n F) (ha : a < n) (hb : b < n) :
    Calls Try.prog 69 #[.slice (some ⟨bk, off, none⟩) n cap, .int .i64 a, .int .i64 b] w fun e w' => e = .returned (.int .i64 (joinI n F a b)) ∧ w = w' := by
  have hs := h.small
  go_enter Try.func69, Try.ntmps69
  go_wp2_with fail
  go_loopg [10] n (fun g i wr => ∃ k : Nat, k ≤ n ∧ n ≤ k + g ∧ i = .int .i64 k ∧ Hid (∀ j, j < k → nearP n F a b j = false) ∧ w = wr)
  case atStart => exact ⟨0, by omega, by omega, rfl, fun j hj => by omega, rfl⟩
  case round =>
    obtain ⟨k, hk, hg, rfl, hj, rfl⟩ := hrel
    by_cases hlt : k < n
    · go_wp2_with fail
      refine (isjoin_any bk off n cap F _ a b k h ha hb hlt).mono ?_
      rintro e w1 ⟨rfl, rfl⟩
      cases g1 : nearP n F a b k <;> replace g1 := Lib.hid g1
      · go_wp2_with fail
        go_roundg (gk - 1)
        case measure => omega
        case rel => exact ⟨k + 1, by omega, by omega, by go_num, uptoF hj.out g1.out, rfl⟩
      · have hfin := Lib.hid (show joinI n F a b = k by unfold joinI near; rw [findB_some hlt g1.out hj.out])
        go_wp2_with fail
        go_ret
        exact ⟨ret_i64 hfin.out.symm, rfl⟩
    · obtain rfl : k = n := by omega
      have hfin := Lib.hid (show joinI k F a b = -1 by unfold joinI near; rw [findB_none hj.out])
      go_wp2_with fail
      go_ret
      exact ⟨ret_i64 hfin.out.symm, rfl⟩
end
end Go.Proofs.Ytdagbepjhbmlfaa.L
