/- The walk of the definition's order of a square table. -/
import Derived.Test.YtdagbepjhbmlfaaProg
import Derived.Test.YtdagbepjhbmlfaaTable
namespace Go.Proofs.Ytdagbepjhbmlfaa.L
open Go.RowKit
set_option linter.unusedVariables false

set_option maxRecDepth 100000 in
set_option maxHeartbeats 1000000 in
theorem rorder_any (bk off n cap : Nat) (F : Nat → Nat → Bool) (w : World) (h : Sq w bk off n F) :
    Calls Try.prog 68 #[.slice (some ⟨bk, off, none⟩) n cap] w fun e w' => e = .returned (.bool (rorderB n F)) ∧ w = w' := by
  have hs := h.small
  obtain ⟨R, O, C, hr, he⟩ := h.rows
  replace hr := Lib.hid hr
  replace he := Lib.hid he
  go_enter Try.func68, Try.ntmps68
  go_wp2_with fail
  go_loopg [8] n (fun g i wr => ∃ k : Nat, k ≤ n ∧ n ≤ k + g ∧ i = .int .i64 k ∧ Hid (∀ j, j < k → allB n (cellB n F j) = true) ∧ w = wr)
  case atStart => exact ⟨0, by omega, by omega, rfl, fun j hj => by omega, rfl⟩
  case round =>
    obtain ⟨k, hk, hg, rfl, hj, rfl⟩ := hrel
    by_cases hkn : k < n
    · generalize gk = gout at *
      go_wp2_with fail
      go_loopg [13] n (fun g i wr => ∃ l : Nat, l ≤ n ∧ n ≤ l + g ∧ i = .int .i64 l ∧ Hid (∀ j, j < l → cellB n F k j = true) ∧ w = wr)
      case atStart => exact ⟨0, by omega, by omega, rfl, fun j hj => by omega, rfl⟩
      case round =>
        obtain ⟨l, hl, hgl, rfl, hjl, rfl⟩ := hrel
        by_cases hln : l < n
        · generalize gk = gmid at *
          have hno : Hid (cellB n F k l = false → rorderB n F = false) := fun hr => allB_false hkn (allB_false hln hr)
          have e1 := hr.out k hkn; have e2 := he.out k l hkn hln
          have e3 := hr.out l hln; have e4 := he.out l k hln hkn
          -- what stands behind the test, for each of the ways on which it says no
          have hcell : Hid (∀ v, (!((k == l && !F k l) || (k != l && F k l && F l k))) = true → allB n (fun c => !(F k l && F l c && !F k c)) = v → cellB n F k l = v) := fun v h1 h2 => by unfold cellB; rw [h1, h2]; rfl
          have hbad : Hid ((!((k == l && !F k l) || (k != l && F k l && F l k))) = false → rorderB n F = false) := fun h1 => hno.out (by unfold cellB; rw [h1]; rfl)
          by_cases hkl : k = l
          · have hb1 : ((k : Int) == (l : Int)) = true := by rw [beq_iff_eq]; omega
            have hb2 : ((k : Int) != (l : Int)) = false := by simp [hkl]
            replace hkl := Lib.hid hkl
            cases f1 : F k l <;> rw [f1] at e2 <;> replace f1 := Lib.hid f1
            · have hfin := Lib.hid (hbad.out (by rw [f1.out, hkl.out]; simp))
              go_wp2_with fail
              go_ret
              exact ⟨ret_bool hfin.out.symm, rfl⟩
            · have htest := Lib.hid (show (!((k == l && !F k l) || (k != l && F k l && F l k))) = true by rw [f1.out, hkl.out]; simp)
              go_wp2_with fail
              clear e1 e2 e3 e4
              go_loopg [54] n (fun g i wr => ∃ m : Nat, m ≤ n ∧ n ≤ m + g ∧ i = .int .i64 m ∧ Hid (∀ j, j < m → (!(F k l && F l j && !F k j)) = true) ∧ w = wr)
              case atStart => exact ⟨0, by omega, by omega, rfl, fun j hj => by omega, rfl⟩
              case round =>
                obtain ⟨m, hm, hgm, rfl, hjm, rfl⟩ := hrel
                by_cases hmn : m < n
                · have e1 := hr.out k hkn; have e2 := he.out k l hkn hln
                  rw [f1.out] at e2
                  have e3 := hr.out l hln; have e4 := he.out l m hln hmn
                  have e5 := hr.out k hkn; have e6 := he.out k m hkn hmn
                  cases g1 : F l m <;> rw [g1] at e4 <;> replace g1 := Lib.hid g1
                  · go_wp2_with fail
                    go_roundg (gk - 1)
                    case measure => omega
                    case rel => exact ⟨m + 1, by omega, by omega, by go_num, upto hjm.out (by rw [f1.out, g1.out]; rfl), rfl⟩
                  · cases g2 : F k m <;> rw [g2] at e6 <;> replace g2 := Lib.hid g2
                    · have hfin := Lib.hid (hno.out (hcell.out false htest.out (allB_false hmn (by rw [f1.out, g1.out, g2.out]; rfl))))
                      go_wp2_with fail
                      go_ret
                      exact ⟨ret_bool hfin.out.symm, rfl⟩
                    · go_wp2_with fail
                      go_roundg (gk - 1)
                      case measure => omega
                      case rel => exact ⟨m + 1, by omega, by omega, by go_num, upto hjm.out (by rw [f1.out, g1.out, g2.out]; rfl), rfl⟩
                · obtain rfl : m = n := by omega
                  have hok := Lib.hid (hcell.out true htest.out (allB_true hjm.out))
                  go_wp2_with fail
                  go_roundg (gmid - 1)
                  case measure => omega
                  case rel => exact ⟨l + 1, by omega, by omega, by go_num, upto hjl.out hok.out, rfl⟩
          · have hb1 : ((k : Int) == (l : Int)) = false := by rw [beq_eq_false_iff_ne]; omega
            have hb2 : ((k : Int) != (l : Int)) = true := by rw [bne_iff_ne]; omega
            have hkl2 := Lib.hid (show (k == l) = false by simp [hkl])
            have hkl3 := Lib.hid (show (k != l) = true by simp [hkl])
            clear hkl
            cases f1 : F k l <;> rw [f1] at e2 <;> replace f1 := Lib.hid f1
            · have htest := Lib.hid (show (!((k == l && !F k l) || (k != l && F k l && F l k))) = true by rw [f1.out, hkl2.out, hkl3.out]; simp)
              go_wp2_with fail
              clear e1 e2 e3 e4
              go_loopg [54] n (fun g i wr => ∃ m : Nat, m ≤ n ∧ n ≤ m + g ∧ i = .int .i64 m ∧ Hid (∀ j, j < m → (!(F k l && F l j && !F k j)) = true) ∧ w = wr)
              case atStart => exact ⟨0, by omega, by omega, rfl, fun j hj => by omega, rfl⟩
              case round =>
                obtain ⟨m, hm, hgm, rfl, hjm, rfl⟩ := hrel
                by_cases hmn : m < n
                · have e1 := hr.out k hkn; have e2 := he.out k l hkn hln
                  rw [f1.out] at e2
                  go_wp2_with fail
                  go_roundg (gk - 1)
                  case measure => omega
                  case rel => exact ⟨m + 1, by omega, by omega, by go_num, upto hjm.out (by rw [f1.out]; rfl), rfl⟩
                · obtain rfl : m = n := by omega
                  have hok := Lib.hid (hcell.out true htest.out (allB_true hjm.out))
                  go_wp2_with fail
                  go_roundg (gmid - 1)
                  case measure => omega
                  case rel => exact ⟨l + 1, by omega, by omega, by go_num, upto hjl.out hok.out, rfl⟩
            · cases f2 : F l k <;> rw [f2] at e4 <;> replace f2 := Lib.hid f2
              · have htest := Lib.hid (show (!((k == l && !F k l) || (k != l && F k l && F l k))) = true by rw [f1.out, f2.out, hkl2.out, hkl3.out]; simp)
                go_wp2_with fail
                clear e1 e2 e3 e4
                go_loopg [54] n (fun g i wr => ∃ m : Nat, m ≤ n ∧ n ≤ m + g ∧ i = .int .i64 m ∧ Hid (∀ j, j < m → (!(F k l && F l j && !F k j)) = true) ∧ w = wr)
                case atStart => exact ⟨0, by omega, by omega, rfl, fun j hj => by omega, rfl⟩
                case round =>
                  obtain ⟨m, hm, hgm, rfl, hjm, rfl⟩ := hrel
                  by_cases hmn : m < n
                  · have e1 := hr.out k hkn; have e2 := he.out k l hkn hln
                    rw [f1.out] at e2
                    have e3 := hr.out l hln; have e4 := he.out l m hln hmn
                    have e5 := hr.out k hkn; have e6 := he.out k m hkn hmn
                    cases g1 : F l m <;> rw [g1] at e4 <;> replace g1 := Lib.hid g1
                    · go_wp2_with fail
                      go_roundg (gk - 1)
                      case measure => omega
                      case rel => exact ⟨m + 1, by omega, by omega, by go_num, upto hjm.out (by rw [f1.out, g1.out]; rfl), rfl⟩
                    · cases g2 : F k m <;> rw [g2] at e6 <;> replace g2 := Lib.hid g2
                      · have hfin := Lib.hid (hno.out (hcell.out false htest.out (allB_false hmn (by rw [f1.out, g1.out, g2.out]; rfl))))
                        go_wp2_with fail
                        go_ret
                        exact ⟨ret_bool hfin.out.symm, rfl⟩
                      · go_wp2_with fail
                        go_roundg (gk - 1)
                        case measure => omega
                        case rel => exact ⟨m + 1, by omega, by omega, by go_num, upto hjm.out (by rw [f1.out, g1.out, g2.out]; rfl), rfl⟩
                  · obtain rfl : m = n := by omega
                    have hok := Lib.hid (hcell.out true htest.out (allB_true hjm.out))
                    go_wp2_with fail
                    go_roundg (gmid - 1)
                    case measure => omega
                    case rel => exact ⟨l + 1, by omega, by omega, by go_num, upto hjl.out hok.out, rfl⟩
              · have hfin := Lib.hid (hbad.out (by rw [f1.out, f2.out, hkl2.out, hkl3.out]; simp))
                go_wp2_with fail
                go_ret
                exact ⟨ret_bool hfin.out.symm, rfl⟩
        · obtain rfl : l = n := by omega
          go_wp2_with fail
          go_roundg (gout - 1)
          case measure => omega
          case rel => exact ⟨k + 1, by omega, by omega, by go_num, upto hj.out (allB_true hjl.out), rfl⟩
    · obtain rfl : k = n := by omega
      have hfin := Lib.hid (show rorderB k F = true from allB_true hj.out)
      go_wp2_with fail
      go_ret
      exact ⟨ret_bool hfin.out.symm, rfl⟩
end Go.Proofs.Ytdagbepjhbmlfaa.L
