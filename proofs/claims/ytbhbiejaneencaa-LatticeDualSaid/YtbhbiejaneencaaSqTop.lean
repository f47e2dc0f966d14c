/- The definition's top of a lattice; lists held against one another; whether a number is one of some. -/
import Derived.Test.YtbhbiejaneencaaProg
import Derived.Test.YtbhbiejaneencaaLatFacts
import Derived.Test.YtbhbiejaneencaaEnds
namespace Go.Proofs.Ytbhbiejaneencaa.L
open Go.RowKit
set_option linter.unusedVariables false

theorem endI_of {n c : Nat} {R : Nat → Nat → Bool} (h : findB n (fun a => allB n (R a)) = some c) : endI n R = c := by unfold endI endN; rw [h]
theorem rtop_any (bk off n cap : Nat) (F : Nat → Nat → Bool) (w : World) (h : Sq w bk off n F) (hl : IsLat n F) (h0 : 0 < n) :
    Calls Try.prog 35 #[.slice (some ⟨bk, off, none⟩) n cap] w fun e w' => e = .returned (.int .i64 (endI n (turn F))) ∧ w = w' := by
  have hs := h.small
  go_enter Try.func35, Try.ntmps35
  go_wp2_with fail
  go_loopg [3, 7] n (fun g v i wr => ∃ k c : Nat, k ≤ n ∧ n ≤ k + g ∧ i = .int .i64 k ∧ v = .int .i64 c ∧ c < n ∧ Hid (∀ j, j < k → F j c = true) ∧ w = wr)
  case atStart => exact ⟨0, 0, by omega, by omega, rfl, rfl, h0, fun j hj => by omega, rfl⟩
  case round =>
    obtain ⟨k, c, hk, hg, rfl, rfl, hc, hj, rfl⟩ := hrel
    by_cases hlt : k < n
    · obtain ⟨j1, j2, j3, j4⟩ := J_spec hl hc hlt
      have hj2 : Hid (∀ j, j < k + 1 → F j (J n F c k) = true) := fun j hj' => by
        rcases Nat.lt_or_ge j k with h1 | h1
        · exact hl.trans j c _ (by omega) hc j1 (hj.out j h1) j2
        · obtain rfl : j = k := by omega
          exact j3
      clear j2 j3 j4
      have he := Lib.hid (joinI_J hl hc hlt)
      go_wp2_with fail
      refine (rjoin_any bk off n cap F _ c k h hc hlt).mono ?_
      rintro e w1 ⟨rfl, rfl⟩
      rw [he.out]
      go_wp2_with fail
      go_roundg (gk - 1)
      case measure => omega
      case rel => exact ⟨k + 1, J n F c k, by omega, by omega, by go_num, rfl, j1, hj2, rfl⟩
    · obtain rfl : k = n := by omega
      have hfin := Lib.hid (endI_of (end_unique hl hc hj.out))
      go_wp2_with fail
      go_ret
      exact ⟨ret_i64 hfin.out.symm, rfl⟩

theorem ints_any (A1 A2 : Option Addr) (c1 c2 : Nat) (xs : List Nat) (w : World) (h1 : Ints w A1 xs) (h2 : Ints w A2 xs) (hl : xs.length ≤ 6) :
    Calls Try.prog 43 #[.slice A1 xs.length c1, .slice A2 xs.length c2] w fun e w' => e = .returned (.bool true) ∧ ∃ n, w' = w.drewN n := by
  obtain ⟨len, hlen⟩ : ∃ len, Hid (xs.length = len) := ⟨_, Lib.hid rfl⟩
  rw [hlen.out] at hl ⊢
  have k1 := Lib.hid (show ∀ k, k < len → ∃ b o, A1 = some ⟨b, o, none⟩ ∧ w.cell? ⟨b, o + k, none⟩ = some (.int .i64 (xs.getD k 0 : Nat)) from fun k hk => h1.at_ k (by rw [hlen.out]; exact hk))
  have k2 := Lib.hid (show ∀ k, k < len → ∃ b o, A2 = some ⟨b, o, none⟩ ∧ w.cell? ⟨b, o + k, none⟩ = some (.int .i64 (xs.getD k 0 : Nat)) from fun k hk => h2.at_ k (by rw [hlen.out]; exact hk))
  clear h1 h2
  go_enter Try.func43, Try.ntmps43
  go_wp2_with fail
  go_loopg [13] len (fun g i wr => ∃ k m : Nat, k ≤ len ∧ len ≤ k + g ∧ i = .int .i64 k ∧ wr = w.drewN m)
  case atStart => exact ⟨0, 0, by omega, by omega, rfl, rfl⟩
  case round =>
    obtain ⟨k, m, hk, hg, rfl, rfl⟩ := hrel
    by_cases hlt : k < len
    · obtain ⟨b1, o1, rfl, f1⟩ := k1.out k hlt
      obtain ⟨b2, o2, rfl, f2⟩ := k2.out k hlt
      obtain ⟨x, hx⟩ : ∃ x, Hid (xs.getD k 0 = x) := ⟨_, Lib.hid rfl⟩
      rw [hx.out] at f1 f2
      have hk0 : (0 : Int) ≤ (k : Int) := by omega
      have hk1 : (k : Int) < (len : Int) := by omega
      go_wp2_with fail
      go_quiet (fail)
      go_wp2_with fail
      go_roundg (gk - 1)
      case measure => omega
      case rel => exact ⟨k + 1, _, by omega, by omega, by go_num, rfl⟩
    · obtain rfl : k = len := by omega
      go_wp2_with fail
      go_ret
      exact ⟨rfl, m, rfl⟩

theorem in_any (A1 : Option Addr) (c1 b : Nat) (xs : List Nat) (w : World) (h1 : Ints w A1 xs) (hl : xs.length ≤ 6) (hb : b < 6) (hx6 : ∀ x ∈ xs, x < 6) :
    Calls Try.prog 48 #[.slice A1 xs.length c1, .int .i64 b] w fun e w' => e = .returned (.bool (xs.contains b)) ∧ w = w' := by
  obtain ⟨len, hlen⟩ : ∃ len, Hid (xs.length = len) := ⟨_, Lib.hid rfl⟩
  rw [hlen.out] at hl ⊢
  have k1 := Lib.hid (show ∀ k, k < len → ∃ b o, A1 = some ⟨b, o, none⟩ ∧ w.cell? ⟨b, o + k, none⟩ = some (.int .i64 (xs.getD k 0 : Nat)) from fun k hk => h1.at_ k (by rw [hlen.out]; exact hk))
  replace hx6 := Lib.hid hx6
  clear h1
  go_enter Try.func48, Try.ntmps48
  go_wp2_with fail
  go_loopg [9] len (fun g i wr => ∃ k : Nat, k ≤ len ∧ len ≤ k + g ∧ i = .int .i64 k ∧ Hid (∀ j, j < k → xs.getD j 0 ≠ b) ∧ w = wr)
  case atStart => exact ⟨0, by omega, by omega, rfl, fun j hj => by omega, rfl⟩
  case round =>
    obtain ⟨k, hk, hg, rfl, hj, rfl⟩ := hrel
    by_cases hlt : k < len
    · obtain ⟨b1, o1, rfl, f1⟩ := k1.out k hlt
      have hmem : xs.getD k 0 ∈ xs := by
        have : k < xs.length := by rw [hlen.out]; exact hlt
        rw [List.getD, List.getElem?_eq_getElem this]; exact List.getElem_mem _
      have hx := hx6.out _ hmem
      obtain ⟨x, hxx⟩ : ∃ x, Hid (xs.getD k 0 = x) := ⟨_, Lib.hid rfl⟩
      rw [hxx.out] at f1 hx hmem
      by_cases he : x = b
      · have hd : ((x : Int) == (b : Int)) = true := by rw [beq_iff_eq]; omega
        have hfin := Lib.hid (show xs.contains b = true by rw [← he]; simpa using hmem)
        clear hmem he
        go_wp2_with fail
        go_ret
        exact ⟨ret_bool hfin.out.symm, rfl⟩
      · have hd : ((x : Int) == (b : Int)) = false := by rw [beq_eq_false_iff_ne]; omega
        have hj2 : Hid (∀ j, j < k + 1 → xs.getD j 0 ≠ b) := fun j hj' => by
          rcases Nat.lt_or_ge j k with h1 | h1
          · exact hj.out j h1
          · obtain rfl : j = k := by omega
            rw [hxx.out]; exact he
        clear hmem he
        go_wp2_with fail
        go_roundg (gk - 1)
        case measure => omega
        case rel => exact ⟨k + 1, by omega, by omega, by go_num, hj2, rfl⟩
    · obtain rfl : k = len := by omega
      have hfin := Lib.hid (show xs.contains b = false by
        rw [Bool.eq_false_iff]
        intro hc
        have hc : b ∈ xs := by simpa using hc
        obtain ⟨i, hi, he⟩ := List.mem_iff_getElem.1 hc
        exact hj.out i (by rw [← hlen.out]; exact hi) (by rw [List.getD, List.getElem?_eq_getElem hi]; exact he))
      go_wp2_with fail
      go_ret
      exact ⟨ret_bool hfin.out.symm, rfl⟩
end Go.Proofs.Ytbhbiejaneencaa.L
