/- A chain is read back, and what is read is a chain; nothing of the program. -/
import Derived.WalkKit
import Derived.Test.YtnekiiahgidkoaaUntext
namespace Go.Proofs.Ytnekiiahgidkoaa.M
open Go.RowKit
set_option linter.unusedVariables false

theorem bt_append (a b : List UInt8) (j : Nat) (h : j < a.length) : bt (a ++ b) j = bt a j := by
  unfold bt
  rw [List.getD, List.getD, List.getElem?_append_left h]
theorem bt_get (l : List UInt8) (j : Nat) (x : UInt8) (h : l[j]? = some x) : bt l j = x.toNat := by
  unfold bt
  rw [List.getD, h, Option.getD_some]
theorem byte_toNat (x : Int) (h0 : 0 ≤ x) (h1 : x < 256) : ((UInt8.ofNat x.toNat).toNat : Int) = x := by
  rw [UInt8.toNat_ofNat']; omega

theorem val_mod (l : List UInt8) (v : Int) (k : Nat) (h0 : 0 ≤ v) (h : ∀ j, j < k → ((bt l j % 128 : Nat) : Int) = v / 128 ^ j % 128) : val l k = v % 128 ^ k := by
  induction k with
  | zero => simp [val, Int.emod_one]
  | succ k ih =>
    show val l k + _ = _
    rw [ih (fun j hj => h j (by omega)), h k (by omega)]
    have hp : (0 : Int) < 128 ^ k := Int.pow_pos (by omega)
    obtain ⟨n, rfl⟩ := Int.eq_ofNat_of_zero_le h0
    have := Nat.mod_pow_succ (b := 128) (x := n) (k := k)
    have e := congrArg (Nat.cast : Nat → Int) this
    simp only [Int.natCast_add, Int.natCast_mul, Int.natCast_emod, Int.natCast_pow, Int.natCast_ediv] at e
    rw [Int.mul_comm]
    exact e.symm

/-- What was written as a chain is read, whatever stands behind. -/
theorem unch_chain (v : Int) (h0 : 0 ≤ v) (h1 : v < 18446744073709551616) (more : List UInt8) :
    unch (chain v ++ more) = (v, ((chain v).length : Int), 0) := by
  have hl9 := lastOf_le v h0 h1
  have hhi := lastOf_hi v h0 h1
  have hlo := lastOf_lo v h0 h1
  rw [chain_lst v h0 h1]
  generalize hm : lastOf v = m at *
  have hlen := lst_length m v
  have hp : (0 : Int) < 128 ^ m := Int.pow_pos (by omega)
  have hq0 : 0 ≤ v / 128 ^ m := Int.ediv_nonneg h0 (by omega)
  have hq : v / 128 ^ m < 128 := by
    rw [Int.pow_succ, Int.mul_comm] at hhi
    exact Int.ediv_lt_of_lt_mul hp hhi
  have hb : ∀ j, j < m → (bt (lst m v ++ more) j : Int) = 128 + v / 128 ^ j % 128 := fun j hj => by
    rw [bt_append _ _ _ (by omega), bt_get _ _ _ (lst_get m j hj v), byte_toNat _ (by omega) (by omega)]
  have hbm : (bt (lst m v ++ more) m : Int) = v / 128 ^ m := by
    rw [bt_append _ _ _ (by omega), bt_get _ _ _ (lst_last m v), byte_toNat _ (by omega) (by omega)]
  have hval : val (lst m v ++ more) (m + 1) = v := by
    show val _ m + ((bt (lst m v ++ more) m % 128 : Nat) : Int) * 128 ^ m = v
    rw [val_mod _ v m h0 (fun j hj => by have := hb j hj; omega), show ((bt (lst m v ++ more) m % 128 : Nat) : Int) = v / 128 ^ m from by omega, Int.mul_comm]
    exact Int.emod_add_mul_ediv v (128 ^ m)
  have hs := unch_some (lst m v ++ more) m ?_ (by rw [List.length_append]; omega) (fun j hj => by have := hb j hj; omega) (by omega) ?_
  · rw [hs, hval, hlen]
  · by_cases e : m ≤ 8
    · exact .inl e
    · have e9 : m = 9 := by omega
      subst e9
      refine .inr ⟨rfl, ?_⟩
      have : v / 128 ^ 9 < 2 := Int.ediv_lt_of_lt_mul hp (by simpa using h1)
      omega
  · rcases hlo with h | h
    · exact .inl h
    · refine .inr ?_
      have : 1 ≤ v / 128 ^ m := Int.le_ediv_of_mul_le hp (by omega)
      omega

theorem val_rest (l : List UInt8) (j k : Nat) (h : j ≤ k) : ∃ r : Int, val l k = val l j + 128 ^ j * r := by
  induction k with
  | zero => obtain rfl : j = 0 := by omega
            exact ⟨0, by simp⟩
  | succ k ih =>
    by_cases e : j = k + 1
    · subst e; exact ⟨0, by simp⟩
    · obtain ⟨r, hr⟩ := ih (by omega)
      refine ⟨r + ((bt l k % 128 : Nat) : Int) * 128 ^ (k - j), ?_⟩
      show val l k + _ = _
      have e2 : (128 : Int) ^ k = 128 ^ j * 128 ^ (k - j) := by rw [← Int.pow_add, show j + (k - j) = k from by omega]
      rw [hr, Int.mul_add, e2, Int.add_assoc, Int.mul_left_comm]
theorem val_digit (l : List UInt8) (j k : Nat) (h : j < k) : val l k / 128 ^ j % 128 = ((bt l j % 128 : Nat) : Int) := by
  obtain ⟨r, hr⟩ := val_rest l (j + 1) k h
  have hp : (0 : Int) < 128 ^ j := Int.pow_pos (by omega)
  have h1 := val_lo l j
  have h2 := val_hi l j
  have e : val l k = val l j + 128 ^ j * (((bt l j % 128 : Nat) : Int) + 128 * r) := by
    rw [hr]
    show val l j + ((bt l j % 128 : Nat) : Int) * 128 ^ j + _ = _
    rw [Int.pow_succ, Int.mul_add, Int.mul_assoc, Int.mul_comm (128 ^ j) ((bt l j % 128 : Nat) : Int)]
    omega
  rw [e, Int.add_mul_ediv_left _ _ (by omega), Int.ediv_eq_zero_of_lt h1 h2]
  omega
theorem val_top (l : List UInt8) (k : Nat) : val l (k + 1) / 128 ^ k = ((bt l k % 128 : Nat) : Int) := by
  have hp : (0 : Int) < 128 ^ k := Int.pow_pos (by omega)
  have h1 := val_lo l k
  have h2 := val_hi l k
  show (val l k + ((bt l k % 128 : Nat) : Int) * 128 ^ k) / 128 ^ k = _
  rw [Int.add_mul_ediv_right _ _ (by omega), Int.ediv_eq_zero_of_lt h1 h2]
  omega

/-- What was read is the chain with which the bytes begin. -/
theorem chain_unch (l : List UInt8) (v n : Int) (h : unch l = (v, n, 0)) : chain v = l.take n.toNat := by
  have h1 := lead_le 10 l
  unfold unch at h
  by_cases c1 : lead 10 l = 10 ∨ (lead 10 l = 9 ∧ 9 < l.length ∧ 1 < bt l 9)
  · rw [if_pos c1] at h; simp at h
  · rw [if_neg c1] at h
    by_cases c2 : lead 10 l = l.length
    · rw [if_pos c2] at h; simp at h
    · rw [if_neg c2] at h
      by_cases c3 : 0 < lead 10 l ∧ bt l (lead 10 l) = 0
      · rw [if_pos c3] at h; simp at h
      · rw [if_neg c3] at h
        have hall := lead_all 10 l
        have hend := lead_end 10 l (by omega) (by omega)
        generalize lead 10 l = k at *
        simp only [Prod.mk.injEq, and_true] at h
        obtain ⟨rfl, rfl⟩ := h
        have hp : (0 : Int) < 128 ^ k := Int.pow_pos (by omega)
        have htop : k = 0 ∨ (128 : Int) ^ k ≤ val l (k + 1) := by
          by_cases e : k = 0
          · exact .inl e
          · refine .inr ?_
            have hv := val_lo l k
            have : (1 : Int) * 128 ^ k ≤ ((bt l k % 128 : Nat) : Int) * 128 ^ k := Int.mul_le_mul_of_nonneg_right (by omega) (by omega)
            show (128 : Int) ^ k ≤ val l k + _
            omega
        have e : chain (val l (k + 1)) = lst k (val l (k + 1)) := chF_lst k 9 _ (val_lo _ _) (val_hi _ _) htop (by omega)
        rw [e, Int.toNat_natCast]
        apply List.ext_getElem?
        intro j
        by_cases hj : j < k
        · rw [lst_get k j hj, val_digit l j (k + 1) (by omega), List.getElem?_take_of_lt (by omega), List.getElem?_eq_getElem (by omega)]
          have hb := hall j hj
          have hb2 : bt l j = l[j].toNat := bt_get l j l[j] (List.getElem?_eq_getElem (by omega))
          have hlt := l[j].toNat_lt
          congr 1
          apply UInt8.toNat_inj.1
          rw [UInt8.toNat_ofNat']
          omega
        · by_cases hj2 : j = k
          · subst hj2
            rw [lst_last, val_top, List.getElem?_take_of_lt (by omega), List.getElem?_eq_getElem (by omega)]
            have hb2 : bt l j = l[j].toNat := bt_get l j l[j] (List.getElem?_eq_getElem (by omega))
            have hlt := l[j].toNat_lt
            congr 1
            apply UInt8.toNat_inj.1
            rw [UInt8.toNat_ofNat']
            omega
          · rw [List.getElem?_eq_none (by rw [lst_length]; omega), List.getElem?_eq_none (by rw [List.length_take]; omega)]
end Go.Proofs.Ytnekiiahgidkoaa.M
