/- Chains; nothing of the program. -/
import Derived.WalkKit
import Derived.Test.YtkmlmondhmpkkaaText
import Derived.Lib.BitFns
namespace Go.Proofs.Ytkmlmondhmpkkaa.M
open Go.RowKit
set_option linter.unusedVariables false

/-- A chain by its definition, in k + 1 bytes at the most. -/
def chF : Nat → Int → List UInt8
  | 0, v => [UInt8.ofNat v.toNat]
  | k + 1, v => if v < 128 then [UInt8.ofNat v.toNat] else UInt8.ofNat (128 + v % 128).toNat :: chF k (v / 128)
def chain (v : Int) : List UInt8 := chF 9 v
/-- m bytes that go on, and a last one. -/
def lst : Nat → Int → List UInt8
  | 0, v => [UInt8.ofNat v.toNat]
  | m + 1, v => UInt8.ofNat (128 + v % 128).toNat :: lst m (v / 128)
/-- The index of the last byte of a chain. -/
def lastOf (v : Int) : Nat := (max 1 ((Lib.bitLen v.toNat + 6) / 7)) - 1

theorem bl_hi : ∀ (f x : Nat), x < 2 ^ f → x < 2 ^ (Lib.bitLenAux f x)
  | 0, x, h => by simpa [Lib.bitLenAux] using h
  | f + 1, x, h => by
    simp only [Lib.bitLenAux]
    split
    · rename_i hx; subst hx; exact Nat.two_pow_pos _
    · have := bl_hi f (x / 2) (by rw [Nat.pow_succ] at h; omega)
      rw [Nat.add_comm, Nat.pow_succ]; omega
theorem bl_lo : ∀ (f x : Nat), x < 2 ^ f → x ≠ 0 → 2 ^ (Lib.bitLenAux f x - 1) ≤ x
  | 0, x, h, h0 => by simp at h; omega
  | f + 1, x, h, h0 => by
    simp only [Lib.bitLenAux]
    rw [if_neg h0]
    by_cases h2 : x / 2 = 0
    · rw [h2]
      have : Lib.bitLenAux f 0 = 0 := by cases f <;> simp [Lib.bitLenAux]
      rw [this]; simp; omega
    · have := bl_lo f (x / 2) (by rw [Nat.pow_succ] at h; omega) h2
      have hp : 1 ≤ Lib.bitLenAux f (x / 2) := by
        have h3 := bl_hi f (x / 2) (by rw [Nat.pow_succ] at h; omega)
        cases hb : Lib.bitLenAux f (x / 2) with
        | zero => rw [hb] at h3; simp at h3; omega
        | succ n => omega
      rw [show 1 + Lib.bitLenAux f (x / 2) - 1 = (Lib.bitLenAux f (x / 2) - 1) + 1 from by omega, Nat.pow_succ]; omega

theorem bl_64 (x : Nat) (h : x < 18446744073709551616) : Lib.bitLen x ≤ 64 := Lib.bitLenAux_le 64 x 64 h

theorem lastOf_le (v : Int) (h0 : 0 ≤ v) (h1 : v < 18446744073709551616) : lastOf v ≤ 9 := by
  have := bl_64 v.toNat (by omega)
  unfold lastOf; omega
theorem lastOf_hi (v : Int) (h0 : 0 ≤ v) (h1 : v < 18446744073709551616) : v < 128 ^ (lastOf v + 1) := by
  have h := bl_hi 64 v.toNat (by omega)
  have hle : Lib.bitLen v.toNat ≤ 7 * (lastOf v + 1) := by unfold lastOf; omega
  have h2 : 2 ^ Lib.bitLen v.toNat ≤ 2 ^ (7 * (lastOf v + 1)) := Nat.pow_le_pow_right (by omega) hle
  have h3 : v.toNat < 2 ^ (7 * (lastOf v + 1)) := Nat.lt_of_lt_of_le h h2
  rw [Nat.pow_mul] at h3
  have h4 : ((v.toNat : Nat) : Int) < ((((2 ^ 7 : Nat) ^ (lastOf v + 1)) : Nat) : Int) := Int.ofNat_lt.2 h3
  rw [Int.natCast_pow, Int.toNat_of_nonneg h0] at h4
  exact h4
theorem lastOf_lo (v : Int) (h0 : 0 ≤ v) (h1 : v < 18446744073709551616) : lastOf v = 0 ∨ 128 ^ lastOf v ≤ v := by
  by_cases hz : lastOf v = 0
  · exact .inl hz
  · refine .inr ?_
    have hx : v.toNat ≠ 0 := by
      intro h; apply hz; unfold lastOf; rw [h]; rfl
    have h := bl_lo 64 v.toNat (by omega) hx
    have hle : 7 * lastOf v ≤ Lib.bitLen v.toNat - 1 := by unfold lastOf at *; omega
    have h2 : 2 ^ (7 * lastOf v) ≤ 2 ^ (Lib.bitLen v.toNat - 1) := Nat.pow_le_pow_right (by omega) hle
    have h3 : 2 ^ (7 * lastOf v) ≤ v.toNat := Nat.le_trans h2 h
    rw [Nat.pow_mul] at h3
    have h4 : ((((2 ^ 7 : Nat) ^ lastOf v) : Nat) : Int) ≤ ((v.toNat : Nat) : Int) := Int.ofNat_le.2 h3
    rw [Int.natCast_pow, Int.toNat_of_nonneg h0] at h4
    exact h4

theorem chF_lst : ∀ (m k : Nat) (v : Int), 0 ≤ v → v < 128 ^ (m + 1) → (m = 0 ∨ 128 ^ m ≤ v) → m ≤ k → chF k v = lst m v
  | 0, 0, v, _, _, _, _ => rfl
  | 0, k + 1, v, _, h1, _, _ => by unfold chF lst; rw [if_pos (by simpa using h1)]
  | m + 1, 0, v, _, _, _, hk => by omega
  | m + 1, k + 1, v, h0, h1, h2, hk => by
    have h2 : 128 ^ (m + 1) ≤ v := by rcases h2 with h | h; omega; exact h
    have hp : (0 : Int) < 128 ^ m := Int.pow_pos (by omega)
    have e : (128 : Int) ^ (m + 1) = 128 ^ m * 128 := Int.pow_succ ..
    have e2 : (128 : Int) ^ (m + 1 + 1) = 128 ^ (m + 1) * 128 := Int.pow_succ ..
    have hv : ¬ v < 128 := by
      have : (1 : Int) ≤ 128 ^ m := hp
      omega
    show (if v < 128 then _ else _) = _
    rw [if_neg hv]
    show _ :: chF k (v / 128) = _ :: lst m (v / 128)
    rw [chF_lst m k (v / 128) (by omega) (by omega) (.inr (by omega)) (by omega)]
theorem chain_lst (v : Int) (h0 : 0 ≤ v) (h1 : v < 18446744073709551616) : chain v = lst (lastOf v) v :=
  chF_lst _ 9 v h0 (lastOf_hi v h0 h1) (lastOf_lo v h0 h1) (lastOf_le v h0 h1)
theorem lst_length (m : Nat) : ∀ v, (lst m v).length = m + 1 := by
  induction m with
  | zero => intro v; rfl
  | succ m ih => intro v; simp [lst, ih]
theorem lst_get (m j : Nat) (hj : j < m) : ∀ v, (lst m v)[j]? = some (UInt8.ofNat (128 + v / 128 ^ j % 128).toNat) := by
  induction m generalizing j with
  | zero => omega
  | succ m ih =>
    intro v
    unfold lst
    cases j with
    | zero => simp
    | succ j =>
      rw [List.getElem?_cons_succ, ih j (by omega), Int.ediv_ediv_of_nonneg (by omega), Int.pow_succ, Int.mul_comm]
theorem lst_last (m : Nat) : ∀ v, (lst m v)[m]? = some (UInt8.ofNat (v / 128 ^ m).toNat) := by
  induction m with
  | zero => intro v; simp [lst]
  | succ m ih =>
    intro v
    unfold lst
    rw [List.getElem?_cons_succ, ih, Int.ediv_ediv_of_nonneg (by omega), Int.pow_succ, Int.mul_comm]

/-- Ten bytes, of which the first k have been laid. -/
def layC (a : Int) : Nat → Array Value
  | 0 => #[.int .u8 0, .int .u8 0, .int .u8 0, .int .u8 0, .int .u8 0, .int .u8 0, .int .u8 0, .int .u8 0, .int .u8 0, .int .u8 0]
  | k + 1 => (layC a k).setIfInBounds k (.int .u8 (128 + a / 128 ^ k % 128))
theorem layC_size (a : Int) (k : Nat) : (layC a k).size = 10 := by
  induction k with
  | zero => rfl
  | succ k ih => simp [layC, ih]
theorem layC_get (a : Int) (k j : Nat) (hk : k ≤ 10) (hj : j < k) : (layC a k)[j]? = some (.int .u8 (128 + a / 128 ^ j % 128)) := by
  induction k with
  | zero => omega
  | succ k ih =>
    unfold layC
    by_cases e : j = k
    · subst e
      rw [Array.getElem?_setIfInBounds_self_of_lt (by rw [layC_size]; omega)]
    · rw [Array.getElem?_setIfInBounds_ne (by omega)]
      exact ih (by omega) (by omega)

theorem or128 : ∀ x : Fin 256, x.val ||| 128 = 128 + x.val % 128 := by decide +kernel
theorem or_more (v : Int) : bits BinOp.or IntKind.u8 (v % 256) 128 = 128 + v % 128 := by
  have h := or128 ⟨(v % 256).toNat, by omega⟩
  rw [u8_or _ _ (by omega) (by omega) (by omega) (by omega)]
  show (((v % 256).toNat ||| 128 : Nat) : Int) = _
  rw [show (v % 256).toNat ||| 128 = 128 + (v % 256).toNat % 128 from h]
  omega
theorem div128_le (a : Int) (k : Nat) (h0 : 0 ≤ a) : 0 ≤ a / 128 ^ k ∧ a / 128 ^ k ≤ a := by
  have hp : (0 : Int) < 128 ^ k := Int.pow_pos (by omega)
  exact ⟨Int.ediv_nonneg h0 (by omega), Int.ediv_le_self _ h0⟩
theorem div128_more (a : Int) (k : Nat) : a / 128 ^ k / 128 = a / 128 ^ (k + 1) := by
  rw [Int.ediv_ediv_of_nonneg (Int.le_of_lt (Int.pow_pos (by omega))), ← Int.pow_succ]
theorem chF_length : ∀ (k : Nat) (v : Int), 1 ≤ (chF k v).length ∧ (chF k v).length ≤ k + 1
  | 0, v => by simp [chF]
  | k + 1, v => by
    unfold chF
    split
    · simp
    · have := chF_length k (v / 128); simp; omega
theorem chF_size (k : Nat) (v : Int) : (B (chF k v)).size ≤ k + 1 := by rw [B_size]; exact (chF_length k v).2
end Go.Proofs.Ytkmlmondhmpkkaa.M
