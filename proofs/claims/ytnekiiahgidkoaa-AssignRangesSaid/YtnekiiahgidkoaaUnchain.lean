/- Chains; nothing of the program. Reading chains; nothing of the program. -/
import Derived.WalkKit
import Derived.Test.YtnekiiahgidkoaaText
import Derived.Lib.BitFns
section
namespace Go.Proofs.Ytnekiiahgidkoaa.M
open Go.RowKit
set_option linter.unusedVariables false

/-- A chain by its definition, in k + 1 bytes at the most. -/
def chF : Nat → Int → List UInt8
  | 0, v => [UInt8.ofNat v.toNat]
  | k + 1, v => if v < 128 then [UInt8.ofNat v.toNat] else UInt8.ofNat (128 + v % 128).toNat :: chF k (v / 128)
def chain (v : Int) : List UInt8 := chF 9 v
/-- m bytes that go on, and a last one. -/
def lst : Nat → Int → List UInt8
  | 0, v => [UInt8.ofNat v.toNat]
  | m + 1, v => UInt8.ofNat (128 + v % 128).toNat :: lst m (v / 128)
/-- The index of the last byte of a chain. -/
def lastOf (v : Int) : Nat := (max 1 ((Lib.bitLen v.toNat + 6) / 7)) - 1

theorem bl_hi : ∀ (f x : Nat), x < 2 ^ f → x < 2 ^ (Lib.bitLenAux f x)
  | 0, x, h => by simpa [Lib.bitLenAux] using h
  | f + 1, x, h => by
    simp only [Lib.bitLenAux]
    split
    · rename_i hx; subst hx; exact Nat.two_pow_pos _
    · have := bl_hi f (x / 2) (by rw [Nat.pow_succ] at h; omega)
      rw [Nat.add_comm, Nat.pow_succ]; omega
theorem bl_lo : ∀ (f x : Nat), x < 2 ^ f → x ≠ 0 → 2 ^ (Lib.bitLenAux f x - 1) ≤ x
  | 0, x, h, h0 => by simp at h; omega
  | f + 1, x, h, h0 => by
    simp only [Lib.bitLenAux]
    rw [if_neg h0]
    by_cases h2 : x / 2 = 0
    · rw [h2]
      have : Lib.bitLenAux f 0 = 0 := by cases f <;> simp [Lib.bitLenAux]
      rw [this]; simp; omega
    · have := bl_lo f (x / 2) (by rw [Nat.pow_succ] at h; omega) h2
      have hp : 1 ≤ Lib.bitLenAux f (x / 2) := by
        have h3 := bl_hi f (x / 2) (by rw [Nat.pow_succ] at h; omega)
        cases hb : Lib.bitLenAux f (x / 2) with
        | zero => rw [hb] at h3; simp at h3; omega
        | succ n => omega
      rw [show 1 + Lib.bitLenAux f (x / 2) - 1 = (Lib.bitLenAux f (x / 2) - 1) + 1 from by omega, Nat.pow_succ]; omega

theorem bl_64 (x : Nat) (h : x < 18446744073709551616) : Lib.bitLen x ≤ 64 := Lib.bitLenAux_le 64 x 64 h

theorem lastOf_le (v : Int) (h0 : 0 ≤ v) (h1 : v < 18446744073709551616) : lastOf v ≤ 9 := by
  have := bl_64 v.toNat (by omega)
  unfold lastOf; omega
theorem lastOf_hi (v : Int) (h0 : 0 ≤ v) (h1 : v < 18446744073709551616) : v < 128 ^ (lastOf v + 1) := by
  have h := bl_hi 64 v.toNat (by omega)
  have hle : Lib.bitLen v.toNat ≤ 7 * (lastOf v + 1) := by unfold lastOf; omega
  have h2 : 2 ^ Lib.bitLen v.toNat ≤ 2 ^ (7 * (lastOf v + 1)) := Nat.pow_le_pow_right (by omega) hle
  have h3 : v.toNat < 2 ^ (7 * (lastOf v + 1)) := Nat.lt_of_lt_of_le h h2
  rw [Nat.pow_mul] at h3
  have h4 : ((v.toNat : Nat) : Int) < ((((2 ^ 7 : Nat) ^ (lastOf v + 1)) : Nat) : Int) := Int.ofNat_lt.2 h3
  rw [Int.natCast_pow, Int.toNat_of_nonneg h0] at h4
  exact h4
theorem lastOf_lo (v : Int) (h0 : 0 ≤ v) (h1 : v < 18446744073709551616) : lastOf v = 0 ∨ 128 ^ lastOf v ≤ v := by
  by_cases hz : lastOf v = 0
  · exact .inl hz
  · refine .inr ?_
    have hx : v.toNat ≠ 0 := by
      intro h; apply hz; unfold lastOf; rw [h]; rfl
    have h := bl_lo 64 v.toNat (by omega) hx
    have hle : 7 * lastOf v ≤ Lib.bitLen v.toNat - 1 := by unfold lastOf at *; omega
    have h2 : 2 ^ (7 * lastOf v) ≤ 2 ^ (Lib.bitLen v.toNat - 1) := Nat.pow_le_pow_right (by omega) hle
    have h3 : 2 ^ (7 * lastOf v) ≤ v.toNat := Nat.le_trans h2 h
    rw [Nat.pow_mul] at h3
    have h4 : ((((2 ^ 7 : Nat) ^ lastOf v) : Nat) : Int) ≤ ((v.toNat : Nat) : Int) := Int.ofNat_le.2 h3
    rw [Int.natCast_pow, Int.toNat_of_nonneg h0] at h4
    exact h4

theorem chF_lst : ∀ (m k : Nat) (v : Int), 0 ≤ v → v < 128 ^ (m + 1) → (m = 0 ∨ 128 ^ m ≤ v) → m ≤ k → chF k v = lst m v
  | 0, 0, v, _, _, _, _ => rfl
  | 0, k + 1, v, _, h1, _, _ => by unfold chF lst; rw [if_pos (by simpa using h1)]
  | m + 1, 0, v, _, _, _, hk => by omega
  | m + 1, k + 1, v, h0, h1, h2, hk => by
    have h2 : 128 ^ (m + 1) ≤ v := by rcases h2 with h | h; omega; exact h
    have hp : (0 : Int) < 128 ^ m := Int.pow_pos (by omega)
    have e : (128 : Int) ^ (m + 1) = 128 ^ m * 128 := Int.pow_succ ..
    have e2 : (128 : Int) ^ (m + 1 + 1) = 128 ^ (m + 1) * 128 := Int.pow_succ ..
    have hv : ¬ v < 128 := by
      have : (1 : Int) ≤ 128 ^ m := hp
      omega
    show (if v < 128 then _ else _) = _
    rw [if_neg hv]
    show _ :: chF k (v / 128) = _ :: lst m (v / 128)
    rw [chF_lst m k (v / 128) (by omega) (by omega) (.inr (by omega)) (by omega)]
theorem chain_lst (v : Int) (h0 : 0 ≤ v) (h1 : v < 18446744073709551616) : chain v = lst (lastOf v) v :=
  chF_lst _ 9 v h0 (lastOf_hi v h0 h1) (lastOf_lo v h0 h1) (lastOf_le v h0 h1)
theorem lst_length (m : Nat) : ∀ v, (lst m v).length = m + 1 := by
  induction m with
  | zero => intro v; rfl
  | succ m ih => intro v; simp [lst, ih]
theorem lst_get (m j : Nat) (hj : j < m) : ∀ v, (lst m v)[j]? = some (UInt8.ofNat (128 + v / 128 ^ j % 128).toNat) := by
  induction m generalizing j with
  | zero => omega
  | succ m ih =>
    intro v
    unfold lst
    cases j with
    | zero => simp
    | succ j =>
      rw [List.getElem?_cons_succ, ih j (by omega), Int.ediv_ediv_of_nonneg (by omega), Int.pow_succ, Int.mul_comm]
theorem lst_last (m : Nat) : ∀ v, (lst m v)[m]? = some (UInt8.ofNat (v / 128 ^ m).toNat) := by
  induction m with
  | zero => intro v; simp [lst]
  | succ m ih =>
    intro v
    unfold lst
    rw [List.getElem?_cons_succ, ih, Int.ediv_ediv_of_nonneg (by omega), Int.pow_succ, Int.mul_comm]

/-- Ten bytes, of which the first k have been laid. -/
def layC (a : Int) : Nat → Array Value
  | 0 => #[.int .u8 0, .int .u8 0, .int .u8 0, .int .u8 0, .int .u8 0, .int .u8 0, .int .u8 0, .int .u8 0, .int .u8 0, .int .u8 0]
  | k + 1 => (layC a k).setIfInBounds k (.int .u8 (128 + a / 128 ^ k % 128))
theorem layC_size (a : Int) (k : Nat) : (layC a k).size = 10 := by
  induction k with
  | zero => rfl
  | succ k ih => simp [layC, ih]
theorem layC_get (a : Int) (k j : Nat) (hk : k ≤ 10) (hj : j < k) : (layC a k)[j]? = some (.int .u8 (128 + a / 128 ^ j % 128)) := by
  induction k with
  | zero => omega
  | succ k ih =>
    unfold layC
    by_cases e : j = k
    · subst e
      rw [Array.getElem?_setIfInBounds_self_of_lt (by rw [layC_size]; omega)]
    · rw [Array.getElem?_setIfInBounds_ne (by omega)]
      exact ih (by omega) (by omega)

theorem or128 : ∀ x : Fin 256, x.val ||| 128 = 128 + x.val % 128 := by decide +kernel
theorem or_more (v : Int) : bits BinOp.or IntKind.u8 (v % 256) 128 = 128 + v % 128 := by
  have h := or128 ⟨(v % 256).toNat, by omega⟩
  rw [u8_or _ _ (by omega) (by omega) (by omega) (by omega)]
  show (((v % 256).toNat ||| 128 : Nat) : Int) = _
  rw [show (v % 256).toNat ||| 128 = 128 + (v % 256).toNat % 128 from h]
  omega
theorem div128_le (a : Int) (k : Nat) (h0 : 0 ≤ a) : 0 ≤ a / 128 ^ k ∧ a / 128 ^ k ≤ a := by
  have hp : (0 : Int) < 128 ^ k := Int.pow_pos (by omega)
  exact ⟨Int.ediv_nonneg h0 (by omega), Int.ediv_le_self _ h0⟩
theorem div128_more (a : Int) (k : Nat) : a / 128 ^ k / 128 = a / 128 ^ (k + 1) := by
  rw [Int.ediv_ediv_of_nonneg (Int.le_of_lt (Int.pow_pos (by omega))), ← Int.pow_succ]
theorem chF_length : ∀ (k : Nat) (v : Int), 1 ≤ (chF k v).length ∧ (chF k v).length ≤ k + 1
  | 0, v => by simp [chF]
  | k + 1, v => by
    unfold chF
    split
    · simp
    · have := chF_length k (v / 128); simp; omega
theorem chF_size (k : Nat) (v : Int) : (B (chF k v)).size ≤ k + 1 := by rw [B_size]; exact (chF_length k v).2
end Go.Proofs.Ytnekiiahgidkoaa.M
end
section
namespace Go.Proofs.Ytnekiiahgidkoaa.M
open Go.RowKit
set_option linter.unusedVariables false

/-- Byte k, or 0 behind the end. -/
def bt (l : List UInt8) (k : Nat) : Nat := (l.getD k 0).toNat
/-- How many of the first f bytes go on, one behind the other. -/
def lead : Nat → List UInt8 → Nat
  | 0, _ => 0
  | _ + 1, [] => 0
  | f + 1, b :: l => if 128 ≤ b.toNat then lead f l + 1 else 0
/-- The number of the first k bytes' low seven bits. -/
def val (l : List UInt8) : Nat → Int
  | 0 => 0
  | k + 1 => val l k + (bt l k % 128 : Nat) * 128 ^ k
/-- What Unchain tells: the number, how many bytes, the error. -/
def unch (l : List UInt8) : Int × Int × Int :=
  if lead 10 l = 10 ∨ (lead 10 l = 9 ∧ 9 < l.length ∧ 1 < bt l 9) then (0, 0, 4)
  else if lead 10 l = l.length then (0, 0, 3)
  else if 0 < lead 10 l ∧ bt l (lead 10 l) = 0 then (0, 0, 4)
  else (val l (lead 10 l + 1), ((lead 10 l + 1 : Nat) : Int), 0)

theorem lead_le (f : Nat) : ∀ l : List UInt8, lead f l ≤ f ∧ lead f l ≤ l.length := by
  induction f with
  | zero => intro l; simp [lead]
  | succ f ih =>
    intro l
    cases l with
    | nil => simp [lead]
    | cons b l =>
      have := ih l
      unfold lead
      split
      · simp; omega
      · simp
theorem bt_cons (b : UInt8) (l : List UInt8) (k : Nat) : bt (b :: l) (k + 1) = bt l k := by simp [bt]
theorem bt_zero (b : UInt8) (l : List UInt8) : bt (b :: l) 0 = b.toNat := by simp [bt]
theorem bt_lt (l : List UInt8) (k : Nat) : bt l k < 256 := (l.getD k 0).toNat_lt
theorem bt_out (l : List UInt8) (k : Nat) (h : l.length ≤ k) : bt l k = 0 := by simp [bt, List.getD, List.getElem?_eq_none h]
theorem bt_of (s : ByteArray) (k : Nat) (h : k < s.size) : s[k].toNat = bt s.data.toList k := by
  have h' : k < s.data.toList.length := by simpa using h
  unfold bt
  rw [List.getD, List.getElem?_eq_getElem h', Option.getD_some]
  rfl
theorem lead_all (f : Nat) : ∀ (l : List UInt8) (j : Nat), j < lead f l → 128 ≤ bt l j := by
  induction f with
  | zero => intro l j h; simp [lead] at h
  | succ f ih =>
    intro l j h
    cases l with
    | nil => simp [lead] at h
    | cons b l =>
      unfold lead at h
      split at h
      · cases j with
        | zero => rw [bt_zero]; assumption
        | succ j => rw [bt_cons]; exact ih l j (by omega)
      · omega
theorem lead_end (f : Nat) : ∀ (l : List UInt8), lead f l < f → lead f l < l.length → bt l (lead f l) < 128 := by
  induction f with
  | zero => intro l h; omega
  | succ f ih =>
    intro l h h2
    cases l with
    | nil => simp at h2
    | cons b l =>
      by_cases hb : 128 ≤ b.toNat
      · have e : lead (f + 1) (b :: l) = lead f l + 1 := by simp [lead, hb]
        rw [e] at h h2 ⊢
        rw [bt_cons]
        exact ih l (by omega) (by simpa using h2)
      · have e : lead (f + 1) (b :: l) = 0 := by simp [lead, hb]
        rw [e, bt_zero]; omega
/-- If the first k go on, and the next one does not, or there is none, k is the number. -/
theorem lead_is (f : Nat) (l : List UInt8) (k : Nat) (hk : k ≤ f) (h : ∀ j, j < k → 128 ≤ bt l j) (he : k = f ∨ bt l k < 128) (hl : k ≤ l.length) : lead f l = k := by
  have h1 := lead_le f l
  rcases Nat.lt_trichotomy (lead f l) k with c | c | c
  · have := lead_end f l (by omega) (by omega)
    have := h _ c
    omega
  · exact c
  · rcases he with he | he
    · omega
    · have := lead_all f l k c
      omega

theorem val_lo (l : List UInt8) (k : Nat) : 0 ≤ val l k := by
  induction k with
  | zero => simp [val]
  | succ k ih =>
    unfold val
    have hp : (0 : Int) < 128 ^ k := Int.pow_pos (by omega)
    have : 0 ≤ ((bt l k % 128 : Nat) : Int) * 128 ^ k := Int.mul_nonneg (by omega) (by omega)
    omega
theorem val_hi (l : List UInt8) (k : Nat) : val l k < 128 ^ k := by
  induction k with
  | zero => simp [val]
  | succ k ih =>
    unfold val
    rw [Int.pow_succ]
    have hp : (0 : Int) < 128 ^ k := Int.pow_pos (by omega)
    have : ((bt l k % 128 : Nat) : Int) * 128 ^ k ≤ 127 * 128 ^ k := Int.mul_le_mul_of_nonneg_right (by omega) (by omega)
    omega
theorem val_mono (l : List UInt8) (j k : Nat) (h : j ≤ k) : val l j ≤ val l k := by
  induction k with
  | zero => obtain rfl : j = 0 := by omega
            exact Int.le_refl _
  | succ k ih =>
    by_cases e : j = k + 1
    · subst e; exact Int.le_refl _
    · have := ih (by omega)
      have hp : (0 : Int) < 128 ^ k := Int.pow_pos (by omega)
      have h2 : 0 ≤ ((bt l k % 128 : Nat) : Int) * 128 ^ k := Int.mul_nonneg (by omega) (by omega)
      show _ ≤ val l k + _
      omega
theorem val_64 (l : List UInt8) (k : Nat) (hk : k ≤ 9 ∨ (k = 10 ∧ bt l 9 ≤ 1)) : val l k < 18446744073709551616 := by
  rcases hk with hk | ⟨rfl, h9⟩
  · have h1 := val_mono l k 9 hk
    have h2 := val_hi l 9
    simp only [show (128 : Int) ^ 9 = 9223372036854775808 from rfl] at h2
    omega
  · have h2 := val_hi l 9
    simp only [show (128 : Int) ^ 9 = 9223372036854775808 from rfl] at h2
    show val l 9 + ((bt l 9 % 128 : Nat) : Int) * 128 ^ 9 < _
    simp only [show (128 : Int) ^ 9 = 9223372036854775808 from rfl]
    omega

theorem and_low7 (b : Nat) (h : b < 256) : bits BinOp.andNot IntKind.u8 (b : Int) 128 = ((b % 128 : Nat) : Int) := by
  rw [show (128 : Int) = ((128 : Nat) : Int) from rfl, u8_andNot_nat _ _ h (by omega)]
  show ((b &&& 127 : Nat) : Int) = _
  rw [nat_mask7]
theorem or_step (v x : Int) (k : Nat) (hv0 : 0 ≤ v) (hv : v < 128 ^ k) (hx0 : 0 ≤ x) (hx : x < 128) (hk : k ≤ 8 ∨ (k = 9 ∧ x ≤ 1)) :
    bits BinOp.or IntKind.u64 v (IntKind.u64.wrap (x * 2 ^ (7 * k))) = v + x * 128 ^ k := by
  have hpow : (2 : Int) ^ (7 * k) = 128 ^ k := by rw [Int.pow_mul]; rfl
  have hp : (0 : Int) < 128 ^ k := Int.pow_pos (by omega)
  have hb : x * 128 ^ k < 18446744073709551616 ∧ (128 : Int) ^ k ≤ 9223372036854775808 := by
    rcases hk with hk | ⟨rfl, h1⟩
    · have h2 := Nat.pow_le_pow_right (n := 128) (by omega) hk
      have h3 : ((128 ^ k : Nat) : Int) ≤ ((128 ^ 8 : Nat) : Int) := Int.ofNat_le.2 h2
      rw [Int.natCast_pow, Int.natCast_pow] at h3
      have h4 : (128 : Int) ^ k ≤ 72057594037927936 := h3
      have h5 : x * 128 ^ k ≤ 127 * 128 ^ k := Int.mul_le_mul_of_nonneg_right (by omega) (by omega)
      omega
    · simp only [show (128 : Int) ^ 9 = 9223372036854775808 from rfl]; omega
  have h0 : 0 ≤ x * 128 ^ k := Int.mul_nonneg hx0 (by omega)
  rw [hpow, wrap_low _ h0 hb.1]
  obtain ⟨vn, rfl⟩ := Int.eq_ofNat_of_zero_le hv0
  obtain ⟨xn, rfl⟩ := Int.eq_ofNat_of_zero_le hx0
  have e : ((xn : Int) * 128 ^ k) = ((xn * 128 ^ k : Nat) : Int) := by rw [Int.natCast_mul, Int.natCast_pow]; rfl
  have e2 : ((128 : Int) ^ k) = ((128 ^ k : Nat) : Int) := by rw [Int.natCast_pow]; rfl
  rw [e] at hb ⊢
  rw [e2] at hv hb
  have e7 : (128 : Nat) ^ k = 2 ^ (7 * k) := by rw [Nat.pow_mul]
  rw [u64_or_nat _ _ (by omega) (by omega), Nat.or_comm, nat_join (7 * k) (xn * 128 ^ k) vn (by rw [e7]; exact Nat.mul_mod_left _ _) (by rw [← e7]; omega)]
  omega

theorem unch_short (l : List UInt8) (k : Nat) (hk : k ≤ 9) (hl : l.length = k) (h : ∀ j, j < k → 128 ≤ bt l j) : unch l = (0, 0, 3) := by
  have e : lead 10 l = k := lead_is 10 l k (by omega) h (.inr (by rw [bt_out l k (by omega)]; omega)) (by omega)
  unfold unch
  rw [e, if_neg (by omega), if_pos (by omega)]
theorem unch_ten (l : List UInt8) (k : Nat) (hk : k = 9) (h : ∀ j, j < k → 128 ≤ bt l j) (hl : k < l.length) (h9 : 1 < bt l k) : unch l = (0, 0, 4) := by
  subst hk
  unfold unch
  by_cases h10 : 128 ≤ bt l 9
  · have e : lead 10 l = 10 := lead_is 10 l 10 (by omega) (fun j hj => by by_cases e : j = 9; subst e; exact h10; exact h j (by omega)) (.inl rfl) (by omega)
    rw [e, if_pos (.inl rfl)]
  · have e : lead 10 l = 9 := lead_is 10 l 9 (by omega) h (.inr (by omega)) (by omega)
    rw [e, if_pos (.inr ⟨rfl, hl, h9⟩)]
theorem unch_zero (l : List UInt8) (k : Nat) (hk : k ≤ 9) (h0 : 0 < k) (hl : k < l.length) (h : ∀ j, j < k → 128 ≤ bt l j) (hb : bt l k = 0) : unch l = (0, 0, 4) := by
  have e : lead 10 l = k := lead_is 10 l k (by omega) h (.inr (by omega)) (by omega)
  unfold unch
  rw [e]
  by_cases c : k = 10 ∨ (k = 9 ∧ 9 < l.length ∧ 1 < bt l 9)
  · rw [if_pos c]
  · rw [if_neg c, if_neg (by omega), if_pos ⟨h0, hb⟩]
theorem unch_some (l : List UInt8) (k : Nat) (hk : k ≤ 8 ∨ (k = 9 ∧ bt l k ≤ 1)) (hl : k < l.length) (h : ∀ j, j < k → 128 ≤ bt l j) (hb : bt l k < 128) (hb0 : k = 0 ∨ bt l k ≠ 0) :
    unch l = (val l (k + 1), ((k + 1 : Nat) : Int), 0) := by
  have e : lead 10 l = k := lead_is 10 l k (by omega) h (.inr (by omega)) (by omega)
  unfold unch
  rw [e, if_neg (by rintro (h1 | ⟨rfl, h1, h2⟩) <;> omega), if_neg (by omega), if_neg (by omega)]

theorem or_nine (v x : Int) (hv0 : 0 ≤ v) (hv : v < 128 ^ 9) (hx0 : 0 ≤ x) (hx : x ≤ 1) :
    bits BinOp.or IntKind.u64 v (x * 9223372036854775808) = v + x * 128 ^ 9 := by
  have h := or_step v x 9 hv0 hv hx0 (by omega) (.inr ⟨rfl, hx⟩)
  rw [← h]
  have e : x * 2 ^ (7 * 9) = x * 9223372036854775808 := rfl
  rw [e, wrap_low _ (by omega) (by omega)]

/-- Byte i of a string, told by its name. -/
theorem idx_string {P : Program} (t : TypeId) (ht : P.underlying t = some .string) (s : ByteArray) (k : IntKind) (i : Int) (h0 : 0 ≤ i) (h1 : i < s.size) (w : World) :
    (Instr.index t (.string s) (.int k i)).run P w = .ok (.int .u8 (bt s.data.toList i.toNat : Nat)) w := by
  rw [run_index_string w t s k i ht, dif_pos ⟨h0, h1⟩, bt_of s i.toNat (by omega)]
theorem idx_nat {P : Program} (t : TypeId) (ht : P.underlying t = some .string) (s : ByteArray) (k : IntKind) (i : Nat) (h1 : i < s.size) (w : World) :
    (Instr.index t (.string s) (.int k (i : Int))).run P w = .ok (.int .u8 (bt s.data.toList i : Nat)) w := by
  have := idx_string t ht s k (i : Int) (by omega) (by omega) w
  simpa using this

/-- What the bytes i, .. , n - 1 tell, so that all of it is val. -/
theorem val_down (l : List UInt8) (i : Nat) (v V : Int) (h : v * 128 ^ (i + 1) + val l (i + 1) = V) :
    (128 * v + (bt l i % 128 : Nat)) * 128 ^ i + val l i = V := by
  rw [← h, Int.pow_succ]
  show _ = _ + (val l i + _)
  rw [Int.add_mul, Int.mul_comm 128 v, Int.mul_assoc, Int.mul_comm 128 (128 ^ i)]
  omega
theorem val_down_lt (l : List UInt8) (i : Nat) (v V : Int) (hv : 0 ≤ v) (h : v * 128 ^ i + val l i = V) (hV : V < 18446744073709551616) : v < 18446744073709551616 := by
  have h0 := val_lo l i
  have hp : (1 : Int) ≤ 128 ^ i := Int.pow_pos (by omega)
  have : v * 1 ≤ v * 128 ^ i := Int.mul_le_mul_of_nonneg_left hp hv
  omega
end Go.Proofs.Ytnekiiahgidkoaa.M
end
