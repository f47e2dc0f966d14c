/- Reading chains; nothing of the program. -/
import Derived.WalkKit
import Derived.Test.YtkmlmondhmpkkaaChain
namespace Go.Proofs.Ytkmlmondhmpkkaa.M
open Go.RowKit
set_option linter.unusedVariables false

/-- Byte k, or 0 behind the end. -/
def bt (l : List UInt8) (k : Nat) : Nat := (l.getD k 0).toNat
/-- How many of the first f bytes go on, one behind the other. -/
def lead : Nat → List UInt8 → Nat
  | 0, _ => 0
  | _ + 1, [] => 0
  | f + 1, b :: l => if 128 ≤ b.toNat then lead f l + 1 else 0
/-- The number of the first k bytes' low seven bits. -/
def val (l : List UInt8) : Nat → Int
  | 0 => 0
  | k + 1 => val l k + (bt l k % 128 : Nat) * 128 ^ k
/-- What Unchain tells: the number, how many bytes, the error. -/
def unch (l : List UInt8) : Int × Int × Int :=
  if lead 10 l = 10 ∨ (lead 10 l = 9 ∧ 9 < l.length ∧ 1 < bt l 9) then (0, 0, 4)
  else if lead 10 l = l.length then (0, 0, 3)
  else if 0 < lead 10 l ∧ bt l (lead 10 l) = 0 then (0, 0, 4)
  else (val l (lead 10 l + 1), ((lead 10 l + 1 : Nat) : Int), 0)

theorem lead_le (f : Nat) : ∀ l : List UInt8, lead f l ≤ f ∧ lead f l ≤ l.length := by
  induction f with
  | zero => intro l; simp [lead]
  | succ f ih =>
    intro l
    cases l with
    | nil => simp [lead]
    | cons b l =>
      have := ih l
      unfold lead
      split
      · simp; omega
      · simp
theorem bt_cons (b : UInt8) (l : List UInt8) (k : Nat) : bt (b :: l) (k + 1) = bt l k := by simp [bt]
theorem bt_zero (b : UInt8) (l : List UInt8) : bt (b :: l) 0 = b.toNat := by simp [bt]
theorem bt_lt (l : List UInt8) (k : Nat) : bt l k < 256 := (l.getD k 0).toNat_lt
theorem bt_out (l : List UInt8) (k : Nat) (h : l.length ≤ k) : bt l k = 0 := by simp [bt, List.getD, List.getElem?_eq_none h]
theorem bt_of (s : ByteArray) (k : Nat) (h : k < s.size) : s[k].toNat = bt s.data.toList k := by
  have h' : k < s.data.toList.length := by simpa using h
  unfold bt
  rw [List.getD, List.getElem?_eq_getElem h', Option.getD_some]
  rfl
theorem lead_all (f : Nat) : ∀ (l : List UInt8) (j : Nat), j < lead f l → 128 ≤ bt l j := by
  induction f with
  | zero => intro l j h; simp [lead] at h
  | succ f ih =>
    intro l j h
    cases l with
    | nil => simp [lead] at h
    | cons b l =>
      unfold lead at h
      split at h
      · cases j with
        | zero => rw [bt_zero]; assumption
        | succ j => rw [bt_cons]; exact ih l j (by omega)
      · omega
theorem lead_end (f : Nat) : ∀ (l : List UInt8), lead f l < f → lead f l < l.length → bt l (lead f l) < 128 := by
  induction f with
  | zero => intro l h; omega
  | succ f ih =>
    intro l h h2
    cases l with
    | nil => simp at h2
    | cons b l =>
      by_cases hb : 128 ≤ b.toNat
      · have e : lead (f + 1) (b :: l) = lead f l + 1 := by simp [lead, hb]
        rw [e] at h h2 ⊢
        rw [bt_cons]
        exact ih l (by omega) (by simpa using h2)
      · have e : lead (f + 1) (b :: l) = 0 := by simp [lead, hb]
        rw [e, bt_zero]; omega
/-- If the first k go on, and the next one does not, or there is none, k is the number. -/
theorem lead_is (f : Nat) (l : List UInt8) (k : Nat) (hk : k ≤ f) (h : ∀ j, j < k → 128 ≤ bt l j) (he : k = f ∨ bt l k < 128) (hl : k ≤ l.length) : lead f l = k := by
  have h1 := lead_le f l
  rcases Nat.lt_trichotomy (lead f l) k with c | c | c
  · have := lead_end f l (by omega) (by omega)
    have := h _ c
    omega
  · exact c
  · rcases he with he | he
    · omega
    · have := lead_all f l k c
      omega

theorem val_lo (l : List UInt8) (k : Nat) : 0 ≤ val l k := by
  induction k with
  | zero => simp [val]
  | succ k ih =>
    unfold val
    have hp : (0 : Int) < 128 ^ k := Int.pow_pos (by omega)
    have : 0 ≤ ((bt l k % 128 : Nat) : Int) * 128 ^ k := Int.mul_nonneg (by omega) (by omega)
    omega
theorem val_hi (l : List UInt8) (k : Nat) : val l k < 128 ^ k := by
  induction k with
  | zero => simp [val]
  | succ k ih =>
    unfold val
    rw [Int.pow_succ]
    have hp : (0 : Int) < 128 ^ k := Int.pow_pos (by omega)
    have : ((bt l k % 128 : Nat) : Int) * 128 ^ k ≤ 127 * 128 ^ k := Int.mul_le_mul_of_nonneg_right (by omega) (by omega)
    omega
theorem val_mono (l : List UInt8) (j k : Nat) (h : j ≤ k) : val l j ≤ val l k := by
  induction k with
  | zero => obtain rfl : j = 0 := by omega
            exact Int.le_refl _
  | succ k ih =>
    by_cases e : j = k + 1
    · subst e; exact Int.le_refl _
    · have := ih (by omega)
      have hp : (0 : Int) < 128 ^ k := Int.pow_pos (by omega)
      have h2 : 0 ≤ ((bt l k % 128 : Nat) : Int) * 128 ^ k := Int.mul_nonneg (by omega) (by omega)
      show _ ≤ val l k + _
      omega
theorem val_64 (l : List UInt8) (k : Nat) (hk : k ≤ 9 ∨ (k = 10 ∧ bt l 9 ≤ 1)) : val l k < 18446744073709551616 := by
  rcases hk with hk | ⟨rfl, h9⟩
  · have h1 := val_mono l k 9 hk
    have h2 := val_hi l 9
    simp only [show (128 : Int) ^ 9 = 9223372036854775808 from rfl] at h2
    omega
  · have h2 := val_hi l 9
    simp only [show (128 : Int) ^ 9 = 9223372036854775808 from rfl] at h2
    show val l 9 + ((bt l 9 % 128 : Nat) : Int) * 128 ^ 9 < _
    simp only [show (128 : Int) ^ 9 = 9223372036854775808 from rfl]
    omega

theorem and_low7 (b : Nat) (h : b < 256) : bits BinOp.andNot IntKind.u8 (b : Int) 128 = ((b % 128 : Nat) : Int) := by
  rw [show (128 : Int) = ((128 : Nat) : Int) from rfl, u8_andNot_nat _ _ h (by omega)]
  show ((b &&& 127 : Nat) : Int) = _
  rw [nat_mask7]
theorem or_step (v x : Int) (k : Nat) (hv0 : 0 ≤ v) (hv : v < 128 ^ k) (hx0 : 0 ≤ x) (hx : x < 128) (hk : k ≤ 8 ∨ (k = 9 ∧ x ≤ 1)) :
    bits BinOp.or IntKind.u64 v (IntKind.u64.wrap (x * 2 ^ (7 * k))) = v + x * 128 ^ k := by
  have hpow : (2 : Int) ^ (7 * k) = 128 ^ k := by rw [Int.pow_mul]; rfl
  have hp : (0 : Int) < 128 ^ k := Int.pow_pos (by omega)
  have hb : x * 128 ^ k < 18446744073709551616 ∧ (128 : Int) ^ k ≤ 9223372036854775808 := by
    rcases hk with hk | ⟨rfl, h1⟩
    · have h2 := Nat.pow_le_pow_right (n := 128) (by omega) hk
      have h3 : ((128 ^ k : Nat) : Int) ≤ ((128 ^ 8 : Nat) : Int) := Int.ofNat_le.2 h2
      rw [Int.natCast_pow, Int.natCast_pow] at h3
      have h4 : (128 : Int) ^ k ≤ 72057594037927936 := h3
      have h5 : x * 128 ^ k ≤ 127 * 128 ^ k := Int.mul_le_mul_of_nonneg_right (by omega) (by omega)
      omega
    · simp only [show (128 : Int) ^ 9 = 9223372036854775808 from rfl]; omega
  have h0 : 0 ≤ x * 128 ^ k := Int.mul_nonneg hx0 (by omega)
  rw [hpow, wrap_low _ h0 hb.1]
  obtain ⟨vn, rfl⟩ := Int.eq_ofNat_of_zero_le hv0
  obtain ⟨xn, rfl⟩ := Int.eq_ofNat_of_zero_le hx0
  have e : ((xn : Int) * 128 ^ k) = ((xn * 128 ^ k : Nat) : Int) := by rw [Int.natCast_mul, Int.natCast_pow]; rfl
  have e2 : ((128 : Int) ^ k) = ((128 ^ k : Nat) : Int) := by rw [Int.natCast_pow]; rfl
  rw [e] at hb ⊢
  rw [e2] at hv hb
  have e7 : (128 : Nat) ^ k = 2 ^ (7 * k) := by rw [Nat.pow_mul]
  rw [u64_or_nat _ _ (by omega) (by omega), Nat.or_comm, nat_join (7 * k) (xn * 128 ^ k) vn (by rw [e7]; exact Nat.mul_mod_left _ _) (by rw [← e7]; omega)]
  omega

theorem unch_short (l : List UInt8) (k : Nat) (hk : k ≤ 9) (hl : l.length = k) (h : ∀ j, j < k → 128 ≤ bt l j) : unch l = (0, 0, 3) := by
  have e : lead 10 l = k := lead_is 10 l k (by omega) h (.inr (by rw [bt_out l k (by omega)]; omega)) (by omega)
  unfold unch
  rw [e, if_neg (by omega), if_pos (by omega)]
theorem unch_ten (l : List UInt8) (k : Nat) (hk : k = 9) (h : ∀ j, j < k → 128 ≤ bt l j) (hl : k < l.length) (h9 : 1 < bt l k) : unch l = (0, 0, 4) := by
  subst hk
  unfold unch
  by_cases h10 : 128 ≤ bt l 9
  · have e : lead 10 l = 10 := lead_is 10 l 10 (by omega) (fun j hj => by by_cases e : j = 9; subst e; exact h10; exact h j (by omega)) (.inl rfl) (by omega)
    rw [e, if_pos (.inl rfl)]
  · have e : lead 10 l = 9 := lead_is 10 l 9 (by omega) h (.inr (by omega)) (by omega)
    rw [e, if_pos (.inr ⟨rfl, hl, h9⟩)]
theorem unch_zero (l : List UInt8) (k : Nat) (hk : k ≤ 9) (h0 : 0 < k) (hl : k < l.length) (h : ∀ j, j < k → 128 ≤ bt l j) (hb : bt l k = 0) : unch l = (0, 0, 4) := by
  have e : lead 10 l = k := lead_is 10 l k (by omega) h (.inr (by omega)) (by omega)
  unfold unch
  rw [e]
  by_cases c : k = 10 ∨ (k = 9 ∧ 9 < l.length ∧ 1 < bt l 9)
  · rw [if_pos c]
  · rw [if_neg c, if_neg (by omega), if_pos ⟨h0, hb⟩]
theorem unch_some (l : List UInt8) (k : Nat) (hk : k ≤ 8 ∨ (k = 9 ∧ bt l k ≤ 1)) (hl : k < l.length) (h : ∀ j, j < k → 128 ≤ bt l j) (hb : bt l k < 128) (hb0 : k = 0 ∨ bt l k ≠ 0) :
    unch l = (val l (k + 1), ((k + 1 : Nat) : Int), 0) := by
  have e : lead 10 l = k := lead_is 10 l k (by omega) h (.inr (by omega)) (by omega)
  unfold unch
  rw [e, if_neg (by rintro (h1 | ⟨rfl, h1, h2⟩) <;> omega), if_neg (by omega), if_neg (by omega)]

theorem or_nine (v x : Int) (hv0 : 0 ≤ v) (hv : v < 128 ^ 9) (hx0 : 0 ≤ x) (hx : x ≤ 1) :
    bits BinOp.or IntKind.u64 v (x * 9223372036854775808) = v + x * 128 ^ 9 := by
  have h := or_step v x 9 hv0 hv hx0 (by omega) (.inr ⟨rfl, hx⟩)
  rw [← h]
  have e : x * 2 ^ (7 * 9) = x * 9223372036854775808 := rfl
  rw [e, wrap_low _ (by omega) (by omega)]

/-- Byte i of a string, told by its name. -/
theorem idx_string {P : Program} (t : TypeId) (ht : P.underlying t = some .string) (s : ByteArray) (k : IntKind) (i : Int) (h0 : 0 ≤ i) (h1 : i < s.size) (w : World) :
    (Instr.index t (.string s) (.int k i)).run P w = .ok (.int .u8 (bt s.data.toList i.toNat : Nat)) w := by
  rw [run_index_string w t s k i ht, dif_pos ⟨h0, h1⟩, bt_of s i.toNat (by omega)]
theorem idx_nat {P : Program} (t : TypeId) (ht : P.underlying t = some .string) (s : ByteArray) (k : IntKind) (i : Nat) (h1 : i < s.size) (w : World) :
    (Instr.index t (.string s) (.int k (i : Int))).run P w = .ok (.int .u8 (bt s.data.toList i : Nat)) w := by
  have := idx_string t ht s k (i : Int) (by omega) (by omega) w
  simpa using this

/-- What the bytes i, .. , n - 1 tell, so that all of it is val. -/
theorem val_down (l : List UInt8) (i : Nat) (v V : Int) (h : v * 128 ^ (i + 1) + val l (i + 1) = V) :
    (128 * v + (bt l i % 128 : Nat)) * 128 ^ i + val l i = V := by
  rw [← h, Int.pow_succ]
  show _ = _ + (val l i + _)
  rw [Int.add_mul, Int.mul_comm 128 v, Int.mul_assoc, Int.mul_comm 128 (128 ^ i)]
  omega
theorem val_down_lt (l : List UInt8) (i : Nat) (v V : Int) (hv : 0 ≤ v) (h : v * 128 ^ i + val l i = V) (hV : V < 18446744073709551616) : v < 18446744073709551616 := by
  have h0 := val_lo l i
  have hp : (1 : Int) ≤ 128 ^ i := Int.pow_pos (by omega)
  have : v * 1 ≤ v * 128 ^ i := Int.mul_le_mul_of_nonneg_left hp hv
  omega
end Go.Proofs.Ytkmlmondhmpkkaa.M
