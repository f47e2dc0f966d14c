/- Registers of sums; nothing of the program. A byte that is turned changes the CRC; numbers of bytes of numbers; nothing of the program. -/
import Derived.WalkKit
import Derived.Test.YtgogackkeodciabGreatDoorUnchain
section
namespace Go.Proofs.YtgogackkeodciabGreatDoor.M
open Go.RowKit
set_option linter.unusedVariables false

def poly : Nat := 3988292384
def ones : Nat := 4294967295
/-- A register shifted by a bit. -/
def st (r : Nat) : Nat := if r % 2 = 1 then r / 2 ^^^ poly else r / 2
/-- So many shifts. -/
def its : Nat → Nat → Nat
  | 0, r => r
  | n + 1, r => st (its n r)
/-- The register behind bytes. -/
def reg (r : Nat) (l : List UInt8) : Nat := l.foldl (fun r b => its 8 (r ^^^ b.toNat)) r
def crc (b : Nat) (l : List UInt8) : Nat := ones - reg (ones - b) l
def digBegin : Nat := 14695981039346656037
def digTimes : Nat := 1099511628211
def dig (l : List UInt8) : Nat := l.foldl (fun v b => (v ^^^ b.toNat) * digTimes % 18446744073709551616) digBegin

theorem xor_lt32 (a b : Nat) (ha : a < 4294967296) (hb : b < 4294967296) : a ^^^ b < 4294967296 := Nat.xor_lt_two_pow (n := 32) ha hb
theorem xor_lt64 (a b : Nat) (ha : a < 18446744073709551616) (hb : b < 18446744073709551616) : a ^^^ b < 18446744073709551616 := Nat.xor_lt_two_pow (n := 64) ha hb
theorem st_lt (r : Nat) (h : r < 4294967296) : st r < 4294967296 := by
  unfold st
  split
  · exact xor_lt32 _ _ (by omega) (by decide)
  · omega
theorem its_lt (n r : Nat) (h : r < 4294967296) : its n r < 4294967296 := by
  induction n with
  | zero => exact h
  | succ n ih => exact st_lt _ ih
theorem reg_lt (l : List UInt8) : ∀ r : Nat, r < 4294967296 → reg r l < 4294967296 := by
  induction l with
  | nil => intro r h; exact h
  | cons b l ih =>
    intro r h
    exact ih _ (its_lt 8 _ (xor_lt32 _ _ h (by have := b.toNat_lt; omega)))
theorem reg_append (r : Nat) (a b : List UInt8) : reg r (a ++ b) = reg (reg r a) b := by unfold reg; rw [List.foldl_append]
theorem reg_snoc (r : Nat) (l : List UInt8) (b : UInt8) : reg r (l ++ [b]) = its 8 (reg r l ^^^ b.toNat) := by rw [reg_append]; rfl
theorem reg_take (r : Nat) (s : ByteArray) (k : Nat) (h : k < s.size) : reg r (s.data.toList.take (k + 1)) = its 8 (reg r (s.data.toList.take k) ^^^ bt s.data.toList k) := by
  rw [take_snoc s k h, reg_snoc, bt_of s k h]
theorem crc_lt (b : Nat) (l : List UInt8) : crc b l < 4294967296 := by unfold crc ones; omega
theorem crc_append (b : Nat) (h : b < 4294967296) (x y : List UInt8) : crc b (x ++ y) = crc (crc b x) y := by
  have := reg_lt x (ones - b) (by unfold ones; omega)
  unfold crc
  rw [reg_append, show ones - (ones - reg (ones - b) x) = reg (ones - b) x from by unfold ones at *; omega]
theorem crc_nil (b : Nat) (h : b < 4294967296) : crc b [] = b := by
  unfold crc reg ones; simp; omega
theorem dig_lt (l : List UInt8) : dig l < 18446744073709551616 := by
  have key : ∀ (l : List UInt8) (v : Nat), v < 18446744073709551616 → l.foldl (fun v b => (v ^^^ b.toNat) * digTimes % 18446744073709551616) v < 18446744073709551616 := by
    intro l
    induction l with
    | nil => intro v h; exact h
    | cons b l ih => intro v h; exact ih _ (Nat.mod_lt _ (by omega))
  exact key l _ (by decide)
theorem dig_take (s : ByteArray) (k : Nat) (h : k < s.size) : dig (s.data.toList.take (k + 1)) = (dig (s.data.toList.take k) ^^^ bt s.data.toList k) * digTimes % 18446744073709551616 := by
  rw [take_snoc s k h, ← bt_of s k h]; unfold dig; rw [List.foldl_append, List.foldl_cons, List.foldl_nil]

/-! Linear over exclusive or -/
theorem xor_half (a b : Nat) : (a ^^^ b) / 2 = a / 2 ^^^ b / 2 := by
  apply Nat.eq_of_testBit_eq; intro i
  rw [Nat.testBit_xor]
  simp only [← Nat.testBit_succ, Nat.testBit_xor]
theorem xor_mod2 (a b : Nat) : (a ^^^ b) % 2 = (a + b) % 2 := by
  have h := Nat.testBit_xor a b 0
  rw [Nat.testBit_zero, Nat.testBit_zero, Nat.testBit_zero] at h
  by_cases ha : a % 2 = 1
  · by_cases hb : b % 2 = 1
    · rw [decide_eq_true ha, decide_eq_true hb] at h
      have := of_decide_eq_false h; omega
    · rw [decide_eq_true ha, decide_eq_false hb] at h
      have := of_decide_eq_true h; omega
  · by_cases hb : b % 2 = 1
    · rw [decide_eq_false ha, decide_eq_true hb] at h
      have := of_decide_eq_true h; omega
    · rw [decide_eq_false ha, decide_eq_false hb] at h
      have := of_decide_eq_false h; omega
theorem st_xor (a b : Nat) : st (a ^^^ b) = st a ^^^ st b := by
  unfold st
  have hm := xor_mod2 a b
  by_cases ha : a % 2 = 1 <;> by_cases hb : b % 2 = 1
  · rw [if_pos ha, if_pos hb, if_neg (by omega), xor_half]
    rw [Nat.xor_assoc, Nat.xor_comm poly, Nat.xor_assoc, Nat.xor_self, Nat.xor_zero]
  · rw [if_pos ha, if_neg hb, if_pos (by omega), xor_half]
    rw [Nat.xor_assoc, Nat.xor_comm (b / 2), ← Nat.xor_assoc]
  · rw [if_neg ha, if_pos hb, if_pos (by omega), xor_half, Nat.xor_assoc]
  · rw [if_neg ha, if_neg hb, if_neg (by omega), xor_half]
theorem its_xor (n a b : Nat) : its n (a ^^^ b) = its n a ^^^ its n b := by
  induction n with
  | zero => rfl
  | succ n ih => show st _ = st _ ^^^ st _; rw [ih, st_xor]
theorem st_zero : st 0 = 0 := by unfold st; simp
theorem its_zero (n : Nat) : its n 0 = 0 := by
  induction n with
  | zero => rfl
  | succ n ih => show st _ = 0; rw [ih, st_zero]
/-- What a difference becomes behind n bytes. -/
def goOn : Nat → Nat → Nat
  | 0, x => x
  | n + 1, x => goOn n (its 8 x)
theorem reg_xor (l : List UInt8) : ∀ r x : Nat, reg (r ^^^ x) l = reg r l ^^^ goOn l.length x := by
  induction l with
  | nil => intro r x; rfl
  | cons b l ih =>
    intro r x
    show reg (its 8 (r ^^^ x ^^^ b.toNat)) l = reg (its 8 (r ^^^ b.toNat)) l ^^^ goOn l.length (its 8 x)
    rw [Nat.xor_assoc, Nat.xor_comm x, ← Nat.xor_assoc, its_xor, ih]
/-- No difference is lost. -/
theorem st_ne (r : Nat) (h : r < 4294967296) (h0 : r ≠ 0) : st r ≠ 0 := by
  unfold st
  split
  · intro h
    have h2 : (r / 2 ^^^ poly) ^^^ poly = poly := by rw [h, Nat.zero_xor]
    rw [Nat.xor_assoc, Nat.xor_self, Nat.xor_zero] at h2
    unfold poly at h2; omega
  · omega
theorem its_ne (n r : Nat) (h : r < 4294967296) (h0 : r ≠ 0) : its n r ≠ 0 := by
  induction n with
  | zero => exact h0
  | succ n ih => exact st_ne _ (its_lt n r h) ih
theorem goOn_ne (n : Nat) : ∀ r, r < 4294967296 → r ≠ 0 → goOn n r ≠ 0 := by
  induction n with
  | zero => intro r _ h; exact h
  | succ n ih => intro r h h0; exact ih _ (its_lt 8 r h) (its_ne 8 r h h0)

theorem not32 (x : Nat) (h : x < 4294967296) : bits .xor .u32 IntKind.u32.max (x : Int) = ((ones - x : Nat) : Int) := by
  rw [show IntKind.u32.max = ((4294967295 : Nat) : Int) from rfl, u32_xor_nat _ _ (by omega) h, Nat.xor_comm, xor_ones32 x h]
  rfl
theorem digMul (v : Nat) : IntKind.u64.wrap ((v : Int) * 1099511628211) = ((v * digTimes % 18446744073709551616 : Nat) : Int) := by
  rw [IntKind.wrap_u64]; unfold digTimes; omega
end Go.Proofs.YtgogackkeodciabGreatDoor.M
end
section
namespace Go.Proofs.YtgogackkeodciabGreatDoor.M
open Go.RowKit
set_option linter.unusedVariables false

theorem crc_ne (b : Nat) (x y : List UInt8) (hb : b < 4294967296) (h : reg (ones - b) x ≠ reg (ones - b) y) : crc b x ≠ crc b y := by
  have h1 := reg_lt x (ones - b) (by unfold ones; omega)
  have h2 := reg_lt y (ones - b) (by unfold ones; omega)
  unfold crc ones at *; omega
theorem crc_set_ne (b : Nat) (hb : b < 4294967296) (l : List UInt8) (j : Nat) (hj : j < l.length) (d : Nat) (hd : d < 256) (hne : d ≠ bt l j) :
    crc b (l.set j (UInt8.ofNat d)) ≠ crc b l := by
  apply crc_ne b _ _ hb
  have e1 : l = l.take j ++ l[j] :: l.drop (j + 1) := by
    rw [← List.drop_eq_getElem_cons hj, List.take_append_drop]
  have e2 : l.set j (UInt8.ofNat d) = l.take j ++ UInt8.ofNat d :: l.drop (j + 1) := List.set_eq_take_append_cons_drop ▸ (by rw [if_pos hj])
  have hbt : bt l j = l[j].toNat := by unfold bt; rw [List.getD, List.getElem?_eq_getElem hj]; rfl
  have hr := reg_lt (l.take j) (ones - b) (by unfold ones; omega)
  intro h
  rw [e2, reg_append] at h
  have h' : reg (ones - b) l = reg (reg (ones - b) (l.take j)) (l[j] :: l.drop (j + 1)) := by rw [← reg_append, ← e1]
  rw [h'] at h
  generalize reg (ones - b) (l.take j) = R at *
  generalize l.drop (j + 1) = post at *
  have hc : (UInt8.ofNat d).toNat = d := by rw [UInt8.toNat_ofNat']; omega
  have s1 : reg R (UInt8.ofNat d :: post) = reg (its 8 (R ^^^ d)) post := by show reg (its 8 (R ^^^ (UInt8.ofNat d).toNat)) post = _; rw [hc]
  have s2 : reg R (l[j] :: post) = reg (its 8 (R ^^^ bt l j)) post := by rw [hbt]; rfl
  rw [s1, s2] at h
  have hx : R ^^^ d = (R ^^^ bt l j) ^^^ (bt l j ^^^ d) := by
    rw [Nat.xor_assoc, ← Nat.xor_assoc (bt l j), Nat.xor_self, Nat.zero_xor]
  rw [hx, its_xor, reg_xor] at h
  have hbl := bt_lt l j
  have hq : bt l j ^^^ d < 4294967296 := xor_lt32 _ _ (by omega) (by omega)
  have hq0 : bt l j ^^^ d ≠ 0 := by
    intro h0
    apply hne
    have : bt l j ^^^ (bt l j ^^^ d) = bt l j := by rw [h0, Nat.xor_zero]
    rw [← Nat.xor_assoc, Nat.xor_self, Nat.zero_xor] at this
    exact this
  have hg := goOn_ne post.length _ (its_lt 8 _ hq) (its_ne 8 _ hq hq0)
  generalize goOn post.length (its 8 (bt l j ^^^ d)) = g at *
  generalize reg (its 8 (R ^^^ bt l j)) post = r at *
  apply hg
  have : r ^^^ (r ^^^ g) = 0 := by rw [h, Nat.xor_self]
  rw [← Nat.xor_assoc, Nat.xor_self, Nat.zero_xor] at this
  exact this

theorem rd_fx (a : Int) (n : Nat) (h0 : 0 ≤ a) : (rd (fx a n) : Int) = a % 256 ^ n := by
  unfold rd
  have key : ∀ (n : Nat) (v : Nat), (((fx a n).foldl (fun (v : Nat) (b : UInt8) => 256 * v + b.toNat) v : Nat) : Int) = v * 256 ^ n + a % 256 ^ n := by
    intro n
    induction n with
    | zero => intro v; simp [fx, Int.emod_one]
    | succ n ih =>
      intro v
      show (((fx a n).foldl (fun v b => 256 * v + b.toNat) (256 * v + (UInt8.ofNat (a / 256 ^ n % 256).toNat).toNat) : Nat) : Int) = _
      rw [ih]
      have hp : (0 : Int) < 256 ^ n := Int.pow_pos (by omega)
      have e1 : (((256 * v + (UInt8.ofNat (a / 256 ^ n % 256).toNat).toNat : Nat)) : Int) = 256 * v + a / 256 ^ n % 256 := by
        rw [Int.natCast_add, Int.natCast_mul, UInt8.toNat_ofNat']; omega
      have e2 : a % 256 ^ (n + 1) = a % 256 ^ n + 256 ^ n * (a / 256 ^ n % 256) := by
        obtain ⟨m, rfl⟩ := Int.eq_ofNat_of_zero_le h0
        have := Nat.mod_pow_succ (b := 256) (x := m) (k := n)
        have e := congrArg (Nat.cast : Nat → Int) this
        simpa using e
      rw [e1, e2, Int.pow_succ, Int.add_mul, Int.mul_comm (256 ^ n) (a / 256 ^ n % 256), Int.mul_comm 256 (v : Int), Int.mul_assoc, Int.mul_comm 256 (256 ^ n)]
      omega
  have := key n 0
  simpa using this

theorem fx_inj {a b : Nat} (n : Nat) (ha : a < 256 ^ n) (hb : b < 256 ^ n) (h : fx (a : Int) n = fx (b : Int) n) : a = b := by
  have h1 := rd_fx (a : Int) n (by omega)
  have h2 := rd_fx (b : Int) n (by omega)
  rw [h, h2] at h1
  have e : ∀ x : Nat, x < 256 ^ n → ((x : Int) % 256 ^ n) = (x : Int) := fun x hx => by
    have hc : ((256 ^ n : Nat) : Int) = (256 : Int) ^ n := Int.natCast_pow 256 n
    rw [← hc]
    exact Int.emod_eq_of_lt (by omega) (Int.ofNat_lt.2 hx)
  rw [e a ha, e b hb] at h1
  omega
end Go.Proofs.YtgogackkeodciabGreatDoor.M
end
