/- A byte that is turned changes the CRC; numbers of bytes of numbers; nothing of the program. -/
import Derived.WalkKit
import Derived.Test.YtkmlmondhmpkkaaSum
namespace Go.Proofs.Ytkmlmondhmpkkaa.M
open Go.RowKit
set_option linter.unusedVariables false

theorem crc_ne (b : Nat) (x y : List UInt8) (hb : b < 4294967296) (h : reg (ones - b) x ≠ reg (ones - b) y) : crc b x ≠ crc b y := by
  have h1 := reg_lt x (ones - b) (by unfold ones; omega)
  have h2 := reg_lt y (ones - b) (by unfold ones; omega)
  unfold crc ones at *; omega
theorem crc_set_ne (b : Nat) (hb : b < 4294967296) (l : List UInt8) (j : Nat) (hj : j < l.length) (d : Nat) (hd : d < 256) (hne : d ≠ bt l j) :
    crc b (l.set j (UInt8.ofNat d)) ≠ crc b l := by
  apply crc_ne b _ _ hb
  have e1 : l = l.take j ++ l[j] :: l.drop (j + 1) := by
    rw [← List.drop_eq_getElem_cons hj, List.take_append_drop]
  have e2 : l.set j (UInt8.ofNat d) = l.take j ++ UInt8.ofNat d :: l.drop (j + 1) := List.set_eq_take_append_cons_drop ▸ (by rw [if_pos hj])
  have hbt : bt l j = l[j].toNat := by unfold bt; rw [List.getD, List.getElem?_eq_getElem hj]; rfl
  have hr := reg_lt (l.take j) (ones - b) (by unfold ones; omega)
  intro h
  rw [e2, reg_append] at h
  have h' : reg (ones - b) l = reg (reg (ones - b) (l.take j)) (l[j] :: l.drop (j + 1)) := by rw [← reg_append, ← e1]
  rw [h'] at h
  generalize reg (ones - b) (l.take j) = R at *
  generalize l.drop (j + 1) = post at *
  have hc : (UInt8.ofNat d).toNat = d := by rw [UInt8.toNat_ofNat']; omega
  have s1 : reg R (UInt8.ofNat d :: post) = reg (its 8 (R ^^^ d)) post := by show reg (its 8 (R ^^^ (UInt8.ofNat d).toNat)) post = _; rw [hc]
  have s2 : reg R (l[j] :: post) = reg (its 8 (R ^^^ bt l j)) post := by rw [hbt]; rfl
  rw [s1, s2] at h
  have hx : R ^^^ d = (R ^^^ bt l j) ^^^ (bt l j ^^^ d) := by
    rw [Nat.xor_assoc, ← Nat.xor_assoc (bt l j), Nat.xor_self, Nat.zero_xor]
  rw [hx, its_xor, reg_xor] at h
  have hbl := bt_lt l j
  have hq : bt l j ^^^ d < 4294967296 := xor_lt32 _ _ (by omega) (by omega)
  have hq0 : bt l j ^^^ d ≠ 0 := by
    intro h0
    apply hne
    have : bt l j ^^^ (bt l j ^^^ d) = bt l j := by rw [h0, Nat.xor_zero]
    rw [← Nat.xor_assoc, Nat.xor_self, Nat.zero_xor] at this
    exact this
  have hg := goOn_ne post.length _ (its_lt 8 _ hq) (its_ne 8 _ hq hq0)
  generalize goOn post.length (its 8 (bt l j ^^^ d)) = g at *
  generalize reg (its 8 (R ^^^ bt l j)) post = r at *
  apply hg
  have : r ^^^ (r ^^^ g) = 0 := by rw [h, Nat.xor_self]
  rw [← Nat.xor_assoc, Nat.xor_self, Nat.zero_xor] at this
  exact this

theorem rd_fx (a : Int) (n : Nat) (h0 : 0 ≤ a) : (rd (fx a n) : Int) = a % 256 ^ n := by
  unfold rd
  have key : ∀ (n : Nat) (v : Nat), (((fx a n).foldl (fun (v : Nat) (b : UInt8) => 256 * v + b.toNat) v : Nat) : Int) = v * 256 ^ n + a % 256 ^ n := by
    intro n
    induction n with
    | zero => intro v; simp [fx, Int.emod_one]
    | succ n ih =>
      intro v
      show (((fx a n).foldl (fun v b => 256 * v + b.toNat) (256 * v + (UInt8.ofNat (a / 256 ^ n % 256).toNat).toNat) : Nat) : Int) = _
      rw [ih]
      have hp : (0 : Int) < 256 ^ n := Int.pow_pos (by omega)
      have e1 : (((256 * v + (UInt8.ofNat (a / 256 ^ n % 256).toNat).toNat : Nat)) : Int) = 256 * v + a / 256 ^ n % 256 := by
        rw [Int.natCast_add, Int.natCast_mul, UInt8.toNat_ofNat']; omega
      have e2 : a % 256 ^ (n + 1) = a % 256 ^ n + 256 ^ n * (a / 256 ^ n % 256) := by
        obtain ⟨m, rfl⟩ := Int.eq_ofNat_of_zero_le h0
        have := Nat.mod_pow_succ (b := 256) (x := m) (k := n)
        have e := congrArg (Nat.cast : Nat → Int) this
        simpa using e
      rw [e1, e2, Int.pow_succ, Int.add_mul, Int.mul_comm (256 ^ n) (a / 256 ^ n % 256), Int.mul_comm 256 (v : Int), Int.mul_assoc, Int.mul_comm 256 (256 ^ n)]
      omega
  have := key n 0
  simpa using this

theorem fx_inj {a b : Nat} (n : Nat) (ha : a < 256 ^ n) (hb : b < 256 ^ n) (h : fx (a : Int) n = fx (b : Int) n) : a = b := by
  have h1 := rd_fx (a : Int) n (by omega)
  have h2 := rd_fx (b : Int) n (by omega)
  rw [h, h2] at h1
  have e : ∀ x : Nat, x < 256 ^ n → ((x : Int) % 256 ^ n) = (x : Int) := fun x hx => by
    have hc : ((256 ^ n : Nat) : Int) = (256 : Int) ^ n := Int.natCast_pow 256 n
    rw [← hc]
    exact Int.emod_eq_of_lt (by omega) (Int.ofNat_lt.2 hx)
  rw [e a ha, e b hb] at h1
  omega
end Go.Proofs.Ytkmlmondhmpkkaa.M
