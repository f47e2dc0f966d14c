/- Bursts of four bytes; nothing of the program. -/
import Derived.Test.YtngacdajagegcaaSum
import Derived.Test.YtngacdajagegcaaBytes
namespace Go.Proofs.Ytngacdajagegcaa.sumsBurst
open Go.RowKit
open Go.Proofs.Ytngacdajagegcaa.M
set_option linter.unusedVariables false
theorem bt_get (l : List UInt8) (j : Nat) (x : UInt8) (h : l[j]? = some x) : bt l j = x.toNat := by
  unfold bt
  rw [List.getD, h, Option.getD_some]
theorem crc_ne (b : Nat) (x y : List UInt8) (hb : b < 4294967296) (h : reg (ones - b) x ≠ reg (ones - b) y) : crc b x ≠ crc b y := by
  have h1 := reg_lt x (ones - b) (by unfold ones; omega)
  have h2 := reg_lt y (ones - b) (by unfold ones; omega)
  unfold crc ones at *; omega

theorem xor_same {a b : Nat} (h : a ^^^ b = 0) : a = b := by
  have : a ^^^ (a ^^^ b) = a := by rw [h, Nat.xor_zero]
  rw [← Nat.xor_assoc, Nat.xor_self, Nat.zero_xor] at this
  exact this.symm
theorem its_pow (n : Nat) : ∀ d, its n (2 ^ n * d) = d := by
  induction n with
  | zero => intro d; simp [its]
  | succ n ih =>
    intro d
    show st (its n (2 ^ (n + 1) * d)) = d
    rw [Nat.pow_succ, Nat.mul_assoc, ih]
    unfold st
    rw [if_neg (by omega)]; omega
theorem its_inj (n x y : Nat) (hx : x < 4294967296) (hy : y < 4294967296) (h : its n x = its n y) : x = y := by
  by_cases e : x ^^^ y = 0
  · exact xor_same e
  · exact absurd (show its n (x ^^^ y) = 0 from by rw [its_xor, h, Nat.xor_self]) (its_ne n _ (xor_lt32 _ _ hx hy) e)
theorem its8_small (x d : Nat) (hx : x < 4294967296) (hd : d < 16777216) (h : its 8 x = d) : x = 256 * d := by
  apply its_inj 8 x (256 * d) hx (by omega)
  rw [h]
  exact (its_pow 8 d).symm
/-- What four bytes leave of a difference is none only if they are none. -/
theorem four_ne (d0 d1 d2 d3 : Nat) (h0 : d0 < 256) (h1 : d1 < 256) (h2 : d2 < 256) (h3 : d3 < 256)
    (h : its 8 (its 8 (its 8 (its 8 d0 ^^^ d1) ^^^ d2) ^^^ d3) = 0) : d0 = 0 ∧ d1 = 0 ∧ d2 = 0 ∧ d3 = 0 := by
  have l0 := its_lt 8 d0 (by omega)
  have l1 := its_lt 8 _ (xor_lt32 _ d1 l0 (by omega))
  have l2 := its_lt 8 _ (xor_lt32 _ d2 l1 (by omega))
  have e3 : its 8 (its 8 (its 8 d0 ^^^ d1) ^^^ d2) ^^^ d3 = 0 := by
    by_cases e : its 8 (its 8 (its 8 d0 ^^^ d1) ^^^ d2) ^^^ d3 = 0
    · exact e
    · exact absurd h (its_ne 8 _ (xor_lt32 _ _ l2 (by omega)) e)
  have f2 := its8_small _ d3 (xor_lt32 _ _ l1 (by omega)) (by omega) (xor_same e3)
  have g1 : its 8 (its 8 d0 ^^^ d1) = 256 * d3 ^^^ d2 := by rw [← f2, Nat.xor_assoc, Nat.xor_self, Nat.xor_zero]
  have b1 : 256 * d3 ^^^ d2 < 65536 := Nat.xor_lt_two_pow (n := 16) (by omega) (by omega)
  have f1 := its8_small _ _ (xor_lt32 _ _ l0 (by omega)) (by omega) g1
  have g0 : its 8 d0 = 256 * (256 * d3 ^^^ d2) ^^^ d1 := by rw [← f1, Nat.xor_assoc, Nat.xor_self, Nat.xor_zero]
  have b0 : 256 * (256 * d3 ^^^ d2) ^^^ d1 < 16777216 := Nat.xor_lt_two_pow (n := 24) (by omega) (by omega)
  have f0 := its8_small _ _ (by omega) b0 g0
  have z0 : 256 * (256 * d3 ^^^ d2) ^^^ d1 = 0 := by omega
  have z1 := xor_same z0
  have z2 : 256 * d3 ^^^ d2 = 0 := by omega
  have z3 := xor_same z2
  omega
theorem reg_cons (r : Nat) (c : UInt8) (l : List UInt8) : reg r (c :: l) = reg (its 8 (r ^^^ c.toNat)) l := by unfold reg; rw [List.foldl_cons]
theorem step_diff (a x c d : Nat) : its 8 ((a ^^^ x) ^^^ (c ^^^ d)) = its 8 (a ^^^ c) ^^^ its 8 (x ^^^ d) := by
  have sw : (a ^^^ x) ^^^ (c ^^^ d) = (a ^^^ c) ^^^ (x ^^^ d) := by
    rw [Nat.xor_assoc, Nat.xor_assoc, ← Nat.xor_assoc x, Nat.xor_comm x c, Nat.xor_assoc]
  rw [sw, its_xor]
theorem crc_four_ne (b : Nat) (hb : b < 4294967296) (pre post : List UInt8) (c0 c1 c2 c3 : UInt8) (d0 d1 d2 d3 : Nat) (h0 : d0 < 256) (h1 : d1 < 256) (h2 : d2 < 256) (h3 : d3 < 256)
    (hne : ¬ (d0 = 0 ∧ d1 = 0 ∧ d2 = 0 ∧ d3 = 0)) :
    crc b (pre ++ UInt8.ofNat (c0.toNat ^^^ d0) :: UInt8.ofNat (c1.toNat ^^^ d1) :: UInt8.ofNat (c2.toNat ^^^ d2) :: UInt8.ofNat (c3.toNat ^^^ d3) :: post) ≠ crc b (pre ++ c0 :: c1 :: c2 :: c3 :: post) := by
  apply crc_ne b _ _ hb
  rw [reg_append, reg_append]
  have hr := reg_lt pre (ones - b) (by unfold ones; omega)
  generalize reg (ones - b) pre = R at *
  have tn : ∀ (c : UInt8) (d : Nat), d < 256 → (UInt8.ofNat (c.toNat ^^^ d)).toNat = c.toNat ^^^ d := fun c d hd => by
    have hc := c.toNat_lt
    have : c.toNat ^^^ d < 256 := Nat.xor_lt_two_pow (n := 8) (by omega) hd
    rw [UInt8.toNat_ofNat']; omega
  simp only [reg_cons]
  rw [tn c0 d0 h0, tn c1 d1 h1, tn c2 d2 h2, tn c3 d3 h3]
  have first : its 8 (R ^^^ (c0.toNat ^^^ d0)) = its 8 (R ^^^ c0.toNat) ^^^ its 8 d0 := by rw [← Nat.xor_assoc R, its_xor]
  rw [first, step_diff, step_diff, step_diff, reg_xor]
  intro h
  generalize hF : its 8 (its 8 (its 8 (its 8 d0 ^^^ d1) ^^^ d2) ^^^ d3) = F at h
  have l0 := its_lt 8 d0 (by omega)
  have l1 := its_lt 8 _ (xor_lt32 _ d1 l0 (by omega))
  have l2 := its_lt 8 _ (xor_lt32 _ d2 l1 (by omega))
  have l3 := its_lt 8 _ (xor_lt32 _ d3 l2 (by omega))
  rw [hF] at l3
  by_cases hF0 : F = 0
  · exact hne (four_ne d0 d1 d2 d3 h0 h1 h2 h3 (by rw [hF, hF0]))
  · have hg := goOn_ne post.length F l3 hF0
    generalize goOn post.length F = g at *
    generalize reg (its 8 (its 8 (its 8 (its 8 (R ^^^ c0.toNat) ^^^ c1.toNat) ^^^ c2.toNat) ^^^ c3.toNat)) post = r at *
    apply hg
    have : r ^^^ (r ^^^ g) = 0 := by rw [h, Nat.xor_self]
    rw [← Nat.xor_assoc, Nat.xor_self, Nat.zero_xor] at this
    exact this
/-- The text with four bytes turned. -/
def turned (l : List UInt8) (i d0 d1 d2 d3 : Nat) : List UInt8 :=
  (((l.set i (UInt8.ofNat (bt l i ^^^ d0))).set (i + 1) (UInt8.ofNat (bt l (i + 1) ^^^ d1))).set (i + 2) (UInt8.ofNat (bt l (i + 2) ^^^ d2))).set (i + 3) (UInt8.ofNat (bt l (i + 3) ^^^ d3))
theorem crc_turned_ne (b : Nat) (hb : b < 4294967296) (l : List UInt8) (i : Nat) (hi : i + 4 ≤ l.length) (d0 d1 d2 d3 : Nat) (h0 : d0 < 256) (h1 : d1 < 256) (h2 : d2 < 256) (h3 : d3 < 256)
    (hne : ¬ (d0 = 0 ∧ d1 = 0 ∧ d2 = 0 ∧ d3 = 0)) : crc b (turned l i d0 d1 d2 d3) ≠ crc b l := by
  obtain ⟨pre, c0, c1, c2, c3, post, rfl, rfl⟩ : ∃ pre c0 c1 c2 c3 post, l = pre ++ c0 :: c1 :: c2 :: c3 :: post ∧ i = pre.length := by
    refine ⟨l.take i, l[i], l[i + 1], l[i + 2], l[i + 3], l.drop (i + 4), ?_, by simp; omega⟩
    rw [← List.drop_eq_getElem_cons (by omega), ← List.drop_eq_getElem_cons (by omega), ← List.drop_eq_getElem_cons (by omega), ← List.drop_eq_getElem_cons (by omega), List.take_append_drop]
  have b0 : bt (pre ++ c0 :: c1 :: c2 :: c3 :: post) pre.length = c0.toNat := bt_get _ _ _ (by simp)
  have b1 : bt (pre ++ c0 :: c1 :: c2 :: c3 :: post) (pre.length + 1) = c1.toNat := bt_get _ _ _ (by simp)
  have b2 : bt (pre ++ c0 :: c1 :: c2 :: c3 :: post) (pre.length + 2) = c2.toNat := bt_get _ _ _ (by simp)
  have b3 : bt (pre ++ c0 :: c1 :: c2 :: c3 :: post) (pre.length + 3) = c3.toNat := bt_get _ _ _ (by simp)
  unfold turned
  rw [b0, b1, b2, b3]
  have := crc_four_ne b hb pre post c0 c1 c2 c3 d0 d1 d2 d3 h0 h1 h2 h3 hne
  simpa [List.set_append] using this
end Go.Proofs.Ytngacdajagegcaa.sumsBurst
