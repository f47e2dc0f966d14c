/- Rows of texts compared; the pieces, one behind the other. -/
import Derived.Test.YtgomhnclmacleaaProg
import Derived.Test.YtgomhnclmacleaaPiecesB
import Derived.Deep.QuietTactic
import Derived.BigQuiet
namespace Go.Proofs.Ytgomhnclmacleaa.W
open Go.RowKit
open Go.Proofs.Ytgomhnclmacleaa.M
open Go.Proofs.Ytgomhnclmacleaa.D
open Go.Proofs.Ytgomhnclmacleaa.Z
set_option linter.unusedVariables false

/-- The first k pieces, one behind the other. -/
def joined (l : List UInt8) : Nat → List UInt8
  | 0 => []
  | k + 1 => joined l k ++ pcL l k
theorem joined_eq (l : List UInt8) (k : Nat) : joined l k = l.take (k * 52) ++ List.replicate (k * 52 - l.length) 0 := by
  induction k with
  | zero => simp [joined]
  | succ k ih =>
    show joined l k ++ pcL l k = _
    rw [ih]
    unfold pcL
    rw [Nat.succ_mul]
    by_cases h : k * 52 ≤ l.length
    · rw [show k * 52 - l.length = 0 from by omega, List.replicate_zero, List.append_nil, ← List.append_assoc, ← List.take_add, List.length_take, List.length_drop]
      congr 2
      omega
    · rw [List.drop_eq_nil_of_le (by omega), List.take_nil, List.nil_append, List.take_of_length_le (by omega), List.take_of_length_le (by omega), List.append_assoc, List.replicate_append_replicate]
      congr 2
      simp; omega
theorem joined_len (l : List UInt8) (k : Nat) : (joined l k).length = k * 52 := by
  rw [joined_eq, List.length_append, List.length_take, List.length_replicate]; omega
theorem joined_take (l : List UInt8) (k : Nat) (h : l.length ≤ k * 52) : (joined l k).take l.length = l := by
  rw [joined_eq, List.take_of_length_le h, List.take_append_of_le_length (Nat.le_refl _), List.take_length]

/-- A slice of the first n pieces. -/
def StrsIn (w : World) (va : Option Addr) (n : Nat) (l : List UInt8) : Prop := ∀ k, k < n → ∃ b, va = some ⟨b, 0, none⟩ ∧ b < w.heap.size ∧ w.cell? ⟨b, k, none⟩ = some (.string (B (pcL l k)))
theorem StrsIn.below {w w' : World} {va : Option Addr} {n : Nat} {l : List UInt8} (h : StrsIn w va n l) (hb : Below w.heap.size w w') : StrsIn w' va n l := fun k hk =>
  let ⟨b, e, h1, h2⟩ := h k hk
  ⟨b, e, Nat.lt_of_lt_of_le h1 hb.size, (hb.cell (p := ⟨b, k, none⟩) h1).trans h2⟩

set_option maxRecDepth 100000 in
theorem texts_same (va vb : Option Addr) (n ca cb : Nat) (l : List UInt8) (w : World) (hn : n ≤ 1000) (ha : StrsIn w va n l) (hb : StrsIn w vb n l) :
    Calls Try.prog 49 #[.slice va n ca, .slice vb n cb] w fun e w' => e = .returned (.bool true) ∧ Below w.heap.size w w' := by
  replace ha := Lib.hid ha
  replace hb := Lib.hid hb
  go_enter Try.func49, Try.ntmps49
  go_wp2_with fail
  go_loopg [13] n (fun ga i wr => ∃ k : Nat, k ≤ n ∧ n ≤ k + ga ∧ i = .int .i64 k ∧ Hid (Below w.heap.size w wr))
  case atStart => exact ⟨0, by omega, by omega, rfl, Lib.hid (Below.refl _ _)⟩
  case round =>
    obtain ⟨k, hk, hg, rfl, hbl⟩ := hrel
    by_cases hlt : k < n
    · obtain ⟨b, rfl, _, c0⟩ := ha.out.below hbl.out k hlt
      obtain ⟨b2, rfl, _, c1⟩ := hb.out.below hbl.out k hlt
      obtain ⟨X, hX⟩ : ∃ X, Hid (B (pcL l k) = X) := ⟨_, Lib.hid rfl⟩
      rw [hX.out] at c0 c1
      have hxx : (X.toList == X.toList) = true := by simp
      have hk0 : (0 : Int) ≤ (k : Int) := by omega
      have hkn : (k : Int) < (n : Int) := by omega
      clear hX
      go_wp2_with fail
      go_quiet (fail)
      go_wp2_with fail
      go_roundg (gk - 1)
      case measure => omega
      case rel => exact ⟨k + 1, by omega, by omega, by go_num, Lib.hid (drewB' hbl.out nq)⟩
    · obtain rfl : k = n := by omega
      go_wp2_with fail
      go_ret
      exact ⟨rfl, hbl.out⟩
end Go.Proofs.Ytgomhnclmacleaa.W
