/- Tables of labels as slices of slices of bools, and the walks of the functions that only read them. -/
import Derived.Test.YtdagbepjhbmlfaaProg
import Derived.Test.YtdagbepjhbmlfaaLatMath
import Derived.Test.YtdagbepjhbmlfaaLattice
import Derived.Deep.MidRow
namespace Go.Proofs.Ytdagbepjhbmlfaa.L
open Go.RowKit
set_option linter.unusedVariables false

/-- A table of any rows. -/
structure Tab (w : World) (a : Option Addr) (len : Nat) (A : Nat → Option Addr) (L C : Nat → Nat) (B : Nat → Nat → Bool) : Prop where
  most : len ≤ maxLen
  at_ : ∀ r, r < len → ∃ bk off, a = some ⟨bk, off, none⟩ ∧ w.cell? ⟨bk, off + r, none⟩ = some (.slice (A r) (L r) (C r)) ∧ L r ≤ maxLen
  el : ∀ r c, r < len → c < L r → ∃ rb ro, A r = some ⟨rb, ro, none⟩ ∧ w.cell? ⟨rb, ro + c, none⟩ = some (.bool (B r c))
/-- A square one, of n labels. -/
structure Sq (w : World) (bk off n : Nat) (F : Nat → Nat → Bool) : Prop where
  small : n ≤ 6
  rows : ∃ R O C : Nat → Nat, (∀ r, r < n → w.cell? ⟨bk, off + r, none⟩ = some (.slice (some ⟨R r, O r, none⟩) n (C r))) ∧ ∀ r j, r < n → j < n → w.cell? ⟨R r, O r + j, none⟩ = some (.bool (F r j))
theorem Sq.get {w : World} {bk off n : Nat} {F : Nat → Nat → Bool} (h : Sq w bk off n F) : ∀ r j, r < n → j < n → ∃ rb ro c, w.cell? ⟨bk, off + r, none⟩ = some (.slice (some ⟨rb, ro, none⟩) n c) ∧ w.cell? ⟨rb, ro + j, none⟩ = some (.bool (F r j)) :=
  fun r j hr hj => let ⟨R, O, C, h1, h2⟩ := h.rows; ⟨R r, O r, C r, h1 r hr, h2 r j hr hj⟩
theorem keepCell {w w' : World} {p : Addr} {v : Value} (hb : Below w.heap.size w w') (h : w.cell? p = some v) : w'.cell? p = some v := (hb.cell (World.block_lt_of_cell? w p h)).trans h
theorem Sq.below {w w' : World} {bk off n : Nat} {F : Nat → Nat → Bool} (h : Sq w bk off n F) (hb : Below w.heap.size w w') : Sq w' bk off n F :=
  ⟨h.small, let ⟨R, O, C, h1, h2⟩ := h.rows; ⟨R, O, C, fun r hr => keepCell hb (h1 r hr), fun r j hr hj => keepCell hb (h2 r j hr hj)⟩⟩
theorem Tab.below {w w' : World} {a : Option Addr} {len : Nat} {A : Nat → Option Addr} {L C : Nat → Nat} {B : Nat → Nat → Bool} (h : Tab w a len A L C B) (hb : Below w.heap.size w w') : Tab w' a len A L C B :=
  ⟨h.most, fun r hr => let ⟨bk, off, h0, h1, h2⟩ := h.at_ r hr; ⟨bk, off, h0, keepCell hb h1, h2⟩, fun r c hr hc => let ⟨rb, ro, h0, h1⟩ := h.el r c hr hc; ⟨rb, ro, h0, keepCell hb h1⟩⟩

section
variable (a : Option Addr) (len cap : Nat) (A : Nat → Option Addr) (L C : Nat → Nat) (B : Nat → Nat → Bool) (w : World)
theorem istable_any (h : Tab w a len A L C B) :
    Calls Try.prog 71 #[.slice a len cap] w fun e w' => e = .returned (.bool (sqB len L)) ∧ w = w' := by
  have hm := h.most
  unfold maxLen at hm
  by_cases h0 : len < 1
  · have hfin := Lib.hid (show sqB len L = false by simp [sqB]; omega)
    go_enter Try.func71, Try.ntmps71
    go_wp2_with fail
    go_ret
    exact ⟨ret_bool hfin.out.symm, rfl⟩
  · have h1 : 1 ≤ len := by omega
    by_cases h6 : 6 < len
    · have hfin := Lib.hid (show sqB len L = false by simp [sqB]; omega)
      clear h0
      go_enter Try.func71, Try.ntmps71
      go_wp2_with fail
      go_ret
      exact ⟨ret_bool hfin.out.symm, rfl⟩
    · have h6' : len ≤ 6 := by omega
      have hlarge : Hid (∀ b, allB len (fun r => L r == len) = b → sqB len L = b) := fun b hb => by simp [sqB, h6', hb]; omega
      clear h0 h6
      go_enter Try.func71, Try.ntmps71
      go_wp2_with fail
      go_loopg [16] len (fun g i wr => ∃ k : Nat, k ≤ len ∧ len ≤ k + g ∧ i = .int .i64 k ∧ Hid (∀ j, j < k → (L j == len) = true) ∧ w = wr)
      case atStart => exact ⟨0, by omega, by omega, rfl, fun j hj => by omega, rfl⟩
      case round =>
        obtain ⟨k, hk, hg, rfl, hj, rfl⟩ := hrel
        by_cases hlt : k < len
        · obtain ⟨bk, off, rfl, hc, hL⟩ := h.at_ k hlt
          unfold maxLen at hL
          by_cases hr : L k = len
          · have hb : ((L k : Int) != (len : Int)) = false := by simp [hr]
            replace hr := Lib.hid hr
            go_wp2_with fail
            go_roundg (gk - 1)
            case measure => omega
            case rel => exact ⟨k + 1, by omega, by omega, by go_num, upto hj.out (by simpa using hr.out), rfl⟩
          · have hb : ((L k : Int) != (len : Int)) = true := by rw [bne_iff_ne]; omega
            have hfin := Lib.hid (hlarge.out false (allB_false hlt (by simpa using hr)))
            clear hr
            go_wp2_with fail
            go_ret
            exact ⟨ret_bool hfin.out.symm, rfl⟩
        · obtain rfl : k = len := by omega
          have hfin := Lib.hid (hlarge.out true (allB_true hj.out))
          go_wp2_with fail
          go_ret
          exact ⟨ret_bool hfin.out.symm, rfl⟩

theorem square_any (h : Tab w a len A L C B) :
    Calls Try.prog 67 #[.slice a len cap] w fun e w' => e = .returned (.bool (sqB len L)) ∧ w = w' := by
  have hm := h.most
  unfold maxLen at hm
  go_enter Try.func67, Try.ntmps67
  go_wp2_with fail
  go_loopg [7] len (fun g i wr => ∃ k : Nat, k ≤ len ∧ len ≤ k + g ∧ i = .int .i64 k ∧ Hid (∀ j, j < k → (L j == len) = true) ∧ w = wr)
  case atStart => exact ⟨0, by omega, by omega, rfl, fun j hj => by omega, rfl⟩
  case round =>
    obtain ⟨k, hk, hg, rfl, hj, rfl⟩ := hrel
    by_cases hlt : k < len
    · obtain ⟨bk, off, rfl, hc, hL⟩ := h.at_ k hlt
      unfold maxLen at hL
      by_cases hr : L k = len
      · have hb : ((L k : Int) != (len : Int)) = false := by simp [hr]
        replace hr := Lib.hid hr
        go_wp2_with fail
        go_roundg (gk - 1)
        case measure => omega
        case rel => exact ⟨k + 1, by omega, by omega, by go_num, upto hj.out (by simpa using hr.out), rfl⟩
      · have hb : ((L k : Int) != (len : Int)) = true := by rw [bne_iff_ne]; omega
        have hfin := Lib.hid (show sqB len L = false by rw [sqB, allB_false hlt (by simpa using hr), Bool.and_false])
        clear hr
        go_wp2_with fail
        go_ret
        exact ⟨ret_bool hfin.out.symm, rfl⟩
    · obtain rfl : k = len := by omega
      have hall := allB_true hj.out
      have hfin := Lib.hid (show sqB k L = (decide (0 < k) && decide (k ≤ 6)) by rw [sqB, hall, Bool.and_true])
      clear hall
      by_cases h0 : 0 < k
      · by_cases h6 : k ≤ 6
        · go_wp2_with fail
          go_ret
          exact ⟨ret_bool (by rw [hfin.out]; simp [h0, h6]; omega), rfl⟩
        · have hd : decide ((k : Int) ≤ 6) = false := by simp; omega
          have h6' : 6 < k := by omega
          clear h6
          go_wp2_with fail
          go_ret
          exact ⟨ret_bool (by rw [hfin.out]; simp; omega), rfl⟩
      · obtain rfl : k = 0 := by omega
        go_wp2_with fail
        go_ret
        exact ⟨ret_bool (by rw [hfin.out]; simp), rfl⟩
end
end Go.Proofs.Ytdagbepjhbmlfaa.L
