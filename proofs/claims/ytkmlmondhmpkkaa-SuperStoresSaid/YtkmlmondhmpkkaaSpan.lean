/- The disk: spans, writes that wait of a span, a new disk, a sector of one byte. -/
import Derived.Test.YtkmlmondhmpkkaaProg
import Derived.Test.YtkmlmondhmpkkaaDisk
import Derived.Maps.AppendAt
import Derived.Deep.AppendLies
import Derived.Deep.RegionHeld3
import Derived.Deep.DrawnRows
import Derived.OwnWalk
namespace Go.Proofs.Ytkmlmondhmpkkaa.D
open Go.RowKit
set_option linter.unusedVariables false
attribute [local go_sem ↓] Go.wp_at_zero Go.wp_at_succ

theorem stopHere {p : Prop} (h : Hid p) : p := h
theorem ret_bool {a b : Bool} (h : a = b) : Ending.returned (.bool a) = .returned (.bool b) := by rw [h]
theorem below_drewN {B : Nat} {a w : World} (h : Below B a w) (n : Nat) : Below B a (w.drewN n) := ⟨h.os, h.tape, h.output, h.size, h.block⟩
theorem keepCell {w w' : World} {p : Addr} {v : Value} (hb : Below w.heap.size w w') (h : w.cell? p = some v) : w'.cell? p = some v := (hb.cell (World.block_lt_of_cell? w p h)).trans h
theorem allocBelow (w : World) (o : Obj) : Below w.heap.size w (w.alloc o) := (Below.refl _ _).alloc (Nat.le_refl _) o

section
variable (d g : Nat) (v : Value) (lie : List (List UInt8)) (ws : List (Nat × List UInt8)) (w : World)
theorem span_yes (from_ n : Nat) (h : Dk w d g v lie ws) (hn : from_ + n ≤ lie.length) :
    Calls Try.prog 56 #[.pointer (some ⟨d, 0, none⟩), .agg #[.int .i64 from_, .int .i64 n]] w fun e w' => e = .returned (.int .i64 0) ∧ Below w.heap.size w w' := by
  have h0 := keepCell (allocBelow w (.cells #[.int .i64 from_, .int .i64 n] 117)) h.c0
  have hf := h.few
  have hd1 : decide ((from_ : Int) < 0) = false := by simp
  have hd2 : decide ((n : Int) < 0) = false := by simp
  have hd3 : decide ((lie.length : Int) - (from_ : Int) < (n : Int)) = false := by simp; omega
  go_enter Try.func56, Try.ntmps56
  go_wp2_with fail
  go_quiet (fail)
  go_wp2_with fail
  go_ret
  exact ⟨rfl, below_drewN (allocBelow w _) _⟩
theorem span_no (from_ n : Int) (h : Dk w d g v lie ws) (hbig : from_ ≤ 9223372036854775807) (hn : from_ < 0 ∨ n < 0 ∨ lie.length - from_ < n) :
    Calls Try.prog 56 #[.pointer (some ⟨d, 0, none⟩), .agg #[.int .i64 from_, .int .i64 n]] w fun e w' => e = .returned (.int .i64 20) ∧ Below w.heap.size w w' := by
  have h0 := keepCell (allocBelow w (.cells #[.int .i64 from_, .int .i64 n] 117)) h.c0
  have hf := h.few
  by_cases h1 : from_ < 0
  · clear hn
    go_enter Try.func56, Try.ntmps56
    go_wp2_with fail
    go_quiet (fail)
    go_wp2_with fail
    go_ret
    exact ⟨rfl, below_drewN (allocBelow w _) _⟩
  · have h2 : 0 ≤ from_ := by omega
    have hd1 : decide (from_ < 0) = false := by simp; omega
    by_cases h3 : n < 0
    · clear hn h1
      go_enter Try.func56, Try.ntmps56
      go_wp2_with fail
      go_quiet (fail)
      go_wp2_with fail
      go_ret
      exact ⟨rfl, below_drewN (allocBelow w _) _⟩
    · have h4 : 0 ≤ n := by omega
      have hd2 : decide (n < 0) = false := by simp; omega
      have h5 : (lie.length : Int) - from_ < n := by omega
      have hd3 : decide ((lie.length : Int) - from_ < n) = true := by simp; omega
      clear hn h1 h3
      go_enter Try.func56, Try.ntmps56
      go_wp2_with fail
      go_quiet (fail)
      go_wp2_with fail
      go_ret
      exact ⟨rfl, below_drewN (allocBelow w _) _⟩
theorem span_nil (from_ n : Int) :
    Calls Try.prog 56 #[.pointer none, .agg #[.int .i64 from_, .int .i64 n]] w fun e w' => e = .returned (.int .i64 7) ∧ Below w.heap.size w w' := by
  go_enter Try.func56, Try.ntmps56
  go_wp2_with fail
  go_ret
  exact ⟨rfl, allocBelow w _⟩
end

/-- Is a write one of a span's? -/
def spanB (from_ n : Nat) (p : Nat × List UInt8) : Bool := decide (from_ ≤ p.1) && decide (p.1 < from_ + n)
theorem has_any (from_ n : Nat) (p : Nat × List UInt8) (w : World) (h1 : from_ + n ≤ 8192) (h2 : p.1 < 8192) :
    Calls Try.prog 64 #[.agg #[.int .i64 from_, .int .i64 n], .agg (wrow p).toArray] w fun e w' => e = .returned (.bool (spanB from_ n p)) ∧ Below w.heap.size w w' := by
  have hw0 : (wrow p)[0]? = some (.int .i64 (p.1 : Int)) := rfl
  have hbel : Below w.heap.size w ((w.alloc (.cells #[.int .i64 from_, .int .i64 n] 117)).alloc (.cells (wrow p).toArray 124)) := (allocBelow w _).alloc (by simp) _
  by_cases g1 : from_ ≤ p.1
  · by_cases g2 : p.1 < from_ + n
    · have hfin := Lib.hid (show spanB from_ n p = true by simp [spanB, g1, g2])
      have hd : decide ((p.1 : Int) - (from_ : Int) < (n : Int)) = true := by simp; omega
      go_enter Try.func64, Try.ntmps64
      go_wp2_with fail
      go_ret
      exact ⟨ret_bool hfin.out.symm, hbel⟩
    · have hfin := Lib.hid (show spanB from_ n p = false by simp [spanB, g2])
      have hd : decide ((p.1 : Int) - (from_ : Int) < (n : Int)) = false := by simp; omega
      have hd2 : decide (from_ ≤ p.1) = true := by simp [g1]
      clear g2
      go_enter Try.func64, Try.ntmps64
      go_wp2_with fail
      go_ret
      exact ⟨ret_bool hfin.out.symm, hbel⟩
  · have hfin := Lib.hid (show spanB from_ n p = false by simp [spanB, g1])
    have hd : decide (from_ ≤ p.1) = false := by simp [g1]
    go_enter Try.func64, Try.ntmps64
    go_wp2_with fail
    go_ret
    exact ⟨ret_bool hfin.out.symm, hbel⟩
end Go.Proofs.Ytkmlmondhmpkkaa.D
