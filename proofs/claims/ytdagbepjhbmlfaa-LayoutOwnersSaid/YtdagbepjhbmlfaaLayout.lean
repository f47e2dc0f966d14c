/- The layout: its object, and the walks of its methods. -/
import Derived.Test.YtdagbepjhbmlfaaProg
import Derived.Test.YtdagbepjhbmlfaaInts
import Derived.ProofKit
import Derived.Below
import Derived.Outline
import Derived.Lib.Hide
import Derived.WalkSpells
import Derived.WalkLawsBesides
import Derived.Deep.LoopGhost
import Derived.Deep.QuietTactic
import Derived.BigQuiet
namespace Go.Proofs.Ytdagbepjhbmlfaa.Y
open Go.RowKit
open Go.Proofs.Ytdagbepjhbmlfaa.I
set_option linter.unusedVariables false

/-- Where a label's extent begins. -/
def beg (f : Nat → Nat) : Nat → Nat
  | 0 => 0
  | k + 1 => beg f k + (2 + 16 * f k)
theorem beg_le {f : Nat → Nat} {n : Nat} (h : ∀ k, k < n → 6 ≤ f k ∧ f k ≤ 64) : ∀ k, k ≤ n → beg f k ≤ 1026 * k
  | 0, _ => by simp [beg]
  | k + 1, hk => by
    have h1 := beg_le h k (by omega)
    have h2 := h k (by omega)
    simp only [beg]
    omega
theorem beg_mono {f : Nat → Nat} {i k : Nat} (h : i ≤ k) : beg f i ≤ beg f k := by
  induction h with
  | refl => exact Nat.le_refl _
  | step _ ih => simp only [beg]; omega
theorem beg_lt {f : Nat → Nat} {i k : Nat} (h : i < k) : beg f i < beg f k := by
  have := beg_mono (f := f) h
  simp only [beg] at this
  omega
/-- Each sector has one label. -/
theorem beg_one {f : Nat → Nat} {s i k : Nat} (h1 : beg f i ≤ s) (h2 : s < beg f (i + 1)) : (beg f k ≤ s ∧ s < beg f (k + 1)) ↔ k = i := by
  constructor
  · rintro ⟨h3, h4⟩
    rcases Nat.lt_trichotomy k i with h | h | h
    · have := beg_mono (f := f) (show k + 1 ≤ i by omega); omega
    · exact h
    · have := beg_mono (f := f) (show i + 1 ≤ k by omega); omega
  · rintro rfl; exact ⟨h1, h2⟩
structure Lay (w : World) (p n : Nat) (f : Nat → Nat) : Prop where
  pos : 1 ≤ n
  small : n ≤ 6
  good : ∀ k, k < n → 6 ≤ f k ∧ f k ≤ 64
  labels : w.cell? ⟨p, 0, none⟩ = some (.int .i64 n)
  begins : ∀ k, k ≤ n → w.cell? ⟨p, 1 + k, none⟩ = some (.int .i64 (beg f k))
theorem Lay.below {w w' : World} {p n : Nat} {f : Nat → Nat} (h : Lay w p n f) (hb : Below w.heap.size w w') : Lay w' p n f :=
  ⟨h.pos, h.small, h.good, keepCell' hb h.labels, fun k hk => keepCell' hb (h.begins k hk)⟩
theorem allocBelow' (w : World) (o : Obj) : Below w.heap.size w (w.alloc o) := (Below.refl _ _).alloc (Nat.le_refl _) o
theorem below_drewN' {B : Nat} {a w : World} (h : Below B a w) (n : Nat) : Below B a (w.drewN n) := ⟨h.os, h.tape, h.output, h.size, h.block⟩
section
variable (p n : Nat) (f : Nat → Nat) (w : World)
theorem labels_any (h : Lay w p n f) :
    Calls Try.prog 47 #[.pointer (some ⟨p, 0, none⟩)] w fun e w' => e = .returned (.int .i64 n) ∧ w = w' := by
  have h0 := h.labels
  have hs := h.small
  clear h
  go_enter Try.func47, Try.ntmps47
  go_wp2
  go_ret
  exact ⟨rfl, rfl⟩
theorem labels_nil : Calls Try.prog 47 #[.pointer none] w fun e w' => e = .returned (.int .i64 0) ∧ w = w' := by
  go_enter Try.func47, Try.ntmps47
  go_wp2
  go_ret
  exact ⟨rfl, rfl⟩
theorem sectors_any (h : Lay w p n f) :
    Calls Try.prog 48 #[.pointer (some ⟨p, 0, none⟩)] w fun e w' => e = .returned (.int .i64 (beg f n)) ∧ Below w.heap.size w w' := by
  have h0 := h.labels
  have h1 := h.begins n (Nat.le_refl _)
  have hs := h.small
  have hz : (n : Int) < 7 := by omega
  clear h
  go_enter Try.func48, Try.ntmps48
  go_wp2_with fail
  go_quiet (fail)
  go_wp2_with fail
  go_ret
  exact ⟨rfl, below_drewN' (Below.refl _ _) _⟩
theorem sectors_nil : Calls Try.prog 48 #[.pointer none] w fun e w' => e = .returned (.int .i64 0) ∧ w = w' := by
  go_enter Try.func48, Try.ntmps48
  go_wp2
  go_ret
  exact ⟨rfl, rfl⟩
def noSpan : Value := .agg #[.int .i64 0, .int .i64 0]
theorem extent_nil (a : Int) : Calls Try.prog 51 #[.pointer none, .int .i64 a] w fun e w' => e = .returned (.tuple #[.agg #[.int .i64 0, .int .i64 0], .int .i64 7]) ∧ Below w.heap.size w w' := by
  go_enter Try.func51, Try.ntmps51
  go_wp2_with fail
  refine bodyPost_ret (v := .tuple #[.agg #[.int .i64 0, .int .i64 0], .int .i64 7]) (by simp [results, Try.results51, go_sem]) rfl ⟨rfl, allocBelow' _ _⟩
theorem extent_in (k : Nat) (h : Lay w p n f) (hk : k < n) : Calls Try.prog 51 #[.pointer (some ⟨p, 0, none⟩), .int .i64 k] w fun e w' =>
    e = .returned (.tuple #[.agg #[.int .i64 (beg f k), .int .i64 (2 + 16 * f k : Nat)], .int .i64 0]) ∧ Below w.heap.size w w' := by
  have hs := h.small
  have h0 := keepCell' (allocBelow' w (.cells #[.int .i64 0, .int .i64 0] 96)) h.labels
  have h1 := keepCell' (allocBelow' w (.cells #[.int .i64 0, .int .i64 0] 96)) (h.begins k (by omega))
  have h2 := keepCell' (allocBelow' w (.cells #[.int .i64 0, .int .i64 0] 96)) (h.begins (k + 1) (by omega))
  have hb1 := beg_le h.good k (by omega)
  have hb2 := beg_le h.good (k + 1) (by omega)
  have hd1 : ((k : Int) < 0) = False := by simp
  have he : beg f (k + 1) = beg f k + (2 + 16 * f k) := rfl
  obtain ⟨A, hA⟩ : ∃ A, Hid (beg f k = A) := ⟨_, Lib.hid rfl⟩
  obtain ⟨C, hC⟩ : ∃ C, Hid (beg f (k + 1) = C) := ⟨_, Lib.hid rfl⟩
  obtain ⟨D, hD⟩ : ∃ D, Hid (2 + 16 * f k = D) := ⟨_, Lib.hid rfl⟩
  rw [hA.out] at h1 hb1 he
  rw [hC.out] at h2 hb2 he
  rw [hD.out] at he
  rw [hA.out, hD.out]
  have hz : (k : Int) < 7 := by omega
  have hz1 : (k : Int) + 1 < 7 := by omega
  have hlt : (k : Int) < n := by omega
  clear h hd1 hA hC hD
  go_enter Try.func51, Try.ntmps51
  go_wp2_with fail
  refine bodyPost_ret (v := .tuple #[.agg #[.int .i64 A, .int .i64 ((A : Int) + D - A)], .int .i64 0]) (by simp [results, Try.results51, go_sem]) rfl ⟨by rw [show (A : Int) + D - A = D by omega], allocBelow' _ _⟩
theorem extent_out (a : Int) (h : Lay w p n f) (hk : a < 0 ∨ n ≤ a) : Calls Try.prog 51 #[.pointer (some ⟨p, 0, none⟩), .int .i64 a] w fun e w' =>
    e = .returned (.tuple #[.agg #[.int .i64 0, .int .i64 0], .int .i64 1]) ∧ Below w.heap.size w w' := by
  have hs := h.small
  have h0 := keepCell' (allocBelow' w (.cells #[.int .i64 0, .int .i64 0] 96)) h.labels
  clear h
  by_cases h1 : a < 0
  · clear hk
    go_enter Try.func51, Try.ntmps51
    go_wp2_with fail
    refine bodyPost_ret (v := .tuple #[.agg #[.int .i64 0, .int .i64 0], .int .i64 1]) (by simp [results, Try.results51, go_sem]) rfl ⟨rfl, allocBelow' _ _⟩
  · have h2 : 0 ≤ a := by omega
    have h3 : (n : Int) ≤ a := by omega
    have hd : decide (a < 0) = false := by simp; omega
    clear hk h1
    go_enter Try.func51, Try.ntmps51
    go_wp2_with fail
    refine bodyPost_ret (v := .tuple #[.agg #[.int .i64 0, .int .i64 0], .int .i64 1]) (by simp [results, Try.results51, go_sem]) rfl ⟨rfl, allocBelow' _ _⟩
theorem owner_nil (a : Int) : Calls Try.prog 50 #[.pointer none, .int .i64 a] w fun e w' => e = .returned (.tuple #[.int .i64 0, .int .i64 7]) ∧ w = w' := by
  go_enter Try.func50, Try.ntmps50
  go_wp2_with fail
  go_ret2
  exact ⟨rfl, rfl⟩
theorem owner_out (a : Int) (h : Lay w p n f) (hk : a < 0 ∨ beg f n ≤ a) : Calls Try.prog 50 #[.pointer (some ⟨p, 0, none⟩), .int .i64 a] w fun e w' =>
    e = .returned (.tuple #[.int .i64 0, .int .i64 20]) ∧ Below w.heap.size w w' := by
  have hs := Lib.hid (sectors_any p n f w h)
  by_cases h1 : a < 0
  · clear hk hs
    go_enter Try.func50, Try.ntmps50
    go_wp2_with fail
    go_ret2
    exact ⟨rfl, Below.refl _ _⟩
  · have h2 : 0 ≤ a := by omega
    have h3 : (beg f n : Int) ≤ a := by omega
    have hd : decide (a < 0) = false := by simp; omega
    clear hk h1
    go_enter Try.func50, Try.ntmps50
    go_wp2_with fail
    refine hs.out.mono ?_
    rintro e w1 ⟨rfl, hb⟩
    go_wp2_with fail
    go_ret2
    exact ⟨rfl, hb⟩
theorem owner_in (s : Nat) (h : Lay w p n f) (hk : s < beg f n) : Calls Try.prog 50 #[.pointer (some ⟨p, 0, none⟩), .int .i64 s] w fun e w' =>
    ∃ o : Nat, e = .returned (.tuple #[.int .i64 o, .int .i64 0]) ∧ Below w.heap.size w w' ∧ o < n ∧ beg f o ≤ s ∧ s < beg f (o + 1) := by
  have hs := Lib.hid (sectors_any p n f w h)
  have hn := h.small
  have hd : ((s : Int) < 0) = False := by simp
  have hk' : (s : Int) < beg f n := by omega
  have hbn := beg_le h.good n (Nat.le_refl _)
  have hpos := h.pos
  replace h := Lib.hid h
  clear hd
  go_enter Try.func50, Try.ntmps50
  go_wp2_with fail
  refine hs.out.mono ?_
  rintro e w1 ⟨rfl, hb⟩
  clear hs
  go_wp2_with fail
  go_loopg [6] n (fun g i wr => ∃ k : Nat, k < n ∧ n ≤ k + g ∧ i = .int .i64 k ∧ wr = w1 ∧ Hid (beg f k ≤ s))
  case atStart => exact ⟨0, by omega, by omega, rfl, rfl, Lib.hid (Nat.zero_le _)⟩
  case round =>
    obtain ⟨k, hkn, hg, rfl, rfl, hle⟩ := hrel
    have hc := keepCell' hb (h.out.begins (k + 1) (by omega))
    have hbk := beg_le h.out.good (k + 1) (by omega)
    have hz1 : (k : Int) + 1 < 7 := by omega
    obtain ⟨C, hC⟩ : ∃ C, Hid (beg f (k + 1) = C) := ⟨_, Lib.hid rfl⟩
    rw [hC.out] at hc hbk
    by_cases hlt : s < C
    · go_wp2_with fail
      go_ret2
      exact ⟨k, rfl, hb, hkn, hle.out, by rw [hC.out]; exact hlt⟩
    · have hkn1 : k + 1 < n := by
        rcases Nat.lt_or_ge (k + 1) n with h | h
        · exact h
        · exfalso
          have : k + 1 = n := by omega
          rw [this] at hC
          have := hC.out
          omega
      have hge : (C : Int) ≤ s := by omega
      have hle2 : Hid (beg f (k + 1) ≤ s) := Lib.hid (by rw [hC.out]; omega)
      clear hlt hC
      go_wp2_with fail
      go_roundg (gk - 1)
      case measure => omega
      case rel => exact ⟨k + 1, by omega, by omega, by go_num, rfl, hle2⟩
end
end Go.Proofs.Ytdagbepjhbmlfaa.Y
