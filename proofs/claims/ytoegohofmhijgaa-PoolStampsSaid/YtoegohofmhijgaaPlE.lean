/- A pool of which nothing is taken: taken and given back. -/
import Derived.Test.YtoegohofmhijgaaPlD
namespace Go.Proofs.Ytoegohofmhijgaa.W
open Go.RowKit
open Go.Proofs.Ytoegohofmhijgaa.M Go.Proofs.Ytoegohofmhijgaa.D Go.Proofs.Ytoegohofmhijgaa.Z
set_option linter.unusedVariables false

/-- n free segments; the first one somebody's. -/
def zeroL (n : Nat) : List Int := List.replicate n 0
def oneL (n : Nat) (g : Int) : List Int := (zeroL n).set 0 g
theorem zero_first (n : Nat) (h : 0 < n) : FirstAt (zeroL n) 0 := ⟨by simp [zeroL, h], fun j hj => by omega⟩
theorem zero_take (n ep ct : Nat) (g : Int) (h : 0 < n) (hg : okG g = true) (hc : ct < 65536) : Tk (zeroL n) ep ct g 0 (65536 * ep + ct) 0 (oneL n g) (ct + 1) :=
  .inr (.inr ⟨hg, 0, zero_first n h, hc, rfl, rfl, rfl, rfl, rfl⟩)
theorem one_give (n : Nat) (g : Int) (h : 0 < n) (hg : g ≠ 0) : Gv (oneL n g) 0 0 (zeroL n) := by
  refine .inr (.inr ⟨⟨by omega, by simp [oneL, zeroL]; omega⟩, ⟨g, by simp [oneL, zeroL, h], hg⟩, rfl, ?_⟩)
  exact (take_give (zeroL n) 0 g (zero_first n h)).symm
theorem zeroL_len (n : Nat) : (zeroL n).length = n := by simp [zeroL]
theorem oneL_len (n : Nat) (g : Int) : (oneL n g).length = n := by simp [oneL, zeroL]
theorem zero_free (n : Nat) : freeN (zeroL n) = n := by simp [freeN, zeroL]
theorem one_free (n : Nat) (g : Int) (h : 0 < n) (hg : g ≠ 0) : freeN (oneL n g) = n - 1 := by
  obtain ⟨m, rfl⟩ : ∃ m, n = m + 1 := ⟨n - 1, by omega⟩
  have e : oneL (m + 1) g = g :: List.replicate m 0 := by simp [oneL, zeroL, List.replicate_succ]
  rw [e]
  simp [freeN, hg]
/-- How many are a log's, where the first one alone is taken. -/
theorem one_of (n : Nat) (g h : Int) (hn : 0 < n) (h0 : h ≠ 0) (hg : g ≠ 0) : (ofP (oneL n g) h).length = if g = h then 1 else 0 := by
  unfold ofP
  rw [if_neg h0]
  obtain ⟨m, rfl⟩ : ∃ m, n = m + 1 := ⟨n - 1, by omega⟩
  have e : oneL (m + 1) g = g :: List.replicate m 0 := by simp [oneL, zeroL, List.replicate_succ]
  have key : ∀ k, k ≤ m → (ofL ((oneL (m + 1) g).take (k + 1)) h).length = if g = h then 1 else 0 := by
    intro k
    induction k with
    | zero =>
      intro _
      rw [ofL_take (oneL (m + 1) g) 0 g h (by rw [e]; rfl)]
      by_cases hh : g = h
      · rw [if_pos hh, if_pos hh]; rfl
      · rw [if_neg hh, if_neg hh]; rfl
    | succ k ih =>
      intro hk
      have ih := ih (by omega)
      rw [ofL_take (oneL (m + 1) g) (k + 1) 0 h (by rw [e, List.getElem?_cons_succ, List.getElem?_replicate, if_pos (by omega)]), if_neg (fun x => h0 x.symm)]
      exact ih
  have hfin := key m (Nat.le_refl _)
  rw [List.take_of_length_le (by rw [oneL_len]; omega)] at hfin
  exact hfin
theorem one_good (n : Nat) (g : Int) (hg : okG g = true) : GoodO (oneL n g) := (GoodO.zero n).set 0 (okG_good hg)
/-- A pool as it was new, but for its count; taken, and given back. -/
theorem zero_calls (n ep : Nat) (hn : 0 < n) (h64 : n ≤ 64) (he : ep < 65536) (g : Int) (hg : okG g = true) {w : World} {b a ct : Nat} (h : Pl w b a (zeroL n) ep ct) (hc : ct < 65536) :
    Calls Try.prog 11 #[.pointer (some ⟨b, 0, none⟩), .int .i64 g] w fun e w' => e = .returned (.tuple #[.int .i64 0, .int .u32 ((65536 * ep + ct : Nat) : Int), .int .i64 0]) ∧ Pl w' b a (oneL n g) ep (ct + 1) ∧ Kept (Own2 b a) w w' :=
  ptake_any h (by rw [zeroL_len]; exact h64) he (zero_take n ep ct g hn hg hc)
theorem one_calls (n ep : Nat) (hn : 0 < n) (g : Int) (hg : okG g = true) {w : World} {b a ct : Nat} (h : Pl w b a (oneL n g) ep ct) :
    Calls Try.prog 16 #[.pointer (some ⟨b, 0, none⟩), .int .i64 0] w fun e w' => e = .returned (.int .i64 0) ∧ Pl w' b a (zeroL n) ep ct ∧ Kept (Own2 b a) w w' :=
  pgive_any h (one_give n g hn (by rintro rfl; exact absurd hg (by decide)))
end Go.Proofs.Ytoegohofmhijgaa.W
