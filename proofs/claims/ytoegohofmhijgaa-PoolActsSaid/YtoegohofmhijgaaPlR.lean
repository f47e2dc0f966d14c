/- The definition's pool: its owners' row; First, set, is, Free, Of. -/
import Derived.Test.YtoegohofmhijgaaPlB
import Derived.Test.YtoegohofmhijgaaPlC
namespace Go.Proofs.Ytoegohofmhijgaa.W
open Go.RowKit
open Go.Proofs.Ytoegohofmhijgaa.M Go.Proofs.Ytoegohofmhijgaa.D Go.Proofs.Ytoegohofmhijgaa.Z
set_option linter.unusedVariables false

/-- The document's owners, in block r, that is not below B0. -/
structure Rp (w : World) (B0 r : Nat) (l : List Int) : Prop where
  lo : B0 ≤ r
  at_ : ∀ (k : Nat) (o : Int), l[k]? = some o → w.cell? ⟨r, k, none⟩ = some (.int .i64 o)
theorem Rp.grow {w w' : World} {B0 r : Nat} {l : List Int} (h : Rp w B0 r l) (hb : Below w.heap.size w w') : Rp w' B0 r l :=
  ⟨h.lo, fun k o hk => (hb.cell (World.block_lt_of_cell? w _ (h.at_ k o hk))).trans (h.at_ k o hk)⟩
theorem Rp.mono {w : World} {B0 B1 r : Nat} {l : List Int} (h : Rp w B0 r l) (hb : B1 ≤ B0) : Rp w B1 r l := ⟨Nat.le_trans hb h.lo, h.at_⟩
theorem Rp.kept {w w' : World} {B0 r b a : Nat} {l : List Int} (h : Rp w B0 r l) (h1 : b < B0) (h2 : a < B0) (hk : Kept (Own2 b a) w w') : Rp w' B0 r l :=
  ⟨h.lo, fun k o hk' => by
    have hc := h.at_ k o hk'
    have hl : r < w.heap.size := World.block_lt_of_cell? w _ hc
    have hb := hk.block r hl (fun e => by have := h.lo; rcases e with rfl | rfl <;> omega)
    rw [← hc]
    unfold World.cell?
    simp only [hb]⟩
abbrev rv (r n c : Nat) (ep ct : Int) : Value := .agg #[.slice (some ⟨r, 0, none⟩) n c, .int .i64 ep, .int .i64 ct]
section
variable {w : World} {B0 r : Nat} {l : List Int}
theorem rfirst_hit (h : Rp w B0 r l) (c : Nat) (ep ct : Int) (hn : l.length ≤ 64) (f : Nat) (hf : FirstAt l f) :
    Calls Try.prog 28 #[rv r l.length c ep ct] w fun e w' => e = .returned (.int .i64 (f : Int)) ∧ Below w.heap.size w w' := by
  have hB := (Below.refl w.heap.size w).alloc (Nat.le_refl _) (.cells #[.slice (some ⟨r, 0, none⟩) l.length c, .int .i64 ep, .int .i64 ct] 32)
  have hR := h.grow hB
  obtain ⟨W, hW⟩ : ∃ W, Hid (W = w.alloc (.cells #[.slice (some ⟨r, 0, none⟩) l.length c, .int .i64 ep, .int .i64 ct] 32)) := ⟨_, Lib.hid rfl⟩
  rw [← hW.out] at hB hR
  have hfl : f < l.length := (List.getElem?_eq_some_iff.1 hf.1).1
  have hat := Lib.hid (fun k (hk : k < f) => (⟨l[k]'(by omega), hR.at_ k _ (List.getElem?_eq_getElem (by omega)), fun e => hf.2 k hk (by rw [List.getElem?_eq_getElem (by omega), e])⟩ : ∃ o : Int, W.cell? ⟨r, k, none⟩ = some (.int .i64 o) ∧ o ≠ 0))
  have hff := Lib.hid (hR.at_ f 0 hf.1)
  replace hB := Lib.hid hB
  generalize l.length = n at *
  clear h hR hf
  go_enter Try.func28, Try.ntmps28
  go_wp2_with fail
  rw [← hW.out]
  clear hW
  go_loopg [8] n (fun ga i wr => ∃ k : Nat, k ≤ f ∧ n ≤ k + ga ∧ i = .int .i64 k ∧ wr = W)
  case atStart => exact ⟨0, by omega, by omega, rfl, rfl⟩
  case round =>
    obtain ⟨k, hk, hg, rfl, rfl⟩ := hrel
    have hl2 : (k : Int) < (n : Int) := by omega
    have hl3 : (k : Int) < (n : Int) ∧ 0 ≤ (k : Int) := by omega
    by_cases hlt : k < f
    · obtain ⟨o, ho, h0⟩ := hat.out k hlt
      have h1 : (o == 0) = false := by simp [h0]
      clear h0
      go_wp2_with fail
      go_roundg (gk - 1)
      case measure => omega
      case rel => exact ⟨k + 1, by omega, by omega, by go_num, rfl⟩
    · obtain rfl : k = f := by omega
      have ho := hff.out
      go_wp2_with fail
      go_ret
      exact ⟨rfl, hB.out⟩
theorem rfirst_miss (h : Rp w B0 r l) (c : Nat) (ep ct : Int) (hn : l.length ≤ 64) (hf : Full l) :
    Calls Try.prog 28 #[rv r l.length c ep ct] w fun e w' => e = .returned (.int .i64 (-1)) ∧ Below w.heap.size w w' := by
  have hB := (Below.refl w.heap.size w).alloc (Nat.le_refl _) (.cells #[.slice (some ⟨r, 0, none⟩) l.length c, .int .i64 ep, .int .i64 ct] 32)
  have hR := h.grow hB
  obtain ⟨W, hW⟩ : ∃ W, Hid (W = w.alloc (.cells #[.slice (some ⟨r, 0, none⟩) l.length c, .int .i64 ep, .int .i64 ct] 32)) := ⟨_, Lib.hid rfl⟩
  rw [← hW.out] at hB hR
  have hat := Lib.hid (fun k (hk : k < l.length) => (⟨l[k]'(by omega), hR.at_ k _ (List.getElem?_eq_getElem (by omega)), fun e => hf k (by rw [List.getElem?_eq_getElem (by omega), e])⟩ : ∃ o : Int, W.cell? ⟨r, k, none⟩ = some (.int .i64 o) ∧ o ≠ 0))
  replace hB := Lib.hid hB
  generalize l.length = n at *
  clear h hR hf
  go_enter Try.func28, Try.ntmps28
  go_wp2_with fail
  rw [← hW.out]
  clear hW
  go_loopg [8] n (fun ga i wr => ∃ k : Nat, k ≤ n ∧ n ≤ k + ga ∧ i = .int .i64 k ∧ wr = W)
  case atStart => exact ⟨0, by omega, by omega, rfl, rfl⟩
  case round =>
    obtain ⟨k, hk, hg, rfl, rfl⟩ := hrel
    by_cases hlt : k < n
    · have hl2 : (k : Int) < (n : Int) := by omega
      obtain ⟨o, ho, h0⟩ := hat.out k hlt
      have h1 : (o == 0) = false := by simp [h0]
      clear h0
      go_wp2_with fail
      go_roundg (gk - 1)
      case measure => omega
      case rel => exact ⟨k + 1, by omega, by omega, by go_num, rfl⟩
    · obtain rfl : k = n := by omega
      go_wp2_with fail
      go_ret
      exact ⟨rfl, hB.out⟩
theorem ris_any (n c : Nat) (ep ct s : Int) :
    Calls Try.prog 30 #[rv r n c ep ct, .int .i64 s] w fun e w' => e = .returned (.bool (decide (0 ≤ s ∧ s < (n : Int)))) ∧ Below w.heap.size w w' := by
  have hB := Lib.hid ((Below.refl w.heap.size w).alloc (Nat.le_refl _) (.cells #[.slice (some ⟨r, 0, none⟩) n c, .int .i64 ep, .int .i64 ct] 32))
  go_enter Try.func30, Try.ntmps30
  by_cases h0 : 0 ≤ s
  · rw [show decide (0 ≤ s ∧ s < (n : Int)) = decide (s < (n : Int)) from by simp [h0]]
    go_wp2_with fail
    go_ret
    exact ⟨rfl, hB.out⟩
  · rw [show decide (0 ≤ s ∧ s < (n : Int)) = false from by simp [h0]]
    have h1 : s < 0 := by omega
    go_wp2_with fail
    go_ret
    exact ⟨rfl, hB.out⟩
theorem rfree_any (h : Rp w B0 r l) (c : Nat) (ep ct : Int) (hn : l.length ≤ 64) :
    Calls Try.prog 32 #[rv r l.length c ep ct] w fun e w' => e = .returned (.int .i64 (freeN l : Nat)) ∧ Below w.heap.size w w' := by
  have hB := (Below.refl w.heap.size w).alloc (Nat.le_refl _) (.cells #[.slice (some ⟨r, 0, none⟩) l.length c, .int .i64 ep, .int .i64 ct] 32)
  have hR := h.grow hB
  obtain ⟨W, hW⟩ : ∃ W, Hid (W = w.alloc (.cells #[.slice (some ⟨r, 0, none⟩) l.length c, .int .i64 ep, .int .i64 ct] 32)) := ⟨_, Lib.hid rfl⟩
  rw [← hW.out] at hB hR
  have hat := Lib.hid (fun k (hk : k < l.length) => (⟨l[k]'(by omega), hR.at_ k _ (List.getElem?_eq_getElem (by omega)), freeN_take l k _ (List.getElem?_eq_getElem (by omega))⟩ : ∃ o : Int, W.cell? ⟨r, k, none⟩ = some (.int .i64 o) ∧ freeN (l.take (k + 1)) = freeN (l.take k) + if o = 0 then 1 else 0))
  have hle : Hid (∀ k, freeN (l.take k) ≤ k) := Lib.hid (fun k => Nat.le_trans (freeN_le _) (by rw [List.length_take]; exact Nat.min_le_left _ _))
  have hfin : Hid (freeN (l.take l.length) = freeN l) := Lib.hid (by rw [List.take_length])
  replace hB := Lib.hid hB
  generalize l.length = n at *
  clear h hR
  obtain ⟨T, hT⟩ : ∃ T : Nat → Nat, Hid ((fun k => freeN (l.take k)) = T) := ⟨_, Lib.hid rfl⟩
  have hT2 : ∀ k, freeN (l.take k) = T k := fun k => congrFun hT.out k
  have hT0 : Hid (T 0 = 0) := Lib.hid (by rw [← hT2]; rfl)
  replace hat := Lib.hid (fun k hk => by have h := hat.out k hk; rw [hT2, hT2] at h; exact h)
  replace hle := Lib.hid (fun k => by have h := hle.out k; rw [hT2] at h; exact h)
  rw [hT2] at hfin
  clear hT hT2
  go_enter Try.func32, Try.ntmps32
  go_wp2_with fail
  rw [← hW.out]
  clear hW
  go_loopg [3, 9] n (fun ga v i wr => ∃ k : Nat, k ≤ n ∧ n ≤ k + ga ∧ v = .int .i64 (T k : Nat) ∧ i = .int .i64 k ∧ wr = W)
  case atStart => exact ⟨0, by omega, by omega, by rw [hT0.out]; rfl, rfl, rfl⟩
  case round =>
    obtain ⟨k, hk, hg, rfl, rfl, rfl⟩ := hrel
    by_cases hlt : k < n
    · have hl2 : (k : Int) < (n : Int) := by omega
      obtain ⟨o, ho, hnx⟩ := hat.out k hlt
      have hl := hle.out k
      obtain ⟨f, hf⟩ : ∃ f : Nat, Hid (T k = f) := ⟨_, Lib.hid rfl⟩
      rw [hf.out] at hnx hl ⊢
      by_cases h0 : o = 0
      · have h1 : (o == 0) = true := by simp [h0]
        rw [if_pos h0] at hnx
        replace hnx := Lib.hid hnx
        clear h0 hf
        go_wp2_with fail
        go_roundg (gk - 1)
        case measure => omega
        case rel => exact ⟨k + 1, by omega, by omega, by rw [hnx.out]; go_num, by go_num, rfl⟩
      · have h1 : (o == 0) = false := by simp [h0]
        rw [if_neg h0] at hnx
        replace hnx := Lib.hid hnx
        clear h0 hf
        go_wp2_with fail
        go_roundg (gk - 1)
        case measure => omega
        case rel => exact ⟨k + 1, by omega, by omega, by rw [hnx.out]; rfl, by go_num, rfl⟩
    · obtain rfl : k = n := by omega
      rw [hfin.out]
      go_wp2_with fail
      go_ret
      exact ⟨rfl, hB.out⟩
end
end Go.Proofs.Ytoegohofmhijgaa.W
