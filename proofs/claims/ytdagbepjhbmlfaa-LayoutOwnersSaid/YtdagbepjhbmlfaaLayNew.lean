/- The layout that New makes; the document's answers for it. -/
import Derived.Test.YtdagbepjhbmlfaaProg
import Derived.Test.YtdagbepjhbmlfaaLayout
import Derived.Test.YtdagbepjhbmlfaaFlat
import Derived.Deep.AppendLies
import Derived.BigRegion
namespace Go.Proofs.Ytdagbepjhbmlfaa.Y
open Go.RowKit
open Go.Proofs.Ytdagbepjhbmlfaa.I
open Go.Proofs.Ytdagbepjhbmlfaa.D
set_option linter.unusedVariables false

/-- May there be such extents? -/
def May (n : Nat) (z : Nat → Int) : Prop := 1 ≤ n ∧ n ≤ 6 ∧ ∀ k, k < n → 6 ≤ z k ∧ z k ≤ 64
theorem ret_b {a b : Bool} (h : a = b) : Ending.returned (.bool a) = .returned (.bool b) := by rw [h]
section
variable (a : Option Addr) (n cap : Nat) (z : Nat → Int) (w : World)
theorem may_any (h : Ints w a n cap z) :
    Calls Try.prog 46 #[.slice a n cap] w fun e w' => ((May n z ∧ e = .returned (.bool true)) ∨ (¬ May n z ∧ e = .returned (.bool false))) ∧ w = w' := by
  have hm := h.max
  have hl := h.le
  unfold maxLen at hm
  have hcell := Lib.hid h.cell
  clear h
  go_enter Try.func46, Try.ntmps46
  go_wp2_with fail
  go_loopg [7] n (fun g i wr => ∃ k : Nat, k ≤ n ∧ n ≤ k + g ∧ i = .int .i64 k ∧ wr = w ∧ Hid (∀ j, j < k → 6 ≤ z j ∧ z j ≤ 64))
  case atStart => exact ⟨0, by omega, by omega, rfl, rfl, Lib.hid (fun j hj => absurd hj (Nat.not_lt_zero j))⟩
  case round =>
    obtain ⟨k, hk, hg, rfl, rfl, hgood⟩ := hrel
    by_cases hlt : k < n
    · obtain ⟨b, o, rfl, hc⟩ := hcell.out k hlt
      obtain ⟨Z, hZ⟩ : ∃ Z, Hid (z k = Z) := ⟨_, Lib.hid rfl⟩
      rw [hZ.out] at hc
      by_cases h1 : Z < 6
      · have hno : Hid (¬ May n z) := Lib.hid (fun hm => by have := hm.2.2 k hlt; rw [hZ.out] at this; omega)
        clear hgood hZ
        go_wp2_with fail
        go_ret
        exact ⟨.inr ⟨hno.out, rfl⟩, rfl⟩
      · have h2 : 6 ≤ Z := by omega
        have hd1 : decide (Z < 6) = false := by simp; omega
        by_cases h3 : 64 < Z
        · have hno : Hid (¬ May n z) := Lib.hid (fun hm => by have := hm.2.2 k hlt; rw [hZ.out] at this; omega)
          clear hgood hZ h1
          go_wp2_with fail
          go_ret
          exact ⟨.inr ⟨hno.out, rfl⟩, rfl⟩
        · have h4 : Z ≤ 64 := by omega
          have hd2 : decide (64 < Z) = false := by simp; omega
          have hg2 : Hid (∀ j, j < k + 1 → 6 ≤ z j ∧ z j ≤ 64) := Lib.hid (fun j hj => by
            rcases Nat.lt_or_ge j k with h | h
            · exact hgood.out j h
            · obtain rfl : j = k := by omega
              rw [hZ.out]; exact ⟨h2, h4⟩)
          clear hgood hZ h1 h3
          go_wp2_with fail
          go_roundg (gk - 1)
          case measure => omega
          case rel => exact ⟨k + 1, by omega, by omega, by go_num, rfl, hg2⟩
    · obtain rfl : k = n := by omega
      by_cases h1 : k < 1
      · have hno : Hid (¬ May k z) := Lib.hid (fun hm => by have := hm.1; omega)
        clear hgood hlt hcell
        go_wp2_with fail
        go_ret
        exact ⟨.inr ⟨hno.out, rfl⟩, rfl⟩
      · have h2 : 1 ≤ k := by omega
        by_cases h3 : 6 < k
        · have hno : Hid (¬ May k z) := Lib.hid (fun hm => by have := hm.2.1; omega)
          clear hgood hlt hcell h1
          go_wp2_with fail
          go_ret
          exact ⟨.inr ⟨hno.out, ret_b (decide_eq_false (by omega))⟩, rfl⟩
        · have h4 : k ≤ 6 := by omega
          have hyes : Hid (May k z) := Lib.hid ⟨h2, h4, hgood.out⟩
          clear hgood hlt hcell h1 h3
          go_wp2_with fail
          go_ret
          exact ⟨.inl ⟨hyes.out, ret_b (decide_eq_true (by omega))⟩, rfl⟩

/-- The cells of the object. -/
def layL (n : Nat) (f : Nat → Nat) (k : Nat) : List Value := .int .i64 n :: (List.range 7).map fun i => .int .i64 ((if i ≤ k then beg f i else 0 : Nat) : Int)
theorem layL_at (n : Nat) (f : Nat → Nat) (k i : Nat) (hi : i < 7) : (layL n f k)[1 + i]? = some (.int .i64 ((if i ≤ k then beg f i else 0 : Nat) : Int)) := by
  unfold layL
  rw [Nat.add_comm, List.getElem?_cons_succ, List.getElem?_map, List.getElem?_range hi]
  rfl
theorem layL_next (n : Nat) (f : Nat → Nat) (k : Nat) (hk : k + 1 < 7) : splice (layL n f k) (1 + (k + 1)) [.int .i64 (beg f (k + 1) : Nat)] = layL n f (k + 1) := by
  apply List.ext_getElem?
  intro i
  have hl : ∀ k, (layL n f k).length = 8 := fun k => by simp [layL]
  unfold splice
  rcases Nat.lt_or_ge i (1 + (k + 1)) with h | h
  · rw [List.getElem?_append_left (by simp [hl]; omega), List.getElem?_take, if_pos h]
    cases i with
    | zero => rfl
    | succ i =>
      rw [Nat.add_comm i 1, layL_at _ _ _ _ (by omega), layL_at _ _ _ _ (by omega), if_pos (by omega), if_pos (by omega)]
  · rw [List.getElem?_append_right (by simp [hl]; omega), List.length_take, hl, show min (1 + (k + 1)) 8 = 1 + (k + 1) by omega]
    rcases Nat.lt_or_ge i (1 + (k + 1) + 1) with h2 | h2
    · obtain rfl : i = 1 + (k + 1) := by omega
      rw [layL_at _ _ _ _ hk, if_pos (Nat.le_refl _), Nat.sub_self]
      rfl
    · rw [List.getElem?_append_right (by simp; omega), List.getElem?_drop, List.length_singleton, show 1 + (k + 1) + 1 + (i - (1 + (k + 1)) - 1) = i by omega]
      rcases Nat.lt_or_ge i 8 with h3 | h3
      · obtain ⟨j, rfl⟩ : ∃ j, i = 1 + j := ⟨i - 1, by omega⟩
        rw [layL_at _ _ _ _ (by omega), layL_at _ _ _ _ (by omega), if_neg (by omega), if_neg (by omega)]
      · rw [List.getElem?_eq_none (by rw [hl]; omega), List.getElem?_eq_none (by rw [hl]; omega)]
theorem layL_zero (n : Nat) (f : Nat → Nat) : layL n f 0 = [.int .i64 n, .int .i64 0, .int .i64 0, .int .i64 0, .int .i64 0, .int .i64 0, .int .i64 0, .int .i64 0] := by
  simp [layL, List.range_succ, beg]

set_option maxHeartbeats 1000000 in
theorem new_may (h : Ints w a n cap z) (hM : May n z) :
    Calls Try.prog 45 #[.slice a n cap] w fun e w' => e = .returned (.tuple #[.pointer (some ⟨w.heap.size, 0, none⟩), .int .i64 0]) ∧ Lay w' w.heap.size n (fun k => (z k).toNat) ∧ Below w.heap.size w w' := by
  obtain ⟨h1, h6, hz⟩ := hM
  obtain ⟨f, hf⟩ : ∃ f : Nat → Nat, Hid (f = fun k => (z k).toNat) := ⟨_, Lib.hid rfl⟩
  rw [← hf.out]
  have hcell : Hid (∀ k, k < n → 6 ≤ f k ∧ f k ≤ 64 ∧ ∃ b o, a = some ⟨b, o, none⟩ ∧ ∀ w', Below w.heap.size w w' → w'.cell? ⟨b, o + k, none⟩ = some (.int .i64 (f k))) := Lib.hid (fun k hk => by
    have h2 := hz k hk
    have e : ((z k).toNat : Int) = z k := by omega
    obtain ⟨b, o, h3, h4⟩ := h.cell k hk
    rw [hf.out]
    refine ⟨?_, ?_, b, o, h3, fun w' hb => ?_⟩
    · show 6 ≤ (z k).toNat; omega
    · show (z k).toNat ≤ 64; omega
    · show w'.cell? _ = some (.int .i64 ((z k).toNat : Int)); rw [e]; exact keepCell' hb h4)
  have hgood : Hid (∀ k, k < n → 6 ≤ f k ∧ f k ≤ 64) := Lib.hid (fun k hk => ⟨(hcell.out k hk).1, (hcell.out k hk).2.1⟩)
  have hW0 : Hid (Whole (w.alloc (.cells #[.int .i64 n, .int .i64 0, .int .i64 0, .int .i64 0, .int .i64 0, .int .i64 0, .int .i64 0, .int .i64 0] 146)) w.heap.size 146 (layL n f 0)) := by
    rw [layL_zero]; exact Lib.hid (Whole.new w 146 [.int .i64 n, .int .i64 0, .int .i64 0, .int .i64 0, .int .i64 0, .int .i64 0, .int .i64 0, .int .i64 0])
  have hl := h.le
  have hm := h.max
  unfold maxLen at hm
  clear hz h hf
  go_enter Try.func45, Try.ntmps45
  go_wp2_with fail
  go_loopg [21] n (fun g i wr => ∃ k : Nat, k ≤ n ∧ n ≤ k + g ∧ i = .int .i64 k ∧ Hid (Whole wr w.heap.size 146 (layL n f k)) ∧ Below w.heap.size w wr)
  case atStart => exact ⟨0, by omega, by omega, rfl, hW0, allocBelow' _ _⟩
  case round =>
    obtain ⟨k, hk, hg, rfl, hW, hb⟩ := hrel
    clear hW0
    by_cases hlt : k < n
    · obtain ⟨g1, g2, b, o, rfl, hc0⟩ := hcell.out k hlt
      have hc := hc0 wr hb
      have hv : wr.cell? ⟨w.heap.size, 1 + k, none⟩ = some (.int .i64 (beg f k)) := by rw [hW.out.cell, layL_at _ _ _ _ (by omega), if_pos (Nat.le_refl _)]
      have hv2 : wr.cell? ⟨w.heap.size, 1 + (k + 1), none⟩ = some (.int .i64 0) := by rw [hW.out.cell, layL_at _ _ _ _ (by omega), if_neg (by omega)]; rfl
      have hfr := hW.out.frozen (1 + (k + 1))
      have hst := hW.out.store (1 + (k + 1)) [.int .i64 (beg f (k + 1) : Nat)] (by simp [layL]; omega)
      rw [layL_next _ _ _ (by omega)] at hst
      replace hst := Lib.hid hst
      have hbel2 := Lib.hid (hb.setCell (p := ⟨w.heap.size, 1 + (k + 1), none⟩) (Nat.le_refl _) (.int .i64 (beg f (k + 1) : Nat)))
      have hbk := beg_le hgood.out k (by omega)
      have he : beg f (k + 1) = beg f k + (2 + 16 * f k) := rfl
      obtain ⟨A, hA⟩ : ∃ A, Hid (beg f k = A) := ⟨_, Lib.hid rfl⟩
      obtain ⟨C, hC⟩ : ∃ C, Hid (beg f (k + 1) = C) := ⟨_, Lib.hid rfl⟩
      obtain ⟨F, hF⟩ : ∃ F, Hid (f k = F) := ⟨_, Lib.hid rfl⟩
      rw [hA.out] at hv hbk he
      rw [hC.out] at hst hbel2 he
      rw [hF.out] at hc he g1 g2
      have hz0 : (0 : Int) ≤ k := by omega
      have hz : (k : Int) < 7 := by omega
      have hz1 : (k : Int) + 1 < 7 := by omega
      clear hA hC hF hc0 hW
      go_wp2_with fail
      go_region
      rw [show (A : Int) + 2 + 16 * F = (C : Nat) by omega]
      have hst2 : Hid (Whole (wr.setCell ⟨w.heap.size, 1 + (k + 1), none⟩ (.int .i64 (C : Nat))).drew w.heap.size 146 (layL n f (k + 1))) := Lib.hid (Whole.drewN hst.out 1)
      have hb3 := below_drewN' hbel2.out 1
      clear hst hbel2 he
      go_wp2_with fail
      go_roundg (gk - 1)
      case measure => omega
      case rel => exact ⟨k + 1, by omega, by omega, by go_num, hst2, hb3⟩
    · obtain rfl : k = n := by omega
      have hL : Lay wr w.heap.size k f := ⟨h1, h6, hgood.out, hW.out.cell 0, fun i hi => by rw [hW.out.cell, layL_at _ _ _ _ (by omega), if_pos hi]⟩
      clear hW hcell
      go_wp2_with fail
      go_ret2
      exact ⟨rfl, hL, hb⟩
set_option maxHeartbeats 1000000 in
theorem new_not (h : Ints w a n cap z) (hM : ¬ May n z) :
    Calls Try.prog 45 #[.slice a n cap] w fun e w' => e = .returned (.tuple #[.pointer none, .int .i64 1]) ∧ Below w.heap.size w w' := by
  have hl := h.le
  have hm := h.max
  unfold maxLen at hm
  by_cases h1 : n < 1
  · clear hM h
    go_enter Try.func45, Try.ntmps45
    go_wp2_with fail
    go_ret2
    exact ⟨rfl, Below.refl _ _⟩
  by_cases h6 : 6 < n
  · have h2 : 1 ≤ n := by omega
    have hd : decide ((n : Int) < 1) = false := by simp; omega
    clear hM h h1
    go_enter Try.func45, Try.ntmps45
    go_wp2_with fail
    go_ret2
    exact ⟨rfl, Below.refl _ _⟩
  replace h1 : 1 ≤ n := by omega
  replace h6 : n ≤ 6 := by omega
  obtain ⟨f, hf⟩ : ∃ f : Nat → Nat, Hid (f = fun k => (z k).toNat) := ⟨_, Lib.hid rfl⟩
  have hcell : Hid (∀ k, k < n → ∃ b o, a = some ⟨b, o, none⟩ ∧ ∀ w', Below w.heap.size w w' → w'.cell? ⟨b, o + k, none⟩ = some (.int .i64 (z k))) := Lib.hid (fun k hk => by
    obtain ⟨b, o, h3, h4⟩ := h.cell k hk
    exact ⟨b, o, h3, fun w' hb => keepCell' hb h4⟩)
  have hend : Hid ((∀ k, k < n → 6 ≤ z k ∧ z k ≤ 64) → False) := Lib.hid (fun h => hM ⟨h1, h6, h⟩)
  have hW0 : Hid (Whole (w.alloc (.cells #[.int .i64 n, .int .i64 0, .int .i64 0, .int .i64 0, .int .i64 0, .int .i64 0, .int .i64 0, .int .i64 0] 146)) w.heap.size 146 (layL n f 0)) := by
    rw [layL_zero]; exact Lib.hid (Whole.new w 146 [.int .i64 n, .int .i64 0, .int .i64 0, .int .i64 0, .int .i64 0, .int .i64 0, .int .i64 0, .int .i64 0])
  clear h hM
  go_enter Try.func45, Try.ntmps45
  go_wp2_with fail
  go_loopg [21] n (fun g i wr => ∃ k : Nat, k ≤ n ∧ n ≤ k + g ∧ i = .int .i64 k ∧ Hid (Whole wr w.heap.size 146 (layL n f k)) ∧ Below w.heap.size w wr ∧ Hid (∀ j, j < k → 6 ≤ z j ∧ z j ≤ 64))
  case atStart => exact ⟨0, by omega, by omega, rfl, hW0, allocBelow' _ _, Lib.hid (fun j hj => absurd hj (Nat.not_lt_zero j))⟩
  case round =>
    obtain ⟨k, hk, hg, rfl, hW, hb, hgood⟩ := hrel
    clear hW0
    by_cases hlt : k < n
    · obtain ⟨b, o, rfl, hc0⟩ := hcell.out k hlt
      have hc := hc0 wr hb
      clear hc0
      obtain ⟨Z, hZ⟩ : ∃ Z, Hid (z k = Z) := ⟨_, Lib.hid rfl⟩
      rw [hZ.out] at hc
      by_cases h3 : Z < 6
      · clear hgood hW hZ hf
        go_wp2_with fail
        go_ret2
        exact ⟨rfl, hb⟩
      have h4 : 6 ≤ Z := by omega
      have hd1 : decide (Z < 6) = false := by simp; omega
      by_cases h5 : 64 < Z
      · clear hgood hW hZ hf h3
        go_wp2_with fail
        go_ret2
        exact ⟨rfl, hb⟩
      have h7 : Z ≤ 64 := by omega
      have hd2 : decide (64 < Z) = false := by simp; omega
      have hg2 : Hid (∀ j, j < k + 1 → 6 ≤ z j ∧ z j ≤ 64) := Lib.hid (fun j hj => by
        rcases Nat.lt_or_ge j k with h | h
        · exact hgood.out j h
        · obtain rfl : j = k := by omega
          rw [hZ.out]; exact ⟨h4, h7⟩)
      have hfk : f k = Z.toNat := by rw [hf.out]; show (z k).toNat = _; rw [hZ.out]
      obtain ⟨F, rfl⟩ := Int.eq_ofNat_of_zero_le (show 0 ≤ Z by omega)
      rw [Int.toNat_natCast] at hfk
      have hv : wr.cell? ⟨w.heap.size, 1 + k, none⟩ = some (.int .i64 (beg f k)) := by rw [hW.out.cell, layL_at _ _ _ _ (by omega), if_pos (Nat.le_refl _)]
      have hv2 : wr.cell? ⟨w.heap.size, 1 + (k + 1), none⟩ = some (.int .i64 0) := by rw [hW.out.cell, layL_at _ _ _ _ (by omega), if_neg (by omega)]; rfl
      have hfr := hW.out.frozen (1 + (k + 1))
      have hst := (hW.out.store (1 + (k + 1)) [.int .i64 (beg f (k + 1) : Nat)] (by simp [layL]; omega))
      rw [layL_next _ _ _ (by omega)] at hst
      replace hst := Lib.hid hst
      have hbel2 := Lib.hid (hb.setCell (p := ⟨w.heap.size, 1 + (k + 1), none⟩) (Nat.le_refl _) (.int .i64 (beg f (k + 1) : Nat)))
      have hbk := beg_le (f := f) (n := k + 1) (fun j hj => by
        have h := hg2.out j (by omega)
        have e : f j = (z j).toNat := by rw [hf.out]
        omega) k (by omega)
      have he : beg f (k + 1) = beg f k + (2 + 16 * f k) := rfl
      obtain ⟨A, hA⟩ : ∃ A, Hid (beg f k = A) := ⟨_, Lib.hid rfl⟩
      obtain ⟨C, hC⟩ : ∃ C, Hid (beg f (k + 1) = C) := ⟨_, Lib.hid rfl⟩
      rw [hA.out] at hv hbk he
      rw [hC.out] at hst hbel2 he
      rw [hfk] at he
      have hz0 : (0 : Int) ≤ k := by omega
      have hz : (k : Int) < 7 := by omega
      have hz1 : (k : Int) + 1 < 7 := by omega
      clear hA hC hW hfk hZ hgood h3 h5
      replace hf := Lib.hid hf
      go_wp2_with fail
      go_region
      rw [show (A : Int) + 2 + 16 * F = (C : Nat) by omega]
      have hst2 : Hid (Whole (wr.setCell ⟨w.heap.size, 1 + (k + 1), none⟩ (.int .i64 (C : Nat))).drew w.heap.size 146 (layL n f (k + 1))) := Lib.hid (Whole.drewN hst.out 1)
      have hb3 := below_drewN' hbel2.out 1
      clear hst hbel2 he
      go_wp2_with fail
      go_roundg (gk - 1)
      case measure => omega
      case rel => exact ⟨k + 1, by omega, by omega, by go_num, hst2, hb3, hg2⟩
    · obtain rfl : k = n := by omega
      exact (hend.out hgood.out).elim
end
end Go.Proofs.Ytdagbepjhbmlfaa.Y
