/- The document's count of what was let down, by definition; whether just so much is left. -/
import Derived.Test.YtdagbepjhbmlfaaProg
import Derived.Test.YtdagbepjhbmlfaaPolRef
import Derived.Test.YtdagbepjhbmlfaaSpend
namespace Go.Proofs.Ytdagbepjhbmlfaa.Q
open Go.RowKit
open Go.Proofs.Ytdagbepjhbmlfaa.Z
open Go.Proofs.Ytdagbepjhbmlfaa.D (Whole Kept Even)
open Go.Proofs.Ytdagbepjhbmlfaa.L (ret_bool ret_i64)
set_option linter.unusedVariables false

/-- Deeds, as cells. -/
def drow (d : Nat × Nat) : List Value := [.int .i64 (d.1 : Int), .int .i64 (d.2 : Int)]
theorem drow_even (ds : List (Nat × Nat)) : Even 2 (ds.map drow) := fun x hx => by
  obtain ⟨d, _, rfl⟩ := List.mem_map.1 hx
  rfl
/-- The deeds in a slice: below block B nothing of it lies. -/
def Deeds (w : World) (B : Nat) (v : Value) (ds : List (Nat × Nat)) : Prop := w.ownsRow B 82 2 v ds.length (ds.map drow).flatten
/-- How many deeds of a rule are in the window of a tick. -/
def inWin (win now i : Nat) (d : Nat × Nat) : Bool := decide (d.2 = i) && decide (d.1 / win = now / win)
def spentN (win now i : Nat) (ds : List (Nat × Nat)) : Nat := (ds.filter (inWin win now i)).length
theorem spentN_take {win now i : Nat} {ds : List (Nat × Nat)} {k : Nat} {d : Nat × Nat} (h : ds[k]? = some d) : spentN win now i (ds.take (k + 1)) = spentN win now i (ds.take k) + if inWin win now i d then 1 else 0 := by
  unfold spentN
  rw [List.take_add_one, h, show (some d).toList = [d] from rfl, List.filter_append, List.length_append]
  cases hd : inWin win now i d <;> simp [hd]
theorem spentN_le (win now i : Nat) (ds : List (Nat × Nat)) : spentN win now i ds ≤ ds.length := List.length_filter_le _ _
/-- The form of the slice, as the walk goes through it. -/
theorem Deeds.form {w : World} {B : Nat} {v : Value} {ds : List (Nat × Nat)} (h : Deeds w B v ds) : ∃ a cap, v = .slice a ds.length cap ∧ ds.length ≤ cap ∧ cap ≤ maxLen ∧
    ∀ k d, ds[k]? = some d → ∃ b, a = some ⟨b, 0, none⟩ ∧ B ≤ b ∧ b < w.heap.size ∧ w.cell? ⟨b, k * 2, none⟩ = some (.int .i64 (d.1 : Int)) ∧ w.cell? ⟨b, k * 2 + 1, none⟩ = some (.int .i64 (d.2 : Int)) := by
  by_cases h0 : ds.length = 0
  · rcases h.2 with ⟨h1, h2⟩ | ⟨g, cap, cur, h1, h2, h3, h4, h5, _⟩
    · exact ⟨none, 0, by rw [h1, h2], by omega, by decide, fun k d hk => by rw [List.eq_nil_of_length_eq_zero h0] at hk; simp at hk⟩
    · exact ⟨_, cap, h1, h4, h5, fun k d hk => by rw [List.eq_nil_of_length_eq_zero h0] at hk; simp at hk⟩
  · obtain ⟨g, cap, h1, h2, h3, h4, h5, h6⟩ := ownRows (by omega) (drow_even ds) (by simp) h
    refine ⟨some ⟨g, 0, none⟩, cap, h1, h2, h3, fun k d hk => ⟨g, rfl, h4, h5, ?_⟩⟩
    have hr := h6 k (drow d) (by rw [List.getElem?_map, hk]; rfl)
    exact ⟨hr 0 _ rfl, hr 1 _ rfl⟩
theorem div_i64 {x win : Nat} : (x : Int) / (win : Int) = ((x / win : Nat) : Int) := rfl
set_option maxHeartbeats 2000000 in
set_option maxRecDepth 100000 in
theorem spent_any (B : Nat) (v : Value) (ds : List (Nat × Nat)) (i win now : Nat) (w : World) (h : Deeds w B v ds) (hB : B ≤ w.heap.size) (hl : ds.length ≤ 100) (hw1 : 1 ≤ win) (hw2 : win ≤ 1048576) (hnow : now ≤ 100) (hi : i ≤ 100) (hd : ∀ d ∈ ds, d.1 ≤ 100 ∧ d.2 ≤ 100) :
    Calls Try.prog 41 #[v, .int .i64 i, .int .i64 win, .int .i64 now] w fun e w' => e = .returned (.int .i64 (spentN win now i ds)) ∧ Below w.heap.size w w' := by
  obtain ⟨a, cap, rfl, h1, h2, h3⟩ := h.form
  unfold maxLen at h2
  replace h3 := Lib.hid h3
  replace hd := Lib.hid hd
  have hget : Hid (∀ k, k < ds.length → ∃ d, ds[k]? = some d) := Lib.hid (fun k hk => ⟨_, List.getElem?_eq_getElem hk⟩)
  obtain ⟨m, hm⟩ : ∃ m, Hid (ds.length = m) := ⟨_, Lib.hid rfl⟩
  have hle : Hid (∀ k, spentN win now i (ds.take k) ≤ k) := Lib.hid (fun k => Nat.le_trans (spentN_le _ _ _ _) (by simp; omega))
  rw [hm.out] at h1 hl hget ⊢
  have hwz : (win : Int) ≠ 0 := by omega
  have hwz2 : ((win : Int) == 0) = false := by rw [beq_eq_false_iff_ne]; omega
  clear h
  go_enter Try.func41, Try.ntmps41
  go_wp2_with fail
  go_loopg [9, 14] m (fun ga nv j wr => ∃ k : Nat, k ≤ m ∧ m ≤ k + ga ∧ j = .int .i64 k ∧ nv = .int .i64 (spentN win now i (ds.take k)) ∧ Hid (Below w.heap.size w wr))
  case atStart => exact ⟨0, by omega, by omega, rfl, by simp [spentN], Lib.hid (Below.refl _ _)⟩
  case round =>
    obtain ⟨k, hk, hg, rfl, rfl, hb⟩ := hrel
    by_cases hlt : k < m
    · obtain ⟨d, hd1⟩ := hget.out k hlt
      obtain ⟨b, rfl, _, hblt, c0, c1⟩ := h3.out k d hd1
      replace c0 := keepC hb.out c0
      replace c1 := keepC hb.out c1
      have hst := spentN_take (win := win) (now := now) (i := i) hd1
      have hdm := hd.out d (List.mem_of_getElem? hd1)
      have hsk := hle.out k
      obtain ⟨S, hS⟩ : ∃ S, Hid (spentN win now i (ds.take k) = S) := ⟨_, Lib.hid rfl⟩
      obtain ⟨S1, hS1⟩ : ∃ S, Hid (spentN win now i (ds.take (k + 1)) = S) := ⟨_, Lib.hid rfl⟩
      rw [hS.out] at hst hsk ⊢
      rw [hS1.out] at hst
      obtain ⟨dt, dr⟩ := d
      obtain ⟨W2, hW2⟩ : ∃ W, Hid (W = wr.alloc (.cells #[.int .i64 dt, .int .i64 dr] 82)) := ⟨_, Lib.hid rfl⟩
      have hbw : Below wr.heap.size wr W2 := by rw [hW2.out]; exact allocB wr _
      have v0 : W2.cell? ⟨wr.heap.size, 0, none⟩ = some (.int .i64 dt) := by rw [hW2.out]; exact (Whole.new wr 82 [.int .i64 dt, .int .i64 dr]).cell 0
      have v1 : W2.cell? ⟨wr.heap.size, 1, none⟩ = some (.int .i64 dr) := by rw [hW2.out]; exact (Whole.new wr 82 [.int .i64 dt, .int .i64 dr]).cell 1
      have hb2 := Lib.hid (hb.out.trans (hbw.mono hb.out.size))
      have hdt : dt ≤ 100 := hdm.1
      have hdr : dr ≤ 100 := hdm.2
      clear hdm hbw hb hd1
      have g1 : wrap64 ((dt : Int) / (win : Int)) = ((dt / win : Nat) : Int) := by rw [div_i64]; exact IntWalk.wrap64_in _ ⟨Int.le_trans (by decide) (Int.natCast_nonneg _), Int.le_trans (Int.ofNat_le.2 (Nat.le_trans (Nat.div_le_self dt win) hdt)) (by decide)⟩
      have g2 : wrap64 ((now : Int) / (win : Int)) = ((now / win : Nat) : Int) := by rw [div_i64]; exact IntWalk.wrap64_in _ ⟨Int.le_trans (by decide) (Int.natCast_nonneg _), Int.le_trans (Int.ofNat_le.2 (Nat.le_trans (Nat.div_le_self now win) hnow)) (by decide)⟩
      by_cases hri : dr = i
      · have q1 : ((dr : Int) == (i : Int)) = true := by simp [hri]
        by_cases hwin : dt / win = now / win
        · have q2 : (wrap64 ((dt : Int) / (win : Int)) == wrap64 ((now : Int) / (win : Int))) = true := by rw [g1, g2, hwin]; simp
          have hS2 : S1 = S + 1 := by rw [hst]; simp [inWin, hri, hwin]
          clear hri hwin hst g1 g2
          go_wp2_with fail
          rw [← hW2.out]
          clear hW2 c0 c1
          go_quiet (fail)
          have hb3 := Lib.hid (drewB hb2.out nq)
          clear hb2
          go_wp2_with fail
          go_roundg (gk - 1)
          case measure => omega
          case rel => exact ⟨k + 1, by omega, by omega, by go_num, by rw [hS1.out, hS2]; go_num, hb3⟩
        · have q2 : (wrap64 ((dt : Int) / (win : Int)) == wrap64 ((now : Int) / (win : Int))) = false := by rw [g1, g2, beq_eq_false_iff_ne]; omega
          have hS2 : S1 = S := by rw [hst]; simp [inWin, hri, hwin]
          clear hri hwin hst g1 g2
          go_wp2_with fail
          rw [← hW2.out]
          clear hW2 c0 c1
          go_quiet (fail)
          have hb3 := Lib.hid (drewB hb2.out nq)
          clear hb2
          go_wp2_with fail
          go_roundg (gk - 1)
          case measure => omega
          case rel => exact ⟨k + 1, by omega, by omega, by go_num, by rw [hS1.out, hS2], hb3⟩
      · have q1 : ((dr : Int) == (i : Int)) = false := by rw [beq_eq_false_iff_ne]; omega
        have hS2 : S1 = S := by rw [hst]; simp [inWin, hri]
        clear hri hst g1 g2
        go_wp2_with fail
        rw [← hW2.out]
        clear hW2 c0 c1
        go_quiet (fail)
        have hb3 := Lib.hid (drewB hb2.out nq)
        clear hb2
        go_wp2_with fail
        go_roundg (gk - 1)
        case measure => omega
        case rel => exact ⟨k + 1, by omega, by omega, by go_num, by rw [hS1.out, hS2], hb3⟩
    · obtain rfl : k = m := by omega
      have htk : spentN win now i (ds.take k) = spentN win now i ds := by rw [← hm.out, List.take_length]
      rw [htk]
      obtain ⟨S, hS⟩ : ∃ S, Hid (spentN win now i ds = S) := ⟨_, Lib.hid rfl⟩
      rw [hS.out]
      clear htk hle
      go_wp2_with fail
      go_ret
      exact ⟨ret_i64 (by rw [hS.out]), hb.out⟩
end Go.Proofs.Ytdagbepjhbmlfaa.Q
