/- The document's owners of all sectors, one behind the other; the small case that each statement of layer 6 asks. -/
import Derived.Test.YtdagbepjhbmlfaaProg
import Derived.Test.YtdagbepjhbmlfaaLayNew
import Derived.Test.YtdagbepjhbmlfaaStops
import Derived.Deep.AppendLies
import Derived.Deep.DrawnRows
namespace Go.Proofs.Ytdagbepjhbmlfaa.Y
open Go.RowKit
open Go.Proofs.Ytdagbepjhbmlfaa.I
open Go.Proofs.Ytdagbepjhbmlfaa.D
open Go.Proofs.Ytdagbepjhbmlfaa.Z
set_option linter.unusedVariables false

theorem infoInt' : (Try.prog.info? 3).map (fun i => (i.zero, i.size, i.bytes)) = some (some (.int .i64 0), 1, 8) := by kernel_rfl
/-- The labels of the sectors of the first k extents. -/
def ownL (f : Nat → Nat) : Nat → List Value
  | 0 => []
  | k + 1 => ownL f k ++ List.replicate (2 + 16 * f k) (.int .i64 k)
theorem ownL_len (f : Nat → Nat) : ∀ k, (ownL f k).length = beg f k
  | 0 => rfl
  | k + 1 => by simp [ownL, beg, ownL_len f k]
theorem ownL_at (f : Nat → Nat) (o s : Nat) (h1 : beg f o ≤ s) (h2 : s < beg f (o + 1)) : ∀ k, o < k → (ownL f k)[s]? = some (.int .i64 o)
  | 0, h => absurd h (Nat.not_lt_zero _)
  | k + 1, h => by
    rcases Nat.lt_or_ge o k with h3 | h3
    · have := beg_mono (f := f) (show o + 1 ≤ k by omega)
      rw [ownL, List.getElem?_append_left (by rw [ownL_len]; omega)]
      exact ownL_at f o s h1 h2 k h3
    · obtain rfl : o = k := by omega
      rw [ownL, List.getElem?_append_right (by rw [ownL_len]; exact h1), ownL_len, List.getElem?_replicate, if_pos (by simp only [beg] at h2; omega)]
set_option maxHeartbeats 2000000 in
set_option maxRecDepth 100000 in
theorem owners_any (a : Option Addr) (n cap : Nat) (z : Nat → Int) (w : World) (h : Ints w a n cap z) (hM : May n z) :
    Calls Try.prog 49 #[.slice a n cap] w fun e w' => ∃ gg c2, e = .returned (.slice (some ⟨gg, 0, none⟩) (beg (fun k => (z k).toNat) n) c2) ∧ Below w.heap.size w w' ∧ c2 ≤ maxLen ∧ w.heap.size ≤ gg ∧
      ∀ o s, o < n → beg (fun k => (z k).toNat) o ≤ s → s < beg (fun k => (z k).toNat) (o + 1) → w'.cell? ⟨gg, s, none⟩ = some (.int .i64 o) := by
  obtain ⟨is, his, hs0, hs1, hs2⟩ := info_parts infoInt'
  obtain ⟨h1, h6, hz⟩ := hM
  obtain ⟨f, hf⟩ : ∃ f : Nat → Nat, Hid (f = fun k => (z k).toNat) := ⟨_, Lib.hid rfl⟩
  rw [← hf.out]
  have hcell : Hid (∀ k, k < n → 6 ≤ f k ∧ f k ≤ 64 ∧ ∃ b o, a = some ⟨b, o, none⟩ ∧ ∀ w', Below w.heap.size w w' → w'.cell? ⟨b, o + k, none⟩ = some (.int .i64 (f k))) := Lib.hid (fun k hk => by
    have h2 := hz k hk
    have e : ((z k).toNat : Int) = z k := by omega
    obtain ⟨b, o, h3, h4⟩ := h.cell k hk
    rw [hf.out]
    refine ⟨?_, ?_, b, o, h3, fun w' hb => ?_⟩
    · show 6 ≤ (z k).toNat; omega
    · show (z k).toNat ≤ 64; omega
    · show w'.cell? _ = some (.int .i64 ((z k).toNat : Int)); rw [e]; exact keepCell' hb h4)
  have hgood : Hid (∀ k, k < n → 6 ≤ f k ∧ f k ≤ 64) := Lib.hid (fun k hk => ⟨(hcell.out k hk).1, (hcell.out k hk).2.1⟩)
  have hl := h.le
  have hm := h.max
  unfold maxLen at hm
  clear hz h hf
  go_enter Try.func49, Try.ntmps49
  go_wp2_with fail
  go_loopg [3, 8] n (fun ga v i wr => ∃ k : Nat, k ≤ n ∧ n ≤ k + ga ∧ i = .int .i64 k ∧ Below w.heap.size w wr ∧ Hid (wr.ownsRow w.heap.size 3 1 v (beg f k) (ownL f k)))
  case atStart => exact ⟨0, by omega, by omega, rfl, Below.refl _ _, Lib.hid ⟨rfl, .inl ⟨rfl, rfl⟩⟩⟩
  case round =>
    obtain ⟨k, hk, hg, rfl, hb, how⟩ := hrel
    generalize wr = wo at *
    generalize gk = g0 at *
    have hbk := beg_le hgood.out k hk
    by_cases hlt : k < n
    · obtain ⟨g1, g2, b, o, rfl, hc0⟩ := hcell.out k hlt
      have hc := hc0 wo hb
      clear hc0
      obtain ⟨F, hF⟩ : ∃ F, Hid (f k = F) := ⟨_, Lib.hid rfl⟩
      obtain ⟨A, hA⟩ : ∃ A, Hid (beg f k = A) := ⟨_, Lib.hid rfl⟩
      rw [hF.out] at hc g1 g2
      rw [hA.out] at hbk how
      go_wp2_with fail
      go_loopg [3, 16] (2 + 16 * F) (fun ga v i wr => ∃ j : Nat, j ≤ 2 + 16 * F ∧ 2 + 16 * F ≤ j + ga ∧ i = .int .i64 j ∧ Below w.heap.size w wr ∧ Hid (wr.ownsRow w.heap.size 3 1 v (A + j) (ownL f k ++ List.replicate j (.int .i64 k))))
      case atStart => exact ⟨0, by omega, by omega, rfl, hb, by simpa using how⟩
      case round =>
        clear hb how
        obtain ⟨j, hj, hjg, rfl, hb, how⟩ := hrel
        generalize wr = wq at *
        generalize gk = g1 at *
        have hsq := hb.size
        by_cases hlj : j < 2 + 16 * F
        · go_wp2_with (with_reducible refine zAppend _ _ _ rfl ?_)
          refine Lib.hid ?_
          refine wpList_append_lies _ rfl _ _ 74 rfl w.heap.size 3 is _ 1 8 Try.underlying74 his hs0 hs1 hs2 rfl (by omega) _ _ _ rfl (how.out.alloc _) _ 1 1 [.int .i64 k] rfl rfl (World.news_of_block (heap_alloc_new _ _)) (by simp [Value.oneCell']) (by omega) (by unfold maxLen; omega) (by omega) (by simp; omega) (wq.heap.size + 1) (by simp) ?_
          intro gg cap2 w5 hown5 hgrow5 hat5 hlt5
          have hb5 : Below w.heap.size w w5 := (((Kept.of_below (own := fun b => w.heap.size ≤ b) hb).alloc _).grown hgrow5 (fun k hk => .inl (ownFar how.out k hk))).below (Nat.le_refl _) (fun _ h => h)
          have hown6 : Hid (w5.ownsRow w.heap.size 3 1 (.slice (some ⟨gg, 0, none⟩) (A + (j + 1)) cap2) (A + (j + 1)) (ownL f k ++ List.replicate (j + 1) (.int .i64 k))) := by
            rw [List.replicate_succ', ← List.append_assoc]; exact Lib.hid hown5
          clear hown5 hgrow5 hat5 how hb
          go_wp2_with fail
          go_roundg (g1 - 1)
          case measure => omega
          case rel => exact ⟨j + 1, by omega, by omega, by go_num, hb5, hown6⟩
        · obtain rfl : j = 2 + 16 * F := by omega
          have how2 : Hid (wq.ownsRow w.heap.size 3 1 u3 (beg f (k + 1)) (ownL f (k + 1))) := by
            rw [beg, ownL, hF.out, hA.out]; exact how
          clear how
          go_wp2_with fail
          go_roundg (g0 - 1)
          case measure => omega
          case rel => exact ⟨k + 1, by omega, by omega, by go_num, hb, how2⟩
    · obtain rfl : k = n := by omega
      have hp : 0 < beg f k := beg_lt (i := 0) (by omega)
      obtain ⟨gg, c2, rfl, hc1, hc2, hB, hlt2, hcl⟩ := ownCells hp how.out
      clear how hcell
      unfold maxLen at hc2
      replace hcl := Lib.hid hcl
      go_wp2_with fail
      go_ret
      exact ⟨gg, c2, rfl, hb, hc2, hB, fun o s ho h1 h2 => hcl.out s _ (ownL_at f o s h1 h2 k ho)⟩
end Go.Proofs.Ytdagbepjhbmlfaa.Y
