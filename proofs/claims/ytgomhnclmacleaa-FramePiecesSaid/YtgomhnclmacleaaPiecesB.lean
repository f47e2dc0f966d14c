/- The walk of the definition of Pieces of layer 8. -/
import Derived.Test.YtgomhnclmacleaaProg
import Derived.Test.YtgomhnclmacleaaPiecesA
import Derived.Deep.AppendLies
import Derived.WalkSpells
import Derived.WalkLawsBesides
namespace Go.Proofs.Ytgomhnclmacleaa.W
open Go.RowKit
open Go.Proofs.Ytgomhnclmacleaa.M
open Go.Proofs.Ytgomhnclmacleaa.D
open Go.Proofs.Ytgomhnclmacleaa.Z
set_option linter.unusedVariables false

/-- The first n pieces, as cells. -/
def strs (l : List UInt8) (n : Nat) : List Value := (List.range n).map fun i => .string (B (pcL l i))
theorem strs_len (l : List UInt8) (n : Nat) : (strs l n).length = n := by simp [strs]
theorem strs_succ (l : List UInt8) (n : Nat) : strs l (n + 1) = strs l n ++ [.string (B (pcL l n))] := by
  unfold strs; rw [List.range_succ, List.map_append]; rfl
theorem pcRow_full (l : List UInt8) (n : Nat) : pcRow l n n = strs l n := by
  unfold pcRow strs
  apply List.map_congr_left
  intro i hi
  rw [if_pos (List.mem_range.1 hi)]
theorem pcL_drop (l : List UInt8) (i : Nat) : pcL (l.drop 52) i = pcL l (i + 1) := by
  unfold pcL
  rw [List.drop_drop, show 52 + i * 52 = (i + 1) * 52 from by omega]
theorem pcL_zero (s : ByteArray) (h : 52 ≤ s.size) : s.extract 0 52 = B (pcL s.data.toList 0) := by
  rw [← B_of (s.extract 0 52), ext_list]
  unfold pcL
  have hl : s.data.toList.length = s.size := by simp
  rw [Nat.zero_mul, List.drop_zero, show 52 - (s.data.toList.take 52).length = 0 from by rw [List.length_take, hl]; omega]
  simp
theorem pcL_small (s : ByteArray) (h : s.size ≤ 52) : s ++ B (List.replicate (52 - s.size) 0) = B (pcL s.data.toList 0) := by
  conv => lhs; rw [← B_of s]
  rw [B_append, B_of]
  unfold pcL
  have hl : s.data.toList.length = s.size := by simp
  rw [Nat.zero_mul, List.drop_zero, List.take_of_length_le (by rw [hl]; exact h), hl]
theorem infoByte' : (Try.prog.info? 5).map (fun i => (i.zero, i.size, i.bytes)) = some (some (.int .u8 0), 1, 1) := by kernel_rfl
theorem zero_row (W : World) (n : Nat) : ByteRow (W.alloc (.cells (madeCells #[Value.int .u8 0] n) 5)) W.heap.size (List.replicate n 0) := by
  have h : (madeCells #[Value.int .u8 0] n).toList = bytesV (List.replicate n 0) := by
    apply List.ext_getElem?
    intro i
    unfold bytesV
    by_cases h : i < n
    · simp [madeCells, h, Nat.mod_one, u8v]
    · simp [madeCells, h]
  have hW := Whole.new W 5 (bytesV (List.replicate n 0))
  rw [← h] at hW
  have hW2 : Whole (W.alloc (.cells (madeCells #[Value.int .u8 0] n) 5)) W.heap.size 5 (madeCells #[Value.int .u8 0] n).toList := hW
  rw [h] at hW2
  exact rowOf hW2
theorem empty_yes {s : ByteArray} (h : s.size = 0) : s.toList.isEmpty = true := by
  have hz : s.toList.length = s.size := by rw [ByteArray.toList_eq]; simp
  rw [List.isEmpty_iff, List.eq_nil_iff_length_eq_zero]; omega
theorem empty_no {s : ByteArray} (h : s.size ≠ 0) : s.toList.isEmpty = false := by
  have hz : s.toList.length = s.size := by rw [ByteArray.toList_eq]; simp
  cases hh : s.toList with
  | nil => rw [hh] at hz; simp at hz; omega
  | cons => rfl
theorem own_cells {w : World} {B0 n : Nat} {t : TypeId} {v : Value} {l : List UInt8} (h : w.ownsRow B0 t 1 v n (strs l n)) :
    ∃ va vc, v = .slice va n vc ∧ ∀ k, k < n → ∃ b, va = some ⟨b, 0, none⟩ ∧ B0 ≤ b ∧ b < w.heap.size ∧ w.cell? ⟨b, k, none⟩ = some (.string (B (pcL l k))) := by
  rcases Nat.eq_zero_or_pos n with h0 | h0
  · subst h0
    rcases h with ⟨_, ⟨rfl, _⟩ | ⟨g, cap, cur, rfl, _⟩⟩
    · exact ⟨none, 0, rfl, fun k hk => absurd hk (Nat.not_lt_zero k)⟩
    · exact ⟨_, cap, rfl, fun k hk => absurd hk (Nat.not_lt_zero k)⟩
  · obtain ⟨gg, cap, rfl, _, _, hB, hlt, hc⟩ := ownCells h0 h
    exact ⟨_, cap, rfl, fun k hk => ⟨gg, rfl, hB, hlt, hc k _ (by unfold strs; simp [hk])⟩⟩
theorem one_own (W : World) (base : Nat) (e : TypeId) (v : Value) (h : base ≤ W.heap.size) : (W.alloc (.cells #[v] e)).ownsRow base e 1 (.slice (some ⟨W.heap.size, 0, none⟩) 1 1) 1 [v] :=
  ⟨rfl, .inr ⟨W.heap.size, 1, #[v], rfl, h, heap_alloc_new W _, Nat.le_refl _, by unfold maxLen; omega, rfl, rfl⟩⟩
/-- A row of strings that a call made. -/
def MadeStrs (w : World) (l : List UInt8) (n : Nat) (e : Ending) (w' : World) : Prop :=
  ∃ v, e = .returned v ∧ w'.ownsRow w.heap.size 9 1 v n (strs l n) ∧ Below w.heap.size w w'

set_option maxRecDepth 100000 in
set_option maxHeartbeats 4000000 in
theorem rpieces_any (f : Nat) : ∀ (s : ByteArray) (w : World), s.size ≤ 52 * f → f ≤ 20 →
    Calls Try.prog 50 #[.string s] w (MadeStrs w s.data.toList ((s.size + 51) / 52)) := by
  induction f with
  | zero =>
    intro s w h _
    have h0 : s.size = 0 := by omega
    rw [h0]
    have hE := empty_yes h0
    go_enter Try.func50, Try.ntmps50
    go_wp2_with fail
    go_ret
    exact ⟨_, rfl, ⟨rfl, .inl ⟨rfl, rfl⟩⟩, Below.refl _ _⟩
  | succ f ih =>
    intro s w h hf
    by_cases h0 : s.size = 0
    · rw [h0]
      have hE := empty_yes h0
      go_enter Try.func50, Try.ntmps50
      go_wp2_with fail
      go_ret
      exact ⟨_, rfl, ⟨rfl, .inl ⟨rfl, rfl⟩⟩, Below.refl _ _⟩
    have hE := empty_no h0
    by_cases h52 : s.size ≤ 52
    · obtain ⟨n, hn⟩ : ∃ n, Hid (52 - s.size = n) := ⟨_, Lib.hid rfl⟩
      have hsub : (52 : Int) - (s.size : Int) = (n : Int) := by have := hn.out; omega
      have hn52 : n ≤ 52 := by have := hn.out; omega
      have hmk := fun W => run_make_row' (P := Try.prog) 89 5 (.int .u8 0) 1 Try.underlying89 infoByte' rfl .i64 .i64 n (by omega) (by omega) W
      have hcv := fun W : World => (zero_row W n).back (P := Try.prog) 89 9 5 n n (by simp) Try.underlying89 Try.underlying5 Try.underlying9
      have hBz : (B (List.replicate n 0)).size = n := by rw [B_size]; simp
      have hsm := Lib.hid (pcL_small s h52)
      rw [hn.out] at hsm
      have hq : Hid ((s.size + 51) / 52 = 1) := Lib.hid (by omega)
      rw [hq.out]
      go_enter Try.func50, Try.ntmps50
      go_wp2_with fail
      rw [hsm.out]
      go_ret
      have ho := one_own (w.alloc (.cells (madeCells #[Value.int .u8 0] n) 5)) w.heap.size 9 (.string (B (pcL s.data.toList 0))) (by simp)
      rw [show (w.alloc (.cells (madeCells #[Value.int .u8 0] n) 5)).heap.size = w.heap.size + 1 from by simp] at ho
      exact ⟨_, rfl, ho, grewAlloc (grewAlloc (Below.refl _ _) _) _⟩
    · obtain ⟨m, hm⟩ : ∃ m, Hid ((s.size + 51) / 52 = m + 1) := ⟨(s.size + 51) / 52 - 1, Lib.hid (by omega)⟩
      have hm20 : m ≤ 20 := by have := hm.out; omega
      rw [hm.out]
      have hb1 : (52 : Int) ≤ (s.size : Int) := by omega
      have hTd : (s.extract 52 s.size).data.toList = s.data.toList.drop 52 := by
        rw [ext_list, List.take_of_length_le (by simp)]
      have hTz : (s.extract 52 s.size).size = s.size - 52 := by simp
      have hrec := fun W => ih (s.extract 52 s.size) W (by omega) (by omega)
      rw [hTd, show ((s.extract 52 s.size).size + 51) / 52 = m from by rw [hTz]; have := hm.out; omega] at hrec
      replace hrec := Lib.hid hrec
      have hz0 := Lib.hid (pcL_zero s (by omega))
      obtain ⟨is, hsi⟩ : ∃ i, Try.prog.info? 9 = some i ∧ i.zero = some (.string ⟨#[]⟩) ∧ i.size = 1 ∧ i.bytes = 16 := by
        obtain ⟨i, hi, hzz⟩ := Option.map_eq_some_iff.1 infoStr
        simp only [Prod.mk.injEq] at hzz
        exact ⟨i, hi, hzz.1, hzz.2.1, hzz.2.2⟩
      obtain ⟨his, hs0, hs1, hs2⟩ := hsi
      clear hTd hTz ih
      go_enter Try.func50, Try.ntmps50
      go_wp2_with fail
      rw [hz0.out]
      refine (hrec.out _).mono ?_
      rintro e w1 ⟨v0, rfl, hown, hb1⟩
      have hf1 : (w.alloc (.cells #[.string (B (pcL s.data.toList 0))] 9)).heap.size = w.heap.size + 1 := by simp
      rw [hf1] at hown
      obtain ⟨va, vc, rfl, hcells⟩ := own_cells hown
      have hstart : Hid (w1.ownsRow w.heap.size 9 1 (.slice (some ⟨w.heap.size, 0, none⟩) 1 1) (0 + 1) (strs s.data.toList (0 + 1))) :=
        Lib.hid (own_of_kept (own := fun _ => False) (one_own w w.heap.size 9 (.string (B (pcL s.data.toList 0))) (Nat.le_refl _)) (Kept.of_below hb1) (fun _ _ h => h))
      have hbw1 := Lib.hid (grew (grewAlloc (Below.refl _ w) (.cells #[.string (B (pcL s.data.toList 0))] 9)) hb1)
      have hs1w : w.heap.size + 1 ≤ w1.heap.size := by have := hb1.size; omega
      replace hcells := Lib.hid hcells
      clear hown hb1 hrec
      go_wp2_with fail
      go_loopg [3, 26] m (fun ga v i wr => ∃ k : Nat, k ≤ m ∧ m ≤ k + ga ∧ i = .int .i64 k ∧ Hid (Kept (fun q => q = w.heap.size ∨ w1.heap.size ≤ q) w1 wr) ∧ Hid (wr.ownsRow w.heap.size 9 1 v (k + 1) (strs s.data.toList (k + 1))) ∧ Hid (∀ q, v.ownBlock = some q → q = w.heap.size ∨ w1.heap.size ≤ q))
      case atStart => exact ⟨0, by omega, by omega, rfl, Lib.hid (Kept.refl _ _), hstart, Lib.hid (fun q hq => .inl (Eq.symm (show w.heap.size = q by simpa [Value.ownBlock] using hq)))⟩
      case round =>
        obtain ⟨k, hk, hg, rfl, hkr, how, hob⟩ := hrel
        generalize wr = wo at *
        have hso : w1.heap.size ≤ wo.heap.size := hkr.out.size
        by_cases hlt : k < m
        · obtain ⟨b, rfl, hbF, hbL, hc⟩ := hcells.out k hlt
          have c0 : wo.cell? ⟨b, k, none⟩ = some (.string (B (pcL s.data.toList (k + 1)))) := (World.cell?_of_block (hkr.out.block b hbL (by omega))).trans (by rw [hc, pcL_drop])
          obtain ⟨X, hX⟩ : ∃ X, Hid (B (pcL s.data.toList (k + 1)) = X) := ⟨_, Lib.hid rfl⟩
          rw [hX.out] at c0
          clear hc
          go_wp2_with (with_reducible refine zAppend _ _ _ rfl ?_)
          refine Lib.hid ?_
          refine wpList_append_lies _ rfl _ _ 29 rfl w.heap.size 9 is _ 1 16 Try.underlying29 his hs0 hs1 hs2 rfl (by omega) _ _ _ rfl (how.out.alloc _) _ 1 1 [.string X] rfl rfl (World.news_of_block (heap_alloc_new _ _)) (by simp [Value.oneCell']) (by omega) (by unfold maxLen; omega) (by omega) (by simp; omega) (wo.heap.size + 1) (by simp) ?_
          intro gg cap2 w5 hown5 hgrow5 hat5 hlt5
          have hk5 : Hid (Kept (fun q => q = w.heap.size ∨ w1.heap.size ≤ q) w1 w5) := Lib.hid ((hkr.out.alloc _).grown hgrow5 (fun q hq => .inl (hob.out q hq)))
          have hob5 : Hid (∀ q, (Value.slice (some ⟨gg, 0, none⟩) (k + 1 + 1) cap2).ownBlock = some q → q = w.heap.size ∨ w1.heap.size ≤ q) := Lib.hid (fun q hq => by
            have e : gg = q := by simpa [Value.ownBlock] using hq
            subst e
            rcases hat5 with h | h
            · exact hob.out _ h
            · exact .inr (by omega))
          have hown6 : Hid (w5.ownsRow w.heap.size 9 1 (.slice (some ⟨gg, 0, none⟩) (k + 1 + 1) cap2) (k + 1 + 1) (strs s.data.toList (k + 1 + 1))) := by
            rw [strs_succ s.data.toList (k + 1), hX.out]
            exact Lib.hid hown5
          clear hown5 hgrow5 hat5 how hkr hob
          go_wp2_with fail
          go_roundg (gk - 1)
          case measure => omega
          case rel => exact ⟨k + 1, by omega, by omega, by go_num, hk5, hown6, hob5⟩
        · obtain rfl : k = m := by omega
          go_wp2_with fail
          go_ret
          exact ⟨_, rfl, how.out, hbw1.out.trans (hkr.out.below (B := w.heap.size) (by omega) (fun q hq => by omega))⟩
end Go.Proofs.Ytgomhnclmacleaa.W
