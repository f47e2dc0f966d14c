/- The walk of frame.Pieces. The walk of the definition of Pieces of layer 8. Rows of texts compared; the pieces, one behind the other. -/
import Derived.Test.YtgogackkeodciabGreatDoorProg
import Derived.Test.YtgogackkeodciabGreatDoorFrame
import Derived.Test.YtgogackkeodciabGreatDoorCopyStr
import Derived.Deep.OwnRows
import Derived.Deep.RegionLaw
import Derived.Lib.LazyBuf
import Derived.Deep.Draws
import Derived.Deep.LoopGhost
import Derived.Deep.MidRow
import Derived.Deep.AppendLies
import Derived.WalkSpells
import Derived.WalkLawsBesides
import Derived.Deep.QuietTactic
import Derived.BigQuiet
section
namespace Go.Proofs.YtgogackkeodciabGreatDoor.W
open Go.RowKit
open Go.Proofs.YtgogackkeodciabGreatDoor.M
open Go.Proofs.YtgogackkeodciabGreatDoor.D
open Go.Proofs.YtgogackkeodciabGreatDoor.Z
set_option linter.unusedVariables false

/-- Piece i. -/
def pcL (l : List UInt8) (i : Nat) : List UInt8 := (l.drop (i * 52)).take 52 ++ List.replicate (52 - ((l.drop (i * 52)).take 52).length) 0
theorem pcL_len (l : List UInt8) (i : Nat) : (pcL l i).length = 52 := by unfold pcL; simp; omega
/-- The first j of n pieces. -/
def pcRow (l : List UInt8) (n j : Nat) : List Value := (List.range n).map fun i => .string (if i < j then B (pcL l i) else ⟨#[]⟩)
theorem pcRow_len (l : List UInt8) (n j : Nat) : (pcRow l n j).length = n := by simp [pcRow]
theorem pcRow_set (l : List UInt8) (n j : Nat) : (pcRow l n j).set j (.string (B (pcL l j))) = pcRow l n (j + 1) := by
  apply List.ext_getElem?
  intro i
  unfold pcRow
  rw [List.getElem?_set]
  by_cases h : j = i
  · subst h
    rw [if_pos rfl]
    by_cases h2 : j < n
    · simp [h2]
    · simp [h2]
  · rw [if_neg h]
    by_cases h2 : i < n
    · simp only [List.getElem?_map, List.getElem?_range h2, Option.map_some]
      by_cases h3 : i < j
      · rw [if_pos h3, if_pos (by omega)]
      · rw [if_neg h3, if_neg (by omega)]
    · simp [h2]
theorem splice_zero (x : List UInt8) (h : x.length ≤ 52) : splice (List.replicate 52 (Value.int .u8 0)) 0 (bytesV x) = bytesV (x ++ List.replicate (52 - x.length) 0) := by
  unfold splice
  rw [bytesV_len, List.take_zero, List.nil_append, Nat.zero_add, List.drop_replicate]
  unfold bytesV
  rw [List.map_append, List.map_replicate]
  rfl

theorem splice_one (cur : List Value) (j : Nat) (v : Value) (h : j < cur.length) : splice cur j [v] = cur.set j v := by
  unfold splice
  rw [List.set_eq_take_append_cons_drop, if_pos h]
  rfl
theorem made_pc (l : List UInt8) (n : Nat) : (madeCells #[Value.string ⟨#[]⟩] n).toList = pcRow l n 0 := by
  apply List.ext_getElem?
  intro i
  unfold pcRow
  by_cases h : i < n
  · simp [madeCells, h, Nat.mod_one]
  · simp [madeCells, h]
theorem infoStr : (Tryz.prog.info? 9).map (fun i => (i.zero, i.size, i.bytes)) = some (some (.string ⟨#[]⟩), 1, 16) := by kernel_rfl
set_option maxRecDepth 100000 in
set_option maxHeartbeats 4000000 in
theorem pieces_any (s : ByteArray) (w : World) (hs : s.size ≤ 1000) :
    Calls Tryz.prog 104 #[.string s] w fun e w' => ∃ n : Nat, n = (s.size + 51) / 52 ∧ e = .returned (.slice (some ⟨w.heap.size, 0, none⟩) n n) ∧ Whole w' w.heap.size 9 (pcRow s.data.toList n n) ∧ Below w.heap.size w w' := by
  obtain ⟨n, hn, hn2⟩ : ∃ n : Nat, manyI s.size = n ∧ n = (s.size + 51) / 52 := ⟨(s.size + 51) / 52, by unfold manyI; split <;> omega, rfl⟩
  have hn20 : n ≤ 20 := by omega
  replace hn := Lib.hid hn
  have hmk := fun W => run_make_row' (P := Tryz.prog) 138 9 (.string ⟨#[]⟩) 16 Tryz.underlying138 infoStr rfl .i64 .i64 n (by omega) (by omega) W
  obtain ⟨cs, hcs⟩ : ∃ cs, Hid (madeCells #[Value.string ⟨#[]⟩] n = cs) := ⟨_, Lib.hid rfl⟩
  have hcl : Hid (cs.toList = pcRow s.data.toList n 0) := Lib.hid (by rw [← hcs.out]; exact made_pc _ n)
  rw [hcs.out] at hmk
  have hW0 : Hid (Whole (w.alloc (.cells cs 9)) w.heap.size 9 (pcRow s.data.toList n 0) ∧ Below w.heap.size w (w.alloc (.cells cs 9))) := Lib.hid ⟨by
    have := Whole.new w 9 (pcRow s.data.toList n 0)
    rw [← hcl.out] at this ⊢
    exact this, (Below.refl _ _).alloc (Nat.le_refl _) _⟩
  replace hn2 := Lib.hid hn2
  go_enter Tryz.func104, Tryz.ntmps104
  go_wp2_with fail
  refine (many_any _ _ (by omega) (by omega)).mono ?_
  rintro e w1 ⟨rfl, rfl⟩
  rw [hn.out]
  go_wp2_with fail
  clear hmk
  go_loopg [12] n (fun ga i wr => ∃ j : Nat, j ≤ n ∧ n ≤ j + ga ∧ i = .int .i64 j ∧ Hid (Whole wr w.heap.size 9 (pcRow s.data.toList n j) ∧ Below w.heap.size w wr))
  case atStart => exact ⟨0, by omega, by omega, rfl, hW0⟩
  case round =>
    obtain ⟨j, hj, hg, rfl, hrow⟩ := hrel
    by_cases hlt : j < n
    · have hjs : j * 52 ≤ s.size := by have := hn2.out; omega
      have hb1 : (0 : Int) ≤ (j : Int) * 52 := by omega
      have hb2 : (j : Int) * 52 ≤ (s.size : Int) := by omega
      have hw1 : IntKind.i64.wrap ((j : Int) * 52) = (j : Int) * 52 := IntWalk.i64_in _ (by omega)
      go_wp2_with fail
      have hZ := Whole.new wr 156 ([.int .u8 0, .int .u8 0, .int .u8 0, .int .u8 0, .int .u8 0, .int .u8 0, .int .u8 0, .int .u8 0, .int .u8 0, .int .u8 0, .int .u8 0, .int .u8 0, .int .u8 0, .int .u8 0, .int .u8 0, .int .u8 0, .int .u8 0, .int .u8 0, .int .u8 0, .int .u8 0, .int .u8 0, .int .u8 0, .int .u8 0, .int .u8 0, .int .u8 0, .int .u8 0, .int .u8 0, .int .u8 0, .int .u8 0, .int .u8 0, .int .u8 0, .int .u8 0, .int .u8 0, .int .u8 0, .int .u8 0, .int .u8 0, .int .u8 0, .int .u8 0, .int .u8 0, .int .u8 0, .int .u8 0, .int .u8 0, .int .u8 0, .int .u8 0, .int .u8 0, .int .u8 0, .int .u8 0, .int .u8 0, .int .u8 0, .int .u8 0, .int .u8 0, .int .u8 0] : List Value)
      have hlt0 := hrow.out.1.lt
      have hR := hrow.out.1.alloc (.cells #[.int .u8 0, .int .u8 0, .int .u8 0, .int .u8 0, .int .u8 0, .int .u8 0, .int .u8 0, .int .u8 0, .int .u8 0, .int .u8 0, .int .u8 0, .int .u8 0, .int .u8 0, .int .u8 0, .int .u8 0, .int .u8 0, .int .u8 0, .int .u8 0, .int .u8 0, .int .u8 0, .int .u8 0, .int .u8 0, .int .u8 0, .int .u8 0, .int .u8 0, .int .u8 0, .int .u8 0, .int .u8 0, .int .u8 0, .int .u8 0, .int .u8 0, .int .u8 0, .int .u8 0, .int .u8 0, .int .u8 0, .int .u8 0, .int .u8 0, .int .u8 0, .int .u8 0, .int .u8 0, .int .u8 0, .int .u8 0, .int .u8 0, .int .u8 0, .int .u8 0, .int .u8 0, .int .u8 0, .int .u8 0, .int .u8 0, .int .u8 0, .int .u8 0, .int .u8 0] 156)
      have hB := hrow.out.2.alloc hrow.out.2.size (.cells #[.int .u8 0, .int .u8 0, .int .u8 0, .int .u8 0, .int .u8 0, .int .u8 0, .int .u8 0, .int .u8 0, .int .u8 0, .int .u8 0, .int .u8 0, .int .u8 0, .int .u8 0, .int .u8 0, .int .u8 0, .int .u8 0, .int .u8 0, .int .u8 0, .int .u8 0, .int .u8 0, .int .u8 0, .int .u8 0, .int .u8 0, .int .u8 0, .int .u8 0, .int .u8 0, .int .u8 0, .int .u8 0, .int .u8 0, .int .u8 0, .int .u8 0, .int .u8 0, .int .u8 0, .int .u8 0, .int .u8 0, .int .u8 0, .int .u8 0, .int .u8 0, .int .u8 0, .int .u8 0, .int .u8 0, .int .u8 0, .int .u8 0, .int .u8 0, .int .u8 0, .int .u8 0, .int .u8 0, .int .u8 0, .int .u8 0, .int .u8 0, .int .u8 0, .int .u8 0] 156)
      generalize wr.alloc (.cells #[.int .u8 0, .int .u8 0, .int .u8 0, .int .u8 0, .int .u8 0, .int .u8 0, .int .u8 0, .int .u8 0, .int .u8 0, .int .u8 0, .int .u8 0, .int .u8 0, .int .u8 0, .int .u8 0, .int .u8 0, .int .u8 0, .int .u8 0, .int .u8 0, .int .u8 0, .int .u8 0, .int .u8 0, .int .u8 0, .int .u8 0, .int .u8 0, .int .u8 0, .int .u8 0, .int .u8 0, .int .u8 0, .int .u8 0, .int .u8 0, .int .u8 0, .int .u8 0, .int .u8 0, .int .u8 0, .int .u8 0, .int .u8 0, .int .u8 0, .int .u8 0, .int .u8 0, .int .u8 0, .int .u8 0, .int .u8 0, .int .u8 0, .int .u8 0, .int .u8 0, .int .u8 0, .int .u8 0, .int .u8 0, .int .u8 0, .int .u8 0, .int .u8 0, .int .u8 0] 156) = W at hZ hR hB ⊢
      rw [show ([.int .u8 0, .int .u8 0, .int .u8 0, .int .u8 0, .int .u8 0, .int .u8 0, .int .u8 0, .int .u8 0, .int .u8 0, .int .u8 0, .int .u8 0, .int .u8 0, .int .u8 0, .int .u8 0, .int .u8 0, .int .u8 0, .int .u8 0, .int .u8 0, .int .u8 0, .int .u8 0, .int .u8 0, .int .u8 0, .int .u8 0, .int .u8 0, .int .u8 0, .int .u8 0, .int .u8 0, .int .u8 0, .int .u8 0, .int .u8 0, .int .u8 0, .int .u8 0, .int .u8 0, .int .u8 0, .int .u8 0, .int .u8 0, .int .u8 0, .int .u8 0, .int .u8 0, .int .u8 0, .int .u8 0, .int .u8 0, .int .u8 0, .int .u8 0, .int .u8 0, .int .u8 0, .int .u8 0, .int .u8 0, .int .u8 0, .int .u8 0, .int .u8 0, .int .u8 0] : List Value) = List.replicate 52 (Value.int .u8 0) from rfl] at hZ
      obtain ⟨g, hgg⟩ : ∃ g, Hid (wr.heap.size = g) := ⟨_, Lib.hid rfl⟩
      rw [hgg.out] at hZ hlt0 ⊢
      clear hgg
      have hto : ((j : Int) * 52).toNat = j * 52 := by omega
      have hTz : (s.extract (j * 52) s.size).size = s.size - j * 52 := by simp
      have hTl : Hid ((s.extract (j * 52) s.size).data.toList = s.data.toList.drop (j * 52)) := by
        rw [ext_list]
        exact Lib.hid (List.take_of_length_le (by simp))
      obtain ⟨m, hm⟩ : ∃ m, Hid (Nat.min (s.extract (j * 52) s.size).size 52 = m) := ⟨_, Lib.hid rfl⟩
      have hm52 : m ≤ 52 := by rw [← hm.out]; exact Nat.min_le_right _ _
      have hth : Hid (W.drew.there g 0 m) := Lib.hid ((hZ.drewN 1).there 0 m (by simp; exact hm52))
      obtain ⟨T, hT⟩ : ∃ T, Hid (s.extract (j * 52) s.size = T) := ⟨_, Lib.hid rfl⟩
      have hZ2 : Hid (Whole (W.drew.setCells g 0 (bytesV (T.data.toList.take m))) g 156 (bytesV (pcL s.data.toList j))) := by
        have hlen : (T.data.toList.take m).length ≤ 52 := by rw [List.length_take]; omega
        have h := (hZ.drewN 1).store 0 (bytesV (T.data.toList.take m)) (by rw [bytesV_len]; simp; omega)
        rw [splice_zero _ hlen] at h
        have e : T.data.toList.take m = (s.data.toList.drop (j * 52)).take 52 := by
          rw [← hT.out, hTl.out, ← hm.out, hTz]
          by_cases h52 : 52 ≤ s.size - j * 52
          · rw [show Nat.min (s.size - j * 52) 52 = 52 from Nat.min_eq_right h52]
          · rw [show Nat.min (s.size - j * 52) 52 = s.size - j * 52 from Nat.min_eq_left (by omega), List.take_of_length_le (by simp), List.take_of_length_le (by simp; omega)]
        rw [e] at h ⊢
        exact Lib.hid h
      have hR2 : Hid (Whole (W.drew.setCells g 0 (bytesV (T.data.toList.take m))) w.heap.size 9 (pcRow s.data.toList n j)) := Lib.hid ((hR.drewN 1).far (by omega) 0 _)
      have hB2 : Hid (Below w.heap.size w (W.drew.setCells g 0 (bytesV (T.data.toList.take m)))) := Lib.hid (below_setCells (B := w.heap.size) (b := g) (by omega) _ 0 _ (drewB' hB 1))
      rw [hT.out] at hm
      go_region_law ((refine step_copy_str (by rfl) _ _ _ _ (by rfl) 5 Tryz.underlying71 sizeU8' g 0 52 52 (by rfl) (s.extract (j * 52) s.size) (by rfl) m (by rw [hT.out]; exact hm.out) hth.out ?_))
      have hTd : Hid (List.take (s.size - j * 52) (List.drop (j * 52) s.data.toList) = T.data.toList) := Lib.hid (by rw [← hT.out, ext_list])
      rw [hTd.out]
      generalize W.drew.setCells g 0 (bytesV (T.data.toList.take m)) = W2 at hZ2 hR2 hB2 ⊢
      clear hth hTd hT hm hTl hZ hR hB hrow
      have hcv := (rowOf hZ2.out).back (P := Tryz.prog) 71 9 5 52 52 (pcL_len _ _).symm Tryz.underlying71 Tryz.underlying5 Tryz.underlying9
      have hcell : W2.cell? ⟨w.heap.size, j, none⟩ = some (.string ⟨#[]⟩) := by
        rw [hR2.out.cell]; unfold pcRow; simp [hlt]
      have hfrz := hR2.out.frozen j
      have hR3 : Hid (Whole (W2.setCells w.heap.size j [.string (B (pcL s.data.toList j))]) w.heap.size 9 (pcRow s.data.toList n (j + 1))) := by
        have h := hR2.out.store j [.string (B (pcL s.data.toList j))] (by rw [pcRow_len]; simp; omega)
        rw [splice_one _ _ _ (by rw [pcRow_len]; exact hlt), pcRow_set] at h
        exact Lib.hid h
      have hB3 : Hid (Below w.heap.size w (W2.setCells w.heap.size j [.string (B (pcL s.data.toList j))])) := Lib.hid (below_setCells (B := w.heap.size) (b := w.heap.size) (Nat.le_refl _) _ _ _ hB2.out)
      obtain ⟨X, hX⟩ : ∃ X, Hid (B (pcL s.data.toList j) = X) := ⟨_, Lib.hid rfl⟩
      rw [hX.out] at hcv hR3 hB3
      go_wp2_with fail
      go_roundg (gk - 1)
      case measure => omega
      case rel => exact ⟨j + 1, by omega, by omega, by go_num, Lib.hid ⟨hR3.out, hB3.out⟩⟩
    · obtain rfl : j = n := by omega
      go_wp2_with fail
      go_ret
      exact ⟨j, hn2.out, rfl, hrow.out.1, hrow.out.2⟩
end Go.Proofs.YtgogackkeodciabGreatDoor.W
end
section
namespace Go.Proofs.YtgogackkeodciabGreatDoor.W
open Go.RowKit
open Go.Proofs.YtgogackkeodciabGreatDoor.M
open Go.Proofs.YtgogackkeodciabGreatDoor.D
open Go.Proofs.YtgogackkeodciabGreatDoor.Z
set_option linter.unusedVariables false

/-- The first n pieces, as cells. -/
def strs (l : List UInt8) (n : Nat) : List Value := (List.range n).map fun i => .string (B (pcL l i))
theorem strs_len (l : List UInt8) (n : Nat) : (strs l n).length = n := by simp [strs]
theorem strs_succ (l : List UInt8) (n : Nat) : strs l (n + 1) = strs l n ++ [.string (B (pcL l n))] := by
  unfold strs; rw [List.range_succ, List.map_append]; rfl
theorem pcRow_full (l : List UInt8) (n : Nat) : pcRow l n n = strs l n := by
  unfold pcRow strs
  apply List.map_congr_left
  intro i hi
  rw [if_pos (List.mem_range.1 hi)]
theorem pcL_drop (l : List UInt8) (i : Nat) : pcL (l.drop 52) i = pcL l (i + 1) := by
  unfold pcL
  rw [List.drop_drop, show 52 + i * 52 = (i + 1) * 52 from by omega]
theorem pcL_zero (s : ByteArray) (h : 52 ≤ s.size) : s.extract 0 52 = B (pcL s.data.toList 0) := by
  rw [← B_of (s.extract 0 52), ext_list]
  unfold pcL
  have hl : s.data.toList.length = s.size := by simp
  rw [Nat.zero_mul, List.drop_zero, show 52 - (s.data.toList.take 52).length = 0 from by rw [List.length_take, hl]; omega]
  simp
theorem pcL_small (s : ByteArray) (h : s.size ≤ 52) : s ++ B (List.replicate (52 - s.size) 0) = B (pcL s.data.toList 0) := by
  conv => lhs; rw [← B_of s]
  rw [B_append, B_of]
  unfold pcL
  have hl : s.data.toList.length = s.size := by simp
  rw [Nat.zero_mul, List.drop_zero, List.take_of_length_le (by rw [hl]; exact h), hl]
theorem infoByte' : (Tryz.prog.info? 5).map (fun i => (i.zero, i.size, i.bytes)) = some (some (.int .u8 0), 1, 1) := by kernel_rfl
theorem zero_row (W : World) (n : Nat) : ByteRow (W.alloc (.cells (madeCells #[Value.int .u8 0] n) 5)) W.heap.size (List.replicate n 0) := by
  have h : (madeCells #[Value.int .u8 0] n).toList = bytesV (List.replicate n 0) := by
    apply List.ext_getElem?
    intro i
    unfold bytesV
    by_cases h : i < n
    · simp [madeCells, h, Nat.mod_one, u8v]
    · simp [madeCells, h]
  have hW := Whole.new W 5 (bytesV (List.replicate n 0))
  rw [← h] at hW
  have hW2 : Whole (W.alloc (.cells (madeCells #[Value.int .u8 0] n) 5)) W.heap.size 5 (madeCells #[Value.int .u8 0] n).toList := hW
  rw [h] at hW2
  exact rowOf hW2
theorem empty_yes {s : ByteArray} (h : s.size = 0) : s.toList.isEmpty = true := by
  have hz : s.toList.length = s.size := by rw [ByteArray.toList_eq]; simp
  rw [List.isEmpty_iff, List.eq_nil_iff_length_eq_zero]; omega
theorem empty_no {s : ByteArray} (h : s.size ≠ 0) : s.toList.isEmpty = false := by
  have hz : s.toList.length = s.size := by rw [ByteArray.toList_eq]; simp
  cases hh : s.toList with
  | nil => rw [hh] at hz; simp at hz; omega
  | cons => rfl
theorem own_cells {w : World} {B0 n : Nat} {t : TypeId} {v : Value} {l : List UInt8} (h : w.ownsRow B0 t 1 v n (strs l n)) :
    ∃ va vc, v = .slice va n vc ∧ ∀ k, k < n → ∃ b, va = some ⟨b, 0, none⟩ ∧ B0 ≤ b ∧ b < w.heap.size ∧ w.cell? ⟨b, k, none⟩ = some (.string (B (pcL l k))) := by
  rcases Nat.eq_zero_or_pos n with h0 | h0
  · subst h0
    rcases h with ⟨_, ⟨rfl, _⟩ | ⟨g, cap, cur, rfl, _⟩⟩
    · exact ⟨none, 0, rfl, fun k hk => absurd hk (Nat.not_lt_zero k)⟩
    · exact ⟨_, cap, rfl, fun k hk => absurd hk (Nat.not_lt_zero k)⟩
  · obtain ⟨gg, cap, rfl, _, _, hB, hlt, hc⟩ := ownCells h0 h
    exact ⟨_, cap, rfl, fun k hk => ⟨gg, rfl, hB, hlt, hc k _ (by unfold strs; simp [hk])⟩⟩
theorem one_own (W : World) (base : Nat) (e : TypeId) (v : Value) (h : base ≤ W.heap.size) : (W.alloc (.cells #[v] e)).ownsRow base e 1 (.slice (some ⟨W.heap.size, 0, none⟩) 1 1) 1 [v] :=
  ⟨rfl, .inr ⟨W.heap.size, 1, #[v], rfl, h, heap_alloc_new W _, Nat.le_refl _, by unfold maxLen; omega, rfl, rfl⟩⟩
/-- A row of strings that a call made. -/
def MadeStrs (w : World) (l : List UInt8) (n : Nat) (e : Ending) (w' : World) : Prop :=
  ∃ v, e = .returned v ∧ w'.ownsRow w.heap.size 9 1 v n (strs l n) ∧ Below w.heap.size w w'

end Go.Proofs.YtgogackkeodciabGreatDoor.W
end
section
namespace Go.Proofs.YtgogackkeodciabGreatDoor.W
open Go.RowKit
open Go.Proofs.YtgogackkeodciabGreatDoor.M
open Go.Proofs.YtgogackkeodciabGreatDoor.D
open Go.Proofs.YtgogackkeodciabGreatDoor.Z
set_option linter.unusedVariables false

/-- The first k pieces, one behind the other. -/
def joined (l : List UInt8) : Nat → List UInt8
  | 0 => []
  | k + 1 => joined l k ++ pcL l k
theorem joined_eq (l : List UInt8) (k : Nat) : joined l k = l.take (k * 52) ++ List.replicate (k * 52 - l.length) 0 := by
  induction k with
  | zero => simp [joined]
  | succ k ih =>
    show joined l k ++ pcL l k = _
    rw [ih]
    unfold pcL
    rw [Nat.succ_mul]
    by_cases h : k * 52 ≤ l.length
    · rw [show k * 52 - l.length = 0 from by omega, List.replicate_zero, List.append_nil, ← List.append_assoc, ← List.take_add, List.length_take, List.length_drop]
      congr 2
      omega
    · rw [List.drop_eq_nil_of_le (by omega), List.take_nil, List.nil_append, List.take_of_length_le (by omega), List.take_of_length_le (by omega), List.append_assoc, List.replicate_append_replicate]
      congr 2
      simp; omega
theorem joined_len (l : List UInt8) (k : Nat) : (joined l k).length = k * 52 := by
  rw [joined_eq, List.length_append, List.length_take, List.length_replicate]; omega
theorem joined_take (l : List UInt8) (k : Nat) (h : l.length ≤ k * 52) : (joined l k).take l.length = l := by
  rw [joined_eq, List.take_of_length_le h, List.take_append_of_le_length (Nat.le_refl _), List.take_length]

/-- A slice of the first n pieces. -/
def StrsIn (w : World) (va : Option Addr) (n : Nat) (l : List UInt8) : Prop := ∀ k, k < n → ∃ b, va = some ⟨b, 0, none⟩ ∧ b < w.heap.size ∧ w.cell? ⟨b, k, none⟩ = some (.string (B (pcL l k)))
theorem StrsIn.below {w w' : World} {va : Option Addr} {n : Nat} {l : List UInt8} (h : StrsIn w va n l) (hb : Below w.heap.size w w') : StrsIn w' va n l := fun k hk =>
  let ⟨b, e, h1, h2⟩ := h k hk
  ⟨b, e, Nat.lt_of_lt_of_le h1 hb.size, (hb.cell (p := ⟨b, k, none⟩) h1).trans h2⟩

end Go.Proofs.YtgogackkeodciabGreatDoor.W
end
