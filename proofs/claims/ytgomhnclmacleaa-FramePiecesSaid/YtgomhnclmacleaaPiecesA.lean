/- The walk of frame.Pieces. -/
import Derived.Test.YtgomhnclmacleaaProg
import Derived.Test.YtgomhnclmacleaaBare
import Derived.Test.YtgomhnclmacleaaBytes
import Derived.Deep.OwnRows
import Derived.Deep.RegionLaw
import Derived.Lib.LazyBuf
import Derived.Deep.Draws
import Derived.Deep.LoopGhost
import Derived.Deep.MidRow
namespace Go.Proofs.Ytgomhnclmacleaa.W
open Go.RowKit
open Go.Proofs.Ytgomhnclmacleaa.M
open Go.Proofs.Ytgomhnclmacleaa.D
open Go.Proofs.Ytgomhnclmacleaa.Z
set_option linter.unusedVariables false

/-- 'copy(dst, s)', s a string of any length. -/
theorem run_copy_str {P : Program} (w : World) (dT sT ty elem : TypeId) (b o dLen dCap : Nat) (t : ByteArray) (m : Nat)
    (hu : P.underlying dT = some (.slice elem)) (hz : ∀ w, (Go.sizeOf elem).run P w = .ok 1 w) (hm : Nat.min t.size dLen = m)
    (hc : ∀ j, j < m → (w.cell? ⟨b, o + j, none⟩).isSome = true) (hf : ∀ j, j < m → w.frozen? ⟨b, o + j, none⟩ = false) :
    (Builtin.copy_ #[dT, sT] ty #[.slice (some ⟨b, o, none⟩) dLen dCap, .string t]).run P w = .ok (goInt m) (w.setCells b o (bytesV (t.data.toList.take m))) := by
  have hl : (bytesV (t.data.toList.take m)).length = m := by
    rw [bytesV_len, List.length_take]
    have : t.data.toList.length = t.size := by simp
    have := Nat.min_le_left t.size dLen
    have := Nat.min_le_right t.size dLen
    have : Nat.min t.size dLen ≤ t.size := Nat.min_le_left _ _
    omega
  have hst := run_storeCells_cells (P := P) b o (bytesV (t.data.toList.take m)) 0 w (by rw [hl]; simpa using hc) (by rw [hl]; simpa using hf) (bytesV_one _)
  simp [Builtin.copy_, run_underlying hu, Builtin.lenOf, Builtin.firstCells, hz, hm]
  rw [show List.take m (List.map (fun b : UInt8 => Value.int IntKind.u8 (b.toNat : Int)) t.data.toList) = bytesV (t.data.toList.take m) from by
    unfold bytesV; rw [List.map_take]; rfl, hst]
  rfl
theorem step_copy_str {P : Program} {ops : Array Oper} {o : Oper} {a : Act} {w : World} {K : Act → World → Prop} {Q : Exit → Act → World → Prop} {E : Prop}
    (hg : o.guard = none) (d x : Operand) (dT sT : TypeId) (hop : o.op = Op.call { callee := Callee.builtin Builtin.copy, args := #[d, x], argTypes := #[dT, sT] })
    (elem : TypeId) (hu : P.underlying dT = some (.slice elem)) (hz : ∀ w, (Go.sizeOf elem).run P w = .ok 1 w)
    (b off dLen dCap : Nat) (hd : a.eval d = .slice (some ⟨b, off, none⟩) dLen dCap) (t : ByteArray) (hx : a.eval x = .string t) (m : Nat) (hm : Nat.min t.size dLen = m)
    (hth : w.there b off m)
    (hK : K (a.put o.dst (goInt m)) (w.setCells b off (bytesV (t.data.toList.take m)))) :
    if Region.wanted o (yielded ops a.tmps) = true then Oper.wp P o a w K Q else E := by
  have hw : Region.wanted o (yielded ops a.tmps) = true := by simp [Region.wanted, hg]
  rw [if_pos hw]
  have hrun := run_copy_str (P := P) w dT sT o.type elem b off dLen dCap t m hu hz hm (fun j hj => (hth j hj).1) (fun j hj => (hth j hj).2)
  unfold Oper.wp
  simp [execOp, hop, resolve, invoke, builtin, hd, hx, hrun, Result.andThen]
  exact hK

/-- Piece i. -/
def pcL (l : List UInt8) (i : Nat) : List UInt8 := (l.drop (i * 52)).take 52 ++ List.replicate (52 - ((l.drop (i * 52)).take 52).length) 0
theorem pcL_len (l : List UInt8) (i : Nat) : (pcL l i).length = 52 := by unfold pcL; simp; omega
/-- The first j of n pieces. -/
def pcRow (l : List UInt8) (n j : Nat) : List Value := (List.range n).map fun i => .string (if i < j then B (pcL l i) else ⟨#[]⟩)
theorem pcRow_len (l : List UInt8) (n j : Nat) : (pcRow l n j).length = n := by simp [pcRow]
theorem pcRow_set (l : List UInt8) (n j : Nat) : (pcRow l n j).set j (.string (B (pcL l j))) = pcRow l n (j + 1) := by
  apply List.ext_getElem?
  intro i
  unfold pcRow
  rw [List.getElem?_set]
  by_cases h : j = i
  · subst h
    rw [if_pos rfl]
    by_cases h2 : j < n
    · simp [h2]
    · simp [h2]
  · rw [if_neg h]
    by_cases h2 : i < n
    · simp only [List.getElem?_map, List.getElem?_range h2, Option.map_some]
      by_cases h3 : i < j
      · rw [if_pos h3, if_pos (by omega)]
      · rw [if_neg h3, if_neg (by omega)]
    · simp [h2]
theorem splice_zero (x : List UInt8) (h : x.length ≤ 52) : splice (List.replicate 52 (Value.int .u8 0)) 0 (bytesV x) = bytesV (x ++ List.replicate (52 - x.length) 0) := by
  unfold splice
  rw [bytesV_len, List.take_zero, List.nil_append, Nat.zero_add, List.drop_replicate]
  unfold bytesV
  rw [List.map_append, List.map_replicate]
  rfl

theorem rowOf {w : World} {g : Nat} {t : TypeId} {l : List UInt8} (h : Whole w g t (bytesV l)) : ByteRow w g l := fun j hj => by
  refine ⟨?_, h.frozen j⟩
  rw [h.cell]
  unfold bytesV
  rw [List.getElem?_map, List.getElem?_eq_getElem hj]
  show some (u8v _) = _
  unfold u8v bt
  rw [List.getD, List.getElem?_eq_getElem hj]
  rfl
theorem splice_one (cur : List Value) (j : Nat) (v : Value) (h : j < cur.length) : splice cur j [v] = cur.set j v := by
  unfold splice
  rw [List.set_eq_take_append_cons_drop, if_pos h]
  rfl
theorem made_pc (l : List UInt8) (n : Nat) : (madeCells #[Value.string ⟨#[]⟩] n).toList = pcRow l n 0 := by
  apply List.ext_getElem?
  intro i
  unfold pcRow
  by_cases h : i < n
  · simp [madeCells, h, Nat.mod_one]
  · simp [madeCells, h]
theorem infoStr : (Try.prog.info? 9).map (fun i => (i.zero, i.size, i.bytes)) = some (some (.string ⟨#[]⟩), 1, 16) := by kernel_rfl
theorem sizeU8' : ∀ w, (Go.sizeOf 5).run Try.prog w = .ok 1 w := fun w => by kernel_rfl
set_option maxRecDepth 100000 in
set_option maxHeartbeats 4000000 in
theorem pieces_any (s : ByteArray) (w : World) (hs : s.size ≤ 1000) :
    Calls Try.prog 47 #[.string s] w fun e w' => ∃ n : Nat, n = (s.size + 51) / 52 ∧ e = .returned (.slice (some ⟨w.heap.size, 0, none⟩) n n) ∧ Whole w' w.heap.size 9 (pcRow s.data.toList n n) ∧ Below w.heap.size w w' := by
  obtain ⟨n, hn, hn2⟩ : ∃ n : Nat, manyI s.size = n ∧ n = (s.size + 51) / 52 := ⟨(s.size + 51) / 52, by unfold manyI; split <;> omega, rfl⟩
  have hn20 : n ≤ 20 := by omega
  replace hn := Lib.hid hn
  have hmk := fun W => run_make_row' (P := Try.prog) 29 9 (.string ⟨#[]⟩) 16 Try.underlying29 infoStr rfl .i64 .i64 n (by omega) (by omega) W
  obtain ⟨cs, hcs⟩ : ∃ cs, Hid (madeCells #[Value.string ⟨#[]⟩] n = cs) := ⟨_, Lib.hid rfl⟩
  have hcl : Hid (cs.toList = pcRow s.data.toList n 0) := Lib.hid (by rw [← hcs.out]; exact made_pc _ n)
  rw [hcs.out] at hmk
  have hW0 : Hid (Whole (w.alloc (.cells cs 9)) w.heap.size 9 (pcRow s.data.toList n 0) ∧ Below w.heap.size w (w.alloc (.cells cs 9))) := Lib.hid ⟨by
    have := Whole.new w 9 (pcRow s.data.toList n 0)
    rw [← hcl.out] at this ⊢
    exact this, (Below.refl _ _).alloc (Nat.le_refl _) _⟩
  replace hn2 := Lib.hid hn2
  go_enter Try.func47, Try.ntmps47
  go_wp2_with fail
  refine (many_any _ _ (by omega) (by omega)).mono ?_
  rintro e w1 ⟨rfl, rfl⟩
  rw [hn.out]
  go_wp2_with fail
  clear hmk
  go_loopg [12] n (fun ga i wr => ∃ j : Nat, j ≤ n ∧ n ≤ j + ga ∧ i = .int .i64 j ∧ Hid (Whole wr w.heap.size 9 (pcRow s.data.toList n j) ∧ Below w.heap.size w wr))
  case atStart => exact ⟨0, by omega, by omega, rfl, hW0⟩
  case round =>
    obtain ⟨j, hj, hg, rfl, hrow⟩ := hrel
    by_cases hlt : j < n
    · have hjs : j * 52 ≤ s.size := by have := hn2.out; omega
      have hb1 : (0 : Int) ≤ (j : Int) * 52 := by omega
      have hb2 : (j : Int) * 52 ≤ (s.size : Int) := by omega
      have hw1 : IntKind.i64.wrap ((j : Int) * 52) = (j : Int) * 52 := IntWalk.i64_in _ (by omega)
      go_wp2_with fail
      have hZ := Whole.new wr 127 ([.int .u8 0, .int .u8 0, .int .u8 0, .int .u8 0, .int .u8 0, .int .u8 0, .int .u8 0, .int .u8 0, .int .u8 0, .int .u8 0, .int .u8 0, .int .u8 0, .int .u8 0, .int .u8 0, .int .u8 0, .int .u8 0, .int .u8 0, .int .u8 0, .int .u8 0, .int .u8 0, .int .u8 0, .int .u8 0, .int .u8 0, .int .u8 0, .int .u8 0, .int .u8 0, .int .u8 0, .int .u8 0, .int .u8 0, .int .u8 0, .int .u8 0, .int .u8 0, .int .u8 0, .int .u8 0, .int .u8 0, .int .u8 0, .int .u8 0, .int .u8 0, .int .u8 0, .int .u8 0, .int .u8 0, .int .u8 0, .int .u8 0, .int .u8 0, .int .u8 0, .int .u8 0, .int .u8 0, .int .u8 0, .int .u8 0, .int .u8 0, .int .u8 0, .int .u8 0] : List Value)
      have hlt0 := hrow.out.1.lt
      have hR := hrow.out.1.alloc (.cells #[.int .u8 0, .int .u8 0, .int .u8 0, .int .u8 0, .int .u8 0, .int .u8 0, .int .u8 0, .int .u8 0, .int .u8 0, .int .u8 0, .int .u8 0, .int .u8 0, .int .u8 0, .int .u8 0, .int .u8 0, .int .u8 0, .int .u8 0, .int .u8 0, .int .u8 0, .int .u8 0, .int .u8 0, .int .u8 0, .int .u8 0, .int .u8 0, .int .u8 0, .int .u8 0, .int .u8 0, .int .u8 0, .int .u8 0, .int .u8 0, .int .u8 0, .int .u8 0, .int .u8 0, .int .u8 0, .int .u8 0, .int .u8 0, .int .u8 0, .int .u8 0, .int .u8 0, .int .u8 0, .int .u8 0, .int .u8 0, .int .u8 0, .int .u8 0, .int .u8 0, .int .u8 0, .int .u8 0, .int .u8 0, .int .u8 0, .int .u8 0, .int .u8 0, .int .u8 0] 127)
      have hB := hrow.out.2.alloc hrow.out.2.size (.cells #[.int .u8 0, .int .u8 0, .int .u8 0, .int .u8 0, .int .u8 0, .int .u8 0, .int .u8 0, .int .u8 0, .int .u8 0, .int .u8 0, .int .u8 0, .int .u8 0, .int .u8 0, .int .u8 0, .int .u8 0, .int .u8 0, .int .u8 0, .int .u8 0, .int .u8 0, .int .u8 0, .int .u8 0, .int .u8 0, .int .u8 0, .int .u8 0, .int .u8 0, .int .u8 0, .int .u8 0, .int .u8 0, .int .u8 0, .int .u8 0, .int .u8 0, .int .u8 0, .int .u8 0, .int .u8 0, .int .u8 0, .int .u8 0, .int .u8 0, .int .u8 0, .int .u8 0, .int .u8 0, .int .u8 0, .int .u8 0, .int .u8 0, .int .u8 0, .int .u8 0, .int .u8 0, .int .u8 0, .int .u8 0, .int .u8 0, .int .u8 0, .int .u8 0, .int .u8 0] 127)
      generalize wr.alloc (.cells #[.int .u8 0, .int .u8 0, .int .u8 0, .int .u8 0, .int .u8 0, .int .u8 0, .int .u8 0, .int .u8 0, .int .u8 0, .int .u8 0, .int .u8 0, .int .u8 0, .int .u8 0, .int .u8 0, .int .u8 0, .int .u8 0, .int .u8 0, .int .u8 0, .int .u8 0, .int .u8 0, .int .u8 0, .int .u8 0, .int .u8 0, .int .u8 0, .int .u8 0, .int .u8 0, .int .u8 0, .int .u8 0, .int .u8 0, .int .u8 0, .int .u8 0, .int .u8 0, .int .u8 0, .int .u8 0, .int .u8 0, .int .u8 0, .int .u8 0, .int .u8 0, .int .u8 0, .int .u8 0, .int .u8 0, .int .u8 0, .int .u8 0, .int .u8 0, .int .u8 0, .int .u8 0, .int .u8 0, .int .u8 0, .int .u8 0, .int .u8 0, .int .u8 0, .int .u8 0] 127) = W at hZ hR hB ⊢
      rw [show ([.int .u8 0, .int .u8 0, .int .u8 0, .int .u8 0, .int .u8 0, .int .u8 0, .int .u8 0, .int .u8 0, .int .u8 0, .int .u8 0, .int .u8 0, .int .u8 0, .int .u8 0, .int .u8 0, .int .u8 0, .int .u8 0, .int .u8 0, .int .u8 0, .int .u8 0, .int .u8 0, .int .u8 0, .int .u8 0, .int .u8 0, .int .u8 0, .int .u8 0, .int .u8 0, .int .u8 0, .int .u8 0, .int .u8 0, .int .u8 0, .int .u8 0, .int .u8 0, .int .u8 0, .int .u8 0, .int .u8 0, .int .u8 0, .int .u8 0, .int .u8 0, .int .u8 0, .int .u8 0, .int .u8 0, .int .u8 0, .int .u8 0, .int .u8 0, .int .u8 0, .int .u8 0, .int .u8 0, .int .u8 0, .int .u8 0, .int .u8 0, .int .u8 0, .int .u8 0] : List Value) = List.replicate 52 (Value.int .u8 0) from rfl] at hZ
      obtain ⟨g, hgg⟩ : ∃ g, Hid (wr.heap.size = g) := ⟨_, Lib.hid rfl⟩
      rw [hgg.out] at hZ hlt0 ⊢
      clear hgg
      have hto : ((j : Int) * 52).toNat = j * 52 := by omega
      have hTz : (s.extract (j * 52) s.size).size = s.size - j * 52 := by simp
      have hTl : Hid ((s.extract (j * 52) s.size).data.toList = s.data.toList.drop (j * 52)) := by
        rw [ext_list]
        exact Lib.hid (List.take_of_length_le (by simp))
      obtain ⟨m, hm⟩ : ∃ m, Hid (Nat.min (s.extract (j * 52) s.size).size 52 = m) := ⟨_, Lib.hid rfl⟩
      have hm52 : m ≤ 52 := by rw [← hm.out]; exact Nat.min_le_right _ _
      have hth : Hid (W.drew.there g 0 m) := Lib.hid ((hZ.drewN 1).there 0 m (by simp; exact hm52))
      obtain ⟨T, hT⟩ : ∃ T, Hid (s.extract (j * 52) s.size = T) := ⟨_, Lib.hid rfl⟩
      have hZ2 : Hid (Whole (W.drew.setCells g 0 (bytesV (T.data.toList.take m))) g 127 (bytesV (pcL s.data.toList j))) := by
        have hlen : (T.data.toList.take m).length ≤ 52 := by rw [List.length_take]; omega
        have h := (hZ.drewN 1).store 0 (bytesV (T.data.toList.take m)) (by rw [bytesV_len]; simp; omega)
        rw [splice_zero _ hlen] at h
        have e : T.data.toList.take m = (s.data.toList.drop (j * 52)).take 52 := by
          rw [← hT.out, hTl.out, ← hm.out, hTz]
          by_cases h52 : 52 ≤ s.size - j * 52
          · rw [show Nat.min (s.size - j * 52) 52 = 52 from Nat.min_eq_right h52]
          · rw [show Nat.min (s.size - j * 52) 52 = s.size - j * 52 from Nat.min_eq_left (by omega), List.take_of_length_le (by simp), List.take_of_length_le (by simp; omega)]
        rw [e] at h ⊢
        exact Lib.hid h
      have hR2 : Hid (Whole (W.drew.setCells g 0 (bytesV (T.data.toList.take m))) w.heap.size 9 (pcRow s.data.toList n j)) := Lib.hid ((hR.drewN 1).far (by omega) 0 _)
      have hB2 : Hid (Below w.heap.size w (W.drew.setCells g 0 (bytesV (T.data.toList.take m)))) := Lib.hid (below_setCells (B := w.heap.size) (b := g) (by omega) _ 0 _ (drewB' hB 1))
      rw [hT.out] at hm
      go_region_law ((refine step_copy_str (by rfl) _ _ _ _ (by rfl) 5 Try.underlying89 sizeU8' g 0 52 52 (by rfl) (s.extract (j * 52) s.size) (by rfl) m (by rw [hT.out]; exact hm.out) hth.out ?_))
      have hTd : Hid (List.take (s.size - j * 52) (List.drop (j * 52) s.data.toList) = T.data.toList) := Lib.hid (by rw [← hT.out, ext_list])
      rw [hTd.out]
      generalize W.drew.setCells g 0 (bytesV (T.data.toList.take m)) = W2 at hZ2 hR2 hB2 ⊢
      clear hth hTd hT hm hTl hZ hR hB hrow
      have hcv := (rowOf hZ2.out).back (P := Try.prog) 89 9 5 52 52 (pcL_len _ _).symm Try.underlying89 Try.underlying5 Try.underlying9
      have hcell : W2.cell? ⟨w.heap.size, j, none⟩ = some (.string ⟨#[]⟩) := by
        rw [hR2.out.cell]; unfold pcRow; simp [hlt]
      have hfrz := hR2.out.frozen j
      have hR3 : Hid (Whole (W2.setCells w.heap.size j [.string (B (pcL s.data.toList j))]) w.heap.size 9 (pcRow s.data.toList n (j + 1))) := by
        have h := hR2.out.store j [.string (B (pcL s.data.toList j))] (by rw [pcRow_len]; simp; omega)
        rw [splice_one _ _ _ (by rw [pcRow_len]; exact hlt), pcRow_set] at h
        exact Lib.hid h
      have hB3 : Hid (Below w.heap.size w (W2.setCells w.heap.size j [.string (B (pcL s.data.toList j))])) := Lib.hid (below_setCells (B := w.heap.size) (b := w.heap.size) (Nat.le_refl _) _ _ _ hB2.out)
      obtain ⟨X, hX⟩ : ∃ X, Hid (B (pcL s.data.toList j) = X) := ⟨_, Lib.hid rfl⟩
      rw [hX.out] at hcv hR3 hB3
      go_wp2_with fail
      go_roundg (gk - 1)
      case measure => omega
      case rel => exact ⟨j + 1, by omega, by omega, by go_num, Lib.hid ⟨hR3.out, hB3.out⟩⟩
    · obtain rfl : j = n := by omega
      go_wp2_with fail
      go_ret
      exact ⟨j, hn2.out, rfl, hrow.out.1, hrow.out.2⟩
end Go.Proofs.Ytgomhnclmacleaa.W
