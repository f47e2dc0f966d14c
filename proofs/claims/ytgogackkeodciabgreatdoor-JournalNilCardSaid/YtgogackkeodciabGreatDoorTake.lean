/- The library's DeleteFunc at writes that wait: those of a span go, the others close up. The library's DeleteFunc at writes that wait, and the disk's take. The disk's take: a span's writes are taken out of those that wait. -/
import Derived.Test.YtgogackkeodciabGreatDoorProg
import Derived.Test.YtgogackkeodciabGreatDoorPut
import Derived.Lib.SliceRun
import Derived.Deep.RegionWith
section
namespace Go.Proofs.YtgogackkeodciabGreatDoor.D
open Go.RowKit
set_option linter.unusedVariables false

section
variable (d g : Nat) (v : Value) (lie : List (List UInt8)) (ws : List (Nat × List UInt8)) (w : World)
theorem write_out (a : Int) (s : ByteArray) (h : Dk w d g v lie ws) (ha : a < 0 ∨ lie.length ≤ a) :
    Calls Tryz.prog 110 #[.pointer (some ⟨d, 0, none⟩), .int .i64 a, .string s] w fun e w' => e = .returned (.int .i64 20) ∧ w = w' := by
  replace ha := Lib.hid ha
  go_enter Tryz.func110, Tryz.ntmps110
  go_wp2_with fail
  refine (sector_out d g v lie ws _ a h ha.out).mono ?_
  rintro e w1 ⟨rfl, rfl⟩
  go_wp2_with fail
  go_ret
  exact ⟨rfl, rfl⟩
theorem write_short (a : Nat) (s : ByteArray) (h : Dk w d g v lie ws) (ha : a < lie.length) (hs : s.size < 64) :
    Calls Tryz.prog 110 #[.pointer (some ⟨d, 0, none⟩), .int .i64 a, .string s] w fun e w' => e = .returned (.int .i64 1) ∧ w = w' := by
  have hsb : ((s.size : Int) != 64) = true := by rw [bne_iff_ne]; omega
  go_enter Tryz.func110, Tryz.ntmps110
  go_wp2_with fail
  refine (sector_in d g v lie ws _ a h ha).mono ?_
  rintro e w1 ⟨rfl, rfl⟩
  go_wp2_with fail
  go_ret
  exact ⟨rfl, rfl⟩
theorem write_nil (a : Int) (s : ByteArray) : Calls Tryz.prog 110 #[.pointer none, .int .i64 a, .string s] w fun e w' => e = .returned (.int .i64 7) ∧ w = w' := by
  go_enter Tryz.func110, Tryz.ntmps110
  go_wp2_with fail
  refine (sector_nil _ a).mono ?_
  rintro e w1 ⟨rfl, rfl⟩
  go_wp2_with fail
  go_ret
  exact ⟨rfl, rfl⟩
end

/-- A row of writes, in block k. -/
structure WRow (w : World) (k m : Nat) (ws : List (Nat × List UInt8)) : Prop where
  len : ws.length = m
  row : ∀ j p, ws[j]? = some p → w.rangeAt k (j * 65) (wrow p)
  l64 : ∀ p ∈ ws, p.2.length = 64
  lt : ∀ p ∈ ws, p.1 < 8192
theorem WRow.below {w w' : World} {k m : Nat} {ws : List (Nat × List UInt8)} (h : WRow w k m ws) (hb : Below w.heap.size w w') : WRow w' k m ws := ⟨h.len, fun j p hp i u hu => keepCell hb (h.row j p hp i u hu), h.l64, h.lt⟩

theorem stopClear {P : Program} {w : World} {ops : Array Oper} {rest : List Oper} {o : Oper} {a : Act} {Q : Exit → Act → World → Prop} (x : Operand) (t : TypeId)
    (ho : o.op = .call { callee := .builtin .clear, args := #[x], argTypes := #[t] }) (h : Hid (wpList P ops Q (o :: rest) a w)) : wpList P ops Q (o :: rest) a w := h
/-- clear(s) of some writes. -/
theorem wpList_clear_rows {w : World} {ops : Array Oper} {rest : List Oper} {o : Oper} {a : Act} {Q : Exit → Act → World → Prop} (hgd : o.guard = none) (x : Operand)
    (ho : o.op = .call { callee := .builtin .clear, args := #[x], argTypes := #[93] }) (k off n c : Nat) (hx : a.eval x = .slice (some ⟨k, off, none⟩) n c) (hn : 0 < n) (t : TypeId) (cur : List Value) (hW : Whole w k t cur) (hl : off + n * 65 ≤ cur.length)
    (h : ∀ zs : List Value, zs.length = n * 65 → Whole (w.setCells k off zs) k t (splice cur off zs) → wpList Tryz.prog ops Q rest (a.put o.dst (.tuple #[])) (w.setCells k off zs)) :
    wpList Tryz.prog ops Q (o :: rest) a w := by
  refine wpList_plain hgd fun K hK => ?_
  obtain ⟨i0, hi0, hz0, hz1, hz2⟩ := info_parts infoWrite
  obtain ⟨z, hz, hzs, hzo⟩ : ∃ z, i0.zero = some z ∧ z.cells.size = 65 ∧ ∀ v ∈ z.cells.toList, v.oneCell' = true := ⟨_, hz0, by simp [Value.cells], fun v hv => by
    simp only [Value.cells, Array.toList_append, List.mem_append, Array.toList_replicate, List.mem_replicate] at hv
    rcases hv with h1 | h1
    · have : v = .int .i64 0 := by simpa using h1
      rw [this]; rfl
    · rw [h1.2]; rfl⟩
  clear hz0
  have hzv : (zeroValue 163).run Tryz.prog w = .ok z w := by simp [zeroValue, typeInfo, hi0, hz]
  have hzl : (Builtin.zeroCells z.cells n).toList.length = n * 65 := by simp [size_zeroCells, hzs]
  have hth := hW.there off (n * 65) hl
  have hst := run_storeCells_cells (P := Tryz.prog) k off (Builtin.zeroCells z.cells n).toList 0 w (fun j hj => by rw [hzl] at hj; simpa using (hth j hj).1) (fun j hj => by rw [hzl] at hj; simpa using (hth j hj).2) (fun v hv => by
    simp only [Builtin.zeroCells, Array.toList_map, List.mem_map] at hv
    obtain ⟨j, -, rfl⟩ := hv
    have hlt : j % z.cells.size < z.cells.size := Nat.mod_lt _ (by rw [hzs]; decide)
    rw [getElem!_pos z.cells _ hlt]
    exact hzo _ (by simp))
  obtain ⟨L, hL⟩ : ∃ L, (Builtin.zeroCells z.cells n).toList = L := ⟨_, rfl⟩
  rw [hL] at hzl hst
  rw [Nat.add_zero] at hst
  obtain ⟨m, rfl⟩ : ∃ m, n = m + 1 := ⟨n - 1, by omega⟩
  have hcl : (Builtin.clear_ #[93] o.type #[.slice (some ⟨k, off, none⟩) (m + 1) c]).run Tryz.prog w = .ok (.tuple #[]) (w.setCells k off L) := by
    simp [Builtin.clear_, run_underlying Tryz.underlying93, hzv, hL, hst]
  unfold Oper.wp
  simp [execOp, ho, resolve, invoke, builtin, hx, hcl, Result.andThen]
  exact hK _ _ (h _ hzl (hW.store off _ (by rw [hzl]; exact hl)))
end Go.Proofs.YtgogackkeodciabGreatDoor.D
end
section
namespace Go.Proofs.YtgogackkeodciabGreatDoor.D
open Go.RowKit
set_option linter.unusedVariables false

/-- What stays. -/
def keepB (from_ n : Nat) (p : Nat × List UInt8) : Bool := !spanB from_ n p
/-- The waiting writes in block k. -/
structure Held (w : World) (k cap : Nat) (ws : List (Nat × List UInt8)) : Prop where
  le : ws.length ≤ cap
  few : cap ≤ maxLen
  l64 : ∀ p ∈ ws, p.2.length = 64
  lt : ∀ p ∈ ws, p.1 < 8192
  cur : ∃ cur, Whole w k 163 cur ∧ cur.length = cap * 65 ∧ cur.take (ws.length * 65) = (ws.map wrow).flatten
theorem Held.even {w : World} {k cap : Nat} {ws : List (Nat × List UInt8)} (h : Held w k cap ws) : Even 65 (ws.map wrow) := fun r hr => by
  obtain ⟨p, hp, rfl⟩ := List.mem_map.1 hr
  exact wrow_len (h.l64 p hp)
/-- A row of the first ones in a block. -/
theorem row_app {w : World} {b sz : Nat} {t : TypeId} {rows : List (List Value)} {tail : List Value} (h : Whole w b t (rows.flatten ++ tail)) (he : Even sz rows) {i : Nat} {r : List Value} (hr : rows[i]? = some r) : w.rangeAt b (i * sz) r := fun j v hv => by
  have hi : i < rows.length := (List.getElem?_eq_some_iff.1 hr).1
  have hrl : r.length = sz := he r (List.mem_of_getElem? hr)
  have hj : j < sz := by rw [← hrl]; exact (List.getElem?_eq_some_iff.1 hv).1
  have e : rows.flatten[i * sz + j]? = some v := by rw [flat_at he i j hj, hr]; exact hv
  rw [h.cell, List.getElem?_append_left (List.getElem?_eq_some_iff.1 e).1, e]
theorem Whole.uniq {w : World} {b : Nat} {t : TypeId} {cs ds : List Value} (h : Whole w b t cs) (k : Whole w b t ds) : cs = ds := by
  have e := h.symm.trans k
  injection e with e
  injection e with e
  simpa using e
theorem splice_app {sz : Nat} {rows : List (List Value)} {tail : List Value} (he : Even sz rows) (i : Nat) (hi : i < rows.length) {r : List Value} (hr : r.length = sz) : splice (rows.flatten ++ tail) (i * sz) r = (rows.set i r).flatten ++ tail := by
  have hfl := flat_len he
  have hle : i * sz + sz ≤ rows.flatten.length := by
    rw [hfl]
    have : (i + 1) * sz ≤ rows.length * sz := Nat.mul_le_mul_right _ hi
    rw [Nat.succ_mul] at this; exact this
  rw [← splice_row he i hi hr]
  unfold splice
  rw [List.take_append_of_le_length (by omega), List.drop_append_of_le_length (by omega)]
  simp [List.append_assoc]
theorem Held.parts {w : World} {k cap : Nat} {ws : List (Nat × List UInt8)} (h : Held w k cap ws) : ∃ tail, tail.length = (cap - ws.length) * 65 ∧ Whole w k 163 ((ws.map wrow).flatten ++ tail) := by
  obtain ⟨cur, h1, h2, h3⟩ := h.cur
  refine ⟨cur.drop (ws.length * 65), by rw [List.length_drop, h2, Nat.sub_mul], ?_⟩
  rw [← h3, List.take_append_drop]; exact h1
theorem Held.wr_ {w : World} {k cap : Nat} {ws : List (Nat × List UInt8)} (h : Held w k cap ws) : WRow w k ws.length ws := by
  obtain ⟨tail, -, hW⟩ := h.parts
  exact ⟨rfl, fun j p hp => row_app hW h.even (by rw [List.getElem?_map, hp]; rfl), h.l64, h.lt⟩
theorem Held.below {w w2 : World} {k cap : Nat} {ws : List (Nat × List UInt8)} (h : Held w k cap ws) (hb : Below w.heap.size w w2) : Held w2 k cap ws := by
  obtain ⟨cur, h1, h2, h3⟩ := h.cur
  exact ⟨h.le, h.few, h.l64, h.lt, cur, h1.below hb h1.lt, h2, h3⟩
theorem keep_before {from_ n i : Nat} {ws : List (Nat × List UInt8)} {p : Nat × List UInt8} (hp : ws[i]? = some p) (hs : spanB from_ n p = true) (hno : ∀ j q, j < i → ws[j]? = some q → spanB from_ n q = false) : (ws.take (i + 1)).filter (keepB from_ n) = ws.take i := by
  rw [filter_snoc hp, show keepB from_ n p = false by simp [keepB, hs], if_neg (by decide), List.append_nil]
  apply List.filter_eq_self.2
  intro q hq
  obtain ⟨j, hj, rfl⟩ := List.mem_iff_getElem.1 hq
  have hjl : j < i := by rw [List.length_take] at hj; omega
  rw [List.getElem_take]
  simp [keepB, hno j _ hjl (List.getElem?_eq_getElem (by rw [List.length_take] at hj; omega))]
/-- Where a deletion stands: i writes kept, j looked at. -/
structure Going (w wr : World) (k cap from_ n : Nat) (ws : List (Nat × List UInt8)) (tail : List Value) (i j : Nat) : Prop where
  rows : ∃ rs, rs.length = ws.length ∧ Even 65 rs ∧ Whole wr k 163 (rs.flatten ++ tail) ∧ rs.take i = ((ws.take j).filter (keepB from_ n)).map wrow ∧ rs.drop j = (ws.drop j).map wrow
  len : ((ws.take j).filter (keepB from_ n)).length = i
  kept : Kept (fun b => b = k) w wr
section
variable {w wr : World} {k cap from_ n i j : Nat} {ws : List (Nat × List UInt8)} {tail : List Value}
theorem Going.row (h : Going w wr k cap from_ n ws tail i j) {p : Nat × List UInt8} (hp : ws[j]? = some p) : wr.rangeAt k (j * 65) (wrow p) := by
  obtain ⟨rs, h1, h2, h3, h4, h5⟩ := h.rows
  refine row_app h3 h2 ?_
  have e : (rs.drop j)[0]? = ((ws.drop j).map wrow)[0]? := by rw [h5]
  simpa [List.getElem?_drop, hp] using e
theorem Going.there (h : Going w wr k cap from_ n ws tail i j) (hi : i < ws.length) : wr.there k (i * 65) 65 := by
  obtain ⟨rs, h1, h2, h3, h4, h5⟩ := h.rows
  refine h3.there _ _ ?_
  rw [List.length_append, flat_len h2, h1]; omega
theorem Going.below (h : Going w wr k cap from_ n ws tail i j) {w2 : World} (hb : Below wr.heap.size wr w2) (hk : k < wr.heap.size) : Going w w2 k cap from_ n ws tail i j := by
  obtain ⟨rs, h1, h2, h3, h4, h5⟩ := h.rows
  exact ⟨⟨rs, h1, h2, h3.below hb hk, h4, h5⟩, h.len, h.kept.trans (Kept.of_below hb)⟩
theorem Going.skip (h : Going w wr k cap from_ n ws tail i j) {p : Nat × List UInt8} (hp : ws[j]? = some p) (hs : spanB from_ n p = true) : Going w wr k cap from_ n ws tail i (j + 1) := by
  obtain ⟨rs, h1, h2, h3, h4, h5⟩ := h.rows
  have e : (ws.take (j + 1)).filter (keepB from_ n) = (ws.take j).filter (keepB from_ n) := by
    rw [filter_snoc hp, show keepB from_ n p = false by simp [keepB, hs], if_neg (by decide), List.append_nil]
  refine ⟨⟨rs, h1, h2, h3, by rw [e]; exact h4, ?_⟩, by rw [e]; exact h.len, h.kept⟩
  have := congrArg (List.drop 1) h5
  simpa [List.drop_drop, ← List.map_drop, Nat.add_comm] using this
theorem Going.move (h : Going w wr k cap from_ n ws tail i j) {p : Nat × List UInt8} (hp : ws[j]? = some p) (hs : spanB from_ n p = false) (hij : i < j) (h64 : p.2.length = 64) : Going w (wr.setCells k (i * 65) (wrow p)) k cap from_ n ws tail (i + 1) (j + 1) := by
  obtain ⟨rs, h1, h2, h3, h4, h5⟩ := h.rows
  have hj : j < ws.length := (List.getElem?_eq_some_iff.1 hp).1
  have hi : i < rs.length := by omega
  have e : (ws.take (j + 1)).filter (keepB from_ n) = (ws.take j).filter (keepB from_ n) ++ [p] := by
    rw [filter_snoc hp, show keepB from_ n p = true by simp [keepB, hs], if_pos rfl]
  have h65 := wrow_len h64
  refine ⟨⟨rs.set i (wrow p), by simpa using h1, h2.set i h65, ?_, ?_, ?_⟩, by rw [e, List.length_append, h.len]; rfl, h.kept.setCells (.inl rfl) _ _⟩
  · rw [← splice_app h2 i hi h65]
    refine h3.store _ _ ?_
    rw [h65, List.length_append, flat_len h2, h1]; omega
  · rw [e, List.map_append, ← h4, List.take_add_one, List.take_set_of_le (Nat.le_refl _), List.getElem?_set_self hi]; rfl
  · rw [List.drop_set_of_lt (by omega)]
    have := congrArg (List.drop 1) h5
    simpa [List.drop_drop, ← List.map_drop, Nat.add_comm] using this
theorem Held.going (h : Held w k cap ws) {p : Nat × List UInt8} (hp : ws[i]? = some p) (hs : spanB from_ n p = true) (hno : ∀ j q, j < i → ws[j]? = some q → spanB from_ n q = false) :
    ∃ tail, tail.length = (cap - ws.length) * 65 ∧ Going w w k cap from_ n ws tail i (i + 1) := by
  obtain ⟨tail, ht, hW⟩ := h.parts
  have hi : i < ws.length := (List.getElem?_eq_some_iff.1 hp).1
  refine ⟨tail, ht, ⟨⟨ws.map wrow, by simp, h.even, hW, ?_, by rw [List.map_drop]⟩, ?_, Kept.refl _ _⟩⟩
  · rw [keep_before hp hs hno, List.map_take]
  · rw [keep_before hp hs hno, List.length_take]; omega
theorem Going.done (h : Going w wr k cap from_ n ws tail i ws.length) (ht : tail.length = (cap - ws.length) * 65) (hH : Held w k cap ws) (hi : i < ws.length) (zs : List Value) (hz : zs.length = (ws.length - i) * 65)
    {w2 : World} {cur : List Value} (hW2 : Whole w2 k 163 cur) (hcur : ∀ rs : List (List Value), rs.length = ws.length → Even 65 rs → Whole wr k 163 (rs.flatten ++ tail) → cur = splice (rs.flatten ++ tail) (i * 65) zs) (hk : Kept (fun b => b = k) wr w2) :
    (ws.filter (keepB from_ n)).length = i ∧ Held w2 k cap (ws.filter (keepB from_ n)) ∧ Kept (fun b => b = k) w w2 := by
  obtain ⟨rs, h1, h2, h3, h4, h5⟩ := h.rows
  have hl := h.len
  rw [List.take_length] at h4 hl
  have hle := hH.le
  have hfl := flat_len h2
  refine ⟨hl, ⟨by omega, hH.few, fun p hp => hH.l64 p ((List.mem_filter.1 hp).1), fun p hp => hH.lt p ((List.mem_filter.1 hp).1), cur, hW2, ?_, ?_⟩, h.kept.trans hk⟩
  · rw [hcur rs h1 h2 h3]
    simp only [splice, List.length_append, List.length_take, List.length_drop, hz, hfl, ht, h1]
    rw [Nat.sub_mul, Nat.sub_mul]
    have a1 := Nat.mul_le_mul_right 65 hle
    have a2 := Nat.mul_le_mul_right 65 (Nat.le_of_lt hi)
    omega
  · rw [hcur rs h1 h2 h3, hl]
    simp only [splice]
    have a2 := Nat.mul_le_mul_right 65 (Nat.le_of_lt hi)
    rw [List.take_append_of_le_length (by rw [List.length_take, List.length_append, hfl, h1]; omega), List.take_take, Nat.min_self, List.take_append_of_le_length (by rw [hfl, h1]; exact a2), flat_take h2, h4]
end

end Go.Proofs.YtgogackkeodciabGreatDoor.D
end
section
namespace Go.Proofs.YtgogackkeodciabGreatDoor.D
open Go.RowKit
set_option linter.unusedVariables false

theorem stopBuild {P : Program} {w : World} {ops : Array Oper} {rest : List Oper} {o : Oper} {a : Act} {Q : Exit → Act → World → Prop} (t : TypeId) (x : Operand)
    (ho : o.op = .buildSlice t 1 #[(0, x)]) (h : Hid (wpList P ops Q (o :: rest) a w)) : wpList P ops Q (o :: rest) a w := h
theorem stopAppend {P : Program} {w : World} {ops : Array Oper} {rest : List Oper} {o : Oper} {a : Act} {Q : Exit → Act → World → Prop} (x y : Operand) (t : TypeId)
    (ho : o.op = .call { callee := .builtin .append, args := #[x, y], argTypes := #[t, t] }) (h : Hid (wpList P ops Q (o :: rest) a w)) : wpList P ops Q (o :: rest) a w := h
theorem wpList_build {w : World} {ops : Array Oper} {rest : List Oper} {o : Oper} {a : Act} {Q : Exit → Act → World → Prop} (hgd : o.guard = none) (x : Operand)
    (ho : o.op = .buildSlice 93 1 #[(0, x)]) (cs : List Value) (hx : a.eval x = .agg cs.toArray) (hl : cs.length = 65)
    (h : wpList Tryz.prog ops Q rest (a.put o.dst (.slice (some ⟨w.heap.size, 0, none⟩) 1 1)) (w.alloc (.cells cs.toArray 163))) : wpList Tryz.prog ops Q (o :: rest) a w := by
  refine wpList_plain hgd fun K hK => ?_
  obtain ⟨d, op, ty, ps, af, gd⟩ := o
  have ho' : op = .buildSlice 93 1 #[(0, x)] := ho
  subst ho'
  have hb := build_op a.eval d x ty ps af gd w (by rw [hx]; simpa [Value.cells] using hl)
  rw [hx] at hb
  unfold Oper.wp
  simp only [Oper.upon, hb]
  exact hK _ _ h
theorem Dk.held {w : World} {d g k cap : Nat} {lie : List (List UInt8)} {ws : List (Nat × List UInt8)} (h : Dk w d g (.slice (some ⟨k, 0, none⟩) ws.length cap) lie ws) : Held w k cap ws := by
  rcases h.form with ⟨h0, _⟩ | ⟨k', cap', cur, hv, hW, hle, hcap, hcur, htake⟩
  · cases h0
  cases hv
  have hf := h.few
  exact ⟨hle, hcap, h.ws64, fun p hp => by have := h.within p hp; omega, cur, hW, hcur, htake⟩
theorem Held.owns {w : World} {k cap : Nat} {ws : List (Nat × List UInt8)} (h : Held w k cap ws) : w.ownsRow 0 163 65 (.slice (some ⟨k, 0, none⟩) ws.length cap) ws.length (ws.map wrow).flatten := by
  obtain ⟨cur, h1, h2, h3⟩ := h.cur
  refine ⟨by rw [flat_len h.even, List.length_map], .inr ⟨k, cap, cur.toArray, rfl, Nat.zero_le _, h1, h.le, h.few, by simpa using h2, by simpa using h3⟩⟩
/-- What the statement d.waiting = DeleteFunc(..) leaves. -/
theorem redone {w wr w2 : World} {d g : Nat} {v v' : Value} {lie : List (List UInt8)} {ws ws' : List (Nat × List UInt8)} (h : Dk wr d g v lie ws) (hK : Kept (mine d g v) w wr) (hv : v'.ownBlock = v.ownBlock)
    (hown : w2.ownsRow 0 163 65 v' ws'.length (ws'.map wrow).flatten) (hk : Kept (fun b => v.ownBlock = some b) wr w2) (hsub : ∀ p ∈ ws', p ∈ ws) :
    Dk (w2.setCell ⟨d, 1, none⟩ v') d g v' lie ws' ∧ Kept (mine d g v) w (w2.setCell ⟨d, 1, none⟩ v') := by
  obtain ⟨n1, n2, n3⟩ := h.ne
  have hobj := h.obj.of_kept hk (fun e => n2 e.symm)
  have hly := h.lying.of_kept hk (fun e => n3 e.symm)
  refine ⟨⟨hobj.store 1 [_] (by simp), hly.far (fun e => n1 e.symm) 1 [_], ?_, h.lie64, fun p hp => h.ws64 p (hsub p hp), h.some_, h.few, fun p hp => h.within p (hsub p hp)⟩, ?_⟩
  · exact own_of_kept hown ((Kept.refl (fun k => k = d) w2).setCell (c := d) (.inl rfl) 1 _) (fun k hk e => n2 (by rw [← hv, hk, e]))
  · exact (hK.trans (hk.mono fun b _ e => .inr (.inr e))).setCell (.inl (.inl rfl)) 1 _

theorem own_low {w : World} {b B : Nat} {e : TypeId} {size n : Nat} {v : Value} {xs : List Value} (h : w.ownsRow B e size v n xs) (hb : b ≤ B) : w.ownsRow b e size v n xs := by
  rcases h with ⟨h1, h2 | ⟨g, cap, cur, h2, h3, h4⟩⟩
  · exact ⟨h1, .inl h2⟩
  · exact ⟨h1, .inr ⟨g, cap, cur, h2, by omega, h4⟩⟩
theorem own_far {w : World} {B : Nat} {e : TypeId} {size n : Nat} {v : Value} {xs : List Value} (h : w.ownsRow B e size v n xs) : ∀ k, v.ownBlock = some k → B ≤ k := fun k hk => by
  rcases h with ⟨h1, ⟨rfl, _⟩ | ⟨g, cap, cur, rfl, h3, h4⟩⟩
  · cases hk
  · have e2 : g = k := by simpa [Value.ownBlock] using hk
    omega
theorem Dk.own_lt {w : World} {d g : Nat} {v : Value} {lie : List (List UInt8)} {ws : List (Nat × List UInt8)} (h : Dk w d g v lie ws) : ∀ k, v.ownBlock = some k → k < w.heap.size := fun k hk => by
  rcases h.form with ⟨rfl, _⟩ | ⟨k', cap, cur, rfl, hW, _⟩
  · cases hk
  · have e2 : k' = k := by simpa [Value.ownBlock] using hk
    subst e2
    exact hW.lt
/-- What take leaves. -/
def Took (w : World) (d g : Nat) (v : Value) (lie : List (List UInt8)) (ws : List (Nat × List UInt8)) (from_ n : Nat) (tv : Value) (w' : World) : Prop :=
  ∃ v', w'.ownsRow w.heap.size 163 65 tv (ws.filter (spanB from_ n)).length ((ws.filter (spanB from_ n)).map wrow).flatten ∧ Dk w' d g v' lie (ws.filter (keepB from_ n)) ∧ v'.ownBlock = v.ownBlock ∧ Kept (mine d g v) w w'
theorem Took.drew {w w' : World} {d g from_ n : Nat} {v tv : Value} {lie : List (List UInt8)} {ws : List (Nat × List UInt8)} (h : Took w d g v lie ws from_ n tv w') : Took w d g v lie ws from_ n tv w'.drew := by
  obtain ⟨v', h1, h2, h3, h4⟩ := h
  exact ⟨v', h1.drew, ⟨h2.obj, h2.lying, h2.wait.drew, h2.lie64, h2.ws64, h2.some_, h2.few, h2.within⟩, h3, h4.drewN 1⟩
theorem Dk.drew {w : World} {d g : Nat} {v : Value} {lie : List (List UInt8)} {ws : List (Nat × List UInt8)} (h : Dk w d g v lie ws) : Dk w.drew d g v lie ws := ⟨h.obj, h.lying, h.wait.drew, h.lie64, h.ws64, h.some_, h.few, h.within⟩
theorem took {w wr w2 : World} {d g B from_ n : Nat} {v v' tv : Value} {lie : List (List UInt8)} {ws : List (Nat × List UInt8)} (h : Dk w d g v lie ws) (hbr : Below w.heap.size w wr) (hB : w.heap.size ≤ B)
    (htv : wr.ownsRow B 163 65 tv (ws.filter (spanB from_ n)).length ((ws.filter (spanB from_ n)).map wrow).flatten) (hv : v'.ownBlock = v.ownBlock)
    (hown : w2.ownsRow 0 163 65 v' (ws.filter (keepB from_ n)).length ((ws.filter (keepB from_ n)).map wrow).flatten) (hk : Kept (fun b => v.ownBlock = some b) wr w2) : Took w d g v lie ws from_ n tv (w2.setCell ⟨d, 1, none⟩ v') := by
  obtain ⟨r1, r2⟩ := redone (h.below hbr) (Kept.of_below hbr) hv hown hk (fun p hp => (List.mem_filter.1 hp).1)
  have k2 : Kept (fun b => v.ownBlock = some b ∨ b = d) wr (w2.setCell ⟨d, 1, none⟩ v') := (hk.mono fun _ _ e => .inl e).setCell (c := d) (.inl (.inr rfl)) 1 _
  have hdl := h.obj.lt
  refine ⟨v', own_low (own_of_kept htv k2 ?_) hB, r1, hv, r2⟩
  intro k hk' hc
  have := own_far htv k hk'
  rcases hc with e | e
  · have := h.own_lt k e; omega
  · omega

end Go.Proofs.YtgogackkeodciabGreatDoor.D
end
