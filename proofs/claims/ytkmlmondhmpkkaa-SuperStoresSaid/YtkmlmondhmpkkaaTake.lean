/- The library's DeleteFunc at writes that wait, and the disk's take. -/
import Derived.Test.YtkmlmondhmpkkaaProg
import Derived.Test.YtkmlmondhmpkkaaDelete
namespace Go.Proofs.Ytkmlmondhmpkkaa.D
open Go.RowKit
set_option linter.unusedVariables false

/-- What stays. -/
def keepB (from_ n : Nat) (p : Nat × List UInt8) : Bool := !spanB from_ n p
/-- The waiting writes in block k. -/
structure Held (w : World) (k cap : Nat) (ws : List (Nat × List UInt8)) : Prop where
  le : ws.length ≤ cap
  few : cap ≤ maxLen
  l64 : ∀ p ∈ ws, p.2.length = 64
  lt : ∀ p ∈ ws, p.1 < 8192
  cur : ∃ cur, Whole w k 124 cur ∧ cur.length = cap * 65 ∧ cur.take (ws.length * 65) = (ws.map wrow).flatten
theorem Held.even {w : World} {k cap : Nat} {ws : List (Nat × List UInt8)} (h : Held w k cap ws) : Even 65 (ws.map wrow) := fun r hr => by
  obtain ⟨p, hp, rfl⟩ := List.mem_map.1 hr
  exact wrow_len (h.l64 p hp)
/-- A row of the first ones in a block. -/
theorem row_app {w : World} {b sz : Nat} {t : TypeId} {rows : List (List Value)} {tail : List Value} (h : Whole w b t (rows.flatten ++ tail)) (he : Even sz rows) {i : Nat} {r : List Value} (hr : rows[i]? = some r) : w.rangeAt b (i * sz) r := fun j v hv => by
  have hi : i < rows.length := (List.getElem?_eq_some_iff.1 hr).1
  have hrl : r.length = sz := he r (List.mem_of_getElem? hr)
  have hj : j < sz := by rw [← hrl]; exact (List.getElem?_eq_some_iff.1 hv).1
  have e : rows.flatten[i * sz + j]? = some v := by rw [flat_at he i j hj, hr]; exact hv
  rw [h.cell, List.getElem?_append_left (List.getElem?_eq_some_iff.1 e).1, e]
theorem Whole.uniq {w : World} {b : Nat} {t : TypeId} {cs ds : List Value} (h : Whole w b t cs) (k : Whole w b t ds) : cs = ds := by
  have e := h.symm.trans k
  injection e with e
  injection e with e
  simpa using e
theorem splice_app {sz : Nat} {rows : List (List Value)} {tail : List Value} (he : Even sz rows) (i : Nat) (hi : i < rows.length) {r : List Value} (hr : r.length = sz) : splice (rows.flatten ++ tail) (i * sz) r = (rows.set i r).flatten ++ tail := by
  have hfl := flat_len he
  have hle : i * sz + sz ≤ rows.flatten.length := by
    rw [hfl]
    have : (i + 1) * sz ≤ rows.length * sz := Nat.mul_le_mul_right _ hi
    rw [Nat.succ_mul] at this; exact this
  rw [← splice_row he i hi hr]
  unfold splice
  rw [List.take_append_of_le_length (by omega), List.drop_append_of_le_length (by omega)]
  simp [List.append_assoc]
theorem Held.parts {w : World} {k cap : Nat} {ws : List (Nat × List UInt8)} (h : Held w k cap ws) : ∃ tail, tail.length = (cap - ws.length) * 65 ∧ Whole w k 124 ((ws.map wrow).flatten ++ tail) := by
  obtain ⟨cur, h1, h2, h3⟩ := h.cur
  refine ⟨cur.drop (ws.length * 65), by rw [List.length_drop, h2, Nat.sub_mul], ?_⟩
  rw [← h3, List.take_append_drop]; exact h1
theorem Held.wr_ {w : World} {k cap : Nat} {ws : List (Nat × List UInt8)} (h : Held w k cap ws) : WRow w k ws.length ws := by
  obtain ⟨tail, -, hW⟩ := h.parts
  exact ⟨rfl, fun j p hp => row_app hW h.even (by rw [List.getElem?_map, hp]; rfl), h.l64, h.lt⟩
theorem Held.below {w w2 : World} {k cap : Nat} {ws : List (Nat × List UInt8)} (h : Held w k cap ws) (hb : Below w.heap.size w w2) : Held w2 k cap ws := by
  obtain ⟨cur, h1, h2, h3⟩ := h.cur
  exact ⟨h.le, h.few, h.l64, h.lt, cur, h1.below hb h1.lt, h2, h3⟩
theorem keep_before {from_ n i : Nat} {ws : List (Nat × List UInt8)} {p : Nat × List UInt8} (hp : ws[i]? = some p) (hs : spanB from_ n p = true) (hno : ∀ j q, j < i → ws[j]? = some q → spanB from_ n q = false) : (ws.take (i + 1)).filter (keepB from_ n) = ws.take i := by
  rw [filter_snoc hp, show keepB from_ n p = false by simp [keepB, hs], if_neg (by decide), List.append_nil]
  apply List.filter_eq_self.2
  intro q hq
  obtain ⟨j, hj, rfl⟩ := List.mem_iff_getElem.1 hq
  have hjl : j < i := by rw [List.length_take] at hj; omega
  rw [List.getElem_take]
  simp [keepB, hno j _ hjl (List.getElem?_eq_getElem (by rw [List.length_take] at hj; omega))]
/-- Where a deletion stands: i writes kept, j looked at. -/
structure Going (w wr : World) (k cap from_ n : Nat) (ws : List (Nat × List UInt8)) (tail : List Value) (i j : Nat) : Prop where
  rows : ∃ rs, rs.length = ws.length ∧ Even 65 rs ∧ Whole wr k 124 (rs.flatten ++ tail) ∧ rs.take i = ((ws.take j).filter (keepB from_ n)).map wrow ∧ rs.drop j = (ws.drop j).map wrow
  len : ((ws.take j).filter (keepB from_ n)).length = i
  kept : Kept (fun b => b = k) w wr
section
variable {w wr : World} {k cap from_ n i j : Nat} {ws : List (Nat × List UInt8)} {tail : List Value}
theorem Going.row (h : Going w wr k cap from_ n ws tail i j) {p : Nat × List UInt8} (hp : ws[j]? = some p) : wr.rangeAt k (j * 65) (wrow p) := by
  obtain ⟨rs, h1, h2, h3, h4, h5⟩ := h.rows
  refine row_app h3 h2 ?_
  have e : (rs.drop j)[0]? = ((ws.drop j).map wrow)[0]? := by rw [h5]
  simpa [List.getElem?_drop, hp] using e
theorem Going.there (h : Going w wr k cap from_ n ws tail i j) (hi : i < ws.length) : wr.there k (i * 65) 65 := by
  obtain ⟨rs, h1, h2, h3, h4, h5⟩ := h.rows
  refine h3.there _ _ ?_
  rw [List.length_append, flat_len h2, h1]; omega
theorem Going.below (h : Going w wr k cap from_ n ws tail i j) {w2 : World} (hb : Below wr.heap.size wr w2) (hk : k < wr.heap.size) : Going w w2 k cap from_ n ws tail i j := by
  obtain ⟨rs, h1, h2, h3, h4, h5⟩ := h.rows
  exact ⟨⟨rs, h1, h2, h3.below hb hk, h4, h5⟩, h.len, h.kept.trans (Kept.of_below hb)⟩
theorem Going.skip (h : Going w wr k cap from_ n ws tail i j) {p : Nat × List UInt8} (hp : ws[j]? = some p) (hs : spanB from_ n p = true) : Going w wr k cap from_ n ws tail i (j + 1) := by
  obtain ⟨rs, h1, h2, h3, h4, h5⟩ := h.rows
  have e : (ws.take (j + 1)).filter (keepB from_ n) = (ws.take j).filter (keepB from_ n) := by
    rw [filter_snoc hp, show keepB from_ n p = false by simp [keepB, hs], if_neg (by decide), List.append_nil]
  refine ⟨⟨rs, h1, h2, h3, by rw [e]; exact h4, ?_⟩, by rw [e]; exact h.len, h.kept⟩
  have := congrArg (List.drop 1) h5
  simpa [List.drop_drop, ← List.map_drop, Nat.add_comm] using this
theorem Going.move (h : Going w wr k cap from_ n ws tail i j) {p : Nat × List UInt8} (hp : ws[j]? = some p) (hs : spanB from_ n p = false) (hij : i < j) (h64 : p.2.length = 64) : Going w (wr.setCells k (i * 65) (wrow p)) k cap from_ n ws tail (i + 1) (j + 1) := by
  obtain ⟨rs, h1, h2, h3, h4, h5⟩ := h.rows
  have hj : j < ws.length := (List.getElem?_eq_some_iff.1 hp).1
  have hi : i < rs.length := by omega
  have e : (ws.take (j + 1)).filter (keepB from_ n) = (ws.take j).filter (keepB from_ n) ++ [p] := by
    rw [filter_snoc hp, show keepB from_ n p = true by simp [keepB, hs], if_pos rfl]
  have h65 := wrow_len h64
  refine ⟨⟨rs.set i (wrow p), by simpa using h1, h2.set i h65, ?_, ?_, ?_⟩, by rw [e, List.length_append, h.len]; rfl, h.kept.setCells (.inl rfl) _ _⟩
  · rw [← splice_app h2 i hi h65]
    refine h3.store _ _ ?_
    rw [h65, List.length_append, flat_len h2, h1]; omega
  · rw [e, List.map_append, ← h4, List.take_add_one, List.take_set_of_le (Nat.le_refl _), List.getElem?_set_self hi]; rfl
  · rw [List.drop_set_of_lt (by omega)]
    have := congrArg (List.drop 1) h5
    simpa [List.drop_drop, ← List.map_drop, Nat.add_comm] using this
theorem Held.going (h : Held w k cap ws) {p : Nat × List UInt8} (hp : ws[i]? = some p) (hs : spanB from_ n p = true) (hno : ∀ j q, j < i → ws[j]? = some q → spanB from_ n q = false) :
    ∃ tail, tail.length = (cap - ws.length) * 65 ∧ Going w w k cap from_ n ws tail i (i + 1) := by
  obtain ⟨tail, ht, hW⟩ := h.parts
  have hi : i < ws.length := (List.getElem?_eq_some_iff.1 hp).1
  refine ⟨tail, ht, ⟨⟨ws.map wrow, by simp, h.even, hW, ?_, by rw [List.map_drop]⟩, ?_, Kept.refl _ _⟩⟩
  · rw [keep_before hp hs hno, List.map_take]
  · rw [keep_before hp hs hno, List.length_take]; omega
theorem Going.done (h : Going w wr k cap from_ n ws tail i ws.length) (ht : tail.length = (cap - ws.length) * 65) (hH : Held w k cap ws) (hi : i < ws.length) (zs : List Value) (hz : zs.length = (ws.length - i) * 65)
    {w2 : World} {cur : List Value} (hW2 : Whole w2 k 124 cur) (hcur : ∀ rs : List (List Value), rs.length = ws.length → Even 65 rs → Whole wr k 124 (rs.flatten ++ tail) → cur = splice (rs.flatten ++ tail) (i * 65) zs) (hk : Kept (fun b => b = k) wr w2) :
    (ws.filter (keepB from_ n)).length = i ∧ Held w2 k cap (ws.filter (keepB from_ n)) ∧ Kept (fun b => b = k) w w2 := by
  obtain ⟨rs, h1, h2, h3, h4, h5⟩ := h.rows
  have hl := h.len
  rw [List.take_length] at h4 hl
  have hle := hH.le
  have hfl := flat_len h2
  refine ⟨hl, ⟨by omega, hH.few, fun p hp => hH.l64 p ((List.mem_filter.1 hp).1), fun p hp => hH.lt p ((List.mem_filter.1 hp).1), cur, hW2, ?_, ?_⟩, h.kept.trans hk⟩
  · rw [hcur rs h1 h2 h3]
    simp only [splice, List.length_append, List.length_take, List.length_drop, hz, hfl, ht, h1]
    rw [Nat.sub_mul, Nat.sub_mul]
    have a1 := Nat.mul_le_mul_right 65 hle
    have a2 := Nat.mul_le_mul_right 65 (Nat.le_of_lt hi)
    omega
  · rw [hcur rs h1 h2 h3, hl]
    simp only [splice]
    have a2 := Nat.mul_le_mul_right 65 (Nat.le_of_lt hi)
    rw [List.take_append_of_le_length (by rw [List.length_take, List.length_append, hfl, h1]; omega), List.take_take, Nat.min_self, List.take_append_of_le_length (by rw [hfl, h1]; exact a2), flat_take h2, h4]
end

set_option maxRecDepth 100000 in
theorem delete_any (k cap from_ n : Nat) (ws : List (Nat × List UInt8)) (w : World) (hH : Held w k cap ws) (hm : ws.length ≤ 100000) (hn : from_ + n ≤ 8192) :
    Calls Try.prog 65 #[.slice (some ⟨k, 0, none⟩) ws.length cap, hasV from_ n] w fun e w' =>
      e = .returned (.slice (some ⟨k, 0, none⟩) (ws.filter (keepB from_ n)).length cap) ∧ Held w' k cap (ws.filter (keepB from_ n)) ∧ Kept (fun b => b = k) w w' := by
  obtain ⟨m, hml⟩ : ∃ m, Hid (ws.length = m) := ⟨_, Lib.hid rfl⟩
  have hwr := hH.wr_
  have hle := hH.le
  have hfew := hH.few
  have hklt : k < w.heap.size := by obtain ⟨tail, -, hW⟩ := hH.parts; exact hW.lt
  unfold maxLen at hfew
  rw [hml.out] at hle hm hwr ⊢
  replace hH := Lib.hid hH
  go_enter Try.func65, Try.ntmps65
  go_wp2_with fail
  refine (index_any k m cap from_ n ws _ hwr hm hn).mono ?_
  rintro e w1 (⟨i0, p0, rfl, hp0, hs0, hno0, hb1⟩ | ⟨rfl, hno0, hb1⟩)
  · have hH1 : Held w1 k cap ws := hH.out.below hb1
    obtain ⟨tail, htl, hG0⟩ := hH1.going hp0 hs0 hno0
    have hi0 : i0 < m := by rw [← hml.out]; exact (List.getElem?_eq_some_iff.1 hp0).1
    have hneb : ((i0 : Int) == -1) = false := by rw [beq_eq_false_iff_ne]; omega
    have hklt1 : k < w1.heap.size := Nat.lt_of_lt_of_le hklt hb1.size
    have hget : Hid (∀ j, j < m → ∃ p, ws[j]? = some p) := fun j hj => ⟨_, List.getElem?_eq_getElem (by rw [hml.out]; exact hj)⟩
    have h64 := Lib.hid hH.out.l64
    have h8 := Lib.hid hH.out.lt
    replace hG0 := Lib.hid hG0
    replace htl := Lib.hid htl
    replace hH1 := Lib.hid hH1
    clear hp0 hs0 hno0 hwr
    go_wp2_with fail
    go_loopg [5, 6] m (fun g vi vj wr => ∃ i j : Nat, i < j ∧ j ≤ m ∧ m ≤ j + g ∧ vi = .int .i64 i ∧ vj = .int .i64 j ∧ k < wr.heap.size ∧ Hid (Going w1 wr k cap from_ n ws tail i j))
    case atStart => exact ⟨i0, i0 + 1, by omega, by omega, by omega, by go_num, by go_num, hklt1, hG0⟩
    case round =>
      obtain ⟨i, j, hij, hj, hg, rfl, rfl, hkr, hG⟩ := hrel
      by_cases hlt : j < m
      · obtain ⟨p, hp⟩ := hget.out j hlt
        have hp8 := h8.out p (List.mem_of_getElem? hp)
        have hp64 := Lib.hid (h64.out p (List.mem_of_getElem? hp))
        have h65 := Lib.hid (wrow_len hp64.out)
        have e4 := hG.out.row hp
        replace hp := Lib.hid hp
        go_wp2_with (with_reducible refine stopLoad 124 _ rfl ?_)
        refine Lib.hid ?_
        refine wpList_load_mid rfl 124 _ rfl k (j * 65) rfl (wrow p) _ e4 Try.underlying124 rfl (by rw [h65.out]; exact sizeWrite) ?_
        go_wp2_with (with_reducible refine stopStore 124 _ _ rfl ?_)
        refine Lib.hid ?_
        refine wpList_fresh rfl 124 _ _ rfl _ rfl (wrow p) rfl wr _ rfl rfl (by rw [h65.out]; rfl) (by rw [h65.out]; exact sizeWrite) (wrow_one p) ?_
        intro w2 hbox hb2 hsz2
        have hG2 := Lib.hid (hG.out.below hb2 hkr)
        have hr2 := hbox.range
        go_wp2_with (with_reducible refine stopLoad 124 _ rfl ?_)
        refine Lib.hid ?_
        refine wpList_load_mid rfl 124 _ rfl wr.heap.size 0 rfl (wrow p) _ hr2 Try.underlying124 rfl (by rw [h65.out]; exact sizeWrite) ?_
        go_wp2_with fail
        refine (has_any from_ n p _ hn hp8).mono ?_
        rintro e w3 ⟨rfl, hb3⟩
        have hk2 : k < w2.heap.size := by omega
        have hk3 : k < w3.heap.size := Nat.lt_of_lt_of_le hk2 hb3.size
        have hG3 := Lib.hid (hG2.out.below hb3 hk2)
        have hr3 : w3.rangeAt wr.heap.size 0 (wrow p) := (hbox.below hb3 (by omega)).range
        cases hs : spanB from_ n p <;> replace hs := Lib.hid hs
        · have hG4 := Lib.hid (hG3.out.move hp.out hs.out hij hp64.out)
          have hth := hG3.out.there (i := i) (by rw [hml.out]; omega)
          go_wp2_with (with_reducible refine stopLoad 124 _ rfl ?_)
          refine Lib.hid ?_
          refine wpList_load_mid rfl 124 _ rfl wr.heap.size 0 rfl (wrow p) _ hr3 Try.underlying124 rfl (by rw [h65.out]; exact sizeWrite) ?_
          go_wp2_with (with_reducible refine stopStore 124 _ _ rfl ?_)
          refine Lib.hid ?_
          refine wpList_store_mid rfl 124 _ _ rfl k (i * 65) (wrow p).toArray rfl rfl (by rw [List.size_toArray, h65.out]; exact hth) (by rw [List.size_toArray, h65.out]; exact sizeWrite) (all_oneCell_toArray (wrow_one p)) ?_
          obtain ⟨w4, hw4⟩ : ∃ w4, w3.setCells k (i * 65) (wrow p) = w4 := ⟨_, rfl⟩
          rw [hw4] at hG4
          rw [show (wrow p).toArray.toList = wrow p from List.toList_toArray, hw4]
          have hk4 : k < w4.heap.size := by rw [← hw4, size_setCells]; exact hk3
          clear hw4 hth hr3 hG3 hG2 hr2 hb3 hbox hb2
          go_wp2_with fail
          go_roundg (gk - 1)
          case measure => omega
          case rel => exact ⟨i + 1, j + 1, by omega, by omega, by omega, by go_num, by go_num, hk4, hG4⟩
        · have hG4 := Lib.hid (hG3.out.skip hp.out hs.out)
          go_wp2_with fail
          go_roundg (gk - 1)
          case measure => omega
          case rel => exact ⟨i, j + 1, by omega, by omega, by omega, by go_num, by go_num, hk3, hG4⟩
      · obtain rfl : j = m := by omega
        have hic : i < cap := by omega
        go_wp2_with (with_reducible refine stopClear _ _ rfl ?_)
        refine Lib.hid ?_
        obtain ⟨rs, r1, r2, r3, r4, r5⟩ := hG.out.rows
        refine wpList_clear_rows rfl _ rfl k (i * 65) (j - i) (cap - i) rfl (by omega) 124 _ r3 (by
          rw [List.length_append, flat_len r2, htl.out, r1, hml.out, Nat.sub_mul, Nat.sub_mul]
          have a1 := Nat.mul_le_mul_right 65 hle
          have a2 := Nat.mul_le_mul_right 65 (Nat.le_of_lt hij)
          omega) ?_
        intro zs hz hW2
        have hfin := Lib.hid (hG.out |> fun h => Going.done (by rw [hml.out]; exact h) htl.out hH1.out (by rw [hml.out]; exact hij) zs (by rw [hml.out]; exact hz) hW2 (fun rs' _ _ h' => by rw [h'.uniq r3]) ((Kept.refl (fun b => b = k) wr).setCells (.inl rfl) _ _))
        clear hW2 hz r1 r2 r3 r4 r5 hG
        obtain ⟨w2, hw2⟩ : ∃ w2, wr.setCells k (i * 65) zs = w2 := ⟨_, rfl⟩
        rw [hw2] at hfin ⊢
        clear hw2
        go_wp2_with fail
        go_ret
        obtain ⟨f1, f2, f3⟩ := hfin.out
        exact ⟨by rw [f1]; rfl, f2, (Kept.of_below hb1).trans f3⟩
  · have hid : ws.filter (keepB from_ n) = ws := List.filter_eq_self.2 fun q hq => by simp [keepB, hno0 q hq]
    replace hno0 := Lib.hid hno0
    go_wp2_with fail
    go_ret
    rw [hid, hml.out]
    exact ⟨rfl, hH.out.below hb1, Kept.of_below hb1⟩
theorem delete_nil (f : Value) (w : World) : Calls Try.prog 65 #[.slice none 0 0, f] w fun e w' => e = .returned (.slice none 0 0) ∧ w = w' := by
  go_enter Try.func65, Try.ntmps65
  go_wp2_with fail
  refine (index_nil f _).mono ?_
  rintro e w1 ⟨rfl, rfl⟩
  go_wp2_with fail
  go_ret
  exact ⟨rfl, rfl⟩
end Go.Proofs.Ytkmlmondhmpkkaa.D
