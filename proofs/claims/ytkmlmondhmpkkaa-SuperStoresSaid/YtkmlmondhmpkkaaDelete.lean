/- The library's DeleteFunc at writes that wait: those of a span go, the others close up. -/
import Derived.Test.YtkmlmondhmpkkaaProg
import Derived.Test.YtkmlmondhmpkkaaWrite
import Derived.Lib.SliceRun
namespace Go.Proofs.Ytkmlmondhmpkkaa.D
open Go.RowKit
set_option linter.unusedVariables false

section
variable (d g : Nat) (v : Value) (lie : List (List UInt8)) (ws : List (Nat × List UInt8)) (w : World)
theorem write_out (a : Int) (s : ByteArray) (h : Dk w d g v lie ws) (ha : a < 0 ∨ lie.length ≤ a) :
    Calls Try.prog 48 #[.pointer (some ⟨d, 0, none⟩), .int .i64 a, .string s] w fun e w' => e = .returned (.int .i64 20) ∧ w = w' := by
  replace ha := Lib.hid ha
  go_enter Try.func48, Try.ntmps48
  go_wp2_with fail
  refine (sector_out d g v lie ws _ a h ha.out).mono ?_
  rintro e w1 ⟨rfl, rfl⟩
  go_wp2_with fail
  go_ret
  exact ⟨rfl, rfl⟩
theorem write_short (a : Nat) (s : ByteArray) (h : Dk w d g v lie ws) (ha : a < lie.length) (hs : s.size < 64) :
    Calls Try.prog 48 #[.pointer (some ⟨d, 0, none⟩), .int .i64 a, .string s] w fun e w' => e = .returned (.int .i64 1) ∧ w = w' := by
  have hsb : ((s.size : Int) != 64) = true := by rw [bne_iff_ne]; omega
  go_enter Try.func48, Try.ntmps48
  go_wp2_with fail
  refine (sector_in d g v lie ws _ a h ha).mono ?_
  rintro e w1 ⟨rfl, rfl⟩
  go_wp2_with fail
  go_ret
  exact ⟨rfl, rfl⟩
theorem write_nil (a : Int) (s : ByteArray) : Calls Try.prog 48 #[.pointer none, .int .i64 a, .string s] w fun e w' => e = .returned (.int .i64 7) ∧ w = w' := by
  go_enter Try.func48, Try.ntmps48
  go_wp2_with fail
  refine (sector_nil _ a).mono ?_
  rintro e w1 ⟨rfl, rfl⟩
  go_wp2_with fail
  go_ret
  exact ⟨rfl, rfl⟩
end

/-- The method value s.has. -/
abbrev hasV (from_ n : Nat) : Value := .func (.func 64) #[.agg #[.int .i64 from_, .int .i64 n]] #[]
/-- A row of writes, in block k. -/
structure WRow (w : World) (k m : Nat) (ws : List (Nat × List UInt8)) : Prop where
  len : ws.length = m
  row : ∀ j p, ws[j]? = some p → w.rangeAt k (j * 65) (wrow p)
  l64 : ∀ p ∈ ws, p.2.length = 64
  lt : ∀ p ∈ ws, p.1 < 8192
theorem WRow.below {w w' : World} {k m : Nat} {ws : List (Nat × List UInt8)} (h : WRow w k m ws) (hb : Below w.heap.size w w') : WRow w' k m ws := ⟨h.len, fun j p hp i u hu => keepCell hb (h.row j p hp i u hu), h.l64, h.lt⟩

set_option maxRecDepth 100000 in
/-- The first one of a span, from the list's beginning. -/
theorem index_any (k m cap from_ n : Nat) (ws : List (Nat × List UInt8)) (w : World) (h : WRow w k m ws) (hm : m ≤ 100000) (hn : from_ + n ≤ 8192) :
    Calls Try.prog 67 #[.slice (some ⟨k, 0, none⟩) m cap, hasV from_ n] w fun e w' =>
      (∃ i : Nat, ∃ p, e = .returned (.int .i64 i) ∧ ws[i]? = some p ∧ spanB from_ n p = true ∧ (∀ j q, j < i → ws[j]? = some q → spanB from_ n q = false) ∧ Below w.heap.size w w') ∨
      (e = .returned (.int .i64 (-1)) ∧ (∀ q ∈ ws, spanB from_ n q = false) ∧ Below w.heap.size w w') := by
  have hlen := Lib.hid h.len
  have hget : Hid (∀ j, j < m → ∃ p, ws[j]? = some p) := fun j hj => ⟨_, List.getElem?_eq_getElem (by rw [h.len]; exact hj)⟩
  go_enter Try.func67, Try.ntmps67
  go_wp2_with fail
  go_loopg [8] m (fun g i wr => ∃ j : Nat, j ≤ m ∧ m ≤ j + g ∧ i = .int .i64 j ∧ Hid (∀ i q, i < j → ws[i]? = some q → spanB from_ n q = false) ∧ Below w.heap.size w wr)
  case atStart => exact ⟨0, by omega, by omega, rfl, fun i q hi => by omega, Below.refl _ _⟩
  case round =>
    obtain ⟨j, hj, hg, rfl, hno, hbr⟩ := hrel
    by_cases hlt : j < m
    · obtain ⟨p, hp⟩ := hget.out j hlt
      have hp8 := h.lt p (List.mem_of_getElem? hp)
      have h65 := Lib.hid (wrow_len (h.l64 p (List.mem_of_getElem? hp)))
      have e4 : wr.rangeAt k (j * 65) (wrow p) := (h.below hbr).row j p hp
      replace hp := Lib.hid hp
      go_wp2_with (with_reducible refine stopLoad 124 _ rfl ?_)
      refine Lib.hid ?_
      refine wpList_load_mid rfl 124 _ rfl k (j * 65) rfl (wrow p) _ e4 Try.underlying124 rfl (by rw [h65.out]; exact sizeWrite) ?_
      go_wp2_with fail
      refine (has_any from_ n p _ hn hp8).mono ?_
      rintro e w3 ⟨rfl, hb3⟩
      have hbr3 := hbr.trans (hb3.mono hbr.size)
      cases hs : spanB from_ n p <;> replace hs := Lib.hid hs
      · have hno2 : Hid (∀ i q, i < j + 1 → ws[i]? = some q → spanB from_ n q = false) := fun i q hi hq => by
          rcases Nat.lt_or_ge i j with c | c
          · exact hno.out i q c hq
          · obtain rfl : i = j := by omega
            rw [hp.out] at hq; cases hq; exact hs.out
        go_wp2_with fail
        go_roundg (gk - 1)
        case measure => omega
        case rel => exact ⟨j + 1, by omega, by omega, by go_num, hno2, hbr3⟩
      · go_wp2_with fail
        go_ret
        exact .inl ⟨j, p, rfl, hp.out, hs.out, hno.out, hbr3⟩
    · obtain rfl : j = m := by omega
      go_wp2_with fail
      go_ret
      exact .inr ⟨rfl, fun q hq => by
        obtain ⟨i, hi, rfl⟩ := List.mem_iff_getElem.1 hq
        exact hno.out i _ (by rw [← hlen.out]; exact hi) (List.getElem?_eq_getElem hi), hbr⟩
theorem index_nil (f : Value) (w : World) :
    Calls Try.prog 67 #[.slice none 0 0, f] w fun e w' => e = .returned (.int .i64 (-1)) ∧ w = w' := by
  go_enter Try.func67, Try.ntmps67
  go_wp2_with fail
  go_loopg [8] 0 (fun g i wr => i = .int .i64 0 ∧ w = wr)
  case atStart => exact ⟨rfl, rfl⟩
  case round =>
    obtain ⟨rfl, rfl⟩ := hrel
    go_wp2_with fail
    go_ret
    exact ⟨rfl, rfl⟩

theorem stopClear {P : Program} {w : World} {ops : Array Oper} {rest : List Oper} {o : Oper} {a : Act} {Q : Exit → Act → World → Prop} (x : Operand) (t : TypeId)
    (ho : o.op = .call { callee := .builtin .clear, args := #[x], argTypes := #[t] }) (h : Hid (wpList P ops Q (o :: rest) a w)) : wpList P ops Q (o :: rest) a w := h
/-- clear(s) of some writes. -/
theorem wpList_clear_rows {w : World} {ops : Array Oper} {rest : List Oper} {o : Oper} {a : Act} {Q : Exit → Act → World → Prop} (hgd : o.guard = none) (x : Operand)
    (ho : o.op = .call { callee := .builtin .clear, args := #[x], argTypes := #[93] }) (k off n c : Nat) (hx : a.eval x = .slice (some ⟨k, off, none⟩) n c) (hn : 0 < n) (t : TypeId) (cur : List Value) (hW : Whole w k t cur) (hl : off + n * 65 ≤ cur.length)
    (h : ∀ zs : List Value, zs.length = n * 65 → Whole (w.setCells k off zs) k t (splice cur off zs) → wpList Try.prog ops Q rest (a.put o.dst (.tuple #[])) (w.setCells k off zs)) :
    wpList Try.prog ops Q (o :: rest) a w := by
  refine wpList_plain hgd fun K hK => ?_
  obtain ⟨i0, hi0, hz0, hz1, hz2⟩ := info_parts infoWrite
  obtain ⟨z, hz, hzs, hzo⟩ : ∃ z, i0.zero = some z ∧ z.cells.size = 65 ∧ ∀ v ∈ z.cells.toList, v.oneCell' = true := ⟨_, hz0, by simp [Value.cells], fun v hv => by
    simp only [Value.cells, Array.toList_append, List.mem_append, Array.toList_replicate, List.mem_replicate] at hv
    rcases hv with h1 | h1
    · have : v = .int .i64 0 := by simpa using h1
      rw [this]; rfl
    · rw [h1.2]; rfl⟩
  clear hz0
  have hzv : (zeroValue 124).run Try.prog w = .ok z w := by simp [zeroValue, typeInfo, hi0, hz]
  have hzl : (Builtin.zeroCells z.cells n).toList.length = n * 65 := by simp [size_zeroCells, hzs]
  have hth := hW.there off (n * 65) hl
  have hst := run_storeCells_cells (P := Try.prog) k off (Builtin.zeroCells z.cells n).toList 0 w (fun j hj => by rw [hzl] at hj; simpa using (hth j hj).1) (fun j hj => by rw [hzl] at hj; simpa using (hth j hj).2) (fun v hv => by
    simp only [Builtin.zeroCells, Array.toList_map, List.mem_map] at hv
    obtain ⟨j, -, rfl⟩ := hv
    have hlt : j % z.cells.size < z.cells.size := Nat.mod_lt _ (by rw [hzs]; decide)
    rw [getElem!_pos z.cells _ hlt]
    exact hzo _ (by simp))
  obtain ⟨L, hL⟩ : ∃ L, (Builtin.zeroCells z.cells n).toList = L := ⟨_, rfl⟩
  rw [hL] at hzl hst
  rw [Nat.add_zero] at hst
  obtain ⟨m, rfl⟩ : ∃ m, n = m + 1 := ⟨n - 1, by omega⟩
  have hcl : (Builtin.clear_ #[93] o.type #[.slice (some ⟨k, off, none⟩) (m + 1) c]).run Try.prog w = .ok (.tuple #[]) (w.setCells k off L) := by
    simp [Builtin.clear_, run_underlying Try.underlying93, hzv, hL, hst]
  unfold Oper.wp
  simp [execOp, ho, resolve, invoke, builtin, hx, hcl, Result.andThen]
  exact hK _ _ (h _ hzl (hW.store off _ (by rw [hzl]; exact hl)))
end Go.Proofs.Ytkmlmondhmpkkaa.D
