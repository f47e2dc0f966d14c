/- The disk: how many writes a span has. -/
import Derived.Test.YtgomhnclmacleaaProg
import Derived.Test.YtgomhnclmacleaaSpan
namespace Go.Proofs.Ytgomhnclmacleaa.D
open Go.RowKit
set_option linter.unusedVariables false

theorem stopLoad {P : Program} {w : World} {ops : Array Oper} {rest : List Oper} {o : Oper} {a : Act} {Q : Exit → Act → World → Prop} (t : TypeId) (x : Operand) (ho : o.op = .load t x) (h : Hid (wpList P ops Q (o :: rest) a w)) : wpList P ops Q (o :: rest) a w := h
theorem stopStore {P : Program} {w : World} {ops : Array Oper} {rest : List Oper} {o : Oper} {a : Act} {Q : Exit → Act → World → Prop} (t : TypeId) (x y : Operand) (ho : o.op = .store t x y) (h : Hid (wpList P ops Q (o :: rest) a w)) : wpList P ops Q (o :: rest) a w := h
theorem sizeWrite : (Try.prog.info? 108).map (·.size) = some 65 := by kernel_rfl
theorem sizeSector : (Try.prog.info? 106).map (·.size) = some 64 := by kernel_rfl
theorem wrow_len {p : Nat × List UInt8} (h : p.2.length = 64) : (wrow p).length = 65 := by simp [wrow, bytesV_len, h]
theorem wrow_one (p : Nat × List UInt8) : ∀ v ∈ wrow p, v.oneCell' = true := fun v hv => by
  rcases List.mem_cons.1 hv with rfl | h
  · rfl
  · exact bytesV_one _ v h
/-- A fresh variable that was stored into. -/
theorem fresh {w : World} {z : Array Value} {t : TypeId} {vs : List Value} (hz : z.size = vs.length) :
    Whole ((w.alloc (.cells z t)).setCells w.heap.size 0 vs) w.heap.size t vs ∧ Below w.heap.size w ((w.alloc (.cells z t)).setCells w.heap.size 0 vs) ∧ ((w.alloc (.cells z t)).setCells w.heap.size 0 vs).heap.size = w.heap.size + 1 := by
  have h0 : Whole (w.alloc (.cells z t)) w.heap.size t z.toList := by simpa using Whole.new w t z.toList
  have hl : z.toList.length = vs.length := by simpa using hz
  have h1 := h0.store 0 vs (by omega)
  have e : splice z.toList 0 vs = vs := by
    unfold splice
    rw [List.take_zero, List.nil_append, List.drop_eq_nil_of_le (by omega), List.append_nil]
  rw [e] at h1
  have k : Kept (fun _ => False) w ((w.alloc (.cells z t)).setCells w.heap.size 0 vs) := ((Kept.refl _ w).alloc _).setCells (.inr (Nat.le_refl _)) 0 vs
  exact ⟨h1, k.below (Nat.le_refl _) (fun _ h => h.elim), by rw [size_setCells]; simp⟩
theorem fresh_there {w : World} {z : Array Value} {t : TypeId} (n : Nat) (hz : z.size = n) : (w.alloc (.cells z t)).there w.heap.size 0 n := by
  have h0 : Whole (w.alloc (.cells z t)) w.heap.size t z.toList := by simpa using Whole.new w t z.toList
  exact h0.there 0 n (by simp [hz])

theorem grownOf {a w : World} (h : Below a.heap.size a w) (row : Option Nat) : a.grownBy w row := ⟨h.os, h.tape, h.output, h.size, fun i hi _ => h.block i hi⟩
theorem Dk.below {w w' : World} {d g : Nat} {v : Value} {lie : List (List UInt8)} {ws : List (Nat × List UInt8)} (h : Dk w d g v lie ws) (hb : Below w.heap.size w w') : Dk w' d g v lie ws :=
  ⟨h.obj.below hb h.obj.lt, h.lying.below hb h.lying.lt, h.wait.kept (grownOf hb none) (Classical.em _), h.lie64, h.ws64, h.some_, h.few, h.within⟩
theorem filter_snoc {p : Nat × List UInt8 → Bool} {ws : List (Nat × List UInt8)} {k : Nat} {q : Nat × List UInt8} (h : ws[k]? = some q) : (ws.take (k + 1)).filter p = (ws.take k).filter p ++ if p q then [q] else [] := by
  have hk : k < ws.length := (List.getElem?_eq_some_iff.1 h).1
  rw [List.take_succ_eq_append_getElem hk, (List.getElem?_eq_some_iff.1 h).2, List.filter_append]
  cases hp : p q <;> simp [hp]
theorem wpList_fresh {P : Program} {w : World} {ops : Array Oper} {rest : List Oper} {o : Oper} {a : Act} {Q : Exit → Act → World → Prop} (hgd : o.guard = none) (t : TypeId) (x y : Operand) (ho : o.op = .store t x y)
    (b : Nat) (hx : a.eval x = .pointer (some ⟨b, 0, none⟩)) (vs : List Value) (hy : a.eval y = .agg vs.toArray) (w0 : World) (z : Array Value) (hw : w = w0.alloc (.cells z t)) (hb : b = w0.heap.size) (hz : z.size = vs.length)
    (hi : (P.info? t).map (·.size) = some vs.length) (h1 : ∀ v ∈ vs, v.oneCell' = true)
    (h : ∀ w2, Whole w2 b t vs → Below w0.heap.size w0 w2 → w2.heap.size = w0.heap.size + 1 → wpList P ops Q rest (a.put o.dst undef) w2) : wpList P ops Q (o :: rest) a w := by
  subst hw
  subst hb
  obtain ⟨f1, f2, f3⟩ := fresh (w := w0) (t := t) hz
  refine wpList_store_mid hgd t x y ho w0.heap.size 0 vs.toArray hx hy (fresh_there _ (by simpa using hz)) (by simpa using hi) (all_oneCell_toArray h1) ?_
  exact h _ f1 f2 f3
section
variable (d g : Nat) (v : Value) (lie : List (List UInt8)) (ws : List (Nat × List UInt8)) (w : World)
/-- The rows of the waiting slice. -/
theorem Dk.rows {w : World} {d g k cap : Nat} {lie : List (List UInt8)} {ws : List (Nat × List UInt8)} (h : Dk w d g (.slice (some ⟨k, 0, none⟩) ws.length cap) lie ws) {m : Nat} {p : Nat × List UInt8} (hp : ws[m]? = some p) :
    w.rangeAt k (m * 65) (wrow p) ∧ p.2.length = 64 ∧ p.1 < lie.length := by
  have h64 := h.ws64 p (List.mem_of_getElem? hp)
  refine ⟨?_, h64, h.within p (List.mem_of_getElem? hp)⟩
  rcases h.form with ⟨h0, _⟩ | ⟨k', cap', cur, hv, hW, hle, hcap, hcur, htake⟩
  · cases h0
  cases hv
  intro j u hu
  have hj : j < 65 := by have := (List.getElem?_eq_some_iff.1 hu).1; rw [wrow_len h64] at this; exact this
  have e : (ws.map wrow).flatten[m * 65 + j]? = some u := by rw [flat_at h.evenW m j hj, List.getElem?_map, hp]; exact hu
  rw [← htake, List.getElem?_take] at e
  split at e
  · rw [hW.cell]; exact e
  · cases e

set_option maxRecDepth 100000 in
theorem waiting_in (from_ n : Nat) (h : Dk w d g v lie ws) (hn : from_ + n ≤ lie.length) (hfew : ws.length ≤ 100000) :
    Calls Try.prog 20 #[.pointer (some ⟨d, 0, none⟩), .int .i64 from_, .int .i64 n] w fun e w' => e = .returned (.int .i64 (ws.filter (spanB from_ n)).length) ∧ Below w.heap.size w w' := by
  have hf := h.few
  obtain ⟨W, hW⟩ : ∃ W, Hid (W = w.alloc (.cells #[.int .i64 from_, .int .i64 n] 103)) := ⟨_, Lib.hid rfl⟩
  have hbW : Below w.heap.size w W := by rw [hW.out]; exact allocBelow w _
  go_enter Try.func20, Try.ntmps20
  go_wp2_with fail
  rw [← hW.out]
  have hW' := hW.out
  replace hW' : W = _ := hW'
  clear hW
  have hk := h.below hbW
  refine (span_yes d g v lie ws _ from_ n hk hn).mono ?_
  rintro e w1 ⟨rfl, hb1⟩
  have hk1 := hk.below hb1
  have hbel := hbW.trans (hb1.mono hbW.size)
  have c0 := hk1.c1
  have c7 : w1.cell? ⟨w.heap.size, 0, none⟩ = some (.int .i64 from_) := keepCell hb1 (by rw [hW']; exact (Whole.new w 103 [.int .i64 from_, .int .i64 n]).cell 0)
  have c8 : w1.cell? ⟨w.heap.size, 1, none⟩ = some (.int .i64 n) := keepCell hb1 (by rw [hW']; exact (Whole.new w 103 [.int .i64 from_, .int .i64 n]).cell 1)
  clear hW'
  rcases hk1.form with ⟨rfl, rfl⟩ | ⟨k, cap, cur, rfl, hWh, hle, hcap, hcur, htake⟩
  · go_wp2_with fail
    go_loopg [8, 23] 0 (fun g v i wr => v = .int .i64 0 ∧ i = .int .i64 0 ∧ w1 = wr)
    case atStart => exact ⟨rfl, rfl, rfl⟩
    case round =>
      obtain ⟨rfl, rfl, rfl⟩ := hrel
      go_wp2_with fail
      go_ret
      exact ⟨rfl, hbel⟩
  · obtain ⟨m, hm⟩ : ∃ m, Hid (ws.length = m) := ⟨_, Lib.hid rfl⟩
    have hrow : Hid (∀ j p, ws[j]? = some p → w1.rangeAt k (j * 65) (wrow p) ∧ p.2.length = 64 ∧ p.1 < lie.length) := fun j p hp => hk1.rows hp
    have hklt := hWh.lt
    have hget : Hid (∀ j, j < m → ∃ p, ws[j]? = some p) := fun j hj => ⟨_, List.getElem?_eq_getElem (by rw [hm.out]; exact hj)⟩
    rw [hm.out] at c0 hle hfew
    unfold maxLen at hcap
    clear hWh hcur htake
    go_wp2_with fail
    go_loopg [8, 23] m (fun g v i wr => ∃ j : Nat, j ≤ m ∧ m ≤ j + g ∧ i = .int .i64 j ∧ v = .int .i64 ((ws.take j).filter (spanB from_ n)).length ∧ Below w1.heap.size w1 wr)
    case atStart => exact ⟨0, by omega, by omega, rfl, rfl, Below.refl _ _⟩
    case round =>
      obtain ⟨j, hj, hg, rfl, rfl, hbr⟩ := hrel
      by_cases hlt : j < m
      · obtain ⟨p, hp⟩ := hget.out j hlt
        obtain ⟨e1, e2, e3⟩ := hrow.out j p hp
        have e4 : wr.rangeAt k (j * 65) (wrow p) := fun i u hu => keepCell hbr (e1 i u hu)
        have hsn := Lib.hid (filter_snoc (p := spanB from_ n) hp)
        have hl65 := wrow_len e2
        have hlen : ((ws.take j).filter (spanB from_ n)).length ≤ 100000 := by
          have h1 := List.length_filter_le (spanB from_ n) (ws.take j)
          have h2 := List.length_take_le j ws
          omega
        replace e2 := Lib.hid e2
        replace hp := Lib.hid hp
        replace hl65 := Lib.hid hl65
        have c71 := keepCell hbr c7
        have c81 := keepCell hbr c8
        go_wp2_with (with_reducible refine stopLoad 108 _ rfl ?_)
        refine Lib.hid ?_
        refine wpList_load_mid rfl 108 _ rfl k (j * 65) rfl (wrow p) _ e4 Try.underlying108 rfl (by rw [hl65.out]; exact sizeWrite) ?_
        go_wp2_with (with_reducible refine stopStore 108 _ _ rfl ?_)
        refine Lib.hid ?_
        refine wpList_fresh rfl 108 _ _ rfl _ rfl (wrow p) rfl wr _ rfl rfl (by rw [hl65.out]; rfl) (by rw [hl65.out]; exact sizeWrite) (wrow_one p) ?_
        intro w2 hbox hb2 hsz2
        have c72 := keepCell hb2 c71
        have c82 := keepCell hb2 c81
        have hbox0 := hbox.range
        clear c71 c81 e4 e1
        go_wp2_with (with_reducible refine stopLoad 108 _ rfl ?_)
        refine Lib.hid ?_
        refine wpList_load_mid rfl 108 _ rfl wr.heap.size 0 rfl (wrow p) _ hbox0 Try.underlying108 rfl (by rw [hl65.out]; exact sizeWrite) ?_
        go_wp2_with fail
        refine (has_any from_ n p _ (by omega) (by omega)).mono ?_
        rintro e w3 ⟨rfl, hb3⟩
        have hbr3 := (hbr.trans (hb2.mono hbr.size)).trans (hb3.mono (Nat.le_trans hbr.size hb2.size))
        cases hs : spanB from_ n p <;> rw [hs] at hsn <;> replace hs := Lib.hid hs
        · go_wp2_with fail
          go_roundg (gk - 1)
          case measure => omega
          case rel => exact ⟨j + 1, by omega, by omega, by go_num, by rw [hsn.out]; simp, hbr3⟩
        · go_wp2_with fail
          go_roundg (gk - 1)
          case measure => omega
          case rel => exact ⟨j + 1, by omega, by omega, by go_num, by rw [hsn.out]; simp, hbr3⟩
      · obtain rfl : j = m := by omega
        have hall := Lib.hid (show ws.take j = ws from List.take_of_length_le (by rw [hm.out]; exact Nat.le_refl _))
        go_wp2_with fail
        go_ret
        exact ⟨by rw [hall.out]; rfl, hbel.trans (hbr.mono hbel.size)⟩
end
end Go.Proofs.Ytgomhnclmacleaa.D
