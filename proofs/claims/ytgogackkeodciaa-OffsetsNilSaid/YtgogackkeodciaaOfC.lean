/- Package offsets: its keys; the first offset is put. -/
import Derived.Test.YtgogackkeodciaaOfB
import Derived.Test.YtgogackkeodciaaRcQ
import Derived.Maps.OwnSet
import Derived.Maps.RangeWalk
import Derived.DeepKeys4
namespace Go.Proofs.Ytgogackkeodciaa.W
open Go.RowKit Go.Sort
open Go.Maps (Keyed)
open Go.Proofs.Ytgogackkeodciaa.M Go.Proofs.Ytgogackkeodciaa.D Go.Proofs.Ytgogackkeodciaa.Z
set_option linter.unusedVariables false
set_option linter.unusedSimpArgs false

theorem laid24 : laidOutB Try.prog = true := by kernel_rfl
theorem kyRow : (26 : TypeId) < Try.prog.types.size := of_decide_eq_true (by kernel_rfl)
theorem kyLaw : Keyed Try.prog 26 := Keyed.of_law (deep_law_laid laid24 (m := 4) (by omega) kyRow (by kernel_rfl) (by kernel_rfl))
theorem stLaw : Keyed Try.prog 9 := Maps.string_keyed Try.underlying9
theorem zero24 (w : World) : (zeroValue 3).run Try.prog w = .ok (.int .i64 0) w := by kernel_rfl
theorem cellsKy24 : Try.prog.cellsOf 26 = 3 := by kernel_rfl
theorem cellsPl24 : Try.prog.cellsOf 24 = 2 := by kernel_rfl
abbrev kyV (g t : ByteArray) (p : Int) : Value := .agg #[.string g, .string t, .int .i64 p]
def kyK (g t : ByteArray) (p : Int) : Lit := .string (keyBytes [.string g.data.toList, .string t.data.toList, .int .i64 p])
theorem plLits24 (t : ByteArray) (p : Int) (h0 : t.size ≤ maxLen) (h1 : (Lit.int .i64 p).wf = true) (d : Nat) : Try.prog.keyLits (d + 2) 24 [.string t, .int .i64 p] = some [.string t.data.toList, .int .i64 p] := by
  unfold Program.keyLits
  rw [Try.underlying24]
  simp [cellsPl24, cellsRi, cellsRs, litRs t h0 d, litRi p h1 d]
theorem kyLits (g t : ByteArray) (p : Int) (hg : g.size ≤ maxLen) (h0 : t.size ≤ maxLen) (h1 : (Lit.int .i64 p).wf = true) (d : Nat) : Try.prog.keyLits (d + 3) 26 [.string g, .string t, .int .i64 p] = some [.string g.data.toList, .string t.data.toList, .int .i64 p] := by
  unfold Program.keyLits
  rw [Try.underlying26]
  simp [cellsPl24, cellsKy24, cellsRs, litRs g hg (d + 1), plLits24 t p h0 h1 d]
theorem kySize (g t : ByteArray) (p : Int) (n : Nat) (hn : 1 < n) (hg : g.size ≤ maxLen) (h0 : t.size ≤ maxLen) (h1 : (Lit.int .i64 p).wf = true) : Try.prog.keyLits (n + 1) 26 [.string g, .string t, .int .i64 p] = some [.string g.data.toList, .string t.data.toList, .int .i64 p] := by
  obtain ⟨d, rfl⟩ : ∃ d, n = d + 2 := ⟨n - 2, by omega⟩
  exact kyLits g t p hg h0 h1 d
theorem kyBig : 1 < Try.prog.types.size := of_decide_eq_true (by kernel_rfl)
theorem kyK_of {g t : ByteArray} {p : Int} (hg : g.size ≤ maxLen) (h0 : t.size ≤ maxLen) (h1 : (Lit.int .i64 p).wf = true) : keyOf Try.prog 26 (kyV g t p) = some (kyK g t p) := by
  unfold keyOf kyK
  simp [Try.underlying26]
  refine ⟨⟨by kernel_rfl, ?_⟩, [.string g.data.toList, .string t.data.toList, .int .i64 p], ?_, rfl⟩
  · simp [Value.formed, Try.underlying26, cellsPl24, cellsKy24, Try.underlying24]
  · exact kySize g t p _ kyBig hg h0 h1
theorem stK_of {g : ByteArray} (h : g.size ≤ maxLen) : keyOf Try.prog 9 (.string g) = some (.string g.data.toList) := Go.WideMaps.keyOf_string_mk Try.underlying9 h
theorem eqlIn_map24 {P : Program} (w : World) (d : Nat) (t k e : TypeId) (p : Option Nat) (h : P.underlying t = some (.map k e)) : (Op.equalIn (d + 1) t (.map p) (.map none)).run P w = .ok p.isNone w := by
  cases p <;> simp [Op.equalIn, run_underlying h]
theorem eql_map24 (p : Option Nat) (W : World) : (binOp .eql 77 (.map p) (.map none)).run Try.prog W = .ok (.bool p.isNone) W := by
  simp only [binOp]
  simp [show Op.equal 77 (.map p) (.map none) = Op.equalIn (9999 + 1) 77 (.map p) (.map none) from rfl, eqlIn_map24 W 9999 77 _ _ p Try.underlying77]
abbrev offM (W : World) (mb n : Nat) (D : DataW Unit) : Prop := W.ownsMap Try.prog 26 (Go.plainElem Try.prog 3) mb n D
abbrev grpM (W : World) (mb n : Nat) (D : DataW Unit) : Prop := W.ownsMap Try.prog 9 (Go.plainElem Try.prog 3) mb n D
theorem lookNil24 (g : ByteArray) (hg : g.size ≤ maxLen) (W : World) : (Instr.lookup 78 (.map none) (.string g) false).run Try.prog W = .ok (.int .i64 0) W :=
  Maps.look_nil false stLaw Try.underlying78 (zero24 W) (stK_of hg)
theorem hasRoom24_nil (tb : Nat) (x : Value) (g : ByteArray) (w : World) (hg : g.size ≤ maxLen) (h : Whole w tb 80 [x, .map none]) : Calls Try.prog 51 #[.pointer (some ⟨tb, 0, none⟩), .string g] w fun e w' => e = .returned (.bool true) ∧ w = w' := by
  have c1 : w.cell? ⟨tb, 1, none⟩ = some (.map none) := h.cell 1
  have hl := fun W => lookNil24 g hg W
  clear h
  go_enter Try.func51, Try.ntmps51
  go_wp2_with fail
  go_ret
  exact ⟨rfl, rfl⟩
theorem run_mapInt (a : Int) (h : (Lit.int .i64 a).wf = true) : Go.plainElem Try.prog 3 (.int .i64 a) = some ((.lit (.int .i64 a) : DataW Unit), []) := Go.plainElem_int Try.underlying3 h
set_option maxRecDepth 100000 in
set_option maxHeartbeats 4000000 in
theorem put24_first (tb : Nat) (g t : ByteArray) (p n : Int) (w : World) (h : Whole w tb 80 [.map none, .map none]) (hg : g.size ≤ maxLen) (ht : t.size ≤ maxLen) (hp : (Lit.int .i64 p).wf = true) (hn : (Lit.int .i64 n).wf = true) :
    Calls Try.prog 76 #[.pointer (some ⟨tb, 0, none⟩), .agg #[.string g, .string t, .int .i64 p], .int .i64 n] w fun e w' => e = .returned (.tuple #[]) ∧ ∃ m1 m2, Whole w' tb 80 [.map (some m1), .map (some m2)] ∧ offM w' m1 1 ((DataW.map []).put (kyK g t p) (.lit (.int .i64 n))) ∧ grpM w' m2 1 ((DataW.map []).put (.string g.data.toList) (.lit (.int .i64 1))) ∧ Kept (fun q => q = tb) w w' := by
  obtain ⟨V, hV⟩ : ∃ V, Hid (V = w.alloc (.cells #[.string g, .string t, .int .i64 p] 26)) := ⟨_, Lib.hid rfl⟩
  have hB : Below w.heap.size w V := by rw [hV.out]; exact grewAlloc (Below.refl _ _) _
  have hX : Whole V w.heap.size 26 [.string g, .string t, .int .i64 p] := by rw [hV.out]; exact Whole.new w _ _
  obtain ⟨xb, hxb⟩ : ∃ q, Hid (w.heap.size = q) := ⟨_, Lib.hid rfl⟩
  rw [hxb.out] at hX
  have hG := h.below hB h.lt
  have hxt : xb ≠ tb := by have := hxb.out; have := h.lt; omega
  have htl := h.lt
  have hwV := hB.size
  have q1 := eql_map24 none V
  have c0 : V.cell? ⟨tb, 0, none⟩ = some (.map none) := hG.cell 0
  have hmm := @run_makeMap Try.prog
  have a1 := hG.alloc (.map #[] 0)
  have a2 := a1.alloc (.map #[] 0)
  have t0 : ((V.alloc (.map #[] 0)).alloc (.map #[] 0)).cell? ⟨tb, 0, none⟩ = some (.map none) := a2.cell 0
  have u0 : ((V.alloc (.map #[] 0)).alloc (.map #[] 0)).frozen? ⟨tb, 0, none⟩ = false := a2.frozen 0
  have t1 : ((V.alloc (.map #[] 0)).alloc (.map #[] 0)).cell? ⟨tb, 1, none⟩ = some (.map none) := a2.cell 1
  have u1 : ((V.alloc (.map #[] 0)).alloc (.map #[] 0)).frozen? ⟨tb, 1, none⟩ = false := a2.frozen 1
  obtain ⟨W3, hW3⟩ : ∃ W, Hid (W = (((V.alloc (.map #[] 0)).alloc (.map #[] 0)).setCell ⟨tb, 0, none⟩ (.map (some V.heap.size))).setCell ⟨tb, 1, none⟩ (.map (some (V.heap.size + 1)))) := ⟨_, Lib.hid rfl⟩
  have hG3 : Whole W3 tb 80 [.map (some V.heap.size), .map (some (V.heap.size + 1))] := by
    rw [hW3.out]
    exact (a2.store 0 [.map (some V.heap.size)] (by simp)).store 1 [.map (some (V.heap.size + 1))] (by simp [splice])
  have hX3 : Whole W3 xb 26 [.string g, .string t, .int .i64 p] := by
    rw [hW3.out]
    exact ((((hX.alloc (.map #[] 0)).alloc (.map #[] 0)).far hxt 0 [.map (some V.heap.size)])).far hxt 1 [.map (some (V.heap.size + 1))]
  have hM1 : offM W3 V.heap.size 0 (.map []) := by
    rw [hW3.out]
    exact ((((World.ownsMap_made V Try.prog 26 (Go.plainElem Try.prog 3)).alloc (.map #[] 0)).setCell (a := ⟨tb, 0, none⟩) (fun e => by simp only at e; omega) _).setCell (a := ⟨tb, 1, none⟩) (fun e => by simp only at e; omega) _)
  have hM2 : grpM W3 (V.heap.size + 1) 0 (.map []) := by
    rw [hW3.out]
    have := World.ownsMap_made (V.alloc (.map #[] 0)) Try.prog 9 (Go.plainElem Try.prog 3 (H := Unit))
    rw [show (V.alloc (.map #[] 0)).heap.size = V.heap.size + 1 from by simp] at this
    exact ((this.setCell (a := ⟨tb, 0, none⟩) (fun e => by simp only at e; omega) _).setCell (a := ⟨tb, 1, none⟩) (fun e => by simp only at e; omega) _)
  have hK3 : Kept (fun q => q = tb) w W3 := by
    rw [hW3.out]
    exact ((((Kept.of_below (own := fun q => q = tb) hB).alloc (.map #[] 0)).alloc (.map #[] 0)).setCell (.inl rfl) 0 _).setCell (.inl rfl) 1 _
  obtain ⟨m1, hm1⟩ : ∃ mb, Hid (V.heap.size = mb) := ⟨_, Lib.hid rfl⟩
  obtain ⟨m2, hm2⟩ : ∃ mb, Hid (V.heap.size + 1 = mb) := ⟨_, Lib.hid rfl⟩
  rw [hm2.out, hm1.out] at hG3
  rw [hm1.out] at hM1
  rw [hm2.out] at hM2
  have h12 : m1 ≠ m2 := by have := hm1.out; have := hm2.out; omega
  have ht1 : tb ≠ m1 := by have := hm1.out; omega
  have ht2 : tb ≠ m2 := by have := hm2.out; omega
  have hx1 : xb ≠ m1 := by have := hm1.out; have := hX.lt; omega
  have hx2 : xb ≠ m2 := by have := hm2.out; have := hX.lt; omega
  have hw1 : w.heap.size ≤ m1 := by have := hm1.out; omega
  have hw2 : w.heap.size ≤ m2 := by have := hm2.out; omega
  have l1 : (Instr.lookup 77 (.map (some m1)) (.agg #[.string g, .string t, .int .i64 p]) true).run Try.prog W3.drew = .ok (.tuple #[.int .i64 0, .bool false]) W3.drew := by
    obtain ⟨v, ps, hrun, hv⟩ := hM1.drew.look_ok kyLaw Try.underlying77 (zero24 W3.drew) (run_mapInt 0 (by decide)) (kyK_of hg ht hp)
    rw [show Maps.has (DataW.map [] : DataW Unit) (kyK g t p) = false from rfl] at hrun
    rw [hrun]
    have e : (DataW.map [] : DataW Unit).atKey (kyK g t p) (.lit (.int .i64 0)) = .lit (.int .i64 0) := rfl
    rw [e] at hv
    obtain ⟨c, rfl, hc, _⟩ := plainElem_int_inv Try.underlying3 hv
    simp only [Prod.mk.injEq, DataW.lit.injEq, Lit.int.injEq] at hc
    rw [← hc.1.2]
  have l2 : (Instr.lookup 78 (.map (some m2)) (.string g) false).run Try.prog W3.drew.drew = .ok (.int .i64 0) W3.drew.drew := by
    obtain ⟨c, hrun, hat, _⟩ := hM2.drew.drew.lookup_int stLaw Try.underlying78 Try.underlying3 (zero24 _) (stK_of hg)
    rw [hrun]
    have e : (DataW.map [] : DataW Unit).atKey (.string g.data.toList) (.lit (.int .i64 0)) = .lit (.int .i64 0) := rfl
    rw [e] at hat
    simp only [DataW.lit.injEq, Lit.int.injEq, true_and] at hat
    rw [← hat]
  obtain ⟨w4, r2, o2, gr2⟩ := hM2.drew.drew.update (t := 78) (key := .string g) (val := .int .i64 1) stLaw Try.underlying78 (by unfold maxLen; omega) (stK_of hg) (run_mapInt 1 (by decide))
  have hG4 : Whole w4 tb 80 [.map (some m1), .map (some m2)] := hG3.kept (w := W3.drew.drew) gr2 (fun e => ht2 (Option.some.inj e))
  have hX4 : Whole w4 xb 26 [.string g, .string t, .int .i64 p] := hX3.kept (w := W3.drew.drew) gr2 (fun e => hx2 (Option.some.inj e))
  have hM4 : offM w4 m1 0 (.map []) := (show offM W3.drew.drew m1 0 (.map []) from hM1.drew.drew).kept gr2 (fun e => h12 (Option.some.inj e))
  obtain ⟨w5, r1, o1, gr1⟩ := hM4.drew.update (t := 77) (key := .agg #[.string g, .string t, .int .i64 p]) (val := .int .i64 n) kyLaw Try.underlying77 (by unfold maxLen; omega) (kyK_of hg ht hp) (run_mapInt n hn)
  have hG5 : Whole w5 tb 80 [.map (some m1), .map (some m2)] := hG4.kept (w := w4.drew) gr1 (fun e => ht1 (Option.some.inj e))
  have o25 : grpM w5 m2 1 ((DataW.map []).put (.string g.data.toList) (.lit (.int .i64 1))) := (show grpM w4.drew m2 1 _ from o2.drew).kept gr1 (fun e => h12 (Option.some.inj e).symm)
  have hK5 : Kept (fun q => q = tb) w w5 := ((((hK3.drewN 2).grown (b := W3.drew.drew) gr2 (fun k e => .inr (by cases e; omega))).drewN 1).grown (b := w4.drew) gr1 (fun k e => .inr (by cases e; omega)))
  have hfin : Hid (∃ m1 m2, Whole w5 tb 80 [.map (some m1), .map (some m2)] ∧ offM w5 m1 1 ((DataW.map []).put (kyK g t p) (.lit (.int .i64 n))) ∧ grpM w5 m2 1 ((DataW.map []).put (.string g.data.toList) (.lit (.int .i64 1))) ∧ Kept (fun q => q = tb) w w5) := Lib.hid ⟨m1, m2, hG5, o1, o25, hK5⟩
  have b0 : W3.cell? ⟨tb, 0, none⟩ = some (.map (some m1)) := hG3.cell 0
  have b1 : W3.cell? ⟨tb, 1, none⟩ = some (.map (some m2)) := hG3.cell 1
  have y0 : W3.cell? ⟨xb, 0, none⟩ = some (.string g) := hX3.cell 0
  have y1 : W3.cell? ⟨xb, 1, none⟩ = some (.string t) := hX3.cell 1
  have y2 : W3.cell? ⟨xb, 2, none⟩ = some (.int .i64 p) := hX3.cell 2
  have d0 : w4.cell? ⟨tb, 0, none⟩ = some (.map (some m1)) := hG4.cell 0
  have z0 : w4.cell? ⟨xb, 0, none⟩ = some (.string g) := hX4.cell 0
  have z1 : w4.cell? ⟨xb, 1, none⟩ = some (.string t) := hX4.cell 1
  have z2 : w4.cell? ⟨xb, 2, none⟩ = some (.int .i64 p) := hX4.cell 2
  clear hG3 hX3 hM1 hM2 hK3 hG4 hX4 hM4 hG5 o1 o2 o25 hK5 gr1 gr2 hX hG hB a1 a2 h
  go_enter Try.func76, Try.ntmps76
  go_upto_region 1 with fail
  rw [← show V = _ from hV.out, hxb.out]
  clear hV hxb
  go_upto_region 3 with fail
  rw [← show W3 = _ from hW3.out]
  rw [hm2.out, hm1.out]
  clear hW3 hmm t0 t1 u0 u1 c0 hm1 hm2 q1
  go_region
  clear l1
  go_upto_region 5 with fail
  go_region
  clear l2 r2 b0 b1 y0 y1 y2
  go_upto_region 6 with fail
  go_region
  go_wp2_with fail
  all_goals
    go_end0
    exact ⟨rfl, hfin.out⟩
end Go.Proofs.Ytgogackkeodciaa.W
