/- Layer 22: topics and places held against one another; Has, Places; the law's log. -/
import Derived.Test.YtgogackkeodciaaGreatTpG
import Derived.Test.YtgogackkeodciaaGreatRcQ
namespace Go.Proofs.YtgogackkeodciaaGreat.W
open Go.RowKit Go.Sort
open Go.Proofs.YtgogackkeodciaaGreat.M Go.Proofs.YtgogackkeodciaaGreat.D Go.Proofs.YtgogackkeodciaaGreat.Z
set_option linter.unusedVariables false
set_option linter.unusedSimpArgs false

theorem key_sp : Tryz.prog.keyTypeAt 3 31 = true := by kernel_rfl
theorem cellsSp : Tryz.prog.cellsOf 31 = 5 := by kernel_rfl
theorem lits_sp (nm : ByteArray) (pa ag sz : Int) (cp : Bool) (h0 : nm.size ≤ maxLen) (h1 : (Lit.int .i64 pa).wf = true) (h2 : (Lit.int .i64 ag).wf = true) (h3 : (Lit.int .i64 sz).wf = true) : Tryz.prog.keyLits 3 31 [.string nm, .int .i64 pa, .int .i64 ag, .int .i64 sz, .bool cp] = some [.string nm.data.toList, .int .i64 pa, .int .i64 ag, .int .i64 sz, .bool cp] := by
  unfold Program.keyLits
  rw [Tryz.underlying31]
  simp [cellsSp, cellsRi, cellsRs, cellsRb, litRs nm h0 1, litRi pa h1 1, litRi ag h2 1, litRi sz h3 1, litRb cp 1]
theorem eq_sp (nm : ByteArray) (pa ag sz : Int) (cp : Bool) (h0 : nm.size ≤ maxLen) (h1 : (Lit.int .i64 pa).wf = true) (h2 : (Lit.int .i64 ag).wf = true) (h3 : (Lit.int .i64 sz).wf = true) (W : World) : (binOp .eql 31 (.agg #[.string nm, .int .i64 pa, .int .i64 ag, .int .i64 sz, .bool cp]) (.agg #[.string nm, .int .i64 pa, .int .i64 ag, .int .i64 sz, .bool cp])).run Tryz.prog W = .ok (.bool true) W := by
  obtain ⟨q, e1, e2⟩ := run_equalIn_deep 9997 3 31 key_sp W 3 3 (.agg #[.string nm, .int .i64 pa, .int .i64 ag, .int .i64 sz, .bool cp]) (.agg #[.string nm, .int .i64 pa, .int .i64 ag, .int .i64 sz, .bool cp]) _ _ (by kernel_rfl) (by kernel_rfl) (lits_sp nm pa ag sz cp h0 h1 h2 h3) (lits_sp nm pa ag sz cp h0 h1 h2 h3)
  have hq : q = true := e2.2 rfl
  simp only [binOp]
  simp [show Op.equal 31 (.agg #[.string nm, .int .i64 pa, .int .i64 ag, .int .i64 sz, .bool cp]) (.agg #[.string nm, .int .i64 pa, .int .i64 ag, .int .i64 sz, .bool cp]) = Op.equalIn (9997 + 3) 31 (.agg #[.string nm, .int .i64 pa, .int .i64 ag, .int .i64 sz, .bool cp]) (.agg #[.string nm, .int .i64 pa, .int .i64 ag, .int .i64 sz, .bool cp]) from rfl, e1, hq]
theorem key_pl : Tryz.prog.keyTypeAt 3 33 = true := by kernel_rfl
theorem cellsPl : Tryz.prog.cellsOf 33 = 2 := by kernel_rfl
theorem lits_pl (t : ByteArray) (p : Int) (h0 : t.size ≤ maxLen) (h1 : (Lit.int .i64 p).wf = true) : Tryz.prog.keyLits 3 33 [.string t, .int .i64 p] = some [.string t.data.toList, .int .i64 p] := by
  unfold Program.keyLits
  rw [Tryz.underlying33]
  simp [cellsPl, cellsRi, cellsRs, litRs t h0 1, litRi p h1 1]
theorem eq_pl (t u : ByteArray) (p r : Int) (h0 : t.size ≤ maxLen) (h1 : (Lit.int .i64 p).wf = true) (h2 : u.size ≤ maxLen) (h3 : (Lit.int .i64 r).wf = true) (W : World) : (binOp .eql 33 (.agg #[.string t, .int .i64 p]) (.agg #[.string u, .int .i64 r])).run Tryz.prog W = .ok (.bool (decide (t = u ∧ p = r))) W := by
  obtain ⟨q, e1, e2⟩ := run_equalIn_deep 9997 3 33 key_pl W 3 3 (.agg #[.string t, .int .i64 p]) (.agg #[.string u, .int .i64 r]) _ _ (by kernel_rfl) (by kernel_rfl) (lits_pl t p h0 h1) (lits_pl u r h2 h3)
  have hq : q = decide (t = u ∧ p = r) := by
    rw [Bool.eq_iff_iff, e2, decide_eq_true_iff]
    simp
    intro _
    constructor
    · intro h; exact ByteArray.ext (by simpa using h)
    · intro h; rw [h]
  simp only [binOp]
  simp [show Op.equal 33 (.agg #[.string t, .int .i64 p]) (.agg #[.string u, .int .i64 r]) = Op.equalIn (9997 + 3) 33 (.agg #[.string t, .int .i64 p]) (.agg #[.string u, .int .i64 r]) from rfl, e1, hq]
/-- Is a place a topic's? -/
def hasB (x : Sp) (t : ByteArray) (p : Int) : Bool := x.may && decide (t = x.nm ∧ 0 ≤ p ∧ p < x.parts)
theorem strEq (a b : ByteArray) : (a.toList == b.toList) = decide (a = b) := by
  rw [Lib.toList_data, Lib.toList_data, Bool.eq_iff_iff]
  simp
  exact ⟨fun h => ByteArray.ext (by simpa using h), fun h => by rw [h]⟩
theorem run_makeT {P : Program} (t e : TypeId) (i : TypeInfo) (z : Value) (ht : P.underlying t = some (.slice e)) (hi : P.info? e = some i) (hz : i.zero = some z)
    (n sz by_ : Nat) (hsz : i.size = sz) (hby : i.bytes = by_) (hb : by_ ≤ 1000) (hn : n ≤ 1000000) :
    ∃ cs : Array Value, cs.size = n * sz ∧ ∀ W : World, (Instr.makeSlice t (.int .i64 (n : Int)) (.int .i64 (n : Int))).run P W = .ok (.slice (some ⟨W.heap.size, 0, none⟩) n n) (W.alloc (.cells cs e)) := by
  refine ⟨madeCells z.cells (n * i.size), by simp [madeCells, hsz], fun W => ?_⟩
  have hm : i.bytes * n ≤ 1000 * 1000000 := Nat.mul_le_mul (by omega) hn
  have hb : (i.bytes : Int) * (n : Int) ≤ 281474976710656 := by
    have h : ((i.bytes * n : Nat) : Int) ≤ 281474976710656 := by omega
    rwa [Int.natCast_mul] at h
  have hr := run_make (P := P) W t e i z ht hi hz .i64 .i64 n n (by omega) (by omega) hb (by omega)
  simp only [Int.toNat_natCast] at hr
  exact hr
theorem infoPl : (Tryz.prog.info? 33).map (fun i => (i.zero, i.size, i.bytes)) = some (some (.agg #[.string ⟨#[]⟩, .int .i64 0]), 2, 24) := by kernel_rfl
/-- A topic's places. -/
def plRows (nm : ByteArray) : Nat → List Value
  | 0 => []
  | n + 1 => plRows nm n ++ [.string nm, .int .i64 (n : Int)]
set_option maxRecDepth 100000 in
set_option maxHeartbeats 4000000 in
theorem places_no (nm : ByteArray) (pa ag sz : Int) (cp : Bool) (w : World) (h : Sp.may ⟨nm, pa, ag, sz, cp⟩ = false) :
    Calls Tryz.prog 44 #[(.agg #[.string nm, .int .i64 pa, .int .i64 ag, .int .i64 sz, .bool cp])] w fun e w' => e = .returned (.slice none 0 0) ∧ Below w.heap.size w w' := by
  obtain ⟨W0, hW0⟩ : ∃ W, Hid (W = w.alloc (.cells #[.string nm, .int .i64 pa, .int .i64 ag, .int .i64 sz, .bool cp] 31)) := ⟨_, Lib.hid rfl⟩
  have hb0 : Below w.heap.size w W0 := by rw [hW0.out]; exact grewAlloc (Below.refl _ _) _
  have hX0 : Whole W0 w.heap.size 31 [.string nm, .int .i64 pa, .int .i64 ag, .int .i64 sz, .bool cp] := by rw [hW0.out]; exact Whole.new w _ _
  obtain ⟨q, hq⟩ : ∃ q, Hid (w.heap.size = q) := ⟨_, Lib.hid rfl⟩
  rw [hq.out] at hX0
  have x0 : W0.cell? ⟨q, 0, none⟩ = some (.string nm) := hX0.cell 0
  have x1 : W0.cell? ⟨q, 1, none⟩ = some (.int .i64 pa) := hX0.cell 1
  have x2 : W0.cell? ⟨q, 2, none⟩ = some (.int .i64 ag) := hX0.cell 2
  have x3 : W0.cell? ⟨q, 3, none⟩ = some (.int .i64 sz) := hX0.cell 3
  have x4 : W0.cell? ⟨q, 4, none⟩ = some (.bool cp) := hX0.cell 4
  have hr := fun W => right22_any nm pa ag sz cp W
  rw [h] at hr
  replace hr := Lib.hid hr
  replace hb0 := Lib.hid hb0
  replace hX0 := Lib.hid hX0
  clear h
  go_enter Tryz.func44, Tryz.ntmps44
  go_upto_region 1 with fail
  rw [← show W0 = _ from hW0.out, hq.out]
  clear hW0 hq
  go_wp2_with fail
  refine (hr.out _).mono ?_
  rintro _ w1 ⟨rfl, hb1⟩
  have hB1 := Lib.hid (grew hb0.out hb1)
  have hX1 := hX0.out.below hb1 hX0.out.lt
  clear x0 x1 x2 x3 x4 hb1 hb0 hX0
  clear hX1
  go_wp2_with fail
  go_ret
  exact ⟨rfl, hB1.out⟩
set_option maxRecDepth 100000 in
set_option maxHeartbeats 4000000 in
theorem places_1 (nm : ByteArray) (ag sz : Int) (cp : Bool) (w : World) (h : Sp.may ⟨nm, 1, ag, sz, cp⟩ = true) :
    Calls Tryz.prog 44 #[(.agg #[.string nm, .int .i64 1, .int .i64 ag, .int .i64 sz, .bool cp])] w fun e w' => ∃ b, e = .returned (.slice (some ⟨b, 0, none⟩) 1 1) ∧ Whole w' b 33 (plRows nm 1) ∧ Below w.heap.size w w' := by
  obtain ⟨i0, hi0, hz0, hz1, hz2⟩ := info_parts infoPl
  obtain ⟨⟨cs⟩, hcs, hmk⟩ := run_makeT (P := Tryz.prog) 99 33 i0 _ Tryz.underlying99 hi0 hz0 1 2 24 hz1 hz2 (by omega) (by omega)
  match cs, (show cs.length = 2 by simpa using hcs) with
  | [k0, k1], _ =>
    clear hcs hi0 hz0 hz1 hz2
    have hmk1 := fun W => (show (Instr.makeSlice 99 (.int .i64 1) (.int .i64 1)).run Tryz.prog W = .ok (.slice (some ⟨W.heap.size, 0, none⟩) 1 1) (W.alloc (.cells #[k0, k1] 33)) from hmk W)
    clear hmk
    obtain ⟨W0, hW0⟩ : ∃ W, Hid (W = w.alloc (.cells #[.string nm, .int .i64 1, .int .i64 ag, .int .i64 sz, .bool cp] 31)) := ⟨_, Lib.hid rfl⟩
    have hb0 : Below w.heap.size w W0 := by rw [hW0.out]; exact grewAlloc (Below.refl _ _) _
    have hX0 : Whole W0 w.heap.size 31 [.string nm, .int .i64 1, .int .i64 ag, .int .i64 sz, .bool cp] := by rw [hW0.out]; exact Whole.new w _ _
    obtain ⟨q, hq⟩ : ∃ q, Hid (w.heap.size = q) := ⟨_, Lib.hid rfl⟩
    rw [hq.out] at hX0
    have x0 : W0.cell? ⟨q, 0, none⟩ = some (.string nm) := hX0.cell 0
    have x1 : W0.cell? ⟨q, 1, none⟩ = some (.int .i64 1) := hX0.cell 1
    have x2 : W0.cell? ⟨q, 2, none⟩ = some (.int .i64 ag) := hX0.cell 2
    have x3 : W0.cell? ⟨q, 3, none⟩ = some (.int .i64 sz) := hX0.cell 3
    have x4 : W0.cell? ⟨q, 4, none⟩ = some (.bool cp) := hX0.cell 4
    have hr := fun W => right22_any nm 1 ag sz cp W
    rw [h] at hr
    replace hr := Lib.hid hr
    replace hb0 := Lib.hid hb0
    replace hX0 := Lib.hid hX0
    clear h
    go_enter Tryz.func44, Tryz.ntmps44
    go_upto_region 1 with fail
    rw [← show W0 = _ from hW0.out, hq.out]
    clear hW0 hq
    go_wp2_with fail
    refine (hr.out _).mono ?_
    rintro _ w1 ⟨rfl, hb1⟩
    have hB1 := Lib.hid (grew hb0.out hb1)
    have hX1 := hX0.out.below hb1 hX0.out.lt
    clear x0 x1 x2 x3 x4 hb1 hb0 hX0
    have x0 : w1.cell? ⟨q, 0, none⟩ = some (.string nm) := hX1.cell 0
    have x1 : w1.cell? ⟨q, 1, none⟩ = some (.int .i64 1) := hX1.cell 1
    obtain ⟨U0, hU⟩ : ∃ W, Hid (W = w1.alloc (.cells #[k0, k1] 33)) := ⟨_, Lib.hid rfl⟩
    have bu : Below w1.heap.size w1 U0 := by rw [hU.out]; exact grewAlloc (Below.refl _ _) _
    have bl0 := Lib.hid (grew hB1.out bu)
    have xs0 := Lib.hid (hX1.below bu hX1.lt)
    have ab0 : Whole U0 w1.heap.size 33 [k0, k1] := by rw [hU.out]; exact Whole.new w1 _ _
    obtain ⟨b, hb⟩ : ∃ q, Hid (w1.heap.size = q) := ⟨_, Lib.hid rfl⟩
    rw [hb.out] at ab0
    have na : Hid (w.heap.size ≤ b ∧ q ≠ b) := Lib.hid ⟨by rw [← hb.out]; exact hB1.out.size, by have := hX1.lt; have := hb.out; omega⟩
    have nb : q ≠ b := na.out.2
    have nc : b ≠ q := fun e => nb e.symm
    replace ab0 := Lib.hid ab0
    clear bu hX1 hB1
    go_upto_region 4 with fail
    rw [← show U0 = _ from hU.out, hb.out]
    clear hU hb x0 x1
    go_wp2_with fail
    refine wp_loop_rounds 2 ?_
    rw [rounds_succ]
    have x0 : U0.cell? ⟨q, 0, none⟩ = some (.string nm) := xs0.out.cell 0
    have a0 : U0.cell? ⟨b, 0, none⟩ = some k0 := ab0.out.cell 0
    have a1 : U0.cell? ⟨b, 1, none⟩ = some k1 := ab0.out.cell 1
    have f0 : U0.frozen? ⟨b, 0, none⟩ = false := ab0.out.frozen 0
    have f1 : U0.frozen? ⟨b, 1, none⟩ = false := ab0.out.frozen 1
    have bl1 := Lib.hid (below_store bl0.out na.out.1 (Nat.le_refl _) 0 [.string nm, .int .i64 0])
    have xs1 := Lib.hid (xs0.out.far na.out.2 0 [.string nm, .int .i64 0])
    have ab1 : Hid (Whole (U0.setCells b 0 [.string nm, .int .i64 0]) b 33 [.string nm, .int .i64 0]) := Lib.hid (ab0.out.store 0 [.string nm, .int .i64 0] (by simp))
    simp only [World.setCells] at bl1 xs1 ab1
    go_wp2_with fail
    generalize (U0.setCell ⟨b, 0, none⟩ (.string nm)).setCell ⟨b, 0+1, none⟩ (.int .i64 0) = U1 at *
    clear x0 a0 a1 f0 f1 bl0 xs0 ab0
    rw [rounds_succ]
    go_wp2_with fail
    go_ret
    exact ⟨b, rfl, ab1.out, bl1.out⟩
set_option maxRecDepth 100000 in
set_option maxHeartbeats 4000000 in
theorem places_2 (nm : ByteArray) (ag sz : Int) (cp : Bool) (w : World) (h : Sp.may ⟨nm, 2, ag, sz, cp⟩ = true) :
    Calls Tryz.prog 44 #[(.agg #[.string nm, .int .i64 2, .int .i64 ag, .int .i64 sz, .bool cp])] w fun e w' => ∃ b, e = .returned (.slice (some ⟨b, 0, none⟩) 2 2) ∧ Whole w' b 33 (plRows nm 2) ∧ Below w.heap.size w w' := by
  obtain ⟨i0, hi0, hz0, hz1, hz2⟩ := info_parts infoPl
  obtain ⟨⟨cs⟩, hcs, hmk⟩ := run_makeT (P := Tryz.prog) 99 33 i0 _ Tryz.underlying99 hi0 hz0 2 2 24 hz1 hz2 (by omega) (by omega)
  match cs, (show cs.length = 4 by simpa using hcs) with
  | [k0, k1, k2, k3], _ =>
    clear hcs hi0 hz0 hz1 hz2
    have hmk1 := fun W => (show (Instr.makeSlice 99 (.int .i64 2) (.int .i64 2)).run Tryz.prog W = .ok (.slice (some ⟨W.heap.size, 0, none⟩) 2 2) (W.alloc (.cells #[k0, k1, k2, k3] 33)) from hmk W)
    clear hmk
    obtain ⟨W0, hW0⟩ : ∃ W, Hid (W = w.alloc (.cells #[.string nm, .int .i64 2, .int .i64 ag, .int .i64 sz, .bool cp] 31)) := ⟨_, Lib.hid rfl⟩
    have hb0 : Below w.heap.size w W0 := by rw [hW0.out]; exact grewAlloc (Below.refl _ _) _
    have hX0 : Whole W0 w.heap.size 31 [.string nm, .int .i64 2, .int .i64 ag, .int .i64 sz, .bool cp] := by rw [hW0.out]; exact Whole.new w _ _
    obtain ⟨q, hq⟩ : ∃ q, Hid (w.heap.size = q) := ⟨_, Lib.hid rfl⟩
    rw [hq.out] at hX0
    have x0 : W0.cell? ⟨q, 0, none⟩ = some (.string nm) := hX0.cell 0
    have x1 : W0.cell? ⟨q, 1, none⟩ = some (.int .i64 2) := hX0.cell 1
    have x2 : W0.cell? ⟨q, 2, none⟩ = some (.int .i64 ag) := hX0.cell 2
    have x3 : W0.cell? ⟨q, 3, none⟩ = some (.int .i64 sz) := hX0.cell 3
    have x4 : W0.cell? ⟨q, 4, none⟩ = some (.bool cp) := hX0.cell 4
    have hr := fun W => right22_any nm 2 ag sz cp W
    rw [h] at hr
    replace hr := Lib.hid hr
    replace hb0 := Lib.hid hb0
    replace hX0 := Lib.hid hX0
    clear h
    go_enter Tryz.func44, Tryz.ntmps44
    go_upto_region 1 with fail
    rw [← show W0 = _ from hW0.out, hq.out]
    clear hW0 hq
    go_wp2_with fail
    refine (hr.out _).mono ?_
    rintro _ w1 ⟨rfl, hb1⟩
    have hB1 := Lib.hid (grew hb0.out hb1)
    have hX1 := hX0.out.below hb1 hX0.out.lt
    clear x0 x1 x2 x3 x4 hb1 hb0 hX0
    have x0 : w1.cell? ⟨q, 0, none⟩ = some (.string nm) := hX1.cell 0
    have x1 : w1.cell? ⟨q, 1, none⟩ = some (.int .i64 2) := hX1.cell 1
    obtain ⟨U0, hU⟩ : ∃ W, Hid (W = w1.alloc (.cells #[k0, k1, k2, k3] 33)) := ⟨_, Lib.hid rfl⟩
    have bu : Below w1.heap.size w1 U0 := by rw [hU.out]; exact grewAlloc (Below.refl _ _) _
    have bl0 := Lib.hid (grew hB1.out bu)
    have xs0 := Lib.hid (hX1.below bu hX1.lt)
    have ab0 : Whole U0 w1.heap.size 33 [k0, k1, k2, k3] := by rw [hU.out]; exact Whole.new w1 _ _
    obtain ⟨b, hb⟩ : ∃ q, Hid (w1.heap.size = q) := ⟨_, Lib.hid rfl⟩
    rw [hb.out] at ab0
    have na : Hid (w.heap.size ≤ b ∧ q ≠ b) := Lib.hid ⟨by rw [← hb.out]; exact hB1.out.size, by have := hX1.lt; have := hb.out; omega⟩
    have nb : q ≠ b := na.out.2
    have nc : b ≠ q := fun e => nb e.symm
    replace ab0 := Lib.hid ab0
    clear bu hX1 hB1
    go_upto_region 4 with fail
    rw [← show U0 = _ from hU.out, hb.out]
    clear hU hb x0 x1
    go_wp2_with fail
    refine wp_loop_rounds 3 ?_
    rw [rounds_succ]
    have x0 : U0.cell? ⟨q, 0, none⟩ = some (.string nm) := xs0.out.cell 0
    have a0 : U0.cell? ⟨b, 0, none⟩ = some k0 := ab0.out.cell 0
    have a1 : U0.cell? ⟨b, 1, none⟩ = some k1 := ab0.out.cell 1
    have f0 : U0.frozen? ⟨b, 0, none⟩ = false := ab0.out.frozen 0
    have f1 : U0.frozen? ⟨b, 1, none⟩ = false := ab0.out.frozen 1
    have bl1 := Lib.hid (below_store bl0.out na.out.1 (Nat.le_refl _) 0 [.string nm, .int .i64 0])
    have xs1 := Lib.hid (xs0.out.far na.out.2 0 [.string nm, .int .i64 0])
    have ab1 : Hid (Whole (U0.setCells b 0 [.string nm, .int .i64 0]) b 33 [.string nm, .int .i64 0, k2, k3]) := Lib.hid (ab0.out.store 0 [.string nm, .int .i64 0] (by simp))
    simp only [World.setCells] at bl1 xs1 ab1
    go_wp2_with fail
    generalize (U0.setCell ⟨b, 0, none⟩ (.string nm)).setCell ⟨b, 0+1, none⟩ (.int .i64 0) = U1 at *
    clear x0 a0 a1 f0 f1 bl0 xs0 ab0
    rw [rounds_succ]
    have x0 : U1.cell? ⟨q, 0, none⟩ = some (.string nm) := xs1.out.cell 0
    have a0 : U1.cell? ⟨b, 2, none⟩ = some k2 := ab1.out.cell 2
    have a1 : U1.cell? ⟨b, 3, none⟩ = some k3 := ab1.out.cell 3
    have f0 : U1.frozen? ⟨b, 2, none⟩ = false := ab1.out.frozen 2
    have f1 : U1.frozen? ⟨b, 3, none⟩ = false := ab1.out.frozen 3
    have bl2 := Lib.hid (below_store bl1.out na.out.1 (Nat.le_refl _) 2 [.string nm, .int .i64 1])
    have xs2 := Lib.hid (xs1.out.far na.out.2 2 [.string nm, .int .i64 1])
    have ab2 : Hid (Whole (U1.setCells b 2 [.string nm, .int .i64 1]) b 33 [.string nm, .int .i64 0, .string nm, .int .i64 1]) := Lib.hid (ab1.out.store 2 [.string nm, .int .i64 1] (by simp))
    simp only [World.setCells] at bl2 xs2 ab2
    go_wp2_with fail
    generalize (U1.setCell ⟨b, 2, none⟩ (.string nm)).setCell ⟨b, 2+1, none⟩ (.int .i64 1) = U2 at *
    clear x0 a0 a1 f0 f1 bl1 xs1 ab1
    rw [rounds_succ]
    go_wp2_with fail
    go_ret
    exact ⟨b, rfl, ab2.out, bl2.out⟩
set_option maxRecDepth 100000 in
set_option maxHeartbeats 4000000 in
theorem places_3 (nm : ByteArray) (ag sz : Int) (cp : Bool) (w : World) (h : Sp.may ⟨nm, 3, ag, sz, cp⟩ = true) :
    Calls Tryz.prog 44 #[(.agg #[.string nm, .int .i64 3, .int .i64 ag, .int .i64 sz, .bool cp])] w fun e w' => ∃ b, e = .returned (.slice (some ⟨b, 0, none⟩) 3 3) ∧ Whole w' b 33 (plRows nm 3) ∧ Below w.heap.size w w' := by
  obtain ⟨i0, hi0, hz0, hz1, hz2⟩ := info_parts infoPl
  obtain ⟨⟨cs⟩, hcs, hmk⟩ := run_makeT (P := Tryz.prog) 99 33 i0 _ Tryz.underlying99 hi0 hz0 3 2 24 hz1 hz2 (by omega) (by omega)
  match cs, (show cs.length = 6 by simpa using hcs) with
  | [k0, k1, k2, k3, k4, k5], _ =>
    clear hcs hi0 hz0 hz1 hz2
    have hmk1 := fun W => (show (Instr.makeSlice 99 (.int .i64 3) (.int .i64 3)).run Tryz.prog W = .ok (.slice (some ⟨W.heap.size, 0, none⟩) 3 3) (W.alloc (.cells #[k0, k1, k2, k3, k4, k5] 33)) from hmk W)
    clear hmk
    obtain ⟨W0, hW0⟩ : ∃ W, Hid (W = w.alloc (.cells #[.string nm, .int .i64 3, .int .i64 ag, .int .i64 sz, .bool cp] 31)) := ⟨_, Lib.hid rfl⟩
    have hb0 : Below w.heap.size w W0 := by rw [hW0.out]; exact grewAlloc (Below.refl _ _) _
    have hX0 : Whole W0 w.heap.size 31 [.string nm, .int .i64 3, .int .i64 ag, .int .i64 sz, .bool cp] := by rw [hW0.out]; exact Whole.new w _ _
    obtain ⟨q, hq⟩ : ∃ q, Hid (w.heap.size = q) := ⟨_, Lib.hid rfl⟩
    rw [hq.out] at hX0
    have x0 : W0.cell? ⟨q, 0, none⟩ = some (.string nm) := hX0.cell 0
    have x1 : W0.cell? ⟨q, 1, none⟩ = some (.int .i64 3) := hX0.cell 1
    have x2 : W0.cell? ⟨q, 2, none⟩ = some (.int .i64 ag) := hX0.cell 2
    have x3 : W0.cell? ⟨q, 3, none⟩ = some (.int .i64 sz) := hX0.cell 3
    have x4 : W0.cell? ⟨q, 4, none⟩ = some (.bool cp) := hX0.cell 4
    have hr := fun W => right22_any nm 3 ag sz cp W
    rw [h] at hr
    replace hr := Lib.hid hr
    replace hb0 := Lib.hid hb0
    replace hX0 := Lib.hid hX0
    clear h
    go_enter Tryz.func44, Tryz.ntmps44
    go_upto_region 1 with fail
    rw [← show W0 = _ from hW0.out, hq.out]
    clear hW0 hq
    go_wp2_with fail
    refine (hr.out _).mono ?_
    rintro _ w1 ⟨rfl, hb1⟩
    have hB1 := Lib.hid (grew hb0.out hb1)
    have hX1 := hX0.out.below hb1 hX0.out.lt
    clear x0 x1 x2 x3 x4 hb1 hb0 hX0
    have x0 : w1.cell? ⟨q, 0, none⟩ = some (.string nm) := hX1.cell 0
    have x1 : w1.cell? ⟨q, 1, none⟩ = some (.int .i64 3) := hX1.cell 1
    obtain ⟨U0, hU⟩ : ∃ W, Hid (W = w1.alloc (.cells #[k0, k1, k2, k3, k4, k5] 33)) := ⟨_, Lib.hid rfl⟩
    have bu : Below w1.heap.size w1 U0 := by rw [hU.out]; exact grewAlloc (Below.refl _ _) _
    have bl0 := Lib.hid (grew hB1.out bu)
    have xs0 := Lib.hid (hX1.below bu hX1.lt)
    have ab0 : Whole U0 w1.heap.size 33 [k0, k1, k2, k3, k4, k5] := by rw [hU.out]; exact Whole.new w1 _ _
    obtain ⟨b, hb⟩ : ∃ q, Hid (w1.heap.size = q) := ⟨_, Lib.hid rfl⟩
    rw [hb.out] at ab0
    have na : Hid (w.heap.size ≤ b ∧ q ≠ b) := Lib.hid ⟨by rw [← hb.out]; exact hB1.out.size, by have := hX1.lt; have := hb.out; omega⟩
    have nb : q ≠ b := na.out.2
    have nc : b ≠ q := fun e => nb e.symm
    replace ab0 := Lib.hid ab0
    clear bu hX1 hB1
    go_upto_region 4 with fail
    rw [← show U0 = _ from hU.out, hb.out]
    clear hU hb x0 x1
    go_wp2_with fail
    refine wp_loop_rounds 4 ?_
    rw [rounds_succ]
    have x0 : U0.cell? ⟨q, 0, none⟩ = some (.string nm) := xs0.out.cell 0
    have a0 : U0.cell? ⟨b, 0, none⟩ = some k0 := ab0.out.cell 0
    have a1 : U0.cell? ⟨b, 1, none⟩ = some k1 := ab0.out.cell 1
    have f0 : U0.frozen? ⟨b, 0, none⟩ = false := ab0.out.frozen 0
    have f1 : U0.frozen? ⟨b, 1, none⟩ = false := ab0.out.frozen 1
    have bl1 := Lib.hid (below_store bl0.out na.out.1 (Nat.le_refl _) 0 [.string nm, .int .i64 0])
    have xs1 := Lib.hid (xs0.out.far na.out.2 0 [.string nm, .int .i64 0])
    have ab1 : Hid (Whole (U0.setCells b 0 [.string nm, .int .i64 0]) b 33 [.string nm, .int .i64 0, k2, k3, k4, k5]) := Lib.hid (ab0.out.store 0 [.string nm, .int .i64 0] (by simp))
    simp only [World.setCells] at bl1 xs1 ab1
    go_wp2_with fail
    generalize (U0.setCell ⟨b, 0, none⟩ (.string nm)).setCell ⟨b, 0+1, none⟩ (.int .i64 0) = U1 at *
    clear x0 a0 a1 f0 f1 bl0 xs0 ab0
    rw [rounds_succ]
    have x0 : U1.cell? ⟨q, 0, none⟩ = some (.string nm) := xs1.out.cell 0
    have a0 : U1.cell? ⟨b, 2, none⟩ = some k2 := ab1.out.cell 2
    have a1 : U1.cell? ⟨b, 3, none⟩ = some k3 := ab1.out.cell 3
    have f0 : U1.frozen? ⟨b, 2, none⟩ = false := ab1.out.frozen 2
    have f1 : U1.frozen? ⟨b, 3, none⟩ = false := ab1.out.frozen 3
    have bl2 := Lib.hid (below_store bl1.out na.out.1 (Nat.le_refl _) 2 [.string nm, .int .i64 1])
    have xs2 := Lib.hid (xs1.out.far na.out.2 2 [.string nm, .int .i64 1])
    have ab2 : Hid (Whole (U1.setCells b 2 [.string nm, .int .i64 1]) b 33 [.string nm, .int .i64 0, .string nm, .int .i64 1, k4, k5]) := Lib.hid (ab1.out.store 2 [.string nm, .int .i64 1] (by simp))
    simp only [World.setCells] at bl2 xs2 ab2
    go_wp2_with fail
    generalize (U1.setCell ⟨b, 2, none⟩ (.string nm)).setCell ⟨b, 2+1, none⟩ (.int .i64 1) = U2 at *
    clear x0 a0 a1 f0 f1 bl1 xs1 ab1
    rw [rounds_succ]
    have x0 : U2.cell? ⟨q, 0, none⟩ = some (.string nm) := xs2.out.cell 0
    have a0 : U2.cell? ⟨b, 4, none⟩ = some k4 := ab2.out.cell 4
    have a1 : U2.cell? ⟨b, 5, none⟩ = some k5 := ab2.out.cell 5
    have f0 : U2.frozen? ⟨b, 4, none⟩ = false := ab2.out.frozen 4
    have f1 : U2.frozen? ⟨b, 5, none⟩ = false := ab2.out.frozen 5
    have bl3 := Lib.hid (below_store bl2.out na.out.1 (Nat.le_refl _) 4 [.string nm, .int .i64 2])
    have xs3 := Lib.hid (xs2.out.far na.out.2 4 [.string nm, .int .i64 2])
    have ab3 : Hid (Whole (U2.setCells b 4 [.string nm, .int .i64 2]) b 33 [.string nm, .int .i64 0, .string nm, .int .i64 1, .string nm, .int .i64 2]) := Lib.hid (ab2.out.store 4 [.string nm, .int .i64 2] (by simp))
    simp only [World.setCells] at bl3 xs3 ab3
    go_wp2_with fail
    generalize (U2.setCell ⟨b, 4, none⟩ (.string nm)).setCell ⟨b, 4+1, none⟩ (.int .i64 2) = U3 at *
    clear x0 a0 a1 f0 f1 bl2 xs2 ab2
    rw [rounds_succ]
    go_wp2_with fail
    go_ret
    exact ⟨b, rfl, ab3.out, bl3.out⟩
set_option maxRecDepth 100000 in
set_option maxHeartbeats 4000000 in
theorem places_4 (nm : ByteArray) (ag sz : Int) (cp : Bool) (w : World) (h : Sp.may ⟨nm, 4, ag, sz, cp⟩ = true) :
    Calls Tryz.prog 44 #[(.agg #[.string nm, .int .i64 4, .int .i64 ag, .int .i64 sz, .bool cp])] w fun e w' => ∃ b, e = .returned (.slice (some ⟨b, 0, none⟩) 4 4) ∧ Whole w' b 33 (plRows nm 4) ∧ Below w.heap.size w w' := by
  obtain ⟨i0, hi0, hz0, hz1, hz2⟩ := info_parts infoPl
  obtain ⟨⟨cs⟩, hcs, hmk⟩ := run_makeT (P := Tryz.prog) 99 33 i0 _ Tryz.underlying99 hi0 hz0 4 2 24 hz1 hz2 (by omega) (by omega)
  match cs, (show cs.length = 8 by simpa using hcs) with
  | [k0, k1, k2, k3, k4, k5, k6, k7], _ =>
    clear hcs hi0 hz0 hz1 hz2
    have hmk1 := fun W => (show (Instr.makeSlice 99 (.int .i64 4) (.int .i64 4)).run Tryz.prog W = .ok (.slice (some ⟨W.heap.size, 0, none⟩) 4 4) (W.alloc (.cells #[k0, k1, k2, k3, k4, k5, k6, k7] 33)) from hmk W)
    clear hmk
    obtain ⟨W0, hW0⟩ : ∃ W, Hid (W = w.alloc (.cells #[.string nm, .int .i64 4, .int .i64 ag, .int .i64 sz, .bool cp] 31)) := ⟨_, Lib.hid rfl⟩
    have hb0 : Below w.heap.size w W0 := by rw [hW0.out]; exact grewAlloc (Below.refl _ _) _
    have hX0 : Whole W0 w.heap.size 31 [.string nm, .int .i64 4, .int .i64 ag, .int .i64 sz, .bool cp] := by rw [hW0.out]; exact Whole.new w _ _
    obtain ⟨q, hq⟩ : ∃ q, Hid (w.heap.size = q) := ⟨_, Lib.hid rfl⟩
    rw [hq.out] at hX0
    have x0 : W0.cell? ⟨q, 0, none⟩ = some (.string nm) := hX0.cell 0
    have x1 : W0.cell? ⟨q, 1, none⟩ = some (.int .i64 4) := hX0.cell 1
    have x2 : W0.cell? ⟨q, 2, none⟩ = some (.int .i64 ag) := hX0.cell 2
    have x3 : W0.cell? ⟨q, 3, none⟩ = some (.int .i64 sz) := hX0.cell 3
    have x4 : W0.cell? ⟨q, 4, none⟩ = some (.bool cp) := hX0.cell 4
    have hr := fun W => right22_any nm 4 ag sz cp W
    rw [h] at hr
    replace hr := Lib.hid hr
    replace hb0 := Lib.hid hb0
    replace hX0 := Lib.hid hX0
    clear h
    go_enter Tryz.func44, Tryz.ntmps44
    go_upto_region 1 with fail
    rw [← show W0 = _ from hW0.out, hq.out]
    clear hW0 hq
    go_wp2_with fail
    refine (hr.out _).mono ?_
    rintro _ w1 ⟨rfl, hb1⟩
    have hB1 := Lib.hid (grew hb0.out hb1)
    have hX1 := hX0.out.below hb1 hX0.out.lt
    clear x0 x1 x2 x3 x4 hb1 hb0 hX0
    have x0 : w1.cell? ⟨q, 0, none⟩ = some (.string nm) := hX1.cell 0
    have x1 : w1.cell? ⟨q, 1, none⟩ = some (.int .i64 4) := hX1.cell 1
    obtain ⟨U0, hU⟩ : ∃ W, Hid (W = w1.alloc (.cells #[k0, k1, k2, k3, k4, k5, k6, k7] 33)) := ⟨_, Lib.hid rfl⟩
    have bu : Below w1.heap.size w1 U0 := by rw [hU.out]; exact grewAlloc (Below.refl _ _) _
    have bl0 := Lib.hid (grew hB1.out bu)
    have xs0 := Lib.hid (hX1.below bu hX1.lt)
    have ab0 : Whole U0 w1.heap.size 33 [k0, k1, k2, k3, k4, k5, k6, k7] := by rw [hU.out]; exact Whole.new w1 _ _
    obtain ⟨b, hb⟩ : ∃ q, Hid (w1.heap.size = q) := ⟨_, Lib.hid rfl⟩
    rw [hb.out] at ab0
    have na : Hid (w.heap.size ≤ b ∧ q ≠ b) := Lib.hid ⟨by rw [← hb.out]; exact hB1.out.size, by have := hX1.lt; have := hb.out; omega⟩
    have nb : q ≠ b := na.out.2
    have nc : b ≠ q := fun e => nb e.symm
    replace ab0 := Lib.hid ab0
    clear bu hX1 hB1
    go_upto_region 4 with fail
    rw [← show U0 = _ from hU.out, hb.out]
    clear hU hb x0 x1
    go_wp2_with fail
    refine wp_loop_rounds 5 ?_
    rw [rounds_succ]
    have x0 : U0.cell? ⟨q, 0, none⟩ = some (.string nm) := xs0.out.cell 0
    have a0 : U0.cell? ⟨b, 0, none⟩ = some k0 := ab0.out.cell 0
    have a1 : U0.cell? ⟨b, 1, none⟩ = some k1 := ab0.out.cell 1
    have f0 : U0.frozen? ⟨b, 0, none⟩ = false := ab0.out.frozen 0
    have f1 : U0.frozen? ⟨b, 1, none⟩ = false := ab0.out.frozen 1
    have bl1 := Lib.hid (below_store bl0.out na.out.1 (Nat.le_refl _) 0 [.string nm, .int .i64 0])
    have xs1 := Lib.hid (xs0.out.far na.out.2 0 [.string nm, .int .i64 0])
    have ab1 : Hid (Whole (U0.setCells b 0 [.string nm, .int .i64 0]) b 33 [.string nm, .int .i64 0, k2, k3, k4, k5, k6, k7]) := Lib.hid (ab0.out.store 0 [.string nm, .int .i64 0] (by simp))
    simp only [World.setCells] at bl1 xs1 ab1
    go_wp2_with fail
    generalize (U0.setCell ⟨b, 0, none⟩ (.string nm)).setCell ⟨b, 0+1, none⟩ (.int .i64 0) = U1 at *
    clear x0 a0 a1 f0 f1 bl0 xs0 ab0
    rw [rounds_succ]
    have x0 : U1.cell? ⟨q, 0, none⟩ = some (.string nm) := xs1.out.cell 0
    have a0 : U1.cell? ⟨b, 2, none⟩ = some k2 := ab1.out.cell 2
    have a1 : U1.cell? ⟨b, 3, none⟩ = some k3 := ab1.out.cell 3
    have f0 : U1.frozen? ⟨b, 2, none⟩ = false := ab1.out.frozen 2
    have f1 : U1.frozen? ⟨b, 3, none⟩ = false := ab1.out.frozen 3
    have bl2 := Lib.hid (below_store bl1.out na.out.1 (Nat.le_refl _) 2 [.string nm, .int .i64 1])
    have xs2 := Lib.hid (xs1.out.far na.out.2 2 [.string nm, .int .i64 1])
    have ab2 : Hid (Whole (U1.setCells b 2 [.string nm, .int .i64 1]) b 33 [.string nm, .int .i64 0, .string nm, .int .i64 1, k4, k5, k6, k7]) := Lib.hid (ab1.out.store 2 [.string nm, .int .i64 1] (by simp))
    simp only [World.setCells] at bl2 xs2 ab2
    go_wp2_with fail
    generalize (U1.setCell ⟨b, 2, none⟩ (.string nm)).setCell ⟨b, 2+1, none⟩ (.int .i64 1) = U2 at *
    clear x0 a0 a1 f0 f1 bl1 xs1 ab1
    rw [rounds_succ]
    have x0 : U2.cell? ⟨q, 0, none⟩ = some (.string nm) := xs2.out.cell 0
    have a0 : U2.cell? ⟨b, 4, none⟩ = some k4 := ab2.out.cell 4
    have a1 : U2.cell? ⟨b, 5, none⟩ = some k5 := ab2.out.cell 5
    have f0 : U2.frozen? ⟨b, 4, none⟩ = false := ab2.out.frozen 4
    have f1 : U2.frozen? ⟨b, 5, none⟩ = false := ab2.out.frozen 5
    have bl3 := Lib.hid (below_store bl2.out na.out.1 (Nat.le_refl _) 4 [.string nm, .int .i64 2])
    have xs3 := Lib.hid (xs2.out.far na.out.2 4 [.string nm, .int .i64 2])
    have ab3 : Hid (Whole (U2.setCells b 4 [.string nm, .int .i64 2]) b 33 [.string nm, .int .i64 0, .string nm, .int .i64 1, .string nm, .int .i64 2, k6, k7]) := Lib.hid (ab2.out.store 4 [.string nm, .int .i64 2] (by simp))
    simp only [World.setCells] at bl3 xs3 ab3
    go_wp2_with fail
    generalize (U2.setCell ⟨b, 4, none⟩ (.string nm)).setCell ⟨b, 4+1, none⟩ (.int .i64 2) = U3 at *
    clear x0 a0 a1 f0 f1 bl2 xs2 ab2
    rw [rounds_succ]
    have x0 : U3.cell? ⟨q, 0, none⟩ = some (.string nm) := xs3.out.cell 0
    have a0 : U3.cell? ⟨b, 6, none⟩ = some k6 := ab3.out.cell 6
    have a1 : U3.cell? ⟨b, 7, none⟩ = some k7 := ab3.out.cell 7
    have f0 : U3.frozen? ⟨b, 6, none⟩ = false := ab3.out.frozen 6
    have f1 : U3.frozen? ⟨b, 7, none⟩ = false := ab3.out.frozen 7
    have bl4 := Lib.hid (below_store bl3.out na.out.1 (Nat.le_refl _) 6 [.string nm, .int .i64 3])
    have xs4 := Lib.hid (xs3.out.far na.out.2 6 [.string nm, .int .i64 3])
    have ab4 : Hid (Whole (U3.setCells b 6 [.string nm, .int .i64 3]) b 33 [.string nm, .int .i64 0, .string nm, .int .i64 1, .string nm, .int .i64 2, .string nm, .int .i64 3]) := Lib.hid (ab3.out.store 6 [.string nm, .int .i64 3] (by simp))
    simp only [World.setCells] at bl4 xs4 ab4
    go_wp2_with fail
    generalize (U3.setCell ⟨b, 6, none⟩ (.string nm)).setCell ⟨b, 6+1, none⟩ (.int .i64 3) = U4 at *
    clear x0 a0 a1 f0 f1 bl3 xs3 ab3
    rw [rounds_succ]
    go_wp2_with fail
    go_ret
    exact ⟨b, rfl, ab4.out, bl4.out⟩
theorem places_yes (nm : ByteArray) (pa ag sz : Int) (cp : Bool) (w : World) (h : Sp.may ⟨nm, pa, ag, sz, cp⟩ = true) :
    Calls Tryz.prog 44 #[(.agg #[.string nm, .int .i64 pa, .int .i64 ag, .int .i64 sz, .bool cp])] w fun e w' => ∃ b, e = .returned (.slice (some ⟨b, 0, none⟩) pa.toNat pa.toNat) ∧ Whole w' b 33 (plRows nm pa.toNat) ∧ Below w.heap.size w w' := by
  obtain ⟨_, ⟨h1, h2⟩, _⟩ : Sp.ok ⟨nm, pa, ag, sz, cp⟩ := of_decide_eq_true h
  dsimp only at h1 h2
  rcases (by omega : pa = 1 ∨ pa = 2 ∨ pa = 3 ∨ pa = 4) with rfl | rfl | rfl | rfl
  · exact places_1 nm ag sz cp w h
  · exact places_2 nm ag sz cp w h
  · exact places_3 nm ag sz cp w h
  · exact places_4 nm ag sz cp w h
end Go.Proofs.YtgogackkeodciaaGreat.W
