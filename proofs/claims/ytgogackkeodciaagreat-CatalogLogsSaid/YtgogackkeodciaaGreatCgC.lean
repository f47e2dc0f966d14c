/- Package catalog: hasPlace, put, New. -/
import Derived.Test.YtgogackkeodciaaGreatCgB
import Derived.Test.YtgogackkeodciaaGreatMinMax
import Derived.Deep.Cut
import Derived.Deep.RegionHeld3
import Derived.BigRegion
namespace Go.Proofs.YtgogackkeodciaaGreat.W
open Go.RowKit Go.Sort
open Go.Proofs.YtgogackkeodciaaGreat.M Go.Proofs.YtgogackkeodciaaGreat.D Go.Proofs.YtgogackkeodciaaGreat.Z
set_option linter.unusedVariables false
set_option linter.unusedSimpArgs false

theorem keepNewC {V0 w : World} (h : Below V0.heap.size V0 w) (o : Obj) : Below V0.heap.size V0 (w.alloc o) := grewAlloc h o
theorem keepSetC {V0 w : World} {q : Nat} (h : Below V0.heap.size V0 w) (hq : V0.heap.size ≤ q) (c0 c1 c2 c3 c4 : Value) : Below V0.heap.size V0 (((((w.setCell ⟨q, 0, none⟩ c0).setCell ⟨q, 1, none⟩ c1).setCell ⟨q, 2, none⟩ c2).setCell ⟨q, 3, none⟩ c3).setCell ⟨q, 4, none⟩ c4) :=
  Z.below_store h hq (Nat.le_refl _) 0 [c0, c1, c2, c3, c4]
theorem keepSetC2 {V0 w : World} {q : Nat} (h : Below V0.heap.size V0 w) (hq : V0.heap.size ≤ q) (c0 c1 : Value) : Below V0.heap.size V0 ((w.setCell ⟨q, 0, none⟩ c0).setCell ⟨q, 1, none⟩ c1) :=
  Z.below_store h hq (Nat.le_refl _) 0 [c0, c1]
set_option maxRecDepth 100000 in
set_option maxHeartbeats 2000000 in
theorem hasPlace_any {B0 : Nat} (cb : Nat) (m : Option Nat) (S : List Sp) (F : ByteArray → Int → Option Mt) (n : Int) (c : Nat) (nm : ByteArray) (p : Int) (w : World) (h : CtAt B0 w cb m S F n c) (h0 : nm.size ≤ maxLen) (h1 : (Lit.int .i64 p).wf = true) :
    Calls Tryz.prog 43 #[.pointer (some ⟨cb, 0, none⟩), .agg #[.string nm, .int .i64 p]] w fun e w' => e = .returned (.bool (F nm p).isSome) ∧ Below w.heap.size w w' := by
  obtain ⟨V, hV⟩ : ∃ V, Hid (V = w.alloc (.cells #[.string nm, .int .i64 p] 33)) := ⟨_, Lib.hid rfl⟩
  have hB : Below w.heap.size w V := by rw [hV.out]; exact grewAlloc (Below.refl _ _) _
  have hX : Whole V w.heap.size 33 [.string nm, .int .i64 p] := by rw [hV.out]; exact Whole.new w _ _
  obtain ⟨xb, hxb⟩ : ∃ q, Hid (w.heap.size = q) := ⟨_, Lib.hid rfl⟩
  rw [hxb.out] at hX
  have hV8 := h.below hB
  obtain ⟨R, hR⟩ : ∃ R, Hid ((F nm p).isSome = R) := ⟨_, Lib.hid rfl⟩
  obtain ⟨x, hx⟩ : ∃ x, Hid ((F nm p).getD zMt = x) := ⟨_, Lib.hid rfl⟩
  obtain ⟨a1, a2, a3, a4, a5⟩ := x
  have q0 : ∀ W, Below V.heap.size V W → W.cell? ⟨xb, 0, none⟩ = some (.string nm) := fun W hb => (hX.below hb hX.lt).cell 0
  have q1 : ∀ W, Below V.heap.size V W → W.cell? ⟨xb, 1, none⟩ = some (.int .i64 p) := fun W hb => (hX.below hb hX.lt).cell 1
  have c40 : ∀ W, Below V.heap.size V W → W.cell? ⟨cb, 40, none⟩ = some (.map m) := fun W hb => by rw [(hV8.below hb).box.cell, ctL_map h.eight]
  have hlk : ∀ W, Below V.heap.size V W → (Instr.lookup 65 (.map m) (.agg #[.string nm, .int .i64 p]) true).run Tryz.prog W = .ok (.tuple #[.agg #[.int .i64 a1, .int .i64 a2, .int .i64 a3, .int .i64 a4, .string a5], .bool R]) W := fun W hb => by
    have := (hV8.map.below hb).look_ok (nm := nm) (p := p) h0 h1
    rw [hR.out, hx.out] at this
    exact this
  have hV0 : Below V.heap.size V V := Below.refl _ _
  have hV1 : Below V.heap.size V V.drew := (Below.refl _ _).drew
  rw [hR.out]
  replace hB := Lib.hid hB
  clear h hV8 hX hR hx
  go_enter Tryz.func43, Tryz.ntmps43
  go_upto_region 1 with fail
  rw [← show V = _ from hV.out, hxb.out]
  clear hV hxb
  go_region_held3 (fun w' => Below V.heap.size V w') (first | assumption | exact keepNewC (by assumption) _ | exact (keepNewC (by assumption) _).drew | exact keepSetC (by first | assumption | exact keepNewC (by assumption) _) (by first | exact Nat.le_refl _ | exact Below.size (by assumption)) _ _ _ _ _ | (go_keep)) (fail)
  all_goals
    rename_i hHeld
    have hb9 := Lib.hid (grew hB.out hHeld)
    clear hHeld q0 q1 c40 hlk hV0 hV1 hB
    go_wp2_with fail
    go_ret
    exact ⟨rfl, hb9.out⟩
theorem stepMaxC {P : Program} {w : World} {ops : Array Oper} {o : Oper} {a : Go.Act} {Q : Exit → Go.Act → World → Prop} {K : Go.Act → World → Prop} {E : Prop} (hgd : o.guard = none) (x y : Operand) (t u : TypeId)
    (ho : o.op = .call { callee := .builtin .max, args := #[x, y], argTypes := #[t, u] }) (p q r : Int) (hx : a.eval x = .int .i64 p) (hy : a.eval y = .int .i64 q) (hr : max p q = r) (h : K (a.put o.dst (.int .i64 r)) w) :
    if Region.wanted o (yielded ops a.tmps) = true then Oper.wp P o a w K Q else E := by
  have hw : Region.wanted o (yielded ops a.tmps) = true := by simp [Region.wanted, hgd]
  rw [if_pos hw]
  have hrun := run_max_int2 (P := P) (w := w) #[t, u] o.type .i64 .i64 p q
  rw [show (if q > p then q else p) = r by split <;> omega] at hrun
  unfold Oper.wp
  simp [execOp, ho, resolve, invoke, builtin, hx, hy, hrun, Result.andThen]
  exact h
theorem eql_map_nilC (p : Option Nat) (W : World) : (binOp .eql 65 (.map p) (.map none)).run Tryz.prog W = .ok (.bool p.isNone) W := by
  simp only [binOp]
  simp [show Op.equal 65 (.map p) (.map none) = Op.equalIn (9999 + 1) 65 (.map p) (.map none) from rfl, eqlIn_map_nil W 9999 65 _ _ p Tryz.underlying65]
/-- What a put leaves. -/
def PutC (B0 : Nat) (cb : Nat) (m : Option Nat) (S : List Sp) (F : ByteArray → Int → Option Mt) (n : Int) (c : Nat) (w w' : World) : Prop :=
  ∃ m', CtAt B0 w' cb m' S F n c ∧ Kept (ofC cb m) w w' ∧ (m' = m ∨ (m = none ∧ ∃ mb, m' = some mb ∧ w.heap.size ≤ mb))
set_option maxRecDepth 100000 in
set_option maxHeartbeats 4000000 in
theorem put23_any {B0 : Nat} (cb : Nat) (m : Option Nat) (S : List Sp) (F : ByteArray → Int → Option Mt) (n : Int) (c : Nat) (nm : ByteArray) (p : Int) (x : Mt) (w : World) (h : CtAt B0 w cb m S F n c) (hB0 : B0 ≤ w.heap.size) (h0 : nm.size ≤ maxLen) (h1 : (Lit.int .i64 p).wf = true) (hc : c ≤ 100000) :
    Calls Tryz.prog 84 #[.pointer (some ⟨cb, 0, none⟩), .agg #[.string nm, .int .i64 p], .agg #[.int .i64 x.gen, .int .i64 x.seq, .int .i64 x.start, .int .i64 x.next, .string x.tab]] w fun e w' => e = .returned (.tuple #[]) ∧ PutC B0 cb m S (putF F nm p x) (max n x.gen) (c + 1) w w' := by
  obtain ⟨V, hV⟩ : ∃ V, Hid (V = (w.alloc (.cells #[.string nm, .int .i64 p] 33)).alloc (.cells #[.int .i64 x.gen, .int .i64 x.seq, .int .i64 x.start, .int .i64 x.next, .string x.tab] 35)) := ⟨_, Lib.hid rfl⟩
  have hB : Below w.heap.size w V := by rw [hV.out]; exact grewAlloc (grewAlloc (Below.refl _ _) _) _
  have hX : Whole V w.heap.size 33 [.string nm, .int .i64 p] := by rw [hV.out]; exact (Whole.new w _ _).alloc _
  have hY : Whole V (w.heap.size + 1) 35 [.int .i64 x.gen, .int .i64 x.seq, .int .i64 x.start, .int .i64 x.next, .string x.tab] := by
    rw [hV.out]
    have := Whole.new (w.alloc (.cells #[.string nm, .int .i64 p] 33)) 35 [.int .i64 x.gen, .int .i64 x.seq, .int .i64 x.start, .int .i64 x.next, .string x.tab]
    simpa using this
  obtain ⟨xb, hxb⟩ : ∃ q, Hid (w.heap.size = q) := ⟨_, Lib.hid rfl⟩
  obtain ⟨yb, hyb⟩ : ∃ q, Hid (w.heap.size + 1 = q) := ⟨_, Lib.hid rfl⟩
  rw [hxb.out] at hX
  rw [hyb.out] at hY
  have hcx : cb < w.heap.size := h.box.lt
  have hxc : xb ≠ cb := by have := hxb.out; omega
  have hyc : yb ≠ cb := by have := hyb.out; omega
  have hV8 := h.below hB
  have hwV := hB.size
  have e8 := h.eight
  obtain ⟨r, hr⟩ : ∃ r, max n x.gen = r := ⟨_, rfl⟩
  have hq := fun W => eql_map_nilC m W
  have c40 : V.cell? ⟨cb, 40, none⟩ = some (.map m) := by rw [hV8.box.cell, ctL_map e8]
  have hmp := hV8.map
  rw [hr]
  rcases hmp with ⟨rfl, hF⟩ | ⟨mb, D, rfl, hown, hmf⟩
  · -- the first one
    have hmm := @run_makeMap Tryz.prog
    have hbox := hV8.box
    have i1a := hbox.alloc (.map #[] 0)
    have t1 : (V.alloc (.map #[] 0)).cell? ⟨cb, 40, none⟩ = some (.map none) := by rw [i1a.cell, ctL_map e8]
    have f1 : (V.alloc (.map #[] 0)).frozen? ⟨cb, 40, none⟩ = false := i1a.frozen 40
    obtain ⟨W3, hW3⟩ : ∃ W, Hid (W = (V.alloc (.map #[] 0)).setCell ⟨cb, 40, none⟩ (.map (some V.heap.size))) := ⟨_, Lib.hid rfl⟩
    have hbox3 : Whole W3 cb 67 (ctL S (some V.heap.size) n) := by
      rw [hW3.out, ← ctL_setMap e8 none (some V.heap.size) n]
      exact i1a.store 40 [.map (some V.heap.size)] (by rw [ctL_len e8]; simp)
    have hown3 : W3.ownsMap Tryz.prog 33 mtR V.heap.size 0 (.map []) := by
      rw [hW3.out]
      exact (World.ownsMap_made V Tryz.prog 33 mtR).setCell (a := ⟨cb, 40, none⟩) (fun e => by have := hbox.lt; simp only at e; omega) _
    have hK3 : Kept (ofC cb none) w W3 := by
      rw [hW3.out]
      exact ((Kept.of_below hB).alloc (.map #[] 0)).setCells (c := cb) (.inl (.inl rfl)) 40 [.map (some V.heap.size)]
    have hX3 : Whole W3 xb 33 [.string nm, .int .i64 p] := by
      rw [hW3.out]
      exact (hX.alloc (.map #[] 0)).far hxc 40 [.map (some V.heap.size)]
    have hY3 : Whole W3 yb 35 [.int .i64 x.gen, .int .i64 x.seq, .int .i64 x.start, .int .i64 x.next, .string x.tab] := by
      rw [hW3.out]
      exact (hY.alloc (.map #[] 0)).far hyc 40 [.map (some V.heap.size)]
    have hmp3 : MpF F c (.map []) := by
      have := MpF.nil.up (Nat.zero_le c)
      rw [show (fun (_ : ByteArray) (_ : Int) => (none : Option Mt)) = F from funext fun a => funext fun q => (hF a q).symm] at this
      exact this
    obtain ⟨mb, hmb⟩ : ∃ mb, Hid (V.heap.size = mb) := ⟨_, Lib.hid rfl⟩
    rw [hmb.out] at hbox3 hown3 hwV
    have hmw : B0 ≤ mb := by omega
    have hnm : cb ≠ mb := by omega
    have hxm : some xb ≠ some mb := fun e => by cases e; have := hX.lt; have := hmb.out; omega
    have hym : some yb ≠ some mb := fun e => by cases e; have := hY.lt; have := hmb.out; omega
    have hown3' := (hown3.mono (Nat.zero_le c)).drew
    obtain ⟨w3, hrun, hownU, hgrow⟩ := hown3'.update (key := .agg #[.string nm, .int .i64 p]) (val := mtV x) plLaw Tryz.underlying65 (by unfold maxLen; omega) (plK_of h0 h1) (mtR_mk x)
    have hU := hmp3.put h0 h1 x
    simp only [mtV] at hrun
    have q03 : W3.cell? ⟨xb, 0, none⟩ = some (.string nm) := hX3.cell 0
    have q13 : W3.cell? ⟨xb, 1, none⟩ = some (.int .i64 p) := hX3.cell 1
    have y03 : W3.cell? ⟨yb, 0, none⟩ = some (.int .i64 x.gen) := hY3.cell 0
    have y13 : W3.cell? ⟨yb, 1, none⟩ = some (.int .i64 x.seq) := hY3.cell 1
    have y23 : W3.cell? ⟨yb, 2, none⟩ = some (.int .i64 x.start) := hY3.cell 2
    have y33 : W3.cell? ⟨yb, 3, none⟩ = some (.int .i64 x.next) := hY3.cell 3
    have y43 : W3.cell? ⟨yb, 4, none⟩ = some (.string x.tab) := hY3.cell 4
    have t3 : W3.cell? ⟨cb, 40, none⟩ = some (.map (some mb)) := by rw [hbox3.cell, ctL_map e8]
    have hbox4 : Whole w3 cb 67 (ctL S (some mb) n) := hbox3.kept (w := W3.drew) hgrow (fun e => hnm (Option.some.inj e))
    have hY4 : Whole w3 yb 35 [.int .i64 x.gen, .int .i64 x.seq, .int .i64 x.start, .int .i64 x.next, .string x.tab] := hY3.kept (w := W3.drew) hgrow hym
    have hK4 : Kept (ofC cb none) w w3 := (show Kept (ofC cb none) w W3.drew from hK3.drewN 1).grown hgrow (fun k e => .inr (by cases e; omega))
    have g0 : w3.drew.cell? ⟨yb, 0, none⟩ = some (.int .i64 x.gen) := hY4.cell 0
    have n4 : w3.drew.cell? ⟨cb, 41, none⟩ = some (.int .i64 n) := by show w3.cell? ⟨cb, 41, none⟩ = _; rw [hbox4.cell, ctL_cnt e8]
    have fr4 : w3.drew.frozen? ⟨cb, 41, none⟩ = false := by show w3.frozen? ⟨cb, 41, none⟩ = _; exact hbox4.frozen 41
    have hfin : Hid (PutC B0 cb none S (putF F nm p x) r (c + 1) w (w3.drew.setCell ⟨cb, 41, none⟩ (.int .i64 r))) := Lib.hid ⟨some mb, ⟨by
        rw [← ctL_setCnt e8 (some mb) n r]
        exact (show Whole w3.drew cb _ _ from hbox4).store 41 [.int .i64 r] (by rw [ctL_len e8]; simp), e8, .inr ⟨mb, _, rfl, (show w3.drew.ownsMap Tryz.prog 33 mtR mb (c + 1) _ from hownU.drew).setCell (a := ⟨cb, 41, none⟩) (fun e => hnm e.symm) _, hU⟩, h.new, fun k e => by cases e; exact hmw⟩,
      (show Kept (ofC cb none) w w3.drew from hK4.drewN 1).setCells (c := cb) (.inl (.inl rfl)) 41 [.int .i64 r], .inr ⟨rfl, mb, rfl, by omega⟩⟩
    clear hX hY hX3 hY3 hB h hV8 hbox i1a hbox3 hbox4 hown3 hK3 hmp3 hown3' hownU hgrow hU hY4 hK4 hF
    go_enter Tryz.func84, Tryz.ntmps84
    go_upto_region 1 with fail
    rw [← show V = _ from hV.out, hyb.out, hxb.out]
    clear hV hxb hyb
    go_upto_region 3 with fail
    rw [← show W3 = _ from hW3.out, hmb.out]
    clear hW3 hmm t1 f1 c40 hmb
    go_region
    clear hrun q03 q13 y03 y13 y23 y33 y43 t3
    go_upto_region 4 with fail
    go_region_law (first | (refine stepMaxC (by rfl) _ _ _ _ (by rfl) n x.gen r (by rfl) (by rfl) hr ?_))
    all_goals
      go_wp2_with fail
      go_end0
      exact ⟨rfl, hfin.out⟩
  · have hbox := hV8.box
    have hnm : cb ≠ mb := fun e => by
      obtain ⟨es, clock, hm, _⟩ := hown
      subst e
      unfold Whole at hbox
      rw [hm] at hbox
      cases hbox
    have hwm : mb < w.heap.size := by
      rcases h.map with h9 | ⟨mb', D', e, ho, _⟩
      · cases h9.1
      · cases e; exact ho.lt
    have hxm : some xb ≠ some mb := fun e => by cases e; have := hxb.out; omega
    have hym : some yb ≠ some mb := fun e => by cases e; have := hyb.out; omega
    have hown3' := hown.drew
    obtain ⟨w3, hrun, hownU, hgrow⟩ := hown3'.update (key := .agg #[.string nm, .int .i64 p]) (val := mtV x) plLaw Tryz.underlying65 (by unfold maxLen; omega) (plK_of h0 h1) (mtR_mk x)
    have hU := hmf.put h0 h1 x
    simp only [mtV] at hrun
    have q03 : V.cell? ⟨xb, 0, none⟩ = some (.string nm) := hX.cell 0
    have q13 : V.cell? ⟨xb, 1, none⟩ = some (.int .i64 p) := hX.cell 1
    have y03 : V.cell? ⟨yb, 0, none⟩ = some (.int .i64 x.gen) := hY.cell 0
    have y13 : V.cell? ⟨yb, 1, none⟩ = some (.int .i64 x.seq) := hY.cell 1
    have y23 : V.cell? ⟨yb, 2, none⟩ = some (.int .i64 x.start) := hY.cell 2
    have y33 : V.cell? ⟨yb, 3, none⟩ = some (.int .i64 x.next) := hY.cell 3
    have y43 : V.cell? ⟨yb, 4, none⟩ = some (.string x.tab) := hY.cell 4
    have hbox4 : Whole w3 cb 67 (ctL S (some mb) n) := hbox.kept (w := V.drew) hgrow (fun e => hnm (Option.some.inj e))
    have hY4 : Whole w3 yb 35 [.int .i64 x.gen, .int .i64 x.seq, .int .i64 x.start, .int .i64 x.next, .string x.tab] := hY.kept (w := V.drew) hgrow hym
    have hK4 : Kept (ofC cb (some mb)) w w3 := (show Kept (ofC cb (some mb)) w V.drew from (Kept.of_below hB).drewN 1).grown hgrow (fun k e => .inl (.inr e))
    have g0 : w3.drew.cell? ⟨yb, 0, none⟩ = some (.int .i64 x.gen) := hY4.cell 0
    have n4 : w3.drew.cell? ⟨cb, 41, none⟩ = some (.int .i64 n) := by show w3.cell? ⟨cb, 41, none⟩ = _; rw [hbox4.cell, ctL_cnt e8]
    have fr4 : w3.drew.frozen? ⟨cb, 41, none⟩ = false := by show w3.frozen? ⟨cb, 41, none⟩ = _; exact hbox4.frozen 41
    have hfin : Hid (PutC B0 cb (some mb) S (putF F nm p x) r (c + 1) w (w3.drew.setCell ⟨cb, 41, none⟩ (.int .i64 r))) := Lib.hid ⟨some mb, ⟨by
        rw [← ctL_setCnt e8 (some mb) n r]
        exact (show Whole w3.drew cb _ _ from hbox4).store 41 [.int .i64 r] (by rw [ctL_len e8]; simp), e8, .inr ⟨mb, _, rfl, (show w3.drew.ownsMap Tryz.prog 33 mtR mb (c + 1) _ from hownU.drew).setCell (a := ⟨cb, 41, none⟩) (fun e => hnm e.symm) _, hU⟩, h.new, h.newM⟩,
      (show Kept (ofC cb (some mb)) w w3.drew from hK4.drewN 1).setCells (c := cb) (.inl (.inl rfl)) 41 [.int .i64 r], .inl rfl⟩
    clear hX hY hB h hV8 hbox hbox4 hown hown3' hownU hgrow hU hY4 hK4 hmf
    go_enter Tryz.func84, Tryz.ntmps84
    go_upto_region 1 with fail
    rw [← show V = _ from hV.out, hyb.out, hxb.out]
    clear hV hxb hyb
    go_upto_region 3 with fail
    go_region
    clear hrun q03 q13 y03 y13 y23 y33 y43 c40
    go_upto_region 4 with fail
    go_region_law (first | (refine stepMaxC (by rfl) _ _ _ _ (by rfl) n x.gen r (by rfl) (by rfl) hr ?_))
    all_goals
      go_wp2_with fail
      go_end0
      exact ⟨rfl, hfin.out⟩
end Go.Proofs.YtgogackkeodciaaGreat.W
