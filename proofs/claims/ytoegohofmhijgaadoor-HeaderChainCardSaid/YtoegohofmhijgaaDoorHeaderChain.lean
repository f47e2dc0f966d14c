/- For every three headers the law HeaderChain returns true: what comes ahead of what comes ahead of a third comes ahead of that. The package variable header.widths starts as the program's text lays it (the card ties it). No other condition. -/
import Derived.Test.YtoegohofmhijgaaDoorCards
import Derived.Test.YtoegohofmhijgaaDoorTie
import Derived.Test.YtoegohofmhijgaaDoorHdOne
import Derived.Test.YtoegohofmhijgaaDoorHdOpen
import Derived.WalkKit
import Derived.ProofKit
import Derived.OpenShut
import Derived.ChangeOld
import Derived.Deep.DeepHandedRow
import Derived.Lib.LaidTab
namespace Go.Proofs.YtoegohofmhijgaaDoor.headerChain
open Go.ChangeShapes Go.WideShapes Go.ChangeAt Go.RowKit
open Go.Proofs.YtoegohofmhijgaaDoor.M (grew grewAlloc)
open Go.Proofs.YtoegohofmhijgaaDoor.W Go.Proofs.YtoegohofmhijgaaDoor.D
set_option linter.unusedVariables false

set_option maxRecDepth 100000 in
set_option maxHeartbeats 4000000 in
theorem walk (a g s b a' g' s' b' a'' g'' s'' b'' : Int) (w : World) (hT : Wide w) (_ : (Lit.int .i64 a).wf = true) (_ : (Lit.int .u32 g).wf = true) (_ : (Lit.int .u32 s).wf = true) (_ : (Lit.int .i64 b).wf = true) (_ : (Lit.int .i64 a').wf = true) (_ : (Lit.int .u32 g').wf = true) (_ : (Lit.int .u32 s').wf = true) (_ : (Lit.int .i64 b').wf = true) (_ : (Lit.int .i64 a'').wf = true) (_ : (Lit.int .u32 g'').wf = true) (_ : (Lit.int .u32 s'').wf = true) (_ : (Lit.int .i64 b'').wf = true) :
    Calls Tryd.prog 6 #[.agg #[.int .i64 a, .int .u32 g, .int .u32 s, .int .i64 b], .agg #[.int .i64 a', .int .u32 g', .int .u32 s', .int .i64 b'], .agg #[.int .i64 a'', .int .u32 g'', .int .u32 s'', .int .i64 b'']] w fun e w' => e = .returned (.bool true) ∧ Below w.heap.size w w' := by
  have h1 := fun W => before_any a g s b a' g' s' b' W
  have h2 := fun W => before_any a' g' s' b' a'' g'' s'' b'' W
  have h3 := fun W => before_any a g s b a'' g'' s'' b'' W
  have h4 := fun W => before_any a g s b a g s b W
  rw [show decide (b < b ∨ b = b ∧ s < s) = false from by rw [decide_eq_false_iff_not]; omega] at h4
  replace h4 := Lib.hid h4
  have hA := ((Whole.new w 24 (hdr a g s b)).alloc (.cells (hdr a' g' s' b').toArray 24)).alloc (.cells (hdr a'' g'' s'' b'').toArray 24)
  have hC := (Whole.new (w.alloc (.cells (hdr a g s b).toArray 24)) 24 (hdr a' g' s' b')).alloc (.cells (hdr a'' g'' s'' b'').toArray 24)
  have hE := Whole.new ((w.alloc (.cells (hdr a g s b).toArray 24)).alloc (.cells (hdr a' g' s' b').toArray 24)) 24 (hdr a'' g'' s'' b'')
  rw [show (w.alloc (.cells (hdr a g s b).toArray 24)).heap.size = w.heap.size + 1 from by simp] at hC
  rw [show ((w.alloc (.cells (hdr a g s b).toArray 24)).alloc (.cells (hdr a' g' s' b').toArray 24)).heap.size = w.heap.size + 1 + 1 from by simp] at hE
  have hB := grewAlloc (grewAlloc ((Below.refl w.heap.size w).alloc (Nat.le_refl _) (.cells (hdr a g s b).toArray 24)) (.cells (hdr a' g' s' b').toArray 24)) (.cells (hdr a'' g'' s'' b'').toArray 24)
  replace hA := Lib.hid hA
  replace hC := Lib.hid hC
  replace hE := Lib.hid hE
  replace hB := Lib.hid hB
  replace hT := Lib.hid hT
  by_cases p1 : b < b' ∨ b = b' ∧ s < s'
  · by_cases p2 : b' < b'' ∨ b' = b'' ∧ s' < s''
    · rw [show decide (b < b' ∨ b = b' ∧ s < s') = true from by rw [decide_eq_true_iff]; omega] at h1
      replace h1 := Lib.hid h1
      rw [show decide (b' < b'' ∨ b' = b'' ∧ s' < s'') = true from by rw [decide_eq_true_iff]; omega] at h2
      replace h2 := Lib.hid h2
      rw [show decide (b < b'' ∨ b = b'' ∧ s < s'') = true from by rw [decide_eq_true_iff]; omega] at h3
      replace h3 := Lib.hid h3
      go_enter Tryd.func6, Tryd.ntmps6
      go_wp2_with fail
      refine (h1.out _).mono ?_
      rintro ee w1 ⟨rfl, hb⟩
      replace hA := Lib.hid (hA.out.below hb hA.out.lt)
      replace hC := Lib.hid (hC.out.below hb hC.out.lt)
      replace hE := Lib.hid (hE.out.below hb hE.out.lt)
      replace hB := Lib.hid (grew hB.out hb)
      clear hb
      have a0 := hA.out.cell 0
      have a1 := hA.out.cell 1
      have a2 := hA.out.cell 2
      have a3 := hA.out.cell 3
      have c0 := hC.out.cell 0
      have c1 := hC.out.cell 1
      have c2 := hC.out.cell 2
      have c3 := hC.out.cell 3
      have e0 := hE.out.cell 0
      have e1 := hE.out.cell 1
      have e2 := hE.out.cell 2
      have e3 := hE.out.cell 3
      simp only [List.getElem?_cons_zero, List.getElem?_cons_succ] at a0 a1 a2 a3 c0 c1 c2 c3 e0 e1 e2 e3
      go_wp2_with fail
      refine (h2.out _).mono ?_
      rintro ee w2 ⟨rfl, hb⟩
      clear a0 a1 a2 a3 c0 c1 c2 c3 e0 e1 e2 e3
      replace hA := Lib.hid (hA.out.below hb hA.out.lt)
      replace hC := Lib.hid (hC.out.below hb hC.out.lt)
      replace hE := Lib.hid (hE.out.below hb hE.out.lt)
      replace hB := Lib.hid (grew hB.out hb)
      clear hb
      have a0 := hA.out.cell 0
      have a1 := hA.out.cell 1
      have a2 := hA.out.cell 2
      have a3 := hA.out.cell 3
      have c0 := hC.out.cell 0
      have c1 := hC.out.cell 1
      have c2 := hC.out.cell 2
      have c3 := hC.out.cell 3
      have e0 := hE.out.cell 0
      have e1 := hE.out.cell 1
      have e2 := hE.out.cell 2
      have e3 := hE.out.cell 3
      simp only [List.getElem?_cons_zero, List.getElem?_cons_succ] at a0 a1 a2 a3 c0 c1 c2 c3 e0 e1 e2 e3
      go_wp2_with fail
      refine (h3.out _).mono ?_
      rintro ee w3 ⟨rfl, hb⟩
      clear a0 a1 a2 a3 c0 c1 c2 c3 e0 e1 e2 e3
      replace hA := Lib.hid (hA.out.below hb hA.out.lt)
      replace hC := Lib.hid (hC.out.below hb hC.out.lt)
      replace hE := Lib.hid (hE.out.below hb hE.out.lt)
      replace hB := Lib.hid (grew hB.out hb)
      clear hb
      have a0 := hA.out.cell 0
      have a1 := hA.out.cell 1
      have a2 := hA.out.cell 2
      have a3 := hA.out.cell 3
      have c0 := hC.out.cell 0
      have c1 := hC.out.cell 1
      have c2 := hC.out.cell 2
      have c3 := hC.out.cell 3
      have e0 := hE.out.cell 0
      have e1 := hE.out.cell 1
      have e2 := hE.out.cell 2
      have e3 := hE.out.cell 3
      simp only [List.getElem?_cons_zero, List.getElem?_cons_succ] at a0 a1 a2 a3 c0 c1 c2 c3 e0 e1 e2 e3
      go_wp2_with fail
      refine (h4.out _).mono ?_
      rintro ee w4 ⟨rfl, hb⟩
      clear a0 a1 a2 a3 c0 c1 c2 c3 e0 e1 e2 e3
      replace hA := Lib.hid (hA.out.below hb hA.out.lt)
      replace hC := Lib.hid (hC.out.below hb hC.out.lt)
      replace hE := Lib.hid (hE.out.below hb hE.out.lt)
      replace hB := Lib.hid (grew hB.out hb)
      clear hb
      have a0 := hA.out.cell 0
      have a1 := hA.out.cell 1
      have a2 := hA.out.cell 2
      have a3 := hA.out.cell 3
      have c0 := hC.out.cell 0
      have c1 := hC.out.cell 1
      have c2 := hC.out.cell 2
      have c3 := hC.out.cell 3
      have e0 := hE.out.cell 0
      have e1 := hE.out.cell 1
      have e2 := hE.out.cell 2
      have e3 := hE.out.cell 3
      simp only [List.getElem?_cons_zero, List.getElem?_cons_succ] at a0 a1 a2 a3 c0 c1 c2 c3 e0 e1 e2 e3
      go_wp2_with fail
      refine (one_any w4 (hT.out.below hB.out)).mono ?_
      rintro ee w9 ⟨rfl, hb⟩
      go_wp2_with fail
      go_ret
      exact ⟨rfl, grew hB.out hb⟩
    · rw [show decide (b < b' ∨ b = b' ∧ s < s') = true from by rw [decide_eq_true_iff]; omega] at h1
      replace h1 := Lib.hid h1
      rw [show decide (b' < b'' ∨ b' = b'' ∧ s' < s'') = false from by rw [decide_eq_false_iff_not]; omega] at h2
      replace h2 := Lib.hid h2
      clear h3
      go_enter Tryd.func6, Tryd.ntmps6
      go_wp2_with fail
      refine (h1.out _).mono ?_
      rintro ee w1 ⟨rfl, hb⟩
      replace hA := Lib.hid (hA.out.below hb hA.out.lt)
      replace hC := Lib.hid (hC.out.below hb hC.out.lt)
      replace hE := Lib.hid (hE.out.below hb hE.out.lt)
      replace hB := Lib.hid (grew hB.out hb)
      clear hb
      have a0 := hA.out.cell 0
      have a1 := hA.out.cell 1
      have a2 := hA.out.cell 2
      have a3 := hA.out.cell 3
      have c0 := hC.out.cell 0
      have c1 := hC.out.cell 1
      have c2 := hC.out.cell 2
      have c3 := hC.out.cell 3
      have e0 := hE.out.cell 0
      have e1 := hE.out.cell 1
      have e2 := hE.out.cell 2
      have e3 := hE.out.cell 3
      simp only [List.getElem?_cons_zero, List.getElem?_cons_succ] at a0 a1 a2 a3 c0 c1 c2 c3 e0 e1 e2 e3
      go_wp2_with fail
      refine (h2.out _).mono ?_
      rintro ee w2 ⟨rfl, hb⟩
      clear a0 a1 a2 a3 c0 c1 c2 c3 e0 e1 e2 e3
      replace hA := Lib.hid (hA.out.below hb hA.out.lt)
      replace hC := Lib.hid (hC.out.below hb hC.out.lt)
      replace hE := Lib.hid (hE.out.below hb hE.out.lt)
      replace hB := Lib.hid (grew hB.out hb)
      clear hb
      have a0 := hA.out.cell 0
      have a1 := hA.out.cell 1
      have a2 := hA.out.cell 2
      have a3 := hA.out.cell 3
      have c0 := hC.out.cell 0
      have c1 := hC.out.cell 1
      have c2 := hC.out.cell 2
      have c3 := hC.out.cell 3
      have e0 := hE.out.cell 0
      have e1 := hE.out.cell 1
      have e2 := hE.out.cell 2
      have e3 := hE.out.cell 3
      simp only [List.getElem?_cons_zero, List.getElem?_cons_succ] at a0 a1 a2 a3 c0 c1 c2 c3 e0 e1 e2 e3
      go_wp2_with fail
      refine (h4.out _).mono ?_
      rintro ee w3 ⟨rfl, hb⟩
      clear a0 a1 a2 a3 c0 c1 c2 c3 e0 e1 e2 e3
      replace hA := Lib.hid (hA.out.below hb hA.out.lt)
      replace hC := Lib.hid (hC.out.below hb hC.out.lt)
      replace hE := Lib.hid (hE.out.below hb hE.out.lt)
      replace hB := Lib.hid (grew hB.out hb)
      clear hb
      have a0 := hA.out.cell 0
      have a1 := hA.out.cell 1
      have a2 := hA.out.cell 2
      have a3 := hA.out.cell 3
      have c0 := hC.out.cell 0
      have c1 := hC.out.cell 1
      have c2 := hC.out.cell 2
      have c3 := hC.out.cell 3
      have e0 := hE.out.cell 0
      have e1 := hE.out.cell 1
      have e2 := hE.out.cell 2
      have e3 := hE.out.cell 3
      simp only [List.getElem?_cons_zero, List.getElem?_cons_succ] at a0 a1 a2 a3 c0 c1 c2 c3 e0 e1 e2 e3
      go_wp2_with fail
      refine (one_any w3 (hT.out.below hB.out)).mono ?_
      rintro ee w9 ⟨rfl, hb⟩
      go_wp2_with fail
      go_ret
      exact ⟨rfl, grew hB.out hb⟩
  · rw [show decide (b < b' ∨ b = b' ∧ s < s') = false from by rw [decide_eq_false_iff_not]; omega] at h1
    replace h1 := Lib.hid h1
    clear h2 h3
    go_enter Tryd.func6, Tryd.ntmps6
    go_wp2_with fail
    refine (h1.out _).mono ?_
    rintro ee w1 ⟨rfl, hb⟩
    replace hA := Lib.hid (hA.out.below hb hA.out.lt)
    replace hC := Lib.hid (hC.out.below hb hC.out.lt)
    replace hE := Lib.hid (hE.out.below hb hE.out.lt)
    replace hB := Lib.hid (grew hB.out hb)
    clear hb
    have a0 := hA.out.cell 0
    have a1 := hA.out.cell 1
    have a2 := hA.out.cell 2
    have a3 := hA.out.cell 3
    have c0 := hC.out.cell 0
    have c1 := hC.out.cell 1
    have c2 := hC.out.cell 2
    have c3 := hC.out.cell 3
    have e0 := hE.out.cell 0
    have e1 := hE.out.cell 1
    have e2 := hE.out.cell 2
    have e3 := hE.out.cell 3
    simp only [List.getElem?_cons_zero, List.getElem?_cons_succ] at a0 a1 a2 a3 c0 c1 c2 c3 e0 e1 e2 e3
    go_wp2_with fail
    refine (h4.out _).mono ?_
    rintro ee w2 ⟨rfl, hb⟩
    clear a0 a1 a2 a3 c0 c1 c2 c3 e0 e1 e2 e3
    replace hA := Lib.hid (hA.out.below hb hA.out.lt)
    replace hC := Lib.hid (hC.out.below hb hC.out.lt)
    replace hE := Lib.hid (hE.out.below hb hE.out.lt)
    replace hB := Lib.hid (grew hB.out hb)
    clear hb
    have a0 := hA.out.cell 0
    have a1 := hA.out.cell 1
    have a2 := hA.out.cell 2
    have a3 := hA.out.cell 3
    have c0 := hC.out.cell 0
    have c1 := hC.out.cell 1
    have c2 := hC.out.cell 2
    have c3 := hC.out.cell 3
    have e0 := hE.out.cell 0
    have e1 := hE.out.cell 1
    have e2 := hE.out.cell 2
    have e3 := hE.out.cell 3
    simp only [List.getElem?_cons_zero, List.getElem?_cons_succ] at a0 a1 a2 a3 c0 c1 c2 c3 e0 e1 e2 e3
    go_wp2_with fail
    refine (one_any w2 (hT.out.below hB.out)).mono ?_
    rintro ee w9 ⟨rfl, hb⟩
    go_wp2_with fail
    go_ret
    exact ⟨rfl, grew hB.out hb⟩

theorem own : ownKnob Tryd.prog.godebug = none := by kernel_rfl
theorem laidOut : laidOutB Tryd.prog = true := by kernel_rfl
theorem gW : Tryd.prog.globalNamed "weighlock/header.widths" = some 0 := by kernel_rfl
theorem gWType : (Tryd.prog.globals[0]?).map (·.type) = some 63 := by kernel_rfl
theorem cellsW4 : Tryd.prog.cellsOf 63 = 4 := by kernel_rfl
theorem cellsW1 : Tryd.prog.cellsOf 3 = 1 := by kernel_rfl
/-- What the row's list gives: the table's numbers. -/
theorem table {W : World} (h : laidMetH Tryd.prog Rows.headerChainRow.laid W) : Lib.TabIs Tryd.prog W "weighlock/header.widths" .i64 [2, 4, 4, 8] :=
  Lib.tabIs_of_head (rest := []) gW gWType Tryd.underlying63 Tryd.underlying3 cellsW1 cellsW4 h

set_option maxRecDepth 100000 in
theorem contract (H : Type) (enc : TypeId × Value → H) (W : World) (base : Nat) (args : Array Value) (ds gs : List (DataW H)) (before : List MemPlace)
    (hval : ∀ (j : Nat) t v, Tryd.f6.params[j]? = some t → args[j]? = some v → Value.okWide Tryd.prog W .any base t v)
    (hW : DataW.Whole enc Tryd.prog Tryd.f6.params.toList Rows.headerChainSpec.vars false W args.toList ds gs before) (hL : laidMetH Tryd.prog Rows.headerChainRow.laid W) :
    Calls Tryd.prog 6 args W fun e W' => ∃ v, e = .returned v ∧ Rows.headerChainSpec.post enc Tryd.prog Tryd.f6 false true false false W args v W' := by
  have hTb : Wide W := fun i hi => by
    match i, hi with
    | 0, _ => exact (table hL).cell gW 0 (by decide)
    | 1, _ => exact (table hL).cell gW 1 (by decide)
    | 2, _ => exact (table hL).cell gW 2 (by decide)
    | 3, _ => exact (table hL).cell gW 3 (by decide)
  have hW' := hW
  obtain ⟨p, q, hA0, hV, rfl, hfz, hnd⟩ := hW
  have hA : DataW.TrodAll enc Tryd.prog W 0 (fun _ => true) true Tryd.f6.params.toList args.toList ds p := hA0
  rw [Tryd.params6] at hA hval
  obtain ⟨v0, vs0, d0, ds0, p0, q0, hargs, rfl, rfl, h0, r0⟩ := trodAll_cons hA
  obtain ⟨v1, vs1, d1, ds1, p1, q1, rfl, rfl, rfl, h1, r1⟩ := trodAll_cons r0
  obtain ⟨v2, vs2, d2, ds2, p2, q2, rfl, rfl, rfl, h2, r2⟩ := trodAll_cons r1
  obtain ⟨rfl, rfl, rfl⟩ := trodAll_nil r2
  obtain rfl : args = #[v0, v1, v2] := by cases args; simp_all
  obtain ⟨rfl, rfl⟩ := trodVars_none hV
  have k0 := h0
  have lt0 : ∀ x ∈ p0, x.block < W.heap.size := by obtain ⟨m, hm⟩ := k0; exact DataW.trod_lt m _ _ _ hm
  obtain ⟨ha0, hg0, hs0, hb0, rfl, wha0, whg0, whs0, whb0⟩ := M.open_hd4 (hval 0 24 v0 rfl rfl) h0
  have k1 := h1
  have lt1 : ∀ x ∈ p1, x.block < W.heap.size := by obtain ⟨m, hm⟩ := k1; exact DataW.trod_lt m _ _ _ hm
  obtain ⟨ha1, hg1, hs1, hb1, rfl, wha1, whg1, whs1, whb1⟩ := M.open_hd4 (hval 1 24 v1 rfl rfl) h1
  have k2 := h2
  have lt2 : ∀ x ∈ p2, x.block < W.heap.size := by obtain ⟨m, hm⟩ := k2; exact DataW.trod_lt m _ _ _ hm
  obtain ⟨ha2, hg2, hs2, hb2, rfl, wha2, whg2, whs2, whb2⟩ := M.open_hd4 (hval 2 24 v2 rfl rfl) h2
  clear hA0
  refine (walk ha0 hg0 hs0 hb0 ha1 hg1 hs1 hb1 ha2 hg2 hs2 hb2 W hTb wha0 whg0 whs0 whb0 wha1 whg1 whs1 whb1 wha2 whg2 whs2 whb2).mono fun e W' ⟨he, bel⟩ => ?_
  subst he
  exact ⟨_, rfl, _, _, _, [], _, [], hW', trodAll_mk1 (shut_bool Tryd.underlying4 _), (trodAll_cons_mk (Below.trod laidOut (by kernel_rfl) (of_decide_eq_true (by kernel_rfl)) k0 bel lt0) (trodAll_cons_mk (Below.trod laidOut (by kernel_rfl) (of_decide_eq_true (by kernel_rfl)) k1 bel lt1) (trodAll_cons_mk (Below.trod laidOut (by kernel_rfl) (of_decide_eq_true (by kernel_rfl)) k2 bel lt2) trodAll_mk0))), rfl, bel.frame _, fun h => by cases h⟩

/-- A world for the witness: the settled one, the table as its initialiser lays it. -/
noncomputable def laidWorld (os : Os) : World :=
  { World.holding Tryd.prog os ⟨#[], #[], []⟩ with heap := (World.holding Tryd.prog os ⟨#[], #[], []⟩).heap.modify 0 fun
      | .cells _ t frozen => .cells #[.int .i64 2, .int .i64 4, .int .i64 4, .int .i64 8] t frozen
      | o => o }
theorem laid_met (os : Os) : laidMet Tryd.prog Rows.headerChainRow.laid ((laidWorld os).forCall (fun _ _ => 0) ⟨#[], #[.agg #[.int .i64 0, .int .u32 0, .int .u32 0, .int .i64 0], .agg #[.int .i64 0, .int .u32 0, .int .u32 0, .int .i64 0], .agg #[.int .i64 0, .int .u32 0, .int .u32 0, .int .i64 0]], []⟩).memory :=
  laidMet_of_run' 8 (by kernel_rfl) (by kernel_rfl)
theorem reads (os : Os) {H : Type} (enc : TypeId × Value → H) : ∃ places, DataW.whole enc Tryd.prog ((laidWorld os).forCall (fun _ _ => 0) ⟨#[], #[.agg #[.int .i64 0, .int .u32 0, .int .u32 0, .int .i64 0], .agg #[.int .i64 0, .int .u32 0, .int .u32 0, .int .i64 0], .agg #[.int .i64 0, .int .u32 0, .int .u32 0, .int .i64 0]], []⟩).memory Tryd.f6.params.toList Rows.headerChainSpec.vars false (#[.agg #[.int .i64 0, .int .u32 0, .int .u32 0, .int .i64 0], .agg #[.int .i64 0, .int .u32 0, .int .u32 0, .int .i64 0], .agg #[.int .i64 0, .int .u32 0, .int .u32 0, .int .i64 0]] : Array Value).toList 8 = some ([.agg [.lit (.int .i64 0), .lit (.int .u32 0), .lit (.int .u32 0), .lit (.int .i64 0)], .agg [.lit (.int .i64 0), .lit (.int .u32 0), .lit (.int .u32 0), .lit (.int .i64 0)], .agg [.lit (.int .i64 0), .lit (.int .u32 0), .lit (.int .u32 0), .lit (.int .i64 0)]], [], places) :=
  ⟨[], by kernel_rfl⟩
set_option maxRecDepth 100000 in
theorem lifted (os : Os) (started : os.Started) (H : Type) (enc : TypeId × Value → H) (F : Stop.Interp) :
    ReturnsInHanded {} Tryd.checked os 6 .any ((OpenSpec.ofChange Rows.headerChainSpec).preRow enc Tryd.prog Tryd.f6 Rows.headerChainRow.domain false Rows.headerChainRow.laid) (((OpenSpec.ofChange Rows.headerChainSpec).at F).post enc Tryd.prog Tryd.f6 false true false false) := by
  obtain ⟨places, hx⟩ := reads os enc
  refine returnsInHanded_of_row (C := Tryd.checked) (s := OpenSpec.ofChange Rows.headerChainSpec) own started (by kernel_rfl) Tryd.func6
    (witness_row_at (enc := enc) (C := Tryd.checked) false (laidWorld os) #[.agg #[.int .i64 0, .int .u32 0, .int .u32 0, .int .i64 0], .agg #[.int .i64 0, .int .u32 0, .int .u32 0, .int .i64 0], .agg #[.int .i64 0, .int .u32 0, .int .u32 0, .int .i64 0]] rfl (by kernel_rfl) (by kernel_rfl) (by kernel_rfl)
      (OpenSpec.preRow_of_cond 8 hx (by kernel_rfl) (fun k hk => by cases hk) (by kernel_rfl) (laid_met os))) ?_
  intro W base args ds gs before hval hW _ _ _ hL _ _
  exact contract H enc W base args ds gs before hval hW hL
theorem over : Rows.headerChainRow.holds Tryd.pinned (OpenSpec.ofChange Rows.headerChainSpec) :=
  OpenClaim.holds_of_cond 6 Tryd.f6 rfl rfl rfl rfl rfl rfl rfl ⟨rfl, rfl, rfl, rfl, rfl⟩ rfl rfl rfl rfl rfl (by kernel_rfl) Tryd.func6 (by kernel_rfl)
    (of_decide_eq_true (by kernel_rfl)) (by unfold Func.isWrapper; first | (rw [if_pos (by decide +kernel)]; kernel_rfl) | (rw [if_neg (by decide +kernel)]; exact ⟨rfl, rfl⟩))
    (fun os started H enc _ F => by rw [OpenClaim.pre_eq_preRow]; exact lifted os started H enc F)
theorem allPlain : (Tryd.f6.params.toList.all fun u => !(Tryd.prog.wantsStandIn u)) = true := by kernel_rfl
/-- No parameter wants a stand-in; the program's own looks are off. -/
theorem plain (f : FuncId) (fn : Func) (hf : Tryd.pinned.checked.prog.funcNamed "weighlock/weighlocklaw11.HeaderChain" = some f) (hfn : Tryd.pinned.checked.prog.funcs[f]? = some fn) :
    false = Tryd.pinned.checked.prog.looks [] ∧ ∀ (j : Nat) t, fn.params[j]? = some t → Tryd.pinned.checked.prog.wantsStandIn t = false := by
  obtain rfl : f = 6 := Option.some.inj ((show Tryd.prog.funcNamed "weighlock/weighlocklaw11.HeaderChain" = some 6 by kernel_rfl).symm.trans hf) |>.symm
  obtain rfl : fn = Tryd.f6 := (Option.some.inj (Tryd.func6.symm.trans hfn)).symm
  refine ⟨by kernel_rfl, fun j t ht => ?_⟩
  have h := List.all_eq_true.1 allPlain t (Array.mem_toList_iff.2 (Array.mem_of_getElem? ht))
  have h2 : Tryd.prog.wantsStandIn t = false := by simpa using h
  exact h2

/-- The statement: the tied card. -/
theorem proved : Rows.HeaderChainCardSaid :=
  Claim7.holds_tied_plain_at .later [] _ _ _ _ over (fun _ h => by cases h) (by kernel_rfl) (fun _ h => by cases h) headerChain_row_tie rfl ⟨rfl, rfl⟩ (by kernel_rfl) rfl plain (by kernel_rfl)
#print axioms proved

end Go.Proofs.YtoegohofmhijgaaDoor.headerChain
