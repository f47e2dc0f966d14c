/- For every two headers the law HeaderBefore returns true: which comes ahead of the other. The package variable header.widths starts as the program's text lays it (the card ties it). No other condition. -/
import Derived.Test.YtoegohofmhijgaaDoorCards
import Derived.Test.YtoegohofmhijgaaDoorTie
import Derived.Test.YtoegohofmhijgaaDoorHdOne
import Derived.Test.YtoegohofmhijgaaDoorHdOpen
import Derived.WalkKit
import Derived.ProofKit
import Derived.OpenShut
import Derived.ChangeOld
import Derived.Deep.DeepHandedRow
import Derived.Lib.LaidTab
namespace Go.Proofs.YtoegohofmhijgaaDoor.headerBefore
open Go.ChangeShapes Go.WideShapes Go.ChangeAt Go.RowKit
open Go.Proofs.YtoegohofmhijgaaDoor.M (grew grewAlloc)
open Go.Proofs.YtoegohofmhijgaaDoor.W Go.Proofs.YtoegohofmhijgaaDoor.D
set_option linter.unusedVariables false

theorem two {a b : Int} (h : a ≠ b) : (a != b) = true := by simp [h]
set_option maxRecDepth 100000 in
set_option maxHeartbeats 4000000 in
theorem walk (a g s b a' g' s' b' : Int) (w : World) (hT : Wide w) (_ : (Lit.int .i64 a).wf = true) (_ : (Lit.int .u32 g).wf = true) (_ : (Lit.int .u32 s).wf = true) (_ : (Lit.int .i64 b).wf = true) (_ : (Lit.int .i64 a').wf = true) (_ : (Lit.int .u32 g').wf = true) (_ : (Lit.int .u32 s').wf = true) (_ : (Lit.int .i64 b').wf = true) :
    Calls Tryd.prog 5 #[.agg #[.int .i64 a, .int .u32 g, .int .u32 s, .int .i64 b], .agg #[.int .i64 a', .int .u32 g', .int .u32 s', .int .i64 b']] w fun e w' => e = .returned (.bool true) ∧ Below w.heap.size w w' := by
  obtain ⟨x, hx⟩ : ∃ x, Hid (decide (b < b' ∨ b = b' ∧ s < s') = x) := ⟨_, Lib.hid rfl⟩
  obtain ⟨y, hy⟩ : ∃ y, Hid (decide (b' < b ∨ b' = b ∧ s' < s) = y) := ⟨_, Lib.hid rfl⟩
  have h1 := fun W => before_any a g s b a' g' s' b' W
  have h2 := fun W => before_any a' g' s' b' a g s b W
  rw [hx.out] at h1
  rw [hy.out] at h2
  replace h1 := Lib.hid h1
  replace h2 := Lib.hid h2
  replace hT := Lib.hid hT
  have hA := (Whole.new w 24 (hdr a g s b)).alloc (.cells (hdr a' g' s' b').toArray 24)
  have hC := Whole.new (w.alloc (.cells (hdr a g s b).toArray 24)) 24 (hdr a' g' s' b')
  rw [show (w.alloc (.cells (hdr a g s b).toArray 24)).heap.size = w.heap.size + 1 from by simp] at hC
  have hB := grewAlloc ((Below.refl w.heap.size w).alloc (Nat.le_refl _) (.cells (hdr a g s b).toArray 24)) (.cells (hdr a' g' s' b').toArray 24)
  replace hA := Lib.hid hA
  replace hC := Lib.hid hC
  replace hB := Lib.hid hB
  go_enter Tryd.func5, Tryd.ntmps5
  go_wp2_with fail
  refine (h1.out _).mono ?_
  rintro ee w1 ⟨rfl, hb1⟩
  replace hA := Lib.hid (hA.out.below hb1 hA.out.lt)
  replace hC := Lib.hid (hC.out.below hb1 hC.out.lt)
  replace hB := Lib.hid (grew hB.out hb1)
  clear hb1
  have a0 := hA.out.cell 0
  have a1 := hA.out.cell 1
  have a2 := hA.out.cell 2
  have a3 := hA.out.cell 3
  have c0 := hC.out.cell 0
  have c1 := hC.out.cell 1
  have c2 := hC.out.cell 2
  have c3 := hC.out.cell 3
  simp only [List.getElem?_cons_zero, List.getElem?_cons_succ] at a0 a1 a2 a3 c0 c1 c2 c3
  go_wp2_with fail
  refine (h2.out _).mono ?_
  rintro ee w2 ⟨rfl, hb2⟩
  clear a0 a1 a2 a3 c0 c1 c2 c3
  replace hA := Lib.hid (hA.out.below hb2 hA.out.lt)
  replace hC := Lib.hid (hC.out.below hb2 hC.out.lt)
  replace hB := Lib.hid (grew hB.out hb2)
  clear hb2
  have a2 := hA.out.cell 2
  have a3 := hA.out.cell 3
  have c2 := hC.out.cell 2
  have c3 := hC.out.cell 3
  simp only [List.getElem?_cons_zero, List.getElem?_cons_succ] at a2 a3 c2 c3
  have hone := Lib.hid (one_any w2 (hT.out.below hB.out))
  rcases Int.lt_trichotomy b b' with h | h | h
  · obtain rfl : x = true := by rw [← hx.out]; simp [h]
    obtain rfl : y = false := by rw [← hy.out]; simp; omega
    have n1 : (b != b') = true := two (by omega)
    clear hx hy h1 h2
    go_wp2_with fail
    refine hone.out.mono ?_
    rintro ee w3 ⟨rfl, hb3⟩
    go_wp2_with fail
    go_ret
    exact ⟨rfl, grew hB.out hb3⟩
  · subst h
    rcases Int.lt_trichotomy s s' with h | h | h
    · obtain rfl : x = true := by rw [← hx.out]; simp [h]
      obtain rfl : y = false := by rw [← hy.out]; simp; omega
      have n1 : (s != s') = true := two (by omega)
      have n2 : (b != b) = false := by simp
      have n3 : (b == b) = true := by simp
      have n4 : decide (b < b) = false := by simp
      clear hx hy h1 h2
      go_wp2_with fail
      refine hone.out.mono ?_
      rintro ee w3 ⟨rfl, hb3⟩
      go_wp2_with fail
      go_ret
      exact ⟨rfl, grew hB.out hb3⟩
    · subst h
      obtain rfl : x = false := by rw [← hx.out]; simp
      obtain rfl : y = false := by rw [← hy.out]; simp
      have n1 : (s != s) = false := by simp
      have n2 : (b != b) = false := by simp
      have n3 : (b == b) = true := by simp
      have n4 : decide (b < b) = false := by simp
      have n5 : decide (s < s) = false := by simp
      clear hx hy h1 h2
      go_wp2_with fail
      refine hone.out.mono ?_
      rintro ee w3 ⟨rfl, hb3⟩
      go_wp2_with fail
      go_ret
      exact ⟨rfl, grew hB.out hb3⟩
    · obtain rfl : x = false := by rw [← hx.out]; simp; omega
      obtain rfl : y = true := by rw [← hy.out]; simp [h]
      have n1 : (s != s') = true := two (by omega)
      have n2 : (b != b) = false := by simp
      have n3 : (b == b) = true := by simp
      have n4 : decide (b < b) = false := by simp
      have n5 : decide (s < s') = false := by simp; omega
      clear hx hy h1 h2
      go_wp2_with fail
      refine hone.out.mono ?_
      rintro ee w3 ⟨rfl, hb3⟩
      go_wp2_with fail
      go_ret
      exact ⟨rfl, grew hB.out hb3⟩
  · obtain rfl : x = false := by rw [← hx.out]; simp; omega
    obtain rfl : y = true := by rw [← hy.out]; simp [h]
    have n1 : (b != b') = true := two (by omega)
    have n3 : (b == b') = false := by rw [beq_eq_false_iff_ne]; omega
    have n4 : decide (b < b') = false := by simp; omega
    clear hx hy h1 h2
    go_wp2_with fail
    refine hone.out.mono ?_
    rintro ee w3 ⟨rfl, hb3⟩
    go_wp2_with fail
    go_ret
    exact ⟨rfl, grew hB.out hb3⟩

theorem own : ownKnob Tryd.prog.godebug = none := by kernel_rfl
theorem laidOut : laidOutB Tryd.prog = true := by kernel_rfl
theorem gW : Tryd.prog.globalNamed "weighlock/header.widths" = some 0 := by kernel_rfl
theorem gWType : (Tryd.prog.globals[0]?).map (·.type) = some 63 := by kernel_rfl
theorem cellsW4 : Tryd.prog.cellsOf 63 = 4 := by kernel_rfl
theorem cellsW1 : Tryd.prog.cellsOf 3 = 1 := by kernel_rfl
/-- What the row's list gives: the table's numbers. -/
theorem table {W : World} (h : laidMetH Tryd.prog Rows.headerBeforeRow.laid W) : Lib.TabIs Tryd.prog W "weighlock/header.widths" .i64 [2, 4, 4, 8] :=
  Lib.tabIs_of_head (rest := []) gW gWType Tryd.underlying63 Tryd.underlying3 cellsW1 cellsW4 h

set_option maxRecDepth 100000 in
theorem contract (H : Type) (enc : TypeId × Value → H) (W : World) (base : Nat) (args : Array Value) (ds gs : List (DataW H)) (before : List MemPlace)
    (hval : ∀ (j : Nat) t v, Tryd.f5.params[j]? = some t → args[j]? = some v → Value.okWide Tryd.prog W .any base t v)
    (hW : DataW.Whole enc Tryd.prog Tryd.f5.params.toList Rows.headerBeforeSpec.vars false W args.toList ds gs before) (hL : laidMetH Tryd.prog Rows.headerBeforeRow.laid W) :
    Calls Tryd.prog 5 args W fun e W' => ∃ v, e = .returned v ∧ Rows.headerBeforeSpec.post enc Tryd.prog Tryd.f5 false true false false W args v W' := by
  have hTb : Wide W := fun i hi => by
    match i, hi with
    | 0, _ => exact (table hL).cell gW 0 (by decide)
    | 1, _ => exact (table hL).cell gW 1 (by decide)
    | 2, _ => exact (table hL).cell gW 2 (by decide)
    | 3, _ => exact (table hL).cell gW 3 (by decide)
  have hW' := hW
  obtain ⟨p, q, hA0, hV, rfl, hfz, hnd⟩ := hW
  have hA : DataW.TrodAll enc Tryd.prog W 0 (fun _ => true) true Tryd.f5.params.toList args.toList ds p := hA0
  rw [Tryd.params5] at hA hval
  obtain ⟨v0, vs0, d0, ds0, p0, q0, hargs, rfl, rfl, h0, r0⟩ := trodAll_cons hA
  obtain ⟨v1, vs1, d1, ds1, p1, q1, rfl, rfl, rfl, h1, r1⟩ := trodAll_cons r0
  obtain ⟨rfl, rfl, rfl⟩ := trodAll_nil r1
  obtain rfl : args = #[v0, v1] := by cases args; simp_all
  obtain ⟨rfl, rfl⟩ := trodVars_none hV
  have k0 := h0
  have lt0 : ∀ x ∈ p0, x.block < W.heap.size := by obtain ⟨m, hm⟩ := k0; exact DataW.trod_lt m _ _ _ hm
  obtain ⟨ha0, hg0, hs0, hb0, rfl, wha0, whg0, whs0, whb0⟩ := M.open_hd4 (hval 0 24 v0 rfl rfl) h0
  have k1 := h1
  have lt1 : ∀ x ∈ p1, x.block < W.heap.size := by obtain ⟨m, hm⟩ := k1; exact DataW.trod_lt m _ _ _ hm
  obtain ⟨ha1, hg1, hs1, hb1, rfl, wha1, whg1, whs1, whb1⟩ := M.open_hd4 (hval 1 24 v1 rfl rfl) h1
  clear hA0
  refine (walk ha0 hg0 hs0 hb0 ha1 hg1 hs1 hb1 W hTb wha0 whg0 whs0 whb0 wha1 whg1 whs1 whb1).mono fun e W' ⟨he, bel⟩ => ?_
  subst he
  exact ⟨_, rfl, _, _, _, [], _, [], hW', trodAll_mk1 (shut_bool Tryd.underlying4 _), (trodAll_cons_mk (Below.trod laidOut (by kernel_rfl) (of_decide_eq_true (by kernel_rfl)) k0 bel lt0) (trodAll_cons_mk (Below.trod laidOut (by kernel_rfl) (of_decide_eq_true (by kernel_rfl)) k1 bel lt1) trodAll_mk0)), rfl, bel.frame _, fun h => by cases h⟩

/-- A world for the witness: the settled one, the table as its initialiser lays it. -/
noncomputable def laidWorld (os : Os) : World :=
  { World.holding Tryd.prog os ⟨#[], #[], []⟩ with heap := (World.holding Tryd.prog os ⟨#[], #[], []⟩).heap.modify 0 fun
      | .cells _ t frozen => .cells #[.int .i64 2, .int .i64 4, .int .i64 4, .int .i64 8] t frozen
      | o => o }
theorem laid_met (os : Os) : laidMet Tryd.prog Rows.headerBeforeRow.laid ((laidWorld os).forCall (fun _ _ => 0) ⟨#[], #[.agg #[.int .i64 0, .int .u32 0, .int .u32 0, .int .i64 0], .agg #[.int .i64 0, .int .u32 0, .int .u32 0, .int .i64 0]], []⟩).memory :=
  laidMet_of_run' 8 (by kernel_rfl) (by kernel_rfl)
theorem reads (os : Os) {H : Type} (enc : TypeId × Value → H) : ∃ places, DataW.whole enc Tryd.prog ((laidWorld os).forCall (fun _ _ => 0) ⟨#[], #[.agg #[.int .i64 0, .int .u32 0, .int .u32 0, .int .i64 0], .agg #[.int .i64 0, .int .u32 0, .int .u32 0, .int .i64 0]], []⟩).memory Tryd.f5.params.toList Rows.headerBeforeSpec.vars false (#[.agg #[.int .i64 0, .int .u32 0, .int .u32 0, .int .i64 0], .agg #[.int .i64 0, .int .u32 0, .int .u32 0, .int .i64 0]] : Array Value).toList 8 = some ([.agg [.lit (.int .i64 0), .lit (.int .u32 0), .lit (.int .u32 0), .lit (.int .i64 0)], .agg [.lit (.int .i64 0), .lit (.int .u32 0), .lit (.int .u32 0), .lit (.int .i64 0)]], [], places) :=
  ⟨[], by kernel_rfl⟩
set_option maxRecDepth 100000 in
theorem lifted (os : Os) (started : os.Started) (H : Type) (enc : TypeId × Value → H) (F : Stop.Interp) :
    ReturnsInHanded {} Tryd.checked os 5 .any ((OpenSpec.ofChange Rows.headerBeforeSpec).preRow enc Tryd.prog Tryd.f5 Rows.headerBeforeRow.domain false Rows.headerBeforeRow.laid) (((OpenSpec.ofChange Rows.headerBeforeSpec).at F).post enc Tryd.prog Tryd.f5 false true false false) := by
  obtain ⟨places, hx⟩ := reads os enc
  refine returnsInHanded_of_row (C := Tryd.checked) (s := OpenSpec.ofChange Rows.headerBeforeSpec) own started (by kernel_rfl) Tryd.func5
    (witness_row_at (enc := enc) (C := Tryd.checked) false (laidWorld os) #[.agg #[.int .i64 0, .int .u32 0, .int .u32 0, .int .i64 0], .agg #[.int .i64 0, .int .u32 0, .int .u32 0, .int .i64 0]] rfl (by kernel_rfl) (by kernel_rfl) (by kernel_rfl)
      (OpenSpec.preRow_of_cond 8 hx (by kernel_rfl) (fun k hk => by cases hk) (by kernel_rfl) (laid_met os))) ?_
  intro W base args ds gs before hval hW _ _ _ hL _ _
  exact contract H enc W base args ds gs before hval hW hL
theorem over : Rows.headerBeforeRow.holds Tryd.pinned (OpenSpec.ofChange Rows.headerBeforeSpec) :=
  OpenClaim.holds_of_cond 5 Tryd.f5 rfl rfl rfl rfl rfl rfl rfl ⟨rfl, rfl, rfl, rfl, rfl⟩ rfl rfl rfl rfl rfl (by kernel_rfl) Tryd.func5 (by kernel_rfl)
    (of_decide_eq_true (by kernel_rfl)) (by unfold Func.isWrapper; first | (rw [if_pos (by decide +kernel)]; kernel_rfl) | (rw [if_neg (by decide +kernel)]; exact ⟨rfl, rfl⟩))
    (fun os started H enc _ F => by rw [OpenClaim.pre_eq_preRow]; exact lifted os started H enc F)
theorem allPlain : (Tryd.f5.params.toList.all fun u => !(Tryd.prog.wantsStandIn u)) = true := by kernel_rfl
/-- No parameter wants a stand-in; the program's own looks are off. -/
theorem plain (f : FuncId) (fn : Func) (hf : Tryd.pinned.checked.prog.funcNamed "weighlock/weighlocklaw11.HeaderBefore" = some f) (hfn : Tryd.pinned.checked.prog.funcs[f]? = some fn) :
    false = Tryd.pinned.checked.prog.looks [] ∧ ∀ (j : Nat) t, fn.params[j]? = some t → Tryd.pinned.checked.prog.wantsStandIn t = false := by
  obtain rfl : f = 5 := Option.some.inj ((show Tryd.prog.funcNamed "weighlock/weighlocklaw11.HeaderBefore" = some 5 by kernel_rfl).symm.trans hf) |>.symm
  obtain rfl : fn = Tryd.f5 := (Option.some.inj (Tryd.func5.symm.trans hfn)).symm
  refine ⟨by kernel_rfl, fun j t ht => ?_⟩
  have h := List.all_eq_true.1 allPlain t (Array.mem_toList_iff.2 (Array.mem_of_getElem? ht))
  have h2 : Tryd.prog.wantsStandIn t = false := by simpa using h
  exact h2

/-- The statement: the tied card. -/
theorem proved : Rows.HeaderBeforeCardSaid :=
  Claim7.holds_tied_plain_at .later [] _ _ _ _ over (fun _ h => by cases h) (by kernel_rfl) (fun _ h => by cases h) headerBefore_row_tie rfl ⟨rfl, rfl⟩ (by kernel_rfl) rfl plain (by kernel_rfl)
#print axioms proved

end Go.Proofs.YtoegohofmhijgaaDoor.headerBefore
