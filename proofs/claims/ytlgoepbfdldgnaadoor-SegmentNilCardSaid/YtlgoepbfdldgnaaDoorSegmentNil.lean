/- For every int, every header and every frame the law SegmentNil returns true: a nil segment has no frames, a nil view no segments. The package variable header.widths starts as the program's text lays it (the card ties it). No other condition. -/
import Derived.Test.YtlgoepbfdldgnaaDoorCards
import Derived.Test.YtlgoepbfdldgnaaDoorTie
import Derived.Test.YtlgoepbfdldgnaaDoorSgL
import Derived.Test.YtlgoepbfdldgnaaDoorOpenBytes
import Derived.WalkKit
import Derived.ProofKit
import Derived.OpenShut
import Derived.ChangeOld
import Derived.Deep.DeepHandedRow
import Derived.Lib.LaidTab
namespace Go.Proofs.YtlgoepbfdldgnaaDoor.segmentNil
open Go.ChangeShapes Go.WideShapes Go.ChangeAt Go.RowKit
open Go.Proofs.YtlgoepbfdldgnaaDoor.M (grew grewAlloc)
open Go.Proofs.YtlgoepbfdldgnaaDoor.W Go.Proofs.YtlgoepbfdldgnaaDoor.D
set_option linter.unusedVariables false

theorem same_zero (W : World) : (Op.equalIn 10000 24 (.agg #[.int .i64 0, .int .u32 0, .int .u32 0, .int .i64 0]) (.agg #[.int .i64 0, .int .u32 0, .int .u32 0, .int .i64 0])).run Tryd.prog W = .ok true W := by kernel_rfl
set_option maxRecDepth 100000 in
set_option maxHeartbeats 4000000 in
theorem walk (n a g s b k : Int) (p : ByteArray) (w : World) (hT : Wide w) (_ : (Lit.int .i64 n).wf = true) (_ : (Lit.int .i64 a).wf = true) (_ : (Lit.int .u32 g).wf = true) (_ : (Lit.int .u32 s).wf = true) (_ : (Lit.int .i64 b).wf = true) (_ : (Lit.int .i64 k).wf = true) (_ : p.size ≤ maxLen) :
    Calls Tryd.prog 7 #[.int .i64 n, .agg #[.int .i64 a, .int .u32 g, .int .u32 s, .int .i64 b], .agg #[.int .i64 k, .string p]] w fun e w' => e = .returned (.bool true) ∧ Below w.heap.size w w' := by
  have hA := (Whole.new w 24 (hdr a g s b)).alloc (.cells #[.int .i64 k, .string p] 45)
  have hC := Whole.new (w.alloc (.cells (hdr a g s b).toArray 24)) 45 [.int .i64 k, .string p]
  rw [show (w.alloc (.cells (hdr a g s b).toArray 24)).heap.size = w.heap.size + 1 from by simp] at hC
  have hB := grewAlloc ((Below.refl w.heap.size w).alloc (Nat.le_refl _) (.cells (hdr a g s b).toArray 24)) (.cells #[.int .i64 k, .string p] 45)
  obtain ⟨W, hW⟩ : ∃ W, Hid (W = (w.alloc (.cells (hdr a g s b).toArray 24)).alloc (.cells #[.int .i64 k, .string p] 45)) := ⟨_, Lib.hid rfl⟩
  rw [show (w.alloc (.cells (hdr a g s b).toArray 24)).alloc (.cells [.int .i64 k, .string p].toArray 45) = W from hW.out.symm] at hC
  rw [← hW.out] at hA hB
  have hput := Lib.hid (fun W' (hb : Below w.heap.size w W') => put13_any W' (hT.below hb))
  have d1 : W.cell? ⟨w.heap.size + 1, 1, none⟩ = some (.string p) := hC.cell 1
  replace hA := Lib.hid hA
  replace hC := Lib.hid hC
  replace hB := Lib.hid hB
  have hsz := fun W => same_zero W
  clear hT
  by_cases hp : 900 < p.size
  · have hgt : (900 : Int) < (p.size : Int) := by omega
    go_enter Tryd.func7, Tryd.ntmps7
    go_upto_region 1 with fail
    rw [← show W = _ from hW.out]
    clear hW
    go_wp2_with fail
    refine (hput.out _ hB.out).mono ?_
    rintro _ w1 ⟨rfl, hb1⟩
    go_wp2_with fail
    go_ret
    exact ⟨rfl, grew hB.out hb1⟩
  · have hgt : (p.size : Int) ≤ 900 := by omega
    have a0 := hA.out.cell 0
    have a1 := hA.out.cell 1
    have a2 := hA.out.cell 2
    have a3 := hA.out.cell 3
    simp only [List.getElem?_cons_zero, List.getElem?_cons_succ] at a0 a1 a2 a3
    go_enter Tryd.func7, Tryd.ntmps7
    go_upto_region 1 with fail
    rw [← show W = _ from hW.out]
    clear hW
    go_wp2_with fail
    refine (create_nil n a g s b _).mono ?_
    rintro _ w1 ⟨rfl, hb1⟩
    have hC1 := Lib.hid (hC.out.below hb1 hC.out.lt)
    have hB1 := Lib.hid (grew hB.out hb1)
    clear a0 a1 a2 a3 d1 hA hC hB hb1
    go_wp2_with fail
    refine (load_nil n _).mono ?_
    rintro _ w2 ⟨rfl, rfl⟩
    have d0 : w1.cell? ⟨w.heap.size + 1, 0, none⟩ = some (.int .i64 k) := hC1.out.cell 0
    have d1 : w1.cell? ⟨w.heap.size + 1, 1, none⟩ = some (.string p) := hC1.out.cell 1
    go_wp2_with fail
    refine (append_nil k p _).mono ?_
    rintro _ w2 ⟨rfl, hb2⟩
    have hB2 := Lib.hid (grew hB1.out hb2)
    clear d0 d1 hC1 hB1 hb2
    go_wp2_with fail
    refine (doSeal_nil _).mono ?_
    rintro _ w3 ⟨rfl, rfl⟩
    go_wp2_with fail
    refine (wipe_nil n _).mono ?_
    rintro _ w3 ⟨rfl, rfl⟩
    go_wp2_with fail
    refine (number_nil _).mono ?_
    rintro _ w3 ⟨rfl, rfl⟩
    go_wp2_with fail
    refine (header_nil _).mono ?_
    rintro _ w3 ⟨rfl, hb3⟩
    have hB3 := Lib.hid (grew hB2.out hb3)
    clear hB2 hb3
    go_wp2_with fail
    refine (frames_nil _).mono ?_
    rintro _ w4 ⟨rfl, rfl⟩
    go_wp2_with fail
    refine (len_nil _).mono ?_
    rintro _ w4 ⟨rfl, rfl⟩
    go_wp2_with fail
    refine (end_nil _).mono ?_
    rintro _ w4 ⟨rfl, rfl⟩
    go_wp2_with fail
    refine (sealed_nil _).mono ?_
    rintro _ w4 ⟨rfl, rfl⟩
    go_wp2_with fail
    refine (hput.out _ hB3.out).mono ?_
    rintro _ w5 ⟨rfl, hb5⟩
    go_wp2_with fail
    go_ret
    exact ⟨rfl, grew hB3.out hb5⟩

theorem own : ownKnob Tryd.prog.godebug = none := by kernel_rfl
theorem laidOut : laidOutB Tryd.prog = true := by kernel_rfl
theorem gW : Tryd.prog.globalNamed "weighlock/header.widths" = some 0 := by kernel_rfl
theorem gWType : (Tryd.prog.globals[0]?).map (·.type) = some 200 := by kernel_rfl
theorem cellsW4 : Tryd.prog.cellsOf 200 = 4 := by kernel_rfl
theorem cellsW1 : Tryd.prog.cellsOf 3 = 1 := by kernel_rfl
/-- What the row's list gives: the table's numbers. -/
theorem table {W : World} (h : laidMetH Tryd.prog Rows.segmentNilRow.laid W) : Lib.TabIs Tryd.prog W "weighlock/header.widths" .i64 [2, 4, 4, 8] :=
  Lib.tabIs_of_head (rest := []) gW gWType Tryd.underlying200 Tryd.underlying3 cellsW1 cellsW4 h

set_option maxRecDepth 100000 in
theorem contract (H : Type) (enc : TypeId × Value → H) (W : World) (base : Nat) (args : Array Value) (ds gs : List (DataW H)) (before : List MemPlace)
    (hval : ∀ (j : Nat) t v, Tryd.f7.params[j]? = some t → args[j]? = some v → Value.okWide Tryd.prog W .any base t v)
    (hW : DataW.Whole enc Tryd.prog Tryd.f7.params.toList Rows.segmentNilSpec.vars false W args.toList ds gs before) (hL : laidMetH Tryd.prog Rows.segmentNilRow.laid W) :
    Calls Tryd.prog 7 args W fun e W' => ∃ v, e = .returned v ∧ Rows.segmentNilSpec.post enc Tryd.prog Tryd.f7 false true false false W args v W' := by
  have hTb : Wide W := fun i hi => by
    match i, hi with
    | 0, _ => exact (table hL).cell gW 0 (by decide)
    | 1, _ => exact (table hL).cell gW 1 (by decide)
    | 2, _ => exact (table hL).cell gW 2 (by decide)
    | 3, _ => exact (table hL).cell gW 3 (by decide)
  have hW' := hW
  obtain ⟨p, q, hA0, hV, rfl, hfz, hnd⟩ := hW
  have hA : DataW.TrodAll enc Tryd.prog W 0 (fun _ => true) true Tryd.f7.params.toList args.toList ds p := hA0
  rw [Tryd.params7] at hA hval
  obtain ⟨v0, vs0, d0, ds0, p0, q0, hargs, rfl, rfl, h0, r0⟩ := trodAll_cons hA
  obtain ⟨v1, vs1, d1, ds1, p1, q1, rfl, rfl, rfl, h1, r1⟩ := trodAll_cons r0
  obtain ⟨v2, vs2, d2, ds2, p2, q2, rfl, rfl, rfl, h2, r2⟩ := trodAll_cons r1
  obtain ⟨rfl, rfl, rfl⟩ := trodAll_nil r2
  obtain rfl : args = #[v0, v1, v2] := by cases args; simp_all
  obtain ⟨rfl, rfl⟩ := trodVars_none hV
  obtain ⟨a0, rfl, rfl, rfl, w0⟩ := open_int Tryd.underlying3 (hval 0 3 v0 rfl rfl) h0
  have k1 := h1
  have lt1 : ∀ x ∈ p1, x.block < W.heap.size := by obtain ⟨m, hm⟩ := k1; exact DataW.trod_lt m _ _ _ hm
  obtain ⟨ha1, hg1, hs1, hb1, rfl, wha1, whg1, whs1, whb1⟩ := M.open_hd4 (hval 1 24 v1 rfl rfl) h1
  have k2 := h2
  have lt2 : ∀ x ∈ p2, x.block < W.heap.size := by obtain ⟨m, hm⟩ := k2; exact DataW.trod_lt m _ _ _ hm
  obtain ⟨sa2, sb2, rfl, wa2, wb2⟩ := M.open_frame (hval 2 45 v2 rfl rfl) h2
  clear hA0
  refine (walk a0 ha1 hg1 hs1 hb1 sa2 sb2 W hTb w0 wha1 whg1 whs1 whb1 wa2 wb2).mono fun e W' ⟨he, bel⟩ => ?_
  subst he
  exact ⟨_, rfl, _, _, _, [], _, [], hW', trodAll_mk1 (shut_bool Tryd.underlying4 _), (trodAll_cons_mk (shut_int Tryd.underlying3 w0) (trodAll_cons_mk (Below.trod laidOut (by kernel_rfl) (of_decide_eq_true (by kernel_rfl)) k1 bel lt1) (trodAll_cons_mk (Below.trod laidOut (by kernel_rfl) (of_decide_eq_true (by kernel_rfl)) k2 bel lt2) trodAll_mk0))), rfl, bel.frame _, fun h => by cases h⟩

/-- A world for the witness: the settled one, the table as its initialiser lays it. -/
noncomputable def laidWorld (os : Os) : World :=
  { World.holding Tryd.prog os ⟨#[], #[], []⟩ with heap := (World.holding Tryd.prog os ⟨#[], #[], []⟩).heap.modify 0 fun
      | .cells _ t frozen => .cells #[.int .i64 2, .int .i64 4, .int .i64 4, .int .i64 8] t frozen
      | o => o }
theorem laid_met (os : Os) : laidMet Tryd.prog Rows.segmentNilRow.laid ((laidWorld os).forCall (fun _ _ => 0) ⟨#[], #[.int .i64 0, .agg #[.int .i64 0, .int .u32 0, .int .u32 0, .int .i64 0], .agg #[.int .i64 0, .string ByteArray.empty]], []⟩).memory :=
  laidMet_of_run' 8 (by kernel_rfl) (by kernel_rfl)
theorem reads (os : Os) {H : Type} (enc : TypeId × Value → H) : ∃ places, DataW.whole enc Tryd.prog ((laidWorld os).forCall (fun _ _ => 0) ⟨#[], #[.int .i64 0, .agg #[.int .i64 0, .int .u32 0, .int .u32 0, .int .i64 0], .agg #[.int .i64 0, .string ByteArray.empty]], []⟩).memory Tryd.f7.params.toList Rows.segmentNilSpec.vars false (#[.int .i64 0, .agg #[.int .i64 0, .int .u32 0, .int .u32 0, .int .i64 0], .agg #[.int .i64 0, .string ByteArray.empty]] : Array Value).toList 8 = some ([.lit (.int .i64 0), .agg [.lit (.int .i64 0), .lit (.int .u32 0), .lit (.int .u32 0), .lit (.int .i64 0)], .agg [.lit (.int .i64 0), .lit (.string [])]], [], places) :=
  ⟨[], by kernel_rfl⟩
set_option maxRecDepth 100000 in
theorem lifted (os : Os) (started : os.Started) (H : Type) (enc : TypeId × Value → H) (F : Stop.Interp) :
    ReturnsInHanded {} Tryd.checked os 7 .any ((OpenSpec.ofChange Rows.segmentNilSpec).preRow enc Tryd.prog Tryd.f7 Rows.segmentNilRow.domain false Rows.segmentNilRow.laid) (((OpenSpec.ofChange Rows.segmentNilSpec).at F).post enc Tryd.prog Tryd.f7 false true false false) := by
  obtain ⟨places, hx⟩ := reads os enc
  refine returnsInHanded_of_row (C := Tryd.checked) (s := OpenSpec.ofChange Rows.segmentNilSpec) own started (by kernel_rfl) Tryd.func7
    (witness_row_at (enc := enc) (C := Tryd.checked) false (laidWorld os) #[.int .i64 0, .agg #[.int .i64 0, .int .u32 0, .int .u32 0, .int .i64 0], .agg #[.int .i64 0, .string ByteArray.empty]] rfl (by kernel_rfl) (by kernel_rfl) (by kernel_rfl)
      (OpenSpec.preRow_of_cond 8 hx (by kernel_rfl) (fun k hk => by cases hk) (by kernel_rfl) (laid_met os))) ?_
  intro W base args ds gs before hval hW _ _ _ hL _ _
  exact contract H enc W base args ds gs before hval hW hL
theorem over : Rows.segmentNilRow.holds Tryd.pinned (OpenSpec.ofChange Rows.segmentNilSpec) :=
  OpenClaim.holds_of_cond 7 Tryd.f7 rfl rfl rfl rfl rfl rfl rfl ⟨rfl, rfl, rfl, rfl, rfl⟩ rfl rfl rfl rfl rfl (by kernel_rfl) Tryd.func7 (by kernel_rfl)
    (of_decide_eq_true (by kernel_rfl)) (by unfold Func.isWrapper; first | (rw [if_pos (by decide +kernel)]; kernel_rfl) | (rw [if_neg (by decide +kernel)]; exact ⟨rfl, rfl⟩))
    (fun os started H enc _ F => by rw [OpenClaim.pre_eq_preRow]; exact lifted os started H enc F)
theorem allPlain : (Tryd.f7.params.toList.all fun u => !(Tryd.prog.wantsStandIn u)) = true := by kernel_rfl
/-- No parameter wants a stand-in; the program's own looks are off. -/
theorem plain (f : FuncId) (fn : Func) (hf : Tryd.pinned.checked.prog.funcNamed "weighlock/weighlocklaw13.SegmentNil" = some f) (hfn : Tryd.pinned.checked.prog.funcs[f]? = some fn) :
    false = Tryd.pinned.checked.prog.looks [] ∧ ∀ (j : Nat) t, fn.params[j]? = some t → Tryd.pinned.checked.prog.wantsStandIn t = false := by
  obtain rfl : f = 7 := Option.some.inj ((show Tryd.prog.funcNamed "weighlock/weighlocklaw13.SegmentNil" = some 7 by kernel_rfl).symm.trans hf) |>.symm
  obtain rfl : fn = Tryd.f7 := (Option.some.inj (Tryd.func7.symm.trans hfn)).symm
  refine ⟨by kernel_rfl, fun j t ht => ?_⟩
  have h := List.all_eq_true.1 allPlain t (Array.mem_toList_iff.2 (Array.mem_of_getElem? ht))
  have h2 : Tryd.prog.wantsStandIn t = false := by simpa using h
  exact h2

/-- The statement: the tied card. -/
theorem proved : Rows.SegmentNilCardSaid :=
  Claim7.holds_tied_plain_at .later [] _ _ _ _ over (fun _ h => by cases h) (by kernel_rfl) (fun _ h => by cases h) segmentNil_row_tie rfl ⟨rfl, rfl⟩ (by kernel_rfl) rfl plain (by kernel_rfl)
#print axioms proved

end Go.Proofs.YtlgoepbfdldgnaaDoor.segmentNil
