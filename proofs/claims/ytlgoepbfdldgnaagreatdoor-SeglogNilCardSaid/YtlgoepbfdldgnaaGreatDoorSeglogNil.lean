/- For every two numbers and every frame the law SeglogNil returns true: a nil log has no frames. The package variable header.widths starts as the program's text lays it (the card ties it). No other condition. -/
import Derived.Test.YtlgoepbfdldgnaaGreatDoorCards
import Derived.Test.YtlgoepbfdldgnaaGreatDoorTie
import Derived.Test.YtlgoepbfdldgnaaGreatDoorEig
import Derived.Test.YtlgoepbfdldgnaaGreatDoorLgN
import Derived.Test.YtlgoepbfdldgnaaGreatDoorOpenBytes
import Derived.WalkKit
import Derived.ProofKit
import Derived.OpenShut
import Derived.ChangeOld
import Derived.Deep.DeepHandedRow
import Derived.Lib.LaidTab
namespace Go.Proofs.YtlgoepbfdldgnaaGreatDoor.seglogNil
open Go.ChangeShapes Go.WideShapes Go.ChangeAt Go.RowKit Go.Sort
open Go.Proofs.YtlgoepbfdldgnaaGreatDoor.M Go.Proofs.YtlgoepbfdldgnaaGreatDoor.Z
open Go.Proofs.YtlgoepbfdldgnaaGreatDoor.W Go.Proofs.YtlgoepbfdldgnaaGreatDoor.D
set_option linter.unusedVariables false

set_option maxRecDepth 100000 in
set_option maxHeartbeats 4000000 in
theorem walk (n most k : Int) (p : ByteArray) (w : World) (hT : Wide w) (_ : (Lit.int .i64 n).wf = true) (_ : (Lit.int .i64 most).wf = true) (_ : (Lit.int .i64 k).wf = true) (_ : p.size ≤ maxLen) :
    Calls Tryz.prog 6 #[.int .i64 n, .int .i64 most, .agg #[.int .i64 k, .string p]] w fun e w' => e = .returned (.bool true) ∧ Below w.heap.size w w' := by
  have hei := Lib.hid (fun W (hb : Below w.heap.size w W) => eight_any W (hT.below hb))
  have hB1 := allocBelow w (.cells #[.int .i64 k, .string p] 43)
  have hX := Whole.new w 43 [.int .i64 k, .string p]
  have x0 : (w.alloc (.cells #[.int .i64 k, .string p] 43)).cell? ⟨w.heap.size, 0, none⟩ = some (.int .i64 k) := hX.cell 0
  have x1 : (w.alloc (.cells #[.int .i64 k, .string p] 43)).cell? ⟨w.heap.size, 1, none⟩ = some (.string p) := hX.cell 1
  obtain ⟨W1, hW1⟩ : ∃ W1, Hid (W1 = w.alloc (.cells #[.int .i64 k, .string p] 43)) := ⟨_, Lib.hid rfl⟩
  rw [← hW1.out] at hB1 hX x0 x1
  obtain ⟨fb, hfb⟩ : ∃ fb, Hid (w.heap.size = fb) := ⟨_, Lib.hid rfl⟩
  rw [hfb.out] at hX x0 x1
  clear hT
  by_cases hp : 900 < p.size
  · have hpI : (900 : Int) < (p.size : Int) := by omega
    clear hX
    go_enter Tryz.func6, Tryz.ntmps6
    go_upto_region 1 with fail
    rw [← show W1 = _ from hW1.out, hfb.out]
    clear hW1
    go_wp2_with fail
    refine (hei.out _ hB1).mono ?_
    rintro _ w2 ⟨rfl, hb2⟩
    go_wp2_with fail
    go_ret
    exact ⟨rfl, grew hB1 hb2⟩
  · have hpI : ¬ (900 : Int) < (p.size : Int) := by omega
    have hsf := fun W => same_fr 0 ⟨#[]⟩ (by decide) (by decide) W
    have h1 := Lib.hid (lappend_nil k p)
    have h2 := Lib.hid (lread_nil n)
    have h3 := Lib.hid (lnew_nil n 0 n)
    have h4 := Lib.hid ladopt_nil
    have h5 := Lib.hid (ldrop_nil n)
    have h6 := Lib.hid lfree_nil
    have h7 := Lib.hid (lfrom_nil n most)
    have h8 := Lib.hid (lfits_nil k p)
    have h9 := Lib.hid lbase_nil
    have h10 := Lib.hid lnext_nil
    have h11 := Lib.hid lid_nil
    have h12 := Lib.hid lgen_nil
    have h13 := Lib.hid lsegs_nil
    clear hp
    go_enter Tryz.func6, Tryz.ntmps6
    go_upto_region 1 with fail
    rw [← show W1 = _ from hW1.out, hfb.out]
    clear hW1
    go_wp2_with fail
    refine (h1.out _).mono ?_
    rintro _ w2 ⟨rfl, hb2⟩
    have hX2 := Lib.hid (hX.below hb2 hX.lt)
    have hB2 := Lib.hid (grew hB1 hb2)
    clear x0 x1 hX hB1 hb2
    go_wp2_with fail
    refine (h2.out _).mono ?_
    rintro _ w3 ⟨rfl, hb3⟩
    have hX3 := (hX2.out.below hb3 hX2.out.lt).alloc (.cells #[.int .i64 0, .string ⟨#[]⟩] 43)
    have hY3 := Whole.new w3 43 [.int .i64 0, .string ⟨#[]⟩]
    have hB3 := Lib.hid (grewAlloc (grew hB2.out hb3) (.cells #[.int .i64 0, .string ⟨#[]⟩] 43))
    obtain ⟨W4, hW4⟩ : ∃ W4, Hid (W4 = w3.alloc (.cells #[.int .i64 0, .string ⟨#[]⟩] 43)) := ⟨_, Lib.hid rfl⟩
    rw [← hW4.out] at hX3 hY3 hB3
    have y0 : W4.cell? ⟨w3.heap.size, 0, none⟩ = some (.int .i64 0) := hY3.cell 0
    have y1 : W4.cell? ⟨w3.heap.size, 1, none⟩ = some (.string ⟨#[]⟩) := hY3.cell 1
    have x0 : W4.cell? ⟨fb, 0, none⟩ = some (.int .i64 k) := hX3.cell 0
    have x1 : W4.cell? ⟨fb, 1, none⟩ = some (.string p) := hX3.cell 1
    clear hX2 hB2 hb3
    go_upto_region 6 with fail
    rw [← show W4 = _ from hW4.out]
    clear hW4
    go_wp2_with fail
    refine (h3.out _).mono ?_
    rintro _ w5 ⟨rfl, rfl⟩
    go_wp2_with fail
    refine (h4.out _).mono ?_
    rintro _ w6 ⟨rfl, rfl⟩
    go_wp2_with fail
    refine (h5.out _).mono ?_
    rintro _ w6 ⟨rfl, rfl⟩
    go_wp2_with fail
    refine (h6.out _).mono ?_
    rintro _ w6 ⟨rfl, rfl⟩
    go_wp2_with fail
    refine (h7.out _).mono ?_
    rintro _ w6 ⟨rfl, rfl⟩
    go_wp2_with fail
    refine (h8.out _).mono ?_
    rintro _ w7 ⟨rfl, hb7⟩
    have hB7 := Lib.hid (grew hB3.out hb7)
    clear x0 x1 y0 y1 hX3 hY3 hb7
    go_wp2_with fail
    refine (h9.out _).mono ?_
    rintro _ w8 ⟨rfl, rfl⟩
    go_wp2_with fail
    refine (h10.out _).mono ?_
    rintro _ w8 ⟨rfl, rfl⟩
    go_wp2_with fail
    refine (h11.out _).mono ?_
    rintro _ w8 ⟨rfl, rfl⟩
    go_wp2_with fail
    refine (h12.out _).mono ?_
    rintro _ w8 ⟨rfl, rfl⟩
    go_wp2_with fail
    refine (h13.out _).mono ?_
    rintro _ w8 ⟨rfl, rfl⟩
    go_wp2_with fail
    refine (hei.out _ hB7.out).mono ?_
    rintro _ w9 ⟨rfl, hb9⟩
    go_wp2_with fail
    go_ret
    exact ⟨rfl, grew hB7.out hb9⟩

theorem own : ownKnob Tryz.prog.godebug = none := by kernel_rfl
theorem laidOut : laidOutB Tryz.prog = true := by kernel_rfl
theorem gW : Tryz.prog.globalNamed "weighlock/header.widths" = some 0 := by kernel_rfl
theorem gWType : (Tryz.prog.globals[0]?).map (·.type) = some 157 := by kernel_rfl
theorem cellsW4 : Tryz.prog.cellsOf 157 = 4 := by kernel_rfl
theorem cellsW1 : Tryz.prog.cellsOf 3 = 1 := by kernel_rfl
/-- What the row's list gives: the table's numbers. -/
theorem table {W : World} (h : laidMetH Tryz.prog Rows.seglogNilRow.laid W) : Lib.TabIs Tryz.prog W "weighlock/header.widths" .i64 [2, 4, 4, 8] :=
  Lib.tabIs_of_head (rest := []) gW gWType Tryz.underlying157 Tryz.underlying3 cellsW1 cellsW4 h

set_option maxRecDepth 100000 in
theorem contract (H : Type) (enc : TypeId × Value → H) (W : World) (base : Nat) (args : Array Value) (ds gs : List (DataW H)) (before : List MemPlace)
    (hval : ∀ (j : Nat) t v, Tryz.f6.params[j]? = some t → args[j]? = some v → Value.okWide Tryz.prog W .any base t v)
    (hW : DataW.Whole enc Tryz.prog Tryz.f6.params.toList Rows.seglogNilSpec.vars false W args.toList ds gs before) (hL : laidMetH Tryz.prog Rows.seglogNilRow.laid W) :
    Calls Tryz.prog 6 args W fun e W' => ∃ v, e = .returned v ∧ Rows.seglogNilSpec.post enc Tryz.prog Tryz.f6 false true false false W args v W' := by
  have hTb : Wide W := fun i hi => by
    match i, hi with
    | 0, _ => exact (table hL).cell gW 0 (by decide)
    | 1, _ => exact (table hL).cell gW 1 (by decide)
    | 2, _ => exact (table hL).cell gW 2 (by decide)
    | 3, _ => exact (table hL).cell gW 3 (by decide)
  have hW' := hW
  obtain ⟨p, q, hA0, hV, rfl, hfz, hnd⟩ := hW
  have hA : DataW.TrodAll enc Tryz.prog W 0 (fun _ => true) true Tryz.f6.params.toList args.toList ds p := hA0
  rw [Tryz.params6] at hA hval
  obtain ⟨v0, vs0, d0, ds0, p0, q0, hargs, rfl, rfl, h0, r0⟩ := trodAll_cons hA
  obtain ⟨v1, vs1, d1, ds1, p1, q1, rfl, rfl, rfl, h1, r1⟩ := trodAll_cons r0
  obtain ⟨v2, vs2, d2, ds2, p2, q2, rfl, rfl, rfl, h2, r2⟩ := trodAll_cons r1
  obtain ⟨rfl, rfl, rfl⟩ := trodAll_nil r2
  obtain rfl : args = #[v0, v1, v2] := by cases args; simp_all
  obtain ⟨rfl, rfl⟩ := trodVars_none hV
  obtain ⟨a0, rfl, rfl, rfl, w0⟩ := open_int Tryz.underlying3 (hval 0 3 v0 rfl rfl) h0
  obtain ⟨a1, rfl, rfl, rfl, w1⟩ := open_int Tryz.underlying3 (hval 1 3 v1 rfl rfl) h1
  have k2 := h2
  have lt2 : ∀ x ∈ p2, x.block < W.heap.size := by obtain ⟨m, hm⟩ := k2; exact DataW.trod_lt m _ _ _ hm
  obtain ⟨sa2, sb2, rfl, wa2, wb2⟩ := M.open_frame (hval 2 43 v2 rfl rfl) h2
  clear hA0
  refine (walk a0 a1 sa2 sb2 W hTb w0 w1 wa2 wb2).mono fun e W' ⟨he, bel⟩ => ?_
  subst he
  exact ⟨_, rfl, _, _, _, [], _, [], hW', trodAll_mk1 (shut_bool Tryz.underlying4 _), (trodAll_cons_mk (shut_int Tryz.underlying3 w0) (trodAll_cons_mk (shut_int Tryz.underlying3 w1) (trodAll_cons_mk (Below.trod laidOut (by kernel_rfl) (of_decide_eq_true (by kernel_rfl)) k2 bel lt2) trodAll_mk0))), rfl, bel.frame _, fun h => by cases h⟩

/-- A world for the witness: the settled one, the table as its initialiser lays it. -/
noncomputable def laidWorld (os : Os) : World :=
  { World.holding Tryz.prog os ⟨#[], #[], []⟩ with heap := (World.holding Tryz.prog os ⟨#[], #[], []⟩).heap.modify 0 fun
      | .cells _ t frozen => .cells #[.int .i64 2, .int .i64 4, .int .i64 4, .int .i64 8] t frozen
      | o => o }
theorem laid_met (os : Os) : laidMet Tryz.prog Rows.seglogNilRow.laid ((laidWorld os).forCall (fun _ _ => 0) ⟨#[], #[.int .i64 0, .int .i64 0, .agg #[.int .i64 0, .string ByteArray.empty]], []⟩).memory :=
  laidMet_of_run' 8 (by kernel_rfl) (by kernel_rfl)
theorem reads (os : Os) {H : Type} (enc : TypeId × Value → H) : ∃ places, DataW.whole enc Tryz.prog ((laidWorld os).forCall (fun _ _ => 0) ⟨#[], #[.int .i64 0, .int .i64 0, .agg #[.int .i64 0, .string ByteArray.empty]], []⟩).memory Tryz.f6.params.toList Rows.seglogNilSpec.vars false (#[.int .i64 0, .int .i64 0, .agg #[.int .i64 0, .string ByteArray.empty]] : Array Value).toList 8 = some ([.lit (.int .i64 0), .lit (.int .i64 0), .agg [.lit (.int .i64 0), .lit (.string [])]], [], places) :=
  ⟨[], by kernel_rfl⟩
set_option maxRecDepth 100000 in
theorem lifted (os : Os) (started : os.Started) (H : Type) (enc : TypeId × Value → H) (F : Stop.Interp) :
    ReturnsInHanded {} Tryz.checked os 6 .any ((OpenSpec.ofChange Rows.seglogNilSpec).preRow enc Tryz.prog Tryz.f6 Rows.seglogNilRow.domain false Rows.seglogNilRow.laid) (((OpenSpec.ofChange Rows.seglogNilSpec).at F).post enc Tryz.prog Tryz.f6 false true false false) := by
  obtain ⟨places, hx⟩ := reads os enc
  refine returnsInHanded_of_row (C := Tryz.checked) (s := OpenSpec.ofChange Rows.seglogNilSpec) own started (by kernel_rfl) Tryz.func6
    (witness_row_at (enc := enc) (C := Tryz.checked) false (laidWorld os) #[.int .i64 0, .int .i64 0, .agg #[.int .i64 0, .string ByteArray.empty]] rfl (by kernel_rfl) (by kernel_rfl) (by kernel_rfl)
      (OpenSpec.preRow_of_cond 8 hx (by kernel_rfl) (fun k hk => by cases hk) (by kernel_rfl) (laid_met os))) ?_
  intro W base args ds gs before hval hW _ _ _ hL _ _
  exact contract H enc W base args ds gs before hval hW hL
theorem over : Rows.seglogNilRow.holds Tryz.pinned (OpenSpec.ofChange Rows.seglogNilSpec) :=
  OpenClaim.holds_of_cond 6 Tryz.f6 rfl rfl rfl rfl rfl rfl rfl ⟨rfl, rfl, rfl, rfl, rfl⟩ rfl rfl rfl rfl rfl (by kernel_rfl) Tryz.func6 (by kernel_rfl)
    (of_decide_eq_true (by kernel_rfl)) (by unfold Func.isWrapper; first | (rw [if_pos (by decide +kernel)]; kernel_rfl) | (rw [if_neg (by decide +kernel)]; exact ⟨rfl, rfl⟩))
    (fun os started H enc _ F => by rw [OpenClaim.pre_eq_preRow]; exact lifted os started H enc F)
theorem allPlain : (Tryz.f6.params.toList.all fun u => !(Tryz.prog.wantsStandIn u)) = true := by kernel_rfl
/-- No parameter wants a stand-in; the program's own looks are off. -/
theorem plain (f : FuncId) (fn : Func) (hf : Tryz.pinned.checked.prog.funcNamed "weighlock/weighlocklaw14.SeglogNil" = some f) (hfn : Tryz.pinned.checked.prog.funcs[f]? = some fn) :
    false = Tryz.pinned.checked.prog.looks [] ∧ ∀ (j : Nat) t, fn.params[j]? = some t → Tryz.pinned.checked.prog.wantsStandIn t = false := by
  obtain rfl : f = 6 := Option.some.inj ((show Tryz.prog.funcNamed "weighlock/weighlocklaw14.SeglogNil" = some 6 by kernel_rfl).symm.trans hf) |>.symm
  obtain rfl : fn = Tryz.f6 := (Option.some.inj (Tryz.func6.symm.trans hfn)).symm
  refine ⟨by kernel_rfl, fun j t ht => ?_⟩
  have h := List.all_eq_true.1 allPlain t (Array.mem_toList_iff.2 (Array.mem_of_getElem? ht))
  have h2 : Tryz.prog.wantsStandIn t = false := by simpa using h
  exact h2

/-- The statement: the tied card. -/
theorem proved : Rows.SeglogNilCardSaid :=
  Claim7.holds_tied_plain_at .later [] _ _ _ _ over (fun _ h => by cases h) (by kernel_rfl) (fun _ h => by cases h) seglogNil_row_tie rfl ⟨rfl, rfl⟩ (by kernel_rfl) rfl plain (by kernel_rfl)
#print axioms proved

end Go.Proofs.YtlgoepbfdldgnaaGreatDoor.seglogNil
