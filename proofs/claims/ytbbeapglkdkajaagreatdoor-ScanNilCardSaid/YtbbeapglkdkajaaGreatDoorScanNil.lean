/- For every number the law ScanNil returns true: a nil view has no segments; a dead one tells so. The package variable header.widths starts as the program's text lays it (the card ties it). No other condition. -/
import Derived.Test.YtbbeapglkdkajaaGreatDoorCards
import Derived.Test.YtbbeapglkdkajaaGreatDoorTie
import Derived.Test.YtbbeapglkdkajaaGreatDoorScN
import Derived.Test.YtbbeapglkdkajaaGreatDoorOpenBytes
import Derived.WalkKit
import Derived.ProofKit
import Derived.OpenShut
import Derived.ChangeOld
import Derived.Deep.DeepHandedRow
import Derived.Lib.LaidTab
namespace Go.Proofs.YtbbeapglkdkajaaGreatDoor.scanNil
open Go.ChangeShapes Go.WideShapes Go.ChangeAt Go.RowKit Go.Sort
open Go.Proofs.YtbbeapglkdkajaaGreatDoor.M Go.Proofs.YtbbeapglkdkajaaGreatDoor.Z
open Go.Proofs.YtbbeapglkdkajaaGreatDoor.W Go.Proofs.YtbbeapglkdkajaaGreatDoor.D
set_option linter.unusedVariables false

set_option maxRecDepth 100000 in
set_option maxHeartbeats 4000000 in
theorem walk (n : Int) (w : World) (hT : Wide w) (_ : (Lit.int .i64 n).wf = true) :
    Calls Tryz.prog 7 #[.int .i64 n] w fun e w' => e = .returned (.bool true) ∧ Below w.heap.size w w' := by
  have hth := Lib.hid (fun W (hb : Below w.heap.size w W) => three15_any W (hT.below hb))
  have hmin := fun W => run_min_int2 (P := Tryz.prog) (w := W) #[3, 3] 3 .i64 .i64 n 9
  obtain ⟨N, hN⟩ : ∃ N, Hid ((if (9 : Int) < n then 9 else n) = N) := ⟨_, Lib.hid rfl⟩
  have hN6 : N ≤ 6 ↔ n ≤ 6 := by rw [← hN.out]; split <;> omega
  rw [hN.out] at hmin
  replace hT := Lib.hid hT
  go_enter Tryz.func7, Tryz.ntmps7
  go_wp2_with fail
  refine (sall_nil n _).mono ?_
  rintro _ w1 ⟨rfl, rfl⟩
  go_wp2_with fail
  refine (fresh15_any _).mono ?_
  rintro _ w1 ⟨vb, d, g, rfl, hv1⟩
  have hfu := Lib.hid (sv_fuseF 0 hv1.view)
  clear hv1
  go_wp2_with fail
  refine hfu.out.mono ?_
  rintro _ w2 ⟨rfl, ⟨v, k1, k2, k3⟩, _⟩
  have hfl := Lib.hid (flush_dead k1 (.inr rfl))
  have k23 := Lib.hid (And.intro k2 k3)
  clear hfu k1 k2 k3
  go_wp2_with fail
  refine hfl.out.mono ?_
  rintro _ w3 ⟨rfl, ht⟩
  have hs3 := SV.turn k23.out.1 k23.out.2 ht
  obtain ⟨v3, m1, m2, m3⟩ := hs3
  have hal := Lib.hid (all_dead 96 m1 rfl (by decide) (by decide))
  replace m1 := Lib.hid m1
  have m23 := Lib.hid (And.intro m2 m3)
  clear hfl k23 ht m2 m3
  go_wp2_with fail
  refine hal.out.mono ?_
  rintro _ w4 ⟨rfl, hb4⟩
  have hB4 := Lib.hid (grew m23.out.2 hb4)
  have n1 := Lib.hid (m1.out.below hb4)
  clear hal hb4 m1
  go_wp2_with fail
  refine (fresh15_any _).mono ?_
  rintro _ w5 ⟨ub, d2, g2, rfl, hu5⟩
  have hfr := Lib.hid (all_fresh N hu5 (hT.out.below hB4.out))
  clear hu5
  go_wp2_with fail
  refine hfr.out.mono ?_
  rintro _ w6 ⟨uA, uc, rfl, hu6⟩
  have hB6 := Lib.hid (grew hB4.out hu6.since)
  have n6 := n1.out.below hu6.since
  have hcl := Lib.hid (clean_dead n6)
  have m2 := Lib.hid m23.out.1
  clear hfr n6 n1 hu6 hB4 m23
  by_cases h6 : n ≤ 6
  · rw [if_pos (hN6.2 h6)]
    have h6' : ¬ 6 < n := by omega
    go_wp2_with fail
    refine (sclean_nil _ _ _).mono ?_
    rintro _ w7 ⟨rfl, rfl⟩
    go_wp2_with fail
    refine hcl.out.mono ?_
    rintro _ w7 ⟨rfl, v', r1, r2, r3⟩
    have hB7 := Lib.hid (hB6.out.trans (r3.below hB6.out.size m2.out))
    clear r1 r2 r3 hcl hB6 m2
    go_wp2_with fail
    refine (chain_none n 0 n _).mono ?_
    rintro _ w8 ⟨rfl, hb8⟩
    have hB8 := Lib.hid (grew hB7.out hb8)
    clear hB7 hb8
    go_wp2_with fail
    refine (hth.out _ hB8.out).mono ?_
    rintro _ w9 ⟨rfl, hb9⟩
    have hB9 := Lib.hid (grew hB8.out hb9)
    clear hB8 hb9
    go_wp2_with fail
    go_ret
    exact ⟨rfl, hB9.out⟩
  · rw [if_neg (fun e => h6 (hN6.1 e))]
    have h6' : 6 < n := by omega
    go_wp2_with fail
    refine (sclean_nil _ _ _).mono ?_
    rintro _ w7 ⟨rfl, rfl⟩
    go_wp2_with fail
    refine hcl.out.mono ?_
    rintro _ w7 ⟨rfl, v', r1, r2, r3⟩
    have hB7 := Lib.hid (hB6.out.trans (r3.below hB6.out.size m2.out))
    clear r1 r2 r3 hcl hB6 m2
    go_wp2_with fail
    refine (chain_none n 0 n _).mono ?_
    rintro _ w8 ⟨rfl, hb8⟩
    have hB8 := Lib.hid (grew hB7.out hb8)
    clear hB7 hb8
    go_wp2_with fail
    refine (hth.out _ hB8.out).mono ?_
    rintro _ w9 ⟨rfl, hb9⟩
    have hB9 := Lib.hid (grew hB8.out hb9)
    clear hB8 hb9
    go_wp2_with fail
    go_ret
    exact ⟨rfl, hB9.out⟩

theorem own : ownKnob Tryz.prog.godebug = none := by kernel_rfl
theorem laidOut : laidOutB Tryz.prog = true := by kernel_rfl
theorem gW : Tryz.prog.globalNamed "weighlock/header.widths" = some 0 := by kernel_rfl
theorem gWType : (Tryz.prog.globals[0]?).map (·.type) = some 202 := by kernel_rfl
theorem cellsW4 : Tryz.prog.cellsOf 202 = 4 := by kernel_rfl
theorem cellsW1 : Tryz.prog.cellsOf 3 = 1 := by kernel_rfl
/-- What the row's list gives: the table's numbers. -/
theorem table {W : World} (h : laidMetH Tryz.prog Rows.scanNilRow.laid W) : Lib.TabIs Tryz.prog W "weighlock/header.widths" .i64 [2, 4, 4, 8] :=
  Lib.tabIs_of_head (rest := []) gW gWType Tryz.underlying202 Tryz.underlying3 cellsW1 cellsW4 h

set_option maxRecDepth 100000 in
theorem contract (H : Type) (enc : TypeId × Value → H) (W : World) (base : Nat) (args : Array Value) (ds gs : List (DataW H)) (before : List MemPlace)
    (hval : ∀ (j : Nat) t v, Tryz.f7.params[j]? = some t → args[j]? = some v → Value.okWide Tryz.prog W .any base t v)
    (hW : DataW.Whole enc Tryz.prog Tryz.f7.params.toList Rows.scanNilSpec.vars false W args.toList ds gs before) (hL : laidMetH Tryz.prog Rows.scanNilRow.laid W) :
    Calls Tryz.prog 7 args W fun e W' => ∃ v, e = .returned v ∧ Rows.scanNilSpec.post enc Tryz.prog Tryz.f7 false true false false W args v W' := by
  have hTb : Wide W := fun i hi => by
    match i, hi with
    | 0, _ => exact (table hL).cell gW 0 (by decide)
    | 1, _ => exact (table hL).cell gW 1 (by decide)
    | 2, _ => exact (table hL).cell gW 2 (by decide)
    | 3, _ => exact (table hL).cell gW 3 (by decide)
  have hW' := hW
  obtain ⟨p, q, hA0, hV, rfl, hfz, hnd⟩ := hW
  have hA : DataW.TrodAll enc Tryz.prog W 0 (fun _ => true) true Tryz.f7.params.toList args.toList ds p := hA0
  rw [Tryz.params7] at hA hval
  obtain ⟨v0, vs0, d0, ds0, p0, q0, hargs, rfl, rfl, h0, r0⟩ := trodAll_cons hA
  obtain ⟨rfl, rfl, rfl⟩ := trodAll_nil r0
  obtain rfl : args = #[v0] := by cases args; simp_all
  obtain ⟨rfl, rfl⟩ := trodVars_none hV
  obtain ⟨a0, rfl, rfl, rfl, w0⟩ := open_int Tryz.underlying3 (hval 0 3 v0 rfl rfl) h0
  clear hA0
  refine (walk a0 W hTb w0).mono fun e W' ⟨he, bel⟩ => ?_
  subst he
  exact ⟨_, rfl, _, _, _, [], [], [], hW', trodAll_mk1 (shut_bool Tryz.underlying4 _), (trodAll_cons_mk (shut_int Tryz.underlying3 w0) trodAll_mk0), rfl, bel.frame _, fun h => by cases h⟩

/-- A world for the witness: the settled one, the table as its initialiser lays it. -/
noncomputable def laidWorld (os : Os) : World :=
  { World.holding Tryz.prog os ⟨#[], #[], []⟩ with heap := (World.holding Tryz.prog os ⟨#[], #[], []⟩).heap.modify 0 fun
      | .cells _ t frozen => .cells #[.int .i64 2, .int .i64 4, .int .i64 4, .int .i64 8] t frozen
      | o => o }
theorem laid_met (os : Os) : laidMet Tryz.prog Rows.scanNilRow.laid ((laidWorld os).forCall (fun _ _ => 0) ⟨#[], #[.int .i64 0], []⟩).memory :=
  laidMet_of_run' 8 (by kernel_rfl) (by kernel_rfl)
theorem reads (os : Os) {H : Type} (enc : TypeId × Value → H) : ∃ places, DataW.whole enc Tryz.prog ((laidWorld os).forCall (fun _ _ => 0) ⟨#[], #[.int .i64 0], []⟩).memory Tryz.f7.params.toList Rows.scanNilSpec.vars false (#[.int .i64 0] : Array Value).toList 8 = some ([.lit (.int .i64 0)], [], places) :=
  ⟨[], by kernel_rfl⟩
set_option maxRecDepth 100000 in
theorem lifted (os : Os) (started : os.Started) (H : Type) (enc : TypeId × Value → H) (F : Stop.Interp) :
    ReturnsInHanded {} Tryz.checked os 7 .any ((OpenSpec.ofChange Rows.scanNilSpec).preRow enc Tryz.prog Tryz.f7 Rows.scanNilRow.domain false Rows.scanNilRow.laid) (((OpenSpec.ofChange Rows.scanNilSpec).at F).post enc Tryz.prog Tryz.f7 false true false false) := by
  obtain ⟨places, hx⟩ := reads os enc
  refine returnsInHanded_of_row (C := Tryz.checked) (s := OpenSpec.ofChange Rows.scanNilSpec) own started (by kernel_rfl) Tryz.func7
    (witness_row_at (enc := enc) (C := Tryz.checked) false (laidWorld os) #[.int .i64 0] rfl (by kernel_rfl) (by kernel_rfl) (by kernel_rfl)
      (OpenSpec.preRow_of_cond 8 hx (by kernel_rfl) (fun k hk => by cases hk) (by kernel_rfl) (laid_met os))) ?_
  intro W base args ds gs before hval hW _ _ _ hL _ _
  exact contract H enc W base args ds gs before hval hW hL
theorem over : Rows.scanNilRow.holds Tryz.pinned (OpenSpec.ofChange Rows.scanNilSpec) :=
  OpenClaim.holds_of_cond 7 Tryz.f7 rfl rfl rfl rfl rfl rfl rfl ⟨rfl, rfl, rfl, rfl, rfl⟩ rfl rfl rfl rfl rfl (by kernel_rfl) Tryz.func7 (by kernel_rfl)
    (of_decide_eq_true (by kernel_rfl)) (by unfold Func.isWrapper; first | (rw [if_pos (by decide +kernel)]; kernel_rfl) | (rw [if_neg (by decide +kernel)]; exact ⟨rfl, rfl⟩))
    (fun os started H enc _ F => by rw [OpenClaim.pre_eq_preRow]; exact lifted os started H enc F)
theorem allPlain : (Tryz.f7.params.toList.all fun u => !(Tryz.prog.wantsStandIn u)) = true := by kernel_rfl
/-- No parameter wants a stand-in; the program's own looks are off. -/
theorem plain (f : FuncId) (fn : Func) (hf : Tryz.pinned.checked.prog.funcNamed "weighlock/weighlocklaw15.ScanNil" = some f) (hfn : Tryz.pinned.checked.prog.funcs[f]? = some fn) :
    false = Tryz.pinned.checked.prog.looks [] ∧ ∀ (j : Nat) t, fn.params[j]? = some t → Tryz.pinned.checked.prog.wantsStandIn t = false := by
  obtain rfl : f = 7 := Option.some.inj ((show Tryz.prog.funcNamed "weighlock/weighlocklaw15.ScanNil" = some 7 by kernel_rfl).symm.trans hf) |>.symm
  obtain rfl : fn = Tryz.f7 := (Option.some.inj (Tryz.func7.symm.trans hfn)).symm
  refine ⟨by kernel_rfl, fun j t ht => ?_⟩
  have h := List.all_eq_true.1 allPlain t (Array.mem_toList_iff.2 (Array.mem_of_getElem? ht))
  have h2 : Tryz.prog.wantsStandIn t = false := by simpa using h
  exact h2

/-- The statement: the tied card. -/
theorem proved : Rows.ScanNilCardSaid :=
  Claim7.holds_tied_plain_at .later [] _ _ _ _ over (fun _ h => by cases h) (by kernel_rfl) (fun _ h => by cases h) scanNil_row_tie rfl ⟨rfl, rfl⟩ (by kernel_rfl) rfl plain (by kernel_rfl)
#print axioms proved

end Go.Proofs.YtbbeapglkdkajaaGreatDoor.scanNil
