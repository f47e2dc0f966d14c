/- For every number and all frames the law JournalNil returns true: a nil journal has no entries. The package variable header.widths starts as the program's text lays it (the card ties it). No other condition. -/
import Derived.Test.YtgogackkeodciabGreatDoorCards
import Derived.Test.YtgogackkeodciabGreatDoorTie
import Derived.Test.YtgogackkeodciabGreatDoorJnF
import Derived.WalkKit
import Derived.ProofKit
import Derived.OpenShut
import Derived.ChangeOld
import Derived.Deep.DeepHandedRow
import Derived.Lib.LaidTab
namespace Go.Proofs.YtgogackkeodciabGreatDoor.journalNil
open Go.ChangeShapes Go.WideShapes Go.ChangeAt Go.RowKit Go.Sort
open Go.Proofs.YtgogackkeodciabGreatDoor.M Go.Proofs.YtgogackkeodciabGreatDoor.Z
open Go.Proofs.YtgogackkeodciabGreatDoor.W Go.Proofs.YtgogackkeodciabGreatDoor.D
set_option linter.unusedVariables false

set_option maxRecDepth 100000 in
set_option maxHeartbeats 4000000 in
theorem walk (id : Int) (va : Option Addr) (len cap : Nat) (fs : List (Int × ByteArray)) (w : World) (hT : Wide w) (_ : (Lit.int .i64 id).wf = true) (hx : FrIn w va len fs) :
    Calls Tryz.prog 3 #[.int .i64 id, .slice va len cap] w fun e w' => e = .returned (.bool true) ∧ Below w.heap.size w w' := by
  have htw := Lib.hid (fun W (hb : Below w.heap.size w W) => two26_any W (hT.below hb))
  have hla := Lib.hid (large26_any va len cap fs w hx)
  clear hT hx
  cases hbig : bigJ fs with
  | true =>
    rw [hbig] at hla
    clear hbig
    go_enter Tryz.func3, Tryz.ntmps3
    go_wp2_with fail
    refine hla.out.mono ?_
    rintro _ w1 ⟨rfl, hb1⟩
    go_wp2_with fail
    refine (htw.out _ hb1).mono ?_
    rintro _ w2 ⟨rfl, hb2⟩
    have hfin := Lib.hid (grew hb1 hb2)
    clear hb1 hb2
    go_wp2_with fail
    go_ret
    exact ⟨rfl, hfin.out⟩
  | false =>
    rw [hbig] at hla
    clear hbig
    have h1 := Lib.hid (jnew_nil id 0)
    have h2 := Lib.hid (jopen_nil id 0)
    have h3 := Lib.hid (janew_nil va len cap)
    have h4 := Lib.hid (jappend_nil 1 ⟨#[]⟩)
    have h5 := Lib.hid jfree_nil
    have h6 := Lib.hid jframes_nil
    have h7 := Lib.hid jgen_nil
    have h8 := Lib.hid jsegs_nil
    have h9 := Lib.hid jgrown_nil
    have h10 := Lib.hid (jfits_nil 1 ⟨#[]⟩)
    go_enter Tryz.func3, Tryz.ntmps3
    go_wp2_with fail
    refine hla.out.mono ?_
    rintro _ w1 ⟨rfl, hb1⟩
    go_wp2_with fail
    refine (h1.out _).mono ?_
    rintro _ w2 ⟨rfl, rfl⟩
    go_wp2_with fail
    refine (h2.out _).mono ?_
    rintro _ w2 ⟨rfl, rfl⟩
    go_wp2_with fail
    refine (h3.out _).mono ?_
    rintro _ w2 ⟨rfl, rfl⟩
    go_wp2_with fail
    refine (h4.out _).mono ?_
    rintro _ w2 ⟨rfl, hb2⟩
    have hB2 := grew hb1 hb2
    clear hb1 hb2
    go_wp2_with fail
    refine (h5.out _).mono ?_
    rintro _ w3 ⟨rfl, rfl⟩
    go_wp2_with fail
    refine (h6.out _).mono ?_
    rintro _ w3 ⟨rfl, rfl⟩
    go_wp2_with fail
    refine (h7.out _).mono ?_
    rintro _ w3 ⟨rfl, rfl⟩
    go_wp2_with fail
    refine (h8.out _).mono ?_
    rintro _ w3 ⟨rfl, rfl⟩
    go_wp2_with fail
    refine (h9.out _).mono ?_
    rintro _ w3 ⟨rfl, rfl⟩
    go_wp2_with fail
    refine (h10.out _).mono ?_
    rintro _ w3 ⟨rfl, hb3⟩
    have hB3 := grew hB2 hb3
    clear hB2 hb3
    go_wp2_with fail
    refine (htw.out _ hB3).mono ?_
    rintro _ w4 ⟨rfl, hb4⟩
    have hfin := Lib.hid (grew hB3 hb4)
    clear hB3 hb4
    go_wp2_with fail
    go_ret
    exact ⟨rfl, hfin.out⟩

theorem own : ownKnob Tryz.prog.godebug = none := by kernel_rfl
theorem laidOut : laidOutB Tryz.prog = true := by kernel_rfl
theorem gW : Tryz.prog.globalNamed "weighlock/header.widths" = some 0 := by kernel_rfl
theorem gWType : (Tryz.prog.globals[0]?).map (·.type) = some 121 := by kernel_rfl
theorem cellsW4 : Tryz.prog.cellsOf 121 = 4 := by kernel_rfl
theorem cellsW1 : Tryz.prog.cellsOf 3 = 1 := by kernel_rfl
/-- What the row's list gives: the table's numbers. -/
theorem table {W : World} (h : laidMetH Tryz.prog Rows.journalNilRow.laid W) : Lib.TabIs Tryz.prog W "weighlock/header.widths" .i64 [2, 4, 4, 8] :=
  Lib.tabIs_of_head (rest := []) gW gWType Tryz.underlying121 Tryz.underlying3 cellsW1 cellsW4 h

set_option maxRecDepth 100000 in
theorem contract (H : Type) (enc : TypeId × Value → H) (W : World) (base : Nat) (args : Array Value) (ds gs : List (DataW H)) (before : List MemPlace)
    (hval : ∀ (j : Nat) t v, Tryz.f3.params[j]? = some t → args[j]? = some v → Value.okWide Tryz.prog W .any base t v)
    (hW : DataW.Whole enc Tryz.prog Tryz.f3.params.toList Rows.journalNilSpec.vars false W args.toList ds gs before) (hL : laidMetH Tryz.prog Rows.journalNilRow.laid W) :
    Calls Tryz.prog 3 args W fun e W' => ∃ v, e = .returned v ∧ Rows.journalNilSpec.post enc Tryz.prog Tryz.f3 false true false false W args v W' := by
  have hTb : Wide W := fun i hi => by
    match i, hi with
    | 0, _ => exact (table hL).cell gW 0 (by decide)
    | 1, _ => exact (table hL).cell gW 1 (by decide)
    | 2, _ => exact (table hL).cell gW 2 (by decide)
    | 3, _ => exact (table hL).cell gW 3 (by decide)
  have hW' := hW
  obtain ⟨p, q, hA0, hV, rfl, hfz, hnd⟩ := hW
  have hA : DataW.TrodAll enc Tryz.prog W 0 (fun _ => true) true Tryz.f3.params.toList args.toList ds p := hA0
  rw [Tryz.params3] at hA hval
  obtain ⟨v0, vs0, d0, ds0, p0, q0, hargs, rfl, rfl, h0, r0⟩ := trodAll_cons hA
  obtain ⟨v1, vs1, d1, ds1, p1, q1, rfl, rfl, rfl, h1, r1⟩ := trodAll_cons r0
  obtain ⟨rfl, rfl, rfl⟩ := trodAll_nil r1
  obtain rfl : args = #[v0, v1] := by cases args; simp_all
  obtain ⟨rfl, rfl⟩ := trodVars_none hV
  obtain ⟨a0, rfl, rfl, rfl, w0⟩ := open_int Tryz.underlying3 (hval 0 3 v0 rfl rfl) h0
  obtain ⟨a1, len1, cap1, rfl⟩ := okWide_slice Tryz.underlying22 (hval 1 22 v1 rfl rfl)
  have k1 := h1
  have lt1 : ∀ x ∈ p1, x.block < W.heap.size := by obtain ⟨m, hm⟩ := k1; exact DataW.trod_lt m _ _ _ hm
  obtain ⟨fu1, hf1⟩ := h1
  obtain ⟨z1, w1⟩ := open_frames (show DataW.trod enc Tryz.prog W 0 (fun _ => true) true fu1 22 [.slice a1 len1 cap1] = some _ from hf1)
  clear hA0
  refine (walk a0 a1 len1 cap1 z1 W hTb w0 w1).mono fun e W' ⟨he, bel⟩ => ?_
  subst he
  exact ⟨_, rfl, _, _, _, [], _, [], hW', trodAll_mk1 (shut_bool Tryz.underlying4 _), (trodAll_cons_mk (shut_int Tryz.underlying3 w0) (trodAll_cons_mk (Below.trod laidOut (by kernel_rfl) (of_decide_eq_true (by kernel_rfl)) k1 bel lt1) trodAll_mk0)), rfl, bel.frame _, fun h => by cases h⟩

/-- A world for the witness: the settled one, the table as its initialiser lays it. -/
noncomputable def laidWorld (os : Os) : World :=
  { World.holding Tryz.prog os ⟨#[], #[], []⟩ with heap := (World.holding Tryz.prog os ⟨#[], #[], []⟩).heap.modify 0 fun
      | .cells _ t frozen => .cells #[.int .i64 2, .int .i64 4, .int .i64 4, .int .i64 8] t frozen
      | o => o }
theorem laid_met (os : Os) : laidMet Tryz.prog Rows.journalNilRow.laid ((laidWorld os).forCall (fun _ _ => 0) ⟨#[], #[.int .i64 0, .slice none 0 0], []⟩).memory :=
  laidMet_of_run' 8 (by kernel_rfl) (by kernel_rfl)
theorem reads (os : Os) {H : Type} (enc : TypeId × Value → H) : ∃ places, DataW.whole enc Tryz.prog ((laidWorld os).forCall (fun _ _ => 0) ⟨#[], #[.int .i64 0, .slice none 0 0], []⟩).memory Tryz.f3.params.toList Rows.journalNilSpec.vars false (#[.int .i64 0, .slice none 0 0] : Array Value).toList 8 = some ([.lit (.int .i64 0), .nil], [], places) :=
  ⟨[], by kernel_rfl⟩
set_option maxRecDepth 100000 in
theorem lifted (os : Os) (started : os.Started) (H : Type) (enc : TypeId × Value → H) (F : Stop.Interp) :
    ReturnsInHanded {} Tryz.checked os 3 .any ((OpenSpec.ofChange Rows.journalNilSpec).preRow enc Tryz.prog Tryz.f3 Rows.journalNilRow.domain false Rows.journalNilRow.laid) (((OpenSpec.ofChange Rows.journalNilSpec).at F).post enc Tryz.prog Tryz.f3 false true false false) := by
  obtain ⟨places, hx⟩ := reads os enc
  refine returnsInHanded_of_row (C := Tryz.checked) (s := OpenSpec.ofChange Rows.journalNilSpec) own started (by kernel_rfl) Tryz.func3
    (witness_row_at (enc := enc) (C := Tryz.checked) false (laidWorld os) #[.int .i64 0, .slice none 0 0] rfl (by kernel_rfl) (by kernel_rfl) (by kernel_rfl)
      (OpenSpec.preRow_of_cond 8 hx (by kernel_rfl) (fun k hk => by cases hk) (by kernel_rfl) (laid_met os))) ?_
  intro W base args ds gs before hval hW _ _ _ hL _ _
  exact contract H enc W base args ds gs before hval hW hL
theorem over : Rows.journalNilRow.holds Tryz.pinned (OpenSpec.ofChange Rows.journalNilSpec) :=
  OpenClaim.holds_of_cond 3 Tryz.f3 rfl rfl rfl rfl rfl rfl rfl ⟨rfl, rfl, rfl, rfl, rfl⟩ rfl rfl rfl rfl rfl (by kernel_rfl) Tryz.func3 (by kernel_rfl)
    (of_decide_eq_true (by kernel_rfl)) (by unfold Func.isWrapper; first | (rw [if_pos (by decide +kernel)]; kernel_rfl) | (rw [if_neg (by decide +kernel)]; exact ⟨rfl, rfl⟩))
    (fun os started H enc _ F => by rw [OpenClaim.pre_eq_preRow]; exact lifted os started H enc F)
theorem allPlain : (Tryz.f3.params.toList.all fun u => !(Tryz.prog.wantsStandIn u)) = true := by kernel_rfl
/-- No parameter wants a stand-in; the program's own looks are off. -/
theorem plain (f : FuncId) (fn : Func) (hf : Tryz.pinned.checked.prog.funcNamed "weighlock/weighlocklaw26.JournalNil" = some f) (hfn : Tryz.pinned.checked.prog.funcs[f]? = some fn) :
    false = Tryz.pinned.checked.prog.looks [] ∧ ∀ (j : Nat) t, fn.params[j]? = some t → Tryz.pinned.checked.prog.wantsStandIn t = false := by
  obtain rfl : f = 3 := Option.some.inj ((show Tryz.prog.funcNamed "weighlock/weighlocklaw26.JournalNil" = some 3 by kernel_rfl).symm.trans hf) |>.symm
  obtain rfl : fn = Tryz.f3 := (Option.some.inj (Tryz.func3.symm.trans hfn)).symm
  refine ⟨by kernel_rfl, fun j t ht => ?_⟩
  have h := List.all_eq_true.1 allPlain t (Array.mem_toList_iff.2 (Array.mem_of_getElem? ht))
  have h2 : Tryz.prog.wantsStandIn t = false := by simpa using h
  exact h2

/-- The statement: the tied card. -/
theorem proved : Rows.JournalNilCardSaid :=
  Claim7.holds_tied_plain_at .later [] _ _ _ _ over (fun _ h => by cases h) (by kernel_rfl) (fun _ h => by cases h) journalNil_row_tie rfl ⟨rfl, rfl⟩ (by kernel_rfl) rfl plain (by kernel_rfl)
#print axioms proved

end Go.Proofs.YtgogackkeodciabGreatDoor.journalNil
