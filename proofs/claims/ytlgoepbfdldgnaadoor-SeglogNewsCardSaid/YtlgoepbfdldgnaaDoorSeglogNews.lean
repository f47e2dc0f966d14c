/- For every number, base and gen the law SeglogNews returns true: which logs there may be, and why others are none. The package variable header.widths starts as the program's text lays it (the card ties it). No other condition. -/
import Derived.Test.YtlgoepbfdldgnaaDoorCards
import Derived.Test.YtlgoepbfdldgnaaDoorTie
import Derived.Test.YtlgoepbfdldgnaaDoorEig
import Derived.WalkKit
import Derived.ProofKit
import Derived.OpenShut
import Derived.ChangeOld
import Derived.Deep.DeepHandedRow
import Derived.Lib.LaidTab
namespace Go.Proofs.YtlgoepbfdldgnaaDoor.seglogNews
open Go.ChangeShapes Go.WideShapes Go.ChangeAt Go.RowKit Go.Sort
open Go.Proofs.YtlgoepbfdldgnaaDoor.M Go.Proofs.YtlgoepbfdldgnaaDoor.Z
open Go.Proofs.YtlgoepbfdldgnaaDoor.W Go.Proofs.YtlgoepbfdldgnaaDoor.D
set_option linter.unusedVariables false

theorem okH_false (a b : Int) (h : a < 1 ∨ 65535 < a ∨ b < 0 ∨ 1099511627776 < b) : okH a b = false := by
  unfold okH
  exact decide_eq_false (by omega)
set_option maxRecDepth 100000 in
set_option maxHeartbeats 4000000 in
theorem walkNo0 (id base gen : Int) (w : World) (hT : Wide w) (h1 : id < 1) :
    Calls Tryd.prog 8 #[.int .i64 id, .int .i64 base, .int .u32 gen] w fun e w' => e = .returned (.bool true) ∧ Below w.heap.size w w' := by
  have hno := okH_false id base (.inl h1)
  have hpn : Hid (∀ W, Calls Tryd.prog 36 #[.int .i64 6, .int .i64 1] W fun x w' => ∃ pb pa, x = .returned (.tuple #[.pointer (some ⟨pb, 0, none⟩), .int .i64 0]) ∧ Below W.heap.size W w') := Lib.hid (fun W => (pnew_yes 6 1 W (by decide) (by decide) (by decide)).mono fun e w' ⟨r1, r2, r3⟩ => ⟨_, 0, r1, r3⟩)
  have hfr := Lib.hid fresh14_any
  have hei := Lib.hid (fun W (hb : Below w.heap.size w W) => eight_any W (hT.below hb))
  have hTw := Lib.hid (fun W (hb : Below w.heap.size w W) => hT.below hb)
  clear hT
  go_enter Tryd.func8, Tryd.ntmps8
  go_wp2_with fail
  refine (hpn.out _).mono ?_
  rintro _ w1 ⟨pb, _, rfl, hb1⟩
  go_wp2_with fail
  refine (hfr.out _).mono ?_
  rintro _ w2 ⟨vb, d, g', rfl, hv⟩
  have hB2 := grew hb1 hv.since
  clear hv hb1
  have hnl := Lib.hid (log_new_no (vb := vb) (gen := gen) pb id base w2 hno)
  go_wp2_with fail
  refine hnl.out.mono ?_
  rintro _ w3 ⟨rfl, hb3⟩
  have hB3 := Lib.hid (grew hB2 hb3)
  clear hB2 hb3 hno
  go_wp2_with fail
  refine (hei.out _ hB3.out).mono ?_
  rintro _ w4 ⟨rfl, hb4⟩
  go_wp2_with fail
  go_ret
  exact ⟨rfl, grew hB3.out hb4⟩
set_option maxRecDepth 100000 in
set_option maxHeartbeats 4000000 in
theorem walkNo1 (id base gen : Int) (w : World) (hT : Wide w) (n1 : ¬ id < 1) (h1 : 65535 < id) :
    Calls Tryd.prog 8 #[.int .i64 id, .int .i64 base, .int .u32 gen] w fun e w' => e = .returned (.bool true) ∧ Below w.heap.size w w' := by
  have hno := okH_false id base (.inr (.inl h1))
  have hpn : Hid (∀ W, Calls Tryd.prog 36 #[.int .i64 6, .int .i64 1] W fun x w' => ∃ pb pa, x = .returned (.tuple #[.pointer (some ⟨pb, 0, none⟩), .int .i64 0]) ∧ Below W.heap.size W w') := Lib.hid (fun W => (pnew_yes 6 1 W (by decide) (by decide) (by decide)).mono fun e w' ⟨r1, r2, r3⟩ => ⟨_, 0, r1, r3⟩)
  have hfr := Lib.hid fresh14_any
  have hei := Lib.hid (fun W (hb : Below w.heap.size w W) => eight_any W (hT.below hb))
  have hTw := Lib.hid (fun W (hb : Below w.heap.size w W) => hT.below hb)
  clear hT
  go_enter Tryd.func8, Tryd.ntmps8
  go_wp2_with fail
  refine (hpn.out _).mono ?_
  rintro _ w1 ⟨pb, _, rfl, hb1⟩
  go_wp2_with fail
  refine (hfr.out _).mono ?_
  rintro _ w2 ⟨vb, d, g', rfl, hv⟩
  have hB2 := grew hb1 hv.since
  clear hv hb1
  have hnl := Lib.hid (log_new_no (vb := vb) (gen := gen) pb id base w2 hno)
  go_wp2_with fail
  refine hnl.out.mono ?_
  rintro _ w3 ⟨rfl, hb3⟩
  have hB3 := Lib.hid (grew hB2 hb3)
  clear hB2 hb3 hno
  go_wp2_with fail
  refine (hei.out _ hB3.out).mono ?_
  rintro _ w4 ⟨rfl, hb4⟩
  go_wp2_with fail
  go_ret
  exact ⟨rfl, grew hB3.out hb4⟩
set_option maxRecDepth 100000 in
set_option maxHeartbeats 4000000 in
theorem walkNo2 (id base gen : Int) (w : World) (hT : Wide w) (n1 : ¬ id < 1) (n2 : ¬ 65535 < id) (h1 : base < 0) :
    Calls Tryd.prog 8 #[.int .i64 id, .int .i64 base, .int .u32 gen] w fun e w' => e = .returned (.bool true) ∧ Below w.heap.size w w' := by
  have hno := okH_false id base (.inr (.inr (.inl h1)))
  have hpn : Hid (∀ W, Calls Tryd.prog 36 #[.int .i64 6, .int .i64 1] W fun x w' => ∃ pb pa, x = .returned (.tuple #[.pointer (some ⟨pb, 0, none⟩), .int .i64 0]) ∧ Below W.heap.size W w') := Lib.hid (fun W => (pnew_yes 6 1 W (by decide) (by decide) (by decide)).mono fun e w' ⟨r1, r2, r3⟩ => ⟨_, 0, r1, r3⟩)
  have hfr := Lib.hid fresh14_any
  have hei := Lib.hid (fun W (hb : Below w.heap.size w W) => eight_any W (hT.below hb))
  have hTw := Lib.hid (fun W (hb : Below w.heap.size w W) => hT.below hb)
  clear hT
  go_enter Tryd.func8, Tryd.ntmps8
  go_wp2_with fail
  refine (hpn.out _).mono ?_
  rintro _ w1 ⟨pb, _, rfl, hb1⟩
  go_wp2_with fail
  refine (hfr.out _).mono ?_
  rintro _ w2 ⟨vb, d, g', rfl, hv⟩
  have hB2 := grew hb1 hv.since
  clear hv hb1
  have hnl := Lib.hid (log_new_no (vb := vb) (gen := gen) pb id base w2 hno)
  go_wp2_with fail
  refine hnl.out.mono ?_
  rintro _ w3 ⟨rfl, hb3⟩
  have hB3 := Lib.hid (grew hB2 hb3)
  clear hB2 hb3 hno
  go_wp2_with fail
  refine (hei.out _ hB3.out).mono ?_
  rintro _ w4 ⟨rfl, hb4⟩
  go_wp2_with fail
  go_ret
  exact ⟨rfl, grew hB3.out hb4⟩
set_option maxRecDepth 100000 in
set_option maxHeartbeats 4000000 in
theorem walkNo3 (id base gen : Int) (w : World) (hT : Wide w) (n1 : ¬ id < 1) (n2 : ¬ 65535 < id) (n3 : ¬ base < 0) (h1 : 1099511627776 < base) :
    Calls Tryd.prog 8 #[.int .i64 id, .int .i64 base, .int .u32 gen] w fun e w' => e = .returned (.bool true) ∧ Below w.heap.size w w' := by
  have hno := okH_false id base (.inr (.inr (.inr h1)))
  have hpn : Hid (∀ W, Calls Tryd.prog 36 #[.int .i64 6, .int .i64 1] W fun x w' => ∃ pb pa, x = .returned (.tuple #[.pointer (some ⟨pb, 0, none⟩), .int .i64 0]) ∧ Below W.heap.size W w') := Lib.hid (fun W => (pnew_yes 6 1 W (by decide) (by decide) (by decide)).mono fun e w' ⟨r1, r2, r3⟩ => ⟨_, 0, r1, r3⟩)
  have hfr := Lib.hid fresh14_any
  have hei := Lib.hid (fun W (hb : Below w.heap.size w W) => eight_any W (hT.below hb))
  have hTw := Lib.hid (fun W (hb : Below w.heap.size w W) => hT.below hb)
  clear hT
  go_enter Tryd.func8, Tryd.ntmps8
  go_wp2_with fail
  refine (hpn.out _).mono ?_
  rintro _ w1 ⟨pb, _, rfl, hb1⟩
  go_wp2_with fail
  refine (hfr.out _).mono ?_
  rintro _ w2 ⟨vb, d, g', rfl, hv⟩
  have hB2 := grew hb1 hv.since
  clear hv hb1
  have hnl := Lib.hid (log_new_no (vb := vb) (gen := gen) pb id base w2 hno)
  go_wp2_with fail
  refine hnl.out.mono ?_
  rintro _ w3 ⟨rfl, hb3⟩
  have hB3 := Lib.hid (grew hB2 hb3)
  clear hB2 hb3 hno
  go_wp2_with fail
  refine (hei.out _ hB3.out).mono ?_
  rintro _ w4 ⟨rfl, hb4⟩
  go_wp2_with fail
  go_ret
  exact ⟨rfl, grew hB3.out hb4⟩
set_option maxRecDepth 100000 in
set_option maxHeartbeats 4000000 in
theorem walkYes (id base gen : Nat) (w : World) (hT : Wide w) (h1 : 1 ≤ id) (h2 : id < 65536) (h3 : base ≤ 1099511627776) (h4 : gen < 4294967296) :
    Calls Tryd.prog 8 #[.int .i64 (id : Int), .int .i64 (base : Int), .int .u32 (gen : Int)] w fun e w' => e = .returned (.bool true) ∧ Below w.heap.size w w' := by
  have hpn : Hid (∀ W, Calls Tryd.prog 36 #[.int .i64 6, .int .i64 1] W fun x w' => ∃ pb pa, x = .returned (.tuple #[.pointer (some ⟨pb, 0, none⟩), .int .i64 0]) ∧ Below W.heap.size W w') := Lib.hid (fun W => (pnew_yes 6 1 W (by decide) (by decide) (by decide)).mono fun e w' ⟨r1, r2, r3⟩ => ⟨_, 0, r1, r3⟩)
  have hfr := Lib.hid fresh14_any
  have hei := Lib.hid (fun W (hb : Below w.heap.size w W) => eight_any W (hT.below hb))
  have hTw := Lib.hid (fun W (hb : Below w.heap.size w W) => hT.below hb)
  clear hT
  go_enter Tryd.func8, Tryd.ntmps8
  go_wp2_with fail
  refine (hpn.out _).mono ?_
  rintro _ w1 ⟨pb, _, rfl, hb1⟩
  go_wp2_with fail
  refine (hfr.out _).mono ?_
  rintro _ w2 ⟨vb, d, g', rfl, hv⟩
  have hB2 := grew hb1 hv.since
  clear hv hb1
  have hnl := Lib.hid (log_new_yes (vb := vb) pb id gen base w2 (hTw.out _ hB2) h1 h2 h4 h3)
  have i1 : ¬ (id : Int) < 1 := by omega
  have i2 : ¬ 65535 < (id : Int) := by omega
  have i3 : ¬ (base : Int) < 0 := by omega
  have i4 : ¬ 1099511627776 < (base : Int) := by omega
  go_wp2_with fail
  refine hnl.out.mono ?_
  rintro _ w3 ⟨lb, rfl, hlb, hL, hb3⟩
  have hB3 := Lib.hid (grew hB2 hb3)
  have hat : LogAt w3 vb lb pb id gen base [] none 0 := ⟨hL, fun i r hr => by simp at hr, fun r hr => by simp at hr, fun r hr => by simp at hr, by decide, fun r hr => by simp at hr, ⟨Nat.le_refl _, Nat.zero_le _⟩, rfl, by omega⟩
  have hba : Hid (∀ W, Below w3.heap.size w3 W → Calls Tryd.prog 40 #[.pointer (some ⟨lb, 0, none⟩)] W fun e w' => e = .returned (.int .i64 (base : Int)) ∧ Below W.heap.size W w') := Lib.hid (fun W hb => lbase_any (hat.below hb))
  have hnx : Hid (∀ W, Below w3.heap.size w3 W → Calls Tryd.prog 41 #[.pointer (some ⟨lb, 0, none⟩)] W fun e w' => e = .returned (.int .i64 (base : Int)) ∧ W = w') := Lib.hid (fun W hb => next_any lb _ W ((hat.below hb).obj.cell 5))
  have hid9 : Hid (∀ W, Below w3.heap.size w3 W → Calls Tryd.prog 42 #[.pointer (some ⟨lb, 0, none⟩)] W fun e w' => e = .returned (.int .i64 (id : Int)) ∧ W = w') := Lib.hid (fun W hb => id_any lb _ W ((hat.below hb).obj.cell 2))
  have hgn : Hid (∀ W, Below w3.heap.size w3 W → Calls Tryd.prog 43 #[.pointer (some ⟨lb, 0, none⟩)] W fun e w' => e = .returned (.int .u32 (gen : Int)) ∧ W = w') := Lib.hid (fun W hb => gen_any lb _ W ((hat.below hb).obj.cell 3))
  have hsg : Hid (∀ W, Below w3.heap.size w3 W → Calls Tryd.prog 44 #[.pointer (some ⟨lb, 0, none⟩)] W fun e w' => ∃ g, e = .returned (.slice (some ⟨g, 0, none⟩) 0 0) ∧ Below W.heap.size W w') := Lib.hid (fun W hb => (segments_any (hat.below hb) (by decide)).mono fun e w' ⟨g, r1, _, _, r4⟩ => ⟨g, r1, r4⟩)
  have hfm : Hid (∀ W, Below w3.heap.size w3 W → Calls Tryd.prog 45 #[.pointer (some ⟨lb, 0, none⟩), .int .i64 (base : Int), .int .i64 9] W fun e w' => e = .returned (.slice none 0 0) ∧ Below W.heap.size W w') := Lib.hid (fun W hb => from_no (hat.below hb) (base : Int) 9 (.inl (by unfold hasB; simp [baseOf])))
  have hbq : ((base : Int) == (base : Int)) = true := by simp
  have hiq : ((id : Int) == (id : Int)) = true := by simp
  have hgq : ((gen : Int) == (gen : Int)) = true := by simp
  clear hB2 hb3 hat hL hlb hnl
  go_wp2_with fail
  refine (hba.out _ (Below.refl _ _)).mono ?_
  rintro _ w4 ⟨rfl, hb4⟩
  go_wp2_with fail
  refine (hnx.out _ hb4).mono ?_
  rintro _ w5 ⟨rfl, rfl⟩
  go_wp2_with fail
  refine (hid9.out _ hb4).mono ?_
  rintro _ w6 ⟨rfl, rfl⟩
  go_wp2_with fail
  refine (hgn.out _ hb4).mono ?_
  rintro _ w7 ⟨rfl, rfl⟩
  go_wp2_with fail
  refine (hsg.out _ hb4).mono ?_
  rintro _ w8 ⟨g, rfl, hb8⟩
  have hB8 := grew hb4 hb8
  go_wp2_with fail
  refine (hfm.out _ hB8).mono ?_
  rintro _ w9 ⟨rfl, hb9⟩
  have hB9 := Lib.hid (grew hB3.out (grew hB8 hb9))
  go_wp2_with fail
  refine (hei.out _ hB9.out).mono ?_
  rintro _ w10 ⟨rfl, hb10⟩
  go_wp2_with fail
  go_ret
  exact ⟨rfl, grew hB9.out hb10⟩
theorem walk (id base gen : Int) (w : World) (hT : Wide w) (_ : (Lit.int .i64 id).wf = true) (_ : (Lit.int .i64 base).wf = true) (hg : (Lit.int .u32 gen).wf = true) :
    Calls Tryd.prog 8 #[.int .i64 id, .int .i64 base, .int .u32 gen] w fun e w' => e = .returned (.bool true) ∧ Below w.heap.size w w' := by
  by_cases h1 : id < 1
  · exact walkNo0 id base gen w hT h1
  by_cases h2 : 65535 < id
  · exact walkNo1 id base gen w hT h1 h2
  by_cases h3 : base < 0
  · exact walkNo2 id base gen w hT h1 h2 h3
  by_cases h4 : 1099511627776 < base
  · exact walkNo3 id base gen w hT h1 h2 h3 h4
  obtain ⟨g1, g2⟩ := lit_u32 hg
  obtain ⟨id', rfl⟩ := lit_nat (a := id) (by omega)
  obtain ⟨base', rfl⟩ := lit_nat (a := base) (by omega)
  obtain ⟨gen', rfl⟩ := lit_nat g1
  exact walkYes id' base' gen' w hT (by omega) (by omega) (by omega) (by omega)

theorem own : ownKnob Tryd.prog.godebug = none := by kernel_rfl
theorem laidOut : laidOutB Tryd.prog = true := by kernel_rfl
theorem gW : Tryd.prog.globalNamed "weighlock/header.widths" = some 0 := by kernel_rfl
theorem gWType : (Tryd.prog.globals[0]?).map (·.type) = some 200 := by kernel_rfl
theorem cellsW4 : Tryd.prog.cellsOf 200 = 4 := by kernel_rfl
theorem cellsW1 : Tryd.prog.cellsOf 3 = 1 := by kernel_rfl
/-- What the row's list gives: the table's numbers. -/
theorem table {W : World} (h : laidMetH Tryd.prog Rows.seglogNewsRow.laid W) : Lib.TabIs Tryd.prog W "weighlock/header.widths" .i64 [2, 4, 4, 8] :=
  Lib.tabIs_of_head (rest := []) gW gWType Tryd.underlying200 Tryd.underlying3 cellsW1 cellsW4 h

set_option maxRecDepth 100000 in
theorem contract (H : Type) (enc : TypeId × Value → H) (W : World) (base : Nat) (args : Array Value) (ds gs : List (DataW H)) (before : List MemPlace)
    (hval : ∀ (j : Nat) t v, Tryd.f8.params[j]? = some t → args[j]? = some v → Value.okWide Tryd.prog W .any base t v)
    (hW : DataW.Whole enc Tryd.prog Tryd.f8.params.toList Rows.seglogNewsSpec.vars false W args.toList ds gs before) (hL : laidMetH Tryd.prog Rows.seglogNewsRow.laid W) :
    Calls Tryd.prog 8 args W fun e W' => ∃ v, e = .returned v ∧ Rows.seglogNewsSpec.post enc Tryd.prog Tryd.f8 false true false false W args v W' := by
  have hTb : Wide W := fun i hi => by
    match i, hi with
    | 0, _ => exact (table hL).cell gW 0 (by decide)
    | 1, _ => exact (table hL).cell gW 1 (by decide)
    | 2, _ => exact (table hL).cell gW 2 (by decide)
    | 3, _ => exact (table hL).cell gW 3 (by decide)
  have hW' := hW
  obtain ⟨p, q, hA0, hV, rfl, hfz, hnd⟩ := hW
  have hA : DataW.TrodAll enc Tryd.prog W 0 (fun _ => true) true Tryd.f8.params.toList args.toList ds p := hA0
  rw [Tryd.params8] at hA hval
  obtain ⟨v0, vs0, d0, ds0, p0, q0, hargs, rfl, rfl, h0, r0⟩ := trodAll_cons hA
  obtain ⟨v1, vs1, d1, ds1, p1, q1, rfl, rfl, rfl, h1, r1⟩ := trodAll_cons r0
  obtain ⟨v2, vs2, d2, ds2, p2, q2, rfl, rfl, rfl, h2, r2⟩ := trodAll_cons r1
  obtain ⟨rfl, rfl, rfl⟩ := trodAll_nil r2
  obtain rfl : args = #[v0, v1, v2] := by cases args; simp_all
  obtain ⟨rfl, rfl⟩ := trodVars_none hV
  obtain ⟨a0, rfl, rfl, rfl, w0⟩ := open_int Tryd.underlying3 (hval 0 3 v0 rfl rfl) h0
  obtain ⟨a1, rfl, rfl, rfl, w1⟩ := open_int Tryd.underlying3 (hval 1 3 v1 rfl rfl) h1
  obtain ⟨a2, rfl, rfl, rfl, w2⟩ := open_int Tryd.underlying22 (hval 2 22 v2 rfl rfl) h2
  clear hA0
  refine (walk a0 a1 a2 W hTb w0 w1 w2).mono fun e W' ⟨he, bel⟩ => ?_
  subst he
  exact ⟨_, rfl, _, _, _, [], [], [], hW', trodAll_mk1 (shut_bool Tryd.underlying4 _), (trodAll_cons_mk (shut_int Tryd.underlying3 w0) (trodAll_cons_mk (shut_int Tryd.underlying3 w1) (trodAll_cons_mk (shut_int Tryd.underlying22 w2) trodAll_mk0))), rfl, bel.frame _, fun h => by cases h⟩

/-- A world for the witness: the settled one, the table as its initialiser lays it. -/
noncomputable def laidWorld (os : Os) : World :=
  { World.holding Tryd.prog os ⟨#[], #[], []⟩ with heap := (World.holding Tryd.prog os ⟨#[], #[], []⟩).heap.modify 0 fun
      | .cells _ t frozen => .cells #[.int .i64 2, .int .i64 4, .int .i64 4, .int .i64 8] t frozen
      | o => o }
theorem laid_met (os : Os) : laidMet Tryd.prog Rows.seglogNewsRow.laid ((laidWorld os).forCall (fun _ _ => 0) ⟨#[], #[.int .i64 0, .int .i64 0, .int .u32 0], []⟩).memory :=
  laidMet_of_run' 8 (by kernel_rfl) (by kernel_rfl)
theorem reads (os : Os) {H : Type} (enc : TypeId × Value → H) : ∃ places, DataW.whole enc Tryd.prog ((laidWorld os).forCall (fun _ _ => 0) ⟨#[], #[.int .i64 0, .int .i64 0, .int .u32 0], []⟩).memory Tryd.f8.params.toList Rows.seglogNewsSpec.vars false (#[.int .i64 0, .int .i64 0, .int .u32 0] : Array Value).toList 8 = some ([.lit (.int .i64 0), .lit (.int .i64 0), .lit (.int .u32 0)], [], places) :=
  ⟨[], by kernel_rfl⟩
set_option maxRecDepth 100000 in
theorem lifted (os : Os) (started : os.Started) (H : Type) (enc : TypeId × Value → H) (F : Stop.Interp) :
    ReturnsInHanded {} Tryd.checked os 8 .any ((OpenSpec.ofChange Rows.seglogNewsSpec).preRow enc Tryd.prog Tryd.f8 Rows.seglogNewsRow.domain false Rows.seglogNewsRow.laid) (((OpenSpec.ofChange Rows.seglogNewsSpec).at F).post enc Tryd.prog Tryd.f8 false true false false) := by
  obtain ⟨places, hx⟩ := reads os enc
  refine returnsInHanded_of_row (C := Tryd.checked) (s := OpenSpec.ofChange Rows.seglogNewsSpec) own started (by kernel_rfl) Tryd.func8
    (witness_row_at (enc := enc) (C := Tryd.checked) false (laidWorld os) #[.int .i64 0, .int .i64 0, .int .u32 0] rfl (by kernel_rfl) (by kernel_rfl) (by kernel_rfl)
      (OpenSpec.preRow_of_cond 8 hx (by kernel_rfl) (fun k hk => by cases hk) (by kernel_rfl) (laid_met os))) ?_
  intro W base args ds gs before hval hW _ _ _ hL _ _
  exact contract H enc W base args ds gs before hval hW hL
theorem over : Rows.seglogNewsRow.holds Tryd.pinned (OpenSpec.ofChange Rows.seglogNewsSpec) :=
  OpenClaim.holds_of_cond 8 Tryd.f8 rfl rfl rfl rfl rfl rfl rfl ⟨rfl, rfl, rfl, rfl, rfl⟩ rfl rfl rfl rfl rfl (by kernel_rfl) Tryd.func8 (by kernel_rfl)
    (of_decide_eq_true (by kernel_rfl)) (by unfold Func.isWrapper; first | (rw [if_pos (by decide +kernel)]; kernel_rfl) | (rw [if_neg (by decide +kernel)]; exact ⟨rfl, rfl⟩))
    (fun os started H enc _ F => by rw [OpenClaim.pre_eq_preRow]; exact lifted os started H enc F)
theorem allPlain : (Tryd.f8.params.toList.all fun u => !(Tryd.prog.wantsStandIn u)) = true := by kernel_rfl
/-- No parameter wants a stand-in; the program's own looks are off. -/
theorem plain (f : FuncId) (fn : Func) (hf : Tryd.pinned.checked.prog.funcNamed "weighlock/weighlocklaw14.SeglogNews" = some f) (hfn : Tryd.pinned.checked.prog.funcs[f]? = some fn) :
    false = Tryd.pinned.checked.prog.looks [] ∧ ∀ (j : Nat) t, fn.params[j]? = some t → Tryd.pinned.checked.prog.wantsStandIn t = false := by
  obtain rfl : f = 8 := Option.some.inj ((show Tryd.prog.funcNamed "weighlock/weighlocklaw14.SeglogNews" = some 8 by kernel_rfl).symm.trans hf) |>.symm
  obtain rfl : fn = Tryd.f8 := (Option.some.inj (Tryd.func8.symm.trans hfn)).symm
  refine ⟨by kernel_rfl, fun j t ht => ?_⟩
  have h := List.all_eq_true.1 allPlain t (Array.mem_toList_iff.2 (Array.mem_of_getElem? ht))
  have h2 : Tryd.prog.wantsStandIn t = false := by simpa using h
  exact h2

/-- The statement: the tied card. -/
theorem proved : Rows.SeglogNewsCardSaid :=
  Claim7.holds_tied_plain_at .later [] _ _ _ _ over (fun _ h => by cases h) (by kernel_rfl) (fun _ h => by cases h) seglogNews_row_tie rfl ⟨rfl, rfl⟩ (by kernel_rfl) rfl plain (by kernel_rfl)
#print axioms proved

end Go.Proofs.YtlgoepbfdldgnaaDoor.seglogNews
