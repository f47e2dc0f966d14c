/- For every epoch, count and stamp the law HeaderStamps returns true: the stamp of the two, or why there is none; a stamp's parts. The package variable header.widths starts as the program's text lays it (the card ties it). No other condition. -/
import Derived.Test.YtoegohofmhijgaaDoorCards
import Derived.Test.YtoegohofmhijgaaDoorTie
import Derived.Test.YtoegohofmhijgaaDoorHdOne
import Derived.Test.YtoegohofmhijgaaDoorHdOpen
import Derived.WalkKit
import Derived.ProofKit
import Derived.OpenShut
import Derived.ChangeOld
import Derived.Deep.DeepHandedRow
import Derived.Lib.LaidTab
namespace Go.Proofs.YtoegohofmhijgaaDoor.headerStamps
open Go.ChangeShapes Go.WideShapes Go.ChangeAt Go.RowKit
open Go.Proofs.YtoegohofmhijgaaDoor.M (grew grewAlloc)
open Go.Proofs.YtoegohofmhijgaaDoor.W Go.Proofs.YtoegohofmhijgaaDoor.D
set_option linter.unusedVariables false

set_option maxRecDepth 100000 in
set_option maxHeartbeats 4000000 in
theorem walk (e c t : Int) (w : World) (hT : Wide w) (we : (Lit.int .i64 e).wf = true) (wc : (Lit.int .i64 c).wf = true) (wt : (Lit.int .u32 t).wf = true) :
    Calls Tryd.prog 4 #[.int .i64 e, .int .i64 c, .int .u32 t] w fun x w' => x = .returned (.bool true) ∧ Below w.heap.size w w' := by
  have ht : 0 ≤ t ∧ t ≤ 4294967295 := by
    have hb : IntKind.u32.min ≤ t ∧ t ≤ IntKind.u32.max := by simpa [Lit.wf] using wt
    have q1 : IntKind.u32.min = 0 := by decide
    have q2 : IntKind.u32.max = 4294967295 := by decide
    rw [q1, q2] at hb
    exact hb
  clear we wc wt
  obtain ⟨n, rfl⟩ : ∃ n : Nat, t = (n : Int) := ⟨t.toNat, by omega⟩
  have hp := fun W => parts_any n W (by omega)
  have g1 : ((n : Int) / 65536) = ((n / 65536 : Nat) : Int) := by omega
  have g2 : ((n : Int) % 65536) = ((n % 65536 : Nat) : Int) := by omega
  rw [← g1, ← g2] at hp
  clear g1 g2
  have t1 : Int.tdiv (n : Int) 65536 = (n : Int) / 65536 := Int.tdiv_eq_ediv_of_nonneg (by omega)
  have t2 : Int.tmod (n : Int) 65536 = (n : Int) % 65536 := Int.tmod_eq_emod_of_nonneg (by omega)
  have hone := Lib.hid (one_any w hT)
  clear hT
  have u1 : (((n : Int) / 65536) != ((n : Int) / 65536)) = false := by simp
  have u2 : (((n : Int) % 65536) != ((n : Int) % 65536)) = false := by simp
  replace hp := Lib.hid hp
  by_cases hin : 0 ≤ e ∧ e ≤ 65535 ∧ 0 ≤ c ∧ c ≤ 65535
  · obtain ⟨p, rfl⟩ : ∃ p : Nat, e = (p : Int) := ⟨e.toNat, by omega⟩
    obtain ⟨q, rfl⟩ : ∃ q : Nat, c = (q : Int) := ⟨c.toNat, by omega⟩
    have hs := fun W => stamp_yes p q W (by omega) (by omega)
    have hp2 := fun W => parts_any (65536 * p + q) W (by omega)
    rw [show (65536 * p + q) / 65536 = p from by omega, show (65536 * p + q) % 65536 = q from by omega] at hp2
    obtain ⟨v, hv⟩ : ∃ v : Nat, Hid (65536 * p + q = v) := ⟨_, Lib.hid rfl⟩
    rw [hv.out] at hs hp2
    have v1 : 65536 * (p : Int) + (q : Int) = (v : Int) := by have := hv.out; omega
    have v2 : (v : Int) ≤ 4294967295 := by have := hv.out; omega
    have i1 : decide ((p : Int) < 0) = false := by simp
    have i2 : decide (65535 < (p : Int)) = false := by simp; omega
    have i3 : decide ((q : Int) < 0) = false := by simp
    have i4 : decide (65535 < (q : Int)) = false := by simp; omega
    have v3 : IntKind.i64.wrap (65536 * (p : Int)) = 65536 * (p : Int) := IntWalk.i64_in _ (by omega)
    have v4 : IntKind.i64.wrap (65536 * (p : Int) + (q : Int)) = (v : Int) := (IntWalk.i64_in _ (by omega)).trans v1
    have v5 : IntKind.u32.wrap (65536 * (p : Int) + (q : Int)) = (v : Int) := (IntWalk.u32_in _ (by omega)).trans v1
    have v6 : IntKind.u32.wrap (v : Int) = (v : Int) := IntWalk.u32_in _ (by omega)
    have w1 : ((v : Int) == (v : Int)) = true := by simp
    have w2 : ((p : Int) == (p : Int)) = true := by simp
    have w3 : ((q : Int) == (q : Int)) = true := by simp
    have w4 : ((v : Int) == 65536 * (p : Int) + (q : Int)) = true := by rw [v1]; simp
    replace hs := Lib.hid hs
    replace hp2 := Lib.hid hp2
    go_enter Tryd.func4, Tryd.ntmps4
    go_wp2_with fail
    refine (hp.out _).mono ?_
    rintro ee w1 ⟨rfl, rfl⟩
    go_wp2_with fail
    refine (hs.out _).mono ?_
    rintro ee w1 ⟨rfl, rfl⟩
    go_wp2_with fail
    refine (hp2.out _).mono ?_
    rintro ee w1 ⟨rfl, rfl⟩
    go_wp2_with fail
    refine hone.out.mono ?_
    rintro ee w1 ⟨rfl, hb⟩
    go_wp2_with fail
    go_ret
    exact ⟨rfl, hb⟩
  · have hs := Lib.hid (fun W => stamp_no e c W hin)
    by_cases k1 : e < 0
    · go_enter Tryd.func4, Tryd.ntmps4
      go_wp2_with fail
      refine (hp.out _).mono ?_
      rintro ee w1 ⟨rfl, rfl⟩
      go_wp2_with fail
      refine (hs.out _).mono ?_
      rintro ee w1 ⟨rfl, rfl⟩
      go_wp2_with fail
      refine hone.out.mono ?_
      rintro ee w1 ⟨rfl, hb⟩
      go_wp2_with fail
      go_ret
      exact ⟨rfl, hb⟩
    · by_cases k2 : 65535 < e
      · have j1 : ¬ e < 0 := k1
        go_enter Tryd.func4, Tryd.ntmps4
        go_wp2_with fail
        refine (hp.out _).mono ?_
        rintro ee w1 ⟨rfl, rfl⟩
        go_wp2_with fail
        refine (hs.out _).mono ?_
        rintro ee w1 ⟨rfl, rfl⟩
        go_wp2_with fail
        refine hone.out.mono ?_
        rintro ee w1 ⟨rfl, hb⟩
        go_wp2_with fail
        go_ret
        exact ⟨rfl, hb⟩
      · by_cases k3 : c < 0
        · have j1 : 0 ≤ e := by omega
          have j2 : e ≤ 65535 := by omega
          go_enter Tryd.func4, Tryd.ntmps4
          go_wp2_with fail
          refine (hp.out _).mono ?_
          rintro ee w1 ⟨rfl, rfl⟩
          go_wp2_with fail
          refine (hs.out _).mono ?_
          rintro ee w1 ⟨rfl, rfl⟩
          go_wp2_with fail
          refine hone.out.mono ?_
          rintro ee w1 ⟨rfl, hb⟩
          go_wp2_with fail
          go_ret
          exact ⟨rfl, hb⟩
        · have k4 : 65535 < c := by omega
          have j1 : 0 ≤ e := by omega
          have j2 : e ≤ 65535 := by omega
          have j3 : 0 ≤ c := by omega
          go_enter Tryd.func4, Tryd.ntmps4
          go_wp2_with fail
          refine (hp.out _).mono ?_
          rintro ee w1 ⟨rfl, rfl⟩
          go_wp2_with fail
          refine (hs.out _).mono ?_
          rintro ee w1 ⟨rfl, rfl⟩
          go_wp2_with fail
          refine hone.out.mono ?_
          rintro ee w1 ⟨rfl, hb⟩
          go_wp2_with fail
          go_ret
          exact ⟨rfl, hb⟩

theorem own : ownKnob Tryd.prog.godebug = none := by kernel_rfl
theorem laidOut : laidOutB Tryd.prog = true := by kernel_rfl
theorem gW : Tryd.prog.globalNamed "weighlock/header.widths" = some 0 := by kernel_rfl
theorem gWType : (Tryd.prog.globals[0]?).map (·.type) = some 63 := by kernel_rfl
theorem cellsW4 : Tryd.prog.cellsOf 63 = 4 := by kernel_rfl
theorem cellsW1 : Tryd.prog.cellsOf 3 = 1 := by kernel_rfl
/-- What the row's list gives: the table's numbers. -/
theorem table {W : World} (h : laidMetH Tryd.prog Rows.headerStampsRow.laid W) : Lib.TabIs Tryd.prog W "weighlock/header.widths" .i64 [2, 4, 4, 8] :=
  Lib.tabIs_of_head (rest := []) gW gWType Tryd.underlying63 Tryd.underlying3 cellsW1 cellsW4 h

set_option maxRecDepth 100000 in
theorem contract (H : Type) (enc : TypeId × Value → H) (W : World) (base : Nat) (args : Array Value) (ds gs : List (DataW H)) (before : List MemPlace)
    (hval : ∀ (j : Nat) t v, Tryd.f4.params[j]? = some t → args[j]? = some v → Value.okWide Tryd.prog W .any base t v)
    (hW : DataW.Whole enc Tryd.prog Tryd.f4.params.toList Rows.headerStampsSpec.vars false W args.toList ds gs before) (hL : laidMetH Tryd.prog Rows.headerStampsRow.laid W) :
    Calls Tryd.prog 4 args W fun e W' => ∃ v, e = .returned v ∧ Rows.headerStampsSpec.post enc Tryd.prog Tryd.f4 false true false false W args v W' := by
  have hTb : Wide W := fun i hi => by
    match i, hi with
    | 0, _ => exact (table hL).cell gW 0 (by decide)
    | 1, _ => exact (table hL).cell gW 1 (by decide)
    | 2, _ => exact (table hL).cell gW 2 (by decide)
    | 3, _ => exact (table hL).cell gW 3 (by decide)
  have hW' := hW
  obtain ⟨p, q, hA0, hV, rfl, hfz, hnd⟩ := hW
  have hA : DataW.TrodAll enc Tryd.prog W 0 (fun _ => true) true Tryd.f4.params.toList args.toList ds p := hA0
  rw [Tryd.params4] at hA hval
  obtain ⟨v0, vs0, d0, ds0, p0, q0, hargs, rfl, rfl, h0, r0⟩ := trodAll_cons hA
  obtain ⟨v1, vs1, d1, ds1, p1, q1, rfl, rfl, rfl, h1, r1⟩ := trodAll_cons r0
  obtain ⟨v2, vs2, d2, ds2, p2, q2, rfl, rfl, rfl, h2, r2⟩ := trodAll_cons r1
  obtain ⟨rfl, rfl, rfl⟩ := trodAll_nil r2
  obtain rfl : args = #[v0, v1, v2] := by cases args; simp_all
  obtain ⟨rfl, rfl⟩ := trodVars_none hV
  obtain ⟨a0, rfl, rfl, rfl, w0⟩ := open_int Tryd.underlying3 (hval 0 3 v0 rfl rfl) h0
  obtain ⟨a1, rfl, rfl, rfl, w1⟩ := open_int Tryd.underlying3 (hval 1 3 v1 rfl rfl) h1
  obtain ⟨a2, rfl, rfl, rfl, w2⟩ := open_int Tryd.underlying22 (hval 2 22 v2 rfl rfl) h2
  clear hA0
  refine (walk a0 a1 a2 W hTb w0 w1 w2).mono fun e W' ⟨he, bel⟩ => ?_
  subst he
  exact ⟨_, rfl, _, _, _, [], [], [], hW', trodAll_mk1 (shut_bool Tryd.underlying4 _), (trodAll_cons_mk (shut_int Tryd.underlying3 w0) (trodAll_cons_mk (shut_int Tryd.underlying3 w1) (trodAll_cons_mk (shut_int Tryd.underlying22 w2) trodAll_mk0))), rfl, bel.frame _, fun h => by cases h⟩

/-- A world for the witness: the settled one, the table as its initialiser lays it. -/
noncomputable def laidWorld (os : Os) : World :=
  { World.holding Tryd.prog os ⟨#[], #[], []⟩ with heap := (World.holding Tryd.prog os ⟨#[], #[], []⟩).heap.modify 0 fun
      | .cells _ t frozen => .cells #[.int .i64 2, .int .i64 4, .int .i64 4, .int .i64 8] t frozen
      | o => o }
theorem laid_met (os : Os) : laidMet Tryd.prog Rows.headerStampsRow.laid ((laidWorld os).forCall (fun _ _ => 0) ⟨#[], #[.int .i64 0, .int .i64 0, .int .u32 0], []⟩).memory :=
  laidMet_of_run' 8 (by kernel_rfl) (by kernel_rfl)
theorem reads (os : Os) {H : Type} (enc : TypeId × Value → H) : ∃ places, DataW.whole enc Tryd.prog ((laidWorld os).forCall (fun _ _ => 0) ⟨#[], #[.int .i64 0, .int .i64 0, .int .u32 0], []⟩).memory Tryd.f4.params.toList Rows.headerStampsSpec.vars false (#[.int .i64 0, .int .i64 0, .int .u32 0] : Array Value).toList 8 = some ([.lit (.int .i64 0), .lit (.int .i64 0), .lit (.int .u32 0)], [], places) :=
  ⟨[], by kernel_rfl⟩
set_option maxRecDepth 100000 in
theorem lifted (os : Os) (started : os.Started) (H : Type) (enc : TypeId × Value → H) (F : Stop.Interp) :
    ReturnsInHanded {} Tryd.checked os 4 .any ((OpenSpec.ofChange Rows.headerStampsSpec).preRow enc Tryd.prog Tryd.f4 Rows.headerStampsRow.domain false Rows.headerStampsRow.laid) (((OpenSpec.ofChange Rows.headerStampsSpec).at F).post enc Tryd.prog Tryd.f4 false true false false) := by
  obtain ⟨places, hx⟩ := reads os enc
  refine returnsInHanded_of_row (C := Tryd.checked) (s := OpenSpec.ofChange Rows.headerStampsSpec) own started (by kernel_rfl) Tryd.func4
    (witness_row_at (enc := enc) (C := Tryd.checked) false (laidWorld os) #[.int .i64 0, .int .i64 0, .int .u32 0] rfl (by kernel_rfl) (by kernel_rfl) (by kernel_rfl)
      (OpenSpec.preRow_of_cond 8 hx (by kernel_rfl) (fun k hk => by cases hk) (by kernel_rfl) (laid_met os))) ?_
  intro W base args ds gs before hval hW _ _ _ hL _ _
  exact contract H enc W base args ds gs before hval hW hL
theorem over : Rows.headerStampsRow.holds Tryd.pinned (OpenSpec.ofChange Rows.headerStampsSpec) :=
  OpenClaim.holds_of_cond 4 Tryd.f4 rfl rfl rfl rfl rfl rfl rfl ⟨rfl, rfl, rfl, rfl, rfl⟩ rfl rfl rfl rfl rfl (by kernel_rfl) Tryd.func4 (by kernel_rfl)
    (of_decide_eq_true (by kernel_rfl)) (by unfold Func.isWrapper; first | (rw [if_pos (by decide +kernel)]; kernel_rfl) | (rw [if_neg (by decide +kernel)]; exact ⟨rfl, rfl⟩))
    (fun os started H enc _ F => by rw [OpenClaim.pre_eq_preRow]; exact lifted os started H enc F)
theorem allPlain : (Tryd.f4.params.toList.all fun u => !(Tryd.prog.wantsStandIn u)) = true := by kernel_rfl
/-- No parameter wants a stand-in; the program's own looks are off. -/
theorem plain (f : FuncId) (fn : Func) (hf : Tryd.pinned.checked.prog.funcNamed "weighlock/weighlocklaw11.HeaderStamps" = some f) (hfn : Tryd.pinned.checked.prog.funcs[f]? = some fn) :
    false = Tryd.pinned.checked.prog.looks [] ∧ ∀ (j : Nat) t, fn.params[j]? = some t → Tryd.pinned.checked.prog.wantsStandIn t = false := by
  obtain rfl : f = 4 := Option.some.inj ((show Tryd.prog.funcNamed "weighlock/weighlocklaw11.HeaderStamps" = some 4 by kernel_rfl).symm.trans hf) |>.symm
  obtain rfl : fn = Tryd.f4 := (Option.some.inj (Tryd.func4.symm.trans hfn)).symm
  refine ⟨by kernel_rfl, fun j t ht => ?_⟩
  have h := List.all_eq_true.1 allPlain t (Array.mem_toList_iff.2 (Array.mem_of_getElem? ht))
  have h2 : Tryd.prog.wantsStandIn t = false := by simpa using h
  exact h2

/-- The statement: the tied card. -/
theorem proved : Rows.HeaderStampsCardSaid :=
  Claim7.holds_tied_plain_at .later [] _ _ _ _ over (fun _ h => by cases h) (by kernel_rfl) (fun _ h => by cases h) headerStamps_row_tie rfl ⟨rfl, rfl⟩ (by kernel_rfl) rfl plain (by kernel_rfl)
#print axioms proved

end Go.Proofs.YtoegohofmhijgaaDoor.headerStamps
