/- For every header and every text the law HeaderCodes returns true: headers as bytes, there and back, or why not. The package variable header.widths starts as the program's text lays it (the card ties it). No other condition. -/
import Derived.Test.YtoegohofmhijgaaDoorCards
import Derived.Test.YtoegohofmhijgaaDoorTie
import Derived.Test.YtoegohofmhijgaaDoorHdCodes
import Derived.Test.YtoegohofmhijgaaDoorHdOpen
import Derived.WalkKit
import Derived.ProofKit
import Derived.OpenShut
import Derived.ChangeOld
import Derived.Deep.DeepHandedRow
import Derived.Lib.LaidTab
import Derived.ShutString
namespace Go.Proofs.YtoegohofmhijgaaDoor.headerCodes
open Go.ChangeShapes Go.WideShapes Go.ChangeAt Go.RowKit
open Go.ChangeMaps (open_string shut_string)
open Go.Proofs.YtoegohofmhijgaaDoor.M (grew grewAlloc isH logH_lt genH_lt stH_lt)
open Go.Proofs.YtoegohofmhijgaaDoor.W Go.Proofs.YtoegohofmhijgaaDoor.D
set_option linter.unusedVariables false

theorem any (a g s b : Int) (t : ByteArray) (n0 n1 n2 n3 k : Int) (w : World) (hT : Wide w) (ht : t.size ≤ 200) (wa : (Lit.int .i64 a).wf = true) (wg : (Lit.int .u32 g).wf = true) (ws : (Lit.int .u32 s).wf = true) (wb : (Lit.int .i64 b).wf = true)
    (k0 : (Lit.int .i64 n0).wf = true) (k1 : (Lit.int .u32 n1).wf = true) (k2 : (Lit.int .u32 n2).wf = true) (k3 : (Lit.int .i64 n3).wf = true)
    (hp : ∀ W : World, Wide W → Calls Tryd.prog 8 #[.string t] W fun x w' => x = .returned (.tuple #[.agg #[.int .i64 n0, .int .u32 n1, .int .u32 n2, .int .i64 n3], .int .i64 k]) ∧ Below W.heap.size W w')
    (hr : ∀ W : World, Calls Tryd.prog 9 #[.string t] W fun x w' => x = .returned (.agg #[.int .i64 n0, .int .u32 n1, .int .u32 n2, .int .i64 n3, .int .i64 k]) ∧ Below W.heap.size W w') :
    Calls Tryd.prog 3 #[.agg #[.int .i64 a, .int .u32 g, .int .u32 s, .int .i64 b], .string t] w fun x w' => x = .returned (.bool true) ∧ Below w.heap.size w w' := by
  cases hk : okH a b with
  | false => exact hcodes_no a g s b t n0 n1 n2 n3 k w hT ht hk k0 k1 k2 k3 hp hr
  | true =>
    unfold okH at hk
    simp at hk
    have hg : 0 ≤ g ∧ g ≤ 4294967295 := by
      have hb : IntKind.u32.min ≤ g ∧ g ≤ IntKind.u32.max := by simpa [Lit.wf] using wg
      have q1 : IntKind.u32.min = 0 := by decide
      have q2 : IntKind.u32.max = 4294967295 := by decide
      rw [q1, q2] at hb
      exact hb
    have hs : 0 ≤ s ∧ s ≤ 4294967295 := by
      have hb : IntKind.u32.min ≤ s ∧ s ≤ IntKind.u32.max := by simpa [Lit.wf] using ws
      have q1 : IntKind.u32.min = 0 := by decide
      have q2 : IntKind.u32.max = 4294967295 := by decide
      rw [q1, q2] at hb
      exact hb
    obtain ⟨a', rfl⟩ : ∃ n : Nat, a = (n : Int) := ⟨a.toNat, by omega⟩
    obtain ⟨g', rfl⟩ : ∃ n : Nat, g = (n : Int) := ⟨g.toNat, by omega⟩
    obtain ⟨s', rfl⟩ : ∃ n : Nat, s = (n : Int) := ⟨s.toNat, by omega⟩
    obtain ⟨b', rfl⟩ : ∃ n : Nat, b = (n : Int) := ⟨b.toNat, by omega⟩
    exact hcodes_yes a' g' s' b' t n0 n1 n2 n3 k w hT ht (by omega) (by omega) (by omega) (by omega) (by omega) k0 k1 k2 k3 hp hr
theorem walk (a g s b : Int) (t : ByteArray) (w : World) (hT : Wide w) (wa : (Lit.int .i64 a).wf = true) (wg : (Lit.int .u32 g).wf = true) (ws : (Lit.int .u32 s).wf = true) (wb : (Lit.int .i64 b).wf = true) (_ : t.size ≤ maxLen) :
    Calls Tryd.prog 3 #[.agg #[.int .i64 a, .int .u32 g, .int .u32 s, .int .i64 b], .string t] w fun x w' => x = .returned (.bool true) ∧ Below w.heap.size w w' := by
  by_cases ht : t.size ≤ 200
  · by_cases hl : t.size < 32
    · exact any a g s b t 0 0 0 0 3 w hT ht wa wg ws wb (by kernel_rfl) (by kernel_rfl) (by kernel_rfl) (by kernel_rfl) (fun W _ => decH_short t W hl) (fun W => rdecH_short t W hl)
    · by_cases hi : isH t
      · exact any a g s b t _ _ _ _ 0 w hT ht wa wg ws wb (wfI _ (by have := logH_lt t; omega)) (wfUn _ (genH_lt t)) (wfUn _ (stH_lt t)) (wfI _ hi.2.1) (fun W hW => decH_isH t W hW (by omega) hi) (fun W => rdecH_isH t W (by omega) (by omega) hi)
      · exact any a g s b t 0 0 0 0 4 w hT ht wa wg ws wb (by kernel_rfl) (by kernel_rfl) (by kernel_rfl) (by kernel_rfl) (fun W hW => decH_notH t W hW (by omega) hi) (fun W => rdecH_notH t W (by omega) (by omega) hi)
  · have hB := (Below.refl w.heap.size w).alloc (Nat.le_refl _) (.cells (hdr a g s b).toArray 24)
    have h1 := Lib.hid (one_any _ (hT.below hB))
    have z1 : (200 : Int) < (t.size : Int) := by omega
    replace hB := Lib.hid hB
    clear hT ht
    go_enter Tryd.func3, Tryd.ntmps3
    go_wp2_with fail
    refine h1.out.mono ?_
    rintro ee w1 ⟨rfl, hb⟩
    go_wp2_with fail
    go_ret
    exact ⟨rfl, grew hB.out hb⟩

theorem own : ownKnob Tryd.prog.godebug = none := by kernel_rfl
theorem laidOut : laidOutB Tryd.prog = true := by kernel_rfl
theorem gW : Tryd.prog.globalNamed "weighlock/header.widths" = some 0 := by kernel_rfl
theorem gWType : (Tryd.prog.globals[0]?).map (·.type) = some 63 := by kernel_rfl
theorem cellsW4 : Tryd.prog.cellsOf 63 = 4 := by kernel_rfl
theorem cellsW1 : Tryd.prog.cellsOf 3 = 1 := by kernel_rfl
/-- What the row's list gives: the table's numbers. -/
theorem table {W : World} (h : laidMetH Tryd.prog Rows.headerCodesRow.laid W) : Lib.TabIs Tryd.prog W "weighlock/header.widths" .i64 [2, 4, 4, 8] :=
  Lib.tabIs_of_head (rest := []) gW gWType Tryd.underlying63 Tryd.underlying3 cellsW1 cellsW4 h

set_option maxRecDepth 100000 in
theorem contract (H : Type) (enc : TypeId × Value → H) (W : World) (base : Nat) (args : Array Value) (ds gs : List (DataW H)) (before : List MemPlace)
    (hval : ∀ (j : Nat) t v, Tryd.f3.params[j]? = some t → args[j]? = some v → Value.okWide Tryd.prog W .any base t v)
    (hW : DataW.Whole enc Tryd.prog Tryd.f3.params.toList Rows.headerCodesSpec.vars false W args.toList ds gs before) (hL : laidMetH Tryd.prog Rows.headerCodesRow.laid W) :
    Calls Tryd.prog 3 args W fun e W' => ∃ v, e = .returned v ∧ Rows.headerCodesSpec.post enc Tryd.prog Tryd.f3 false true false false W args v W' := by
  have hTb : Wide W := fun i hi => by
    match i, hi with
    | 0, _ => exact (table hL).cell gW 0 (by decide)
    | 1, _ => exact (table hL).cell gW 1 (by decide)
    | 2, _ => exact (table hL).cell gW 2 (by decide)
    | 3, _ => exact (table hL).cell gW 3 (by decide)
  have hW' := hW
  obtain ⟨p, q, hA0, hV, rfl, hfz, hnd⟩ := hW
  have hA : DataW.TrodAll enc Tryd.prog W 0 (fun _ => true) true Tryd.f3.params.toList args.toList ds p := hA0
  rw [Tryd.params3] at hA hval
  obtain ⟨v0, vs0, d0, ds0, p0, q0, hargs, rfl, rfl, h0, r0⟩ := trodAll_cons hA
  obtain ⟨v1, vs1, d1, ds1, p1, q1, rfl, rfl, rfl, h1, r1⟩ := trodAll_cons r0
  obtain ⟨rfl, rfl, rfl⟩ := trodAll_nil r1
  obtain rfl : args = #[v0, v1] := by cases args; simp_all
  obtain ⟨rfl, rfl⟩ := trodVars_none hV
  have k0 := h0
  have lt0 : ∀ x ∈ p0, x.block < W.heap.size := by obtain ⟨m, hm⟩ := k0; exact DataW.trod_lt m _ _ _ hm
  obtain ⟨ha0, hg0, hs0, hb0, rfl, wha0, whg0, whs0, whb0⟩ := M.open_hd4 (hval 0 24 v0 rfl rfl) h0
  obtain ⟨a1, rfl, rfl, rfl, w1⟩ := open_string Tryd.underlying9 (hval 1 9 v1 rfl rfl) h1
  clear hA0
  refine (walk ha0 hg0 hs0 hb0 a1 W hTb wha0 whg0 whs0 whb0 w1).mono fun e W' ⟨he, bel⟩ => ?_
  subst he
  exact ⟨_, rfl, _, _, _, [], _, [], hW', trodAll_mk1 (shut_bool Tryd.underlying4 _), (trodAll_cons_mk (Below.trod laidOut (by kernel_rfl) (of_decide_eq_true (by kernel_rfl)) k0 bel lt0) (trodAll_cons_mk (shut_string Tryd.underlying9 w1) trodAll_mk0)), rfl, bel.frame _, fun h => by cases h⟩

/-- A world for the witness: the settled one, the table as its initialiser lays it. -/
noncomputable def laidWorld (os : Os) : World :=
  { World.holding Tryd.prog os ⟨#[], #[], []⟩ with heap := (World.holding Tryd.prog os ⟨#[], #[], []⟩).heap.modify 0 fun
      | .cells _ t frozen => .cells #[.int .i64 2, .int .i64 4, .int .i64 4, .int .i64 8] t frozen
      | o => o }
theorem laid_met (os : Os) : laidMet Tryd.prog Rows.headerCodesRow.laid ((laidWorld os).forCall (fun _ _ => 0) ⟨#[], #[.agg #[.int .i64 0, .int .u32 0, .int .u32 0, .int .i64 0], .string ByteArray.empty], []⟩).memory :=
  laidMet_of_run' 8 (by kernel_rfl) (by kernel_rfl)
theorem reads (os : Os) {H : Type} (enc : TypeId × Value → H) : ∃ places, DataW.whole enc Tryd.prog ((laidWorld os).forCall (fun _ _ => 0) ⟨#[], #[.agg #[.int .i64 0, .int .u32 0, .int .u32 0, .int .i64 0], .string ByteArray.empty], []⟩).memory Tryd.f3.params.toList Rows.headerCodesSpec.vars false (#[.agg #[.int .i64 0, .int .u32 0, .int .u32 0, .int .i64 0], .string ByteArray.empty] : Array Value).toList 8 = some ([.agg [.lit (.int .i64 0), .lit (.int .u32 0), .lit (.int .u32 0), .lit (.int .i64 0)], .lit (.string [])], [], places) :=
  ⟨[], by kernel_rfl⟩
set_option maxRecDepth 100000 in
theorem lifted (os : Os) (started : os.Started) (H : Type) (enc : TypeId × Value → H) (F : Stop.Interp) :
    ReturnsInHanded {} Tryd.checked os 3 .any ((OpenSpec.ofChange Rows.headerCodesSpec).preRow enc Tryd.prog Tryd.f3 Rows.headerCodesRow.domain false Rows.headerCodesRow.laid) (((OpenSpec.ofChange Rows.headerCodesSpec).at F).post enc Tryd.prog Tryd.f3 false true false false) := by
  obtain ⟨places, hx⟩ := reads os enc
  refine returnsInHanded_of_row (C := Tryd.checked) (s := OpenSpec.ofChange Rows.headerCodesSpec) own started (by kernel_rfl) Tryd.func3
    (witness_row_at (enc := enc) (C := Tryd.checked) false (laidWorld os) #[.agg #[.int .i64 0, .int .u32 0, .int .u32 0, .int .i64 0], .string ByteArray.empty] rfl (by kernel_rfl) (by kernel_rfl) (by kernel_rfl)
      (OpenSpec.preRow_of_cond 8 hx (by kernel_rfl) (fun k hk => by cases hk) (by kernel_rfl) (laid_met os))) ?_
  intro W base args ds gs before hval hW _ _ _ hL _ _
  exact contract H enc W base args ds gs before hval hW hL
theorem over : Rows.headerCodesRow.holds Tryd.pinned (OpenSpec.ofChange Rows.headerCodesSpec) :=
  OpenClaim.holds_of_cond 3 Tryd.f3 rfl rfl rfl rfl rfl rfl rfl ⟨rfl, rfl, rfl, rfl, rfl⟩ rfl rfl rfl rfl rfl (by kernel_rfl) Tryd.func3 (by kernel_rfl)
    (of_decide_eq_true (by kernel_rfl)) (by unfold Func.isWrapper; first | (rw [if_pos (by decide +kernel)]; kernel_rfl) | (rw [if_neg (by decide +kernel)]; exact ⟨rfl, rfl⟩))
    (fun os started H enc _ F => by rw [OpenClaim.pre_eq_preRow]; exact lifted os started H enc F)
theorem allPlain : (Tryd.f3.params.toList.all fun u => !(Tryd.prog.wantsStandIn u)) = true := by kernel_rfl
/-- No parameter wants a stand-in; the program's own looks are off. -/
theorem plain (f : FuncId) (fn : Func) (hf : Tryd.pinned.checked.prog.funcNamed "weighlock/weighlocklaw11.HeaderCodes" = some f) (hfn : Tryd.pinned.checked.prog.funcs[f]? = some fn) :
    false = Tryd.pinned.checked.prog.looks [] ∧ ∀ (j : Nat) t, fn.params[j]? = some t → Tryd.pinned.checked.prog.wantsStandIn t = false := by
  obtain rfl : f = 3 := Option.some.inj ((show Tryd.prog.funcNamed "weighlock/weighlocklaw11.HeaderCodes" = some 3 by kernel_rfl).symm.trans hf) |>.symm
  obtain rfl : fn = Tryd.f3 := (Option.some.inj (Tryd.func3.symm.trans hfn)).symm
  refine ⟨by kernel_rfl, fun j t ht => ?_⟩
  have h := List.all_eq_true.1 allPlain t (Array.mem_toList_iff.2 (Array.mem_of_getElem? ht))
  have h2 : Tryd.prog.wantsStandIn t = false := by simpa using h
  exact h2

/-- The statement: the tied card. -/
theorem proved : Rows.HeaderCodesCardSaid :=
  Claim7.holds_tied_plain_at .later [] _ _ _ _ over (fun _ h => by cases h) (by kernel_rfl) (fun _ h => by cases h) headerCodes_row_tie rfl ⟨rfl, rfl⟩ (by kernel_rfl) rfl plain (by kernel_rfl)
#print axioms proved

end Go.Proofs.YtoegohofmhijgaaDoor.headerCodes
