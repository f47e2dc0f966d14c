/- For every two rows of 64 bytes and every super the law SuperLoads returns true: what is loaded of a view is Pick of its two sectors; of a dead one, and of nil, nothing. No condition. -/
import Derived.Test.YtkmlmondhmpkkaaRows
import Derived.Test.YtkmlmondhmpkkaaSuLoads
import Derived.Test.YtkmlmondhmpkkaaOpenSuper
import Derived.ChangeOld
import Derived.ShutString
namespace Go.Proofs.Ytkmlmondhmpkkaa.superLoads
open Go.ChangeShapes Go.WideShapes Go.ChangeAt Go.RowKit
open Go.ChangeMaps (open_string shut_string)
open Go.Proofs.Ytkmlmondhmpkkaa.M Go.Proofs.Ytkmlmondhmpkkaa.W Go.Proofs.Ytkmlmondhmpkkaa.D Go.Proofs.Ytkmlmondhmpkkaa.Z
set_option linter.unusedVariables false
theorem zeros4 : (zeros 4)[1]? = some (List.replicate 64 0) ∧ (zeros 4)[2]? = some (List.replicate 64 0) := by decide
theorem walk (l m : List UInt8) (a b c d e : Int) (w : World) (hl : l.length = 64) (hm : m.length = 64) (w0 : (Lit.int .u32 a).wf = true) (w1 : (Lit.int .u32 b).wf = true) (w2 : (Lit.int .u32 c).wf = true) (w3 : (Lit.int .u32 d).wf = true) (w4 : (Lit.int .u32 e).wf = true) :
    Calls Try.prog 8 #[.agg (bytesV l).toArray, .agg (bytesV m).toArray, .agg #[.int .u32 a, .int .u32 b, .int .u32 c, .int .u32 d, .int .u32 e]] w fun e w' => e = .returned (.bool true) ∧ Below w.heap.size w w' := by
  obtain ⟨a0, a1⟩ := bounds_u32 w0
  obtain ⟨b0, b1⟩ := bounds_u32 w1
  obtain ⟨c0, c1⟩ := bounds_u32 w2
  obtain ⟨d0, d1⟩ := bounds_u32 w3
  obtain ⟨e0, e1⟩ := bounds_u32 w4
  obtain ⟨a, rfl⟩ := Int.eq_ofNat_of_zero_le a0
  obtain ⟨b, rfl⟩ := Int.eq_ofNat_of_zero_le b0
  obtain ⟨c, rfl⟩ := Int.eq_ofNat_of_zero_le c0
  obtain ⟨d, rfl⟩ := Int.eq_ofNat_of_zero_le d0
  obtain ⟨e, rfl⟩ := Int.eq_ofNat_of_zero_le e0
  obtain ⟨r, hr⟩ := picks_some (B l) (B m)
  have q0 : Go.Proofs.Ytkmlmondhmpkkaa.D.rd [(1, l), (2, m)] (1 + 0) (List.replicate 64 0) = l := by simp [Go.Proofs.Ytkmlmondhmpkkaa.D.rd]
  have q1 : Go.Proofs.Ytkmlmondhmpkkaa.D.rd [(1, l), (2, m)] (1 + 1) (List.replicate 64 0) = m := by simp [Go.Proofs.Ytkmlmondhmpkkaa.D.rd]
  have hld := fun (w0 W : World) (vb d g : Nat) (h : SV w0 vb d g (zeros 4) [(1, l), (2, m)] 1 2 (-1) 2 false W) =>
    sv_load (List.replicate 64 0) (List.replicate 64 0) h (by decide) zeros4.1 zeros4.2 (by simp) r (by rw [q0, q1]; exact hr) (by rw [q0]; exact hl) (by rw [q1]; exact hm)
  have hp := fun W => suPick_any (B l) (B m) W (by rw [B_size]; omega) (by rw [B_size]; omega) r hr
  cases r with
  | none =>
    simp only [pickV] at hp hld
    exact sloads_go l m hl hm a b c d e 0 0 0 0 0 22 w (by omega) (by omega) (by omega) (by omega) (by omega) (by decide) (by decide) (by decide) (by decide) (by decide) hld hp
  | some s =>
    simp only [pickV, u5] at hp hld
    exact sloads_go l m hl hm a b c d e _ _ _ _ _ 0 w (by omega) (by omega) (by omega) (by omega) (by omega) (numU_lt _ _) (numU_lt _ _) (numU_lt _ _) (numU_lt _ _) (numU_lt _ _) hld hp


theorem own : ownKnob Try.prog.godebug = none := by kernel_rfl
theorem laidOut : laidOutB Try.prog = true := by kernel_rfl

set_option maxRecDepth 100000 in
theorem lifted (os : Os) (started : os.Started) (H : Type) (enc : TypeId × Value → H) :
    ReturnsInHanded {} Try.checked os 8 .any (Rows.superLoadsSpec.pre6 enc Try.prog Try.f8 Rows.superLoadsRow.domain false) (Rows.superLoadsSpec.post enc Try.prog Try.f8 false true false false) := by
  refine returnsInHanded_of_change (C := Try.checked) own started (by kernel_rfl) Try.func8
    (ChangeSpec.witness6 (enc := enc) (C := Try.checked) false ⟨#[], #[.agg (Array.replicate 64 (.int .u8 0)), .agg (Array.replicate 64 (.int .u8 0)), .agg #[.int .u32 0, .int .u32 0, .int .u32 0, .int .u32 0, .int .u32 0]], []⟩ 8 (by kernel_rfl) (by kernel_rfl) (by kernel_rfl) (by kernel_rfl)) ?_
  intro W base args ds gs before hval0 hW hcnd _
  have hval : ∀ (j : Nat) t v, Try.f8.params[j]? = some t → args[j]? = some v → Value.okWide Try.prog W .any base t v := hval0
  have hW' := hW
  obtain ⟨p, q, hA0, hV, rfl, hfz, hnd⟩ := hW
  have hA : DataW.TrodAll enc Try.prog W 0 (fun _ => true) true Try.f8.params.toList args.toList ds p := hA0
  rw [Try.params8] at hA hval
  obtain ⟨v0, vs0, d0, ds0, p0, q0, hargs, rfl, rfl, h0, r0⟩ := trodAll_cons hA
  obtain ⟨v1, vs1, d1, ds1, p1, q1, rfl, rfl, rfl, h1, r1⟩ := trodAll_cons r0
  obtain ⟨v2, vs2, d2, ds2, p2, q2, rfl, rfl, rfl, h2, r2⟩ := trodAll_cons r1
  obtain ⟨rfl, rfl, rfl⟩ := trodAll_nil r2
  obtain rfl : args = #[v0, v1, v2] := by cases args; simp_all
  obtain ⟨rfl, rfl⟩ := trodVars_none hV
  have k0 := h0
  have lt0 : ∀ x ∈ p0, x.block < W.heap.size := by obtain ⟨m, hm⟩ := k0; exact DataW.trod_lt m _ _ _ hm
  obtain ⟨dl0, rfl, wdl0⟩ := M.open_bytes64 (hval 0 74 v0 rfl rfl) h0
  have k1 := h1
  have lt1 : ∀ x ∈ p1, x.block < W.heap.size := by obtain ⟨m, hm⟩ := k1; exact DataW.trod_lt m _ _ _ hm
  obtain ⟨dl1, rfl, wdl1⟩ := M.open_bytes64 (hval 1 74 v1 rfl rfl) h1
  have k2 := h2
  have lt2 : ∀ x ∈ p2, x.block < W.heap.size := by obtain ⟨m, hm⟩ := k2; exact DataW.trod_lt m _ _ _ hm
  obtain ⟨ua2, ub2, uc2, ud2, ue2, rfl, wa2, wb2, wc2, wd2, we2⟩ := M.open_super5 (hval 2 43 v2 rfl rfl) h2
  clear hA0 hval0
  refine (walk dl0 dl1 ua2 ub2 uc2 ud2 ue2 W wdl0 wdl1 wa2 wb2 wc2 wd2 we2).mono fun e W' ⟨he, bel⟩ => ?_
  subst he
  exact ⟨_, rfl, _, _, _, [], _, [], hW', trodAll_mk1 (shut_bool Try.underlying4 _), (trodAll_cons_mk (Below.trod laidOut (by kernel_rfl) (of_decide_eq_true (by kernel_rfl)) k0 bel lt0) (trodAll_cons_mk (Below.trod laidOut (by kernel_rfl) (of_decide_eq_true (by kernel_rfl)) k1 bel lt1) (trodAll_cons_mk (Below.trod laidOut (by kernel_rfl) (of_decide_eq_true (by kernel_rfl)) k2 bel lt2) trodAll_mk0))), rfl, bel.frame _, fun h => by cases h⟩

theorem over : Rows.superLoadsRow.holds Try.pinned (OpenSpec.ofChange Rows.superLoadsSpec) :=
  OpenClaim.holds_of_wide 8 Try.f8 rfl rfl rfl rfl rfl rfl rfl ⟨rfl, rfl, rfl, rfl, rfl⟩ rfl rfl rfl rfl rfl (by kernel_rfl) Try.func8 (by kernel_rfl)
    (of_decide_eq_true (by kernel_rfl)) (by unfold Func.isWrapper; first | (rw [if_pos (by decide +kernel)]; kernel_rfl) | (rw [if_neg (by decide +kernel)]; exact ⟨rfl, rfl⟩))
    (fun os started H enc _ => lifted os started H enc)

/-- The statement. -/
theorem proved : Rows.SuperLoadsSaid := over
#print axioms proved

end Go.Proofs.Ytkmlmondhmpkkaa.superLoads
