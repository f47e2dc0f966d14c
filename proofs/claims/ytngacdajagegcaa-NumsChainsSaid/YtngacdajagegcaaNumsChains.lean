/- For every uint64 and every string the law NumsChains returns true: the chain is that of the definition, and is read back, whatever stands behind. No condition. -/
import Derived.Test.YtngacdajagegcaaRows
import Derived.Test.YtngacdajagegcaaSome
import Derived.Test.YtngacdajagegcaaChainBack
import Derived.Test.YtngacdajagegcaaWorld
import Derived.Deep.RegionWith
import Derived.ChangeOld
import Derived.ShutString
namespace Go.Proofs.Ytngacdajagegcaa.numsChains
open Go.ChangeShapes Go.WideShapes Go.ChangeAt Go.RowKit
open Go.ChangeMaps (open_string shut_string)
open Go.Proofs.Ytngacdajagegcaa.M Go.Proofs.Ytngacdajagegcaa.W
set_option linter.unusedVariables false

theorem walk (a0 : Int) (a1 : ByteArray) (w : World) (w0 : (Lit.int .u64 a0).wf = true) (w1 : a1.size ≤ maxLen) :
    Calls Try.prog 4 #[.int .u64 a0, .string a1] w fun e w' => e = .returned (.bool true) ∧ Below w.heap.size w w' := by
  obtain ⟨l0, l1⟩ := bounds_u64 w0
  unfold maxLen at w1
  by_cases hl : 100 < a1.size
  · go_enter Try.func4, Try.ntmps4
    go_wp2_with fail
    refine (some_any _).mono ?_
    rintro e w1 ⟨rfl, hb⟩
    go_wp2_with fail
    go_ret
    exact ⟨rfl, hb⟩
  · have hz : (B (chain a0)).size ≤ 10 := chF_size 9 a0
    have hL := B_size (chain a0)
    have hU := unch_chain a0 (by omega) (by omega) a1.data.toList
    have hcat : (B (chain a0) ++ a1).data.toList = chain a0 ++ a1.data.toList := by rw [← B_of a1, B_append, B_data, B_of]
    have hlast : a0 < 128 ^ (9 + 1) := by
      simp only [show (128 : Int) ^ (9 + 1) = 1180591620717411303424 from rfl]; omega
    rw [← hcat, ← hL] at hU
    replace hU := Lib.hid hU
    replace hlast := Lib.hid hlast
    clear hcat hL
    go_enter Try.func4, Try.ntmps4
    go_wp2_with fail
    refine (chain_any a0 _ (by omega) (by omega)).mono ?_
    rintro e w1 ⟨rfl, hb1⟩
    go_wp2_with fail
    refine (unchain_any (B (chain a0) ++ a1) _ (by rw [ByteArray.size_append]; omega)).mono ?_
    rintro e w2 ⟨rfl, rfl⟩
    rw [hU.out]
    go_wp2_with fail
    refine (rchain_any 9 a0 _ (by omega) hlast.out (by omega) (by omega)).mono ?_
    rintro e w2 ⟨rfl, hb2⟩
    rw [show chF 9 a0 = chain a0 from rfl]
    go_wp2_with fail
    refine (some_any _).mono ?_
    rintro e w3 ⟨rfl, hb3⟩
    go_wp2_with fail
    go_ret
    exact ⟨rfl, (hb1.trans (hb2.mono hb1.size)).trans (hb3.mono (Nat.le_trans hb1.size hb2.size))⟩


theorem own : ownKnob Try.prog.godebug = none := by kernel_rfl
theorem laidOut : laidOutB Try.prog = true := by kernel_rfl

set_option maxRecDepth 100000 in
theorem lifted (os : Os) (started : os.Started) (H : Type) (enc : TypeId × Value → H) :
    ReturnsInHanded {} Try.checked os 4 .any (Rows.numsChainsSpec.pre6 enc Try.prog Try.f4 Rows.numsChainsRow.domain false) (Rows.numsChainsSpec.post enc Try.prog Try.f4 false true false false) := by
  refine returnsInHanded_of_change (C := Try.checked) own started (by kernel_rfl) Try.func4
    (ChangeSpec.witness6 (enc := enc) (C := Try.checked) false ⟨#[], #[.int .u64 0, .string ByteArray.empty], []⟩ 8 (by kernel_rfl) (by kernel_rfl) (by kernel_rfl) (by kernel_rfl)) ?_
  intro W base args ds gs before hval0 hW hcnd _
  have hval : ∀ (j : Nat) t v, Try.f4.params[j]? = some t → args[j]? = some v → Value.okWide Try.prog W .any base t v := hval0
  have hW' := hW
  obtain ⟨p, q, hA0, hV, rfl, hfz, hnd⟩ := hW
  have hA : DataW.TrodAll enc Try.prog W 0 (fun _ => true) true Try.f4.params.toList args.toList ds p := hA0
  rw [Try.params4] at hA hval
  obtain ⟨v0, vs0, d0, ds0, p0, q0, hargs, rfl, rfl, h0, r0⟩ := trodAll_cons hA
  obtain ⟨v1, vs1, d1, ds1, p1, q1, rfl, rfl, rfl, h1, r1⟩ := trodAll_cons r0
  obtain ⟨rfl, rfl, rfl⟩ := trodAll_nil r1
  obtain rfl : args = #[v0, v1] := by cases args; simp_all
  obtain ⟨rfl, rfl⟩ := trodVars_none hV
  obtain ⟨a0, rfl, rfl, rfl, w0⟩ := open_int Try.underlying22 (hval 0 22 v0 rfl rfl) h0
  obtain ⟨a1, rfl, rfl, rfl, w1⟩ := open_string Try.underlying9 (hval 1 9 v1 rfl rfl) h1
  clear hA0 hval0
  refine (walk a0 a1 W w0 w1).mono fun e W' ⟨he, bel⟩ => ?_
  subst he
  exact ⟨_, rfl, _, _, _, [], [], [], hW', trodAll_mk1 (shut_bool Try.underlying4 _), (trodAll_cons_mk (shut_int Try.underlying22 w0) (trodAll_cons_mk (shut_string Try.underlying9 w1) trodAll_mk0)), rfl, bel.frame _, fun h => by cases h⟩

theorem over : Rows.numsChainsRow.holds Try.pinned (OpenSpec.ofChange Rows.numsChainsSpec) :=
  OpenClaim.holds_of_wide 4 Try.f4 rfl rfl rfl rfl rfl rfl rfl ⟨rfl, rfl, rfl, rfl, rfl⟩ rfl rfl rfl rfl rfl (by kernel_rfl) Try.func4 (by kernel_rfl)
    (of_decide_eq_true (by kernel_rfl)) (by unfold Func.isWrapper; first | (rw [if_pos (by decide +kernel)]; kernel_rfl) | (rw [if_neg (by decide +kernel)]; exact ⟨rfl, rfl⟩))
    (fun os started H enc _ => lifted os started H enc)

/-- The statement. -/
theorem proved : Rows.NumsChainsSaid := over
#print axioms proved

end Go.Proofs.Ytngacdajagegcaa.numsChains
