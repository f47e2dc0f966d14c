/- For all strings the law NumsTexts returns true: a text with its length, and what is read as one, are those of the definition, and back. No condition. -/
import Derived.Test.YtngacdajagegcaaRows
import Derived.Test.YtngacdajagegcaaSome
import Derived.Test.YtngacdajagegcaaChainBack
import Derived.Test.YtngacdajagegcaaWorld
import Derived.Deep.RegionWith
import Derived.ChangeOld
import Derived.ShutString
namespace Go.Proofs.Ytngacdajagegcaa.numsTexts
open Go.ChangeShapes Go.WideShapes Go.ChangeAt Go.RowKit
open Go.ChangeMaps (open_string shut_string)
open Go.Proofs.Ytngacdajagegcaa.M Go.Proofs.Ytngacdajagegcaa.W
set_option linter.unusedVariables false

theorem chain_len_le (v : Int) : (chain v).length ≤ 10 := (chF_length 9 v).2

theorem untx_text (s t : ByteArray) (hs : s.size ≤ 1000) : untx (B (textL s.data.toList) ++ t) = (s, ((B (textL s.data.toList)).size : Int), 0) := by
  have hlen : s.data.toList.length = s.size := by simp
  have hd : (B (textL s.data.toList) ++ t).data.toList = chain (s.data.toList.length : Int) ++ (s.data.toList ++ t.data.toList) := by
    have e : B (textL s.data.toList) ++ t = B (textL s.data.toList ++ t.data.toList) := by rw [← B_append, B_of]
    rw [e, B_data]; unfold textL; rw [List.append_assoc]
  have hU := unch_chain (s.data.toList.length : Int) (by omega) (by omega) (s.data.toList ++ t.data.toList)
  rw [← hd] at hU
  have hz : (B (textL s.data.toList)).size = (chain (s.data.toList.length : Int)).length + s.data.toList.length := by
    rw [B_size]; unfold textL; rw [List.length_append]
  have hz2 : (B (textL s.data.toList) ++ t).size = (chain (s.data.toList.length : Int)).length + s.data.toList.length + t.size := by
    rw [ByteArray.size_append, hz]
  rw [untx_some _ _ _ hU (by omega) (by rw [hz2]; omega)]
  have hE : (B (textL s.data.toList) ++ t).extract ((chain (s.data.toList.length : Int)).length : Int).toNat (((chain (s.data.toList.length : Int)).length : Int) + (s.data.toList.length : Int)).toNat = s := by
    apply ByteArray.ext
    apply Array.toList_inj.1
    rw [ByteArray.data_extract, Array.toList_extract, hd]
    rw [show (((chain (s.data.toList.length : Int)).length : Int)).toNat = (chain (s.data.toList.length : Int)).length from by omega, show (((chain (s.data.toList.length : Int)).length : Int) + (s.data.toList.length : Int)).toNat = (chain (s.data.toList.length : Int)).length + s.data.toList.length from by omega]
    simp [List.extract]
  rw [hE, hz]
  rfl

set_option maxRecDepth 100000 in
set_option maxHeartbeats 4000000 in
theorem walk (a0 a1 : ByteArray) (w : World) (w0 : a0.size ≤ maxLen) (w1 : a1.size ≤ maxLen) :
    Calls Try.prog 8 #[.string a0, .string a1] w fun e w' => e = .returned (.bool true) ∧ Below w.heap.size w w' := by
  unfold maxLen at w0 w1
  by_cases hl : 300 < a0.size
  · go_enter Try.func8, Try.ntmps8
    go_wp2_with fail
    refine (some_any _).mono ?_
    rintro e w1 ⟨rfl, hb⟩
    go_wp2_with fail
    go_ret
    exact ⟨rfl, hb⟩
  · by_cases hl2 : 300 < a1.size
    · go_enter Try.func8, Try.ntmps8
      go_wp2_with fail
      refine (some_any _).mono ?_
      rintro e w1 ⟨rfl, hb⟩
      go_wp2_with fail
      go_ret
      exact ⟨rfl, hb⟩
    · have hT := Lib.hid (untx_text a0 a1 (by omega))
      have hz : (B (textL a0.data.toList)).size ≤ 310 := by
        rw [B_size]; unfold textL
        have := chain_len_le (a0.data.toList.length : Int)
        rw [List.length_append]
        have h2 : a0.data.toList.length = a0.size := by simp
        omega
      go_enter Try.func8, Try.ntmps8
      go_wp2_with fail
      refine (untext_any a1 _ (by omega)).mono ?_
      rintro e w1 ⟨rfl, hb1⟩
      go_wp2_with fail
      refine (runtext_any a1 _ (by omega)).mono ?_
      rintro e w2 ⟨rfl, hb2⟩
      go_wp2_with fail
      refine (text_any a0 _ (by omega)).mono ?_
      rintro e w3 ⟨rfl, hb3⟩
      go_wp2_with fail
      refine (untext_any (B (textL a0.data.toList) ++ a1) _ (by rw [ByteArray.size_append]; omega)).mono ?_
      rintro e w4 ⟨rfl, hb4⟩
      rw [hT.out]
      go_wp2_with fail
      refine (text_any a0 _ (by omega)).mono ?_
      rintro e w5 ⟨rfl, hb5⟩
      go_wp2_with fail
      refine (rtext_any a0 _ (by omega)).mono ?_
      rintro e w6 ⟨rfl, hb6⟩
      go_wp2_with fail
      refine (text_any a0 _ (by omega)).mono ?_
      rintro e w7 ⟨rfl, hb7⟩
      go_wp2_with fail
      refine (some_any _).mono ?_
      rintro e w8 ⟨rfl, hb8⟩
      go_wp2_with fail
      go_ret
      exact ⟨rfl, grew (grew (grew (grew (grew (grew (grewAlloc (grew hb1 hb2) _) hb3) hb4) hb5) hb6) hb7) hb8⟩


theorem own : ownKnob Try.prog.godebug = none := by kernel_rfl
theorem laidOut : laidOutB Try.prog = true := by kernel_rfl

set_option maxRecDepth 100000 in
theorem lifted (os : Os) (started : os.Started) (H : Type) (enc : TypeId × Value → H) :
    ReturnsInHanded {} Try.checked os 8 .any (Rows.numsTextsSpec.pre6 enc Try.prog Try.f8 Rows.numsTextsRow.domain false) (Rows.numsTextsSpec.post enc Try.prog Try.f8 false true false false) := by
  refine returnsInHanded_of_change (C := Try.checked) own started (by kernel_rfl) Try.func8
    (ChangeSpec.witness6 (enc := enc) (C := Try.checked) false ⟨#[], #[.string ByteArray.empty, .string ByteArray.empty], []⟩ 8 (by kernel_rfl) (by kernel_rfl) (by kernel_rfl) (by kernel_rfl)) ?_
  intro W base args ds gs before hval0 hW hcnd _
  have hval : ∀ (j : Nat) t v, Try.f8.params[j]? = some t → args[j]? = some v → Value.okWide Try.prog W .any base t v := hval0
  have hW' := hW
  obtain ⟨p, q, hA0, hV, rfl, hfz, hnd⟩ := hW
  have hA : DataW.TrodAll enc Try.prog W 0 (fun _ => true) true Try.f8.params.toList args.toList ds p := hA0
  rw [Try.params8] at hA hval
  obtain ⟨v0, vs0, d0, ds0, p0, q0, hargs, rfl, rfl, h0, r0⟩ := trodAll_cons hA
  obtain ⟨v1, vs1, d1, ds1, p1, q1, rfl, rfl, rfl, h1, r1⟩ := trodAll_cons r0
  obtain ⟨rfl, rfl, rfl⟩ := trodAll_nil r1
  obtain rfl : args = #[v0, v1] := by cases args; simp_all
  obtain ⟨rfl, rfl⟩ := trodVars_none hV
  obtain ⟨a0, rfl, rfl, rfl, w0⟩ := open_string Try.underlying9 (hval 0 9 v0 rfl rfl) h0
  obtain ⟨a1, rfl, rfl, rfl, w1⟩ := open_string Try.underlying9 (hval 1 9 v1 rfl rfl) h1
  clear hA0 hval0
  refine (walk a0 a1 W w0 w1).mono fun e W' ⟨he, bel⟩ => ?_
  subst he
  exact ⟨_, rfl, _, _, _, [], [], [], hW', trodAll_mk1 (shut_bool Try.underlying4 _), (trodAll_cons_mk (shut_string Try.underlying9 w0) (trodAll_cons_mk (shut_string Try.underlying9 w1) trodAll_mk0)), rfl, bel.frame _, fun h => by cases h⟩

theorem over : Rows.numsTextsRow.holds Try.pinned (OpenSpec.ofChange Rows.numsTextsSpec) :=
  OpenClaim.holds_of_wide 8 Try.f8 rfl rfl rfl rfl rfl rfl rfl ⟨rfl, rfl, rfl, rfl, rfl⟩ rfl rfl rfl rfl rfl (by kernel_rfl) Try.func8 (by kernel_rfl)
    (of_decide_eq_true (by kernel_rfl)) (by unfold Func.isWrapper; first | (rw [if_pos (by decide +kernel)]; kernel_rfl) | (rw [if_neg (by decide +kernel)]; exact ⟨rfl, rfl⟩))
    (fun os started H enc _ => lifted os started H enc)

/-- The statement. -/
theorem proved : Rows.NumsTextsSaid := over
#print axioms proved

end Go.Proofs.Ytngacdajagegcaa.numsTexts
