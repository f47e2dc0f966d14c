/- Package catalog: Apply. -/
import Derived.Test.YtgogackkeodciaaGreatCgI
import Derived.Test.YtgogackkeodciaaGreatCgH
namespace Go.Proofs.YtgogackkeodciaaGreat.W
open Go.RowKit Go.Sort
open Go.Proofs.YtgogackkeodciaaGreat.M Go.Proofs.YtgogackkeodciaaGreat.D Go.Proofs.YtgogackkeodciaaGreat.Z
set_option linter.unusedVariables false
set_option linter.unusedSimpArgs false

set_option maxRecDepth 100000 in
set_option maxHeartbeats 2000000 in
theorem applied_any {B0 : Nat} (xb cb : Nat) (m : Option Nat) (T : List To) (n : Int) (c : Nat) (kd : Int) (s : ByteArray) (w : World) (h : CaAt B0 w cb m T n c) (hr : RdC w xb cb s (some 0)) (hB0 : B0 ≤ w.heap.size) (hc : c ≤ 90000) :
    Calls Tryz.prog 31 #[.pointer (some ⟨xb, 0, none⟩), .int .i64 kd] w (ApPost B0 xb cb m T n c (appF T n kd s) w) := by
  have hx := entry_ne h hr
  have a1 := makeTopic_any xb cb m T n c s w h hr hB0 hc
  have a2 := dropTopic_any xb cb m T n c s w h hr
  have a3 := setMeta_any xb cb m T n c s w h hr hB0 hc
  have a4 := setCount_any xb cb m T n c s w h hr
  have hno := ap_no (R := none) h hx rfl (Kept.refl (fun q => q = xb) w)
  clear h hr hx
  by_cases k1 : kd = 1
  · subst k1
    rw [show appF T n 1 s = makeF T n s from rfl]
    replace a1 := Lib.hid a1
    clear a2 a3 a4 hno
    obtain ⟨Q, hQ⟩ : ∃ Q, Hid (ApPost B0 xb cb m T n c (makeF T n s) w = Q) := ⟨_, Lib.hid rfl⟩
    have hb : Hid (∀ e w', ApPost B0 xb cb m T n c (makeF T n s) w e w' → ∃ b, e = .returned (.bool b)) := Lib.hid (fun e w' ⟨_, q, _⟩ => ⟨_, q⟩)
    rw [hQ.out] at a1 hb ⊢
    go_enter Tryz.func31, Tryz.ntmps31
    go_wp2_with fail
    refine a1.out.mono ?_
    intro e w2 hp
    obtain ⟨b, rfl⟩ := hb.out e w2 hp
    replace hp := Lib.hid hp
    go_wp2_with fail
    exact hp.out
  by_cases k2 : kd = 2
  · subst k2
    rw [show appF T n 2 s = dropF T n s from rfl]
    replace a2 := Lib.hid a2
    clear a1 a3 a4 hno
    obtain ⟨Q, hQ⟩ : ∃ Q, Hid (ApPost B0 xb cb m T n c (dropF T n s) w = Q) := ⟨_, Lib.hid rfl⟩
    have hb : Hid (∀ e w', ApPost B0 xb cb m T n c (dropF T n s) w e w' → ∃ b, e = .returned (.bool b)) := Lib.hid (fun e w' ⟨_, q, _⟩ => ⟨_, q⟩)
    rw [hQ.out] at a2 hb ⊢
    go_enter Tryz.func31, Tryz.ntmps31
    go_wp2_with fail
    refine a2.out.mono ?_
    intro e w2 hp
    obtain ⟨b, rfl⟩ := hb.out e w2 hp
    replace hp := Lib.hid hp
    go_wp2_with fail
    exact hp.out
  by_cases k3 : kd = 3
  · subst k3
    rw [show appF T n 3 s = setF T n s from rfl]
    replace a3 := Lib.hid a3
    clear a1 a2 a4 hno
    obtain ⟨Q, hQ⟩ : ∃ Q, Hid (ApPost B0 xb cb m T n c (setF T n s) w = Q) := ⟨_, Lib.hid rfl⟩
    have hb : Hid (∀ e w', ApPost B0 xb cb m T n c (setF T n s) w e w' → ∃ b, e = .returned (.bool b)) := Lib.hid (fun e w' ⟨_, q, _⟩ => ⟨_, q⟩)
    rw [hQ.out] at a3 hb ⊢
    go_enter Tryz.func31, Tryz.ntmps31
    go_wp2_with fail
    refine a3.out.mono ?_
    intro e w2 hp
    obtain ⟨b, rfl⟩ := hb.out e w2 hp
    replace hp := Lib.hid hp
    go_wp2_with fail
    exact hp.out
  by_cases k4 : kd = 4
  · subst k4
    rw [show appF T n 4 s = cntF T n s from rfl]
    replace a4 := Lib.hid a4
    clear a1 a2 a3 hno
    obtain ⟨Q, hQ⟩ : ∃ Q, Hid (ApPost B0 xb cb m T n c (cntF T n s) w = Q) := ⟨_, Lib.hid rfl⟩
    have hb : Hid (∀ e w', ApPost B0 xb cb m T n c (cntF T n s) w e w' → ∃ b, e = .returned (.bool b)) := Lib.hid (fun e w' ⟨_, q, _⟩ => ⟨_, q⟩)
    rw [hQ.out] at a4 hb ⊢
    go_enter Tryz.func31, Tryz.ntmps31
    go_wp2_with fail
    refine a4.out.mono ?_
    intro e w2 hp
    obtain ⟨b, rfl⟩ := hb.out e w2 hp
    replace hp := Lib.hid hp
    go_wp2_with fail
    exact hp.out
  have hap : appF T n kd s = none := by unfold appF; rw [if_neg k1, if_neg k2, if_neg k3, if_neg k4]
  rw [hap]
  replace hno := Lib.hid hno
  have b1 : (kd == 1) = false := by simpa using k1
  have b2 : (kd == 2) = false := by simpa using k2
  have b3 : (kd == 3) = false := by simpa using k3
  have b4 : (kd == 4) = false := by simpa using k4
  replace k1 := Lib.hid k1
  replace k2 := Lib.hid k2
  replace k3 := Lib.hid k3
  replace k4 := Lib.hid k4
  clear a1 a2 a3 a4 hap
  go_enter Tryz.func31, Tryz.ntmps31
  go_wp2_with fail
  go_ret
  exact hno.out
/-- What Apply leaves, when the entry comes to R. -/
def ApplyPost (B0 cb : Nat) (m : Option Nat) (T : List To) (n : Int) (c : Nat) (R : Option (List To × Int)) (w : World) (e : Ending) (w' : World) : Prop :=
  ∃ m', e = .returned (.int .i64 (if R.isSome then 0 else 4)) ∧ (CaAt B0 w' cb m' (R.getD (T, n)).1 (R.getD (T, n)).2 (c + 4) ∧ Kept (ofC cb m) w w' ∧ (m' = m ∨ (m = none ∧ ∃ mb, m' = some mb ∧ w.heap.size ≤ mb)))
set_option maxRecDepth 100000 in
set_option maxHeartbeats 2000000 in
theorem apply23_any {B0 : Nat} (cb : Nat) (m : Option Nat) (T : List To) (n : Int) (c : Nat) (kd : Int) (s : ByteArray) (w : World) (h : CaAt B0 w cb m T n c) (hB0 : B0 ≤ w.heap.size) (hc : c ≤ 90000) (hs : s.size ≤ 100000) :
    Calls Tryz.prog 11 #[.pointer (some ⟨cb, 0, none⟩), .agg #[.int .i64 kd, .string s]] w (ApplyPost B0 cb m T n c (appF T n kd s) w) := by
  obtain ⟨V1, hV1⟩ : ∃ V, Hid (V = w.alloc (.cells #[.int .i64 kd, .string s] 37)) := ⟨_, Lib.hid rfl⟩
  have hb1 : Below w.heap.size w V1 := by rw [hV1.out]; exact grewAlloc (Below.refl _ _) _
  have hF : Whole V1 w.heap.size 37 [.int .i64 kd, .string s] := by rw [hV1.out]; exact Whole.new w _ _
  obtain ⟨fb, hfb⟩ : ∃ q, Hid (w.heap.size = q) := ⟨_, Lib.hid rfl⟩
  rw [hfb.out] at hF
  obtain ⟨V, hV⟩ : ∃ V, Hid (V = V1.alloc (.cells #[.pointer (some ⟨cb, 0, none⟩), .string s, .bool false] 82)) := ⟨_, Lib.hid rfl⟩
  have hb2 : Below w.heap.size w V := by rw [hV.out]; exact grewAlloc hb1 _
  have hX : Whole V V1.heap.size 82 (enL cb s false) := by rw [hV.out]; exact Whole.new V1 _ _
  have hF2 : Whole V fb 37 [.int .i64 kd, .string s] := by rw [hV.out]; exact hF.alloc _
  obtain ⟨xb, hxb⟩ : ∃ q, Hid (V1.heap.size = q) := ⟨_, Lib.hid rfl⟩
  rw [hxb.out] at hX
  have hxw : w.heap.size ≤ xb := by have := hxb.out; have := hb1.size; omega
  have hrd : RdC V xb cb s (some 0) := ⟨s, false, hX, hs, fun p e => by cases e; exact ⟨ByteArray.extract_zero_size.symm, rfl, Nat.zero_le _⟩, fun e => by cases e⟩
  have hap := applied_any xb cb m T n c kd s V (h.below hb2) hrd (by have := hb2.size; omega) hc
  have f0 : V1.cell? ⟨fb, 0, none⟩ = some (.int .i64 kd) := hF.cell 0
  have f1 : V1.cell? ⟨fb, 1, none⟩ = some (.string s) := hF.cell 1
  have g0 : V.cell? ⟨fb, 0, none⟩ = some (.int .i64 kd) := hF2.cell 0
  obtain ⟨R, hR⟩ : ∃ R, Hid (appF T n kd s = R) := ⟨_, Lib.hid rfl⟩
  rw [hR.out] at hap ⊢
  have hend : Hid (∀ e w', ApPost B0 xb cb m T n c R V e w' → e = .returned (.bool R.isSome) ∧ ApplyPost B0 cb m T n c R w (.returned (.int .i64 (if R.isSome then 0 else 4))) w') := Lib.hid (fun e w' ⟨m', q1, q2, q3, q4⟩ => ⟨q1, m', rfl, q2, by
      refine kept_then (Kept.of_below hb2) q3 (fun q hq e => ?_)
      rcases e with rfl | e
      · omega
      · exact e, by
      rcases q4 with q4 | ⟨q4, mb, q5, q6⟩
      · exact .inl q4
      · exact .inr ⟨q4, mb, q5, by have := hb2.size; omega⟩⟩)
  replace hap := Lib.hid hap
  clear h hb1 hb2 hF hF2 hX hrd hR
  go_enter Tryz.func11, Tryz.ntmps11
  go_upto_region 3 with fail
  rw [← show V1 = _ from hV1.out, hfb.out]
  clear hV1 hfb
  go_upto_region 4 with fail
  rw [← show V = _ from hV.out, hxb.out]
  clear hV hxb f0 f1
  go_wp2_with fail
  refine hap.out.mono ?_
  intro e w2 hp
  obtain ⟨rfl, hq⟩ := hend.out e w2 hp
  replace hq := Lib.hid hq
  clear hp hend hap g0
  cases R with
  | none =>
    go_wp2_with fail
    go_ret
    exact hq.out
  | some u =>
    go_wp2_with fail
    go_ret
    exact hq.out
theorem apply23_nil (kd : Int) (s : ByteArray) (w : World) :
    Calls Tryz.prog 11 #[.pointer none, .agg #[.int .i64 kd, .string s]] w fun e w' => e = .returned (.int .i64 7) ∧ Below w.heap.size w w' := by
  have hB := Lib.hid ((Below.refl w.heap.size w).alloc (Nat.le_refl _) (.cells #[.int .i64 kd, .string s] 37))
  go_enter Tryz.func11, Tryz.ntmps11
  go_wp2_with fail
  go_ret
  exact ⟨rfl, hB.out⟩
end Go.Proofs.YtgogackkeodciaaGreat.W
