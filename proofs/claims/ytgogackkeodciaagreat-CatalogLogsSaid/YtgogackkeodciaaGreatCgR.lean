/- Layer 23: entries that may be; the law's two. -/
import Derived.Test.YtgogackkeodciaaGreatCgQ
namespace Go.Proofs.YtgogackkeodciaaGreat.W
open Go.RowKit Go.Sort
open Go.Proofs.YtgogackkeodciaaGreat.M Go.Proofs.YtgogackkeodciaaGreat.D Go.Proofs.YtgogackkeodciaaGreat.Z
set_option linter.unusedVariables false
set_option linter.unusedSimpArgs false

theorem B_list (l : List UInt8) : (B l).data.toList = l := by simp [B]
theorem make_enc {T : List To} {n v g : Int} {x : Sp} (hx : x.may = true) (hv : 0 ≤ v ∧ v ≤ 7) (hf : freeS T v = true) (hg : 1 ≤ g ∧ g ≤ 4294967295) (hn : hasT T x.nm = false) : makeF T n (B (makeE v g x)) = some (insT (newT x v g) T, max n g) := by
  have hl : (B (makeE v g x)).data.toList = chain v ++ (chain g ++ encT x) := B_list _
  have hsz : (B (makeE v g x)).size = (chain v).length + ((chain g).length + (encT x).length) := by
    rw [B_size]; unfold makeE; rw [List.length_append, List.length_append]
  have h0 : (B (makeE v g x)).data.toList.drop 0 = chain v ++ (chain g ++ encT x) := by rw [List.drop_zero, hl]
  have c0 := chAt_chain h0 hv.1 (by omega)
  have h1 := drop_end h0
  have c1 := chAt_chain h1 (by omega) (by omega)
  have h2 := drop_end h1
  have h3 : ((B (makeE v g x)).extract (0 + (chain v).length + (chain g).length) (B (makeE v g x)).size).data.toList = encT x ++ [] := by rw [ext_drop, h2, List.append_nil]
  have c2 := dec_enc hx h3
  unfold makeF
  rw [c0]
  dsimp only
  rw [c1]
  dsimp only
  rw [c2]
  dsimp only
  rw [if_pos ⟨by rw [hsz]; omega, hv.2, hf, hg, hn⟩]
def nmA : ByteArray := ⟨#[97]⟩
def spA : Sp := ⟨nmA, 2, 0, 0, false⟩
def payA : ByteArray := ⟨#[0, 1, 1, 97, 2, 0, 0, 0]⟩
theorem spA_may : spA.may = true := by decide +kernel
theorem payA_is : B (makeE 0 1 spA) = payA := by decide +kernel
theorem createA : createF [] 0 spA = (1, payA, 0) := by
  unfold createF
  rw [if_neg (by rw [spA_may]; decide), if_neg (by decide), if_neg (by decide), show lowT [] = 0 from by decide, show ((0 : Int) + 1) = 1 from rfl, payA_is]
def TA : List To := insT (newT spA 0 1) []
theorem appA : appF [] 0 1 payA = some (TA, 1) := by
  have h := make_enc (T := []) (n := 0) (v := 0) (g := 1) spA_may (by decide) (by decide) (by decide) (by decide)
  rw [payA_is] at h
  unfold appF
  rw [if_pos rfl, h]
  rfl
theorem logA0 : logF TA nmA 0 = (4, 0) := by decide +kernel
theorem logA1 : logF TA nmA 1 = (5, 0) := by decide +kernel
theorem okA : CatOk TA 1 := appF_ok CatOk.nil appA
theorem metA1 : metaT TA nmA 1 = some (newM 1) := by
  have hok : CatOk (insT (newT spA 0 1) []) 1 := okA
  have := metaT_new hok (fun y hy => by simp at hy) nmA 1
  have hc : spA.nm = nmA ∧ (0 : Int) ≤ 1 ∧ (1 : Int) < spA.parts := by decide +kernel
  rw [if_pos hc] at this
  unfold TA
  exact this
set_option maxRecDepth 100000 in
set_option maxHeartbeats 4000000 in
theorem two23_any (w : World) : Calls Tryz.prog 7 #[] w fun e w' => e = .returned (.bool true) ∧ Below w.heap.size w w' := by
  have hnew := Lib.hid (new23_any w)
  go_enter Tryz.func7, Tryz.ntmps7
  go_wp2_with fail
  refine hnew.out.mono ?_
  rintro _ w1 ⟨rfl, hC1, hb1⟩
  obtain ⟨cb, hcb⟩ : ∃ q, Hid (w.heap.size = q) := ⟨_, Lib.hid rfl⟩
  have hB0 : Hid (w.heap.size ≤ cb) := Lib.hid (by have := hcb.out; omega)
  have hC1' : CaAt w.heap.size w1 cb none [] 0 0 := by rw [← hcb.out]; exact hC1
  rw [hcb.out]
  have hcr := create23_any cb none [] 0 0 spA w1 hC1'
  rw [createA] at hcr
  have hcr2 : Hid (Calls Tryz.prog 18 #[.pointer (some ⟨cb, 0, none⟩), .agg #[.string ⟨#[97]⟩, .int .i64 2, .int .i64 0, .int .i64 0, .bool false]] w1 fun e w' => e = .returned (.tuple #[.agg #[.int .i64 1, .string payA], .int .i64 0]) ∧ Below w1.heap.size w1 w') := Lib.hid hcr
  replace hC1' := Lib.hid hC1'
  replace hb1 := Lib.hid hb1
  clear hcr hC1 hnew hcb
  go_wp2_with fail
  refine hcr2.out.mono ?_
  rintro _ w2 ⟨rfl, hb2⟩
  obtain ⟨V3, hV3⟩ : ∃ W, Hid (W = w2.alloc (.cells #[.int .i64 1, .string payA] 37)) := ⟨_, Lib.hid rfl⟩
  have hb3 : Below w1.heap.size w1 V3 := by rw [hV3.out]; exact grewAlloc hb2 _
  have hF3 : Whole V3 w2.heap.size 37 [.int .i64 1, .string payA] := by rw [hV3.out]; exact Whole.new w2 _ _
  obtain ⟨fb, hfb⟩ : ∃ q, Hid (w2.heap.size = q) := ⟨_, Lib.hid rfl⟩
  rw [hfb.out] at hF3
  have hC3 := hC1'.out.below hb3
  have hB3 := grew hb1.out hb3
  have hap := Lib.hid (apply23_any cb none [] 0 0 1 payA V3 hC3 hB3.size (by decide) (by decide))
  rw [appA] at hap
  have f0 : V3.cell? ⟨fb, 0, none⟩ = some (.int .i64 1) := hF3.cell 0
  have f1 : V3.cell? ⟨fb, 1, none⟩ = some (.string payA) := hF3.cell 1
  have hne : Hid (¬ ofC cb none fb) := Lib.hid (hC3.at_.ne hF3 (by decide))
  replace hF3 := Lib.hid hF3
  replace hB3 := Lib.hid hB3
  clear hb2 hb3 hC3 hC1' hb1 hcr2
  go_upto_region 3 with fail
  rw [← show V3 = _ from hV3.out, hfb.out]
  clear hV3 hfb
  go_wp2_with fail
  refine hap.out.mono ?_
  rintro _ w4 ⟨m', rfl, hC4, hk4, _⟩
  rw [Option.getD_some] at hC4
  have hC4' : CaAt w.heap.size w4 cb m' TA 1 4 := hC4
  have hF4 := hF3.out.of_kept hk4 hne.out
  have hB4 : Below w.heap.size w w4 := hB3.out.trans (hk4.below (B := w.heap.size) hB3.out.size (fun q hq => by
    rcases hq with rfl | e
    · exact hB0.out
    · cases e))
  have hl0 := log23_any cb m' TA 1 4 nmA 0 w4 hC4' (by decide) (by decide)
  rw [logA0] at hl0
  have hl0' : Hid (Calls Tryz.prog 16 #[.pointer (some ⟨cb, 0, none⟩), .agg #[.string ⟨#[97]⟩, .int .i64 0]] w4 fun e w' => e = .returned (.tuple #[.int .i64 4, .int .i64 0]) ∧ Below w4.heap.size w4 w') := Lib.hid hl0
  replace hC4' := Lib.hid hC4'
  replace hF4 := Lib.hid hF4
  replace hB4 := Lib.hid hB4
  clear hl0 hC4 hk4 hne hF3 hB3 hap f0 f1 hB0
  simp only [Option.isSome_some, if_true]
  go_wp2_with fail
  refine hl0'.out.mono ?_
  rintro _ w5 ⟨rfl, hb5⟩
  have hl1 := log23_any cb m' TA 1 4 nmA 1 w5 (hC4'.out.below hb5) (by decide) (by decide)
  rw [logA1] at hl1
  have hl1' : Hid (Calls Tryz.prog 16 #[.pointer (some ⟨cb, 0, none⟩), .agg #[.string ⟨#[97]⟩, .int .i64 1]] w5 fun e w' => e = .returned (.tuple #[.int .i64 5, .int .i64 0]) ∧ Below w5.heap.size w5 w') := Lib.hid hl1
  replace hb5 := Lib.hid hb5
  clear hl1 hl0'
  go_wp2_with fail
  refine hl1'.out.mono ?_
  rintro _ w6 ⟨rfl, hb6⟩
  have hb6' := grew hb5.out hb6
  have hm := meta23_any cb m' TA 1 4 nmA 1 w6 (hC4'.out.below hb6') (by decide) (by decide) (newM 1) (by rw [metA1]; rfl)
  rw [show metaE' TA nmA 1 = 0 from by unfold metaE'; rw [metA1]; rfl] at hm
  have hm' : Hid (Calls Tryz.prog 19 #[.pointer (some ⟨cb, 0, none⟩), .agg #[.string ⟨#[97]⟩, .int .i64 1]] w6 fun e w' => e = .returned (.tuple #[.agg #[.int .i64 1, .int .i64 0, .int .i64 0, .int .i64 0, .string ⟨#[0]⟩], .int .i64 0]) ∧ Below w6.heap.size w6 w') := Lib.hid hm
  replace hb6' := Lib.hid hb6'
  clear hm hl1' hb5 hb6
  go_wp2_with fail
  refine hm'.out.mono ?_
  rintro _ w7 ⟨rfl, hb7⟩
  obtain ⟨V8, hV8⟩ : ∃ W, Hid (W = w7.alloc (.cells #[.int .i64 1, .int .i64 0, .int .i64 0, .int .i64 0, .string ⟨#[0]⟩] 35)) := ⟨_, Lib.hid rfl⟩
  have hb8 : Below w4.heap.size w4 V8 := by rw [hV8.out]; exact grewAlloc (grew hb6'.out hb7) _
  have hM8 : Whole V8 w7.heap.size 35 [.int .i64 1, .int .i64 0, .int .i64 0, .int .i64 0, .string ⟨#[0]⟩] := by rw [hV8.out]; exact Whole.new w7 _ _
  obtain ⟨mb, hmb⟩ : ∃ q, Hid (w7.heap.size = q) := ⟨_, Lib.hid rfl⟩
  rw [hmb.out] at hM8
  have hF8 := hF4.out.below hb8 hF4.out.lt
  have hC8 := hC4'.out.below hb8
  have hB8 := Lib.hid (grew hB4.out hb8)
  have hct := Lib.hid (count23_any cb m' TA 1 4 V8 hC8)
  have g1 : V8.cell? ⟨fb, 1, none⟩ = some (.string payA) := hF8.cell 1
  have m0 : V8.cell? ⟨mb, 0, none⟩ = some (.int .i64 1) := hM8.cell 0
  have m1 : V8.cell? ⟨mb, 1, none⟩ = some (.int .i64 0) := hM8.cell 1
  have m2 : V8.cell? ⟨mb, 2, none⟩ = some (.int .i64 0) := hM8.cell 2
  have m3 : V8.cell? ⟨mb, 3, none⟩ = some (.int .i64 0) := hM8.cell 3
  have m4 : V8.cell? ⟨mb, 4, none⟩ = some (.string ⟨#[0]⟩) := hM8.cell 4
  have em : (binOp .eql 35 (.agg #[.int .i64 1, .int .i64 0, .int .i64 0, .int .i64 0, .string ⟨#[0]⟩]) (.agg #[.int .i64 1, .int .i64 0, .int .i64 0, .int .i64 0, .string ⟨#[0]⟩])).run Tryz.prog V8 = .ok (.bool true) V8 := by kernel_rfl
  have ep : (binOp .eql 9 (.string payA) (.string ⟨#[0, 1, 1, 97, 2, 0, 0, 0]⟩)).run Tryz.prog V8 = .ok (.bool true) V8 := by kernel_rfl
  have ep3 : payA.toList = [0, 1, 1, 97, 2, 0, 0, 0] := by decide +kernel
  have ep2 : (payA.toList == (⟨#[0, 1, 1, 97, 2, 0, 0, 0]⟩ : ByteArray).toList) = true := by decide +kernel
  clear hb7 hb8 hM8 hF8 hC8 hm' hb6' hF4 hB4 hC4'
  go_upto_region 7 with fail
  rw [← show V8 = _ from hV8.out, hmb.out]
  clear hV8 hmb
  go_wp2_with fail
  refine hct.out.mono ?_
  rintro _ w9 ⟨rfl, rfl⟩
  go_wp2_with fail
  go_ret
  exact ⟨rfl, hB8.out⟩
end Go.Proofs.YtgogackkeodciaaGreat.W
