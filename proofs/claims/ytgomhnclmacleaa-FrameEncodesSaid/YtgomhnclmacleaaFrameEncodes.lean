/- For every stamp, place, frame and string the law FrameEncodes returns true: a frame's bytes, or why it is none, are those of the definition, and Decode of Encode is the frame, whatever stands behind. No condition. -/
import Derived.Test.YtgomhnclmacleaaRows
import Derived.Test.YtgomhnclmacleaaBare
import Derived.Test.YtgomhnclmacleaaFrRef
import Derived.Test.YtgomhnclmacleaaFrameB
import Derived.Test.YtgomhnclmacleaaOpenWh
import Derived.ChangeOld
import Derived.ShutString
namespace Go.Proofs.Ytgomhnclmacleaa.frameEncodes
open Go.ChangeShapes Go.WideShapes Go.ChangeAt Go.RowKit
open Go.ChangeMaps (open_string shut_string)
open Go.Proofs.Ytgomhnclmacleaa.M Go.Proofs.Ytgomhnclmacleaa.W Go.Proofs.Ytgomhnclmacleaa.D
set_option linter.unusedVariables false

set_option maxRecDepth 100000 in
set_option maxHeartbeats 4000000 in
theorem walk (st pl k : Int) (p m : ByteArray) (w : World) (w0 : (Lit.int .u32 st).wf = true) (w1 : (Lit.int .i64 pl).wf = true) (w2 : (Lit.int .i64 k).wf = true) (w3 : p.size ≤ maxLen) (w4 : m.size ≤ maxLen) :
    Calls Try.prog 9 #[.agg #[.int .u32 st, .int .i64 pl], .agg #[.int .i64 k, .string p], .string m] w fun e w' => e = .returned (.bool true) ∧ Below w.heap.size w w' := by
  obtain ⟨l0, l1⟩ := bounds_u32 w0
  unfold maxLen at w3 w4
  by_cases hl : 900 < p.size
  · go_enter Try.func9, Try.ntmps9
    go_wp2_with fail
    refine (bare_any _).mono ?_
    rintro e w1 ⟨rfl, hb⟩
    go_wp2_with fail
    go_ret
    exact ⟨rfl, grew (grewAlloc (grewAlloc (Below.refl _ w) _) _) hb⟩
  by_cases hm : 900 < m.size
  · go_enter Try.func9, Try.ntmps9
    go_wp2_with fail
    refine (bare_any _).mono ?_
    rintro e w1 ⟨rfl, hb⟩
    go_wp2_with fail
    go_ret
    exact ⟨rfl, grew (grewAlloc (grewAlloc (Below.refl _ w) _) _) hb⟩
  have hp9 : ¬ 9223372036854775807 < 7 + p.size := by omega
  have hw7 : IntKind.i64.wrap (7 + (p.size : Int)) = 7 + (p.size : Int) := IntWalk.i64_in _ (by omega)
  have hw8 : IntKind.i64.wrap ((p.size : Int) + 7) = (p.size : Int) + 7 := IntWalk.i64_in _ (by omega)
  have hne7 : ((p.size : Int) + 7 != 7 + (p.size : Int)) = false := by simp; omega
  have hsz : ∀ W : World, Calls Try.prog 42 #[.agg #[.int .i64 k, .string p]] W fun e w' => e = .returned (.int .i64 (7 + (p.size : Int))) ∧ Below W.heap.size W w' := fun W => by
    have := frSize_any k p W (by omega)
    rw [Int.add_comm] at this; exact this
  replace hsz := Lib.hid hsz
  have hrw := fun W => rwrong_any pl k p W (by omega)
  by_cases hw : wrongF pl k p.size = 0
  · have hc : ¬ (k < 1 ∨ 255 < k ∨ ¬ (1 ≤ pl ∧ pl < 16)) := fun h => by rw [wrongF_arg h] at hw; omega
    have hp : p.size ≤ 773 := by
      rcases Nat.lt_or_ge 773 p.size with h | h
      · rw [wrongF_long hc h] at hw; omega
      · exact h
    obtain ⟨d1, d2, d3, d4⟩ := dec_enc st pl k p m (by omega) (by omega) (by omega) hp
    have henc := fun W => encode_yes st pl k p W l0 (by omega) (by omega) (by omega) (by omega) hp
    have hrenc := fun W => rencode_any st pl k p W l0 (by omega) (by omega) (by omega) (by omega) (by omega)
    have hdec := fun W => decode_any st pl (B (encF st pl k p.data.toList) ++ m) W l0 (by omega) (by rw [ByteArray.size_append, B_size, encF_len]; simp; omega)
    unfold decV at hdec
    rw [d1, d2, d3, d4] at hdec
    have hEz : (B (encF st pl k p.data.toList)).size = 7 + p.size := by rw [B_size, encF_len]; simp
    rw [hw] at hrw
    obtain ⟨E, hE⟩ : ∃ E, Hid (B (encF st pl k p.data.toList) = E) := ⟨_, Lib.hid rfl⟩
    rw [hE.out] at henc hrenc hdec hEz
    replace henc := Lib.hid henc
    replace hrenc := Lib.hid hrenc
    replace hdec := Lib.hid hdec
    replace hrw := Lib.hid hrw
    clear d1 d2 d3 d4 hw hc
    go_enter Try.func9, Try.ntmps9
    go_wp2_with fail
    refine (henc.out _).mono ?_
    rintro e w5 ⟨rfl, hb5⟩
    have hF : Whole w5 (w.heap.size + 1) 72 [.int .i64 k, .string p] := by
      have h := Whole.new (w.alloc (.cells #[.int .u32 st, .int .i64 pl] 70)) 72 [.int .i64 k, .string p]
      rw [show (w.alloc (.cells #[.int .u32 st, .int .i64 pl] 70)).heap.size = w.heap.size + 1 from by simp] at h
      exact h.below hb5 h.lt
    have g5 := Lib.hid (grew (grewAlloc (grewAlloc (Below.refl _ w) (.cells #[.int .u32 st, .int .i64 pl] 70)) (.cells #[.int .i64 k, .string p] 72)) hb5)
    obtain ⟨fb, hfb⟩ : ∃ b, Hid (w.heap.size + 1 = b) := ⟨_, Lib.hid rfl⟩
    rw [hfb.out] at hF ⊢
    clear hfb hb5
    have c0 := hF.cell 0
    have c1 := hF.cell 1
    simp only [List.getElem?_cons_zero, List.getElem?_cons_succ] at c0 c1
    go_wp2_with fail
    go_region_held3 (fun w' => w'.cell? ⟨fb, 0, none⟩ = some (.int .i64 k) ∧ w'.cell? ⟨fb, 1, none⟩ = some (.string p)) (go_keep) (first
      | (go_at_call 42; (with_reducible refine (hsz.out _).mono ?_); rintro e w6 ⟨rfl, hb6⟩; replace hb6 := undrew hb6; have d0 := keepR hb6 c0; have d1 := keepR hb6 c1))
    replace hF := hF.below hb6 hF.lt
    replace g5 := Lib.hid (grew g5.out hb6)
    clear c0 c1 hb6
    go_wp2_with fail
    refine (hrw.out _).mono ?_
    rintro e w7 ⟨rfl, hb7⟩
    replace hF := hF.below hb7 hF.lt
    replace g5 := Lib.hid (grew g5.out hb7)
    have c0 := hF.cell 0
    have c1 := hF.cell 1
    simp only [List.getElem?_cons_zero, List.getElem?_cons_succ] at c0 c1
    clear d0 d1 hb7
    go_wp2_with fail
    refine (hdec.out _).mono ?_
    rintro e w8 ⟨rfl, hb8⟩
    replace hF := (hF.below hb8 hF.lt).alloc (.cells #[.int .i64 k, .string p] 72)
    have hG := Whole.new w8 72 [.int .i64 k, .string p]
    replace g5 := Lib.hid (grewAlloc (grew g5.out hb8) (.cells #[.int .i64 k, .string p] 72))
    have d0 := hF.cell 0
    have d1 := hF.cell 1
    simp only [List.getElem?_cons_zero, List.getElem?_cons_succ] at d0 d1
    clear c0 c1 hb8
    go_wp2_with fail
    refine (hrenc.out _).mono ?_
    rintro e w9 ⟨rfl, hb9⟩
    replace hF := hF.below hb9 hF.lt
    replace hG := hG.below hb9 hG.lt
    replace g5 := Lib.hid (grew g5.out hb9)
    have c0 := hF.cell 0
    have c1 := hF.cell 1
    have e0 := hG.cell 0
    have e1 := hG.cell 1
    simp only [List.getElem?_cons_zero, List.getElem?_cons_succ] at c0 c1 e0 e1
    clear d0 d1 hb9
    go_wp2_with fail
    refine (bare_any _).mono ?_
    rintro e w10 ⟨rfl, hb10⟩
    go_wp2_with fail
    go_ret
    exact ⟨rfl, grew g5.out hb10⟩
  · have henc := fun W => encode_no st pl k p W (by omega) hw
    obtain ⟨x, hx⟩ : ∃ x, Hid (wrongF pl k p.size = x) := ⟨_, Lib.hid rfl⟩
    rw [hx.out] at henc hrw hw
    have hxb : (x != 0) = true := by simpa using hw
    replace henc := Lib.hid henc
    replace hrw := Lib.hid hrw
    replace hw := Lib.hid hw
    go_enter Try.func9, Try.ntmps9
    go_wp2_with fail
    refine (henc.out _).mono ?_
    rintro e w5 ⟨rfl, hb5⟩
    have hF : Whole w5 (w.heap.size + 1) 72 [.int .i64 k, .string p] := by
      have h := Whole.new (w.alloc (.cells #[.int .u32 st, .int .i64 pl] 70)) 72 [.int .i64 k, .string p]
      rw [show (w.alloc (.cells #[.int .u32 st, .int .i64 pl] 70)).heap.size = w.heap.size + 1 from by simp] at h
      exact h.below hb5 h.lt
    have g5 := Lib.hid (grew (grewAlloc (grewAlloc (Below.refl _ w) (.cells #[.int .u32 st, .int .i64 pl] 70)) (.cells #[.int .i64 k, .string p] 72)) hb5)
    obtain ⟨fb, hfb⟩ : ∃ b, Hid (w.heap.size + 1 = b) := ⟨_, Lib.hid rfl⟩
    rw [hfb.out] at hF ⊢
    clear hfb hb5
    have c0 := hF.cell 0
    have c1 := hF.cell 1
    simp only [List.getElem?_cons_zero, List.getElem?_cons_succ] at c0 c1
    go_wp2_with fail
    go_region_held3 (fun w' => w'.cell? ⟨fb, 0, none⟩ = some (.int .i64 k) ∧ w'.cell? ⟨fb, 1, none⟩ = some (.string p)) (go_keep) (first
      | (go_at_call 42; (with_reducible refine (hsz.out _).mono ?_); rintro e w6 ⟨rfl, hb6⟩; replace hb6 := undrew hb6; have d0 := keepR hb6 c0; have d1 := keepR hb6 c1))
    replace hF := hF.below hb6 hF.lt
    replace g5 := Lib.hid (grew g5.out hb6)
    clear c0 c1 hb6
    go_wp2_with fail
    refine (hrw.out _).mono ?_
    rintro e w7 ⟨rfl, hb7⟩
    replace hF := hF.below hb7 hF.lt
    replace g5 := Lib.hid (grew g5.out hb7)
    have c0 := hF.cell 0
    have c1 := hF.cell 1
    simp only [List.getElem?_cons_zero, List.getElem?_cons_succ] at c0 c1
    clear d0 d1 hb7
    go_wp2_with fail
    refine (bare_any _).mono ?_
    rintro e w10 ⟨rfl, hb10⟩
    go_wp2_with fail
    go_ret
    exact ⟨rfl, grew g5.out hb10⟩


theorem own : ownKnob Try.prog.godebug = none := by kernel_rfl
theorem laidOut : laidOutB Try.prog = true := by kernel_rfl

set_option maxRecDepth 100000 in
theorem lifted (os : Os) (started : os.Started) (H : Type) (enc : TypeId × Value → H) :
    ReturnsInHanded {} Try.checked os 9 .any (Rows.frameEncodesSpec.pre6 enc Try.prog Try.f9 Rows.frameEncodesRow.domain false) (Rows.frameEncodesSpec.post enc Try.prog Try.f9 false true false false) := by
  refine returnsInHanded_of_change (C := Try.checked) own started (by kernel_rfl) Try.func9
    (ChangeSpec.witness6 (enc := enc) (C := Try.checked) false ⟨#[], #[.agg #[.int .u32 0, .int .i64 0], .agg #[.int .i64 0, .string ByteArray.empty], .string ByteArray.empty], []⟩ 8 (by kernel_rfl) (by kernel_rfl) (by kernel_rfl) (by kernel_rfl)) ?_
  intro W base args ds gs before hval0 hW hcnd _
  have hval : ∀ (j : Nat) t v, Try.f9.params[j]? = some t → args[j]? = some v → Value.okWide Try.prog W .any base t v := hval0
  have hW' := hW
  obtain ⟨p, q, hA0, hV, rfl, hfz, hnd⟩ := hW
  have hA : DataW.TrodAll enc Try.prog W 0 (fun _ => true) true Try.f9.params.toList args.toList ds p := hA0
  rw [Try.params9] at hA hval
  obtain ⟨v0, vs0, d0, ds0, p0, q0, hargs, rfl, rfl, h0, r0⟩ := trodAll_cons hA
  obtain ⟨v1, vs1, d1, ds1, p1, q1, rfl, rfl, rfl, h1, r1⟩ := trodAll_cons r0
  obtain ⟨v2, vs2, d2, ds2, p2, q2, rfl, rfl, rfl, h2, r2⟩ := trodAll_cons r1
  obtain ⟨rfl, rfl, rfl⟩ := trodAll_nil r2
  obtain rfl : args = #[v0, v1, v2] := by cases args; simp_all
  obtain ⟨rfl, rfl⟩ := trodVars_none hV
  have k0 := h0
  have lt0 : ∀ x ∈ p0, x.block < W.heap.size := by obtain ⟨m, hm⟩ := k0; exact DataW.trod_lt m _ _ _ hm
  obtain ⟨sa0, sb0, rfl, wa0, wb0⟩ := M.open_where (hval 0 70 v0 rfl rfl) h0
  have k1 := h1
  have lt1 : ∀ x ∈ p1, x.block < W.heap.size := by obtain ⟨m, hm⟩ := k1; exact DataW.trod_lt m _ _ _ hm
  obtain ⟨sa1, sb1, rfl, wa1, wb1⟩ := M.open_frame (hval 1 72 v1 rfl rfl) h1
  obtain ⟨a2, rfl, rfl, rfl, w2⟩ := open_string Try.underlying9 (hval 2 9 v2 rfl rfl) h2
  clear hA0 hval0
  refine (walk sa0 sb0 sa1 sb1 a2 W wa0 wb0 wa1 wb1 w2).mono fun e W' ⟨he, bel⟩ => ?_
  subst he
  exact ⟨_, rfl, _, _, _, [], _, [], hW', trodAll_mk1 (shut_bool Try.underlying4 _), (trodAll_cons_mk (Below.trod laidOut (by kernel_rfl) (of_decide_eq_true (by kernel_rfl)) k0 bel lt0) (trodAll_cons_mk (Below.trod laidOut (by kernel_rfl) (of_decide_eq_true (by kernel_rfl)) k1 bel lt1) (trodAll_cons_mk (shut_string Try.underlying9 w2) trodAll_mk0))), rfl, bel.frame _, fun h => by cases h⟩

theorem over : Rows.frameEncodesRow.holds Try.pinned (OpenSpec.ofChange Rows.frameEncodesSpec) :=
  OpenClaim.holds_of_wide 9 Try.f9 rfl rfl rfl rfl rfl rfl rfl ⟨rfl, rfl, rfl, rfl, rfl⟩ rfl rfl rfl rfl rfl (by kernel_rfl) Try.func9 (by kernel_rfl)
    (of_decide_eq_true (by kernel_rfl)) (by unfold Func.isWrapper; first | (rw [if_pos (by decide +kernel)]; kernel_rfl) | (rw [if_neg (by decide +kernel)]; exact ⟨rfl, rfl⟩))
    (fun os started H enc _ => lifted os started H enc)

/-- The statement. -/
theorem proved : Rows.FrameEncodesSaid := over
#print axioms proved

end Go.Proofs.Ytgomhnclmacleaa.frameEncodes
