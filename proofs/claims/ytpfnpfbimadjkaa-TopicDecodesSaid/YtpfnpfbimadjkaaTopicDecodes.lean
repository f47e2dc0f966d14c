/- For every string the law TopicDecodes returns true: the program reads the topic with which the bytes begin, or none, as the definition does; of more than 300 bytes the small case stands in. No condition. -/
import Derived.Test.YtpfnpfbimadjkaaRows
import Derived.Test.YtpfnpfbimadjkaaTpI
import Derived.ChangeOld
import Derived.ShutString
namespace Go.Proofs.Ytpfnpfbimadjkaa.topicDecodes
open Go.ChangeShapes Go.WideShapes Go.ChangeAt Go.RowKit Go.Sort
open Go.ChangeMaps (open_string shut_string)
open Go.Proofs.Ytpfnpfbimadjkaa.M Go.Proofs.Ytpfnpfbimadjkaa.W Go.Proofs.Ytpfnpfbimadjkaa.D Go.Proofs.Ytpfnpfbimadjkaa.Z
set_option linter.unusedVariables false
set_option linter.unusedSimpArgs false

theorem dec_wf {s : ByteArray} {x : Sp} {n : Nat} (h : decT s = some (x, n)) : x.nm.size ≤ maxLen ∧ (Lit.int .i64 x.parts).wf = true ∧ (Lit.int .i64 x.age).wf = true ∧ (Lit.int .i64 x.size).wf = true := by
  unfold decT at h
  simp only [Option.bind_eq_some_iff] at h
  obtain ⟨a, _, b, _, c, _, d, _, f, _, h⟩ := h
  by_cases hm : Sp.may ⟨a.1, b.1, c.1, d.1, decide (f = 1)⟩ = true
  · rw [if_pos hm] at h
    cases h
    obtain ⟨h0, ⟨h1, h2⟩, ⟨h3, h4⟩, ⟨h5, h6⟩⟩ : Sp.ok ⟨a.1, b.1, c.1, d.1, decide (f = 1)⟩ := of_decide_eq_true hm
    have := nameB_split h0
    dsimp only at *
    exact ⟨by unfold maxLen; omega, wf_of (by omega) (by omega), wf_of h3 h4, wf_of h5 h6⟩
  · rw [if_neg hm] at h; cases h
set_option maxRecDepth 100000 in
set_option maxHeartbeats 4000000 in
theorem walk (s : ByteArray) (w : World) (_ : s.size ≤ maxLen) :
    Calls Try.prog 7 #[.string s] w fun e w' => e = .returned (.bool true) ∧ Below w.heap.size w w' := by
  have hlog := Lib.hid (fun W => log_any W)
  by_cases h3 : 300 < s.size
  · have h3i : (300 : Int) < (s.size : Int) := by omega
    go_enter Try.func7, Try.ntmps7
    go_wp2_with fail
    refine (hlog.out _).mono ?_
    rintro _ w1 ⟨rfl, hb1⟩
    replace hb1 := Lib.hid hb1
    go_wp2_with fail
    go_ret
    exact ⟨rfl, hb1.out⟩
  · have h3i : (s.size : Int) ≤ 300 := by omega
    have hd := fun W => decode_any s W (by omega)
    have hr := fun W => rdecode_any s W (by omega)
    cases hdec : decT s with
    | none =>
      rw [hdec] at hd hr
      dsimp only at hd hr
      have heq := eq_sp ⟨#[]⟩ 0 0 0 false (by decide) (by decide) (by decide) (by decide)
      replace hd := Lib.hid hd
      replace hr := Lib.hid hr
      clear hdec
      go_enter Try.func7, Try.ntmps7
      go_wp2_with fail
      refine (hd.out _).mono ?_
      rintro _ w1 ⟨rfl, hb1⟩
      obtain ⟨W1, hW1⟩ : ∃ W, Hid (W = w1.alloc (.cells #[.string ⟨#[]⟩, .int .i64 0, .int .i64 0, .int .i64 0, .bool false] 34)) := ⟨_, Lib.hid rfl⟩
      have c1 : Below w1.heap.size w1 W1 := by rw [hW1.out]; exact grewAlloc (Below.refl _ _) _
      have Y1 : Whole W1 w1.heap.size 34 [.string ⟨#[]⟩, .int .i64 0, .int .i64 0, .int .i64 0, .bool false] := by rw [hW1.out]; exact Whole.new w1 _ _
      obtain ⟨q, hq⟩ : ∃ q, Hid (w1.heap.size = q) := ⟨_, Lib.hid rfl⟩
      rw [hq.out] at Y1
      have B1 := Lib.hid (grew hb1 c1)
      replace Y1 := Lib.hid Y1
      clear hb1 c1
      go_upto_region 4 with fail
      rw [← show W1 = _ from hW1.out, hq.out]
      clear hW1 hq
      go_wp2_with fail
      refine (hr.out _).mono ?_
      rintro _ w2 ⟨rfl, hb2⟩
      obtain ⟨W2, hW2⟩ : ∃ W, Hid (W = w2.alloc (.cells #[.string ⟨#[]⟩, .int .i64 0, .int .i64 0, .int .i64 0, .bool false, .int .i64 0, .bool false] 47)) := ⟨_, Lib.hid rfl⟩
      have c2 : Below w2.heap.size w2 W2 := by rw [hW2.out]; exact grewAlloc (Below.refl _ _) _
      have Hz : Whole W2 w2.heap.size 47 [.string ⟨#[]⟩, .int .i64 0, .int .i64 0, .int .i64 0, .bool false, .int .i64 0, .bool false] := by rw [hW2.out]; exact Whole.new w2 _ _
      have Hy := (Y1.out.below hb2 Y1.out.lt).below c2 (Y1.out.below hb2 Y1.out.lt).lt
      obtain ⟨r, hr0⟩ : ∃ q, Hid (w2.heap.size = q) := ⟨_, Lib.hid rfl⟩
      rw [hr0.out] at Hz
      have B2 := Lib.hid (grew (grew B1.out hb2) c2)
      have y0 : W2.cell? ⟨q, 0, none⟩ = some (.string ⟨#[]⟩) := Hy.cell 0
      have y1 : W2.cell? ⟨q, 1, none⟩ = some (.int .i64 0) := Hy.cell 1
      have y2 : W2.cell? ⟨q, 2, none⟩ = some (.int .i64 0) := Hy.cell 2
      have y3 : W2.cell? ⟨q, 3, none⟩ = some (.int .i64 0) := Hy.cell 3
      have y4 : W2.cell? ⟨q, 4, none⟩ = some (.bool false) := Hy.cell 4
      have z0 : W2.cell? ⟨r, 0, none⟩ = some (.string ⟨#[]⟩) := Hz.cell 0
      have z1 : W2.cell? ⟨r, 1, none⟩ = some (.int .i64 0) := Hz.cell 1
      have z2 : W2.cell? ⟨r, 2, none⟩ = some (.int .i64 0) := Hz.cell 2
      have z3 : W2.cell? ⟨r, 3, none⟩ = some (.int .i64 0) := Hz.cell 3
      have z4 : W2.cell? ⟨r, 4, none⟩ = some (.bool false) := Hz.cell 4
      have z5 : W2.cell? ⟨r, 5, none⟩ = some (.int .i64 0) := Hz.cell 5
      have z6 : W2.cell? ⟨r, 6, none⟩ = some (.bool false) := Hz.cell 6
      clear Hy Hz hb2 c2 B1 Y1
      go_upto_region 5 with fail
      rw [← show W2 = _ from hW2.out, hr0.out]
      clear hW2 hr0
      go_wp2_with fail
      refine (hlog.out _).mono ?_
      rintro _ w3 ⟨rfl, hb3⟩
      have B3 := Lib.hid (grew B2.out hb3)
      clear hb3
      go_wp2_with fail
      go_ret
      exact ⟨rfl, B3.out⟩
    | some a =>
      obtain ⟨x, n⟩ := a
      rw [hdec] at hd hr
      dsimp only at hd hr
      obtain ⟨k0, k1, k2, k3⟩ := dec_wf hdec
      obtain ⟨nm, pa, ag, sz, cp⟩ := x
      dsimp only at hd hr k0 k1 k2 k3
      have heq := eq_sp nm pa ag sz cp k0 k1 k2 k3
      have hnn : ((n : Int) == (n : Int)) = true := by simp
      replace hd := Lib.hid hd
      replace hr := Lib.hid hr
      clear hdec k0 k1 k2 k3
      go_enter Try.func7, Try.ntmps7
      go_wp2_with fail
      refine (hd.out _).mono ?_
      rintro _ w1 ⟨rfl, hb1⟩
      obtain ⟨W1, hW1⟩ : ∃ W, Hid (W = w1.alloc (.cells #[.string nm, .int .i64 pa, .int .i64 ag, .int .i64 sz, .bool cp] 34)) := ⟨_, Lib.hid rfl⟩
      have c1 : Below w1.heap.size w1 W1 := by rw [hW1.out]; exact grewAlloc (Below.refl _ _) _
      have Y1 : Whole W1 w1.heap.size 34 [.string nm, .int .i64 pa, .int .i64 ag, .int .i64 sz, .bool cp] := by rw [hW1.out]; exact Whole.new w1 _ _
      obtain ⟨q, hq⟩ : ∃ q, Hid (w1.heap.size = q) := ⟨_, Lib.hid rfl⟩
      rw [hq.out] at Y1
      have B1 := Lib.hid (grew hb1 c1)
      replace Y1 := Lib.hid Y1
      clear hb1 c1
      go_upto_region 4 with fail
      rw [← show W1 = _ from hW1.out, hq.out]
      clear hW1 hq
      go_wp2_with fail
      refine (hr.out _).mono ?_
      rintro _ w2 ⟨rfl, hb2⟩
      obtain ⟨W2, hW2⟩ : ∃ W, Hid (W = w2.alloc (.cells #[.string nm, .int .i64 pa, .int .i64 ag, .int .i64 sz, .bool cp, .int .i64 (n : Int), .bool true] 47)) := ⟨_, Lib.hid rfl⟩
      have c2 : Below w2.heap.size w2 W2 := by rw [hW2.out]; exact grewAlloc (Below.refl _ _) _
      have Hz : Whole W2 w2.heap.size 47 [.string nm, .int .i64 pa, .int .i64 ag, .int .i64 sz, .bool cp, .int .i64 (n : Int), .bool true] := by rw [hW2.out]; exact Whole.new w2 _ _
      have Hy := (Y1.out.below hb2 Y1.out.lt).below c2 (Y1.out.below hb2 Y1.out.lt).lt
      obtain ⟨r, hr0⟩ : ∃ q, Hid (w2.heap.size = q) := ⟨_, Lib.hid rfl⟩
      rw [hr0.out] at Hz
      have B2 := Lib.hid (grew (grew B1.out hb2) c2)
      have y0 : W2.cell? ⟨q, 0, none⟩ = some (.string nm) := Hy.cell 0
      have y1 : W2.cell? ⟨q, 1, none⟩ = some (.int .i64 pa) := Hy.cell 1
      have y2 : W2.cell? ⟨q, 2, none⟩ = some (.int .i64 ag) := Hy.cell 2
      have y3 : W2.cell? ⟨q, 3, none⟩ = some (.int .i64 sz) := Hy.cell 3
      have y4 : W2.cell? ⟨q, 4, none⟩ = some (.bool cp) := Hy.cell 4
      have z0 : W2.cell? ⟨r, 0, none⟩ = some (.string nm) := Hz.cell 0
      have z1 : W2.cell? ⟨r, 1, none⟩ = some (.int .i64 pa) := Hz.cell 1
      have z2 : W2.cell? ⟨r, 2, none⟩ = some (.int .i64 ag) := Hz.cell 2
      have z3 : W2.cell? ⟨r, 3, none⟩ = some (.int .i64 sz) := Hz.cell 3
      have z4 : W2.cell? ⟨r, 4, none⟩ = some (.bool cp) := Hz.cell 4
      have z5 : W2.cell? ⟨r, 5, none⟩ = some (.int .i64 (n : Int)) := Hz.cell 5
      have z6 : W2.cell? ⟨r, 6, none⟩ = some (.bool true) := Hz.cell 6
      clear Hy Hz hb2 c2 B1 Y1
      go_upto_region 5 with fail
      rw [← show W2 = _ from hW2.out, hr0.out]
      clear hW2 hr0
      go_wp2_with fail
      refine (hlog.out _).mono ?_
      rintro _ w3 ⟨rfl, hb3⟩
      have B3 := Lib.hid (grew B2.out hb3)
      clear hb3
      go_wp2_with fail
      go_ret
      exact ⟨rfl, B3.out⟩

theorem own : ownKnob Try.prog.godebug = none := by kernel_rfl
theorem laidOut : laidOutB Try.prog = true := by kernel_rfl

set_option maxRecDepth 100000 in
theorem lifted (os : Os) (started : os.Started) (H : Type) (enc : TypeId × Value → H) :
    ReturnsInHanded {} Try.checked os 7 .any (Rows.topicDecodesSpec.pre6 enc Try.prog Try.f7 Rows.topicDecodesRow.domain false) (Rows.topicDecodesSpec.post enc Try.prog Try.f7 false true false false) := by
  refine returnsInHanded_of_change (C := Try.checked) own started (by kernel_rfl) Try.func7
    (ChangeSpec.witness6 (enc := enc) (C := Try.checked) false ⟨#[], #[.string ByteArray.empty], []⟩ 8 (by kernel_rfl) (by kernel_rfl) (by kernel_rfl) (by kernel_rfl)) ?_
  intro W base args ds gs before hval0 hW hcnd _
  have hval : ∀ (j : Nat) t v, Try.f7.params[j]? = some t → args[j]? = some v → Value.okWide Try.prog W .any base t v := hval0
  have hW' := hW
  obtain ⟨p, q, hA0, hV, rfl, hfz, hnd⟩ := hW
  have hA : DataW.TrodAll enc Try.prog W 0 (fun _ => true) true Try.f7.params.toList args.toList ds p := hA0
  rw [Try.params7] at hA hval
  obtain ⟨v0, vs0, d0, ds0, p0, q0, hargs, rfl, rfl, h0, r0⟩ := trodAll_cons hA
  obtain ⟨rfl, rfl, rfl⟩ := trodAll_nil r0
  obtain rfl : args = #[v0] := by cases args; simp_all
  obtain ⟨rfl, rfl⟩ := trodVars_none hV
  obtain ⟨a0, rfl, rfl, rfl, w0⟩ := open_string Try.underlying9 (hval 0 9 v0 rfl rfl) h0
  clear hA0 hval0
  refine (walk a0 W w0).mono fun e W' ⟨he, bel⟩ => ?_
  subst he
  exact ⟨_, rfl, _, _, _, [], [], [], hW', trodAll_mk1 (shut_bool Try.underlying4 _), (trodAll_cons_mk (shut_string Try.underlying9 w0) trodAll_mk0), rfl, bel.frame _, fun h => by cases h⟩

theorem over : Rows.topicDecodesRow.holds Try.pinned (OpenSpec.ofChange Rows.topicDecodesSpec) :=
  OpenClaim.holds_of_wide 7 Try.f7 rfl rfl rfl rfl rfl rfl rfl ⟨rfl, rfl, rfl, rfl, rfl⟩ rfl rfl rfl rfl rfl (by kernel_rfl) Try.func7 (by kernel_rfl)
    (of_decide_eq_true (by kernel_rfl)) (by unfold Func.isWrapper; first | (rw [if_pos (by decide +kernel)]; kernel_rfl) | (rw [if_neg (by decide +kernel)]; exact ⟨rfl, rfl⟩))
    (fun os started H enc _ => lifted os started H enc)

/-- The statement. -/
theorem proved : Rows.TopicDecodesSaid := over
#print axioms proved

end Go.Proofs.Ytpfnpfbimadjkaa.topicDecodes
