/- For every record and every string the law RecordCodes returns true: its bytes are those of the definition, or why there are none; and what is read of them, whatever stands behind, is the record. No condition. -/
import Derived.Test.YtgfamaddghajlaaRows
import Derived.Test.YtgfamaddghajlaaRcOne
import Derived.Test.YtgfamaddghajlaaOpenRc
import Derived.ChangeOld
import Derived.ShutString
import Derived.Deep.Cut
namespace Go.Proofs.Ytgfamaddghajlaa.recordCodes
open Go.ChangeShapes Go.WideShapes Go.ChangeAt Go.RowKit Go.Sort
open Go.ChangeMaps (open_string shut_string)
open Go.Proofs.Ytgfamaddghajlaa.M Go.Proofs.Ytgfamaddghajlaa.W Go.Proofs.Ytgfamaddghajlaa.D Go.Proofs.Ytgfamaddghajlaa.Z
set_option linter.unusedVariables false
set_option linter.unusedSimpArgs false

set_option maxRecDepth 100000 in
set_option maxHeartbeats 4000000 in
theorem walk (a0 : Rc) (a1 : ByteArray) (w : World) (w0 : wfR a0) (w1 : a1.size ≤ maxLen) :
    Calls Try.prog 3 #[rcV a0, .string a1] w fun e w' => e = .returned (.bool true) ∧ Below w.heap.size w w' := by
  unfold maxLen at w1
  have hR := Lib.hid (Whole.new w 23 [.int .i64 a0.off, .int .i64 a0.tick, .string a0.key, .string a0.val, .bool a0.gone, .int .i64 a0.prod, .int .i64 a0.seq, .int .i64 a0.frm])
  have hB := Lib.hid ((Below.refl w.heap.size w).alloc (Nat.le_refl _) (.cells #[.int .i64 a0.off, .int .i64 a0.tick, .string a0.key, .string a0.val, .bool a0.gone, .int .i64 a0.prod, .int .i64 a0.seq, .int .i64 a0.frm] 23))
  have hlg := fun W => rlarge_any a0 W
  by_cases hbig : bigR a0 = true
  · rw [hbig] at hlg
    replace hlg := Lib.hid hlg
    clear hbig
    go_enter Try.func3, Try.ntmps3
    go_wp2_with fail
    refine (hlg.out _).mono ?_
    rintro e u9 ⟨rfl, hb⟩
    have hBn := Lib.hid (grew hB.out hb)
    clear hB hb 
    have hB := hBn
    clear hBn
    go_wp2_with fail
    refine (rone_any _).mono ?_
    rintro e u1 ⟨rfl, hb⟩
    have hBn := Lib.hid (grew hB.out hb)
    clear hB hb 
    have hB := hBn
    clear hBn
    go_wp2_with fail
    go_ret
    exact ⟨rfl, hB.out⟩
  have hsm : bigR a0 = false := by simpa using hbig
  rw [hsm] at hlg
  replace hlg := Lib.hid hlg
  by_cases hl : 300 < a1.size
  · have hli : (300 : Int) < (a1.size : Int) := by omega
    clear hbig hsm
    go_enter Try.func3, Try.ntmps3
    go_wp2_with fail
    refine (hlg.out _).mono ?_
    rintro e u10 ⟨rfl, hb⟩
    have hBn := Lib.hid (grew hB.out hb)
    clear hB hb 
    have hB := hBn
    clear hBn
    go_wp2_with fail
    refine (rone_any _).mono ?_
    rintro e u1 ⟨rfl, hb⟩
    have hBn := Lib.hid (grew hB.out hb)
    clear hB hb 
    have hB := hBn
    clear hBn
    go_wp2_with fail
    go_ret
    exact ⟨rfl, hB.out⟩
  have hli : (a1.size : Int) ≤ 300 := by omega
  have hl2 : a1.size ≤ 300 := by omega
  have hmr := fun W => rmay_any a0.off a0.tick a0.key a0.val a0.gone a0.prod a0.seq a0.frm W
  have hmp := fun W => may_any a0.off a0.tick a0.key a0.val a0.gone a0.prod a0.seq a0.frm W
  by_cases hok : a0.ok
  · rw [show (Rc.mk a0.off a0.tick a0.key a0.val a0.gone a0.prod a0.seq a0.frm).may = true from decide_eq_true hok] at hmr hmp
    have hsz := fun W => size_yes a0.off a0.tick a0.key a0.val a0.gone a0.prod a0.seq a0.frm W hok
    have hen := fun W => enc_yes a0.off a0.tick a0.key a0.val a0.gone a0.prod a0.seq a0.frm W hok
    have hre := fun W => renc_yes a0.off a0.tick a0.key a0.val a0.gone a0.prod a0.seq a0.frm W hok
    rw [show Rc.mk a0.off a0.tick a0.key a0.val a0.gone a0.prod a0.seq a0.frm = a0 from rfl] at hsz hen hre
    have hbd := recL_bounds hok
    have hkv := hok.2.2.2.2.2.2
    have hS1 := B_size (recL a0)
    have hde : ∀ W, Calls Try.prog 14 #[.string (B (recL a0) ++ a1)] W fun e w' => e = .returned (.tuple #[rcV a0, .int .i64 ((recL a0).length : Int), .int .i64 0]) ∧ Below W.heap.size W w' := fun W =>
      dec_yes (B (recL a0) ++ a1) a0 (recL a0).length W (by rw [ByteArray.size_append, hS1]; omega) (by
        have := recAt_rec (r := a0) (s := B (recL a0) ++ a1) (p := 0) (t := a1.data.toList) hok (by rw [List.drop_zero, ByteArray.data_append]; simp [B])
        rwa [Nat.zero_add] at this)
    obtain ⟨n, hn⟩ : ∃ n, Hid ((recL a0).length = n) := ⟨_, Lib.hid rfl⟩
    obtain ⟨S, hS⟩ : ∃ S, Hid (B (recL a0) = S) := ⟨_, Lib.hid rfl⟩
    rw [hn.out] at hsz hde hS1 hbd
    rw [hS.out] at hen hre hde hS1
    have hSi : (S.size : Int) = (n : Int) := by omega
    have hn6 : n ≤ 1000 := by omega
    have hS6 : S.size ≤ 1000 := by omega
    have hsz2 : (S ++ a1).size ≤ 2000 := by rw [ByteArray.size_append]; omega
    have hse : (S.toList == S.toList) = true := by simp
    have hsq := fun W => same_rc a0 (ok_wf hok) W
    replace hmr := Lib.hid hmr
    replace hmp := Lib.hid hmp
    replace hsz := Lib.hid hsz
    replace hen := Lib.hid hen
    replace hre := Lib.hid hre
    replace hde := Lib.hid hde
    clear hbig hsm hok hbd hkv
    go_enter Try.func3, Try.ntmps3
    go_wp2_with fail
    refine (hlg.out _).mono ?_
    rintro e u11 ⟨rfl, hb⟩
    have hRn := Lib.hid (hR.out.below hb hR.out.lt)
    have hBn := Lib.hid (grew hB.out hb)
    clear hB hb hR
    have hB := hBn
    clear hBn
    have hR := hRn
    clear hRn
    obtain ⟨x0, x1, x2, x3, x4, x5, x6, x7⟩ := recCells hR.out
    go_wp2_with fail
    clear x0 x1 x2 x3 x4 x5 x6 x7
    refine (hen.out _).mono ?_
    rintro e u12 ⟨rfl, hb⟩
    have hRn := Lib.hid (hR.out.below hb hR.out.lt)
    have hBn := Lib.hid (grew hB.out hb)
    clear hB hb hR
    have hB := hBn
    clear hBn
    have hR := hRn
    clear hRn
    obtain ⟨x0, x1, x2, x3, x4, x5, x6, x7⟩ := recCells hR.out
    go_wp2_with fail
    clear x0 x1 x2 x3 x4 x5 x6 x7
    refine (hmr.out _).mono ?_
    rintro e u13 ⟨rfl, hb⟩
    have hRn := Lib.hid (hR.out.below hb hR.out.lt)
    have hBn := Lib.hid (grew hB.out hb)
    clear hB hb hR
    have hB := hBn
    clear hBn
    have hR := hRn
    clear hRn
    obtain ⟨x0, x1, x2, x3, x4, x5, x6, x7⟩ := recCells hR.out
    go_wp2_with fail
    clear x0 x1 x2 x3 x4 x5 x6 x7
    refine (hmp.out _).mono ?_
    rintro e u14 ⟨rfl, hb⟩
    have hRn := Lib.hid (hR.out.below hb hR.out.lt)
    have hBn := Lib.hid (grew hB.out hb)
    clear hB hb hR
    have hB := hBn
    clear hBn
    have hR := hRn
    clear hRn
    obtain ⟨x0, x1, x2, x3, x4, x5, x6, x7⟩ := recCells hR.out
    go_wp2_with fail
    clear x0 x1 x2 x3 x4 x5 x6 x7
    refine (hsz.out _).mono ?_
    rintro e u15 ⟨rfl, hb⟩
    have hRn := Lib.hid (hR.out.below hb hR.out.lt)
    have hBn := Lib.hid (grew hB.out hb)
    clear hB hb hR
    have hB := hBn
    clear hBn
    have hR := hRn
    clear hRn
    go_wp2_with fail
    refine (hde.out _).mono ?_
    rintro e u16 ⟨rfl, hb⟩
    have hRn := Lib.hid (hR.out.below hb hR.out.lt)
    have hBn := Lib.hid (grew hB.out hb)
    clear hB hb hR
    have hB := hBn
    clear hBn
    have hR := hRn
    clear hRn
    obtain ⟨b8, hb8⟩ : ∃ b, Hid (u16.heap.size = b) := ⟨_, Lib.hid rfl⟩
    have hX := Whole.new u16 23 [.int .i64 a0.off, .int .i64 a0.tick, .string a0.key, .string a0.val, .bool a0.gone, .int .i64 a0.prod, .int .i64 a0.seq, .int .i64 a0.frm]
    rw [hb8.out] at hX
    have hRn := hR.out.alloc (.cells #[.int .i64 a0.off, .int .i64 a0.tick, .string a0.key, .string a0.val, .bool a0.gone, .int .i64 a0.prod, .int .i64 a0.seq, .int .i64 a0.frm] 23)
    have hBn := grewAlloc hB.out (.cells #[.int .i64 a0.off, .int .i64 a0.tick, .string a0.key, .string a0.val, .bool a0.gone, .int .i64 a0.prod, .int .i64 a0.seq, .int .i64 a0.frm] 23)
    obtain ⟨W8, hW8⟩ : ∃ W, Hid (W = u16.alloc (.cells #[.int .i64 a0.off, .int .i64 a0.tick, .string a0.key, .string a0.val, .bool a0.gone, .int .i64 a0.prod, .int .i64 a0.seq, .int .i64 a0.frm] 23)) := ⟨_, Lib.hid rfl⟩
    rw [← show W8 = _ from hW8.out] at hX hRn hBn
    clear hR hB
    have hR := Lib.hid hRn
    have hB := Lib.hid hBn
    replace hX := Lib.hid hX
    clear hRn hBn
    go_upto_region 10 with fail
    rw [← show W8 = _ from hW8.out, hb8.out]
    clear hW8
    obtain ⟨x0, x1, x2, x3, x4, x5, x6, x7⟩ := recCells hR.out
    go_wp2_with fail
    clear x0 x1 x2 x3 x4 x5 x6 x7
    refine (hre.out _).mono ?_
    rintro e u17 ⟨rfl, hb⟩
    have hRn := Lib.hid (hR.out.below hb hR.out.lt)
    have hXn := Lib.hid (hX.out.below hb hX.out.lt)
    have hBn := Lib.hid (grew hB.out hb)
    clear hB hb hR hX
    have hB := hBn
    clear hBn
    have hR := hRn
    clear hRn
    have hX := hXn
    clear hXn
    obtain ⟨x0, x1, x2, x3, x4, x5, x6, x7⟩ := recCells hR.out
    obtain ⟨y0, y1, y2, y3, y4, y5, y6, y7⟩ := recCells hX.out
    go_wp2_with fail
    clear x0 x1 x2 x3 x4 x5 x6 x7
    clear y0 y1 y2 y3 y4 y5 y6 y7
    refine (rone_any _).mono ?_
    rintro e u1 ⟨rfl, hb⟩
    have hBn := Lib.hid (grew hB.out hb)
    clear hB hb 
    have hB := hBn
    clear hBn
    go_wp2_with fail
    go_ret
    exact ⟨rfl, hB.out⟩
  · rw [show (Rc.mk a0.off a0.tick a0.key a0.val a0.gone a0.prod a0.seq a0.frm).may = false from decide_eq_false hok] at hmr hmp
    have hsz := fun W => size_no a0.off a0.tick a0.key a0.val a0.gone a0.prod a0.seq a0.frm W hok
    have hen := fun W => enc_no a0.off a0.tick a0.key a0.val a0.gone a0.prod a0.seq a0.frm W hok
    replace hmr := Lib.hid hmr
    replace hmp := Lib.hid hmp
    replace hsz := Lib.hid hsz
    replace hen := Lib.hid hen
    clear hbig hsm hok
    go_enter Try.func3, Try.ntmps3
    go_wp2_with fail
    refine (hlg.out _).mono ?_
    rintro e u18 ⟨rfl, hb⟩
    have hRn := Lib.hid (hR.out.below hb hR.out.lt)
    have hBn := Lib.hid (grew hB.out hb)
    clear hB hb hR
    have hB := hBn
    clear hBn
    have hR := hRn
    clear hRn
    obtain ⟨x0, x1, x2, x3, x4, x5, x6, x7⟩ := recCells hR.out
    go_wp2_with fail
    clear x0 x1 x2 x3 x4 x5 x6 x7
    refine (hen.out _).mono ?_
    rintro e u19 ⟨rfl, hb⟩
    have hRn := Lib.hid (hR.out.below hb hR.out.lt)
    have hBn := Lib.hid (grew hB.out hb)
    clear hB hb hR
    have hB := hBn
    clear hBn
    have hR := hRn
    clear hRn
    obtain ⟨x0, x1, x2, x3, x4, x5, x6, x7⟩ := recCells hR.out
    go_wp2_with fail
    clear x0 x1 x2 x3 x4 x5 x6 x7
    refine (hmr.out _).mono ?_
    rintro e u20 ⟨rfl, hb⟩
    have hRn := Lib.hid (hR.out.below hb hR.out.lt)
    have hBn := Lib.hid (grew hB.out hb)
    clear hB hb hR
    have hB := hBn
    clear hBn
    have hR := hRn
    clear hRn
    obtain ⟨x0, x1, x2, x3, x4, x5, x6, x7⟩ := recCells hR.out
    go_wp2_with fail
    clear x0 x1 x2 x3 x4 x5 x6 x7
    refine (hmp.out _).mono ?_
    rintro e u21 ⟨rfl, hb⟩
    have hRn := Lib.hid (hR.out.below hb hR.out.lt)
    have hBn := Lib.hid (grew hB.out hb)
    clear hB hb hR
    have hB := hBn
    clear hBn
    have hR := hRn
    clear hRn
    obtain ⟨x0, x1, x2, x3, x4, x5, x6, x7⟩ := recCells hR.out
    go_wp2_with fail
    clear x0 x1 x2 x3 x4 x5 x6 x7
    refine (hsz.out _).mono ?_
    rintro e u22 ⟨rfl, hb⟩
    have hRn := Lib.hid (hR.out.below hb hR.out.lt)
    have hBn := Lib.hid (grew hB.out hb)
    clear hB hb hR
    have hB := hBn
    clear hBn
    have hR := hRn
    clear hRn
    go_wp2_with fail
    refine (rone_any _).mono ?_
    rintro e u1 ⟨rfl, hb⟩
    have hBn := Lib.hid (grew hB.out hb)
    clear hB hb 
    have hB := hBn
    clear hBn
    go_wp2_with fail
    go_ret
    exact ⟨rfl, hB.out⟩


theorem own : ownKnob Try.prog.godebug = none := by kernel_rfl
theorem laidOut : laidOutB Try.prog = true := by kernel_rfl

set_option maxRecDepth 100000 in
theorem lifted (os : Os) (started : os.Started) (H : Type) (enc : TypeId × Value → H) :
    ReturnsInHanded {} Try.checked os 3 .any (Rows.recordCodesSpec.pre6 enc Try.prog Try.f3 Rows.recordCodesRow.domain false) (Rows.recordCodesSpec.post enc Try.prog Try.f3 false true false false) := by
  refine returnsInHanded_of_change (C := Try.checked) own started (by kernel_rfl) Try.func3
    (ChangeSpec.witness6 (enc := enc) (C := Try.checked) false ⟨#[], #[.agg #[.int .i64 0, .int .i64 0, .string ByteArray.empty, .string ByteArray.empty, .bool false, .int .i64 0, .int .i64 0, .int .i64 0], .string ByteArray.empty], []⟩ 8 (by kernel_rfl) (by kernel_rfl) (by kernel_rfl) (by kernel_rfl)) ?_
  intro W base args ds gs before hval0 hW hcnd _
  have hval : ∀ (j : Nat) t v, Try.f3.params[j]? = some t → args[j]? = some v → Value.okWide Try.prog W .any base t v := hval0
  have hW' := hW
  obtain ⟨p, q, hA0, hV, rfl, hfz, hnd⟩ := hW
  have hA : DataW.TrodAll enc Try.prog W 0 (fun _ => true) true Try.f3.params.toList args.toList ds p := hA0
  rw [Try.params3] at hA hval
  obtain ⟨v0, vs0, d0, ds0, p0, q0, hargs, rfl, rfl, h0, r0⟩ := trodAll_cons hA
  obtain ⟨v1, vs1, d1, ds1, p1, q1, rfl, rfl, rfl, h1, r1⟩ := trodAll_cons r0
  obtain ⟨rfl, rfl, rfl⟩ := trodAll_nil r1
  obtain rfl : args = #[v0, v1] := by cases args; simp_all
  obtain ⟨rfl, rfl⟩ := trodVars_none hV
  have k0 := h0
  have lt0 : ∀ x ∈ p0, x.block < W.heap.size := by obtain ⟨m, hm⟩ := k0; exact DataW.trod_lt m _ _ _ hm
  obtain ⟨rr0, rfl, wrr0⟩ := Go.Proofs.Ytgfamaddghajlaa.W.open_rc (hval 0 23 v0 rfl rfl) h0
  obtain ⟨a1, rfl, rfl, rfl, w1⟩ := open_string Try.underlying9 (hval 1 9 v1 rfl rfl) h1
  clear hA0 hval0
  refine (walk rr0 a1 W wrr0 w1).mono fun e W' ⟨he, bel⟩ => ?_
  subst he
  exact ⟨_, rfl, _, _, _, [], _, [], hW', trodAll_mk1 (shut_bool Try.underlying4 _), (trodAll_cons_mk (Below.trod laidOut (by kernel_rfl) (of_decide_eq_true (by kernel_rfl)) k0 bel lt0) (trodAll_cons_mk (shut_string Try.underlying9 w1) trodAll_mk0)), rfl, bel.frame _, fun h => by cases h⟩

theorem over : Rows.recordCodesRow.holds Try.pinned (OpenSpec.ofChange Rows.recordCodesSpec) :=
  OpenClaim.holds_of_wide 3 Try.f3 rfl rfl rfl rfl rfl rfl rfl ⟨rfl, rfl, rfl, rfl, rfl⟩ rfl rfl rfl rfl rfl (by kernel_rfl) Try.func3 (by kernel_rfl)
    (of_decide_eq_true (by kernel_rfl)) (by unfold Func.isWrapper; first | (rw [if_pos (by decide +kernel)]; kernel_rfl) | (rw [if_neg (by decide +kernel)]; exact ⟨rfl, rfl⟩))
    (fun os started H enc _ => lifted os started H enc)

/-- The statement. -/
theorem proved : Rows.RecordCodesSaid := over
#print axioms proved

end Go.Proofs.Ytgfamaddghajlaa.recordCodes
