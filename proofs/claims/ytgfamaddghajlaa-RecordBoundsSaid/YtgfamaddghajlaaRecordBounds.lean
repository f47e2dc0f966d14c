/- For every record the law RecordBounds returns true: it has at the least 8 bytes more than its key and value, at the most 31 more. No condition. -/
import Derived.Test.YtgfamaddghajlaaRows
import Derived.Test.YtgfamaddghajlaaRcOne
import Derived.Test.YtgfamaddghajlaaOpenRc
import Derived.ChangeOld
import Derived.ShutString
import Derived.Deep.Cut
namespace Go.Proofs.Ytgfamaddghajlaa.recordBounds
open Go.ChangeShapes Go.WideShapes Go.ChangeAt Go.RowKit Go.Sort
open Go.ChangeMaps (open_string shut_string)
open Go.Proofs.Ytgfamaddghajlaa.M Go.Proofs.Ytgfamaddghajlaa.W Go.Proofs.Ytgfamaddghajlaa.D Go.Proofs.Ytgfamaddghajlaa.Z
set_option linter.unusedVariables false
set_option linter.unusedSimpArgs false

set_option maxRecDepth 100000 in
set_option maxHeartbeats 4000000 in
theorem walk (a0 : Rc) (w : World) (w0 : wfR a0) :
    Calls Try.prog 7 #[rcV a0] w fun e w' => e = .returned (.bool true) ∧ Below w.heap.size w w' := by
  have hR := Lib.hid (Whole.new w 23 [.int .i64 a0.off, .int .i64 a0.tick, .string a0.key, .string a0.val, .bool a0.gone, .int .i64 a0.prod, .int .i64 a0.seq, .int .i64 a0.frm])
  have hB := Lib.hid ((Below.refl w.heap.size w).alloc (Nat.le_refl _) (.cells #[.int .i64 a0.off, .int .i64 a0.tick, .string a0.key, .string a0.val, .bool a0.gone, .int .i64 a0.prod, .int .i64 a0.seq, .int .i64 a0.frm] 23))
  have hlg := fun W => rlarge_any a0 W
  by_cases hbig : bigR a0 = true
  · rw [hbig] at hlg
    replace hlg := Lib.hid hlg
    clear hbig
    go_enter Try.func7, Try.ntmps7
    go_wp2_with fail
    refine (hlg.out _).mono ?_
    rintro e u2 ⟨rfl, hb⟩
    have hBn := Lib.hid (grew hB.out hb)
    clear hB hb 
    have hB := hBn
    clear hBn
    go_wp2_with fail
    refine (rone_any _).mono ?_
    rintro e u1 ⟨rfl, hb⟩
    have hBn := Lib.hid (grew hB.out hb)
    clear hB hb 
    have hB := hBn
    clear hBn
    go_wp2_with fail
    go_ret
    exact ⟨rfl, hB.out⟩
  have hsm : bigR a0 = false := by simpa using hbig
  rw [hsm] at hlg
  replace hlg := Lib.hid hlg
  have hmr := fun W => rmay_any a0.off a0.tick a0.key a0.val a0.gone a0.prod a0.seq a0.frm W
  by_cases hok : a0.ok
  · rw [show (Rc.mk a0.off a0.tick a0.key a0.val a0.gone a0.prod a0.seq a0.frm).may = true from decide_eq_true hok] at hmr
    have hsz := fun W => size_yes a0.off a0.tick a0.key a0.val a0.gone a0.prod a0.seq a0.frm W hok
    rw [show Rc.mk a0.off a0.tick a0.key a0.val a0.gone a0.prod a0.seq a0.frm = a0 from rfl] at hsz
    obtain ⟨b1, b2⟩ := recL_bounds hok
    obtain ⟨_, _, _, _, _, _, hk, hv, _⟩ := hok
    have hw1 : IntKind.i64.wrap (8 + (a0.key.size : Int)) = 8 + (a0.key.size : Int) := IntWalk.i64_in _ (by omega)
    have hw2 : IntKind.i64.wrap (8 + (a0.key.size : Int) + (a0.val.size : Int)) = 8 + (a0.key.size : Int) + (a0.val.size : Int) := IntWalk.i64_in _ (by omega)
    have hw3 : IntKind.i64.wrap (31 + (a0.key.size : Int)) = 31 + (a0.key.size : Int) := IntWalk.i64_in _ (by omega)
    have hw4 : IntKind.i64.wrap (31 + (a0.key.size : Int) + (a0.val.size : Int)) = 31 + (a0.key.size : Int) + (a0.val.size : Int) := IntWalk.i64_in _ (by omega)
    obtain ⟨n, hn⟩ : ∃ n, Hid ((recL a0).length = n) := ⟨_, Lib.hid rfl⟩
    rw [hn.out] at hsz b1 b2
    have b3 : 8 + (a0.key.size : Int) + (a0.val.size : Int) ≤ (n : Int) := by omega
    have b4 : (n : Int) ≤ 31 + (a0.key.size : Int) + (a0.val.size : Int) := by omega
    replace hmr := Lib.hid hmr
    replace hsz := Lib.hid hsz
    clear hbig hsm
    go_enter Try.func7, Try.ntmps7
    go_wp2_with fail
    refine (hlg.out _).mono ?_
    rintro e u3 ⟨rfl, hb⟩
    have hRn := Lib.hid (hR.out.below hb hR.out.lt)
    have hBn := Lib.hid (grew hB.out hb)
    clear hB hb hR
    have hB := hBn
    clear hBn
    have hR := hRn
    clear hRn
    obtain ⟨x0, x1, x2, x3, x4, x5, x6, x7⟩ := recCells hR.out
    go_wp2_with fail
    clear x0 x1 x2 x3 x4 x5 x6 x7
    refine (hsz.out _).mono ?_
    rintro e u4 ⟨rfl, hb⟩
    have hRn := Lib.hid (hR.out.below hb hR.out.lt)
    have hBn := Lib.hid (grew hB.out hb)
    clear hB hb hR
    have hB := hBn
    clear hBn
    have hR := hRn
    clear hRn
    obtain ⟨x0, x1, x2, x3, x4, x5, x6, x7⟩ := recCells hR.out
    go_wp2_with fail
    clear x0 x1 x2 x3 x4 x5 x6 x7
    refine (hmr.out _).mono ?_
    rintro e u5 ⟨rfl, hb⟩
    have hRn := Lib.hid (hR.out.below hb hR.out.lt)
    have hBn := Lib.hid (grew hB.out hb)
    clear hB hb hR
    have hB := hBn
    clear hBn
    have hR := hRn
    clear hRn
    obtain ⟨x0, x1, x2, x3, x4, x5, x6, x7⟩ := recCells hR.out
    go_wp2_with fail
    clear x0 x1 x2 x3 x4 x5 x6 x7
    refine (rone_any _).mono ?_
    rintro e u1 ⟨rfl, hb⟩
    have hBn := Lib.hid (grew hB.out hb)
    clear hB hb 
    have hB := hBn
    clear hBn
    go_wp2_with fail
    go_ret
    exact ⟨rfl, hB.out⟩
  · rw [show (Rc.mk a0.off a0.tick a0.key a0.val a0.gone a0.prod a0.seq a0.frm).may = false from decide_eq_false hok] at hmr
    have hsz := fun W => size_no a0.off a0.tick a0.key a0.val a0.gone a0.prod a0.seq a0.frm W hok
    replace hmr := Lib.hid hmr
    replace hsz := Lib.hid hsz
    clear hbig hsm hok
    go_enter Try.func7, Try.ntmps7
    go_wp2_with fail
    refine (hlg.out _).mono ?_
    rintro e u6 ⟨rfl, hb⟩
    have hRn := Lib.hid (hR.out.below hb hR.out.lt)
    have hBn := Lib.hid (grew hB.out hb)
    clear hB hb hR
    have hB := hBn
    clear hBn
    have hR := hRn
    clear hRn
    obtain ⟨x0, x1, x2, x3, x4, x5, x6, x7⟩ := recCells hR.out
    go_wp2_with fail
    clear x0 x1 x2 x3 x4 x5 x6 x7
    refine (hsz.out _).mono ?_
    rintro e u7 ⟨rfl, hb⟩
    have hRn := Lib.hid (hR.out.below hb hR.out.lt)
    have hBn := Lib.hid (grew hB.out hb)
    clear hB hb hR
    have hB := hBn
    clear hBn
    have hR := hRn
    clear hRn
    obtain ⟨x0, x1, x2, x3, x4, x5, x6, x7⟩ := recCells hR.out
    go_wp2_with fail
    clear x0 x1 x2 x3 x4 x5 x6 x7
    refine (hmr.out _).mono ?_
    rintro e u8 ⟨rfl, hb⟩
    have hRn := Lib.hid (hR.out.below hb hR.out.lt)
    have hBn := Lib.hid (grew hB.out hb)
    clear hB hb hR
    have hB := hBn
    clear hBn
    have hR := hRn
    clear hRn
    go_wp2_with fail
    refine (rone_any _).mono ?_
    rintro e u1 ⟨rfl, hb⟩
    have hBn := Lib.hid (grew hB.out hb)
    clear hB hb 
    have hB := hBn
    clear hBn
    go_wp2_with fail
    go_ret
    exact ⟨rfl, hB.out⟩


theorem own : ownKnob Try.prog.godebug = none := by kernel_rfl
theorem laidOut : laidOutB Try.prog = true := by kernel_rfl

set_option maxRecDepth 100000 in
theorem lifted (os : Os) (started : os.Started) (H : Type) (enc : TypeId × Value → H) :
    ReturnsInHanded {} Try.checked os 7 .any (Rows.recordBoundsSpec.pre6 enc Try.prog Try.f7 Rows.recordBoundsRow.domain false) (Rows.recordBoundsSpec.post enc Try.prog Try.f7 false true false false) := by
  refine returnsInHanded_of_change (C := Try.checked) own started (by kernel_rfl) Try.func7
    (ChangeSpec.witness6 (enc := enc) (C := Try.checked) false ⟨#[], #[.agg #[.int .i64 0, .int .i64 0, .string ByteArray.empty, .string ByteArray.empty, .bool false, .int .i64 0, .int .i64 0, .int .i64 0]], []⟩ 8 (by kernel_rfl) (by kernel_rfl) (by kernel_rfl) (by kernel_rfl)) ?_
  intro W base args ds gs before hval0 hW hcnd _
  have hval : ∀ (j : Nat) t v, Try.f7.params[j]? = some t → args[j]? = some v → Value.okWide Try.prog W .any base t v := hval0
  have hW' := hW
  obtain ⟨p, q, hA0, hV, rfl, hfz, hnd⟩ := hW
  have hA : DataW.TrodAll enc Try.prog W 0 (fun _ => true) true Try.f7.params.toList args.toList ds p := hA0
  rw [Try.params7] at hA hval
  obtain ⟨v0, vs0, d0, ds0, p0, q0, hargs, rfl, rfl, h0, r0⟩ := trodAll_cons hA
  obtain ⟨rfl, rfl, rfl⟩ := trodAll_nil r0
  obtain rfl : args = #[v0] := by cases args; simp_all
  obtain ⟨rfl, rfl⟩ := trodVars_none hV
  have k0 := h0
  have lt0 : ∀ x ∈ p0, x.block < W.heap.size := by obtain ⟨m, hm⟩ := k0; exact DataW.trod_lt m _ _ _ hm
  obtain ⟨rr0, rfl, wrr0⟩ := Go.Proofs.Ytgfamaddghajlaa.W.open_rc (hval 0 23 v0 rfl rfl) h0
  clear hA0 hval0
  refine (walk rr0 W wrr0).mono fun e W' ⟨he, bel⟩ => ?_
  subst he
  exact ⟨_, rfl, _, _, _, [], _, [], hW', trodAll_mk1 (shut_bool Try.underlying4 _), (trodAll_cons_mk (Below.trod laidOut (by kernel_rfl) (of_decide_eq_true (by kernel_rfl)) k0 bel lt0) trodAll_mk0), rfl, bel.frame _, fun h => by cases h⟩

theorem over : Rows.recordBoundsRow.holds Try.pinned (OpenSpec.ofChange Rows.recordBoundsSpec) :=
  OpenClaim.holds_of_wide 7 Try.f7 rfl rfl rfl rfl rfl rfl rfl ⟨rfl, rfl, rfl, rfl, rfl⟩ rfl rfl rfl rfl rfl (by kernel_rfl) Try.func7 (by kernel_rfl)
    (of_decide_eq_true (by kernel_rfl)) (by unfold Func.isWrapper; first | (rw [if_pos (by decide +kernel)]; kernel_rfl) | (rw [if_neg (by decide +kernel)]; exact ⟨rfl, rfl⟩))
    (fun os started H enc _ => lifted os started H enc)

/-- The statement. -/
theorem proved : Rows.RecordBoundsSaid := over
#print axioms proved

end Go.Proofs.Ytgfamaddghajlaa.recordBounds
