/- Package dedup's calls of nil; the small case of layer 18. -/
import Derived.Test.YtbbeapglkdkajaaDdE
namespace Go.Proofs.Ytbbeapglkdkajaa.W
open Go.RowKit Go.Sort
open Go.Proofs.Ytbbeapglkdkajaa.M Go.Proofs.Ytbbeapglkdkajaa.D Go.Proofs.Ytbbeapglkdkajaa.Z
set_option linter.unusedVariables false
set_option linter.unusedSimpArgs false

theorem check_nil (p s n : Int) (w : World) : Calls Try.prog 21 #[.pointer none, .int .i64 p, .int .i64 s, .int .i64 n] w fun e w' => e = .returned (.tuple #[.int .i64 0, .bool false, .int .i64 7]) ∧ w = w' := by
  go_enter Try.func21, Try.ntmps21
  go_wp2_with fail
  go_ret3
  exact ⟨rfl, rfl⟩
theorem note_nil (p s n o : Int) (w : World) : Calls Try.prog 20 #[.pointer none, .int .i64 p, .int .i64 s, .int .i64 n, .int .i64 o] w fun e w' => e = .returned (.int .i64 7) ∧ w = w' := by
  go_enter Try.func20, Try.ntmps20
  go_wp2_with fail
  go_ret
  exact ⟨rfl, rfl⟩
theorem dnext_nil (p : Int) (w : World) : Calls Try.prog 29 #[.pointer none, .int .i64 p] w fun e w' => e = .returned (.int .i64 0) ∧ w = w' := by
  go_enter Try.func29, Try.ntmps29
  go_wp2_with fail
  go_ret
  exact ⟨rfl, rfl⟩
theorem copy_nil (w : World) : Calls Try.prog 24 #[.pointer none] w fun e w' => e = .returned (.pointer none) ∧ w = w' := by
  go_enter Try.func24, Try.ntmps24
  go_wp2_with fail
  go_ret
  exact ⟨rfl, rfl⟩
theorem chain_zero : chain 0 = [0] := by decide +kernel
set_option maxRecDepth 100000 in
set_option maxHeartbeats 1000000 in
theorem enc_nil (w : World) : Calls Try.prog 27 #[.pointer none] w fun e w' => e = .returned (.string ⟨#[0]⟩) ∧ Below w.heap.size w w' := by
  obtain ⟨V, hV⟩ : ∃ V, Hid (V = w.alloc (.cells #[.pointer none, .slice none 0 0] 95)) := ⟨_, Lib.hid rfl⟩
  have hb0 : Below w.heap.size w V := by rw [hV.out]; exact grewAlloc (Below.refl _ _) _
  have hD0 : Bd w.heap.size w.heap.size [] V := by rw [hV.out]; exact Bd.fresh w
  have he := enc1_any w.heap.size w.heap.size [] 0 V hD0 (by omega) (by omega) (by simp) hb0.size
  rw [chain_zero, List.nil_append] at he
  have eg : ∀ args W, (callFunc 45 args).run Try.prog W = .ok (.enter 45 args) W := fun _ _ => by kernel_rfl
  have hsz := hb0.size
  have hz : M.B ([0] : List UInt8) = ⟨#[0]⟩ := rfl
  replace he := Lib.hid he
  replace hb0 := Lib.hid hb0
  clear hD0
  go_enter Try.func27, Try.ntmps27
  go_upto_region 2 with fail
  rw [← show V = _ from hV.out]
  clear hV
  go_wp2_with fail
  refine (prods_nil _).mono ?_
  rintro e w1 ⟨rfl, rfl⟩
  go_wp2_with fail
  refine he.out.mono ?_
  rintro e w2 ⟨rfl, hD2, hb2, _⟩
  have hB2 := Lib.hid (hb0.out.trans hb2)
  have hst := hD2.string hB2.out.size
  rw [hz] at hst
  replace hst := Lib.hid hst
  clear he hb0 hD2 hb2
  go_wp2_with fail
  refine wp_loop_rounds 1 ?_
  rw [rounds_succ]
  go_wp2_with fail
  refine hst.out.mono ?_
  rintro e w3 ⟨rfl, _, hb3⟩
  have hB3 := Lib.hid (hB2.out.trans hb3)
  clear hst hB2 hb3
  go_wp2_with fail
  go_ret
  exact ⟨rfl, hB3.out⟩
theorem TbAt.beside {B0 tb : Nat} {m : Option Nat} {l : List La} {w w' : World} (h : TbAt B0 w tb m l) (hk : Kept (ofT tb m) w w') (hB : B0 ≤ w.heap.size) : Below B0 w w' := hk.below hB (fun k hk => by
  rcases hk with rfl | e
  · exact h.new
  · exact h.newM k e)

abbrev x7 : La := ⟨7, 0, 3, 40⟩
theorem seven_list : noteL [] x7 = [x7] := rfl
theorem seven_ok : TabOk [x7] := ⟨by unfold riseL; simp, fun x hx => by rw [List.mem_singleton.1 hx]; decide, by simp⟩
theorem seven_enc : M.B (encL [x7]) = ⟨#[1, 7, 0, 3, 40]⟩ := by decide +kernel
set_option maxRecDepth 100000 in
set_option maxHeartbeats 4000000 in
theorem seven_any (w : World) : Calls Try.prog 17 #[] w fun e w' => e = .returned (.bool true) ∧ Below w.heap.size w w' := by
  have c1 := Lib.hid (fun (tb : Nat) (W : World) (h : Tb w.heap.size W tb []) => check_any tb [] 7 0 3 W h TabOk.nil)
  have c2 := Lib.hid (fun (tb : Nat) (W : World) (h : Tb w.heap.size W tb [x7]) => check_any tb [x7] 7 0 3 W h seven_ok)
  have c3 := Lib.hid (fun (tb : Nat) (W : World) (h : Tb w.heap.size W tb [x7]) => check_any tb [x7] 7 3 1 W h seven_ok)
  have c4 := Lib.hid (fun (tb : Nat) (W : World) (h : Tb w.heap.size W tb [x7]) => check_any tb [x7] 7 4 1 W h seven_ok)
  rw [show chkF [] 7 0 3 = (0, false, 0) by decide] at c1
  rw [show chkF [x7] 7 0 3 = (40, true, 0) by decide] at c2
  rw [show chkF [x7] 7 3 1 = (0, false, 0) by decide] at c3
  rw [show chkF [x7] 7 4 1 = (0, false, 33) by decide] at c4
  have c5 := Lib.hid (fun (tb : Nat) (W : World) (h : Tb w.heap.size W tb [x7]) => dnextOf_any tb [x7] 7 W h seven_ok.ok (by decide))
  rw [show (getV [x7] 7).s + (getV [x7] 7).n = 3 by decide] at c5
  have c6 := Lib.hid (fun (tb : Nat) (W : World) (h : Tb w.heap.size W tb [x7]) => enc_any tb [x7] W h seven_ok)
  rw [seven_enc] at c6
  have c7 : Hid (∀ (tb : Nat) (W : World), Tb w.heap.size W tb [] → w.heap.size ≤ W.heap.size → Calls Try.prog 20 #[.pointer (some ⟨tb, 0, none⟩), .int .i64 7, .int .i64 0, .int .i64 3, .int .i64 40] W fun e w' => e = .returned (.int .i64 0) ∧ Tb w.heap.size w' tb [x7] ∧ Below w.heap.size W w') := Lib.hid (fun tb W h hB => by
    obtain ⟨m, h⟩ := h
    refine (note_yes tb m [] x7 W h hB TabOk.nil (by decide)).mono ?_
    rintro e w' ⟨r1, r2, r3⟩
    exact ⟨r1, r2, h.beside r3 hB⟩)
  have hnew := Lib.hid (dnew_any w)
  obtain ⟨tb, htb⟩ : ∃ tb, Hid (w.heap.size = tb) := ⟨_, Lib.hid rfl⟩
  go_enter Try.func17, Try.ntmps17
  go_wp2_with fail
  refine hnew.out.mono ?_
  rintro e w1 ⟨rfl, hT, hb1⟩
  have k1 := Lib.hid (c1.out _ _ hT)
  replace hT := Lib.hid hT
  replace hb1 := Lib.hid hb1
  clear c1 hnew
  go_wp2_with fail
  refine k1.out.mono ?_
  rintro e w2 ⟨rfl, hb2⟩
  have hB2 := hb1.out.trans (hb2.mono hb1.out.size)
  have k2 := Lib.hid (c7.out _ _ (hT.out.below hb2) hB2.size)
  replace hB2 := Lib.hid hB2
  clear k1 hb2 hT hb1 c7
  go_wp2_with fail
  refine k2.out.mono ?_
  rintro e w3 ⟨rfl, hT, hb3⟩
  have hB3 := Lib.hid (hB2.out.trans hb3)
  have k3 := Lib.hid (c2.out _ _ hT)
  replace hT := Lib.hid hT
  clear k2 hB2 hb3 c2
  go_wp2_with fail
  refine k3.out.mono ?_
  rintro e w4 ⟨rfl, hb4⟩
  have hB4 := Lib.hid (hB3.out.trans (hb4.mono hB3.out.size))
  have hT4 := Lib.hid (hT.out.below hb4)
  have k4 := Lib.hid (c3.out _ _ hT4.out)
  clear k3 hB3 hb4 hT c3
  go_wp2_with fail
  refine k4.out.mono ?_
  rintro e w5 ⟨rfl, hb5⟩
  have hB5 := Lib.hid (hB4.out.trans (hb5.mono hB4.out.size))
  have hT5 := Lib.hid (hT4.out.below hb5)
  have k5 := Lib.hid (c4.out _ _ hT5.out)
  clear k4 hB4 hb5 hT4 c4
  go_wp2_with fail
  refine k5.out.mono ?_
  rintro e w6 ⟨rfl, hb6⟩
  have hB6 := Lib.hid (hB5.out.trans (hb6.mono hB5.out.size))
  have hT6 := Lib.hid (hT5.out.below hb6)
  have k6 := Lib.hid (c5.out _ _ hT6.out)
  clear k5 hB5 hb6 hT5 c5
  go_wp2_with fail
  refine k6.out.mono ?_
  rintro e w7 ⟨rfl, hb7⟩
  have hB7 := Lib.hid (hB6.out.trans (hb7.mono hB6.out.size))
  have hT7 := Lib.hid (hT6.out.below hb7)
  have k7 := Lib.hid (c6.out _ _ hT7.out)
  clear k6 hB6 hb7 hT6 c6
  go_wp2_with fail
  refine k7.out.mono ?_
  rintro e w8 ⟨rfl, hb8⟩
  have hB8 := Lib.hid (hB7.out.trans (hb8.mono hB7.out.size))
  clear k7 hB7 hb8 hT7
  go_wp2_with fail
  go_ret
  exact ⟨rfl, hB8.out⟩
end Go.Proofs.Ytbbeapglkdkajaa.W
