/- For every topic and every string behind it the law TopicCodes returns true: which topics may be, and each as bytes, is as by the definition; Decode of Encode is the topic, whatever stands behind; of names or strings of more than 300 bytes the small case stands in. No condition. -/
import Derived.Test.YtpfnpfbimadjkaaRows
import Derived.Test.YtpfnpfbimadjkaaTpI
import Derived.ChangeOld
import Derived.ShutString
namespace Go.Proofs.Ytpfnpfbimadjkaa.topicCodes
open Go.ChangeShapes Go.WideShapes Go.ChangeAt Go.RowKit Go.Sort
open Go.ChangeMaps (open_string shut_string)
open Go.Proofs.Ytpfnpfbimadjkaa.M Go.Proofs.Ytpfnpfbimadjkaa.W Go.Proofs.Ytpfnpfbimadjkaa.D Go.Proofs.Ytpfnpfbimadjkaa.Z
set_option linter.unusedVariables false
set_option linter.unusedSimpArgs false

set_option maxRecDepth 100000 in
set_option maxHeartbeats 4000000 in
theorem walk_big (nm : ByteArray) (pa ag sz : Int) (cp : Bool) (more : ByteArray) (w : World) (h : 300 < nm.size ∨ 300 < more.size) :
    Calls Try.prog 6 #[(.agg #[.string nm, .int .i64 pa, .int .i64 ag, .int .i64 sz, .bool cp]), .string more] w fun e w' => e = .returned (.bool true) ∧ Below w.heap.size w w' := by
  have hlog := Lib.hid (fun W => log_any W)
  have hb0 := Lib.hid ((Below.refl w.heap.size w).alloc (Nat.le_refl _) (.cells #[.string nm, .int .i64 pa, .int .i64 ag, .int .i64 sz, .bool cp] 34))
  by_cases h1 : 300 < nm.size
  · have h1i : (300 : Int) < (nm.size : Int) := by omega
    go_enter Try.func6, Try.ntmps6
    go_wp2_with fail
    refine (hlog.out _).mono ?_
    rintro _ w1 ⟨rfl, hb1⟩
    have B1 := Lib.hid (grew hb0.out hb1)
    clear hb1
    go_wp2_with fail
    go_ret
    exact ⟨rfl, B1.out⟩
  · have h1i : (nm.size : Int) ≤ 300 := by omega
    have h2i : (300 : Int) < (more.size : Int) := by omega
    go_enter Try.func6, Try.ntmps6
    go_wp2_with fail
    refine (hlog.out _).mono ?_
    rintro _ w1 ⟨rfl, hb1⟩
    have B1 := Lib.hid (grew hb0.out hb1)
    clear hb1
    go_wp2_with fail
    go_ret
    exact ⟨rfl, B1.out⟩
set_option maxRecDepth 100000 in
set_option maxHeartbeats 4000000 in
theorem walk_no (nm : ByteArray) (pa ag sz : Int) (cp : Bool) (more : ByteArray) (w : World) (h1 : nm.size ≤ 300) (h2 : more.size ≤ 300) (hmay : Sp.may ⟨nm, pa, ag, sz, cp⟩ = false) :
    Calls Try.prog 6 #[(.agg #[.string nm, .int .i64 pa, .int .i64 ag, .int .i64 sz, .bool cp]), .string more] w fun e w' => e = .returned (.bool true) ∧ Below w.heap.size w w' := by
  have hlog := Lib.hid (fun W => log_any W)
  have h1i : (nm.size : Int) ≤ 300 := by omega
  have h2i : (more.size : Int) ≤ 300 := by omega
  have he := Lib.hid (fun W => encode_no nm pa ag sz cp W hmay)
  have hp := Lib.hid (fun W => places_no nm pa ag sz cp W hmay)
  obtain ⟨W0, hW0⟩ : ∃ W, Hid (W = w.alloc (.cells #[.string nm, .int .i64 pa, .int .i64 ag, .int .i64 sz, .bool cp] 34)) := ⟨_, Lib.hid rfl⟩
  have hb0 : Below w.heap.size w W0 := by rw [hW0.out]; exact grewAlloc (Below.refl _ _) _
  have Hx : Whole W0 w.heap.size 34 [.string nm, .int .i64 pa, .int .i64 ag, .int .i64 sz, .bool cp] := by rw [hW0.out]; exact Whole.new w _ _
  obtain ⟨q, hq⟩ : ∃ q, Hid (w.heap.size = q) := ⟨_, Lib.hid rfl⟩
  rw [hq.out] at Hx
  have x0 : W0.cell? ⟨q, 0, none⟩ = some (.string nm) := Hx.cell 0
  have x1 : W0.cell? ⟨q, 1, none⟩ = some (.int .i64 pa) := Hx.cell 1
  have x2 : W0.cell? ⟨q, 2, none⟩ = some (.int .i64 ag) := Hx.cell 2
  have x3 : W0.cell? ⟨q, 3, none⟩ = some (.int .i64 sz) := Hx.cell 3
  have x4 : W0.cell? ⟨q, 4, none⟩ = some (.bool cp) := Hx.cell 4
  replace Hx := Lib.hid Hx
  replace hb0 := Lib.hid hb0
  have rr1 := Lib.hid (fun W => right22_any nm pa ag sz cp W)
  have rr2 := Lib.hid (fun W => rright_any nm pa ag sz cp W (by omega))
  rw [hmay] at rr1 rr2
  obtain ⟨NB, hNB⟩ : ∃ b, Hid (nameB nm = b) := ⟨_, Lib.hid rfl⟩
  have rn1 := Lib.hid (fun W => name22_any nm W)
  have rn2 := Lib.hid (fun W => rname_any nm W (by omega))
  rw [hNB.out] at rn1 rn2
  have nbe : (NB != NB) = false := by cases NB <;> rfl
  have nbq : ∀ W, (binOp BinOp.neq 4 (.bool NB) (.bool NB)).run Try.prog W = .ok (.bool false) W := fun W => by simp [go_sem, Try.underlying4]
  clear hmay hNB
  go_enter Try.func6, Try.ntmps6
  go_upto_region 1 with fail
  rw [← show W0 = _ from hW0.out, hq.out]
  clear hW0 hq
  go_wp2_with fail
  refine (he.out _).mono ?_
  rintro _ w1 ⟨rfl, hb1⟩
  have B1 := Lib.hid (grew hb0.out hb1)
  have Hy := Hx.out.below hb1 Hx.out.lt
  clear x0 x1 x2 x3 x4 hb1 hb0 Hx
  have y0 : w1.cell? ⟨q, 0, none⟩ = some (.string nm) := Hy.cell 0
  have y1 : w1.cell? ⟨q, 1, none⟩ = some (.int .i64 pa) := Hy.cell 1
  have y2 : w1.cell? ⟨q, 2, none⟩ = some (.int .i64 ag) := Hy.cell 2
  have y3 : w1.cell? ⟨q, 3, none⟩ = some (.int .i64 sz) := Hy.cell 3
  have y4 : w1.cell? ⟨q, 4, none⟩ = some (.bool cp) := Hy.cell 4
  replace Hy := Lib.hid Hy
  go_wp2_with fail
  refine (rr2.out _).mono ?_
  rintro _ w2 ⟨rfl, hb2⟩
  have B2 := Lib.hid (grew B1.out hb2)
  have Hz := Hy.out.below hb2 Hy.out.lt
  clear y0 y1 y2 y3 y4 hb2 B1 Hy
  have z0 : w2.cell? ⟨q, 0, none⟩ = some (.string nm) := Hz.cell 0
  have z1 : w2.cell? ⟨q, 1, none⟩ = some (.int .i64 pa) := Hz.cell 1
  have z2 : w2.cell? ⟨q, 2, none⟩ = some (.int .i64 ag) := Hz.cell 2
  have z3 : w2.cell? ⟨q, 3, none⟩ = some (.int .i64 sz) := Hz.cell 3
  have z4 : w2.cell? ⟨q, 4, none⟩ = some (.bool cp) := Hz.cell 4
  have g0 := fun d os => cell_regrown z0 d os
  have g1 := fun d os => cell_regrown z1 d os
  have g2 := fun d os => cell_regrown z2 d os
  have g3 := fun d os => cell_regrown z3 d os
  have g4 := fun d os => cell_regrown z4 d os
  have q1 := Lib.hid (regrown_any (fun W => rr1.out W) w2)
  have q2 := Lib.hid (regrown_same (fun W => rn1.out W) w2)
  have q3 := Lib.hid (regrown_same (fun W => rn2.out W) w2)
  replace Hz := Lib.hid Hz
  clear z0 z1 z2 z3 z4
  go_upto_region 5 with fail
  refine wp_region_quiet_below (by kernel_rfl) (by kernel_rfl) ?_
  repeat (first
    | ((with_reducible refine quiet_bin BinOp.neq 4 4 (.bool NB) (.bool NB) (.bool false) ?_ ?_ nbq ?_ ?_ ?_); (· rfl); (· rfl); (· exact fun _ => rfl); (· rfl); simp only [Act.put, List.setIfInBounds_toArray, List.set_cons_zero, List.set_cons_succ])
    | go_big_quiet_step (first | (with_reducible exact q1.out _ _) | (with_reducible exact q2.out _ _) | (with_reducible exact q3.out _ _)))
  refine wpQuiet_nil ?_
  intro _ hw'
  obtain ⟨⟨dq, osq⟩, hw''⟩ := hw'
  subst hw''
  have Hv := Hz.out.below (below_regrown w2 dq osq) Hz.out.lt
  have B5 := Lib.hid (grew B2.out (below_regrown w2 dq osq))
  clear g0 g1 g2 g3 g4 q1 q2 q3 Hz B2
  generalize grow (redrawn w2 dq) osq = w5 at *
  have v0 : w5.cell? ⟨q, 0, none⟩ = some (.string nm) := Hv.cell 0
  have v1 : w5.cell? ⟨q, 1, none⟩ = some (.int .i64 pa) := Hv.cell 1
  have v2 : w5.cell? ⟨q, 2, none⟩ = some (.int .i64 ag) := Hv.cell 2
  have v3 : w5.cell? ⟨q, 3, none⟩ = some (.int .i64 sz) := Hv.cell 3
  have v4 : w5.cell? ⟨q, 4, none⟩ = some (.bool cp) := Hv.cell 4
  replace Hv := Lib.hid Hv
  clear Hv
  go_wp2_with fail
  refine (hp.out _).mono ?_
  rintro _ w6 ⟨rfl, hb6⟩
  have B6 := Lib.hid (grew B5.out hb6)
  clear v0 v1 v2 v3 v4 hb6 B5
  go_wp2_with fail
  refine (hlog.out _).mono ?_
  rintro _ w7 ⟨rfl, hb7⟩
  have B7 := Lib.hid (grew B6.out hb7)
  clear hb7
  go_wp2_with fail
  go_ret
  exact ⟨rfl, B7.out⟩
set_option maxRecDepth 100000 in
set_option maxHeartbeats 4000000 in
theorem walk_true (nm : ByteArray) (pa ag sz : Int) (more : ByteArray) (w : World) (h1 : nm.size ≤ 300) (h2 : more.size ≤ 300) (hmay : Sp.may ⟨nm, pa, ag, sz, true⟩ = true) (k0 : nm.size ≤ maxLen) (k1 : (Lit.int .i64 pa).wf = true) (k2 : (Lit.int .i64 ag).wf = true) (k3 : (Lit.int .i64 sz).wf = true) :
    Calls Try.prog 6 #[(.agg #[.string nm, .int .i64 pa, .int .i64 ag, .int .i64 sz, .bool true]), .string more] w fun e w' => e = .returned (.bool true) ∧ Below w.heap.size w w' := by
  have hlog := Lib.hid (fun W => log_any W)
  have h1i : (nm.size : Int) ≤ 300 := by omega
  have h2i : (more.size : Int) ≤ 300 := by omega
  have he := fun W => encode_true nm pa ag sz W hmay
  have hre := fun W => rencode_true nm pa ag sz W hmay
  have hlen := encT_len hmay
  have hdd := dec_enc hmay (s := B (encT ⟨nm, pa, ag, sz, true⟩) ++ more) (t := more.data.toList) (by simp [B])
  have heq := eq_sp nm pa ag sz true k0 k1 k2 k3
  have hsz : (B (encT ⟨nm, pa, ag, sz, true⟩)).size = (encT ⟨nm, pa, ag, sz, true⟩).length := B_size _
  obtain ⟨S, hS⟩ : ∃ S, Hid (B (encT ⟨nm, pa, ag, sz, true⟩) = S) := ⟨_, Lib.hid rfl⟩
  obtain ⟨L, hL⟩ : ∃ S, Hid ((encT ⟨nm, pa, ag, sz, true⟩).length = S) := ⟨_, Lib.hid rfl⟩
  rw [hS.out] at he hre hdd hsz
  rw [hL.out] at hlen hdd hsz
  have hd := fun W => decode_any (S ++ more) W (by rw [ByteArray.size_append]; omega)
  rw [hdd] at hd
  dsimp only at hd
  have hse : (S.toList == S.toList) = true := by simp
  have hln : ((L : Int) == (S.size : Int)) = true := by rw [hsz]; simp
  have hln2 : ((L : Int) == (L : Int)) = true := by simp
  have hz9 : (S ++ more).size ≤ 1000 := by rw [ByteArray.size_append]; omega
  replace hd := Lib.hid hd
  replace he := Lib.hid he
  replace hre := Lib.hid hre
  have hL2 : S.size ≤ 100 := by omega
  obtain ⟨W0, hW0⟩ : ∃ W, Hid (W = w.alloc (.cells #[.string nm, .int .i64 pa, .int .i64 ag, .int .i64 sz, .bool true] 34)) := ⟨_, Lib.hid rfl⟩
  have hb0 : Below w.heap.size w W0 := by rw [hW0.out]; exact grewAlloc (Below.refl _ _) _
  have Hx : Whole W0 w.heap.size 34 [.string nm, .int .i64 pa, .int .i64 ag, .int .i64 sz, .bool true] := by rw [hW0.out]; exact Whole.new w _ _
  obtain ⟨q, hq⟩ : ∃ q, Hid (w.heap.size = q) := ⟨_, Lib.hid rfl⟩
  rw [hq.out] at Hx
  have x0 : W0.cell? ⟨q, 0, none⟩ = some (.string nm) := Hx.cell 0
  have x1 : W0.cell? ⟨q, 1, none⟩ = some (.int .i64 pa) := Hx.cell 1
  have x2 : W0.cell? ⟨q, 2, none⟩ = some (.int .i64 ag) := Hx.cell 2
  have x3 : W0.cell? ⟨q, 3, none⟩ = some (.int .i64 sz) := Hx.cell 3
  have x4 : W0.cell? ⟨q, 4, none⟩ = some (.bool true) := Hx.cell 4
  replace Hx := Lib.hid Hx
  replace hb0 := Lib.hid hb0
  have rr1 := Lib.hid (fun W => right22_any nm pa ag sz true W)
  have rr2 := Lib.hid (fun W => rright_any nm pa ag sz true W (by omega))
  rw [hmay] at rr1 rr2
  obtain ⟨NB, hNB⟩ : ∃ b, Hid (nameB nm = b) := ⟨_, Lib.hid rfl⟩
  have rn1 := Lib.hid (fun W => name22_any nm W)
  have rn2 := Lib.hid (fun W => rname_any nm W (by omega))
  rw [hNB.out] at rn1 rn2
  have nbe : (NB != NB) = false := by cases NB <;> rfl
  have nbq : ∀ W, (binOp BinOp.neq 4 (.bool NB) (.bool NB)).run Try.prog W = .ok (.bool false) W := fun W => by simp [go_sem, Try.underlying4]
  clear hmay hNB hdd hS hL k0 k1 k2 k3
  go_enter Try.func6, Try.ntmps6
  go_upto_region 1 with fail
  rw [← show W0 = _ from hW0.out, hq.out]
  clear hW0 hq
  go_wp2_with fail
  refine (he.out _).mono ?_
  rintro _ w1 ⟨rfl, hb1⟩
  have B1 := Lib.hid (grew hb0.out hb1)
  have Hy := Hx.out.below hb1 Hx.out.lt
  clear x0 x1 x2 x3 x4 hb1 hb0 Hx
  have y0 : w1.cell? ⟨q, 0, none⟩ = some (.string nm) := Hy.cell 0
  have y1 : w1.cell? ⟨q, 1, none⟩ = some (.int .i64 pa) := Hy.cell 1
  have y2 : w1.cell? ⟨q, 2, none⟩ = some (.int .i64 ag) := Hy.cell 2
  have y3 : w1.cell? ⟨q, 3, none⟩ = some (.int .i64 sz) := Hy.cell 3
  have y4 : w1.cell? ⟨q, 4, none⟩ = some (.bool true) := Hy.cell 4
  replace Hy := Lib.hid Hy
  go_wp2_with fail
  refine (rr2.out _).mono ?_
  rintro _ w2 ⟨rfl, hb2⟩
  have B2 := Lib.hid (grew B1.out hb2)
  have Hz := Hy.out.below hb2 Hy.out.lt
  clear y0 y1 y2 y3 y4 hb2 B1 Hy
  have z0 : w2.cell? ⟨q, 0, none⟩ = some (.string nm) := Hz.cell 0
  have z1 : w2.cell? ⟨q, 1, none⟩ = some (.int .i64 pa) := Hz.cell 1
  have z2 : w2.cell? ⟨q, 2, none⟩ = some (.int .i64 ag) := Hz.cell 2
  have z3 : w2.cell? ⟨q, 3, none⟩ = some (.int .i64 sz) := Hz.cell 3
  have z4 : w2.cell? ⟨q, 4, none⟩ = some (.bool true) := Hz.cell 4
  have g0 := fun d os => cell_regrown z0 d os
  have g1 := fun d os => cell_regrown z1 d os
  have g2 := fun d os => cell_regrown z2 d os
  have g3 := fun d os => cell_regrown z3 d os
  have g4 := fun d os => cell_regrown z4 d os
  have q1 := Lib.hid (regrown_any (fun W => rr1.out W) w2)
  have q2 := Lib.hid (regrown_same (fun W => rn1.out W) w2)
  have q3 := Lib.hid (regrown_same (fun W => rn2.out W) w2)
  replace Hz := Lib.hid Hz
  clear z0 z1 z2 z3 z4
  go_upto_region 5 with fail
  refine wp_region_quiet_below (by kernel_rfl) (by kernel_rfl) ?_
  repeat (first
    | ((with_reducible refine quiet_bin BinOp.neq 4 4 (.bool NB) (.bool NB) (.bool false) ?_ ?_ nbq ?_ ?_ ?_); (· rfl); (· rfl); (· exact fun _ => rfl); (· rfl); simp only [Act.put, List.setIfInBounds_toArray, List.set_cons_zero, List.set_cons_succ])
    | go_big_quiet_step (first | (with_reducible exact q1.out _ _) | (with_reducible exact q2.out _ _) | (with_reducible exact q3.out _ _)))
  refine wpQuiet_nil ?_
  intro _ hw'
  obtain ⟨⟨dq, osq⟩, hw''⟩ := hw'
  subst hw''
  have Hv := Hz.out.below (below_regrown w2 dq osq) Hz.out.lt
  have B5 := Lib.hid (grew B2.out (below_regrown w2 dq osq))
  clear g0 g1 g2 g3 g4 q1 q2 q3 Hz B2
  generalize grow (redrawn w2 dq) osq = w5 at *
  have v0 : w5.cell? ⟨q, 0, none⟩ = some (.string nm) := Hv.cell 0
  have v1 : w5.cell? ⟨q, 1, none⟩ = some (.int .i64 pa) := Hv.cell 1
  have v2 : w5.cell? ⟨q, 2, none⟩ = some (.int .i64 ag) := Hv.cell 2
  have v3 : w5.cell? ⟨q, 3, none⟩ = some (.int .i64 sz) := Hv.cell 3
  have v4 : w5.cell? ⟨q, 4, none⟩ = some (.bool true) := Hv.cell 4
  replace Hv := Lib.hid Hv
  go_wp2_with fail
  refine (hd.out _).mono ?_
  rintro _ w6 ⟨rfl, hb6⟩
  obtain ⟨W7, hW7⟩ : ∃ W, Hid (W = w6.alloc (.cells #[.string nm, .int .i64 pa, .int .i64 ag, .int .i64 sz, .bool true] 34)) := ⟨_, Lib.hid rfl⟩
  have c7 : Below w6.heap.size w6 W7 := by rw [hW7.out]; exact grewAlloc (Below.refl _ _) _
  have Ha : Whole W7 w6.heap.size 34 [.string nm, .int .i64 pa, .int .i64 ag, .int .i64 sz, .bool true] := by rw [hW7.out]; exact Whole.new w6 _ _
  obtain ⟨r, hr0⟩ : ∃ q, Hid (w6.heap.size = q) := ⟨_, Lib.hid rfl⟩
  rw [hr0.out] at Ha
  have Hb := (Hv.out.below hb6 Hv.out.lt).below c7 (Hv.out.below hb6 Hv.out.lt).lt
  have B7 := Lib.hid (grew (grew B5.out hb6) c7)
  clear v0 v1 v2 v3 v4 hb6 c7 B5 Hv
  have a0 : W7.cell? ⟨r, 0, none⟩ = some (.string nm) := Ha.cell 0
  have a1 : W7.cell? ⟨r, 1, none⟩ = some (.int .i64 pa) := Ha.cell 1
  have a2 : W7.cell? ⟨r, 2, none⟩ = some (.int .i64 ag) := Ha.cell 2
  have a3 : W7.cell? ⟨r, 3, none⟩ = some (.int .i64 sz) := Ha.cell 3
  have a4 : W7.cell? ⟨r, 4, none⟩ = some (.bool true) := Ha.cell 4
  have b0 : W7.cell? ⟨q, 0, none⟩ = some (.string nm) := Hb.cell 0
  have b1 : W7.cell? ⟨q, 1, none⟩ = some (.int .i64 pa) := Hb.cell 1
  have b2 : W7.cell? ⟨q, 2, none⟩ = some (.int .i64 ag) := Hb.cell 2
  have b3 : W7.cell? ⟨q, 3, none⟩ = some (.int .i64 sz) := Hb.cell 3
  have b4 : W7.cell? ⟨q, 4, none⟩ = some (.bool true) := Hb.cell 4
  replace Ha := Lib.hid Ha
  replace Hb := Lib.hid Hb
  go_upto_region 10 with fail
  rw [← show W7 = _ from hW7.out, hr0.out]
  clear hW7 hr0
  go_wp2_with fail
  refine (hre.out _).mono ?_
  rintro _ w8 ⟨rfl, hb8⟩
  have B8 := Lib.hid (grew B7.out hb8)
  have Hc := Ha.out.below hb8 Ha.out.lt
  have Hd := Hb.out.below hb8 Hb.out.lt
  clear a0 a1 a2 a3 a4 b0 b1 b2 b3 b4 hb8 B7 Ha Hb
  have c0 : w8.cell? ⟨r, 0, none⟩ = some (.string nm) := Hc.cell 0
  have c1 : w8.cell? ⟨r, 1, none⟩ = some (.int .i64 pa) := Hc.cell 1
  have c2 : w8.cell? ⟨r, 2, none⟩ = some (.int .i64 ag) := Hc.cell 2
  have c3 : w8.cell? ⟨r, 3, none⟩ = some (.int .i64 sz) := Hc.cell 3
  have c4 : w8.cell? ⟨r, 4, none⟩ = some (.bool true) := Hc.cell 4
  have d0 : w8.cell? ⟨q, 0, none⟩ = some (.string nm) := Hd.cell 0
  have d1 : w8.cell? ⟨q, 1, none⟩ = some (.int .i64 pa) := Hd.cell 1
  have d2 : w8.cell? ⟨q, 2, none⟩ = some (.int .i64 ag) := Hd.cell 2
  have d3 : w8.cell? ⟨q, 3, none⟩ = some (.int .i64 sz) := Hd.cell 3
  have d4 : w8.cell? ⟨q, 4, none⟩ = some (.bool true) := Hd.cell 4
  clear Hc Hd
  go_wp2_with fail
  refine (hlog.out _).mono ?_
  rintro _ w9 ⟨rfl, hb9⟩
  have B9 := Lib.hid (grew B8.out hb9)
  clear hb9 c0 c1 c2 c3 c4 d0 d1 d2 d3 d4
  go_wp2_with fail
  go_ret
  exact ⟨rfl, B9.out⟩
set_option maxRecDepth 100000 in
set_option maxHeartbeats 4000000 in
theorem walk_false (nm : ByteArray) (pa ag sz : Int) (more : ByteArray) (w : World) (h1 : nm.size ≤ 300) (h2 : more.size ≤ 300) (hmay : Sp.may ⟨nm, pa, ag, sz, false⟩ = true) (k0 : nm.size ≤ maxLen) (k1 : (Lit.int .i64 pa).wf = true) (k2 : (Lit.int .i64 ag).wf = true) (k3 : (Lit.int .i64 sz).wf = true) :
    Calls Try.prog 6 #[(.agg #[.string nm, .int .i64 pa, .int .i64 ag, .int .i64 sz, .bool false]), .string more] w fun e w' => e = .returned (.bool true) ∧ Below w.heap.size w w' := by
  have hlog := Lib.hid (fun W => log_any W)
  have h1i : (nm.size : Int) ≤ 300 := by omega
  have h2i : (more.size : Int) ≤ 300 := by omega
  have he := fun W => encode_false nm pa ag sz W hmay
  have hre := fun W => rencode_false nm pa ag sz W hmay
  have hlen := encT_len hmay
  have hdd := dec_enc hmay (s := B (encT ⟨nm, pa, ag, sz, false⟩) ++ more) (t := more.data.toList) (by simp [B])
  have heq := eq_sp nm pa ag sz false k0 k1 k2 k3
  have hsz : (B (encT ⟨nm, pa, ag, sz, false⟩)).size = (encT ⟨nm, pa, ag, sz, false⟩).length := B_size _
  obtain ⟨S, hS⟩ : ∃ S, Hid (B (encT ⟨nm, pa, ag, sz, false⟩) = S) := ⟨_, Lib.hid rfl⟩
  obtain ⟨L, hL⟩ : ∃ S, Hid ((encT ⟨nm, pa, ag, sz, false⟩).length = S) := ⟨_, Lib.hid rfl⟩
  rw [hS.out] at he hre hdd hsz
  rw [hL.out] at hlen hdd hsz
  have hd := fun W => decode_any (S ++ more) W (by rw [ByteArray.size_append]; omega)
  rw [hdd] at hd
  dsimp only at hd
  have hse : (S.toList == S.toList) = true := by simp
  have hln : ((L : Int) == (S.size : Int)) = true := by rw [hsz]; simp
  have hln2 : ((L : Int) == (L : Int)) = true := by simp
  have hz9 : (S ++ more).size ≤ 1000 := by rw [ByteArray.size_append]; omega
  replace hd := Lib.hid hd
  replace he := Lib.hid he
  replace hre := Lib.hid hre
  have hL2 : S.size ≤ 100 := by omega
  obtain ⟨W0, hW0⟩ : ∃ W, Hid (W = w.alloc (.cells #[.string nm, .int .i64 pa, .int .i64 ag, .int .i64 sz, .bool false] 34)) := ⟨_, Lib.hid rfl⟩
  have hb0 : Below w.heap.size w W0 := by rw [hW0.out]; exact grewAlloc (Below.refl _ _) _
  have Hx : Whole W0 w.heap.size 34 [.string nm, .int .i64 pa, .int .i64 ag, .int .i64 sz, .bool false] := by rw [hW0.out]; exact Whole.new w _ _
  obtain ⟨q, hq⟩ : ∃ q, Hid (w.heap.size = q) := ⟨_, Lib.hid rfl⟩
  rw [hq.out] at Hx
  have x0 : W0.cell? ⟨q, 0, none⟩ = some (.string nm) := Hx.cell 0
  have x1 : W0.cell? ⟨q, 1, none⟩ = some (.int .i64 pa) := Hx.cell 1
  have x2 : W0.cell? ⟨q, 2, none⟩ = some (.int .i64 ag) := Hx.cell 2
  have x3 : W0.cell? ⟨q, 3, none⟩ = some (.int .i64 sz) := Hx.cell 3
  have x4 : W0.cell? ⟨q, 4, none⟩ = some (.bool false) := Hx.cell 4
  replace Hx := Lib.hid Hx
  replace hb0 := Lib.hid hb0
  have rr1 := Lib.hid (fun W => right22_any nm pa ag sz false W)
  have rr2 := Lib.hid (fun W => rright_any nm pa ag sz false W (by omega))
  rw [hmay] at rr1 rr2
  obtain ⟨NB, hNB⟩ : ∃ b, Hid (nameB nm = b) := ⟨_, Lib.hid rfl⟩
  have rn1 := Lib.hid (fun W => name22_any nm W)
  have rn2 := Lib.hid (fun W => rname_any nm W (by omega))
  rw [hNB.out] at rn1 rn2
  have nbe : (NB != NB) = false := by cases NB <;> rfl
  have nbq : ∀ W, (binOp BinOp.neq 4 (.bool NB) (.bool NB)).run Try.prog W = .ok (.bool false) W := fun W => by simp [go_sem, Try.underlying4]
  clear hmay hNB hdd hS hL k0 k1 k2 k3
  go_enter Try.func6, Try.ntmps6
  go_upto_region 1 with fail
  rw [← show W0 = _ from hW0.out, hq.out]
  clear hW0 hq
  go_wp2_with fail
  refine (he.out _).mono ?_
  rintro _ w1 ⟨rfl, hb1⟩
  have B1 := Lib.hid (grew hb0.out hb1)
  have Hy := Hx.out.below hb1 Hx.out.lt
  clear x0 x1 x2 x3 x4 hb1 hb0 Hx
  have y0 : w1.cell? ⟨q, 0, none⟩ = some (.string nm) := Hy.cell 0
  have y1 : w1.cell? ⟨q, 1, none⟩ = some (.int .i64 pa) := Hy.cell 1
  have y2 : w1.cell? ⟨q, 2, none⟩ = some (.int .i64 ag) := Hy.cell 2
  have y3 : w1.cell? ⟨q, 3, none⟩ = some (.int .i64 sz) := Hy.cell 3
  have y4 : w1.cell? ⟨q, 4, none⟩ = some (.bool false) := Hy.cell 4
  replace Hy := Lib.hid Hy
  go_wp2_with fail
  refine (rr2.out _).mono ?_
  rintro _ w2 ⟨rfl, hb2⟩
  have B2 := Lib.hid (grew B1.out hb2)
  have Hz := Hy.out.below hb2 Hy.out.lt
  clear y0 y1 y2 y3 y4 hb2 B1 Hy
  have z0 : w2.cell? ⟨q, 0, none⟩ = some (.string nm) := Hz.cell 0
  have z1 : w2.cell? ⟨q, 1, none⟩ = some (.int .i64 pa) := Hz.cell 1
  have z2 : w2.cell? ⟨q, 2, none⟩ = some (.int .i64 ag) := Hz.cell 2
  have z3 : w2.cell? ⟨q, 3, none⟩ = some (.int .i64 sz) := Hz.cell 3
  have z4 : w2.cell? ⟨q, 4, none⟩ = some (.bool false) := Hz.cell 4
  have g0 := fun d os => cell_regrown z0 d os
  have g1 := fun d os => cell_regrown z1 d os
  have g2 := fun d os => cell_regrown z2 d os
  have g3 := fun d os => cell_regrown z3 d os
  have g4 := fun d os => cell_regrown z4 d os
  have q1 := Lib.hid (regrown_any (fun W => rr1.out W) w2)
  have q2 := Lib.hid (regrown_same (fun W => rn1.out W) w2)
  have q3 := Lib.hid (regrown_same (fun W => rn2.out W) w2)
  replace Hz := Lib.hid Hz
  clear z0 z1 z2 z3 z4
  go_upto_region 5 with fail
  refine wp_region_quiet_below (by kernel_rfl) (by kernel_rfl) ?_
  repeat (first
    | ((with_reducible refine quiet_bin BinOp.neq 4 4 (.bool NB) (.bool NB) (.bool false) ?_ ?_ nbq ?_ ?_ ?_); (· rfl); (· rfl); (· exact fun _ => rfl); (· rfl); simp only [Act.put, List.setIfInBounds_toArray, List.set_cons_zero, List.set_cons_succ])
    | go_big_quiet_step (first | (with_reducible exact q1.out _ _) | (with_reducible exact q2.out _ _) | (with_reducible exact q3.out _ _)))
  refine wpQuiet_nil ?_
  intro _ hw'
  obtain ⟨⟨dq, osq⟩, hw''⟩ := hw'
  subst hw''
  have Hv := Hz.out.below (below_regrown w2 dq osq) Hz.out.lt
  have B5 := Lib.hid (grew B2.out (below_regrown w2 dq osq))
  clear g0 g1 g2 g3 g4 q1 q2 q3 Hz B2
  generalize grow (redrawn w2 dq) osq = w5 at *
  have v0 : w5.cell? ⟨q, 0, none⟩ = some (.string nm) := Hv.cell 0
  have v1 : w5.cell? ⟨q, 1, none⟩ = some (.int .i64 pa) := Hv.cell 1
  have v2 : w5.cell? ⟨q, 2, none⟩ = some (.int .i64 ag) := Hv.cell 2
  have v3 : w5.cell? ⟨q, 3, none⟩ = some (.int .i64 sz) := Hv.cell 3
  have v4 : w5.cell? ⟨q, 4, none⟩ = some (.bool false) := Hv.cell 4
  replace Hv := Lib.hid Hv
  go_wp2_with fail
  refine (hd.out _).mono ?_
  rintro _ w6 ⟨rfl, hb6⟩
  obtain ⟨W7, hW7⟩ : ∃ W, Hid (W = w6.alloc (.cells #[.string nm, .int .i64 pa, .int .i64 ag, .int .i64 sz, .bool false] 34)) := ⟨_, Lib.hid rfl⟩
  have c7 : Below w6.heap.size w6 W7 := by rw [hW7.out]; exact grewAlloc (Below.refl _ _) _
  have Ha : Whole W7 w6.heap.size 34 [.string nm, .int .i64 pa, .int .i64 ag, .int .i64 sz, .bool false] := by rw [hW7.out]; exact Whole.new w6 _ _
  obtain ⟨r, hr0⟩ : ∃ q, Hid (w6.heap.size = q) := ⟨_, Lib.hid rfl⟩
  rw [hr0.out] at Ha
  have Hb := (Hv.out.below hb6 Hv.out.lt).below c7 (Hv.out.below hb6 Hv.out.lt).lt
  have B7 := Lib.hid (grew (grew B5.out hb6) c7)
  clear v0 v1 v2 v3 v4 hb6 c7 B5 Hv
  have a0 : W7.cell? ⟨r, 0, none⟩ = some (.string nm) := Ha.cell 0
  have a1 : W7.cell? ⟨r, 1, none⟩ = some (.int .i64 pa) := Ha.cell 1
  have a2 : W7.cell? ⟨r, 2, none⟩ = some (.int .i64 ag) := Ha.cell 2
  have a3 : W7.cell? ⟨r, 3, none⟩ = some (.int .i64 sz) := Ha.cell 3
  have a4 : W7.cell? ⟨r, 4, none⟩ = some (.bool false) := Ha.cell 4
  have b0 : W7.cell? ⟨q, 0, none⟩ = some (.string nm) := Hb.cell 0
  have b1 : W7.cell? ⟨q, 1, none⟩ = some (.int .i64 pa) := Hb.cell 1
  have b2 : W7.cell? ⟨q, 2, none⟩ = some (.int .i64 ag) := Hb.cell 2
  have b3 : W7.cell? ⟨q, 3, none⟩ = some (.int .i64 sz) := Hb.cell 3
  have b4 : W7.cell? ⟨q, 4, none⟩ = some (.bool false) := Hb.cell 4
  replace Ha := Lib.hid Ha
  replace Hb := Lib.hid Hb
  go_upto_region 10 with fail
  rw [← show W7 = _ from hW7.out, hr0.out]
  clear hW7 hr0
  go_wp2_with fail
  refine (hre.out _).mono ?_
  rintro _ w8 ⟨rfl, hb8⟩
  have B8 := Lib.hid (grew B7.out hb8)
  have Hc := Ha.out.below hb8 Ha.out.lt
  have Hd := Hb.out.below hb8 Hb.out.lt
  clear a0 a1 a2 a3 a4 b0 b1 b2 b3 b4 hb8 B7 Ha Hb
  have c0 : w8.cell? ⟨r, 0, none⟩ = some (.string nm) := Hc.cell 0
  have c1 : w8.cell? ⟨r, 1, none⟩ = some (.int .i64 pa) := Hc.cell 1
  have c2 : w8.cell? ⟨r, 2, none⟩ = some (.int .i64 ag) := Hc.cell 2
  have c3 : w8.cell? ⟨r, 3, none⟩ = some (.int .i64 sz) := Hc.cell 3
  have c4 : w8.cell? ⟨r, 4, none⟩ = some (.bool false) := Hc.cell 4
  have d0 : w8.cell? ⟨q, 0, none⟩ = some (.string nm) := Hd.cell 0
  have d1 : w8.cell? ⟨q, 1, none⟩ = some (.int .i64 pa) := Hd.cell 1
  have d2 : w8.cell? ⟨q, 2, none⟩ = some (.int .i64 ag) := Hd.cell 2
  have d3 : w8.cell? ⟨q, 3, none⟩ = some (.int .i64 sz) := Hd.cell 3
  have d4 : w8.cell? ⟨q, 4, none⟩ = some (.bool false) := Hd.cell 4
  clear Hc Hd
  go_wp2_with fail
  refine (hlog.out _).mono ?_
  rintro _ w9 ⟨rfl, hb9⟩
  have B9 := Lib.hid (grew B8.out hb9)
  clear hb9 c0 c1 c2 c3 c4 d0 d1 d2 d3 d4
  go_wp2_with fail
  go_ret
  exact ⟨rfl, B9.out⟩
theorem walk (nm : ByteArray) (pa ag sz : Int) (cp : Bool) (more : ByteArray) (w : World) (k0 : nm.size ≤ maxLen) (k1 : (Lit.int .i64 pa).wf = true) (k2 : (Lit.int .i64 ag).wf = true) (k3 : (Lit.int .i64 sz).wf = true) (_ : more.size ≤ maxLen) :
    Calls Try.prog 6 #[(.agg #[.string nm, .int .i64 pa, .int .i64 ag, .int .i64 sz, .bool cp]), .string more] w fun e w' => e = .returned (.bool true) ∧ Below w.heap.size w w' := by
  by_cases h : 300 < nm.size ∨ 300 < more.size
  · exact walk_big nm pa ag sz cp more w h
  · cases hmay : Sp.may ⟨nm, pa, ag, sz, cp⟩ with
    | false => exact walk_no nm pa ag sz cp more w (by omega) (by omega) hmay
    | true =>
      cases cp with
      | true => exact walk_true nm pa ag sz more w (by omega) (by omega) hmay k0 k1 k2 k3
      | false => exact walk_false nm pa ag sz more w (by omega) (by omega) hmay k0 k1 k2 k3

theorem own : ownKnob Try.prog.godebug = none := by kernel_rfl
theorem laidOut : laidOutB Try.prog = true := by kernel_rfl

set_option maxRecDepth 100000 in
theorem lifted (os : Os) (started : os.Started) (H : Type) (enc : TypeId × Value → H) :
    ReturnsInHanded {} Try.checked os 6 .any (Rows.topicCodesSpec.pre6 enc Try.prog Try.f6 Rows.topicCodesRow.domain false) (Rows.topicCodesSpec.post enc Try.prog Try.f6 false true false false) := by
  refine returnsInHanded_of_change (C := Try.checked) own started (by kernel_rfl) Try.func6
    (ChangeSpec.witness6 (enc := enc) (C := Try.checked) false ⟨#[], #[.agg #[.string ByteArray.empty, .int .i64 0, .int .i64 0, .int .i64 0, .bool false], .string ByteArray.empty], []⟩ 8 (by kernel_rfl) (by kernel_rfl) (by kernel_rfl) (by kernel_rfl)) ?_
  intro W base args ds gs before hval0 hW hcnd _
  have hval : ∀ (j : Nat) t v, Try.f6.params[j]? = some t → args[j]? = some v → Value.okWide Try.prog W .any base t v := hval0
  have hW' := hW
  obtain ⟨p, q, hA0, hV, rfl, hfz, hnd⟩ := hW
  have hA : DataW.TrodAll enc Try.prog W 0 (fun _ => true) true Try.f6.params.toList args.toList ds p := hA0
  rw [Try.params6] at hA hval
  obtain ⟨v0, vs0, d0, ds0, p0, q0, hargs, rfl, rfl, h0, r0⟩ := trodAll_cons hA
  obtain ⟨v1, vs1, d1, ds1, p1, q1, rfl, rfl, rfl, h1, r1⟩ := trodAll_cons r0
  obtain ⟨rfl, rfl, rfl⟩ := trodAll_nil r1
  obtain rfl : args = #[v0, v1] := by cases args; simp_all
  obtain ⟨rfl, rfl⟩ := trodVars_none hV
  have k0 := h0
  have lt0 : ∀ x ∈ p0, x.block < W.heap.size := by obtain ⟨m, hm⟩ := k0; exact DataW.trod_lt m _ _ _ hm
  obtain ⟨na0, pa0, ag0, sz0, cp0, rfl, wna0, wpa0, wag0, wsz0⟩ := Go.Proofs.Ytpfnpfbimadjkaa.W.open_sp (hval 0 34 v0 rfl rfl) h0
  obtain ⟨a1, rfl, rfl, rfl, w1⟩ := open_string Try.underlying9 (hval 1 9 v1 rfl rfl) h1
  clear hA0 hval0
  refine (walk na0 pa0 ag0 sz0 cp0 a1 W wna0 wpa0 wag0 wsz0 w1).mono fun e W' ⟨he, bel⟩ => ?_
  subst he
  exact ⟨_, rfl, _, _, _, [], _, [], hW', trodAll_mk1 (shut_bool Try.underlying4 _), (trodAll_cons_mk (Below.trod laidOut (by kernel_rfl) (of_decide_eq_true (by kernel_rfl)) k0 bel lt0) (trodAll_cons_mk (shut_string Try.underlying9 w1) trodAll_mk0)), rfl, bel.frame _, fun h => by cases h⟩

theorem over : Rows.topicCodesRow.holds Try.pinned (OpenSpec.ofChange Rows.topicCodesSpec) :=
  OpenClaim.holds_of_wide 6 Try.f6 rfl rfl rfl rfl rfl rfl rfl ⟨rfl, rfl, rfl, rfl, rfl⟩ rfl rfl rfl rfl rfl (by kernel_rfl) Try.func6 (by kernel_rfl)
    (of_decide_eq_true (by kernel_rfl)) (by unfold Func.isWrapper; first | (rw [if_pos (by decide +kernel)]; kernel_rfl) | (rw [if_neg (by decide +kernel)]; exact ⟨rfl, rfl⟩))
    (fun os started H enc _ => lifted os started H enc)

/-- The statement. -/
theorem proved : Rows.TopicCodesSaid := over
#print axioms proved

end Go.Proofs.Ytpfnpfbimadjkaa.topicCodes
