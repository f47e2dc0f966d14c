/- Layer 22: Encode of both. -/
import Derived.Test.YtpfnpfbimadjkaaTpC
import Derived.Test.YtpfnpfbimadjkaaChains
import Derived.LoopN
namespace Go.Proofs.Ytpfnpfbimadjkaa.W
open Go.RowKit Go.Sort
open Go.Proofs.Ytpfnpfbimadjkaa.M Go.Proofs.Ytpfnpfbimadjkaa.D Go.Proofs.Ytpfnpfbimadjkaa.Z
set_option linter.unusedVariables false
set_option linter.unusedSimpArgs false

set_option maxRecDepth 100000 in
set_option maxHeartbeats 4000000 in
theorem encode_no (nm : ByteArray) (pa ag sz : Int) (cp : Bool) (w : World) (h : Sp.may ⟨nm, pa, ag, sz, cp⟩ = false) :
    Calls Try.prog 18 #[(.agg #[.string nm, .int .i64 pa, .int .i64 ag, .int .i64 sz, .bool cp])] w fun e w' => e = .returned (.tuple #[.string ⟨#[]⟩, .int .i64 1]) ∧ Below w.heap.size w w' := by
  obtain ⟨W0, hW0⟩ : ∃ W, Hid (W = w.alloc (.cells #[.string nm, .int .i64 pa, .int .i64 ag, .int .i64 sz, .bool cp] 34)) := ⟨_, Lib.hid rfl⟩
  have hb0 : Below w.heap.size w W0 := by rw [hW0.out]; exact grewAlloc (Below.refl _ _) _
  have hX0 : Whole W0 w.heap.size 34 [.string nm, .int .i64 pa, .int .i64 ag, .int .i64 sz, .bool cp] := by rw [hW0.out]; exact Whole.new w _ _
  obtain ⟨q, hq⟩ : ∃ q, Hid (w.heap.size = q) := ⟨_, Lib.hid rfl⟩
  rw [hq.out] at hX0
  have hr := fun W => right22_any nm pa ag sz cp W
  rw [h] at hr
  replace hr := Lib.hid hr
  replace hb0 := Lib.hid hb0
  have x0 : W0.cell? ⟨q, 0, none⟩ = some (.string nm) := hX0.cell 0
  have x1 : W0.cell? ⟨q, 1, none⟩ = some (.int .i64 pa) := hX0.cell 1
  have x2 : W0.cell? ⟨q, 2, none⟩ = some (.int .i64 ag) := hX0.cell 2
  have x3 : W0.cell? ⟨q, 3, none⟩ = some (.int .i64 sz) := hX0.cell 3
  have x4 : W0.cell? ⟨q, 4, none⟩ = some (.bool cp) := hX0.cell 4
  clear h hX0
  go_enter Try.func18, Try.ntmps18
  go_upto_region 1 with fail
  rw [← show W0 = _ from hW0.out, hq.out]
  clear hW0 hq
  go_wp2_with fail
  refine (hr.out _).mono ?_
  rintro _ w1 ⟨rfl, hb1⟩
  have hB1 := Lib.hid (grew hb0.out hb1)
  clear hb0 hb1 x0 x1 x2 x3 x4
  go_wp2_with fail
  go_ret2
  exact ⟨rfl, hB1.out⟩
theorem index3a (a b c : Int) (w : World) : (Instr.index 60 (.agg #[.int .i64 a, .int .i64 b, .int .i64 c]) (.int .i64 0)).run Try.prog w = .ok (.int .i64 a) w := by
  simp [Instr.index, run_underlying Try.underlying60, asIntOf, go_sem]
theorem index3b (a b c : Int) (w : World) : (Instr.index 60 (.agg #[.int .i64 a, .int .i64 b, .int .i64 c]) (.int .i64 1)).run Try.prog w = .ok (.int .i64 b) w := by
  simp [Instr.index, run_underlying Try.underlying60, asIntOf, go_sem]
theorem index3c (a b c : Int) (w : World) : (Instr.index 60 (.agg #[.int .i64 a, .int .i64 b, .int .i64 c]) (.int .i64 2)).run Try.prog w = .ok (.int .i64 c) w := by
  simp [Instr.index, run_underlying Try.underlying60, asIntOf, go_sem]
theorem cat_enc (nm : ByteArray) (pa ag sz : Int) (b : UInt8) : B (textL nm.data.toList) ++ B (chain pa) ++ B (chain ag) ++ B (chain sz) ++ B [b] = B (textL nm.data.toList ++ (chain pa ++ (chain ag ++ (chain sz ++ [b])))) := by
  simp only [B_append, List.append_assoc]
theorem small_B {nm : ByteArray} {pa ag sz : Int} (hnm : nm.size ≤ 12) : (B (textL nm.data.toList)).size ≤ 30 ∧ (B (chain pa)).size ≤ 10 ∧ (B (chain ag)).size ≤ 10 ∧ (B (chain sz)).size ≤ 10 := by
  have h4 : (chain (nm.data.toList.length : Int)).length ≤ 10 := (chF_length 9 _).2
  have h5 : nm.data.toList.length = nm.size := by simp
  refine ⟨?_, chF_size 9 _, chF_size 9 _, chF_size 9 _⟩
  rw [B_size]
  unfold textL
  rw [List.length_append]
  omega
set_option maxRecDepth 100000 in
set_option maxHeartbeats 4000000 in
theorem encode_true (nm : ByteArray) (pa ag sz : Int) (w : World) (h : Sp.may ⟨nm, pa, ag, sz, true⟩ = true) :
    Calls Try.prog 18 #[(.agg #[.string nm, .int .i64 pa, .int .i64 ag, .int .i64 sz, .bool true])] w fun e w' => e = .returned (.tuple #[.string (B (encT ⟨nm, pa, ag, sz, true⟩)), .int .i64 0]) ∧ Below w.heap.size w w' := by
  obtain ⟨W0, hW0⟩ : ∃ W, Hid (W = w.alloc (.cells #[.string nm, .int .i64 pa, .int .i64 ag, .int .i64 sz, .bool true] 34)) := ⟨_, Lib.hid rfl⟩
  have hb0 : Below w.heap.size w W0 := by rw [hW0.out]; exact grewAlloc (Below.refl _ _) _
  have hX0 : Whole W0 w.heap.size 34 [.string nm, .int .i64 pa, .int .i64 ag, .int .i64 sz, .bool true] := by rw [hW0.out]; exact Whole.new w _ _
  obtain ⟨q, hq⟩ : ∃ q, Hid (w.heap.size = q) := ⟨_, Lib.hid rfl⟩
  rw [hq.out] at hX0
  have hr := fun W => right22_any nm pa ag sz true W
  rw [h] at hr
  have hok : Sp.ok ⟨nm, pa, ag, sz, true⟩ := of_decide_eq_true h
  obtain ⟨hn, ⟨p0, p1⟩, ⟨a0, a1⟩, ⟨z0, z1⟩⟩ := hok
  dsimp only at hn p0 p1 a0 a1 z0 z1
  have hnm := nameB_split hn
  have ht := Lib.hid (fun W => text_any nm W (by omega))
  have hc1 := Lib.hid (fun W => chain_any pa W (by omega) (by omega))
  have hc2 := Lib.hid (fun W => chain_any ag W a0 (by omega))
  have hc3 := Lib.hid (fun W => chain_any sz W z0 (by omega))
  obtain ⟨s1, s2, s3, s4⟩ := small_B (pa := pa) (ag := ag) (sz := sz) hnm.2
  have hcat := Lib.hid (cat_enc nm pa ag sz (UInt8.ofNat 1))
  obtain ⟨S1, hS1⟩ : ∃ S, Hid (B (textL nm.data.toList) = S) := ⟨_, Lib.hid rfl⟩
  obtain ⟨S2, hS2⟩ : ∃ S, Hid (B (chain pa) = S) := ⟨_, Lib.hid rfl⟩
  obtain ⟨S3, hS3⟩ : ∃ S, Hid (B (chain ag) = S) := ⟨_, Lib.hid rfl⟩
  obtain ⟨S4, hS4⟩ : ∃ S, Hid (B (chain sz) = S) := ⟨_, Lib.hid rfl⟩
  have hres : Hid (B (encT ⟨nm, pa, ag, sz, true⟩) = S1 ++ S2 ++ S3 ++ S4 ++ B [UInt8.ofNat 1]) := Lib.hid (by rw [← hS1.out, ← hS2.out, ← hS3.out, ← hS4.out, hcat.out]; rfl)
  rw [hS1.out] at ht s1
  rw [hS2.out] at hc1 s2
  rw [hS3.out] at hc2 s3
  rw [hS4.out] at hc3 s4
  have hz1 : (S1 ++ S2).size ≤ 40 := by rw [ByteArray.size_append]; omega
  have hz2 : (S1 ++ S2 ++ S3).size ≤ 50 := by rw [ByteArray.size_append]; omega
  have hz3 : (S1 ++ S2 ++ S3 ++ S4).size ≤ 60 := by rw [ByteArray.size_append]; omega
  have hz4 : (B [1]).size = 1 := rfl
  have hw1 : IntKind.u64.wrap pa = pa := IntWalk.u64_in _ (by omega)
  have hw2 : IntKind.u64.wrap ag = ag := IntWalk.u64_in _ (by omega)
  have hw3 : IntKind.u64.wrap sz = sz := IntWalk.u64_in _ (by omega)
  have h1b := fun (wx : World) (x : Int) => one_byte (P := Try.prog) 63 9 5 Try.underlying63 Try.underlying5 Try.underlying9 wx x
  rw [hres.out]
  replace hr := Lib.hid hr
  replace hb0 := Lib.hid hb0
  have x0 : W0.cell? ⟨q, 0, none⟩ = some (.string nm) := hX0.cell 0
  have x1 : W0.cell? ⟨q, 1, none⟩ = some (.int .i64 pa) := hX0.cell 1
  have x2 : W0.cell? ⟨q, 2, none⟩ = some (.int .i64 ag) := hX0.cell 2
  have x3 : W0.cell? ⟨q, 3, none⟩ = some (.int .i64 sz) := hX0.cell 3
  have x4 : W0.cell? ⟨q, 4, none⟩ = some (.bool true) := hX0.cell 4
  replace hX0 := Lib.hid hX0
  have ix0 := index3a pa ag sz
  have ix1 := index3b pa ag sz
  have ix2 := index3c pa ag sz
  clear h hn hcat hS1 hS2 hS3 hS4 hres
  go_enter Try.func18, Try.ntmps18
  go_upto_region 1 with fail
  rw [← show W0 = _ from hW0.out, hq.out]
  clear hW0 hq
  go_wp2_with fail
  refine (hr.out _).mono ?_
  rintro _ w1 ⟨rfl, hb1⟩
  have hB1 := Lib.hid (grew hb0.out hb1)
  have hX1 := hX0.out.below hb1 hX0.out.lt
  clear hb0 hb1 x0 x1 x2 x3 x4 hX0
  have x0 : w1.cell? ⟨q, 0, none⟩ = some (.string nm) := hX1.cell 0
  have x1 : w1.cell? ⟨q, 1, none⟩ = some (.int .i64 pa) := hX1.cell 1
  have x2 : w1.cell? ⟨q, 2, none⟩ = some (.int .i64 ag) := hX1.cell 2
  have x3 : w1.cell? ⟨q, 3, none⟩ = some (.int .i64 sz) := hX1.cell 3
  have x4 : w1.cell? ⟨q, 4, none⟩ = some (.bool true) := hX1.cell 4
  replace hX1 := Lib.hid hX1
  go_wp2_with fail
  refine (ht.out _).mono ?_
  rintro _ w2 ⟨rfl, hb2⟩
  have hB2 := Lib.hid (grew hB1.out hb2)
  have hX2 := hX1.out.below hb2 hX1.out.lt
  clear hB1 hb2 x0 x1 x2 x3 x4 hX1
  have x0 : w2.cell? ⟨q, 0, none⟩ = some (.string nm) := hX2.cell 0
  have x1 : w2.cell? ⟨q, 1, none⟩ = some (.int .i64 pa) := hX2.cell 1
  have x2 : w2.cell? ⟨q, 2, none⟩ = some (.int .i64 ag) := hX2.cell 2
  have x3 : w2.cell? ⟨q, 3, none⟩ = some (.int .i64 sz) := hX2.cell 3
  have x4 : w2.cell? ⟨q, 4, none⟩ = some (.bool true) := hX2.cell 4
  replace hX2 := Lib.hid hX2
  go_wp2_with fail
  refine wp_loop_rounds 4 ?_
  rw [rounds_succ]
  go_wp2_with fail
  refine (hc1.out _).mono ?_
  rintro _ w3 ⟨rfl, hb3⟩
  have hB3 := Lib.hid (grew hB2.out hb3)
  have hX3 := Lib.hid (hX2.out.below hb3 hX2.out.lt)
  clear hB2 hb3 x0 x1 x2 x3 x4 hX2
  go_wp2_with fail
  rw [rounds_succ]
  go_wp2_with fail
  refine (hc2.out _).mono ?_
  rintro _ w4 ⟨rfl, hb4⟩
  have hB4 := Lib.hid (grew hB3.out hb4)
  have hX4 := Lib.hid (hX3.out.below hb4 hX3.out.lt)
  clear hB3 hb4 hX3
  go_wp2_with fail
  rw [rounds_succ]
  go_wp2_with fail
  refine (hc3.out _).mono ?_
  rintro _ w5 ⟨rfl, hb5⟩
  have hB5 := Lib.hid (grew hB4.out hb5)
  have hX5 := hX4.out.below hb5 hX4.out.lt
  clear hB4 hb5 hX4
  have x0 : w5.cell? ⟨q, 0, none⟩ = some (.string nm) := hX5.cell 0
  have x1 : w5.cell? ⟨q, 1, none⟩ = some (.int .i64 pa) := hX5.cell 1
  have x2 : w5.cell? ⟨q, 2, none⟩ = some (.int .i64 ag) := hX5.cell 2
  have x3 : w5.cell? ⟨q, 3, none⟩ = some (.int .i64 sz) := hX5.cell 3
  have x4 : w5.cell? ⟨q, 4, none⟩ = some (.bool true) := hX5.cell 4
  clear hX5
  go_wp2_with fail
  rw [rounds_succ]
  go_wp2_with fail
  go_ret2
  exact ⟨rfl, hB5.out.alloc hB5.out.size _⟩
set_option maxRecDepth 100000 in
set_option maxHeartbeats 4000000 in
theorem encode_false (nm : ByteArray) (pa ag sz : Int) (w : World) (h : Sp.may ⟨nm, pa, ag, sz, false⟩ = true) :
    Calls Try.prog 18 #[(.agg #[.string nm, .int .i64 pa, .int .i64 ag, .int .i64 sz, .bool false])] w fun e w' => e = .returned (.tuple #[.string (B (encT ⟨nm, pa, ag, sz, false⟩)), .int .i64 0]) ∧ Below w.heap.size w w' := by
  obtain ⟨W0, hW0⟩ : ∃ W, Hid (W = w.alloc (.cells #[.string nm, .int .i64 pa, .int .i64 ag, .int .i64 sz, .bool false] 34)) := ⟨_, Lib.hid rfl⟩
  have hb0 : Below w.heap.size w W0 := by rw [hW0.out]; exact grewAlloc (Below.refl _ _) _
  have hX0 : Whole W0 w.heap.size 34 [.string nm, .int .i64 pa, .int .i64 ag, .int .i64 sz, .bool false] := by rw [hW0.out]; exact Whole.new w _ _
  obtain ⟨q, hq⟩ : ∃ q, Hid (w.heap.size = q) := ⟨_, Lib.hid rfl⟩
  rw [hq.out] at hX0
  have hr := fun W => right22_any nm pa ag sz false W
  rw [h] at hr
  have hok : Sp.ok ⟨nm, pa, ag, sz, false⟩ := of_decide_eq_true h
  obtain ⟨hn, ⟨p0, p1⟩, ⟨a0, a1⟩, ⟨z0, z1⟩⟩ := hok
  dsimp only at hn p0 p1 a0 a1 z0 z1
  have hnm := nameB_split hn
  have ht := Lib.hid (fun W => text_any nm W (by omega))
  have hc1 := Lib.hid (fun W => chain_any pa W (by omega) (by omega))
  have hc2 := Lib.hid (fun W => chain_any ag W a0 (by omega))
  have hc3 := Lib.hid (fun W => chain_any sz W z0 (by omega))
  obtain ⟨s1, s2, s3, s4⟩ := small_B (pa := pa) (ag := ag) (sz := sz) hnm.2
  have hcat := Lib.hid (cat_enc nm pa ag sz (UInt8.ofNat 0))
  obtain ⟨S1, hS1⟩ : ∃ S, Hid (B (textL nm.data.toList) = S) := ⟨_, Lib.hid rfl⟩
  obtain ⟨S2, hS2⟩ : ∃ S, Hid (B (chain pa) = S) := ⟨_, Lib.hid rfl⟩
  obtain ⟨S3, hS3⟩ : ∃ S, Hid (B (chain ag) = S) := ⟨_, Lib.hid rfl⟩
  obtain ⟨S4, hS4⟩ : ∃ S, Hid (B (chain sz) = S) := ⟨_, Lib.hid rfl⟩
  have hres : Hid (B (encT ⟨nm, pa, ag, sz, false⟩) = S1 ++ S2 ++ S3 ++ S4 ++ B [UInt8.ofNat 0]) := Lib.hid (by rw [← hS1.out, ← hS2.out, ← hS3.out, ← hS4.out, hcat.out]; rfl)
  rw [hS1.out] at ht s1
  rw [hS2.out] at hc1 s2
  rw [hS3.out] at hc2 s3
  rw [hS4.out] at hc3 s4
  have hz1 : (S1 ++ S2).size ≤ 40 := by rw [ByteArray.size_append]; omega
  have hz2 : (S1 ++ S2 ++ S3).size ≤ 50 := by rw [ByteArray.size_append]; omega
  have hz3 : (S1 ++ S2 ++ S3 ++ S4).size ≤ 60 := by rw [ByteArray.size_append]; omega
  have hz4 : (B [0]).size = 1 := rfl
  have hw1 : IntKind.u64.wrap pa = pa := IntWalk.u64_in _ (by omega)
  have hw2 : IntKind.u64.wrap ag = ag := IntWalk.u64_in _ (by omega)
  have hw3 : IntKind.u64.wrap sz = sz := IntWalk.u64_in _ (by omega)
  have h1b := fun (wx : World) (x : Int) => one_byte (P := Try.prog) 63 9 5 Try.underlying63 Try.underlying5 Try.underlying9 wx x
  rw [hres.out]
  replace hr := Lib.hid hr
  replace hb0 := Lib.hid hb0
  have x0 : W0.cell? ⟨q, 0, none⟩ = some (.string nm) := hX0.cell 0
  have x1 : W0.cell? ⟨q, 1, none⟩ = some (.int .i64 pa) := hX0.cell 1
  have x2 : W0.cell? ⟨q, 2, none⟩ = some (.int .i64 ag) := hX0.cell 2
  have x3 : W0.cell? ⟨q, 3, none⟩ = some (.int .i64 sz) := hX0.cell 3
  have x4 : W0.cell? ⟨q, 4, none⟩ = some (.bool false) := hX0.cell 4
  replace hX0 := Lib.hid hX0
  have ix0 := index3a pa ag sz
  have ix1 := index3b pa ag sz
  have ix2 := index3c pa ag sz
  clear h hn hcat hS1 hS2 hS3 hS4 hres
  go_enter Try.func18, Try.ntmps18
  go_upto_region 1 with fail
  rw [← show W0 = _ from hW0.out, hq.out]
  clear hW0 hq
  go_wp2_with fail
  refine (hr.out _).mono ?_
  rintro _ w1 ⟨rfl, hb1⟩
  have hB1 := Lib.hid (grew hb0.out hb1)
  have hX1 := hX0.out.below hb1 hX0.out.lt
  clear hb0 hb1 x0 x1 x2 x3 x4 hX0
  have x0 : w1.cell? ⟨q, 0, none⟩ = some (.string nm) := hX1.cell 0
  have x1 : w1.cell? ⟨q, 1, none⟩ = some (.int .i64 pa) := hX1.cell 1
  have x2 : w1.cell? ⟨q, 2, none⟩ = some (.int .i64 ag) := hX1.cell 2
  have x3 : w1.cell? ⟨q, 3, none⟩ = some (.int .i64 sz) := hX1.cell 3
  have x4 : w1.cell? ⟨q, 4, none⟩ = some (.bool false) := hX1.cell 4
  replace hX1 := Lib.hid hX1
  go_wp2_with fail
  refine (ht.out _).mono ?_
  rintro _ w2 ⟨rfl, hb2⟩
  have hB2 := Lib.hid (grew hB1.out hb2)
  have hX2 := hX1.out.below hb2 hX1.out.lt
  clear hB1 hb2 x0 x1 x2 x3 x4 hX1
  have x0 : w2.cell? ⟨q, 0, none⟩ = some (.string nm) := hX2.cell 0
  have x1 : w2.cell? ⟨q, 1, none⟩ = some (.int .i64 pa) := hX2.cell 1
  have x2 : w2.cell? ⟨q, 2, none⟩ = some (.int .i64 ag) := hX2.cell 2
  have x3 : w2.cell? ⟨q, 3, none⟩ = some (.int .i64 sz) := hX2.cell 3
  have x4 : w2.cell? ⟨q, 4, none⟩ = some (.bool false) := hX2.cell 4
  replace hX2 := Lib.hid hX2
  go_wp2_with fail
  refine wp_loop_rounds 4 ?_
  rw [rounds_succ]
  go_wp2_with fail
  refine (hc1.out _).mono ?_
  rintro _ w3 ⟨rfl, hb3⟩
  have hB3 := Lib.hid (grew hB2.out hb3)
  have hX3 := Lib.hid (hX2.out.below hb3 hX2.out.lt)
  clear hB2 hb3 x0 x1 x2 x3 x4 hX2
  go_wp2_with fail
  rw [rounds_succ]
  go_wp2_with fail
  refine (hc2.out _).mono ?_
  rintro _ w4 ⟨rfl, hb4⟩
  have hB4 := Lib.hid (grew hB3.out hb4)
  have hX4 := Lib.hid (hX3.out.below hb4 hX3.out.lt)
  clear hB3 hb4 hX3
  go_wp2_with fail
  rw [rounds_succ]
  go_wp2_with fail
  refine (hc3.out _).mono ?_
  rintro _ w5 ⟨rfl, hb5⟩
  have hB5 := Lib.hid (grew hB4.out hb5)
  have hX5 := hX4.out.below hb5 hX4.out.lt
  clear hB4 hb5 hX4
  have x0 : w5.cell? ⟨q, 0, none⟩ = some (.string nm) := hX5.cell 0
  have x1 : w5.cell? ⟨q, 1, none⟩ = some (.int .i64 pa) := hX5.cell 1
  have x2 : w5.cell? ⟨q, 2, none⟩ = some (.int .i64 ag) := hX5.cell 2
  have x3 : w5.cell? ⟨q, 3, none⟩ = some (.int .i64 sz) := hX5.cell 3
  have x4 : w5.cell? ⟨q, 4, none⟩ = some (.bool false) := hX5.cell 4
  clear hX5
  go_wp2_with fail
  rw [rounds_succ]
  go_wp2_with fail
  go_ret2
  exact ⟨rfl, hB5.out.alloc hB5.out.size _⟩
theorem rchain22_any (n : Int) (w : World) (h0 : 0 ≤ n) (h1 : n ≤ 1099511627776) :
    Calls Try.prog 44 #[.int .i64 n] w fun e w' => e = .returned (.string (B (chain n))) ∧ Below w.heap.size w w' := by
  have hc := Lib.hid (fun W => rchain_any 9 n W h0 (by omega) (by omega) (by omega))
  have hw1 : IntKind.u64.wrap n = n := IntWalk.u64_in _ (by omega)
  go_enter Try.func44, Try.ntmps44
  go_wp2_with fail
  refine (hc.out _).mono ?_
  rintro _ w1 ⟨rfl, hb⟩
  replace hb := Lib.hid hb
  go_wp2_with fail
  go_ret
  exact ⟨rfl, hb.out⟩
set_option maxRecDepth 100000 in
set_option maxHeartbeats 4000000 in
theorem rencode_true (nm : ByteArray) (pa ag sz : Int) (w : World) (h : Sp.may ⟨nm, pa, ag, sz, true⟩ = true) :
    Calls Try.prog 25 #[(.agg #[.string nm, .int .i64 pa, .int .i64 ag, .int .i64 sz, .bool true])] w fun e w' => e = .returned (.string (B (encT ⟨nm, pa, ag, sz, true⟩))) ∧ Below w.heap.size w w' := by
  obtain ⟨W0, hW0⟩ : ∃ W, Hid (W = w.alloc (.cells #[.string nm, .int .i64 pa, .int .i64 ag, .int .i64 sz, .bool true] 34)) := ⟨_, Lib.hid rfl⟩
  have hb0 : Below w.heap.size w W0 := by rw [hW0.out]; exact grewAlloc (Below.refl _ _) _
  have hX0 : Whole W0 w.heap.size 34 [.string nm, .int .i64 pa, .int .i64 ag, .int .i64 sz, .bool true] := by rw [hW0.out]; exact Whole.new w _ _
  obtain ⟨q, hq⟩ : ∃ q, Hid (w.heap.size = q) := ⟨_, Lib.hid rfl⟩
  rw [hq.out] at hX0
  have hok : Sp.ok ⟨nm, pa, ag, sz, true⟩ := of_decide_eq_true h
  obtain ⟨hn, ⟨p0, p1⟩, ⟨a0, a1⟩, ⟨z0, z1⟩⟩ := hok
  dsimp only at hn p0 p1 a0 a1 z0 z1
  have hnm := nameB_split hn
  have ht := Lib.hid (fun W => rtext_any nm W (by omega))
  have hc1 := Lib.hid (fun W => rchain22_any pa W (by omega) (by omega))
  have hc2 := Lib.hid (fun W => rchain22_any ag W a0 a1)
  have hc3 := Lib.hid (fun W => rchain22_any sz W z0 z1)
  obtain ⟨s1, s2, s3, s4⟩ := small_B (pa := pa) (ag := ag) (sz := sz) hnm.2
  have hcat := Lib.hid (cat_enc nm pa ag sz (UInt8.ofNat 1))
  obtain ⟨S1, hS1⟩ : ∃ S, Hid (B (textL nm.data.toList) = S) := ⟨_, Lib.hid rfl⟩
  obtain ⟨S2, hS2⟩ : ∃ S, Hid (B (chain pa) = S) := ⟨_, Lib.hid rfl⟩
  obtain ⟨S3, hS3⟩ : ∃ S, Hid (B (chain ag) = S) := ⟨_, Lib.hid rfl⟩
  obtain ⟨S4, hS4⟩ : ∃ S, Hid (B (chain sz) = S) := ⟨_, Lib.hid rfl⟩
  have hres : Hid (B (encT ⟨nm, pa, ag, sz, true⟩) = S1 ++ S2 ++ S3 ++ S4 ++ ⟨#[1]⟩) := Lib.hid (by rw [← hS1.out, ← hS2.out, ← hS3.out, ← hS4.out, show (⟨#[1]⟩ : ByteArray) = B [UInt8.ofNat 1] from rfl, hcat.out]; rfl)
  rw [hS1.out] at ht s1
  rw [hS2.out] at hc1 s2
  rw [hS3.out] at hc2 s3
  rw [hS4.out] at hc3 s4
  have hz1 : (S1 ++ S2).size ≤ 40 := by rw [ByteArray.size_append]; omega
  have hz2 : (S1 ++ S2 ++ S3).size ≤ 50 := by rw [ByteArray.size_append]; omega
  have hz3 : (S1 ++ S2 ++ S3 ++ S4).size ≤ 60 := by rw [ByteArray.size_append]; omega
  have hz4 : (⟨#[1]⟩ : ByteArray).size = 1 := rfl
  rw [hres.out]
  replace hb0 := Lib.hid hb0
  have x0 : W0.cell? ⟨q, 0, none⟩ = some (.string nm) := hX0.cell 0
  have x1 : W0.cell? ⟨q, 1, none⟩ = some (.int .i64 pa) := hX0.cell 1
  have x2 : W0.cell? ⟨q, 2, none⟩ = some (.int .i64 ag) := hX0.cell 2
  have x3 : W0.cell? ⟨q, 3, none⟩ = some (.int .i64 sz) := hX0.cell 3
  have x4 : W0.cell? ⟨q, 4, none⟩ = some (.bool true) := hX0.cell 4
  have g0 := fun d os => cell_regrown x0 d os
  have g1 := fun d os => cell_regrown x1 d os
  have g2 := fun d os => cell_regrown x2 d os
  have g3 := fun d os => cell_regrown x3 d os
  have rt := Lib.hid (regrown_any (fun W => ht.out W) W0)
  have r1 := Lib.hid (regrown_any (fun W => hc1.out W) W0)
  have r2 := Lib.hid (regrown_any (fun W => hc2.out W) W0)
  have r3 := Lib.hid (regrown_any (fun W => hc3.out W) W0)
  replace hX0 := Lib.hid hX0
  clear h hn hcat hS1 hS2 hS3 hS4 hres x0 x1 x2 x3 x4
  go_enter Try.func25, Try.ntmps25
  go_upto_region 1 with fail
  rw [← show W0 = _ from hW0.out, hq.out]
  clear hW0 hq
  refine wp_region_quiet_below (by kernel_rfl) (by kernel_rfl) ?_
  repeat (go_big_quiet_step (first | (with_reducible exact rt.out _ _) | (with_reducible exact r1.out _ _) | (with_reducible exact r2.out _ _) | (with_reducible exact r3.out _ _)))
  refine wpQuiet_nil ?_
  intro _ hw'
  obtain ⟨⟨dq, osq⟩, hw''⟩ := hw'
  subst hw''
  have hX5 := hX0.out.below (below_regrown W0 dq osq) hX0.out.lt
  have hB5 := Lib.hid (grew hb0.out (below_regrown W0 dq osq))
  clear g0 g1 g2 g3 rt r1 r2 r3 hX0 hb0
  generalize grow (redrawn W0 dq) osq = w5 at *
  have x0 : w5.cell? ⟨q, 0, none⟩ = some (.string nm) := hX5.cell 0
  have x1 : w5.cell? ⟨q, 1, none⟩ = some (.int .i64 pa) := hX5.cell 1
  have x2 : w5.cell? ⟨q, 2, none⟩ = some (.int .i64 ag) := hX5.cell 2
  have x3 : w5.cell? ⟨q, 3, none⟩ = some (.int .i64 sz) := hX5.cell 3
  have x4 : w5.cell? ⟨q, 4, none⟩ = some (.bool true) := hX5.cell 4
  clear hX5
  go_wp2_with fail
  go_ret
  exact ⟨rfl, hB5.out⟩
set_option maxRecDepth 100000 in
set_option maxHeartbeats 4000000 in
theorem rencode_false (nm : ByteArray) (pa ag sz : Int) (w : World) (h : Sp.may ⟨nm, pa, ag, sz, false⟩ = true) :
    Calls Try.prog 25 #[(.agg #[.string nm, .int .i64 pa, .int .i64 ag, .int .i64 sz, .bool false])] w fun e w' => e = .returned (.string (B (encT ⟨nm, pa, ag, sz, false⟩))) ∧ Below w.heap.size w w' := by
  obtain ⟨W0, hW0⟩ : ∃ W, Hid (W = w.alloc (.cells #[.string nm, .int .i64 pa, .int .i64 ag, .int .i64 sz, .bool false] 34)) := ⟨_, Lib.hid rfl⟩
  have hb0 : Below w.heap.size w W0 := by rw [hW0.out]; exact grewAlloc (Below.refl _ _) _
  have hX0 : Whole W0 w.heap.size 34 [.string nm, .int .i64 pa, .int .i64 ag, .int .i64 sz, .bool false] := by rw [hW0.out]; exact Whole.new w _ _
  obtain ⟨q, hq⟩ : ∃ q, Hid (w.heap.size = q) := ⟨_, Lib.hid rfl⟩
  rw [hq.out] at hX0
  have hok : Sp.ok ⟨nm, pa, ag, sz, false⟩ := of_decide_eq_true h
  obtain ⟨hn, ⟨p0, p1⟩, ⟨a0, a1⟩, ⟨z0, z1⟩⟩ := hok
  dsimp only at hn p0 p1 a0 a1 z0 z1
  have hnm := nameB_split hn
  have ht := Lib.hid (fun W => rtext_any nm W (by omega))
  have hc1 := Lib.hid (fun W => rchain22_any pa W (by omega) (by omega))
  have hc2 := Lib.hid (fun W => rchain22_any ag W a0 a1)
  have hc3 := Lib.hid (fun W => rchain22_any sz W z0 z1)
  obtain ⟨s1, s2, s3, s4⟩ := small_B (pa := pa) (ag := ag) (sz := sz) hnm.2
  have hcat := Lib.hid (cat_enc nm pa ag sz (UInt8.ofNat 0))
  obtain ⟨S1, hS1⟩ : ∃ S, Hid (B (textL nm.data.toList) = S) := ⟨_, Lib.hid rfl⟩
  obtain ⟨S2, hS2⟩ : ∃ S, Hid (B (chain pa) = S) := ⟨_, Lib.hid rfl⟩
  obtain ⟨S3, hS3⟩ : ∃ S, Hid (B (chain ag) = S) := ⟨_, Lib.hid rfl⟩
  obtain ⟨S4, hS4⟩ : ∃ S, Hid (B (chain sz) = S) := ⟨_, Lib.hid rfl⟩
  have hres : Hid (B (encT ⟨nm, pa, ag, sz, false⟩) = S1 ++ S2 ++ S3 ++ S4 ++ ⟨#[0]⟩) := Lib.hid (by rw [← hS1.out, ← hS2.out, ← hS3.out, ← hS4.out, show (⟨#[0]⟩ : ByteArray) = B [UInt8.ofNat 0] from rfl, hcat.out]; rfl)
  rw [hS1.out] at ht s1
  rw [hS2.out] at hc1 s2
  rw [hS3.out] at hc2 s3
  rw [hS4.out] at hc3 s4
  have hz1 : (S1 ++ S2).size ≤ 40 := by rw [ByteArray.size_append]; omega
  have hz2 : (S1 ++ S2 ++ S3).size ≤ 50 := by rw [ByteArray.size_append]; omega
  have hz3 : (S1 ++ S2 ++ S3 ++ S4).size ≤ 60 := by rw [ByteArray.size_append]; omega
  have hz4 : (⟨#[0]⟩ : ByteArray).size = 1 := rfl
  rw [hres.out]
  replace hb0 := Lib.hid hb0
  have x0 : W0.cell? ⟨q, 0, none⟩ = some (.string nm) := hX0.cell 0
  have x1 : W0.cell? ⟨q, 1, none⟩ = some (.int .i64 pa) := hX0.cell 1
  have x2 : W0.cell? ⟨q, 2, none⟩ = some (.int .i64 ag) := hX0.cell 2
  have x3 : W0.cell? ⟨q, 3, none⟩ = some (.int .i64 sz) := hX0.cell 3
  have x4 : W0.cell? ⟨q, 4, none⟩ = some (.bool false) := hX0.cell 4
  have g0 := fun d os => cell_regrown x0 d os
  have g1 := fun d os => cell_regrown x1 d os
  have g2 := fun d os => cell_regrown x2 d os
  have g3 := fun d os => cell_regrown x3 d os
  have rt := Lib.hid (regrown_any (fun W => ht.out W) W0)
  have r1 := Lib.hid (regrown_any (fun W => hc1.out W) W0)
  have r2 := Lib.hid (regrown_any (fun W => hc2.out W) W0)
  have r3 := Lib.hid (regrown_any (fun W => hc3.out W) W0)
  replace hX0 := Lib.hid hX0
  clear h hn hcat hS1 hS2 hS3 hS4 hres x0 x1 x2 x3 x4
  go_enter Try.func25, Try.ntmps25
  go_upto_region 1 with fail
  rw [← show W0 = _ from hW0.out, hq.out]
  clear hW0 hq
  refine wp_region_quiet_below (by kernel_rfl) (by kernel_rfl) ?_
  repeat (go_big_quiet_step (first | (with_reducible exact rt.out _ _) | (with_reducible exact r1.out _ _) | (with_reducible exact r2.out _ _) | (with_reducible exact r3.out _ _)))
  refine wpQuiet_nil ?_
  intro _ hw'
  obtain ⟨⟨dq, osq⟩, hw''⟩ := hw'
  subst hw''
  have hX5 := hX0.out.below (below_regrown W0 dq osq) hX0.out.lt
  have hB5 := Lib.hid (grew hb0.out (below_regrown W0 dq osq))
  clear g0 g1 g2 g3 rt r1 r2 r3 hX0 hb0
  generalize grow (redrawn W0 dq) osq = w5 at *
  have x0 : w5.cell? ⟨q, 0, none⟩ = some (.string nm) := hX5.cell 0
  have x1 : w5.cell? ⟨q, 1, none⟩ = some (.int .i64 pa) := hX5.cell 1
  have x2 : w5.cell? ⟨q, 2, none⟩ = some (.int .i64 ag) := hX5.cell 2
  have x3 : w5.cell? ⟨q, 3, none⟩ = some (.int .i64 sz) := hX5.cell 3
  have x4 : w5.cell? ⟨q, 4, none⟩ = some (.bool false) := hX5.cell 4
  clear hX5
  go_wp2_with fail
  go_ret
  exact ⟨rfl, hB5.out⟩
end Go.Proofs.Ytpfnpfbimadjkaa.W
