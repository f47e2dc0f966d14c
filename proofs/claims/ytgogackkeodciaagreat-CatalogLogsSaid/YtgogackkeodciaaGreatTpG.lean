/- Layer 22: the definition's Decode. -/
import Derived.Test.YtgogackkeodciaaGreatTpF
namespace Go.Proofs.YtgogackkeodciaaGreat.W
open Go.RowKit Go.Sort
open Go.Proofs.YtgogackkeodciaaGreat.M Go.Proofs.YtgogackkeodciaaGreat.D Go.Proofs.YtgogackkeodciaaGreat.Z
set_option linter.unusedVariables false
set_option linter.unusedSimpArgs false

theorem sizeGot22 : (Tryz.prog.info? 114).map (·.size) = some 7 := by kernel_rfl
theorem nm_le {s nm : ByteArray} {p : Nat} (h : txAt s 0 = some (nm, p)) : nm.size ≤ s.size := by
  obtain ⟨_, h2, h3⟩ := txAt_back h (Nat.zero_le _)
  have := congrArg List.length h3
  unfold textL at this
  simp only [List.length_append, List.length_drop] at this
  have e1 : nm.data.toList.length = nm.size := by simp
  have e2 : s.data.toList.length = s.size := by simp
  omega
set_option maxRecDepth 100000 in
set_option maxHeartbeats 4000000 in
theorem rdec22_text (s : ByteArray) (w : World) (hs : s.size ≤ 100000)  (h0 : txAt s 0 = none) :
    Calls Tryz.prog 61 #[.string s] w fun e w' => e = .returned (.agg #[.string ⟨#[]⟩, .int .i64 0, .int .i64 0, .int .i64 0, .bool false, .int .i64 0, .bool false]) ∧ Below w.heap.size w w' := by
  have hsl : s.data.toList.length = s.size := by simp
  obtain ⟨W1, hW1⟩ : ∃ W, Hid (W = w.alloc (.cells #[.string ⟨#[]⟩, .int .i64 0, .int .i64 0, .int .i64 0, .bool false, .int .i64 0, .bool false] 114)) := ⟨_, Lib.hid rfl⟩
  have b1 : Below w.heap.size w W1 := by rw [hW1.out]; exact grewAlloc (Below.refl _ _) _
  have r1 : Whole W1 w.heap.size 114 [.string ⟨#[]⟩, .int .i64 0, .int .i64 0, .int .i64 0, .bool false, .int .i64 0, .bool false] := by rw [hW1.out]; exact Whole.new w _ _
  obtain ⟨rb, hrb0⟩ : ∃ q, Hid (w.heap.size = q) := ⟨_, Lib.hid rfl⟩
  rw [hrb0.out] at r1
  have hrb : Hid (w.heap.size ≤ rb) := Lib.hid (by rw [hrb0.out]; exact Nat.le_refl _)
  have hut := fun W => runtext_any s W (by omega)
  obtain ⟨x, n, er, hU0, her⟩ := txAt_no h0
  rw [ext_all] at hU0
  rw [hU0] at hut
  have her2 : (er != 0) = true := by simpa using her
  replace hut := Lib.hid hut
  replace r1 := Lib.hid r1
  replace b1 := Lib.hid b1
  clear hU0 h0
  go_enter Tryz.func61, Tryz.ntmps61
  go_upto_region 1 with fail
  rw [← show W1 = _ from hW1.out, hrb0.out]
  clear hW1
  go_wp2_with fail
  refine (hut.out _).mono ?_
  rintro _ w2 ⟨rfl, hb2⟩
  obtain ⟨W3, hW3⟩ : ∃ W, Hid (W = w2.alloc (.cells #[.string x, .int .i64 n, .int .i64 er] 86)) := ⟨_, Lib.hid rfl⟩
  have c3 : Below w2.heap.size w2 W3 := by rw [hW3.out]; exact grewAlloc (Below.refl _ _) _
  have b3 := Lib.hid (grew (grew b1.out hb2) c3)
  have r3 := Lib.hid ((r1.out.below hb2 r1.out.lt).below c3 (r1.out.below hb2 r1.out.lt).lt)
  have t3 : Whole W3 w2.heap.size 86 [.string x, .int .i64 n, .int .i64 er] := by rw [hW3.out]; exact Whole.new w2 _ _
  obtain ⟨tb, htb⟩ : ∃ q, Hid (w2.heap.size = q) := ⟨_, Lib.hid rfl⟩
  rw [htb.out] at t3
  have y0 : W3.cell? ⟨tb, 0, none⟩ = some (.string x) := t3.cell 0
  have y1 : W3.cell? ⟨tb, 1, none⟩ = some (.int .i64 n) := t3.cell 1
  have y2 : W3.cell? ⟨tb, 2, none⟩ = some (.int .i64 er) := t3.cell 2
  replace t3 := Lib.hid t3
  clear c3 hb2 b1 r1 hut
  go_upto_region 2 with fail
  rw [← show W3 = _ from hW3.out, htb.out]
  clear hW3 htb
  go_wp2_with (with_reducible refine zStore 114 _ _ rfl ?_)
  refine Lib.hid ?_
  refine wpList_store_mid rfl 114 _ _ rfl rb 0 #[.string ⟨#[]⟩, .int .i64 0, .int .i64 0, .int .i64 0, .bool false, .int .i64 0, .bool false] rfl rfl (r3.out.there 0 7 (by simp)) sizeGot22 (by simp [Value.oneCell']) ?_
  go_wp2_with fail
  have hfin := whole_all r3.out (vs := [.string ⟨#[]⟩, .int .i64 0, .int .i64 0, .int .i64 0, .bool false, .int .i64 0, .bool false]) rfl
  exact bodyPost_ret (result_cell Tryz.results61 rfl hfin.range Tryz.underlying114 rfl sizeGot22) rfl ⟨rfl, below_store b3.out hrb.out (Nat.le_refl _) 0 _⟩
set_option maxRecDepth 100000 in
set_option maxHeartbeats 4000000 in
theorem rdec22_no1 (s : ByteArray) (w : World) (hs : s.size ≤ 100000) (nm : ByteArray) (p0 : Nat) (h0 : txAt s 0 = some (nm, p0)) (h1 : chAt s.data.toList p0 = none) :
    Calls Tryz.prog 61 #[.string s] w fun e w' => e = .returned (.agg #[.string ⟨#[]⟩, .int .i64 0, .int .i64 0, .int .i64 0, .bool false, .int .i64 0, .bool false]) ∧ Below w.heap.size w w' := by
  have hsl : s.data.toList.length = s.size := by simp
  obtain ⟨W1, hW1⟩ : ∃ W, Hid (W = w.alloc (.cells #[.string ⟨#[]⟩, .int .i64 0, .int .i64 0, .int .i64 0, .bool false, .int .i64 0, .bool false] 114)) := ⟨_, Lib.hid rfl⟩
  have b1 : Below w.heap.size w W1 := by rw [hW1.out]; exact grewAlloc (Below.refl _ _) _
  have r1 : Whole W1 w.heap.size 114 [.string ⟨#[]⟩, .int .i64 0, .int .i64 0, .int .i64 0, .bool false, .int .i64 0, .bool false] := by rw [hW1.out]; exact Whole.new w _ _
  obtain ⟨rb, hrb0⟩ : ∃ q, Hid (w.heap.size = q) := ⟨_, Lib.hid rfl⟩
  rw [hrb0.out] at r1
  have hrb : Hid (w.heap.size ≤ rb) := Lib.hid (by rw [hrb0.out]; exact Nat.le_refl _)
  have hut := fun W => runtext_any s W (by omega)
  obtain ⟨hU0, hp0⟩ := txAt_yes h0
  rw [ext_all] at hU0
  rw [hU0] at hut
  have z1 := slice_from22 s p0 (by omega)
  have C1 := fun W => runchain_any (s.extract p0 s.size) W (by have := ext_le s p0 hs; omega)
  rw [ext_drop] at C1
  obtain ⟨er, hU1, her⟩ := chAt_no h1
  rw [hU1] at C1
  have her2 : (er != 0) = true := by simpa using her
  clear hU1 h1
  replace C1 := Lib.hid C1
  replace hut := Lib.hid hut
  replace r1 := Lib.hid r1
  replace b1 := Lib.hid b1
  clear hU0 h0 hp0
  go_enter Tryz.func61, Tryz.ntmps61
  go_upto_region 1 with fail
  rw [← show W1 = _ from hW1.out, hrb0.out]
  clear hW1
  go_wp2_with fail
  refine (hut.out _).mono ?_
  rintro _ w2 ⟨rfl, hb2⟩
  obtain ⟨W3, hW3⟩ : ∃ W, Hid (W = w2.alloc (.cells #[.string nm, .int .i64 (p0 : Int), .int .i64 0] 86)) := ⟨_, Lib.hid rfl⟩
  have c3 : Below w2.heap.size w2 W3 := by rw [hW3.out]; exact grewAlloc (Below.refl _ _) _
  have b3 := Lib.hid (grew (grew b1.out hb2) c3)
  have r3 := Lib.hid ((r1.out.below hb2 r1.out.lt).below c3 (r1.out.below hb2 r1.out.lt).lt)
  have t3 : Whole W3 w2.heap.size 86 [.string nm, .int .i64 (p0 : Int), .int .i64 0] := by rw [hW3.out]; exact Whole.new w2 _ _
  obtain ⟨tb, htb⟩ : ∃ q, Hid (w2.heap.size = q) := ⟨_, Lib.hid rfl⟩
  rw [htb.out] at t3
  have y0 : W3.cell? ⟨tb, 0, none⟩ = some (.string nm) := t3.cell 0
  have y1 : W3.cell? ⟨tb, 1, none⟩ = some (.int .i64 (p0 : Int)) := t3.cell 1
  have y2 : W3.cell? ⟨tb, 2, none⟩ = some (.int .i64 0) := t3.cell 2
  replace t3 := Lib.hid t3
  clear c3 hb2 b1 r1 hut
  go_upto_region 2 with fail
  rw [← show W3 = _ from hW3.out, htb.out]
  clear hW3 htb
  obtain ⟨U0, hU⟩ : ∃ W, Hid (W = W3.alloc (.cells #[.int .i64 0, .int .i64 0, .int .i64 0, .int .i64 0] 136)) := ⟨_, Lib.hid rfl⟩
  have c4 : Below W3.heap.size W3 U0 := by rw [hU.out]; exact grewAlloc (Below.refl _ _) _
  have bl0 := Lib.hid (grew b3.out c4)
  have rb0 := Lib.hid (r3.out.below c4 r3.out.lt)
  have tb0 := Lib.hid (t3.out.below c4 t3.out.lt)
  have ab0 : Whole U0 W3.heap.size 136 [.int .i64 0, .int .i64 0, .int .i64 0, .int .i64 0] := by rw [hU.out]; exact Whole.new W3 _ _
  obtain ⟨ab, hab⟩ : ∃ q, Hid (W3.heap.size = q) := ⟨_, Lib.hid rfl⟩
  rw [hab.out] at ab0
  have na : Hid (w.heap.size ≤ ab ∧ rb ≠ ab ∧ tb ≠ ab) := Lib.hid ⟨by rw [← hab.out]; exact b3.out.size, by have := r3.out.lt; have := hab.out; omega, by have := t3.out.lt; have := hab.out; omega⟩
  replace ab0 := Lib.hid ab0
  clear c4 b3 r3 t3
  go_upto_region 6 with fail
  rw [← show U0 = _ from hU.out, hab.out]
  clear hU hab y0 y1 y2
  go_wp2_with fail
  refine wp_loop_rounds 5 ?_
  rw [rounds_succ]
  go_wp2_with fail
  refine (C1.out _).mono ?_
  rintro _ _ ⟨rfl, rfl⟩
  obtain ⟨X1, hX1⟩ : ∃ W, Hid (W = (U0.alloc (.cells #[.int .u64 0, .int .i64 0, .int .i64 er] 119)).alloc (.cells #[.int .u64 0, .int .i64 0, .int .i64 er] 119)) := ⟨_, Lib.hid rfl⟩
  have cx : Below U0.heap.size U0 X1 := by rw [hX1.out]; exact grewAlloc (grewAlloc (Below.refl _ _) _) _
  have gx : Whole X1 (U0.heap.size + 1) 119 [.int .u64 0, .int .i64 0, .int .i64 er] := by
    rw [hX1.out]
    have := Whole.new (U0.alloc (.cells #[.int .u64 0, .int .i64 0, .int .i64 er] 119)) 119 [.int .u64 0, .int .i64 0, .int .i64 er]
    rwa [show (U0.alloc (.cells #[.int .u64 0, .int .i64 0, .int .i64 er] 119)).heap.size = U0.heap.size + 1 from by simp] at this
  obtain ⟨gb1, hgb1⟩ : ∃ q, Hid (U0.heap.size + 1 = q) := ⟨_, Lib.hid rfl⟩
  rw [hgb1.out] at gx
  have hgn1 : gb1 ≠ ab := by have := ab0.out.lt; have := hgb1.out; omega
  have hgm1 : ab ≠ gb1 := fun e => hgn1 e.symm
  have g0 : X1.cell? ⟨gb1, 0, none⟩ = some (.int .u64 0) := gx.cell 0
  have g1 : X1.cell? ⟨gb1, 1, none⟩ = some (.int .i64 0) := gx.cell 1
  have g2 : X1.cell? ⟨gb1, 2, none⟩ = some (.int .i64 er) := gx.cell 2
  have blx := Lib.hid (grew bl0.out cx)
  have rbx := Lib.hid (rb0.out.below cx rb0.out.lt)
  have tbx := Lib.hid (tb0.out.below cx tb0.out.lt)
  have abx := ab0.out.below cx ab0.out.lt
  have a0 : X1.cell? ⟨ab, 0, none⟩ = some (.int .i64 0) := abx.cell 0
  have f0 : X1.frozen? ⟨ab, 0, none⟩ = false := abx.frozen 0
  replace abx := Lib.hid abx
  clear cx gx bl0 rb0 tb0 ab0 C1
  go_upto_region 10 with fail
  rw [← show X1 = _ from hX1.out]
  rw [hgb1.out]
  clear hX1 hgb1
  go_wp2_with (with_reducible refine zStore 114 _ _ rfl ?_)
  refine Lib.hid ?_
  refine wpList_store_mid rfl 114 _ _ rfl rb 0 #[.string ⟨#[]⟩, .int .i64 0, .int .i64 0, .int .i64 0, .bool false, .int .i64 0, .bool false] rfl rfl (rbx.out.there 0 7 (by simp)) sizeGot22 (by simp [Value.oneCell']) ?_
  go_wp2_with fail
  have hfin := whole_all rbx.out (vs := [.string ⟨#[]⟩, .int .i64 0, .int .i64 0, .int .i64 0, .bool false, .int .i64 0, .bool false]) rfl
  exact bodyPost_ret (result_cell Tryz.results61 rfl hfin.range Tryz.underlying114 rfl sizeGot22) rfl ⟨rfl, below_store blx.out hrb.out (Nat.le_refl _) 0 _⟩
set_option maxRecDepth 100000 in
set_option maxHeartbeats 4000000 in
theorem rdec22_no2 (s : ByteArray) (w : World) (hs : s.size ≤ 100000) (nm : ByteArray) (p0 : Nat) (v1 : Int) (p1 : Nat) (h0 : txAt s 0 = some (nm, p0)) (h1 : chAt s.data.toList p0 = some (v1, p1)) (k1 : v1 ≤ 1099511627776) (h2 : chAt s.data.toList p1 = none) :
    Calls Tryz.prog 61 #[.string s] w fun e w' => e = .returned (.agg #[.string ⟨#[]⟩, .int .i64 0, .int .i64 0, .int .i64 0, .bool false, .int .i64 0, .bool false]) ∧ Below w.heap.size w w' := by
  have hsl : s.data.toList.length = s.size := by simp
  obtain ⟨W1, hW1⟩ : ∃ W, Hid (W = w.alloc (.cells #[.string ⟨#[]⟩, .int .i64 0, .int .i64 0, .int .i64 0, .bool false, .int .i64 0, .bool false] 114)) := ⟨_, Lib.hid rfl⟩
  have b1 : Below w.heap.size w W1 := by rw [hW1.out]; exact grewAlloc (Below.refl _ _) _
  have r1 : Whole W1 w.heap.size 114 [.string ⟨#[]⟩, .int .i64 0, .int .i64 0, .int .i64 0, .bool false, .int .i64 0, .bool false] := by rw [hW1.out]; exact Whole.new w _ _
  obtain ⟨rb, hrb0⟩ : ∃ q, Hid (w.heap.size = q) := ⟨_, Lib.hid rfl⟩
  rw [hrb0.out] at r1
  have hrb : Hid (w.heap.size ≤ rb) := Lib.hid (by rw [hrb0.out]; exact Nat.le_refl _)
  have hut := fun W => runtext_any s W (by omega)
  obtain ⟨hU0, hp0⟩ := txAt_yes h0
  rw [ext_all] at hU0
  rw [hU0] at hut
  have z1 := slice_from22 s p0 (by omega)
  have C1 := fun W => runchain_any (s.extract p0 s.size) W (by have := ext_le s p0 hs; omega)
  rw [ext_drop] at C1
  obtain ⟨n1, hU1, hq1, hp1, vl1, vh1⟩ := chAt_yes h1 (by omega)
  rw [hU1] at C1
  have hw1 : IntKind.i64.wrap ((p0 : Int) + (n1 : Int)) = (p1 : Int) := by rw [IntWalk.i64_in _ (by omega)]; omega
  have hv1 : IntKind.i64.wrap v1 = v1 := IntWalk.i64_in _ (by omega)
  have hv1b : wrap64 v1 = v1 := wrap64_low vl1 (by omega)
  clear hU1 h1
  replace C1 := Lib.hid C1
  have z2 := slice_from22 s p1 (by omega)
  have C2 := fun W => runchain_any (s.extract p1 s.size) W (by have := ext_le s p1 hs; omega)
  rw [ext_drop] at C2
  obtain ⟨er, hU2, her⟩ := chAt_no h2
  rw [hU2] at C2
  have her2 : (er != 0) = true := by simpa using her
  clear hU2 h2
  replace C2 := Lib.hid C2
  replace hut := Lib.hid hut
  replace r1 := Lib.hid r1
  replace b1 := Lib.hid b1
  clear hU0 h0 hp0
  clear hq1 hp1 vl1 vh1
  go_enter Tryz.func61, Tryz.ntmps61
  go_upto_region 1 with fail
  rw [← show W1 = _ from hW1.out, hrb0.out]
  clear hW1
  go_wp2_with fail
  refine (hut.out _).mono ?_
  rintro _ w2 ⟨rfl, hb2⟩
  obtain ⟨W3, hW3⟩ : ∃ W, Hid (W = w2.alloc (.cells #[.string nm, .int .i64 (p0 : Int), .int .i64 0] 86)) := ⟨_, Lib.hid rfl⟩
  have c3 : Below w2.heap.size w2 W3 := by rw [hW3.out]; exact grewAlloc (Below.refl _ _) _
  have b3 := Lib.hid (grew (grew b1.out hb2) c3)
  have r3 := Lib.hid ((r1.out.below hb2 r1.out.lt).below c3 (r1.out.below hb2 r1.out.lt).lt)
  have t3 : Whole W3 w2.heap.size 86 [.string nm, .int .i64 (p0 : Int), .int .i64 0] := by rw [hW3.out]; exact Whole.new w2 _ _
  obtain ⟨tb, htb⟩ : ∃ q, Hid (w2.heap.size = q) := ⟨_, Lib.hid rfl⟩
  rw [htb.out] at t3
  have y0 : W3.cell? ⟨tb, 0, none⟩ = some (.string nm) := t3.cell 0
  have y1 : W3.cell? ⟨tb, 1, none⟩ = some (.int .i64 (p0 : Int)) := t3.cell 1
  have y2 : W3.cell? ⟨tb, 2, none⟩ = some (.int .i64 0) := t3.cell 2
  replace t3 := Lib.hid t3
  clear c3 hb2 b1 r1 hut
  go_upto_region 2 with fail
  rw [← show W3 = _ from hW3.out, htb.out]
  clear hW3 htb
  obtain ⟨U0, hU⟩ : ∃ W, Hid (W = W3.alloc (.cells #[.int .i64 0, .int .i64 0, .int .i64 0, .int .i64 0] 136)) := ⟨_, Lib.hid rfl⟩
  have c4 : Below W3.heap.size W3 U0 := by rw [hU.out]; exact grewAlloc (Below.refl _ _) _
  have bl0 := Lib.hid (grew b3.out c4)
  have rb0 := Lib.hid (r3.out.below c4 r3.out.lt)
  have tb0 := Lib.hid (t3.out.below c4 t3.out.lt)
  have ab0 : Whole U0 W3.heap.size 136 [.int .i64 0, .int .i64 0, .int .i64 0, .int .i64 0] := by rw [hU.out]; exact Whole.new W3 _ _
  obtain ⟨ab, hab⟩ : ∃ q, Hid (W3.heap.size = q) := ⟨_, Lib.hid rfl⟩
  rw [hab.out] at ab0
  have na : Hid (w.heap.size ≤ ab ∧ rb ≠ ab ∧ tb ≠ ab) := Lib.hid ⟨by rw [← hab.out]; exact b3.out.size, by have := r3.out.lt; have := hab.out; omega, by have := t3.out.lt; have := hab.out; omega⟩
  replace ab0 := Lib.hid ab0
  clear c4 b3 r3 t3
  go_upto_region 6 with fail
  rw [← show U0 = _ from hU.out, hab.out]
  clear hU hab y0 y1 y2
  go_wp2_with fail
  refine wp_loop_rounds 5 ?_
  rw [rounds_succ]
  go_wp2_with fail
  refine (C1.out _).mono ?_
  rintro _ _ ⟨rfl, rfl⟩
  obtain ⟨X1, hX1⟩ : ∃ W, Hid (W = (U0.alloc (.cells #[.int .u64 v1, .int .i64 (n1 : Int), .int .i64 0] 119)).alloc (.cells #[.int .u64 v1, .int .i64 (n1 : Int), .int .i64 0] 119)) := ⟨_, Lib.hid rfl⟩
  have cx : Below U0.heap.size U0 X1 := by rw [hX1.out]; exact grewAlloc (grewAlloc (Below.refl _ _) _) _
  have gx : Whole X1 (U0.heap.size + 1) 119 [.int .u64 v1, .int .i64 (n1 : Int), .int .i64 0] := by
    rw [hX1.out]
    have := Whole.new (U0.alloc (.cells #[.int .u64 v1, .int .i64 (n1 : Int), .int .i64 0] 119)) 119 [.int .u64 v1, .int .i64 (n1 : Int), .int .i64 0]
    rwa [show (U0.alloc (.cells #[.int .u64 v1, .int .i64 (n1 : Int), .int .i64 0] 119)).heap.size = U0.heap.size + 1 from by simp] at this
  obtain ⟨gb1, hgb1⟩ : ∃ q, Hid (U0.heap.size + 1 = q) := ⟨_, Lib.hid rfl⟩
  rw [hgb1.out] at gx
  have hgn1 : gb1 ≠ ab := by have := ab0.out.lt; have := hgb1.out; omega
  have hgm1 : ab ≠ gb1 := fun e => hgn1 e.symm
  have g0 : X1.cell? ⟨gb1, 0, none⟩ = some (.int .u64 v1) := gx.cell 0
  have g1 : X1.cell? ⟨gb1, 1, none⟩ = some (.int .i64 (n1 : Int)) := gx.cell 1
  have g2 : X1.cell? ⟨gb1, 2, none⟩ = some (.int .i64 0) := gx.cell 2
  have blx := Lib.hid (grew bl0.out cx)
  have rbx := Lib.hid (rb0.out.below cx rb0.out.lt)
  have tbx := Lib.hid (tb0.out.below cx tb0.out.lt)
  have abx := ab0.out.below cx ab0.out.lt
  have a0 : X1.cell? ⟨ab, 0, none⟩ = some (.int .i64 0) := abx.cell 0
  have f0 : X1.frozen? ⟨ab, 0, none⟩ = false := abx.frozen 0
  replace abx := Lib.hid abx
  clear cx gx bl0 rb0 tb0 ab0 C1
  go_upto_region 10 with fail
  rw [← show X1 = _ from hX1.out]
  rw [hgb1.out]
  clear hX1 hgb1
  have bl1 := Lib.hid (below_store blx.out na.out.1 (Nat.le_refl _) 0 [(.int .i64 v1)])
  have rb1 := Lib.hid (rbx.out.far na.out.2.1 0 [(.int .i64 v1)])
  have tb1 := Lib.hid (tbx.out.far na.out.2.2 0 [(.int .i64 v1)])
  have ab1 : Hid (Whole (X1.setCell ⟨ab, 0, none⟩ (.int .i64 v1)) ab 136 [.int .i64 v1, .int .i64 0, .int .i64 0, .int .i64 0]) := Lib.hid (abx.out.store 0 [(.int .i64 v1)] (by simp))
  simp only [World.setCells] at bl1 rb1 tb1
  go_wp2_with fail
  generalize X1.setCell ⟨ab, 0, none⟩ (.int .i64 v1) = U1 at *
  clear a0 f0 g0 g1 g2 blx rbx tbx abx
  rw [rounds_succ]
  go_wp2_with fail
  refine (C2.out _).mono ?_
  rintro _ _ ⟨rfl, rfl⟩
  obtain ⟨X2, hX2⟩ : ∃ W, Hid (W = (U1.alloc (.cells #[.int .u64 0, .int .i64 0, .int .i64 er] 119)).alloc (.cells #[.int .u64 0, .int .i64 0, .int .i64 er] 119)) := ⟨_, Lib.hid rfl⟩
  have cx : Below U1.heap.size U1 X2 := by rw [hX2.out]; exact grewAlloc (grewAlloc (Below.refl _ _) _) _
  have gx : Whole X2 (U1.heap.size + 1) 119 [.int .u64 0, .int .i64 0, .int .i64 er] := by
    rw [hX2.out]
    have := Whole.new (U1.alloc (.cells #[.int .u64 0, .int .i64 0, .int .i64 er] 119)) 119 [.int .u64 0, .int .i64 0, .int .i64 er]
    rwa [show (U1.alloc (.cells #[.int .u64 0, .int .i64 0, .int .i64 er] 119)).heap.size = U1.heap.size + 1 from by simp] at this
  obtain ⟨gb2, hgb2⟩ : ∃ q, Hid (U1.heap.size + 1 = q) := ⟨_, Lib.hid rfl⟩
  rw [hgb2.out] at gx
  have hgn2 : gb2 ≠ ab := by have := ab1.out.lt; have := hgb2.out; omega
  have hgm2 : ab ≠ gb2 := fun e => hgn2 e.symm
  have g0 : X2.cell? ⟨gb2, 0, none⟩ = some (.int .u64 0) := gx.cell 0
  have g1 : X2.cell? ⟨gb2, 1, none⟩ = some (.int .i64 0) := gx.cell 1
  have g2 : X2.cell? ⟨gb2, 2, none⟩ = some (.int .i64 er) := gx.cell 2
  have blx := Lib.hid (grew bl1.out cx)
  have rbx := Lib.hid (rb1.out.below cx rb1.out.lt)
  have tbx := Lib.hid (tb1.out.below cx tb1.out.lt)
  have abx := ab1.out.below cx ab1.out.lt
  have a0 : X2.cell? ⟨ab, 1, none⟩ = some (.int .i64 0) := abx.cell 1
  have f0 : X2.frozen? ⟨ab, 1, none⟩ = false := abx.frozen 1
  replace abx := Lib.hid abx
  clear cx gx bl1 rb1 tb1 ab1 C2
  go_upto_region 10 with fail
  rw [← show X2 = _ from hX2.out]
  rw [hgb2.out]
  clear hX2 hgb2
  go_wp2_with (with_reducible refine zStore 114 _ _ rfl ?_)
  refine Lib.hid ?_
  refine wpList_store_mid rfl 114 _ _ rfl rb 0 #[.string ⟨#[]⟩, .int .i64 0, .int .i64 0, .int .i64 0, .bool false, .int .i64 0, .bool false] rfl rfl (rbx.out.there 0 7 (by simp)) sizeGot22 (by simp [Value.oneCell']) ?_
  go_wp2_with fail
  have hfin := whole_all rbx.out (vs := [.string ⟨#[]⟩, .int .i64 0, .int .i64 0, .int .i64 0, .bool false, .int .i64 0, .bool false]) rfl
  exact bodyPost_ret (result_cell Tryz.results61 rfl hfin.range Tryz.underlying114 rfl sizeGot22) rfl ⟨rfl, below_store blx.out hrb.out (Nat.le_refl _) 0 _⟩
set_option maxRecDepth 100000 in
set_option maxHeartbeats 4000000 in
theorem rdec22_no3 (s : ByteArray) (w : World) (hs : s.size ≤ 100000) (nm : ByteArray) (p0 : Nat) (v1 : Int) (p1 : Nat) (v2 : Int) (p2 : Nat) (h0 : txAt s 0 = some (nm, p0)) (h1 : chAt s.data.toList p0 = some (v1, p1)) (k1 : v1 ≤ 1099511627776) (h2 : chAt s.data.toList p1 = some (v2, p2)) (k2 : v2 ≤ 1099511627776) (h3 : chAt s.data.toList p2 = none) :
    Calls Tryz.prog 61 #[.string s] w fun e w' => e = .returned (.agg #[.string ⟨#[]⟩, .int .i64 0, .int .i64 0, .int .i64 0, .bool false, .int .i64 0, .bool false]) ∧ Below w.heap.size w w' := by
  have hsl : s.data.toList.length = s.size := by simp
  obtain ⟨W1, hW1⟩ : ∃ W, Hid (W = w.alloc (.cells #[.string ⟨#[]⟩, .int .i64 0, .int .i64 0, .int .i64 0, .bool false, .int .i64 0, .bool false] 114)) := ⟨_, Lib.hid rfl⟩
  have b1 : Below w.heap.size w W1 := by rw [hW1.out]; exact grewAlloc (Below.refl _ _) _
  have r1 : Whole W1 w.heap.size 114 [.string ⟨#[]⟩, .int .i64 0, .int .i64 0, .int .i64 0, .bool false, .int .i64 0, .bool false] := by rw [hW1.out]; exact Whole.new w _ _
  obtain ⟨rb, hrb0⟩ : ∃ q, Hid (w.heap.size = q) := ⟨_, Lib.hid rfl⟩
  rw [hrb0.out] at r1
  have hrb : Hid (w.heap.size ≤ rb) := Lib.hid (by rw [hrb0.out]; exact Nat.le_refl _)
  have hut := fun W => runtext_any s W (by omega)
  obtain ⟨hU0, hp0⟩ := txAt_yes h0
  rw [ext_all] at hU0
  rw [hU0] at hut
  have z1 := slice_from22 s p0 (by omega)
  have C1 := fun W => runchain_any (s.extract p0 s.size) W (by have := ext_le s p0 hs; omega)
  rw [ext_drop] at C1
  obtain ⟨n1, hU1, hq1, hp1, vl1, vh1⟩ := chAt_yes h1 (by omega)
  rw [hU1] at C1
  have hw1 : IntKind.i64.wrap ((p0 : Int) + (n1 : Int)) = (p1 : Int) := by rw [IntWalk.i64_in _ (by omega)]; omega
  have hv1 : IntKind.i64.wrap v1 = v1 := IntWalk.i64_in _ (by omega)
  have hv1b : wrap64 v1 = v1 := wrap64_low vl1 (by omega)
  clear hU1 h1
  replace C1 := Lib.hid C1
  have z2 := slice_from22 s p1 (by omega)
  have C2 := fun W => runchain_any (s.extract p1 s.size) W (by have := ext_le s p1 hs; omega)
  rw [ext_drop] at C2
  obtain ⟨n2, hU2, hq2, hp2, vl2, vh2⟩ := chAt_yes h2 (by omega)
  rw [hU2] at C2
  have hw2 : IntKind.i64.wrap ((p1 : Int) + (n2 : Int)) = (p2 : Int) := by rw [IntWalk.i64_in _ (by omega)]; omega
  have hv2 : IntKind.i64.wrap v2 = v2 := IntWalk.i64_in _ (by omega)
  have hv2b : wrap64 v2 = v2 := wrap64_low vl2 (by omega)
  clear hU2 h2
  replace C2 := Lib.hid C2
  have z3 := slice_from22 s p2 (by omega)
  have C3 := fun W => runchain_any (s.extract p2 s.size) W (by have := ext_le s p2 hs; omega)
  rw [ext_drop] at C3
  obtain ⟨er, hU3, her⟩ := chAt_no h3
  rw [hU3] at C3
  have her2 : (er != 0) = true := by simpa using her
  clear hU3 h3
  replace C3 := Lib.hid C3
  replace hut := Lib.hid hut
  replace r1 := Lib.hid r1
  replace b1 := Lib.hid b1
  clear hU0 h0 hp0
  clear hq1 hp1 vl1 vh1
  clear hq2 hp2 vl2 vh2
  go_enter Tryz.func61, Tryz.ntmps61
  go_upto_region 1 with fail
  rw [← show W1 = _ from hW1.out, hrb0.out]
  clear hW1
  go_wp2_with fail
  refine (hut.out _).mono ?_
  rintro _ w2 ⟨rfl, hb2⟩
  obtain ⟨W3, hW3⟩ : ∃ W, Hid (W = w2.alloc (.cells #[.string nm, .int .i64 (p0 : Int), .int .i64 0] 86)) := ⟨_, Lib.hid rfl⟩
  have c3 : Below w2.heap.size w2 W3 := by rw [hW3.out]; exact grewAlloc (Below.refl _ _) _
  have b3 := Lib.hid (grew (grew b1.out hb2) c3)
  have r3 := Lib.hid ((r1.out.below hb2 r1.out.lt).below c3 (r1.out.below hb2 r1.out.lt).lt)
  have t3 : Whole W3 w2.heap.size 86 [.string nm, .int .i64 (p0 : Int), .int .i64 0] := by rw [hW3.out]; exact Whole.new w2 _ _
  obtain ⟨tb, htb⟩ : ∃ q, Hid (w2.heap.size = q) := ⟨_, Lib.hid rfl⟩
  rw [htb.out] at t3
  have y0 : W3.cell? ⟨tb, 0, none⟩ = some (.string nm) := t3.cell 0
  have y1 : W3.cell? ⟨tb, 1, none⟩ = some (.int .i64 (p0 : Int)) := t3.cell 1
  have y2 : W3.cell? ⟨tb, 2, none⟩ = some (.int .i64 0) := t3.cell 2
  replace t3 := Lib.hid t3
  clear c3 hb2 b1 r1 hut
  go_upto_region 2 with fail
  rw [← show W3 = _ from hW3.out, htb.out]
  clear hW3 htb
  obtain ⟨U0, hU⟩ : ∃ W, Hid (W = W3.alloc (.cells #[.int .i64 0, .int .i64 0, .int .i64 0, .int .i64 0] 136)) := ⟨_, Lib.hid rfl⟩
  have c4 : Below W3.heap.size W3 U0 := by rw [hU.out]; exact grewAlloc (Below.refl _ _) _
  have bl0 := Lib.hid (grew b3.out c4)
  have rb0 := Lib.hid (r3.out.below c4 r3.out.lt)
  have tb0 := Lib.hid (t3.out.below c4 t3.out.lt)
  have ab0 : Whole U0 W3.heap.size 136 [.int .i64 0, .int .i64 0, .int .i64 0, .int .i64 0] := by rw [hU.out]; exact Whole.new W3 _ _
  obtain ⟨ab, hab⟩ : ∃ q, Hid (W3.heap.size = q) := ⟨_, Lib.hid rfl⟩
  rw [hab.out] at ab0
  have na : Hid (w.heap.size ≤ ab ∧ rb ≠ ab ∧ tb ≠ ab) := Lib.hid ⟨by rw [← hab.out]; exact b3.out.size, by have := r3.out.lt; have := hab.out; omega, by have := t3.out.lt; have := hab.out; omega⟩
  replace ab0 := Lib.hid ab0
  clear c4 b3 r3 t3
  go_upto_region 6 with fail
  rw [← show U0 = _ from hU.out, hab.out]
  clear hU hab y0 y1 y2
  go_wp2_with fail
  refine wp_loop_rounds 5 ?_
  rw [rounds_succ]
  go_wp2_with fail
  refine (C1.out _).mono ?_
  rintro _ _ ⟨rfl, rfl⟩
  obtain ⟨X1, hX1⟩ : ∃ W, Hid (W = (U0.alloc (.cells #[.int .u64 v1, .int .i64 (n1 : Int), .int .i64 0] 119)).alloc (.cells #[.int .u64 v1, .int .i64 (n1 : Int), .int .i64 0] 119)) := ⟨_, Lib.hid rfl⟩
  have cx : Below U0.heap.size U0 X1 := by rw [hX1.out]; exact grewAlloc (grewAlloc (Below.refl _ _) _) _
  have gx : Whole X1 (U0.heap.size + 1) 119 [.int .u64 v1, .int .i64 (n1 : Int), .int .i64 0] := by
    rw [hX1.out]
    have := Whole.new (U0.alloc (.cells #[.int .u64 v1, .int .i64 (n1 : Int), .int .i64 0] 119)) 119 [.int .u64 v1, .int .i64 (n1 : Int), .int .i64 0]
    rwa [show (U0.alloc (.cells #[.int .u64 v1, .int .i64 (n1 : Int), .int .i64 0] 119)).heap.size = U0.heap.size + 1 from by simp] at this
  obtain ⟨gb1, hgb1⟩ : ∃ q, Hid (U0.heap.size + 1 = q) := ⟨_, Lib.hid rfl⟩
  rw [hgb1.out] at gx
  have hgn1 : gb1 ≠ ab := by have := ab0.out.lt; have := hgb1.out; omega
  have hgm1 : ab ≠ gb1 := fun e => hgn1 e.symm
  have g0 : X1.cell? ⟨gb1, 0, none⟩ = some (.int .u64 v1) := gx.cell 0
  have g1 : X1.cell? ⟨gb1, 1, none⟩ = some (.int .i64 (n1 : Int)) := gx.cell 1
  have g2 : X1.cell? ⟨gb1, 2, none⟩ = some (.int .i64 0) := gx.cell 2
  have blx := Lib.hid (grew bl0.out cx)
  have rbx := Lib.hid (rb0.out.below cx rb0.out.lt)
  have tbx := Lib.hid (tb0.out.below cx tb0.out.lt)
  have abx := ab0.out.below cx ab0.out.lt
  have a0 : X1.cell? ⟨ab, 0, none⟩ = some (.int .i64 0) := abx.cell 0
  have f0 : X1.frozen? ⟨ab, 0, none⟩ = false := abx.frozen 0
  replace abx := Lib.hid abx
  clear cx gx bl0 rb0 tb0 ab0 C1
  go_upto_region 10 with fail
  rw [← show X1 = _ from hX1.out]
  rw [hgb1.out]
  clear hX1 hgb1
  have bl1 := Lib.hid (below_store blx.out na.out.1 (Nat.le_refl _) 0 [(.int .i64 v1)])
  have rb1 := Lib.hid (rbx.out.far na.out.2.1 0 [(.int .i64 v1)])
  have tb1 := Lib.hid (tbx.out.far na.out.2.2 0 [(.int .i64 v1)])
  have ab1 : Hid (Whole (X1.setCell ⟨ab, 0, none⟩ (.int .i64 v1)) ab 136 [.int .i64 v1, .int .i64 0, .int .i64 0, .int .i64 0]) := Lib.hid (abx.out.store 0 [(.int .i64 v1)] (by simp))
  simp only [World.setCells] at bl1 rb1 tb1
  go_wp2_with fail
  generalize X1.setCell ⟨ab, 0, none⟩ (.int .i64 v1) = U1 at *
  clear a0 f0 g0 g1 g2 blx rbx tbx abx
  rw [rounds_succ]
  go_wp2_with fail
  refine (C2.out _).mono ?_
  rintro _ _ ⟨rfl, rfl⟩
  obtain ⟨X2, hX2⟩ : ∃ W, Hid (W = (U1.alloc (.cells #[.int .u64 v2, .int .i64 (n2 : Int), .int .i64 0] 119)).alloc (.cells #[.int .u64 v2, .int .i64 (n2 : Int), .int .i64 0] 119)) := ⟨_, Lib.hid rfl⟩
  have cx : Below U1.heap.size U1 X2 := by rw [hX2.out]; exact grewAlloc (grewAlloc (Below.refl _ _) _) _
  have gx : Whole X2 (U1.heap.size + 1) 119 [.int .u64 v2, .int .i64 (n2 : Int), .int .i64 0] := by
    rw [hX2.out]
    have := Whole.new (U1.alloc (.cells #[.int .u64 v2, .int .i64 (n2 : Int), .int .i64 0] 119)) 119 [.int .u64 v2, .int .i64 (n2 : Int), .int .i64 0]
    rwa [show (U1.alloc (.cells #[.int .u64 v2, .int .i64 (n2 : Int), .int .i64 0] 119)).heap.size = U1.heap.size + 1 from by simp] at this
  obtain ⟨gb2, hgb2⟩ : ∃ q, Hid (U1.heap.size + 1 = q) := ⟨_, Lib.hid rfl⟩
  rw [hgb2.out] at gx
  have hgn2 : gb2 ≠ ab := by have := ab1.out.lt; have := hgb2.out; omega
  have hgm2 : ab ≠ gb2 := fun e => hgn2 e.symm
  have g0 : X2.cell? ⟨gb2, 0, none⟩ = some (.int .u64 v2) := gx.cell 0
  have g1 : X2.cell? ⟨gb2, 1, none⟩ = some (.int .i64 (n2 : Int)) := gx.cell 1
  have g2 : X2.cell? ⟨gb2, 2, none⟩ = some (.int .i64 0) := gx.cell 2
  have blx := Lib.hid (grew bl1.out cx)
  have rbx := Lib.hid (rb1.out.below cx rb1.out.lt)
  have tbx := Lib.hid (tb1.out.below cx tb1.out.lt)
  have abx := ab1.out.below cx ab1.out.lt
  have a0 : X2.cell? ⟨ab, 1, none⟩ = some (.int .i64 0) := abx.cell 1
  have f0 : X2.frozen? ⟨ab, 1, none⟩ = false := abx.frozen 1
  replace abx := Lib.hid abx
  clear cx gx bl1 rb1 tb1 ab1 C2
  go_upto_region 10 with fail
  rw [← show X2 = _ from hX2.out]
  rw [hgb2.out]
  clear hX2 hgb2
  have bl2 := Lib.hid (below_store blx.out na.out.1 (Nat.le_refl _) 1 [(.int .i64 v2)])
  have rb2 := Lib.hid (rbx.out.far na.out.2.1 1 [(.int .i64 v2)])
  have tb2 := Lib.hid (tbx.out.far na.out.2.2 1 [(.int .i64 v2)])
  have ab2 : Hid (Whole (X2.setCell ⟨ab, 1, none⟩ (.int .i64 v2)) ab 136 [.int .i64 v1, .int .i64 v2, .int .i64 0, .int .i64 0]) := Lib.hid (abx.out.store 1 [(.int .i64 v2)] (by simp))
  simp only [World.setCells] at bl2 rb2 tb2
  go_wp2_with fail
  generalize X2.setCell ⟨ab, 1, none⟩ (.int .i64 v2) = U2 at *
  clear a0 f0 g0 g1 g2 blx rbx tbx abx
  rw [rounds_succ]
  go_wp2_with fail
  refine (C3.out _).mono ?_
  rintro _ _ ⟨rfl, rfl⟩
  obtain ⟨X3, hX3⟩ : ∃ W, Hid (W = (U2.alloc (.cells #[.int .u64 0, .int .i64 0, .int .i64 er] 119)).alloc (.cells #[.int .u64 0, .int .i64 0, .int .i64 er] 119)) := ⟨_, Lib.hid rfl⟩
  have cx : Below U2.heap.size U2 X3 := by rw [hX3.out]; exact grewAlloc (grewAlloc (Below.refl _ _) _) _
  have gx : Whole X3 (U2.heap.size + 1) 119 [.int .u64 0, .int .i64 0, .int .i64 er] := by
    rw [hX3.out]
    have := Whole.new (U2.alloc (.cells #[.int .u64 0, .int .i64 0, .int .i64 er] 119)) 119 [.int .u64 0, .int .i64 0, .int .i64 er]
    rwa [show (U2.alloc (.cells #[.int .u64 0, .int .i64 0, .int .i64 er] 119)).heap.size = U2.heap.size + 1 from by simp] at this
  obtain ⟨gb3, hgb3⟩ : ∃ q, Hid (U2.heap.size + 1 = q) := ⟨_, Lib.hid rfl⟩
  rw [hgb3.out] at gx
  have hgn3 : gb3 ≠ ab := by have := ab2.out.lt; have := hgb3.out; omega
  have hgm3 : ab ≠ gb3 := fun e => hgn3 e.symm
  have g0 : X3.cell? ⟨gb3, 0, none⟩ = some (.int .u64 0) := gx.cell 0
  have g1 : X3.cell? ⟨gb3, 1, none⟩ = some (.int .i64 0) := gx.cell 1
  have g2 : X3.cell? ⟨gb3, 2, none⟩ = some (.int .i64 er) := gx.cell 2
  have blx := Lib.hid (grew bl2.out cx)
  have rbx := Lib.hid (rb2.out.below cx rb2.out.lt)
  have tbx := Lib.hid (tb2.out.below cx tb2.out.lt)
  have abx := ab2.out.below cx ab2.out.lt
  have a0 : X3.cell? ⟨ab, 2, none⟩ = some (.int .i64 0) := abx.cell 2
  have f0 : X3.frozen? ⟨ab, 2, none⟩ = false := abx.frozen 2
  replace abx := Lib.hid abx
  clear cx gx bl2 rb2 tb2 ab2 C3
  go_upto_region 10 with fail
  rw [← show X3 = _ from hX3.out]
  rw [hgb3.out]
  clear hX3 hgb3
  go_wp2_with (with_reducible refine zStore 114 _ _ rfl ?_)
  refine Lib.hid ?_
  refine wpList_store_mid rfl 114 _ _ rfl rb 0 #[.string ⟨#[]⟩, .int .i64 0, .int .i64 0, .int .i64 0, .bool false, .int .i64 0, .bool false] rfl rfl (rbx.out.there 0 7 (by simp)) sizeGot22 (by simp [Value.oneCell']) ?_
  go_wp2_with fail
  have hfin := whole_all rbx.out (vs := [.string ⟨#[]⟩, .int .i64 0, .int .i64 0, .int .i64 0, .bool false, .int .i64 0, .bool false]) rfl
  exact bodyPost_ret (result_cell Tryz.results61 rfl hfin.range Tryz.underlying114 rfl sizeGot22) rfl ⟨rfl, below_store blx.out hrb.out (Nat.le_refl _) 0 _⟩
set_option maxRecDepth 100000 in
set_option maxHeartbeats 4000000 in
theorem rdec22_no4 (s : ByteArray) (w : World) (hs : s.size ≤ 100000) (nm : ByteArray) (p0 : Nat) (v1 : Int) (p1 : Nat) (v2 : Int) (p2 : Nat) (v3 : Int) (p3 : Nat) (h0 : txAt s 0 = some (nm, p0)) (h1 : chAt s.data.toList p0 = some (v1, p1)) (k1 : v1 ≤ 1099511627776) (h2 : chAt s.data.toList p1 = some (v2, p2)) (k2 : v2 ≤ 1099511627776) (h3 : chAt s.data.toList p2 = some (v3, p3)) (k3 : v3 ≤ 1099511627776) (h4 : chAt s.data.toList p3 = none) :
    Calls Tryz.prog 61 #[.string s] w fun e w' => e = .returned (.agg #[.string ⟨#[]⟩, .int .i64 0, .int .i64 0, .int .i64 0, .bool false, .int .i64 0, .bool false]) ∧ Below w.heap.size w w' := by
  have hsl : s.data.toList.length = s.size := by simp
  obtain ⟨W1, hW1⟩ : ∃ W, Hid (W = w.alloc (.cells #[.string ⟨#[]⟩, .int .i64 0, .int .i64 0, .int .i64 0, .bool false, .int .i64 0, .bool false] 114)) := ⟨_, Lib.hid rfl⟩
  have b1 : Below w.heap.size w W1 := by rw [hW1.out]; exact grewAlloc (Below.refl _ _) _
  have r1 : Whole W1 w.heap.size 114 [.string ⟨#[]⟩, .int .i64 0, .int .i64 0, .int .i64 0, .bool false, .int .i64 0, .bool false] := by rw [hW1.out]; exact Whole.new w _ _
  obtain ⟨rb, hrb0⟩ : ∃ q, Hid (w.heap.size = q) := ⟨_, Lib.hid rfl⟩
  rw [hrb0.out] at r1
  have hrb : Hid (w.heap.size ≤ rb) := Lib.hid (by rw [hrb0.out]; exact Nat.le_refl _)
  have hut := fun W => runtext_any s W (by omega)
  obtain ⟨hU0, hp0⟩ := txAt_yes h0
  rw [ext_all] at hU0
  rw [hU0] at hut
  have z1 := slice_from22 s p0 (by omega)
  have C1 := fun W => runchain_any (s.extract p0 s.size) W (by have := ext_le s p0 hs; omega)
  rw [ext_drop] at C1
  obtain ⟨n1, hU1, hq1, hp1, vl1, vh1⟩ := chAt_yes h1 (by omega)
  rw [hU1] at C1
  have hw1 : IntKind.i64.wrap ((p0 : Int) + (n1 : Int)) = (p1 : Int) := by rw [IntWalk.i64_in _ (by omega)]; omega
  have hv1 : IntKind.i64.wrap v1 = v1 := IntWalk.i64_in _ (by omega)
  have hv1b : wrap64 v1 = v1 := wrap64_low vl1 (by omega)
  clear hU1 h1
  replace C1 := Lib.hid C1
  have z2 := slice_from22 s p1 (by omega)
  have C2 := fun W => runchain_any (s.extract p1 s.size) W (by have := ext_le s p1 hs; omega)
  rw [ext_drop] at C2
  obtain ⟨n2, hU2, hq2, hp2, vl2, vh2⟩ := chAt_yes h2 (by omega)
  rw [hU2] at C2
  have hw2 : IntKind.i64.wrap ((p1 : Int) + (n2 : Int)) = (p2 : Int) := by rw [IntWalk.i64_in _ (by omega)]; omega
  have hv2 : IntKind.i64.wrap v2 = v2 := IntWalk.i64_in _ (by omega)
  have hv2b : wrap64 v2 = v2 := wrap64_low vl2 (by omega)
  clear hU2 h2
  replace C2 := Lib.hid C2
  have z3 := slice_from22 s p2 (by omega)
  have C3 := fun W => runchain_any (s.extract p2 s.size) W (by have := ext_le s p2 hs; omega)
  rw [ext_drop] at C3
  obtain ⟨n3, hU3, hq3, hp3, vl3, vh3⟩ := chAt_yes h3 (by omega)
  rw [hU3] at C3
  have hw3 : IntKind.i64.wrap ((p2 : Int) + (n3 : Int)) = (p3 : Int) := by rw [IntWalk.i64_in _ (by omega)]; omega
  have hv3 : IntKind.i64.wrap v3 = v3 := IntWalk.i64_in _ (by omega)
  have hv3b : wrap64 v3 = v3 := wrap64_low vl3 (by omega)
  clear hU3 h3
  replace C3 := Lib.hid C3
  have z4 := slice_from22 s p3 (by omega)
  have C4 := fun W => runchain_any (s.extract p3 s.size) W (by have := ext_le s p3 hs; omega)
  rw [ext_drop] at C4
  obtain ⟨er, hU4, her⟩ := chAt_no h4
  rw [hU4] at C4
  have her2 : (er != 0) = true := by simpa using her
  clear hU4 h4
  replace C4 := Lib.hid C4
  replace hut := Lib.hid hut
  replace r1 := Lib.hid r1
  replace b1 := Lib.hid b1
  clear hU0 h0 hp0
  clear hq1 hp1 vl1 vh1
  clear hq2 hp2 vl2 vh2
  clear hq3 hp3 vl3 vh3
  go_enter Tryz.func61, Tryz.ntmps61
  go_upto_region 1 with fail
  rw [← show W1 = _ from hW1.out, hrb0.out]
  clear hW1
  go_wp2_with fail
  refine (hut.out _).mono ?_
  rintro _ w2 ⟨rfl, hb2⟩
  obtain ⟨W3, hW3⟩ : ∃ W, Hid (W = w2.alloc (.cells #[.string nm, .int .i64 (p0 : Int), .int .i64 0] 86)) := ⟨_, Lib.hid rfl⟩
  have c3 : Below w2.heap.size w2 W3 := by rw [hW3.out]; exact grewAlloc (Below.refl _ _) _
  have b3 := Lib.hid (grew (grew b1.out hb2) c3)
  have r3 := Lib.hid ((r1.out.below hb2 r1.out.lt).below c3 (r1.out.below hb2 r1.out.lt).lt)
  have t3 : Whole W3 w2.heap.size 86 [.string nm, .int .i64 (p0 : Int), .int .i64 0] := by rw [hW3.out]; exact Whole.new w2 _ _
  obtain ⟨tb, htb⟩ : ∃ q, Hid (w2.heap.size = q) := ⟨_, Lib.hid rfl⟩
  rw [htb.out] at t3
  have y0 : W3.cell? ⟨tb, 0, none⟩ = some (.string nm) := t3.cell 0
  have y1 : W3.cell? ⟨tb, 1, none⟩ = some (.int .i64 (p0 : Int)) := t3.cell 1
  have y2 : W3.cell? ⟨tb, 2, none⟩ = some (.int .i64 0) := t3.cell 2
  replace t3 := Lib.hid t3
  clear c3 hb2 b1 r1 hut
  go_upto_region 2 with fail
  rw [← show W3 = _ from hW3.out, htb.out]
  clear hW3 htb
  obtain ⟨U0, hU⟩ : ∃ W, Hid (W = W3.alloc (.cells #[.int .i64 0, .int .i64 0, .int .i64 0, .int .i64 0] 136)) := ⟨_, Lib.hid rfl⟩
  have c4 : Below W3.heap.size W3 U0 := by rw [hU.out]; exact grewAlloc (Below.refl _ _) _
  have bl0 := Lib.hid (grew b3.out c4)
  have rb0 := Lib.hid (r3.out.below c4 r3.out.lt)
  have tb0 := Lib.hid (t3.out.below c4 t3.out.lt)
  have ab0 : Whole U0 W3.heap.size 136 [.int .i64 0, .int .i64 0, .int .i64 0, .int .i64 0] := by rw [hU.out]; exact Whole.new W3 _ _
  obtain ⟨ab, hab⟩ : ∃ q, Hid (W3.heap.size = q) := ⟨_, Lib.hid rfl⟩
  rw [hab.out] at ab0
  have na : Hid (w.heap.size ≤ ab ∧ rb ≠ ab ∧ tb ≠ ab) := Lib.hid ⟨by rw [← hab.out]; exact b3.out.size, by have := r3.out.lt; have := hab.out; omega, by have := t3.out.lt; have := hab.out; omega⟩
  replace ab0 := Lib.hid ab0
  clear c4 b3 r3 t3
  go_upto_region 6 with fail
  rw [← show U0 = _ from hU.out, hab.out]
  clear hU hab y0 y1 y2
  go_wp2_with fail
  refine wp_loop_rounds 5 ?_
  rw [rounds_succ]
  go_wp2_with fail
  refine (C1.out _).mono ?_
  rintro _ _ ⟨rfl, rfl⟩
  obtain ⟨X1, hX1⟩ : ∃ W, Hid (W = (U0.alloc (.cells #[.int .u64 v1, .int .i64 (n1 : Int), .int .i64 0] 119)).alloc (.cells #[.int .u64 v1, .int .i64 (n1 : Int), .int .i64 0] 119)) := ⟨_, Lib.hid rfl⟩
  have cx : Below U0.heap.size U0 X1 := by rw [hX1.out]; exact grewAlloc (grewAlloc (Below.refl _ _) _) _
  have gx : Whole X1 (U0.heap.size + 1) 119 [.int .u64 v1, .int .i64 (n1 : Int), .int .i64 0] := by
    rw [hX1.out]
    have := Whole.new (U0.alloc (.cells #[.int .u64 v1, .int .i64 (n1 : Int), .int .i64 0] 119)) 119 [.int .u64 v1, .int .i64 (n1 : Int), .int .i64 0]
    rwa [show (U0.alloc (.cells #[.int .u64 v1, .int .i64 (n1 : Int), .int .i64 0] 119)).heap.size = U0.heap.size + 1 from by simp] at this
  obtain ⟨gb1, hgb1⟩ : ∃ q, Hid (U0.heap.size + 1 = q) := ⟨_, Lib.hid rfl⟩
  rw [hgb1.out] at gx
  have hgn1 : gb1 ≠ ab := by have := ab0.out.lt; have := hgb1.out; omega
  have hgm1 : ab ≠ gb1 := fun e => hgn1 e.symm
  have g0 : X1.cell? ⟨gb1, 0, none⟩ = some (.int .u64 v1) := gx.cell 0
  have g1 : X1.cell? ⟨gb1, 1, none⟩ = some (.int .i64 (n1 : Int)) := gx.cell 1
  have g2 : X1.cell? ⟨gb1, 2, none⟩ = some (.int .i64 0) := gx.cell 2
  have blx := Lib.hid (grew bl0.out cx)
  have rbx := Lib.hid (rb0.out.below cx rb0.out.lt)
  have tbx := Lib.hid (tb0.out.below cx tb0.out.lt)
  have abx := ab0.out.below cx ab0.out.lt
  have a0 : X1.cell? ⟨ab, 0, none⟩ = some (.int .i64 0) := abx.cell 0
  have f0 : X1.frozen? ⟨ab, 0, none⟩ = false := abx.frozen 0
  replace abx := Lib.hid abx
  clear cx gx bl0 rb0 tb0 ab0 C1
  go_upto_region 10 with fail
  rw [← show X1 = _ from hX1.out]
  rw [hgb1.out]
  clear hX1 hgb1
  have bl1 := Lib.hid (below_store blx.out na.out.1 (Nat.le_refl _) 0 [(.int .i64 v1)])
  have rb1 := Lib.hid (rbx.out.far na.out.2.1 0 [(.int .i64 v1)])
  have tb1 := Lib.hid (tbx.out.far na.out.2.2 0 [(.int .i64 v1)])
  have ab1 : Hid (Whole (X1.setCell ⟨ab, 0, none⟩ (.int .i64 v1)) ab 136 [.int .i64 v1, .int .i64 0, .int .i64 0, .int .i64 0]) := Lib.hid (abx.out.store 0 [(.int .i64 v1)] (by simp))
  simp only [World.setCells] at bl1 rb1 tb1
  go_wp2_with fail
  generalize X1.setCell ⟨ab, 0, none⟩ (.int .i64 v1) = U1 at *
  clear a0 f0 g0 g1 g2 blx rbx tbx abx
  rw [rounds_succ]
  go_wp2_with fail
  refine (C2.out _).mono ?_
  rintro _ _ ⟨rfl, rfl⟩
  obtain ⟨X2, hX2⟩ : ∃ W, Hid (W = (U1.alloc (.cells #[.int .u64 v2, .int .i64 (n2 : Int), .int .i64 0] 119)).alloc (.cells #[.int .u64 v2, .int .i64 (n2 : Int), .int .i64 0] 119)) := ⟨_, Lib.hid rfl⟩
  have cx : Below U1.heap.size U1 X2 := by rw [hX2.out]; exact grewAlloc (grewAlloc (Below.refl _ _) _) _
  have gx : Whole X2 (U1.heap.size + 1) 119 [.int .u64 v2, .int .i64 (n2 : Int), .int .i64 0] := by
    rw [hX2.out]
    have := Whole.new (U1.alloc (.cells #[.int .u64 v2, .int .i64 (n2 : Int), .int .i64 0] 119)) 119 [.int .u64 v2, .int .i64 (n2 : Int), .int .i64 0]
    rwa [show (U1.alloc (.cells #[.int .u64 v2, .int .i64 (n2 : Int), .int .i64 0] 119)).heap.size = U1.heap.size + 1 from by simp] at this
  obtain ⟨gb2, hgb2⟩ : ∃ q, Hid (U1.heap.size + 1 = q) := ⟨_, Lib.hid rfl⟩
  rw [hgb2.out] at gx
  have hgn2 : gb2 ≠ ab := by have := ab1.out.lt; have := hgb2.out; omega
  have hgm2 : ab ≠ gb2 := fun e => hgn2 e.symm
  have g0 : X2.cell? ⟨gb2, 0, none⟩ = some (.int .u64 v2) := gx.cell 0
  have g1 : X2.cell? ⟨gb2, 1, none⟩ = some (.int .i64 (n2 : Int)) := gx.cell 1
  have g2 : X2.cell? ⟨gb2, 2, none⟩ = some (.int .i64 0) := gx.cell 2
  have blx := Lib.hid (grew bl1.out cx)
  have rbx := Lib.hid (rb1.out.below cx rb1.out.lt)
  have tbx := Lib.hid (tb1.out.below cx tb1.out.lt)
  have abx := ab1.out.below cx ab1.out.lt
  have a0 : X2.cell? ⟨ab, 1, none⟩ = some (.int .i64 0) := abx.cell 1
  have f0 : X2.frozen? ⟨ab, 1, none⟩ = false := abx.frozen 1
  replace abx := Lib.hid abx
  clear cx gx bl1 rb1 tb1 ab1 C2
  go_upto_region 10 with fail
  rw [← show X2 = _ from hX2.out]
  rw [hgb2.out]
  clear hX2 hgb2
  have bl2 := Lib.hid (below_store blx.out na.out.1 (Nat.le_refl _) 1 [(.int .i64 v2)])
  have rb2 := Lib.hid (rbx.out.far na.out.2.1 1 [(.int .i64 v2)])
  have tb2 := Lib.hid (tbx.out.far na.out.2.2 1 [(.int .i64 v2)])
  have ab2 : Hid (Whole (X2.setCell ⟨ab, 1, none⟩ (.int .i64 v2)) ab 136 [.int .i64 v1, .int .i64 v2, .int .i64 0, .int .i64 0]) := Lib.hid (abx.out.store 1 [(.int .i64 v2)] (by simp))
  simp only [World.setCells] at bl2 rb2 tb2
  go_wp2_with fail
  generalize X2.setCell ⟨ab, 1, none⟩ (.int .i64 v2) = U2 at *
  clear a0 f0 g0 g1 g2 blx rbx tbx abx
  rw [rounds_succ]
  go_wp2_with fail
  refine (C3.out _).mono ?_
  rintro _ _ ⟨rfl, rfl⟩
  obtain ⟨X3, hX3⟩ : ∃ W, Hid (W = (U2.alloc (.cells #[.int .u64 v3, .int .i64 (n3 : Int), .int .i64 0] 119)).alloc (.cells #[.int .u64 v3, .int .i64 (n3 : Int), .int .i64 0] 119)) := ⟨_, Lib.hid rfl⟩
  have cx : Below U2.heap.size U2 X3 := by rw [hX3.out]; exact grewAlloc (grewAlloc (Below.refl _ _) _) _
  have gx : Whole X3 (U2.heap.size + 1) 119 [.int .u64 v3, .int .i64 (n3 : Int), .int .i64 0] := by
    rw [hX3.out]
    have := Whole.new (U2.alloc (.cells #[.int .u64 v3, .int .i64 (n3 : Int), .int .i64 0] 119)) 119 [.int .u64 v3, .int .i64 (n3 : Int), .int .i64 0]
    rwa [show (U2.alloc (.cells #[.int .u64 v3, .int .i64 (n3 : Int), .int .i64 0] 119)).heap.size = U2.heap.size + 1 from by simp] at this
  obtain ⟨gb3, hgb3⟩ : ∃ q, Hid (U2.heap.size + 1 = q) := ⟨_, Lib.hid rfl⟩
  rw [hgb3.out] at gx
  have hgn3 : gb3 ≠ ab := by have := ab2.out.lt; have := hgb3.out; omega
  have hgm3 : ab ≠ gb3 := fun e => hgn3 e.symm
  have g0 : X3.cell? ⟨gb3, 0, none⟩ = some (.int .u64 v3) := gx.cell 0
  have g1 : X3.cell? ⟨gb3, 1, none⟩ = some (.int .i64 (n3 : Int)) := gx.cell 1
  have g2 : X3.cell? ⟨gb3, 2, none⟩ = some (.int .i64 0) := gx.cell 2
  have blx := Lib.hid (grew bl2.out cx)
  have rbx := Lib.hid (rb2.out.below cx rb2.out.lt)
  have tbx := Lib.hid (tb2.out.below cx tb2.out.lt)
  have abx := ab2.out.below cx ab2.out.lt
  have a0 : X3.cell? ⟨ab, 2, none⟩ = some (.int .i64 0) := abx.cell 2
  have f0 : X3.frozen? ⟨ab, 2, none⟩ = false := abx.frozen 2
  replace abx := Lib.hid abx
  clear cx gx bl2 rb2 tb2 ab2 C3
  go_upto_region 10 with fail
  rw [← show X3 = _ from hX3.out]
  rw [hgb3.out]
  clear hX3 hgb3
  have bl3 := Lib.hid (below_store blx.out na.out.1 (Nat.le_refl _) 2 [(.int .i64 v3)])
  have rb3 := Lib.hid (rbx.out.far na.out.2.1 2 [(.int .i64 v3)])
  have tb3 := Lib.hid (tbx.out.far na.out.2.2 2 [(.int .i64 v3)])
  have ab3 : Hid (Whole (X3.setCell ⟨ab, 2, none⟩ (.int .i64 v3)) ab 136 [.int .i64 v1, .int .i64 v2, .int .i64 v3, .int .i64 0]) := Lib.hid (abx.out.store 2 [(.int .i64 v3)] (by simp))
  simp only [World.setCells] at bl3 rb3 tb3
  go_wp2_with fail
  generalize X3.setCell ⟨ab, 2, none⟩ (.int .i64 v3) = U3 at *
  clear a0 f0 g0 g1 g2 blx rbx tbx abx
  rw [rounds_succ]
  go_wp2_with fail
  refine (C4.out _).mono ?_
  rintro _ _ ⟨rfl, rfl⟩
  obtain ⟨X4, hX4⟩ : ∃ W, Hid (W = (U3.alloc (.cells #[.int .u64 0, .int .i64 0, .int .i64 er] 119)).alloc (.cells #[.int .u64 0, .int .i64 0, .int .i64 er] 119)) := ⟨_, Lib.hid rfl⟩
  have cx : Below U3.heap.size U3 X4 := by rw [hX4.out]; exact grewAlloc (grewAlloc (Below.refl _ _) _) _
  have gx : Whole X4 (U3.heap.size + 1) 119 [.int .u64 0, .int .i64 0, .int .i64 er] := by
    rw [hX4.out]
    have := Whole.new (U3.alloc (.cells #[.int .u64 0, .int .i64 0, .int .i64 er] 119)) 119 [.int .u64 0, .int .i64 0, .int .i64 er]
    rwa [show (U3.alloc (.cells #[.int .u64 0, .int .i64 0, .int .i64 er] 119)).heap.size = U3.heap.size + 1 from by simp] at this
  obtain ⟨gb4, hgb4⟩ : ∃ q, Hid (U3.heap.size + 1 = q) := ⟨_, Lib.hid rfl⟩
  rw [hgb4.out] at gx
  have hgn4 : gb4 ≠ ab := by have := ab3.out.lt; have := hgb4.out; omega
  have hgm4 : ab ≠ gb4 := fun e => hgn4 e.symm
  have g0 : X4.cell? ⟨gb4, 0, none⟩ = some (.int .u64 0) := gx.cell 0
  have g1 : X4.cell? ⟨gb4, 1, none⟩ = some (.int .i64 0) := gx.cell 1
  have g2 : X4.cell? ⟨gb4, 2, none⟩ = some (.int .i64 er) := gx.cell 2
  have blx := Lib.hid (grew bl3.out cx)
  have rbx := Lib.hid (rb3.out.below cx rb3.out.lt)
  have tbx := Lib.hid (tb3.out.below cx tb3.out.lt)
  have abx := ab3.out.below cx ab3.out.lt
  have a0 : X4.cell? ⟨ab, 3, none⟩ = some (.int .i64 0) := abx.cell 3
  have f0 : X4.frozen? ⟨ab, 3, none⟩ = false := abx.frozen 3
  replace abx := Lib.hid abx
  clear cx gx bl3 rb3 tb3 ab3 C4
  go_upto_region 10 with fail
  rw [← show X4 = _ from hX4.out]
  rw [hgb4.out]
  clear hX4 hgb4
  go_wp2_with (with_reducible refine zStore 114 _ _ rfl ?_)
  refine Lib.hid ?_
  refine wpList_store_mid rfl 114 _ _ rfl rb 0 #[.string ⟨#[]⟩, .int .i64 0, .int .i64 0, .int .i64 0, .bool false, .int .i64 0, .bool false] rfl rfl (rbx.out.there 0 7 (by simp)) sizeGot22 (by simp [Value.oneCell']) ?_
  go_wp2_with fail
  have hfin := whole_all rbx.out (vs := [.string ⟨#[]⟩, .int .i64 0, .int .i64 0, .int .i64 0, .bool false, .int .i64 0, .bool false]) rfl
  exact bodyPost_ret (result_cell Tryz.results61 rfl hfin.range Tryz.underlying114 rfl sizeGot22) rfl ⟨rfl, below_store blx.out hrb.out (Nat.le_refl _) 0 _⟩
set_option maxRecDepth 100000 in
set_option maxHeartbeats 4000000 in
theorem rdec22_big1 (s : ByteArray) (w : World) (hs : s.size ≤ 100000) (nm : ByteArray) (p0 : Nat) (v1 : Int) (p1 : Nat) (h0 : txAt s 0 = some (nm, p0)) (h1 : chAt s.data.toList p0 = some (v1, p1)) (k1 : 1099511627776 < v1) :
    Calls Tryz.prog 61 #[.string s] w fun e w' => e = .returned (.agg #[.string ⟨#[]⟩, .int .i64 0, .int .i64 0, .int .i64 0, .bool false, .int .i64 0, .bool false]) ∧ Below w.heap.size w w' := by
  have hsl : s.data.toList.length = s.size := by simp
  obtain ⟨W1, hW1⟩ : ∃ W, Hid (W = w.alloc (.cells #[.string ⟨#[]⟩, .int .i64 0, .int .i64 0, .int .i64 0, .bool false, .int .i64 0, .bool false] 114)) := ⟨_, Lib.hid rfl⟩
  have b1 : Below w.heap.size w W1 := by rw [hW1.out]; exact grewAlloc (Below.refl _ _) _
  have r1 : Whole W1 w.heap.size 114 [.string ⟨#[]⟩, .int .i64 0, .int .i64 0, .int .i64 0, .bool false, .int .i64 0, .bool false] := by rw [hW1.out]; exact Whole.new w _ _
  obtain ⟨rb, hrb0⟩ : ∃ q, Hid (w.heap.size = q) := ⟨_, Lib.hid rfl⟩
  rw [hrb0.out] at r1
  have hrb : Hid (w.heap.size ≤ rb) := Lib.hid (by rw [hrb0.out]; exact Nat.le_refl _)
  have hut := fun W => runtext_any s W (by omega)
  obtain ⟨hU0, hp0⟩ := txAt_yes h0
  rw [ext_all] at hU0
  rw [hU0] at hut
  have z1 := slice_from22 s p0 (by omega)
  have C1 := fun W => runchain_any (s.extract p0 s.size) W (by have := ext_le s p0 hs; omega)
  rw [ext_drop] at C1
  obtain ⟨n1, hU1, hq1, hp1, vl1, vh1⟩ := chAt_yes h1 (by omega)
  rw [hU1] at C1
  clear hU1 h1
  replace C1 := Lib.hid C1
  replace hut := Lib.hid hut
  replace r1 := Lib.hid r1
  replace b1 := Lib.hid b1
  clear hU0 h0 hp0
  clear hq1 hp1 vl1 vh1
  go_enter Tryz.func61, Tryz.ntmps61
  go_upto_region 1 with fail
  rw [← show W1 = _ from hW1.out, hrb0.out]
  clear hW1
  go_wp2_with fail
  refine (hut.out _).mono ?_
  rintro _ w2 ⟨rfl, hb2⟩
  obtain ⟨W3, hW3⟩ : ∃ W, Hid (W = w2.alloc (.cells #[.string nm, .int .i64 (p0 : Int), .int .i64 0] 86)) := ⟨_, Lib.hid rfl⟩
  have c3 : Below w2.heap.size w2 W3 := by rw [hW3.out]; exact grewAlloc (Below.refl _ _) _
  have b3 := Lib.hid (grew (grew b1.out hb2) c3)
  have r3 := Lib.hid ((r1.out.below hb2 r1.out.lt).below c3 (r1.out.below hb2 r1.out.lt).lt)
  have t3 : Whole W3 w2.heap.size 86 [.string nm, .int .i64 (p0 : Int), .int .i64 0] := by rw [hW3.out]; exact Whole.new w2 _ _
  obtain ⟨tb, htb⟩ : ∃ q, Hid (w2.heap.size = q) := ⟨_, Lib.hid rfl⟩
  rw [htb.out] at t3
  have y0 : W3.cell? ⟨tb, 0, none⟩ = some (.string nm) := t3.cell 0
  have y1 : W3.cell? ⟨tb, 1, none⟩ = some (.int .i64 (p0 : Int)) := t3.cell 1
  have y2 : W3.cell? ⟨tb, 2, none⟩ = some (.int .i64 0) := t3.cell 2
  replace t3 := Lib.hid t3
  clear c3 hb2 b1 r1 hut
  go_upto_region 2 with fail
  rw [← show W3 = _ from hW3.out, htb.out]
  clear hW3 htb
  obtain ⟨U0, hU⟩ : ∃ W, Hid (W = W3.alloc (.cells #[.int .i64 0, .int .i64 0, .int .i64 0, .int .i64 0] 136)) := ⟨_, Lib.hid rfl⟩
  have c4 : Below W3.heap.size W3 U0 := by rw [hU.out]; exact grewAlloc (Below.refl _ _) _
  have bl0 := Lib.hid (grew b3.out c4)
  have rb0 := Lib.hid (r3.out.below c4 r3.out.lt)
  have tb0 := Lib.hid (t3.out.below c4 t3.out.lt)
  have ab0 : Whole U0 W3.heap.size 136 [.int .i64 0, .int .i64 0, .int .i64 0, .int .i64 0] := by rw [hU.out]; exact Whole.new W3 _ _
  obtain ⟨ab, hab⟩ : ∃ q, Hid (W3.heap.size = q) := ⟨_, Lib.hid rfl⟩
  rw [hab.out] at ab0
  have na : Hid (w.heap.size ≤ ab ∧ rb ≠ ab ∧ tb ≠ ab) := Lib.hid ⟨by rw [← hab.out]; exact b3.out.size, by have := r3.out.lt; have := hab.out; omega, by have := t3.out.lt; have := hab.out; omega⟩
  replace ab0 := Lib.hid ab0
  clear c4 b3 r3 t3
  go_upto_region 6 with fail
  rw [← show U0 = _ from hU.out, hab.out]
  clear hU hab y0 y1 y2
  go_wp2_with fail
  refine wp_loop_rounds 5 ?_
  rw [rounds_succ]
  go_wp2_with fail
  refine (C1.out _).mono ?_
  rintro _ _ ⟨rfl, rfl⟩
  obtain ⟨X1, hX1⟩ : ∃ W, Hid (W = (U0.alloc (.cells #[.int .u64 v1, .int .i64 (n1 : Int), .int .i64 0] 119)).alloc (.cells #[.int .u64 v1, .int .i64 (n1 : Int), .int .i64 0] 119)) := ⟨_, Lib.hid rfl⟩
  have cx : Below U0.heap.size U0 X1 := by rw [hX1.out]; exact grewAlloc (grewAlloc (Below.refl _ _) _) _
  have gx : Whole X1 (U0.heap.size + 1) 119 [.int .u64 v1, .int .i64 (n1 : Int), .int .i64 0] := by
    rw [hX1.out]
    have := Whole.new (U0.alloc (.cells #[.int .u64 v1, .int .i64 (n1 : Int), .int .i64 0] 119)) 119 [.int .u64 v1, .int .i64 (n1 : Int), .int .i64 0]
    rwa [show (U0.alloc (.cells #[.int .u64 v1, .int .i64 (n1 : Int), .int .i64 0] 119)).heap.size = U0.heap.size + 1 from by simp] at this
  obtain ⟨gb1, hgb1⟩ : ∃ q, Hid (U0.heap.size + 1 = q) := ⟨_, Lib.hid rfl⟩
  rw [hgb1.out] at gx
  have hgn1 : gb1 ≠ ab := by have := ab0.out.lt; have := hgb1.out; omega
  have hgm1 : ab ≠ gb1 := fun e => hgn1 e.symm
  have g0 : X1.cell? ⟨gb1, 0, none⟩ = some (.int .u64 v1) := gx.cell 0
  have g1 : X1.cell? ⟨gb1, 1, none⟩ = some (.int .i64 (n1 : Int)) := gx.cell 1
  have g2 : X1.cell? ⟨gb1, 2, none⟩ = some (.int .i64 0) := gx.cell 2
  have blx := Lib.hid (grew bl0.out cx)
  have rbx := Lib.hid (rb0.out.below cx rb0.out.lt)
  have tbx := Lib.hid (tb0.out.below cx tb0.out.lt)
  have abx := ab0.out.below cx ab0.out.lt
  have a0 : X1.cell? ⟨ab, 0, none⟩ = some (.int .i64 0) := abx.cell 0
  have f0 : X1.frozen? ⟨ab, 0, none⟩ = false := abx.frozen 0
  replace abx := Lib.hid abx
  clear cx gx bl0 rb0 tb0 ab0 C1
  go_upto_region 10 with fail
  rw [← show X1 = _ from hX1.out]
  rw [hgb1.out]
  clear hX1 hgb1
  have kb : ¬ v1 ≤ 1099511627776 := by omega
  go_wp2_with (with_reducible refine zStore 114 _ _ rfl ?_)
  refine Lib.hid ?_
  refine wpList_store_mid rfl 114 _ _ rfl rb 0 #[.string ⟨#[]⟩, .int .i64 0, .int .i64 0, .int .i64 0, .bool false, .int .i64 0, .bool false] rfl rfl (rbx.out.there 0 7 (by simp)) sizeGot22 (by simp [Value.oneCell']) ?_
  go_wp2_with fail
  have hfin := whole_all rbx.out (vs := [.string ⟨#[]⟩, .int .i64 0, .int .i64 0, .int .i64 0, .bool false, .int .i64 0, .bool false]) rfl
  exact bodyPost_ret (result_cell Tryz.results61 rfl hfin.range Tryz.underlying114 rfl sizeGot22) rfl ⟨rfl, below_store blx.out hrb.out (Nat.le_refl _) 0 _⟩
set_option maxRecDepth 100000 in
set_option maxHeartbeats 4000000 in
theorem rdec22_big2 (s : ByteArray) (w : World) (hs : s.size ≤ 100000) (nm : ByteArray) (p0 : Nat) (v1 : Int) (p1 : Nat) (v2 : Int) (p2 : Nat) (h0 : txAt s 0 = some (nm, p0)) (h1 : chAt s.data.toList p0 = some (v1, p1)) (k1 : v1 ≤ 1099511627776) (h2 : chAt s.data.toList p1 = some (v2, p2)) (k2 : 1099511627776 < v2) :
    Calls Tryz.prog 61 #[.string s] w fun e w' => e = .returned (.agg #[.string ⟨#[]⟩, .int .i64 0, .int .i64 0, .int .i64 0, .bool false, .int .i64 0, .bool false]) ∧ Below w.heap.size w w' := by
  have hsl : s.data.toList.length = s.size := by simp
  obtain ⟨W1, hW1⟩ : ∃ W, Hid (W = w.alloc (.cells #[.string ⟨#[]⟩, .int .i64 0, .int .i64 0, .int .i64 0, .bool false, .int .i64 0, .bool false] 114)) := ⟨_, Lib.hid rfl⟩
  have b1 : Below w.heap.size w W1 := by rw [hW1.out]; exact grewAlloc (Below.refl _ _) _
  have r1 : Whole W1 w.heap.size 114 [.string ⟨#[]⟩, .int .i64 0, .int .i64 0, .int .i64 0, .bool false, .int .i64 0, .bool false] := by rw [hW1.out]; exact Whole.new w _ _
  obtain ⟨rb, hrb0⟩ : ∃ q, Hid (w.heap.size = q) := ⟨_, Lib.hid rfl⟩
  rw [hrb0.out] at r1
  have hrb : Hid (w.heap.size ≤ rb) := Lib.hid (by rw [hrb0.out]; exact Nat.le_refl _)
  have hut := fun W => runtext_any s W (by omega)
  obtain ⟨hU0, hp0⟩ := txAt_yes h0
  rw [ext_all] at hU0
  rw [hU0] at hut
  have z1 := slice_from22 s p0 (by omega)
  have C1 := fun W => runchain_any (s.extract p0 s.size) W (by have := ext_le s p0 hs; omega)
  rw [ext_drop] at C1
  obtain ⟨n1, hU1, hq1, hp1, vl1, vh1⟩ := chAt_yes h1 (by omega)
  rw [hU1] at C1
  have hw1 : IntKind.i64.wrap ((p0 : Int) + (n1 : Int)) = (p1 : Int) := by rw [IntWalk.i64_in _ (by omega)]; omega
  have hv1 : IntKind.i64.wrap v1 = v1 := IntWalk.i64_in _ (by omega)
  have hv1b : wrap64 v1 = v1 := wrap64_low vl1 (by omega)
  clear hU1 h1
  replace C1 := Lib.hid C1
  have z2 := slice_from22 s p1 (by omega)
  have C2 := fun W => runchain_any (s.extract p1 s.size) W (by have := ext_le s p1 hs; omega)
  rw [ext_drop] at C2
  obtain ⟨n2, hU2, hq2, hp2, vl2, vh2⟩ := chAt_yes h2 (by omega)
  rw [hU2] at C2
  clear hU2 h2
  replace C2 := Lib.hid C2
  replace hut := Lib.hid hut
  replace r1 := Lib.hid r1
  replace b1 := Lib.hid b1
  clear hU0 h0 hp0
  clear hq1 hp1 vl1 vh1
  clear hq2 hp2 vl2 vh2
  go_enter Tryz.func61, Tryz.ntmps61
  go_upto_region 1 with fail
  rw [← show W1 = _ from hW1.out, hrb0.out]
  clear hW1
  go_wp2_with fail
  refine (hut.out _).mono ?_
  rintro _ w2 ⟨rfl, hb2⟩
  obtain ⟨W3, hW3⟩ : ∃ W, Hid (W = w2.alloc (.cells #[.string nm, .int .i64 (p0 : Int), .int .i64 0] 86)) := ⟨_, Lib.hid rfl⟩
  have c3 : Below w2.heap.size w2 W3 := by rw [hW3.out]; exact grewAlloc (Below.refl _ _) _
  have b3 := Lib.hid (grew (grew b1.out hb2) c3)
  have r3 := Lib.hid ((r1.out.below hb2 r1.out.lt).below c3 (r1.out.below hb2 r1.out.lt).lt)
  have t3 : Whole W3 w2.heap.size 86 [.string nm, .int .i64 (p0 : Int), .int .i64 0] := by rw [hW3.out]; exact Whole.new w2 _ _
  obtain ⟨tb, htb⟩ : ∃ q, Hid (w2.heap.size = q) := ⟨_, Lib.hid rfl⟩
  rw [htb.out] at t3
  have y0 : W3.cell? ⟨tb, 0, none⟩ = some (.string nm) := t3.cell 0
  have y1 : W3.cell? ⟨tb, 1, none⟩ = some (.int .i64 (p0 : Int)) := t3.cell 1
  have y2 : W3.cell? ⟨tb, 2, none⟩ = some (.int .i64 0) := t3.cell 2
  replace t3 := Lib.hid t3
  clear c3 hb2 b1 r1 hut
  go_upto_region 2 with fail
  rw [← show W3 = _ from hW3.out, htb.out]
  clear hW3 htb
  obtain ⟨U0, hU⟩ : ∃ W, Hid (W = W3.alloc (.cells #[.int .i64 0, .int .i64 0, .int .i64 0, .int .i64 0] 136)) := ⟨_, Lib.hid rfl⟩
  have c4 : Below W3.heap.size W3 U0 := by rw [hU.out]; exact grewAlloc (Below.refl _ _) _
  have bl0 := Lib.hid (grew b3.out c4)
  have rb0 := Lib.hid (r3.out.below c4 r3.out.lt)
  have tb0 := Lib.hid (t3.out.below c4 t3.out.lt)
  have ab0 : Whole U0 W3.heap.size 136 [.int .i64 0, .int .i64 0, .int .i64 0, .int .i64 0] := by rw [hU.out]; exact Whole.new W3 _ _
  obtain ⟨ab, hab⟩ : ∃ q, Hid (W3.heap.size = q) := ⟨_, Lib.hid rfl⟩
  rw [hab.out] at ab0
  have na : Hid (w.heap.size ≤ ab ∧ rb ≠ ab ∧ tb ≠ ab) := Lib.hid ⟨by rw [← hab.out]; exact b3.out.size, by have := r3.out.lt; have := hab.out; omega, by have := t3.out.lt; have := hab.out; omega⟩
  replace ab0 := Lib.hid ab0
  clear c4 b3 r3 t3
  go_upto_region 6 with fail
  rw [← show U0 = _ from hU.out, hab.out]
  clear hU hab y0 y1 y2
  go_wp2_with fail
  refine wp_loop_rounds 5 ?_
  rw [rounds_succ]
  go_wp2_with fail
  refine (C1.out _).mono ?_
  rintro _ _ ⟨rfl, rfl⟩
  obtain ⟨X1, hX1⟩ : ∃ W, Hid (W = (U0.alloc (.cells #[.int .u64 v1, .int .i64 (n1 : Int), .int .i64 0] 119)).alloc (.cells #[.int .u64 v1, .int .i64 (n1 : Int), .int .i64 0] 119)) := ⟨_, Lib.hid rfl⟩
  have cx : Below U0.heap.size U0 X1 := by rw [hX1.out]; exact grewAlloc (grewAlloc (Below.refl _ _) _) _
  have gx : Whole X1 (U0.heap.size + 1) 119 [.int .u64 v1, .int .i64 (n1 : Int), .int .i64 0] := by
    rw [hX1.out]
    have := Whole.new (U0.alloc (.cells #[.int .u64 v1, .int .i64 (n1 : Int), .int .i64 0] 119)) 119 [.int .u64 v1, .int .i64 (n1 : Int), .int .i64 0]
    rwa [show (U0.alloc (.cells #[.int .u64 v1, .int .i64 (n1 : Int), .int .i64 0] 119)).heap.size = U0.heap.size + 1 from by simp] at this
  obtain ⟨gb1, hgb1⟩ : ∃ q, Hid (U0.heap.size + 1 = q) := ⟨_, Lib.hid rfl⟩
  rw [hgb1.out] at gx
  have hgn1 : gb1 ≠ ab := by have := ab0.out.lt; have := hgb1.out; omega
  have hgm1 : ab ≠ gb1 := fun e => hgn1 e.symm
  have g0 : X1.cell? ⟨gb1, 0, none⟩ = some (.int .u64 v1) := gx.cell 0
  have g1 : X1.cell? ⟨gb1, 1, none⟩ = some (.int .i64 (n1 : Int)) := gx.cell 1
  have g2 : X1.cell? ⟨gb1, 2, none⟩ = some (.int .i64 0) := gx.cell 2
  have blx := Lib.hid (grew bl0.out cx)
  have rbx := Lib.hid (rb0.out.below cx rb0.out.lt)
  have tbx := Lib.hid (tb0.out.below cx tb0.out.lt)
  have abx := ab0.out.below cx ab0.out.lt
  have a0 : X1.cell? ⟨ab, 0, none⟩ = some (.int .i64 0) := abx.cell 0
  have f0 : X1.frozen? ⟨ab, 0, none⟩ = false := abx.frozen 0
  replace abx := Lib.hid abx
  clear cx gx bl0 rb0 tb0 ab0 C1
  go_upto_region 10 with fail
  rw [← show X1 = _ from hX1.out]
  rw [hgb1.out]
  clear hX1 hgb1
  have bl1 := Lib.hid (below_store blx.out na.out.1 (Nat.le_refl _) 0 [(.int .i64 v1)])
  have rb1 := Lib.hid (rbx.out.far na.out.2.1 0 [(.int .i64 v1)])
  have tb1 := Lib.hid (tbx.out.far na.out.2.2 0 [(.int .i64 v1)])
  have ab1 : Hid (Whole (X1.setCell ⟨ab, 0, none⟩ (.int .i64 v1)) ab 136 [.int .i64 v1, .int .i64 0, .int .i64 0, .int .i64 0]) := Lib.hid (abx.out.store 0 [(.int .i64 v1)] (by simp))
  simp only [World.setCells] at bl1 rb1 tb1
  go_wp2_with fail
  generalize X1.setCell ⟨ab, 0, none⟩ (.int .i64 v1) = U1 at *
  clear a0 f0 g0 g1 g2 blx rbx tbx abx
  rw [rounds_succ]
  go_wp2_with fail
  refine (C2.out _).mono ?_
  rintro _ _ ⟨rfl, rfl⟩
  obtain ⟨X2, hX2⟩ : ∃ W, Hid (W = (U1.alloc (.cells #[.int .u64 v2, .int .i64 (n2 : Int), .int .i64 0] 119)).alloc (.cells #[.int .u64 v2, .int .i64 (n2 : Int), .int .i64 0] 119)) := ⟨_, Lib.hid rfl⟩
  have cx : Below U1.heap.size U1 X2 := by rw [hX2.out]; exact grewAlloc (grewAlloc (Below.refl _ _) _) _
  have gx : Whole X2 (U1.heap.size + 1) 119 [.int .u64 v2, .int .i64 (n2 : Int), .int .i64 0] := by
    rw [hX2.out]
    have := Whole.new (U1.alloc (.cells #[.int .u64 v2, .int .i64 (n2 : Int), .int .i64 0] 119)) 119 [.int .u64 v2, .int .i64 (n2 : Int), .int .i64 0]
    rwa [show (U1.alloc (.cells #[.int .u64 v2, .int .i64 (n2 : Int), .int .i64 0] 119)).heap.size = U1.heap.size + 1 from by simp] at this
  obtain ⟨gb2, hgb2⟩ : ∃ q, Hid (U1.heap.size + 1 = q) := ⟨_, Lib.hid rfl⟩
  rw [hgb2.out] at gx
  have hgn2 : gb2 ≠ ab := by have := ab1.out.lt; have := hgb2.out; omega
  have hgm2 : ab ≠ gb2 := fun e => hgn2 e.symm
  have g0 : X2.cell? ⟨gb2, 0, none⟩ = some (.int .u64 v2) := gx.cell 0
  have g1 : X2.cell? ⟨gb2, 1, none⟩ = some (.int .i64 (n2 : Int)) := gx.cell 1
  have g2 : X2.cell? ⟨gb2, 2, none⟩ = some (.int .i64 0) := gx.cell 2
  have blx := Lib.hid (grew bl1.out cx)
  have rbx := Lib.hid (rb1.out.below cx rb1.out.lt)
  have tbx := Lib.hid (tb1.out.below cx tb1.out.lt)
  have abx := ab1.out.below cx ab1.out.lt
  have a0 : X2.cell? ⟨ab, 1, none⟩ = some (.int .i64 0) := abx.cell 1
  have f0 : X2.frozen? ⟨ab, 1, none⟩ = false := abx.frozen 1
  replace abx := Lib.hid abx
  clear cx gx bl1 rb1 tb1 ab1 C2
  go_upto_region 10 with fail
  rw [← show X2 = _ from hX2.out]
  rw [hgb2.out]
  clear hX2 hgb2
  have kb : ¬ v2 ≤ 1099511627776 := by omega
  go_wp2_with (with_reducible refine zStore 114 _ _ rfl ?_)
  refine Lib.hid ?_
  refine wpList_store_mid rfl 114 _ _ rfl rb 0 #[.string ⟨#[]⟩, .int .i64 0, .int .i64 0, .int .i64 0, .bool false, .int .i64 0, .bool false] rfl rfl (rbx.out.there 0 7 (by simp)) sizeGot22 (by simp [Value.oneCell']) ?_
  go_wp2_with fail
  have hfin := whole_all rbx.out (vs := [.string ⟨#[]⟩, .int .i64 0, .int .i64 0, .int .i64 0, .bool false, .int .i64 0, .bool false]) rfl
  exact bodyPost_ret (result_cell Tryz.results61 rfl hfin.range Tryz.underlying114 rfl sizeGot22) rfl ⟨rfl, below_store blx.out hrb.out (Nat.le_refl _) 0 _⟩
set_option maxRecDepth 100000 in
set_option maxHeartbeats 4000000 in
theorem rdec22_big3 (s : ByteArray) (w : World) (hs : s.size ≤ 100000) (nm : ByteArray) (p0 : Nat) (v1 : Int) (p1 : Nat) (v2 : Int) (p2 : Nat) (v3 : Int) (p3 : Nat) (h0 : txAt s 0 = some (nm, p0)) (h1 : chAt s.data.toList p0 = some (v1, p1)) (k1 : v1 ≤ 1099511627776) (h2 : chAt s.data.toList p1 = some (v2, p2)) (k2 : v2 ≤ 1099511627776) (h3 : chAt s.data.toList p2 = some (v3, p3)) (k3 : 1099511627776 < v3) :
    Calls Tryz.prog 61 #[.string s] w fun e w' => e = .returned (.agg #[.string ⟨#[]⟩, .int .i64 0, .int .i64 0, .int .i64 0, .bool false, .int .i64 0, .bool false]) ∧ Below w.heap.size w w' := by
  have hsl : s.data.toList.length = s.size := by simp
  obtain ⟨W1, hW1⟩ : ∃ W, Hid (W = w.alloc (.cells #[.string ⟨#[]⟩, .int .i64 0, .int .i64 0, .int .i64 0, .bool false, .int .i64 0, .bool false] 114)) := ⟨_, Lib.hid rfl⟩
  have b1 : Below w.heap.size w W1 := by rw [hW1.out]; exact grewAlloc (Below.refl _ _) _
  have r1 : Whole W1 w.heap.size 114 [.string ⟨#[]⟩, .int .i64 0, .int .i64 0, .int .i64 0, .bool false, .int .i64 0, .bool false] := by rw [hW1.out]; exact Whole.new w _ _
  obtain ⟨rb, hrb0⟩ : ∃ q, Hid (w.heap.size = q) := ⟨_, Lib.hid rfl⟩
  rw [hrb0.out] at r1
  have hrb : Hid (w.heap.size ≤ rb) := Lib.hid (by rw [hrb0.out]; exact Nat.le_refl _)
  have hut := fun W => runtext_any s W (by omega)
  obtain ⟨hU0, hp0⟩ := txAt_yes h0
  rw [ext_all] at hU0
  rw [hU0] at hut
  have z1 := slice_from22 s p0 (by omega)
  have C1 := fun W => runchain_any (s.extract p0 s.size) W (by have := ext_le s p0 hs; omega)
  rw [ext_drop] at C1
  obtain ⟨n1, hU1, hq1, hp1, vl1, vh1⟩ := chAt_yes h1 (by omega)
  rw [hU1] at C1
  have hw1 : IntKind.i64.wrap ((p0 : Int) + (n1 : Int)) = (p1 : Int) := by rw [IntWalk.i64_in _ (by omega)]; omega
  have hv1 : IntKind.i64.wrap v1 = v1 := IntWalk.i64_in _ (by omega)
  have hv1b : wrap64 v1 = v1 := wrap64_low vl1 (by omega)
  clear hU1 h1
  replace C1 := Lib.hid C1
  have z2 := slice_from22 s p1 (by omega)
  have C2 := fun W => runchain_any (s.extract p1 s.size) W (by have := ext_le s p1 hs; omega)
  rw [ext_drop] at C2
  obtain ⟨n2, hU2, hq2, hp2, vl2, vh2⟩ := chAt_yes h2 (by omega)
  rw [hU2] at C2
  have hw2 : IntKind.i64.wrap ((p1 : Int) + (n2 : Int)) = (p2 : Int) := by rw [IntWalk.i64_in _ (by omega)]; omega
  have hv2 : IntKind.i64.wrap v2 = v2 := IntWalk.i64_in _ (by omega)
  have hv2b : wrap64 v2 = v2 := wrap64_low vl2 (by omega)
  clear hU2 h2
  replace C2 := Lib.hid C2
  have z3 := slice_from22 s p2 (by omega)
  have C3 := fun W => runchain_any (s.extract p2 s.size) W (by have := ext_le s p2 hs; omega)
  rw [ext_drop] at C3
  obtain ⟨n3, hU3, hq3, hp3, vl3, vh3⟩ := chAt_yes h3 (by omega)
  rw [hU3] at C3
  clear hU3 h3
  replace C3 := Lib.hid C3
  replace hut := Lib.hid hut
  replace r1 := Lib.hid r1
  replace b1 := Lib.hid b1
  clear hU0 h0 hp0
  clear hq1 hp1 vl1 vh1
  clear hq2 hp2 vl2 vh2
  clear hq3 hp3 vl3 vh3
  go_enter Tryz.func61, Tryz.ntmps61
  go_upto_region 1 with fail
  rw [← show W1 = _ from hW1.out, hrb0.out]
  clear hW1
  go_wp2_with fail
  refine (hut.out _).mono ?_
  rintro _ w2 ⟨rfl, hb2⟩
  obtain ⟨W3, hW3⟩ : ∃ W, Hid (W = w2.alloc (.cells #[.string nm, .int .i64 (p0 : Int), .int .i64 0] 86)) := ⟨_, Lib.hid rfl⟩
  have c3 : Below w2.heap.size w2 W3 := by rw [hW3.out]; exact grewAlloc (Below.refl _ _) _
  have b3 := Lib.hid (grew (grew b1.out hb2) c3)
  have r3 := Lib.hid ((r1.out.below hb2 r1.out.lt).below c3 (r1.out.below hb2 r1.out.lt).lt)
  have t3 : Whole W3 w2.heap.size 86 [.string nm, .int .i64 (p0 : Int), .int .i64 0] := by rw [hW3.out]; exact Whole.new w2 _ _
  obtain ⟨tb, htb⟩ : ∃ q, Hid (w2.heap.size = q) := ⟨_, Lib.hid rfl⟩
  rw [htb.out] at t3
  have y0 : W3.cell? ⟨tb, 0, none⟩ = some (.string nm) := t3.cell 0
  have y1 : W3.cell? ⟨tb, 1, none⟩ = some (.int .i64 (p0 : Int)) := t3.cell 1
  have y2 : W3.cell? ⟨tb, 2, none⟩ = some (.int .i64 0) := t3.cell 2
  replace t3 := Lib.hid t3
  clear c3 hb2 b1 r1 hut
  go_upto_region 2 with fail
  rw [← show W3 = _ from hW3.out, htb.out]
  clear hW3 htb
  obtain ⟨U0, hU⟩ : ∃ W, Hid (W = W3.alloc (.cells #[.int .i64 0, .int .i64 0, .int .i64 0, .int .i64 0] 136)) := ⟨_, Lib.hid rfl⟩
  have c4 : Below W3.heap.size W3 U0 := by rw [hU.out]; exact grewAlloc (Below.refl _ _) _
  have bl0 := Lib.hid (grew b3.out c4)
  have rb0 := Lib.hid (r3.out.below c4 r3.out.lt)
  have tb0 := Lib.hid (t3.out.below c4 t3.out.lt)
  have ab0 : Whole U0 W3.heap.size 136 [.int .i64 0, .int .i64 0, .int .i64 0, .int .i64 0] := by rw [hU.out]; exact Whole.new W3 _ _
  obtain ⟨ab, hab⟩ : ∃ q, Hid (W3.heap.size = q) := ⟨_, Lib.hid rfl⟩
  rw [hab.out] at ab0
  have na : Hid (w.heap.size ≤ ab ∧ rb ≠ ab ∧ tb ≠ ab) := Lib.hid ⟨by rw [← hab.out]; exact b3.out.size, by have := r3.out.lt; have := hab.out; omega, by have := t3.out.lt; have := hab.out; omega⟩
  replace ab0 := Lib.hid ab0
  clear c4 b3 r3 t3
  go_upto_region 6 with fail
  rw [← show U0 = _ from hU.out, hab.out]
  clear hU hab y0 y1 y2
  go_wp2_with fail
  refine wp_loop_rounds 5 ?_
  rw [rounds_succ]
  go_wp2_with fail
  refine (C1.out _).mono ?_
  rintro _ _ ⟨rfl, rfl⟩
  obtain ⟨X1, hX1⟩ : ∃ W, Hid (W = (U0.alloc (.cells #[.int .u64 v1, .int .i64 (n1 : Int), .int .i64 0] 119)).alloc (.cells #[.int .u64 v1, .int .i64 (n1 : Int), .int .i64 0] 119)) := ⟨_, Lib.hid rfl⟩
  have cx : Below U0.heap.size U0 X1 := by rw [hX1.out]; exact grewAlloc (grewAlloc (Below.refl _ _) _) _
  have gx : Whole X1 (U0.heap.size + 1) 119 [.int .u64 v1, .int .i64 (n1 : Int), .int .i64 0] := by
    rw [hX1.out]
    have := Whole.new (U0.alloc (.cells #[.int .u64 v1, .int .i64 (n1 : Int), .int .i64 0] 119)) 119 [.int .u64 v1, .int .i64 (n1 : Int), .int .i64 0]
    rwa [show (U0.alloc (.cells #[.int .u64 v1, .int .i64 (n1 : Int), .int .i64 0] 119)).heap.size = U0.heap.size + 1 from by simp] at this
  obtain ⟨gb1, hgb1⟩ : ∃ q, Hid (U0.heap.size + 1 = q) := ⟨_, Lib.hid rfl⟩
  rw [hgb1.out] at gx
  have hgn1 : gb1 ≠ ab := by have := ab0.out.lt; have := hgb1.out; omega
  have hgm1 : ab ≠ gb1 := fun e => hgn1 e.symm
  have g0 : X1.cell? ⟨gb1, 0, none⟩ = some (.int .u64 v1) := gx.cell 0
  have g1 : X1.cell? ⟨gb1, 1, none⟩ = some (.int .i64 (n1 : Int)) := gx.cell 1
  have g2 : X1.cell? ⟨gb1, 2, none⟩ = some (.int .i64 0) := gx.cell 2
  have blx := Lib.hid (grew bl0.out cx)
  have rbx := Lib.hid (rb0.out.below cx rb0.out.lt)
  have tbx := Lib.hid (tb0.out.below cx tb0.out.lt)
  have abx := ab0.out.below cx ab0.out.lt
  have a0 : X1.cell? ⟨ab, 0, none⟩ = some (.int .i64 0) := abx.cell 0
  have f0 : X1.frozen? ⟨ab, 0, none⟩ = false := abx.frozen 0
  replace abx := Lib.hid abx
  clear cx gx bl0 rb0 tb0 ab0 C1
  go_upto_region 10 with fail
  rw [← show X1 = _ from hX1.out]
  rw [hgb1.out]
  clear hX1 hgb1
  have bl1 := Lib.hid (below_store blx.out na.out.1 (Nat.le_refl _) 0 [(.int .i64 v1)])
  have rb1 := Lib.hid (rbx.out.far na.out.2.1 0 [(.int .i64 v1)])
  have tb1 := Lib.hid (tbx.out.far na.out.2.2 0 [(.int .i64 v1)])
  have ab1 : Hid (Whole (X1.setCell ⟨ab, 0, none⟩ (.int .i64 v1)) ab 136 [.int .i64 v1, .int .i64 0, .int .i64 0, .int .i64 0]) := Lib.hid (abx.out.store 0 [(.int .i64 v1)] (by simp))
  simp only [World.setCells] at bl1 rb1 tb1
  go_wp2_with fail
  generalize X1.setCell ⟨ab, 0, none⟩ (.int .i64 v1) = U1 at *
  clear a0 f0 g0 g1 g2 blx rbx tbx abx
  rw [rounds_succ]
  go_wp2_with fail
  refine (C2.out _).mono ?_
  rintro _ _ ⟨rfl, rfl⟩
  obtain ⟨X2, hX2⟩ : ∃ W, Hid (W = (U1.alloc (.cells #[.int .u64 v2, .int .i64 (n2 : Int), .int .i64 0] 119)).alloc (.cells #[.int .u64 v2, .int .i64 (n2 : Int), .int .i64 0] 119)) := ⟨_, Lib.hid rfl⟩
  have cx : Below U1.heap.size U1 X2 := by rw [hX2.out]; exact grewAlloc (grewAlloc (Below.refl _ _) _) _
  have gx : Whole X2 (U1.heap.size + 1) 119 [.int .u64 v2, .int .i64 (n2 : Int), .int .i64 0] := by
    rw [hX2.out]
    have := Whole.new (U1.alloc (.cells #[.int .u64 v2, .int .i64 (n2 : Int), .int .i64 0] 119)) 119 [.int .u64 v2, .int .i64 (n2 : Int), .int .i64 0]
    rwa [show (U1.alloc (.cells #[.int .u64 v2, .int .i64 (n2 : Int), .int .i64 0] 119)).heap.size = U1.heap.size + 1 from by simp] at this
  obtain ⟨gb2, hgb2⟩ : ∃ q, Hid (U1.heap.size + 1 = q) := ⟨_, Lib.hid rfl⟩
  rw [hgb2.out] at gx
  have hgn2 : gb2 ≠ ab := by have := ab1.out.lt; have := hgb2.out; omega
  have hgm2 : ab ≠ gb2 := fun e => hgn2 e.symm
  have g0 : X2.cell? ⟨gb2, 0, none⟩ = some (.int .u64 v2) := gx.cell 0
  have g1 : X2.cell? ⟨gb2, 1, none⟩ = some (.int .i64 (n2 : Int)) := gx.cell 1
  have g2 : X2.cell? ⟨gb2, 2, none⟩ = some (.int .i64 0) := gx.cell 2
  have blx := Lib.hid (grew bl1.out cx)
  have rbx := Lib.hid (rb1.out.below cx rb1.out.lt)
  have tbx := Lib.hid (tb1.out.below cx tb1.out.lt)
  have abx := ab1.out.below cx ab1.out.lt
  have a0 : X2.cell? ⟨ab, 1, none⟩ = some (.int .i64 0) := abx.cell 1
  have f0 : X2.frozen? ⟨ab, 1, none⟩ = false := abx.frozen 1
  replace abx := Lib.hid abx
  clear cx gx bl1 rb1 tb1 ab1 C2
  go_upto_region 10 with fail
  rw [← show X2 = _ from hX2.out]
  rw [hgb2.out]
  clear hX2 hgb2
  have bl2 := Lib.hid (below_store blx.out na.out.1 (Nat.le_refl _) 1 [(.int .i64 v2)])
  have rb2 := Lib.hid (rbx.out.far na.out.2.1 1 [(.int .i64 v2)])
  have tb2 := Lib.hid (tbx.out.far na.out.2.2 1 [(.int .i64 v2)])
  have ab2 : Hid (Whole (X2.setCell ⟨ab, 1, none⟩ (.int .i64 v2)) ab 136 [.int .i64 v1, .int .i64 v2, .int .i64 0, .int .i64 0]) := Lib.hid (abx.out.store 1 [(.int .i64 v2)] (by simp))
  simp only [World.setCells] at bl2 rb2 tb2
  go_wp2_with fail
  generalize X2.setCell ⟨ab, 1, none⟩ (.int .i64 v2) = U2 at *
  clear a0 f0 g0 g1 g2 blx rbx tbx abx
  rw [rounds_succ]
  go_wp2_with fail
  refine (C3.out _).mono ?_
  rintro _ _ ⟨rfl, rfl⟩
  obtain ⟨X3, hX3⟩ : ∃ W, Hid (W = (U2.alloc (.cells #[.int .u64 v3, .int .i64 (n3 : Int), .int .i64 0] 119)).alloc (.cells #[.int .u64 v3, .int .i64 (n3 : Int), .int .i64 0] 119)) := ⟨_, Lib.hid rfl⟩
  have cx : Below U2.heap.size U2 X3 := by rw [hX3.out]; exact grewAlloc (grewAlloc (Below.refl _ _) _) _
  have gx : Whole X3 (U2.heap.size + 1) 119 [.int .u64 v3, .int .i64 (n3 : Int), .int .i64 0] := by
    rw [hX3.out]
    have := Whole.new (U2.alloc (.cells #[.int .u64 v3, .int .i64 (n3 : Int), .int .i64 0] 119)) 119 [.int .u64 v3, .int .i64 (n3 : Int), .int .i64 0]
    rwa [show (U2.alloc (.cells #[.int .u64 v3, .int .i64 (n3 : Int), .int .i64 0] 119)).heap.size = U2.heap.size + 1 from by simp] at this
  obtain ⟨gb3, hgb3⟩ : ∃ q, Hid (U2.heap.size + 1 = q) := ⟨_, Lib.hid rfl⟩
  rw [hgb3.out] at gx
  have hgn3 : gb3 ≠ ab := by have := ab2.out.lt; have := hgb3.out; omega
  have hgm3 : ab ≠ gb3 := fun e => hgn3 e.symm
  have g0 : X3.cell? ⟨gb3, 0, none⟩ = some (.int .u64 v3) := gx.cell 0
  have g1 : X3.cell? ⟨gb3, 1, none⟩ = some (.int .i64 (n3 : Int)) := gx.cell 1
  have g2 : X3.cell? ⟨gb3, 2, none⟩ = some (.int .i64 0) := gx.cell 2
  have blx := Lib.hid (grew bl2.out cx)
  have rbx := Lib.hid (rb2.out.below cx rb2.out.lt)
  have tbx := Lib.hid (tb2.out.below cx tb2.out.lt)
  have abx := ab2.out.below cx ab2.out.lt
  have a0 : X3.cell? ⟨ab, 2, none⟩ = some (.int .i64 0) := abx.cell 2
  have f0 : X3.frozen? ⟨ab, 2, none⟩ = false := abx.frozen 2
  replace abx := Lib.hid abx
  clear cx gx bl2 rb2 tb2 ab2 C3
  go_upto_region 10 with fail
  rw [← show X3 = _ from hX3.out]
  rw [hgb3.out]
  clear hX3 hgb3
  have kb : ¬ v3 ≤ 1099511627776 := by omega
  go_wp2_with (with_reducible refine zStore 114 _ _ rfl ?_)
  refine Lib.hid ?_
  refine wpList_store_mid rfl 114 _ _ rfl rb 0 #[.string ⟨#[]⟩, .int .i64 0, .int .i64 0, .int .i64 0, .bool false, .int .i64 0, .bool false] rfl rfl (rbx.out.there 0 7 (by simp)) sizeGot22 (by simp [Value.oneCell']) ?_
  go_wp2_with fail
  have hfin := whole_all rbx.out (vs := [.string ⟨#[]⟩, .int .i64 0, .int .i64 0, .int .i64 0, .bool false, .int .i64 0, .bool false]) rfl
  exact bodyPost_ret (result_cell Tryz.results61 rfl hfin.range Tryz.underlying114 rfl sizeGot22) rfl ⟨rfl, below_store blx.out hrb.out (Nat.le_refl _) 0 _⟩
set_option maxRecDepth 100000 in
set_option maxHeartbeats 4000000 in
theorem rdec22_big4 (s : ByteArray) (w : World) (hs : s.size ≤ 100000) (nm : ByteArray) (p0 : Nat) (v1 : Int) (p1 : Nat) (v2 : Int) (p2 : Nat) (v3 : Int) (p3 : Nat) (v4 : Int) (p4 : Nat) (h0 : txAt s 0 = some (nm, p0)) (h1 : chAt s.data.toList p0 = some (v1, p1)) (k1 : v1 ≤ 1099511627776) (h2 : chAt s.data.toList p1 = some (v2, p2)) (k2 : v2 ≤ 1099511627776) (h3 : chAt s.data.toList p2 = some (v3, p3)) (k3 : v3 ≤ 1099511627776) (h4 : chAt s.data.toList p3 = some (v4, p4)) (k4 : 1099511627776 < v4) :
    Calls Tryz.prog 61 #[.string s] w fun e w' => e = .returned (.agg #[.string ⟨#[]⟩, .int .i64 0, .int .i64 0, .int .i64 0, .bool false, .int .i64 0, .bool false]) ∧ Below w.heap.size w w' := by
  have hsl : s.data.toList.length = s.size := by simp
  obtain ⟨W1, hW1⟩ : ∃ W, Hid (W = w.alloc (.cells #[.string ⟨#[]⟩, .int .i64 0, .int .i64 0, .int .i64 0, .bool false, .int .i64 0, .bool false] 114)) := ⟨_, Lib.hid rfl⟩
  have b1 : Below w.heap.size w W1 := by rw [hW1.out]; exact grewAlloc (Below.refl _ _) _
  have r1 : Whole W1 w.heap.size 114 [.string ⟨#[]⟩, .int .i64 0, .int .i64 0, .int .i64 0, .bool false, .int .i64 0, .bool false] := by rw [hW1.out]; exact Whole.new w _ _
  obtain ⟨rb, hrb0⟩ : ∃ q, Hid (w.heap.size = q) := ⟨_, Lib.hid rfl⟩
  rw [hrb0.out] at r1
  have hrb : Hid (w.heap.size ≤ rb) := Lib.hid (by rw [hrb0.out]; exact Nat.le_refl _)
  have hut := fun W => runtext_any s W (by omega)
  obtain ⟨hU0, hp0⟩ := txAt_yes h0
  rw [ext_all] at hU0
  rw [hU0] at hut
  have z1 := slice_from22 s p0 (by omega)
  have C1 := fun W => runchain_any (s.extract p0 s.size) W (by have := ext_le s p0 hs; omega)
  rw [ext_drop] at C1
  obtain ⟨n1, hU1, hq1, hp1, vl1, vh1⟩ := chAt_yes h1 (by omega)
  rw [hU1] at C1
  have hw1 : IntKind.i64.wrap ((p0 : Int) + (n1 : Int)) = (p1 : Int) := by rw [IntWalk.i64_in _ (by omega)]; omega
  have hv1 : IntKind.i64.wrap v1 = v1 := IntWalk.i64_in _ (by omega)
  have hv1b : wrap64 v1 = v1 := wrap64_low vl1 (by omega)
  clear hU1 h1
  replace C1 := Lib.hid C1
  have z2 := slice_from22 s p1 (by omega)
  have C2 := fun W => runchain_any (s.extract p1 s.size) W (by have := ext_le s p1 hs; omega)
  rw [ext_drop] at C2
  obtain ⟨n2, hU2, hq2, hp2, vl2, vh2⟩ := chAt_yes h2 (by omega)
  rw [hU2] at C2
  have hw2 : IntKind.i64.wrap ((p1 : Int) + (n2 : Int)) = (p2 : Int) := by rw [IntWalk.i64_in _ (by omega)]; omega
  have hv2 : IntKind.i64.wrap v2 = v2 := IntWalk.i64_in _ (by omega)
  have hv2b : wrap64 v2 = v2 := wrap64_low vl2 (by omega)
  clear hU2 h2
  replace C2 := Lib.hid C2
  have z3 := slice_from22 s p2 (by omega)
  have C3 := fun W => runchain_any (s.extract p2 s.size) W (by have := ext_le s p2 hs; omega)
  rw [ext_drop] at C3
  obtain ⟨n3, hU3, hq3, hp3, vl3, vh3⟩ := chAt_yes h3 (by omega)
  rw [hU3] at C3
  have hw3 : IntKind.i64.wrap ((p2 : Int) + (n3 : Int)) = (p3 : Int) := by rw [IntWalk.i64_in _ (by omega)]; omega
  have hv3 : IntKind.i64.wrap v3 = v3 := IntWalk.i64_in _ (by omega)
  have hv3b : wrap64 v3 = v3 := wrap64_low vl3 (by omega)
  clear hU3 h3
  replace C3 := Lib.hid C3
  have z4 := slice_from22 s p3 (by omega)
  have C4 := fun W => runchain_any (s.extract p3 s.size) W (by have := ext_le s p3 hs; omega)
  rw [ext_drop] at C4
  obtain ⟨n4, hU4, hq4, hp4, vl4, vh4⟩ := chAt_yes h4 (by omega)
  rw [hU4] at C4
  clear hU4 h4
  replace C4 := Lib.hid C4
  replace hut := Lib.hid hut
  replace r1 := Lib.hid r1
  replace b1 := Lib.hid b1
  clear hU0 h0 hp0
  clear hq1 hp1 vl1 vh1
  clear hq2 hp2 vl2 vh2
  clear hq3 hp3 vl3 vh3
  clear hq4 hp4 vl4 vh4
  go_enter Tryz.func61, Tryz.ntmps61
  go_upto_region 1 with fail
  rw [← show W1 = _ from hW1.out, hrb0.out]
  clear hW1
  go_wp2_with fail
  refine (hut.out _).mono ?_
  rintro _ w2 ⟨rfl, hb2⟩
  obtain ⟨W3, hW3⟩ : ∃ W, Hid (W = w2.alloc (.cells #[.string nm, .int .i64 (p0 : Int), .int .i64 0] 86)) := ⟨_, Lib.hid rfl⟩
  have c3 : Below w2.heap.size w2 W3 := by rw [hW3.out]; exact grewAlloc (Below.refl _ _) _
  have b3 := Lib.hid (grew (grew b1.out hb2) c3)
  have r3 := Lib.hid ((r1.out.below hb2 r1.out.lt).below c3 (r1.out.below hb2 r1.out.lt).lt)
  have t3 : Whole W3 w2.heap.size 86 [.string nm, .int .i64 (p0 : Int), .int .i64 0] := by rw [hW3.out]; exact Whole.new w2 _ _
  obtain ⟨tb, htb⟩ : ∃ q, Hid (w2.heap.size = q) := ⟨_, Lib.hid rfl⟩
  rw [htb.out] at t3
  have y0 : W3.cell? ⟨tb, 0, none⟩ = some (.string nm) := t3.cell 0
  have y1 : W3.cell? ⟨tb, 1, none⟩ = some (.int .i64 (p0 : Int)) := t3.cell 1
  have y2 : W3.cell? ⟨tb, 2, none⟩ = some (.int .i64 0) := t3.cell 2
  replace t3 := Lib.hid t3
  clear c3 hb2 b1 r1 hut
  go_upto_region 2 with fail
  rw [← show W3 = _ from hW3.out, htb.out]
  clear hW3 htb
  obtain ⟨U0, hU⟩ : ∃ W, Hid (W = W3.alloc (.cells #[.int .i64 0, .int .i64 0, .int .i64 0, .int .i64 0] 136)) := ⟨_, Lib.hid rfl⟩
  have c4 : Below W3.heap.size W3 U0 := by rw [hU.out]; exact grewAlloc (Below.refl _ _) _
  have bl0 := Lib.hid (grew b3.out c4)
  have rb0 := Lib.hid (r3.out.below c4 r3.out.lt)
  have tb0 := Lib.hid (t3.out.below c4 t3.out.lt)
  have ab0 : Whole U0 W3.heap.size 136 [.int .i64 0, .int .i64 0, .int .i64 0, .int .i64 0] := by rw [hU.out]; exact Whole.new W3 _ _
  obtain ⟨ab, hab⟩ : ∃ q, Hid (W3.heap.size = q) := ⟨_, Lib.hid rfl⟩
  rw [hab.out] at ab0
  have na : Hid (w.heap.size ≤ ab ∧ rb ≠ ab ∧ tb ≠ ab) := Lib.hid ⟨by rw [← hab.out]; exact b3.out.size, by have := r3.out.lt; have := hab.out; omega, by have := t3.out.lt; have := hab.out; omega⟩
  replace ab0 := Lib.hid ab0
  clear c4 b3 r3 t3
  go_upto_region 6 with fail
  rw [← show U0 = _ from hU.out, hab.out]
  clear hU hab y0 y1 y2
  go_wp2_with fail
  refine wp_loop_rounds 5 ?_
  rw [rounds_succ]
  go_wp2_with fail
  refine (C1.out _).mono ?_
  rintro _ _ ⟨rfl, rfl⟩
  obtain ⟨X1, hX1⟩ : ∃ W, Hid (W = (U0.alloc (.cells #[.int .u64 v1, .int .i64 (n1 : Int), .int .i64 0] 119)).alloc (.cells #[.int .u64 v1, .int .i64 (n1 : Int), .int .i64 0] 119)) := ⟨_, Lib.hid rfl⟩
  have cx : Below U0.heap.size U0 X1 := by rw [hX1.out]; exact grewAlloc (grewAlloc (Below.refl _ _) _) _
  have gx : Whole X1 (U0.heap.size + 1) 119 [.int .u64 v1, .int .i64 (n1 : Int), .int .i64 0] := by
    rw [hX1.out]
    have := Whole.new (U0.alloc (.cells #[.int .u64 v1, .int .i64 (n1 : Int), .int .i64 0] 119)) 119 [.int .u64 v1, .int .i64 (n1 : Int), .int .i64 0]
    rwa [show (U0.alloc (.cells #[.int .u64 v1, .int .i64 (n1 : Int), .int .i64 0] 119)).heap.size = U0.heap.size + 1 from by simp] at this
  obtain ⟨gb1, hgb1⟩ : ∃ q, Hid (U0.heap.size + 1 = q) := ⟨_, Lib.hid rfl⟩
  rw [hgb1.out] at gx
  have hgn1 : gb1 ≠ ab := by have := ab0.out.lt; have := hgb1.out; omega
  have hgm1 : ab ≠ gb1 := fun e => hgn1 e.symm
  have g0 : X1.cell? ⟨gb1, 0, none⟩ = some (.int .u64 v1) := gx.cell 0
  have g1 : X1.cell? ⟨gb1, 1, none⟩ = some (.int .i64 (n1 : Int)) := gx.cell 1
  have g2 : X1.cell? ⟨gb1, 2, none⟩ = some (.int .i64 0) := gx.cell 2
  have blx := Lib.hid (grew bl0.out cx)
  have rbx := Lib.hid (rb0.out.below cx rb0.out.lt)
  have tbx := Lib.hid (tb0.out.below cx tb0.out.lt)
  have abx := ab0.out.below cx ab0.out.lt
  have a0 : X1.cell? ⟨ab, 0, none⟩ = some (.int .i64 0) := abx.cell 0
  have f0 : X1.frozen? ⟨ab, 0, none⟩ = false := abx.frozen 0
  replace abx := Lib.hid abx
  clear cx gx bl0 rb0 tb0 ab0 C1
  go_upto_region 10 with fail
  rw [← show X1 = _ from hX1.out]
  rw [hgb1.out]
  clear hX1 hgb1
  have bl1 := Lib.hid (below_store blx.out na.out.1 (Nat.le_refl _) 0 [(.int .i64 v1)])
  have rb1 := Lib.hid (rbx.out.far na.out.2.1 0 [(.int .i64 v1)])
  have tb1 := Lib.hid (tbx.out.far na.out.2.2 0 [(.int .i64 v1)])
  have ab1 : Hid (Whole (X1.setCell ⟨ab, 0, none⟩ (.int .i64 v1)) ab 136 [.int .i64 v1, .int .i64 0, .int .i64 0, .int .i64 0]) := Lib.hid (abx.out.store 0 [(.int .i64 v1)] (by simp))
  simp only [World.setCells] at bl1 rb1 tb1
  go_wp2_with fail
  generalize X1.setCell ⟨ab, 0, none⟩ (.int .i64 v1) = U1 at *
  clear a0 f0 g0 g1 g2 blx rbx tbx abx
  rw [rounds_succ]
  go_wp2_with fail
  refine (C2.out _).mono ?_
  rintro _ _ ⟨rfl, rfl⟩
  obtain ⟨X2, hX2⟩ : ∃ W, Hid (W = (U1.alloc (.cells #[.int .u64 v2, .int .i64 (n2 : Int), .int .i64 0] 119)).alloc (.cells #[.int .u64 v2, .int .i64 (n2 : Int), .int .i64 0] 119)) := ⟨_, Lib.hid rfl⟩
  have cx : Below U1.heap.size U1 X2 := by rw [hX2.out]; exact grewAlloc (grewAlloc (Below.refl _ _) _) _
  have gx : Whole X2 (U1.heap.size + 1) 119 [.int .u64 v2, .int .i64 (n2 : Int), .int .i64 0] := by
    rw [hX2.out]
    have := Whole.new (U1.alloc (.cells #[.int .u64 v2, .int .i64 (n2 : Int), .int .i64 0] 119)) 119 [.int .u64 v2, .int .i64 (n2 : Int), .int .i64 0]
    rwa [show (U1.alloc (.cells #[.int .u64 v2, .int .i64 (n2 : Int), .int .i64 0] 119)).heap.size = U1.heap.size + 1 from by simp] at this
  obtain ⟨gb2, hgb2⟩ : ∃ q, Hid (U1.heap.size + 1 = q) := ⟨_, Lib.hid rfl⟩
  rw [hgb2.out] at gx
  have hgn2 : gb2 ≠ ab := by have := ab1.out.lt; have := hgb2.out; omega
  have hgm2 : ab ≠ gb2 := fun e => hgn2 e.symm
  have g0 : X2.cell? ⟨gb2, 0, none⟩ = some (.int .u64 v2) := gx.cell 0
  have g1 : X2.cell? ⟨gb2, 1, none⟩ = some (.int .i64 (n2 : Int)) := gx.cell 1
  have g2 : X2.cell? ⟨gb2, 2, none⟩ = some (.int .i64 0) := gx.cell 2
  have blx := Lib.hid (grew bl1.out cx)
  have rbx := Lib.hid (rb1.out.below cx rb1.out.lt)
  have tbx := Lib.hid (tb1.out.below cx tb1.out.lt)
  have abx := ab1.out.below cx ab1.out.lt
  have a0 : X2.cell? ⟨ab, 1, none⟩ = some (.int .i64 0) := abx.cell 1
  have f0 : X2.frozen? ⟨ab, 1, none⟩ = false := abx.frozen 1
  replace abx := Lib.hid abx
  clear cx gx bl1 rb1 tb1 ab1 C2
  go_upto_region 10 with fail
  rw [← show X2 = _ from hX2.out]
  rw [hgb2.out]
  clear hX2 hgb2
  have bl2 := Lib.hid (below_store blx.out na.out.1 (Nat.le_refl _) 1 [(.int .i64 v2)])
  have rb2 := Lib.hid (rbx.out.far na.out.2.1 1 [(.int .i64 v2)])
  have tb2 := Lib.hid (tbx.out.far na.out.2.2 1 [(.int .i64 v2)])
  have ab2 : Hid (Whole (X2.setCell ⟨ab, 1, none⟩ (.int .i64 v2)) ab 136 [.int .i64 v1, .int .i64 v2, .int .i64 0, .int .i64 0]) := Lib.hid (abx.out.store 1 [(.int .i64 v2)] (by simp))
  simp only [World.setCells] at bl2 rb2 tb2
  go_wp2_with fail
  generalize X2.setCell ⟨ab, 1, none⟩ (.int .i64 v2) = U2 at *
  clear a0 f0 g0 g1 g2 blx rbx tbx abx
  rw [rounds_succ]
  go_wp2_with fail
  refine (C3.out _).mono ?_
  rintro _ _ ⟨rfl, rfl⟩
  obtain ⟨X3, hX3⟩ : ∃ W, Hid (W = (U2.alloc (.cells #[.int .u64 v3, .int .i64 (n3 : Int), .int .i64 0] 119)).alloc (.cells #[.int .u64 v3, .int .i64 (n3 : Int), .int .i64 0] 119)) := ⟨_, Lib.hid rfl⟩
  have cx : Below U2.heap.size U2 X3 := by rw [hX3.out]; exact grewAlloc (grewAlloc (Below.refl _ _) _) _
  have gx : Whole X3 (U2.heap.size + 1) 119 [.int .u64 v3, .int .i64 (n3 : Int), .int .i64 0] := by
    rw [hX3.out]
    have := Whole.new (U2.alloc (.cells #[.int .u64 v3, .int .i64 (n3 : Int), .int .i64 0] 119)) 119 [.int .u64 v3, .int .i64 (n3 : Int), .int .i64 0]
    rwa [show (U2.alloc (.cells #[.int .u64 v3, .int .i64 (n3 : Int), .int .i64 0] 119)).heap.size = U2.heap.size + 1 from by simp] at this
  obtain ⟨gb3, hgb3⟩ : ∃ q, Hid (U2.heap.size + 1 = q) := ⟨_, Lib.hid rfl⟩
  rw [hgb3.out] at gx
  have hgn3 : gb3 ≠ ab := by have := ab2.out.lt; have := hgb3.out; omega
  have hgm3 : ab ≠ gb3 := fun e => hgn3 e.symm
  have g0 : X3.cell? ⟨gb3, 0, none⟩ = some (.int .u64 v3) := gx.cell 0
  have g1 : X3.cell? ⟨gb3, 1, none⟩ = some (.int .i64 (n3 : Int)) := gx.cell 1
  have g2 : X3.cell? ⟨gb3, 2, none⟩ = some (.int .i64 0) := gx.cell 2
  have blx := Lib.hid (grew bl2.out cx)
  have rbx := Lib.hid (rb2.out.below cx rb2.out.lt)
  have tbx := Lib.hid (tb2.out.below cx tb2.out.lt)
  have abx := ab2.out.below cx ab2.out.lt
  have a0 : X3.cell? ⟨ab, 2, none⟩ = some (.int .i64 0) := abx.cell 2
  have f0 : X3.frozen? ⟨ab, 2, none⟩ = false := abx.frozen 2
  replace abx := Lib.hid abx
  clear cx gx bl2 rb2 tb2 ab2 C3
  go_upto_region 10 with fail
  rw [← show X3 = _ from hX3.out]
  rw [hgb3.out]
  clear hX3 hgb3
  have bl3 := Lib.hid (below_store blx.out na.out.1 (Nat.le_refl _) 2 [(.int .i64 v3)])
  have rb3 := Lib.hid (rbx.out.far na.out.2.1 2 [(.int .i64 v3)])
  have tb3 := Lib.hid (tbx.out.far na.out.2.2 2 [(.int .i64 v3)])
  have ab3 : Hid (Whole (X3.setCell ⟨ab, 2, none⟩ (.int .i64 v3)) ab 136 [.int .i64 v1, .int .i64 v2, .int .i64 v3, .int .i64 0]) := Lib.hid (abx.out.store 2 [(.int .i64 v3)] (by simp))
  simp only [World.setCells] at bl3 rb3 tb3
  go_wp2_with fail
  generalize X3.setCell ⟨ab, 2, none⟩ (.int .i64 v3) = U3 at *
  clear a0 f0 g0 g1 g2 blx rbx tbx abx
  rw [rounds_succ]
  go_wp2_with fail
  refine (C4.out _).mono ?_
  rintro _ _ ⟨rfl, rfl⟩
  obtain ⟨X4, hX4⟩ : ∃ W, Hid (W = (U3.alloc (.cells #[.int .u64 v4, .int .i64 (n4 : Int), .int .i64 0] 119)).alloc (.cells #[.int .u64 v4, .int .i64 (n4 : Int), .int .i64 0] 119)) := ⟨_, Lib.hid rfl⟩
  have cx : Below U3.heap.size U3 X4 := by rw [hX4.out]; exact grewAlloc (grewAlloc (Below.refl _ _) _) _
  have gx : Whole X4 (U3.heap.size + 1) 119 [.int .u64 v4, .int .i64 (n4 : Int), .int .i64 0] := by
    rw [hX4.out]
    have := Whole.new (U3.alloc (.cells #[.int .u64 v4, .int .i64 (n4 : Int), .int .i64 0] 119)) 119 [.int .u64 v4, .int .i64 (n4 : Int), .int .i64 0]
    rwa [show (U3.alloc (.cells #[.int .u64 v4, .int .i64 (n4 : Int), .int .i64 0] 119)).heap.size = U3.heap.size + 1 from by simp] at this
  obtain ⟨gb4, hgb4⟩ : ∃ q, Hid (U3.heap.size + 1 = q) := ⟨_, Lib.hid rfl⟩
  rw [hgb4.out] at gx
  have hgn4 : gb4 ≠ ab := by have := ab3.out.lt; have := hgb4.out; omega
  have hgm4 : ab ≠ gb4 := fun e => hgn4 e.symm
  have g0 : X4.cell? ⟨gb4, 0, none⟩ = some (.int .u64 v4) := gx.cell 0
  have g1 : X4.cell? ⟨gb4, 1, none⟩ = some (.int .i64 (n4 : Int)) := gx.cell 1
  have g2 : X4.cell? ⟨gb4, 2, none⟩ = some (.int .i64 0) := gx.cell 2
  have blx := Lib.hid (grew bl3.out cx)
  have rbx := Lib.hid (rb3.out.below cx rb3.out.lt)
  have tbx := Lib.hid (tb3.out.below cx tb3.out.lt)
  have abx := ab3.out.below cx ab3.out.lt
  have a0 : X4.cell? ⟨ab, 3, none⟩ = some (.int .i64 0) := abx.cell 3
  have f0 : X4.frozen? ⟨ab, 3, none⟩ = false := abx.frozen 3
  replace abx := Lib.hid abx
  clear cx gx bl3 rb3 tb3 ab3 C4
  go_upto_region 10 with fail
  rw [← show X4 = _ from hX4.out]
  rw [hgb4.out]
  clear hX4 hgb4
  have kb : ¬ v4 ≤ 1099511627776 := by omega
  go_wp2_with (with_reducible refine zStore 114 _ _ rfl ?_)
  refine Lib.hid ?_
  refine wpList_store_mid rfl 114 _ _ rfl rb 0 #[.string ⟨#[]⟩, .int .i64 0, .int .i64 0, .int .i64 0, .bool false, .int .i64 0, .bool false] rfl rfl (rbx.out.there 0 7 (by simp)) sizeGot22 (by simp [Value.oneCell']) ?_
  go_wp2_with fail
  have hfin := whole_all rbx.out (vs := [.string ⟨#[]⟩, .int .i64 0, .int .i64 0, .int .i64 0, .bool false, .int .i64 0, .bool false]) rfl
  exact bodyPost_ret (result_cell Tryz.results61 rfl hfin.range Tryz.underlying114 rfl sizeGot22) rfl ⟨rfl, below_store blx.out hrb.out (Nat.le_refl _) 0 _⟩
set_option maxRecDepth 100000 in
set_option maxHeartbeats 4000000 in
theorem rdec22_endbig (s : ByteArray) (w : World) (hs : s.size ≤ 100000) (nm : ByteArray) (p0 : Nat) (v1 : Int) (p1 : Nat) (v2 : Int) (p2 : Nat) (v3 : Int) (p3 : Nat) (v4 : Int) (p4 : Nat) (h0 : txAt s 0 = some (nm, p0)) (h1 : chAt s.data.toList p0 = some (v1, p1)) (k1 : v1 ≤ 1099511627776) (h2 : chAt s.data.toList p1 = some (v2, p2)) (k2 : v2 ≤ 1099511627776) (h3 : chAt s.data.toList p2 = some (v3, p3)) (k3 : v3 ≤ 1099511627776) (h4 : chAt s.data.toList p3 = some (v4, p4)) (k4 : v4 ≤ 1099511627776) (k5 : 1 < v4) :
    Calls Tryz.prog 61 #[.string s] w fun e w' => e = .returned (.agg #[.string ⟨#[]⟩, .int .i64 0, .int .i64 0, .int .i64 0, .bool false, .int .i64 0, .bool false]) ∧ Below w.heap.size w w' := by
  have hsl : s.data.toList.length = s.size := by simp
  obtain ⟨W1, hW1⟩ : ∃ W, Hid (W = w.alloc (.cells #[.string ⟨#[]⟩, .int .i64 0, .int .i64 0, .int .i64 0, .bool false, .int .i64 0, .bool false] 114)) := ⟨_, Lib.hid rfl⟩
  have b1 : Below w.heap.size w W1 := by rw [hW1.out]; exact grewAlloc (Below.refl _ _) _
  have r1 : Whole W1 w.heap.size 114 [.string ⟨#[]⟩, .int .i64 0, .int .i64 0, .int .i64 0, .bool false, .int .i64 0, .bool false] := by rw [hW1.out]; exact Whole.new w _ _
  obtain ⟨rb, hrb0⟩ : ∃ q, Hid (w.heap.size = q) := ⟨_, Lib.hid rfl⟩
  rw [hrb0.out] at r1
  have hrb : Hid (w.heap.size ≤ rb) := Lib.hid (by rw [hrb0.out]; exact Nat.le_refl _)
  have hut := fun W => runtext_any s W (by omega)
  obtain ⟨hU0, hp0⟩ := txAt_yes h0
  rw [ext_all] at hU0
  rw [hU0] at hut
  have z1 := slice_from22 s p0 (by omega)
  have C1 := fun W => runchain_any (s.extract p0 s.size) W (by have := ext_le s p0 hs; omega)
  rw [ext_drop] at C1
  obtain ⟨n1, hU1, hq1, hp1, vl1, vh1⟩ := chAt_yes h1 (by omega)
  rw [hU1] at C1
  have hw1 : IntKind.i64.wrap ((p0 : Int) + (n1 : Int)) = (p1 : Int) := by rw [IntWalk.i64_in _ (by omega)]; omega
  have hv1 : IntKind.i64.wrap v1 = v1 := IntWalk.i64_in _ (by omega)
  have hv1b : wrap64 v1 = v1 := wrap64_low vl1 (by omega)
  clear hU1 h1
  replace C1 := Lib.hid C1
  have z2 := slice_from22 s p1 (by omega)
  have C2 := fun W => runchain_any (s.extract p1 s.size) W (by have := ext_le s p1 hs; omega)
  rw [ext_drop] at C2
  obtain ⟨n2, hU2, hq2, hp2, vl2, vh2⟩ := chAt_yes h2 (by omega)
  rw [hU2] at C2
  have hw2 : IntKind.i64.wrap ((p1 : Int) + (n2 : Int)) = (p2 : Int) := by rw [IntWalk.i64_in _ (by omega)]; omega
  have hv2 : IntKind.i64.wrap v2 = v2 := IntWalk.i64_in _ (by omega)
  have hv2b : wrap64 v2 = v2 := wrap64_low vl2 (by omega)
  clear hU2 h2
  replace C2 := Lib.hid C2
  have z3 := slice_from22 s p2 (by omega)
  have C3 := fun W => runchain_any (s.extract p2 s.size) W (by have := ext_le s p2 hs; omega)
  rw [ext_drop] at C3
  obtain ⟨n3, hU3, hq3, hp3, vl3, vh3⟩ := chAt_yes h3 (by omega)
  rw [hU3] at C3
  have hw3 : IntKind.i64.wrap ((p2 : Int) + (n3 : Int)) = (p3 : Int) := by rw [IntWalk.i64_in _ (by omega)]; omega
  have hv3 : IntKind.i64.wrap v3 = v3 := IntWalk.i64_in _ (by omega)
  have hv3b : wrap64 v3 = v3 := wrap64_low vl3 (by omega)
  clear hU3 h3
  replace C3 := Lib.hid C3
  have z4 := slice_from22 s p3 (by omega)
  have C4 := fun W => runchain_any (s.extract p3 s.size) W (by have := ext_le s p3 hs; omega)
  rw [ext_drop] at C4
  obtain ⟨n4, hU4, hq4, hp4, vl4, vh4⟩ := chAt_yes h4 (by omega)
  rw [hU4] at C4
  have hw4 : IntKind.i64.wrap ((p3 : Int) + (n4 : Int)) = (p4 : Int) := by rw [IntWalk.i64_in _ (by omega)]; omega
  have hv4 : IntKind.i64.wrap v4 = v4 := IntWalk.i64_in _ (by omega)
  have hv4b : wrap64 v4 = v4 := wrap64_low vl4 (by omega)
  clear hU4 h4
  replace C4 := Lib.hid C4
  replace hut := Lib.hid hut
  replace r1 := Lib.hid r1
  replace b1 := Lib.hid b1
  clear hU0 h0 hp0
  clear hq1 hp1 vl1 vh1
  clear hq2 hp2 vl2 vh2
  clear hq3 hp3 vl3 vh3
  clear hq4 hp4 vl4 vh4
  go_enter Tryz.func61, Tryz.ntmps61
  go_upto_region 1 with fail
  rw [← show W1 = _ from hW1.out, hrb0.out]
  clear hW1
  go_wp2_with fail
  refine (hut.out _).mono ?_
  rintro _ w2 ⟨rfl, hb2⟩
  obtain ⟨W3, hW3⟩ : ∃ W, Hid (W = w2.alloc (.cells #[.string nm, .int .i64 (p0 : Int), .int .i64 0] 86)) := ⟨_, Lib.hid rfl⟩
  have c3 : Below w2.heap.size w2 W3 := by rw [hW3.out]; exact grewAlloc (Below.refl _ _) _
  have b3 := Lib.hid (grew (grew b1.out hb2) c3)
  have r3 := Lib.hid ((r1.out.below hb2 r1.out.lt).below c3 (r1.out.below hb2 r1.out.lt).lt)
  have t3 : Whole W3 w2.heap.size 86 [.string nm, .int .i64 (p0 : Int), .int .i64 0] := by rw [hW3.out]; exact Whole.new w2 _ _
  obtain ⟨tb, htb⟩ : ∃ q, Hid (w2.heap.size = q) := ⟨_, Lib.hid rfl⟩
  rw [htb.out] at t3
  have y0 : W3.cell? ⟨tb, 0, none⟩ = some (.string nm) := t3.cell 0
  have y1 : W3.cell? ⟨tb, 1, none⟩ = some (.int .i64 (p0 : Int)) := t3.cell 1
  have y2 : W3.cell? ⟨tb, 2, none⟩ = some (.int .i64 0) := t3.cell 2
  replace t3 := Lib.hid t3
  clear c3 hb2 b1 r1 hut
  go_upto_region 2 with fail
  rw [← show W3 = _ from hW3.out, htb.out]
  clear hW3 htb
  obtain ⟨U0, hU⟩ : ∃ W, Hid (W = W3.alloc (.cells #[.int .i64 0, .int .i64 0, .int .i64 0, .int .i64 0] 136)) := ⟨_, Lib.hid rfl⟩
  have c4 : Below W3.heap.size W3 U0 := by rw [hU.out]; exact grewAlloc (Below.refl _ _) _
  have bl0 := Lib.hid (grew b3.out c4)
  have rb0 := Lib.hid (r3.out.below c4 r3.out.lt)
  have tb0 := Lib.hid (t3.out.below c4 t3.out.lt)
  have ab0 : Whole U0 W3.heap.size 136 [.int .i64 0, .int .i64 0, .int .i64 0, .int .i64 0] := by rw [hU.out]; exact Whole.new W3 _ _
  obtain ⟨ab, hab⟩ : ∃ q, Hid (W3.heap.size = q) := ⟨_, Lib.hid rfl⟩
  rw [hab.out] at ab0
  have na : Hid (w.heap.size ≤ ab ∧ rb ≠ ab ∧ tb ≠ ab) := Lib.hid ⟨by rw [← hab.out]; exact b3.out.size, by have := r3.out.lt; have := hab.out; omega, by have := t3.out.lt; have := hab.out; omega⟩
  replace ab0 := Lib.hid ab0
  clear c4 b3 r3 t3
  go_upto_region 6 with fail
  rw [← show U0 = _ from hU.out, hab.out]
  clear hU hab y0 y1 y2
  go_wp2_with fail
  refine wp_loop_rounds 5 ?_
  rw [rounds_succ]
  go_wp2_with fail
  refine (C1.out _).mono ?_
  rintro _ _ ⟨rfl, rfl⟩
  obtain ⟨X1, hX1⟩ : ∃ W, Hid (W = (U0.alloc (.cells #[.int .u64 v1, .int .i64 (n1 : Int), .int .i64 0] 119)).alloc (.cells #[.int .u64 v1, .int .i64 (n1 : Int), .int .i64 0] 119)) := ⟨_, Lib.hid rfl⟩
  have cx : Below U0.heap.size U0 X1 := by rw [hX1.out]; exact grewAlloc (grewAlloc (Below.refl _ _) _) _
  have gx : Whole X1 (U0.heap.size + 1) 119 [.int .u64 v1, .int .i64 (n1 : Int), .int .i64 0] := by
    rw [hX1.out]
    have := Whole.new (U0.alloc (.cells #[.int .u64 v1, .int .i64 (n1 : Int), .int .i64 0] 119)) 119 [.int .u64 v1, .int .i64 (n1 : Int), .int .i64 0]
    rwa [show (U0.alloc (.cells #[.int .u64 v1, .int .i64 (n1 : Int), .int .i64 0] 119)).heap.size = U0.heap.size + 1 from by simp] at this
  obtain ⟨gb1, hgb1⟩ : ∃ q, Hid (U0.heap.size + 1 = q) := ⟨_, Lib.hid rfl⟩
  rw [hgb1.out] at gx
  have hgn1 : gb1 ≠ ab := by have := ab0.out.lt; have := hgb1.out; omega
  have hgm1 : ab ≠ gb1 := fun e => hgn1 e.symm
  have g0 : X1.cell? ⟨gb1, 0, none⟩ = some (.int .u64 v1) := gx.cell 0
  have g1 : X1.cell? ⟨gb1, 1, none⟩ = some (.int .i64 (n1 : Int)) := gx.cell 1
  have g2 : X1.cell? ⟨gb1, 2, none⟩ = some (.int .i64 0) := gx.cell 2
  have blx := Lib.hid (grew bl0.out cx)
  have rbx := Lib.hid (rb0.out.below cx rb0.out.lt)
  have tbx := Lib.hid (tb0.out.below cx tb0.out.lt)
  have abx := ab0.out.below cx ab0.out.lt
  have a0 : X1.cell? ⟨ab, 0, none⟩ = some (.int .i64 0) := abx.cell 0
  have f0 : X1.frozen? ⟨ab, 0, none⟩ = false := abx.frozen 0
  replace abx := Lib.hid abx
  clear cx gx bl0 rb0 tb0 ab0 C1
  go_upto_region 10 with fail
  rw [← show X1 = _ from hX1.out]
  rw [hgb1.out]
  clear hX1 hgb1
  have bl1 := Lib.hid (below_store blx.out na.out.1 (Nat.le_refl _) 0 [(.int .i64 v1)])
  have rb1 := Lib.hid (rbx.out.far na.out.2.1 0 [(.int .i64 v1)])
  have tb1 := Lib.hid (tbx.out.far na.out.2.2 0 [(.int .i64 v1)])
  have ab1 : Hid (Whole (X1.setCell ⟨ab, 0, none⟩ (.int .i64 v1)) ab 136 [.int .i64 v1, .int .i64 0, .int .i64 0, .int .i64 0]) := Lib.hid (abx.out.store 0 [(.int .i64 v1)] (by simp))
  simp only [World.setCells] at bl1 rb1 tb1
  go_wp2_with fail
  generalize X1.setCell ⟨ab, 0, none⟩ (.int .i64 v1) = U1 at *
  clear a0 f0 g0 g1 g2 blx rbx tbx abx
  rw [rounds_succ]
  go_wp2_with fail
  refine (C2.out _).mono ?_
  rintro _ _ ⟨rfl, rfl⟩
  obtain ⟨X2, hX2⟩ : ∃ W, Hid (W = (U1.alloc (.cells #[.int .u64 v2, .int .i64 (n2 : Int), .int .i64 0] 119)).alloc (.cells #[.int .u64 v2, .int .i64 (n2 : Int), .int .i64 0] 119)) := ⟨_, Lib.hid rfl⟩
  have cx : Below U1.heap.size U1 X2 := by rw [hX2.out]; exact grewAlloc (grewAlloc (Below.refl _ _) _) _
  have gx : Whole X2 (U1.heap.size + 1) 119 [.int .u64 v2, .int .i64 (n2 : Int), .int .i64 0] := by
    rw [hX2.out]
    have := Whole.new (U1.alloc (.cells #[.int .u64 v2, .int .i64 (n2 : Int), .int .i64 0] 119)) 119 [.int .u64 v2, .int .i64 (n2 : Int), .int .i64 0]
    rwa [show (U1.alloc (.cells #[.int .u64 v2, .int .i64 (n2 : Int), .int .i64 0] 119)).heap.size = U1.heap.size + 1 from by simp] at this
  obtain ⟨gb2, hgb2⟩ : ∃ q, Hid (U1.heap.size + 1 = q) := ⟨_, Lib.hid rfl⟩
  rw [hgb2.out] at gx
  have hgn2 : gb2 ≠ ab := by have := ab1.out.lt; have := hgb2.out; omega
  have hgm2 : ab ≠ gb2 := fun e => hgn2 e.symm
  have g0 : X2.cell? ⟨gb2, 0, none⟩ = some (.int .u64 v2) := gx.cell 0
  have g1 : X2.cell? ⟨gb2, 1, none⟩ = some (.int .i64 (n2 : Int)) := gx.cell 1
  have g2 : X2.cell? ⟨gb2, 2, none⟩ = some (.int .i64 0) := gx.cell 2
  have blx := Lib.hid (grew bl1.out cx)
  have rbx := Lib.hid (rb1.out.below cx rb1.out.lt)
  have tbx := Lib.hid (tb1.out.below cx tb1.out.lt)
  have abx := ab1.out.below cx ab1.out.lt
  have a0 : X2.cell? ⟨ab, 1, none⟩ = some (.int .i64 0) := abx.cell 1
  have f0 : X2.frozen? ⟨ab, 1, none⟩ = false := abx.frozen 1
  replace abx := Lib.hid abx
  clear cx gx bl1 rb1 tb1 ab1 C2
  go_upto_region 10 with fail
  rw [← show X2 = _ from hX2.out]
  rw [hgb2.out]
  clear hX2 hgb2
  have bl2 := Lib.hid (below_store blx.out na.out.1 (Nat.le_refl _) 1 [(.int .i64 v2)])
  have rb2 := Lib.hid (rbx.out.far na.out.2.1 1 [(.int .i64 v2)])
  have tb2 := Lib.hid (tbx.out.far na.out.2.2 1 [(.int .i64 v2)])
  have ab2 : Hid (Whole (X2.setCell ⟨ab, 1, none⟩ (.int .i64 v2)) ab 136 [.int .i64 v1, .int .i64 v2, .int .i64 0, .int .i64 0]) := Lib.hid (abx.out.store 1 [(.int .i64 v2)] (by simp))
  simp only [World.setCells] at bl2 rb2 tb2
  go_wp2_with fail
  generalize X2.setCell ⟨ab, 1, none⟩ (.int .i64 v2) = U2 at *
  clear a0 f0 g0 g1 g2 blx rbx tbx abx
  rw [rounds_succ]
  go_wp2_with fail
  refine (C3.out _).mono ?_
  rintro _ _ ⟨rfl, rfl⟩
  obtain ⟨X3, hX3⟩ : ∃ W, Hid (W = (U2.alloc (.cells #[.int .u64 v3, .int .i64 (n3 : Int), .int .i64 0] 119)).alloc (.cells #[.int .u64 v3, .int .i64 (n3 : Int), .int .i64 0] 119)) := ⟨_, Lib.hid rfl⟩
  have cx : Below U2.heap.size U2 X3 := by rw [hX3.out]; exact grewAlloc (grewAlloc (Below.refl _ _) _) _
  have gx : Whole X3 (U2.heap.size + 1) 119 [.int .u64 v3, .int .i64 (n3 : Int), .int .i64 0] := by
    rw [hX3.out]
    have := Whole.new (U2.alloc (.cells #[.int .u64 v3, .int .i64 (n3 : Int), .int .i64 0] 119)) 119 [.int .u64 v3, .int .i64 (n3 : Int), .int .i64 0]
    rwa [show (U2.alloc (.cells #[.int .u64 v3, .int .i64 (n3 : Int), .int .i64 0] 119)).heap.size = U2.heap.size + 1 from by simp] at this
  obtain ⟨gb3, hgb3⟩ : ∃ q, Hid (U2.heap.size + 1 = q) := ⟨_, Lib.hid rfl⟩
  rw [hgb3.out] at gx
  have hgn3 : gb3 ≠ ab := by have := ab2.out.lt; have := hgb3.out; omega
  have hgm3 : ab ≠ gb3 := fun e => hgn3 e.symm
  have g0 : X3.cell? ⟨gb3, 0, none⟩ = some (.int .u64 v3) := gx.cell 0
  have g1 : X3.cell? ⟨gb3, 1, none⟩ = some (.int .i64 (n3 : Int)) := gx.cell 1
  have g2 : X3.cell? ⟨gb3, 2, none⟩ = some (.int .i64 0) := gx.cell 2
  have blx := Lib.hid (grew bl2.out cx)
  have rbx := Lib.hid (rb2.out.below cx rb2.out.lt)
  have tbx := Lib.hid (tb2.out.below cx tb2.out.lt)
  have abx := ab2.out.below cx ab2.out.lt
  have a0 : X3.cell? ⟨ab, 2, none⟩ = some (.int .i64 0) := abx.cell 2
  have f0 : X3.frozen? ⟨ab, 2, none⟩ = false := abx.frozen 2
  replace abx := Lib.hid abx
  clear cx gx bl2 rb2 tb2 ab2 C3
  go_upto_region 10 with fail
  rw [← show X3 = _ from hX3.out]
  rw [hgb3.out]
  clear hX3 hgb3
  have bl3 := Lib.hid (below_store blx.out na.out.1 (Nat.le_refl _) 2 [(.int .i64 v3)])
  have rb3 := Lib.hid (rbx.out.far na.out.2.1 2 [(.int .i64 v3)])
  have tb3 := Lib.hid (tbx.out.far na.out.2.2 2 [(.int .i64 v3)])
  have ab3 : Hid (Whole (X3.setCell ⟨ab, 2, none⟩ (.int .i64 v3)) ab 136 [.int .i64 v1, .int .i64 v2, .int .i64 v3, .int .i64 0]) := Lib.hid (abx.out.store 2 [(.int .i64 v3)] (by simp))
  simp only [World.setCells] at bl3 rb3 tb3
  go_wp2_with fail
  generalize X3.setCell ⟨ab, 2, none⟩ (.int .i64 v3) = U3 at *
  clear a0 f0 g0 g1 g2 blx rbx tbx abx
  rw [rounds_succ]
  go_wp2_with fail
  refine (C4.out _).mono ?_
  rintro _ _ ⟨rfl, rfl⟩
  obtain ⟨X4, hX4⟩ : ∃ W, Hid (W = (U3.alloc (.cells #[.int .u64 v4, .int .i64 (n4 : Int), .int .i64 0] 119)).alloc (.cells #[.int .u64 v4, .int .i64 (n4 : Int), .int .i64 0] 119)) := ⟨_, Lib.hid rfl⟩
  have cx : Below U3.heap.size U3 X4 := by rw [hX4.out]; exact grewAlloc (grewAlloc (Below.refl _ _) _) _
  have gx : Whole X4 (U3.heap.size + 1) 119 [.int .u64 v4, .int .i64 (n4 : Int), .int .i64 0] := by
    rw [hX4.out]
    have := Whole.new (U3.alloc (.cells #[.int .u64 v4, .int .i64 (n4 : Int), .int .i64 0] 119)) 119 [.int .u64 v4, .int .i64 (n4 : Int), .int .i64 0]
    rwa [show (U3.alloc (.cells #[.int .u64 v4, .int .i64 (n4 : Int), .int .i64 0] 119)).heap.size = U3.heap.size + 1 from by simp] at this
  obtain ⟨gb4, hgb4⟩ : ∃ q, Hid (U3.heap.size + 1 = q) := ⟨_, Lib.hid rfl⟩
  rw [hgb4.out] at gx
  have hgn4 : gb4 ≠ ab := by have := ab3.out.lt; have := hgb4.out; omega
  have hgm4 : ab ≠ gb4 := fun e => hgn4 e.symm
  have g0 : X4.cell? ⟨gb4, 0, none⟩ = some (.int .u64 v4) := gx.cell 0
  have g1 : X4.cell? ⟨gb4, 1, none⟩ = some (.int .i64 (n4 : Int)) := gx.cell 1
  have g2 : X4.cell? ⟨gb4, 2, none⟩ = some (.int .i64 0) := gx.cell 2
  have blx := Lib.hid (grew bl3.out cx)
  have rbx := Lib.hid (rb3.out.below cx rb3.out.lt)
  have tbx := Lib.hid (tb3.out.below cx tb3.out.lt)
  have abx := ab3.out.below cx ab3.out.lt
  have a0 : X4.cell? ⟨ab, 3, none⟩ = some (.int .i64 0) := abx.cell 3
  have f0 : X4.frozen? ⟨ab, 3, none⟩ = false := abx.frozen 3
  replace abx := Lib.hid abx
  clear cx gx bl3 rb3 tb3 ab3 C4
  go_upto_region 10 with fail
  rw [← show X4 = _ from hX4.out]
  rw [hgb4.out]
  clear hX4 hgb4
  have bl4 := Lib.hid (below_store blx.out na.out.1 (Nat.le_refl _) 3 [(.int .i64 v4)])
  have rb4 := Lib.hid (rbx.out.far na.out.2.1 3 [(.int .i64 v4)])
  have tb4 := Lib.hid (tbx.out.far na.out.2.2 3 [(.int .i64 v4)])
  have ab4 : Hid (Whole (X4.setCell ⟨ab, 3, none⟩ (.int .i64 v4)) ab 136 [.int .i64 v1, .int .i64 v2, .int .i64 v3, .int .i64 v4]) := Lib.hid (abx.out.store 3 [(.int .i64 v4)] (by simp))
  simp only [World.setCells] at bl4 rb4 tb4
  go_wp2_with fail
  generalize X4.setCell ⟨ab, 3, none⟩ (.int .i64 v4) = U4 at *
  clear a0 f0 g0 g1 g2 blx rbx tbx abx
  rw [rounds_succ]
  have a0 : U4.cell? ⟨ab, 0, none⟩ = some (.int .i64 v1) := ab4.out.cell 0
  have a1 : U4.cell? ⟨ab, 1, none⟩ = some (.int .i64 v2) := ab4.out.cell 1
  have a2 : U4.cell? ⟨ab, 2, none⟩ = some (.int .i64 v3) := ab4.out.cell 2
  have a3 : U4.cell? ⟨ab, 3, none⟩ = some (.int .i64 v4) := ab4.out.cell 3
  have y0 : U4.cell? ⟨tb, 0, none⟩ = some (.string nm) := tb4.out.cell 0
  have kb : ¬ v4 ≤ 1 := by omega
  obtain ⟨C, hC⟩ : ∃ C, Hid (decide (v4 = 1) = C) := ⟨_, Lib.hid rfl⟩
  have hCe : (v4 == 1) = C := by rw [← hC.out, Bool.eq_iff_iff]; simp
  obtain ⟨S, hS⟩ : ∃ W, Hid (W = U4.alloc (.cells #[.string nm, .int .i64 v1, .int .i64 v2, .int .i64 v3, .bool C] 31)) := ⟨_, Lib.hid rfl⟩
  have cs : Below U4.heap.size U4 S := by rw [hS.out]; exact grewAlloc (Below.refl _ _) _
  have xs : Whole S U4.heap.size 31 [.string nm, .int .i64 v1, .int .i64 v2, .int .i64 v3, .bool C] := by rw [hS.out]; exact Whole.new _ _ _
  obtain ⟨xb, hxb⟩ : ∃ q, Hid (U4.heap.size = q) := ⟨_, Lib.hid rfl⟩
  rw [hxb.out] at xs
  have blS := Lib.hid (grew bl4.out cs)
  have rbS := Lib.hid (rb4.out.below cs rb4.out.lt)
  have abS := ab4.out.below cs ab4.out.lt
  have e3 : S.cell? ⟨ab, 3, none⟩ = some (.int .i64 v4) := abS.cell 3
  have x0 : S.cell? ⟨xb, 0, none⟩ = some (.string nm) := xs.cell 0
  have x1 : S.cell? ⟨xb, 1, none⟩ = some (.int .i64 v1) := xs.cell 1
  have x2 : S.cell? ⟨xb, 2, none⟩ = some (.int .i64 v2) := xs.cell 2
  have x3 : S.cell? ⟨xb, 3, none⟩ = some (.int .i64 v3) := xs.cell 3
  have x4 : S.cell? ⟨xb, 4, none⟩ = some (.bool C) := xs.cell 4
  replace xs := Lib.hid xs
  clear cs abS bl4 rb4 tb4 ab4
  go_upto_region 16 with fail
  rw [← show S = _ from hS.out, hxb.out]
  clear hS hxb a0 a1 a2 a3 y0
  go_wp2_with (with_reducible refine zStore 114 _ _ rfl ?_)
  refine Lib.hid ?_
  refine wpList_store_mid rfl 114 _ _ rfl rb 0 #[.string ⟨#[]⟩, .int .i64 0, .int .i64 0, .int .i64 0, .bool false, .int .i64 0, .bool false] rfl rfl (rbS.out.there 0 7 (by simp)) sizeGot22 (by simp [Value.oneCell']) ?_
  go_wp2_with fail
  have hfin := whole_all rbS.out (vs := [.string ⟨#[]⟩, .int .i64 0, .int .i64 0, .int .i64 0, .bool false, .int .i64 0, .bool false]) rfl
  exact bodyPost_ret (result_cell Tryz.results61 rfl hfin.range Tryz.underlying114 rfl sizeGot22) rfl ⟨rfl, below_store blS.out hrb.out (Nat.le_refl _) 0 _⟩
set_option maxRecDepth 100000 in
set_option maxHeartbeats 4000000 in
theorem rdec22_endno (s : ByteArray) (w : World) (hs : s.size ≤ 100000) (nm : ByteArray) (p0 : Nat) (v1 : Int) (p1 : Nat) (v2 : Int) (p2 : Nat) (v3 : Int) (p3 : Nat) (v4 : Int) (p4 : Nat) (h0 : txAt s 0 = some (nm, p0)) (h1 : chAt s.data.toList p0 = some (v1, p1)) (k1 : v1 ≤ 1099511627776) (h2 : chAt s.data.toList p1 = some (v2, p2)) (k2 : v2 ≤ 1099511627776) (h3 : chAt s.data.toList p2 = some (v3, p3)) (k3 : v3 ≤ 1099511627776) (h4 : chAt s.data.toList p3 = some (v4, p4)) (k4 : v4 ≤ 1099511627776) (k5 : v4 ≤ 1) (hm : Sp.may ⟨nm, v1, v2, v3, decide (v4 = 1)⟩ = false) :
    Calls Tryz.prog 61 #[.string s] w fun e w' => e = .returned (.agg #[.string ⟨#[]⟩, .int .i64 0, .int .i64 0, .int .i64 0, .bool false, .int .i64 0, .bool false]) ∧ Below w.heap.size w w' := by
  have hsl : s.data.toList.length = s.size := by simp
  obtain ⟨W1, hW1⟩ : ∃ W, Hid (W = w.alloc (.cells #[.string ⟨#[]⟩, .int .i64 0, .int .i64 0, .int .i64 0, .bool false, .int .i64 0, .bool false] 114)) := ⟨_, Lib.hid rfl⟩
  have b1 : Below w.heap.size w W1 := by rw [hW1.out]; exact grewAlloc (Below.refl _ _) _
  have r1 : Whole W1 w.heap.size 114 [.string ⟨#[]⟩, .int .i64 0, .int .i64 0, .int .i64 0, .bool false, .int .i64 0, .bool false] := by rw [hW1.out]; exact Whole.new w _ _
  obtain ⟨rb, hrb0⟩ : ∃ q, Hid (w.heap.size = q) := ⟨_, Lib.hid rfl⟩
  rw [hrb0.out] at r1
  have hrb : Hid (w.heap.size ≤ rb) := Lib.hid (by rw [hrb0.out]; exact Nat.le_refl _)
  have hut := fun W => runtext_any s W (by omega)
  obtain ⟨hU0, hp0⟩ := txAt_yes h0
  rw [ext_all] at hU0
  rw [hU0] at hut
  have z1 := slice_from22 s p0 (by omega)
  have C1 := fun W => runchain_any (s.extract p0 s.size) W (by have := ext_le s p0 hs; omega)
  rw [ext_drop] at C1
  obtain ⟨n1, hU1, hq1, hp1, vl1, vh1⟩ := chAt_yes h1 (by omega)
  rw [hU1] at C1
  have hw1 : IntKind.i64.wrap ((p0 : Int) + (n1 : Int)) = (p1 : Int) := by rw [IntWalk.i64_in _ (by omega)]; omega
  have hv1 : IntKind.i64.wrap v1 = v1 := IntWalk.i64_in _ (by omega)
  have hv1b : wrap64 v1 = v1 := wrap64_low vl1 (by omega)
  clear hU1 h1
  replace C1 := Lib.hid C1
  have z2 := slice_from22 s p1 (by omega)
  have C2 := fun W => runchain_any (s.extract p1 s.size) W (by have := ext_le s p1 hs; omega)
  rw [ext_drop] at C2
  obtain ⟨n2, hU2, hq2, hp2, vl2, vh2⟩ := chAt_yes h2 (by omega)
  rw [hU2] at C2
  have hw2 : IntKind.i64.wrap ((p1 : Int) + (n2 : Int)) = (p2 : Int) := by rw [IntWalk.i64_in _ (by omega)]; omega
  have hv2 : IntKind.i64.wrap v2 = v2 := IntWalk.i64_in _ (by omega)
  have hv2b : wrap64 v2 = v2 := wrap64_low vl2 (by omega)
  clear hU2 h2
  replace C2 := Lib.hid C2
  have z3 := slice_from22 s p2 (by omega)
  have C3 := fun W => runchain_any (s.extract p2 s.size) W (by have := ext_le s p2 hs; omega)
  rw [ext_drop] at C3
  obtain ⟨n3, hU3, hq3, hp3, vl3, vh3⟩ := chAt_yes h3 (by omega)
  rw [hU3] at C3
  have hw3 : IntKind.i64.wrap ((p2 : Int) + (n3 : Int)) = (p3 : Int) := by rw [IntWalk.i64_in _ (by omega)]; omega
  have hv3 : IntKind.i64.wrap v3 = v3 := IntWalk.i64_in _ (by omega)
  have hv3b : wrap64 v3 = v3 := wrap64_low vl3 (by omega)
  clear hU3 h3
  replace C3 := Lib.hid C3
  have z4 := slice_from22 s p3 (by omega)
  have C4 := fun W => runchain_any (s.extract p3 s.size) W (by have := ext_le s p3 hs; omega)
  rw [ext_drop] at C4
  obtain ⟨n4, hU4, hq4, hp4, vl4, vh4⟩ := chAt_yes h4 (by omega)
  rw [hU4] at C4
  have hw4 : IntKind.i64.wrap ((p3 : Int) + (n4 : Int)) = (p4 : Int) := by rw [IntWalk.i64_in _ (by omega)]; omega
  have hv4 : IntKind.i64.wrap v4 = v4 := IntWalk.i64_in _ (by omega)
  have hv4b : wrap64 v4 = v4 := wrap64_low vl4 (by omega)
  clear hU4 h4
  replace C4 := Lib.hid C4
  have hri := Lib.hid (fun W => rright_any nm v1 v2 v3 (decide (v4 = 1)) W (by have := nm_le h0; omega))
  rw [hm] at hri
  obtain ⟨C, hC⟩ : ∃ C, Hid (decide (v4 = 1) = C) := ⟨_, Lib.hid rfl⟩
  have hCe : (v4 == 1) = C := by rw [← hC.out, Bool.eq_iff_iff]; simp
  rw [hC.out] at hri
  clear hm
  replace hut := Lib.hid hut
  replace r1 := Lib.hid r1
  replace b1 := Lib.hid b1
  clear hU0 h0 hp0
  clear hq1 hp1 vl1 vh1
  clear hq2 hp2 vl2 vh2
  clear hq3 hp3 vl3 vh3
  clear hq4 hp4 vl4 vh4
  go_enter Tryz.func61, Tryz.ntmps61
  go_upto_region 1 with fail
  rw [← show W1 = _ from hW1.out, hrb0.out]
  clear hW1
  go_wp2_with fail
  refine (hut.out _).mono ?_
  rintro _ w2 ⟨rfl, hb2⟩
  obtain ⟨W3, hW3⟩ : ∃ W, Hid (W = w2.alloc (.cells #[.string nm, .int .i64 (p0 : Int), .int .i64 0] 86)) := ⟨_, Lib.hid rfl⟩
  have c3 : Below w2.heap.size w2 W3 := by rw [hW3.out]; exact grewAlloc (Below.refl _ _) _
  have b3 := Lib.hid (grew (grew b1.out hb2) c3)
  have r3 := Lib.hid ((r1.out.below hb2 r1.out.lt).below c3 (r1.out.below hb2 r1.out.lt).lt)
  have t3 : Whole W3 w2.heap.size 86 [.string nm, .int .i64 (p0 : Int), .int .i64 0] := by rw [hW3.out]; exact Whole.new w2 _ _
  obtain ⟨tb, htb⟩ : ∃ q, Hid (w2.heap.size = q) := ⟨_, Lib.hid rfl⟩
  rw [htb.out] at t3
  have y0 : W3.cell? ⟨tb, 0, none⟩ = some (.string nm) := t3.cell 0
  have y1 : W3.cell? ⟨tb, 1, none⟩ = some (.int .i64 (p0 : Int)) := t3.cell 1
  have y2 : W3.cell? ⟨tb, 2, none⟩ = some (.int .i64 0) := t3.cell 2
  replace t3 := Lib.hid t3
  clear c3 hb2 b1 r1 hut
  go_upto_region 2 with fail
  rw [← show W3 = _ from hW3.out, htb.out]
  clear hW3 htb
  obtain ⟨U0, hU⟩ : ∃ W, Hid (W = W3.alloc (.cells #[.int .i64 0, .int .i64 0, .int .i64 0, .int .i64 0] 136)) := ⟨_, Lib.hid rfl⟩
  have c4 : Below W3.heap.size W3 U0 := by rw [hU.out]; exact grewAlloc (Below.refl _ _) _
  have bl0 := Lib.hid (grew b3.out c4)
  have rb0 := Lib.hid (r3.out.below c4 r3.out.lt)
  have tb0 := Lib.hid (t3.out.below c4 t3.out.lt)
  have ab0 : Whole U0 W3.heap.size 136 [.int .i64 0, .int .i64 0, .int .i64 0, .int .i64 0] := by rw [hU.out]; exact Whole.new W3 _ _
  obtain ⟨ab, hab⟩ : ∃ q, Hid (W3.heap.size = q) := ⟨_, Lib.hid rfl⟩
  rw [hab.out] at ab0
  have na : Hid (w.heap.size ≤ ab ∧ rb ≠ ab ∧ tb ≠ ab) := Lib.hid ⟨by rw [← hab.out]; exact b3.out.size, by have := r3.out.lt; have := hab.out; omega, by have := t3.out.lt; have := hab.out; omega⟩
  replace ab0 := Lib.hid ab0
  clear c4 b3 r3 t3
  go_upto_region 6 with fail
  rw [← show U0 = _ from hU.out, hab.out]
  clear hU hab y0 y1 y2
  go_wp2_with fail
  refine wp_loop_rounds 5 ?_
  rw [rounds_succ]
  go_wp2_with fail
  refine (C1.out _).mono ?_
  rintro _ _ ⟨rfl, rfl⟩
  obtain ⟨X1, hX1⟩ : ∃ W, Hid (W = (U0.alloc (.cells #[.int .u64 v1, .int .i64 (n1 : Int), .int .i64 0] 119)).alloc (.cells #[.int .u64 v1, .int .i64 (n1 : Int), .int .i64 0] 119)) := ⟨_, Lib.hid rfl⟩
  have cx : Below U0.heap.size U0 X1 := by rw [hX1.out]; exact grewAlloc (grewAlloc (Below.refl _ _) _) _
  have gx : Whole X1 (U0.heap.size + 1) 119 [.int .u64 v1, .int .i64 (n1 : Int), .int .i64 0] := by
    rw [hX1.out]
    have := Whole.new (U0.alloc (.cells #[.int .u64 v1, .int .i64 (n1 : Int), .int .i64 0] 119)) 119 [.int .u64 v1, .int .i64 (n1 : Int), .int .i64 0]
    rwa [show (U0.alloc (.cells #[.int .u64 v1, .int .i64 (n1 : Int), .int .i64 0] 119)).heap.size = U0.heap.size + 1 from by simp] at this
  obtain ⟨gb1, hgb1⟩ : ∃ q, Hid (U0.heap.size + 1 = q) := ⟨_, Lib.hid rfl⟩
  rw [hgb1.out] at gx
  have hgn1 : gb1 ≠ ab := by have := ab0.out.lt; have := hgb1.out; omega
  have hgm1 : ab ≠ gb1 := fun e => hgn1 e.symm
  have g0 : X1.cell? ⟨gb1, 0, none⟩ = some (.int .u64 v1) := gx.cell 0
  have g1 : X1.cell? ⟨gb1, 1, none⟩ = some (.int .i64 (n1 : Int)) := gx.cell 1
  have g2 : X1.cell? ⟨gb1, 2, none⟩ = some (.int .i64 0) := gx.cell 2
  have blx := Lib.hid (grew bl0.out cx)
  have rbx := Lib.hid (rb0.out.below cx rb0.out.lt)
  have tbx := Lib.hid (tb0.out.below cx tb0.out.lt)
  have abx := ab0.out.below cx ab0.out.lt
  have a0 : X1.cell? ⟨ab, 0, none⟩ = some (.int .i64 0) := abx.cell 0
  have f0 : X1.frozen? ⟨ab, 0, none⟩ = false := abx.frozen 0
  replace abx := Lib.hid abx
  clear cx gx bl0 rb0 tb0 ab0 C1
  go_upto_region 10 with fail
  rw [← show X1 = _ from hX1.out]
  rw [hgb1.out]
  clear hX1 hgb1
  have bl1 := Lib.hid (below_store blx.out na.out.1 (Nat.le_refl _) 0 [(.int .i64 v1)])
  have rb1 := Lib.hid (rbx.out.far na.out.2.1 0 [(.int .i64 v1)])
  have tb1 := Lib.hid (tbx.out.far na.out.2.2 0 [(.int .i64 v1)])
  have ab1 : Hid (Whole (X1.setCell ⟨ab, 0, none⟩ (.int .i64 v1)) ab 136 [.int .i64 v1, .int .i64 0, .int .i64 0, .int .i64 0]) := Lib.hid (abx.out.store 0 [(.int .i64 v1)] (by simp))
  simp only [World.setCells] at bl1 rb1 tb1
  go_wp2_with fail
  generalize X1.setCell ⟨ab, 0, none⟩ (.int .i64 v1) = U1 at *
  clear a0 f0 g0 g1 g2 blx rbx tbx abx
  rw [rounds_succ]
  go_wp2_with fail
  refine (C2.out _).mono ?_
  rintro _ _ ⟨rfl, rfl⟩
  obtain ⟨X2, hX2⟩ : ∃ W, Hid (W = (U1.alloc (.cells #[.int .u64 v2, .int .i64 (n2 : Int), .int .i64 0] 119)).alloc (.cells #[.int .u64 v2, .int .i64 (n2 : Int), .int .i64 0] 119)) := ⟨_, Lib.hid rfl⟩
  have cx : Below U1.heap.size U1 X2 := by rw [hX2.out]; exact grewAlloc (grewAlloc (Below.refl _ _) _) _
  have gx : Whole X2 (U1.heap.size + 1) 119 [.int .u64 v2, .int .i64 (n2 : Int), .int .i64 0] := by
    rw [hX2.out]
    have := Whole.new (U1.alloc (.cells #[.int .u64 v2, .int .i64 (n2 : Int), .int .i64 0] 119)) 119 [.int .u64 v2, .int .i64 (n2 : Int), .int .i64 0]
    rwa [show (U1.alloc (.cells #[.int .u64 v2, .int .i64 (n2 : Int), .int .i64 0] 119)).heap.size = U1.heap.size + 1 from by simp] at this
  obtain ⟨gb2, hgb2⟩ : ∃ q, Hid (U1.heap.size + 1 = q) := ⟨_, Lib.hid rfl⟩
  rw [hgb2.out] at gx
  have hgn2 : gb2 ≠ ab := by have := ab1.out.lt; have := hgb2.out; omega
  have hgm2 : ab ≠ gb2 := fun e => hgn2 e.symm
  have g0 : X2.cell? ⟨gb2, 0, none⟩ = some (.int .u64 v2) := gx.cell 0
  have g1 : X2.cell? ⟨gb2, 1, none⟩ = some (.int .i64 (n2 : Int)) := gx.cell 1
  have g2 : X2.cell? ⟨gb2, 2, none⟩ = some (.int .i64 0) := gx.cell 2
  have blx := Lib.hid (grew bl1.out cx)
  have rbx := Lib.hid (rb1.out.below cx rb1.out.lt)
  have tbx := Lib.hid (tb1.out.below cx tb1.out.lt)
  have abx := ab1.out.below cx ab1.out.lt
  have a0 : X2.cell? ⟨ab, 1, none⟩ = some (.int .i64 0) := abx.cell 1
  have f0 : X2.frozen? ⟨ab, 1, none⟩ = false := abx.frozen 1
  replace abx := Lib.hid abx
  clear cx gx bl1 rb1 tb1 ab1 C2
  go_upto_region 10 with fail
  rw [← show X2 = _ from hX2.out]
  rw [hgb2.out]
  clear hX2 hgb2
  have bl2 := Lib.hid (below_store blx.out na.out.1 (Nat.le_refl _) 1 [(.int .i64 v2)])
  have rb2 := Lib.hid (rbx.out.far na.out.2.1 1 [(.int .i64 v2)])
  have tb2 := Lib.hid (tbx.out.far na.out.2.2 1 [(.int .i64 v2)])
  have ab2 : Hid (Whole (X2.setCell ⟨ab, 1, none⟩ (.int .i64 v2)) ab 136 [.int .i64 v1, .int .i64 v2, .int .i64 0, .int .i64 0]) := Lib.hid (abx.out.store 1 [(.int .i64 v2)] (by simp))
  simp only [World.setCells] at bl2 rb2 tb2
  go_wp2_with fail
  generalize X2.setCell ⟨ab, 1, none⟩ (.int .i64 v2) = U2 at *
  clear a0 f0 g0 g1 g2 blx rbx tbx abx
  rw [rounds_succ]
  go_wp2_with fail
  refine (C3.out _).mono ?_
  rintro _ _ ⟨rfl, rfl⟩
  obtain ⟨X3, hX3⟩ : ∃ W, Hid (W = (U2.alloc (.cells #[.int .u64 v3, .int .i64 (n3 : Int), .int .i64 0] 119)).alloc (.cells #[.int .u64 v3, .int .i64 (n3 : Int), .int .i64 0] 119)) := ⟨_, Lib.hid rfl⟩
  have cx : Below U2.heap.size U2 X3 := by rw [hX3.out]; exact grewAlloc (grewAlloc (Below.refl _ _) _) _
  have gx : Whole X3 (U2.heap.size + 1) 119 [.int .u64 v3, .int .i64 (n3 : Int), .int .i64 0] := by
    rw [hX3.out]
    have := Whole.new (U2.alloc (.cells #[.int .u64 v3, .int .i64 (n3 : Int), .int .i64 0] 119)) 119 [.int .u64 v3, .int .i64 (n3 : Int), .int .i64 0]
    rwa [show (U2.alloc (.cells #[.int .u64 v3, .int .i64 (n3 : Int), .int .i64 0] 119)).heap.size = U2.heap.size + 1 from by simp] at this
  obtain ⟨gb3, hgb3⟩ : ∃ q, Hid (U2.heap.size + 1 = q) := ⟨_, Lib.hid rfl⟩
  rw [hgb3.out] at gx
  have hgn3 : gb3 ≠ ab := by have := ab2.out.lt; have := hgb3.out; omega
  have hgm3 : ab ≠ gb3 := fun e => hgn3 e.symm
  have g0 : X3.cell? ⟨gb3, 0, none⟩ = some (.int .u64 v3) := gx.cell 0
  have g1 : X3.cell? ⟨gb3, 1, none⟩ = some (.int .i64 (n3 : Int)) := gx.cell 1
  have g2 : X3.cell? ⟨gb3, 2, none⟩ = some (.int .i64 0) := gx.cell 2
  have blx := Lib.hid (grew bl2.out cx)
  have rbx := Lib.hid (rb2.out.below cx rb2.out.lt)
  have tbx := Lib.hid (tb2.out.below cx tb2.out.lt)
  have abx := ab2.out.below cx ab2.out.lt
  have a0 : X3.cell? ⟨ab, 2, none⟩ = some (.int .i64 0) := abx.cell 2
  have f0 : X3.frozen? ⟨ab, 2, none⟩ = false := abx.frozen 2
  replace abx := Lib.hid abx
  clear cx gx bl2 rb2 tb2 ab2 C3
  go_upto_region 10 with fail
  rw [← show X3 = _ from hX3.out]
  rw [hgb3.out]
  clear hX3 hgb3
  have bl3 := Lib.hid (below_store blx.out na.out.1 (Nat.le_refl _) 2 [(.int .i64 v3)])
  have rb3 := Lib.hid (rbx.out.far na.out.2.1 2 [(.int .i64 v3)])
  have tb3 := Lib.hid (tbx.out.far na.out.2.2 2 [(.int .i64 v3)])
  have ab3 : Hid (Whole (X3.setCell ⟨ab, 2, none⟩ (.int .i64 v3)) ab 136 [.int .i64 v1, .int .i64 v2, .int .i64 v3, .int .i64 0]) := Lib.hid (abx.out.store 2 [(.int .i64 v3)] (by simp))
  simp only [World.setCells] at bl3 rb3 tb3
  go_wp2_with fail
  generalize X3.setCell ⟨ab, 2, none⟩ (.int .i64 v3) = U3 at *
  clear a0 f0 g0 g1 g2 blx rbx tbx abx
  rw [rounds_succ]
  go_wp2_with fail
  refine (C4.out _).mono ?_
  rintro _ _ ⟨rfl, rfl⟩
  obtain ⟨X4, hX4⟩ : ∃ W, Hid (W = (U3.alloc (.cells #[.int .u64 v4, .int .i64 (n4 : Int), .int .i64 0] 119)).alloc (.cells #[.int .u64 v4, .int .i64 (n4 : Int), .int .i64 0] 119)) := ⟨_, Lib.hid rfl⟩
  have cx : Below U3.heap.size U3 X4 := by rw [hX4.out]; exact grewAlloc (grewAlloc (Below.refl _ _) _) _
  have gx : Whole X4 (U3.heap.size + 1) 119 [.int .u64 v4, .int .i64 (n4 : Int), .int .i64 0] := by
    rw [hX4.out]
    have := Whole.new (U3.alloc (.cells #[.int .u64 v4, .int .i64 (n4 : Int), .int .i64 0] 119)) 119 [.int .u64 v4, .int .i64 (n4 : Int), .int .i64 0]
    rwa [show (U3.alloc (.cells #[.int .u64 v4, .int .i64 (n4 : Int), .int .i64 0] 119)).heap.size = U3.heap.size + 1 from by simp] at this
  obtain ⟨gb4, hgb4⟩ : ∃ q, Hid (U3.heap.size + 1 = q) := ⟨_, Lib.hid rfl⟩
  rw [hgb4.out] at gx
  have hgn4 : gb4 ≠ ab := by have := ab3.out.lt; have := hgb4.out; omega
  have hgm4 : ab ≠ gb4 := fun e => hgn4 e.symm
  have g0 : X4.cell? ⟨gb4, 0, none⟩ = some (.int .u64 v4) := gx.cell 0
  have g1 : X4.cell? ⟨gb4, 1, none⟩ = some (.int .i64 (n4 : Int)) := gx.cell 1
  have g2 : X4.cell? ⟨gb4, 2, none⟩ = some (.int .i64 0) := gx.cell 2
  have blx := Lib.hid (grew bl3.out cx)
  have rbx := Lib.hid (rb3.out.below cx rb3.out.lt)
  have tbx := Lib.hid (tb3.out.below cx tb3.out.lt)
  have abx := ab3.out.below cx ab3.out.lt
  have a0 : X4.cell? ⟨ab, 3, none⟩ = some (.int .i64 0) := abx.cell 3
  have f0 : X4.frozen? ⟨ab, 3, none⟩ = false := abx.frozen 3
  replace abx := Lib.hid abx
  clear cx gx bl3 rb3 tb3 ab3 C4
  go_upto_region 10 with fail
  rw [← show X4 = _ from hX4.out]
  rw [hgb4.out]
  clear hX4 hgb4
  have bl4 := Lib.hid (below_store blx.out na.out.1 (Nat.le_refl _) 3 [(.int .i64 v4)])
  have rb4 := Lib.hid (rbx.out.far na.out.2.1 3 [(.int .i64 v4)])
  have tb4 := Lib.hid (tbx.out.far na.out.2.2 3 [(.int .i64 v4)])
  have ab4 : Hid (Whole (X4.setCell ⟨ab, 3, none⟩ (.int .i64 v4)) ab 136 [.int .i64 v1, .int .i64 v2, .int .i64 v3, .int .i64 v4]) := Lib.hid (abx.out.store 3 [(.int .i64 v4)] (by simp))
  simp only [World.setCells] at bl4 rb4 tb4
  go_wp2_with fail
  generalize X4.setCell ⟨ab, 3, none⟩ (.int .i64 v4) = U4 at *
  clear a0 f0 g0 g1 g2 blx rbx tbx abx
  rw [rounds_succ]
  have a0 : U4.cell? ⟨ab, 0, none⟩ = some (.int .i64 v1) := ab4.out.cell 0
  have a1 : U4.cell? ⟨ab, 1, none⟩ = some (.int .i64 v2) := ab4.out.cell 1
  have a2 : U4.cell? ⟨ab, 2, none⟩ = some (.int .i64 v3) := ab4.out.cell 2
  have a3 : U4.cell? ⟨ab, 3, none⟩ = some (.int .i64 v4) := ab4.out.cell 3
  have y0 : U4.cell? ⟨tb, 0, none⟩ = some (.string nm) := tb4.out.cell 0
  have kb : ¬ 1 < v4 := by omega
  obtain ⟨S, hS⟩ : ∃ W, Hid (W = U4.alloc (.cells #[.string nm, .int .i64 v1, .int .i64 v2, .int .i64 v3, .bool C] 31)) := ⟨_, Lib.hid rfl⟩
  have cs : Below U4.heap.size U4 S := by rw [hS.out]; exact grewAlloc (Below.refl _ _) _
  have xs : Whole S U4.heap.size 31 [.string nm, .int .i64 v1, .int .i64 v2, .int .i64 v3, .bool C] := by rw [hS.out]; exact Whole.new _ _ _
  obtain ⟨xb, hxb⟩ : ∃ q, Hid (U4.heap.size = q) := ⟨_, Lib.hid rfl⟩
  rw [hxb.out] at xs
  have blS := Lib.hid (grew bl4.out cs)
  have rbS := Lib.hid (rb4.out.below cs rb4.out.lt)
  have abS := ab4.out.below cs ab4.out.lt
  have e3 : S.cell? ⟨ab, 3, none⟩ = some (.int .i64 v4) := abS.cell 3
  have x0 : S.cell? ⟨xb, 0, none⟩ = some (.string nm) := xs.cell 0
  have x1 : S.cell? ⟨xb, 1, none⟩ = some (.int .i64 v1) := xs.cell 1
  have x2 : S.cell? ⟨xb, 2, none⟩ = some (.int .i64 v2) := xs.cell 2
  have x3 : S.cell? ⟨xb, 3, none⟩ = some (.int .i64 v3) := xs.cell 3
  have x4 : S.cell? ⟨xb, 4, none⟩ = some (.bool C) := xs.cell 4
  replace xs := Lib.hid xs
  clear cs abS bl4 rb4 tb4 ab4
  go_upto_region 16 with fail
  rw [← show S = _ from hS.out, hxb.out]
  clear hS hxb a0 a1 a2 a3 y0
  go_wp2_with fail
  refine (hri.out _).mono ?_
  rintro _ w9 ⟨rfl, hb9⟩
  have bl9 := Lib.hid (grew blS.out hb9)
  have rb9 := Lib.hid (rbS.out.below hb9 rbS.out.lt)
  have xs9 := xs.out.below hb9 xs.out.lt
  clear x0 x1 x2 x3 x4 hb9 blS rbS xs
  have x0 : w9.cell? ⟨xb, 0, none⟩ = some (.string nm) := xs9.cell 0
  have x1 : w9.cell? ⟨xb, 1, none⟩ = some (.int .i64 v1) := xs9.cell 1
  have x2 : w9.cell? ⟨xb, 2, none⟩ = some (.int .i64 v2) := xs9.cell 2
  have x3 : w9.cell? ⟨xb, 3, none⟩ = some (.int .i64 v3) := xs9.cell 3
  have x4 : w9.cell? ⟨xb, 4, none⟩ = some (.bool C) := xs9.cell 4
  clear xs9
  go_wp2_with (with_reducible refine zStore 114 _ _ rfl ?_)
  refine Lib.hid ?_
  refine wpList_store_mid rfl 114 _ _ rfl rb 0 #[.string ⟨#[]⟩, .int .i64 0, .int .i64 0, .int .i64 0, .bool false, .int .i64 0, .bool false] rfl rfl (rb9.out.there 0 7 (by simp)) sizeGot22 (by simp [Value.oneCell']) ?_
  go_wp2_with fail
  have hfin := whole_all rb9.out (vs := [.string ⟨#[]⟩, .int .i64 0, .int .i64 0, .int .i64 0, .bool false, .int .i64 0, .bool false]) rfl
  exact bodyPost_ret (result_cell Tryz.results61 rfl hfin.range Tryz.underlying114 rfl sizeGot22) rfl ⟨rfl, below_store bl9.out hrb.out (Nat.le_refl _) 0 _⟩
set_option maxRecDepth 100000 in
set_option maxHeartbeats 4000000 in
theorem rdec22_endok (s : ByteArray) (w : World) (hs : s.size ≤ 100000) (nm : ByteArray) (p0 : Nat) (v1 : Int) (p1 : Nat) (v2 : Int) (p2 : Nat) (v3 : Int) (p3 : Nat) (v4 : Int) (p4 : Nat) (h0 : txAt s 0 = some (nm, p0)) (h1 : chAt s.data.toList p0 = some (v1, p1)) (k1 : v1 ≤ 1099511627776) (h2 : chAt s.data.toList p1 = some (v2, p2)) (k2 : v2 ≤ 1099511627776) (h3 : chAt s.data.toList p2 = some (v3, p3)) (k3 : v3 ≤ 1099511627776) (h4 : chAt s.data.toList p3 = some (v4, p4)) (k4 : v4 ≤ 1099511627776) (k5 : v4 ≤ 1) (hm : Sp.may ⟨nm, v1, v2, v3, decide (v4 = 1)⟩ = true) :
    Calls Tryz.prog 61 #[.string s] w fun e w' => e = .returned (.agg #[.string nm, .int .i64 v1, .int .i64 v2, .int .i64 v3, .bool (decide (v4 = 1)), .int .i64 (p4 : Int), .bool true]) ∧ Below w.heap.size w w' := by
  have hsl : s.data.toList.length = s.size := by simp
  obtain ⟨W1, hW1⟩ : ∃ W, Hid (W = w.alloc (.cells #[.string ⟨#[]⟩, .int .i64 0, .int .i64 0, .int .i64 0, .bool false, .int .i64 0, .bool false] 114)) := ⟨_, Lib.hid rfl⟩
  have b1 : Below w.heap.size w W1 := by rw [hW1.out]; exact grewAlloc (Below.refl _ _) _
  have r1 : Whole W1 w.heap.size 114 [.string ⟨#[]⟩, .int .i64 0, .int .i64 0, .int .i64 0, .bool false, .int .i64 0, .bool false] := by rw [hW1.out]; exact Whole.new w _ _
  obtain ⟨rb, hrb0⟩ : ∃ q, Hid (w.heap.size = q) := ⟨_, Lib.hid rfl⟩
  rw [hrb0.out] at r1
  have hrb : Hid (w.heap.size ≤ rb) := Lib.hid (by rw [hrb0.out]; exact Nat.le_refl _)
  have hut := fun W => runtext_any s W (by omega)
  obtain ⟨hU0, hp0⟩ := txAt_yes h0
  rw [ext_all] at hU0
  rw [hU0] at hut
  have z1 := slice_from22 s p0 (by omega)
  have C1 := fun W => runchain_any (s.extract p0 s.size) W (by have := ext_le s p0 hs; omega)
  rw [ext_drop] at C1
  obtain ⟨n1, hU1, hq1, hp1, vl1, vh1⟩ := chAt_yes h1 (by omega)
  rw [hU1] at C1
  have hw1 : IntKind.i64.wrap ((p0 : Int) + (n1 : Int)) = (p1 : Int) := by rw [IntWalk.i64_in _ (by omega)]; omega
  have hv1 : IntKind.i64.wrap v1 = v1 := IntWalk.i64_in _ (by omega)
  have hv1b : wrap64 v1 = v1 := wrap64_low vl1 (by omega)
  clear hU1 h1
  replace C1 := Lib.hid C1
  have z2 := slice_from22 s p1 (by omega)
  have C2 := fun W => runchain_any (s.extract p1 s.size) W (by have := ext_le s p1 hs; omega)
  rw [ext_drop] at C2
  obtain ⟨n2, hU2, hq2, hp2, vl2, vh2⟩ := chAt_yes h2 (by omega)
  rw [hU2] at C2
  have hw2 : IntKind.i64.wrap ((p1 : Int) + (n2 : Int)) = (p2 : Int) := by rw [IntWalk.i64_in _ (by omega)]; omega
  have hv2 : IntKind.i64.wrap v2 = v2 := IntWalk.i64_in _ (by omega)
  have hv2b : wrap64 v2 = v2 := wrap64_low vl2 (by omega)
  clear hU2 h2
  replace C2 := Lib.hid C2
  have z3 := slice_from22 s p2 (by omega)
  have C3 := fun W => runchain_any (s.extract p2 s.size) W (by have := ext_le s p2 hs; omega)
  rw [ext_drop] at C3
  obtain ⟨n3, hU3, hq3, hp3, vl3, vh3⟩ := chAt_yes h3 (by omega)
  rw [hU3] at C3
  have hw3 : IntKind.i64.wrap ((p2 : Int) + (n3 : Int)) = (p3 : Int) := by rw [IntWalk.i64_in _ (by omega)]; omega
  have hv3 : IntKind.i64.wrap v3 = v3 := IntWalk.i64_in _ (by omega)
  have hv3b : wrap64 v3 = v3 := wrap64_low vl3 (by omega)
  clear hU3 h3
  replace C3 := Lib.hid C3
  have z4 := slice_from22 s p3 (by omega)
  have C4 := fun W => runchain_any (s.extract p3 s.size) W (by have := ext_le s p3 hs; omega)
  rw [ext_drop] at C4
  obtain ⟨n4, hU4, hq4, hp4, vl4, vh4⟩ := chAt_yes h4 (by omega)
  rw [hU4] at C4
  have hw4 : IntKind.i64.wrap ((p3 : Int) + (n4 : Int)) = (p4 : Int) := by rw [IntWalk.i64_in _ (by omega)]; omega
  have hv4 : IntKind.i64.wrap v4 = v4 := IntWalk.i64_in _ (by omega)
  have hv4b : wrap64 v4 = v4 := wrap64_low vl4 (by omega)
  clear hU4 h4
  replace C4 := Lib.hid C4
  have hri := Lib.hid (fun W => rright_any nm v1 v2 v3 (decide (v4 = 1)) W (by have := nm_le h0; omega))
  rw [hm] at hri
  obtain ⟨C, hC⟩ : ∃ C, Hid (decide (v4 = 1) = C) := ⟨_, Lib.hid rfl⟩
  have hCe : (v4 == 1) = C := by rw [← hC.out, Bool.eq_iff_iff]; simp
  rw [hC.out] at hri
  rw [hC.out]
  clear hm
  replace hut := Lib.hid hut
  replace r1 := Lib.hid r1
  replace b1 := Lib.hid b1
  clear hU0 h0 hp0
  clear hq1 hp1 vl1 vh1
  clear hq2 hp2 vl2 vh2
  clear hq3 hp3 vl3 vh3
  clear hq4 hp4 vl4 vh4
  go_enter Tryz.func61, Tryz.ntmps61
  go_upto_region 1 with fail
  rw [← show W1 = _ from hW1.out, hrb0.out]
  clear hW1
  go_wp2_with fail
  refine (hut.out _).mono ?_
  rintro _ w2 ⟨rfl, hb2⟩
  obtain ⟨W3, hW3⟩ : ∃ W, Hid (W = w2.alloc (.cells #[.string nm, .int .i64 (p0 : Int), .int .i64 0] 86)) := ⟨_, Lib.hid rfl⟩
  have c3 : Below w2.heap.size w2 W3 := by rw [hW3.out]; exact grewAlloc (Below.refl _ _) _
  have b3 := Lib.hid (grew (grew b1.out hb2) c3)
  have r3 := Lib.hid ((r1.out.below hb2 r1.out.lt).below c3 (r1.out.below hb2 r1.out.lt).lt)
  have t3 : Whole W3 w2.heap.size 86 [.string nm, .int .i64 (p0 : Int), .int .i64 0] := by rw [hW3.out]; exact Whole.new w2 _ _
  obtain ⟨tb, htb⟩ : ∃ q, Hid (w2.heap.size = q) := ⟨_, Lib.hid rfl⟩
  rw [htb.out] at t3
  have y0 : W3.cell? ⟨tb, 0, none⟩ = some (.string nm) := t3.cell 0
  have y1 : W3.cell? ⟨tb, 1, none⟩ = some (.int .i64 (p0 : Int)) := t3.cell 1
  have y2 : W3.cell? ⟨tb, 2, none⟩ = some (.int .i64 0) := t3.cell 2
  replace t3 := Lib.hid t3
  clear c3 hb2 b1 r1 hut
  go_upto_region 2 with fail
  rw [← show W3 = _ from hW3.out, htb.out]
  clear hW3 htb
  obtain ⟨U0, hU⟩ : ∃ W, Hid (W = W3.alloc (.cells #[.int .i64 0, .int .i64 0, .int .i64 0, .int .i64 0] 136)) := ⟨_, Lib.hid rfl⟩
  have c4 : Below W3.heap.size W3 U0 := by rw [hU.out]; exact grewAlloc (Below.refl _ _) _
  have bl0 := Lib.hid (grew b3.out c4)
  have rb0 := Lib.hid (r3.out.below c4 r3.out.lt)
  have tb0 := Lib.hid (t3.out.below c4 t3.out.lt)
  have ab0 : Whole U0 W3.heap.size 136 [.int .i64 0, .int .i64 0, .int .i64 0, .int .i64 0] := by rw [hU.out]; exact Whole.new W3 _ _
  obtain ⟨ab, hab⟩ : ∃ q, Hid (W3.heap.size = q) := ⟨_, Lib.hid rfl⟩
  rw [hab.out] at ab0
  have na : Hid (w.heap.size ≤ ab ∧ rb ≠ ab ∧ tb ≠ ab) := Lib.hid ⟨by rw [← hab.out]; exact b3.out.size, by have := r3.out.lt; have := hab.out; omega, by have := t3.out.lt; have := hab.out; omega⟩
  replace ab0 := Lib.hid ab0
  clear c4 b3 r3 t3
  go_upto_region 6 with fail
  rw [← show U0 = _ from hU.out, hab.out]
  clear hU hab y0 y1 y2
  go_wp2_with fail
  refine wp_loop_rounds 5 ?_
  rw [rounds_succ]
  go_wp2_with fail
  refine (C1.out _).mono ?_
  rintro _ _ ⟨rfl, rfl⟩
  obtain ⟨X1, hX1⟩ : ∃ W, Hid (W = (U0.alloc (.cells #[.int .u64 v1, .int .i64 (n1 : Int), .int .i64 0] 119)).alloc (.cells #[.int .u64 v1, .int .i64 (n1 : Int), .int .i64 0] 119)) := ⟨_, Lib.hid rfl⟩
  have cx : Below U0.heap.size U0 X1 := by rw [hX1.out]; exact grewAlloc (grewAlloc (Below.refl _ _) _) _
  have gx : Whole X1 (U0.heap.size + 1) 119 [.int .u64 v1, .int .i64 (n1 : Int), .int .i64 0] := by
    rw [hX1.out]
    have := Whole.new (U0.alloc (.cells #[.int .u64 v1, .int .i64 (n1 : Int), .int .i64 0] 119)) 119 [.int .u64 v1, .int .i64 (n1 : Int), .int .i64 0]
    rwa [show (U0.alloc (.cells #[.int .u64 v1, .int .i64 (n1 : Int), .int .i64 0] 119)).heap.size = U0.heap.size + 1 from by simp] at this
  obtain ⟨gb1, hgb1⟩ : ∃ q, Hid (U0.heap.size + 1 = q) := ⟨_, Lib.hid rfl⟩
  rw [hgb1.out] at gx
  have hgn1 : gb1 ≠ ab := by have := ab0.out.lt; have := hgb1.out; omega
  have hgm1 : ab ≠ gb1 := fun e => hgn1 e.symm
  have g0 : X1.cell? ⟨gb1, 0, none⟩ = some (.int .u64 v1) := gx.cell 0
  have g1 : X1.cell? ⟨gb1, 1, none⟩ = some (.int .i64 (n1 : Int)) := gx.cell 1
  have g2 : X1.cell? ⟨gb1, 2, none⟩ = some (.int .i64 0) := gx.cell 2
  have blx := Lib.hid (grew bl0.out cx)
  have rbx := Lib.hid (rb0.out.below cx rb0.out.lt)
  have tbx := Lib.hid (tb0.out.below cx tb0.out.lt)
  have abx := ab0.out.below cx ab0.out.lt
  have a0 : X1.cell? ⟨ab, 0, none⟩ = some (.int .i64 0) := abx.cell 0
  have f0 : X1.frozen? ⟨ab, 0, none⟩ = false := abx.frozen 0
  replace abx := Lib.hid abx
  clear cx gx bl0 rb0 tb0 ab0 C1
  go_upto_region 10 with fail
  rw [← show X1 = _ from hX1.out]
  rw [hgb1.out]
  clear hX1 hgb1
  have bl1 := Lib.hid (below_store blx.out na.out.1 (Nat.le_refl _) 0 [(.int .i64 v1)])
  have rb1 := Lib.hid (rbx.out.far na.out.2.1 0 [(.int .i64 v1)])
  have tb1 := Lib.hid (tbx.out.far na.out.2.2 0 [(.int .i64 v1)])
  have ab1 : Hid (Whole (X1.setCell ⟨ab, 0, none⟩ (.int .i64 v1)) ab 136 [.int .i64 v1, .int .i64 0, .int .i64 0, .int .i64 0]) := Lib.hid (abx.out.store 0 [(.int .i64 v1)] (by simp))
  simp only [World.setCells] at bl1 rb1 tb1
  go_wp2_with fail
  generalize X1.setCell ⟨ab, 0, none⟩ (.int .i64 v1) = U1 at *
  clear a0 f0 g0 g1 g2 blx rbx tbx abx
  rw [rounds_succ]
  go_wp2_with fail
  refine (C2.out _).mono ?_
  rintro _ _ ⟨rfl, rfl⟩
  obtain ⟨X2, hX2⟩ : ∃ W, Hid (W = (U1.alloc (.cells #[.int .u64 v2, .int .i64 (n2 : Int), .int .i64 0] 119)).alloc (.cells #[.int .u64 v2, .int .i64 (n2 : Int), .int .i64 0] 119)) := ⟨_, Lib.hid rfl⟩
  have cx : Below U1.heap.size U1 X2 := by rw [hX2.out]; exact grewAlloc (grewAlloc (Below.refl _ _) _) _
  have gx : Whole X2 (U1.heap.size + 1) 119 [.int .u64 v2, .int .i64 (n2 : Int), .int .i64 0] := by
    rw [hX2.out]
    have := Whole.new (U1.alloc (.cells #[.int .u64 v2, .int .i64 (n2 : Int), .int .i64 0] 119)) 119 [.int .u64 v2, .int .i64 (n2 : Int), .int .i64 0]
    rwa [show (U1.alloc (.cells #[.int .u64 v2, .int .i64 (n2 : Int), .int .i64 0] 119)).heap.size = U1.heap.size + 1 from by simp] at this
  obtain ⟨gb2, hgb2⟩ : ∃ q, Hid (U1.heap.size + 1 = q) := ⟨_, Lib.hid rfl⟩
  rw [hgb2.out] at gx
  have hgn2 : gb2 ≠ ab := by have := ab1.out.lt; have := hgb2.out; omega
  have hgm2 : ab ≠ gb2 := fun e => hgn2 e.symm
  have g0 : X2.cell? ⟨gb2, 0, none⟩ = some (.int .u64 v2) := gx.cell 0
  have g1 : X2.cell? ⟨gb2, 1, none⟩ = some (.int .i64 (n2 : Int)) := gx.cell 1
  have g2 : X2.cell? ⟨gb2, 2, none⟩ = some (.int .i64 0) := gx.cell 2
  have blx := Lib.hid (grew bl1.out cx)
  have rbx := Lib.hid (rb1.out.below cx rb1.out.lt)
  have tbx := Lib.hid (tb1.out.below cx tb1.out.lt)
  have abx := ab1.out.below cx ab1.out.lt
  have a0 : X2.cell? ⟨ab, 1, none⟩ = some (.int .i64 0) := abx.cell 1
  have f0 : X2.frozen? ⟨ab, 1, none⟩ = false := abx.frozen 1
  replace abx := Lib.hid abx
  clear cx gx bl1 rb1 tb1 ab1 C2
  go_upto_region 10 with fail
  rw [← show X2 = _ from hX2.out]
  rw [hgb2.out]
  clear hX2 hgb2
  have bl2 := Lib.hid (below_store blx.out na.out.1 (Nat.le_refl _) 1 [(.int .i64 v2)])
  have rb2 := Lib.hid (rbx.out.far na.out.2.1 1 [(.int .i64 v2)])
  have tb2 := Lib.hid (tbx.out.far na.out.2.2 1 [(.int .i64 v2)])
  have ab2 : Hid (Whole (X2.setCell ⟨ab, 1, none⟩ (.int .i64 v2)) ab 136 [.int .i64 v1, .int .i64 v2, .int .i64 0, .int .i64 0]) := Lib.hid (abx.out.store 1 [(.int .i64 v2)] (by simp))
  simp only [World.setCells] at bl2 rb2 tb2
  go_wp2_with fail
  generalize X2.setCell ⟨ab, 1, none⟩ (.int .i64 v2) = U2 at *
  clear a0 f0 g0 g1 g2 blx rbx tbx abx
  rw [rounds_succ]
  go_wp2_with fail
  refine (C3.out _).mono ?_
  rintro _ _ ⟨rfl, rfl⟩
  obtain ⟨X3, hX3⟩ : ∃ W, Hid (W = (U2.alloc (.cells #[.int .u64 v3, .int .i64 (n3 : Int), .int .i64 0] 119)).alloc (.cells #[.int .u64 v3, .int .i64 (n3 : Int), .int .i64 0] 119)) := ⟨_, Lib.hid rfl⟩
  have cx : Below U2.heap.size U2 X3 := by rw [hX3.out]; exact grewAlloc (grewAlloc (Below.refl _ _) _) _
  have gx : Whole X3 (U2.heap.size + 1) 119 [.int .u64 v3, .int .i64 (n3 : Int), .int .i64 0] := by
    rw [hX3.out]
    have := Whole.new (U2.alloc (.cells #[.int .u64 v3, .int .i64 (n3 : Int), .int .i64 0] 119)) 119 [.int .u64 v3, .int .i64 (n3 : Int), .int .i64 0]
    rwa [show (U2.alloc (.cells #[.int .u64 v3, .int .i64 (n3 : Int), .int .i64 0] 119)).heap.size = U2.heap.size + 1 from by simp] at this
  obtain ⟨gb3, hgb3⟩ : ∃ q, Hid (U2.heap.size + 1 = q) := ⟨_, Lib.hid rfl⟩
  rw [hgb3.out] at gx
  have hgn3 : gb3 ≠ ab := by have := ab2.out.lt; have := hgb3.out; omega
  have hgm3 : ab ≠ gb3 := fun e => hgn3 e.symm
  have g0 : X3.cell? ⟨gb3, 0, none⟩ = some (.int .u64 v3) := gx.cell 0
  have g1 : X3.cell? ⟨gb3, 1, none⟩ = some (.int .i64 (n3 : Int)) := gx.cell 1
  have g2 : X3.cell? ⟨gb3, 2, none⟩ = some (.int .i64 0) := gx.cell 2
  have blx := Lib.hid (grew bl2.out cx)
  have rbx := Lib.hid (rb2.out.below cx rb2.out.lt)
  have tbx := Lib.hid (tb2.out.below cx tb2.out.lt)
  have abx := ab2.out.below cx ab2.out.lt
  have a0 : X3.cell? ⟨ab, 2, none⟩ = some (.int .i64 0) := abx.cell 2
  have f0 : X3.frozen? ⟨ab, 2, none⟩ = false := abx.frozen 2
  replace abx := Lib.hid abx
  clear cx gx bl2 rb2 tb2 ab2 C3
  go_upto_region 10 with fail
  rw [← show X3 = _ from hX3.out]
  rw [hgb3.out]
  clear hX3 hgb3
  have bl3 := Lib.hid (below_store blx.out na.out.1 (Nat.le_refl _) 2 [(.int .i64 v3)])
  have rb3 := Lib.hid (rbx.out.far na.out.2.1 2 [(.int .i64 v3)])
  have tb3 := Lib.hid (tbx.out.far na.out.2.2 2 [(.int .i64 v3)])
  have ab3 : Hid (Whole (X3.setCell ⟨ab, 2, none⟩ (.int .i64 v3)) ab 136 [.int .i64 v1, .int .i64 v2, .int .i64 v3, .int .i64 0]) := Lib.hid (abx.out.store 2 [(.int .i64 v3)] (by simp))
  simp only [World.setCells] at bl3 rb3 tb3
  go_wp2_with fail
  generalize X3.setCell ⟨ab, 2, none⟩ (.int .i64 v3) = U3 at *
  clear a0 f0 g0 g1 g2 blx rbx tbx abx
  rw [rounds_succ]
  go_wp2_with fail
  refine (C4.out _).mono ?_
  rintro _ _ ⟨rfl, rfl⟩
  obtain ⟨X4, hX4⟩ : ∃ W, Hid (W = (U3.alloc (.cells #[.int .u64 v4, .int .i64 (n4 : Int), .int .i64 0] 119)).alloc (.cells #[.int .u64 v4, .int .i64 (n4 : Int), .int .i64 0] 119)) := ⟨_, Lib.hid rfl⟩
  have cx : Below U3.heap.size U3 X4 := by rw [hX4.out]; exact grewAlloc (grewAlloc (Below.refl _ _) _) _
  have gx : Whole X4 (U3.heap.size + 1) 119 [.int .u64 v4, .int .i64 (n4 : Int), .int .i64 0] := by
    rw [hX4.out]
    have := Whole.new (U3.alloc (.cells #[.int .u64 v4, .int .i64 (n4 : Int), .int .i64 0] 119)) 119 [.int .u64 v4, .int .i64 (n4 : Int), .int .i64 0]
    rwa [show (U3.alloc (.cells #[.int .u64 v4, .int .i64 (n4 : Int), .int .i64 0] 119)).heap.size = U3.heap.size + 1 from by simp] at this
  obtain ⟨gb4, hgb4⟩ : ∃ q, Hid (U3.heap.size + 1 = q) := ⟨_, Lib.hid rfl⟩
  rw [hgb4.out] at gx
  have hgn4 : gb4 ≠ ab := by have := ab3.out.lt; have := hgb4.out; omega
  have hgm4 : ab ≠ gb4 := fun e => hgn4 e.symm
  have g0 : X4.cell? ⟨gb4, 0, none⟩ = some (.int .u64 v4) := gx.cell 0
  have g1 : X4.cell? ⟨gb4, 1, none⟩ = some (.int .i64 (n4 : Int)) := gx.cell 1
  have g2 : X4.cell? ⟨gb4, 2, none⟩ = some (.int .i64 0) := gx.cell 2
  have blx := Lib.hid (grew bl3.out cx)
  have rbx := Lib.hid (rb3.out.below cx rb3.out.lt)
  have tbx := Lib.hid (tb3.out.below cx tb3.out.lt)
  have abx := ab3.out.below cx ab3.out.lt
  have a0 : X4.cell? ⟨ab, 3, none⟩ = some (.int .i64 0) := abx.cell 3
  have f0 : X4.frozen? ⟨ab, 3, none⟩ = false := abx.frozen 3
  replace abx := Lib.hid abx
  clear cx gx bl3 rb3 tb3 ab3 C4
  go_upto_region 10 with fail
  rw [← show X4 = _ from hX4.out]
  rw [hgb4.out]
  clear hX4 hgb4
  have bl4 := Lib.hid (below_store blx.out na.out.1 (Nat.le_refl _) 3 [(.int .i64 v4)])
  have rb4 := Lib.hid (rbx.out.far na.out.2.1 3 [(.int .i64 v4)])
  have tb4 := Lib.hid (tbx.out.far na.out.2.2 3 [(.int .i64 v4)])
  have ab4 : Hid (Whole (X4.setCell ⟨ab, 3, none⟩ (.int .i64 v4)) ab 136 [.int .i64 v1, .int .i64 v2, .int .i64 v3, .int .i64 v4]) := Lib.hid (abx.out.store 3 [(.int .i64 v4)] (by simp))
  simp only [World.setCells] at bl4 rb4 tb4
  go_wp2_with fail
  generalize X4.setCell ⟨ab, 3, none⟩ (.int .i64 v4) = U4 at *
  clear a0 f0 g0 g1 g2 blx rbx tbx abx
  rw [rounds_succ]
  have a0 : U4.cell? ⟨ab, 0, none⟩ = some (.int .i64 v1) := ab4.out.cell 0
  have a1 : U4.cell? ⟨ab, 1, none⟩ = some (.int .i64 v2) := ab4.out.cell 1
  have a2 : U4.cell? ⟨ab, 2, none⟩ = some (.int .i64 v3) := ab4.out.cell 2
  have a3 : U4.cell? ⟨ab, 3, none⟩ = some (.int .i64 v4) := ab4.out.cell 3
  have y0 : U4.cell? ⟨tb, 0, none⟩ = some (.string nm) := tb4.out.cell 0
  have kb : ¬ 1 < v4 := by omega
  obtain ⟨S, hS⟩ : ∃ W, Hid (W = U4.alloc (.cells #[.string nm, .int .i64 v1, .int .i64 v2, .int .i64 v3, .bool C] 31)) := ⟨_, Lib.hid rfl⟩
  have cs : Below U4.heap.size U4 S := by rw [hS.out]; exact grewAlloc (Below.refl _ _) _
  have xs : Whole S U4.heap.size 31 [.string nm, .int .i64 v1, .int .i64 v2, .int .i64 v3, .bool C] := by rw [hS.out]; exact Whole.new _ _ _
  obtain ⟨xb, hxb⟩ : ∃ q, Hid (U4.heap.size = q) := ⟨_, Lib.hid rfl⟩
  rw [hxb.out] at xs
  have blS := Lib.hid (grew bl4.out cs)
  have rbS := Lib.hid (rb4.out.below cs rb4.out.lt)
  have abS := ab4.out.below cs ab4.out.lt
  have e3 : S.cell? ⟨ab, 3, none⟩ = some (.int .i64 v4) := abS.cell 3
  have x0 : S.cell? ⟨xb, 0, none⟩ = some (.string nm) := xs.cell 0
  have x1 : S.cell? ⟨xb, 1, none⟩ = some (.int .i64 v1) := xs.cell 1
  have x2 : S.cell? ⟨xb, 2, none⟩ = some (.int .i64 v2) := xs.cell 2
  have x3 : S.cell? ⟨xb, 3, none⟩ = some (.int .i64 v3) := xs.cell 3
  have x4 : S.cell? ⟨xb, 4, none⟩ = some (.bool C) := xs.cell 4
  replace xs := Lib.hid xs
  clear cs abS bl4 rb4 tb4 ab4
  go_upto_region 16 with fail
  rw [← show S = _ from hS.out, hxb.out]
  clear hS hxb a0 a1 a2 a3 y0
  go_wp2_with fail
  refine (hri.out _).mono ?_
  rintro _ w9 ⟨rfl, hb9⟩
  have bl9 := Lib.hid (grew blS.out hb9)
  have rb9 := Lib.hid (rbS.out.below hb9 rbS.out.lt)
  have xs9 := xs.out.below hb9 xs.out.lt
  clear x0 x1 x2 x3 x4 hb9 blS rbS xs
  have x0 : w9.cell? ⟨xb, 0, none⟩ = some (.string nm) := xs9.cell 0
  have x1 : w9.cell? ⟨xb, 1, none⟩ = some (.int .i64 v1) := xs9.cell 1
  have x2 : w9.cell? ⟨xb, 2, none⟩ = some (.int .i64 v2) := xs9.cell 2
  have x3 : w9.cell? ⟨xb, 3, none⟩ = some (.int .i64 v3) := xs9.cell 3
  have x4 : w9.cell? ⟨xb, 4, none⟩ = some (.bool C) := xs9.cell 4
  clear xs9
  go_wp2_with (with_reducible refine zStore 114 _ _ rfl ?_)
  refine Lib.hid ?_
  refine wpList_store_mid rfl 114 _ _ rfl rb 0 #[.string nm, .int .i64 v1, .int .i64 v2, .int .i64 v3, .bool C, .int .i64 (p4 : Int), .bool true] rfl rfl (rb9.out.there 0 7 (by simp)) sizeGot22 (by simp [Value.oneCell']) ?_
  go_wp2_with fail
  have hfin := whole_all rb9.out (vs := [.string nm, .int .i64 v1, .int .i64 v2, .int .i64 v3, .bool C, .int .i64 (p4 : Int), .bool true]) rfl
  exact bodyPost_ret (result_cell Tryz.results61 rfl hfin.range Tryz.underlying114 rfl sizeGot22) rfl ⟨rfl, below_store bl9.out hrb.out (Nat.le_refl _) 0 _⟩
theorem flag_big {l : List UInt8} {p q : Nat} {v : Int} (h : chAt l p = some (v, q)) (hv : 1 < v) : flagAt l p = none := by
  cases hf : flagAt l p with
  | none => rfl
  | some f =>
    obtain ⟨h1, h2⟩ := flag_chain hf
    rw [h] at h1
    simp only [Option.some.injEq, Prod.mk.injEq] at h1
    omega
theorem flag_none {l : List UInt8} {p : Nat} (h : chAt l p = none) : flagAt l p = none := by
  cases hf : flagAt l p with
  | none => rfl
  | some f => rw [(flag_chain hf).1] at h; cases h
theorem dec_big {s nm : ByteArray} {p0 p1 p2 p3 : Nat} {v1 v2 v3 : Int} (h0 : txAt s 0 = some (nm, p0)) (h1 : chAt s.data.toList p0 = some (v1, p1)) (h2 : chAt s.data.toList p1 = some (v2, p2)) (h3 : chAt s.data.toList p2 = some (v3, p3)) (hm : ∀ c, Sp.may ⟨nm, v1, v2, v3, c⟩ = false) : decTp s = none := by
  unfold decTp
  simp only [h0, h1, h2, h3, Option.bind_some, hm]
  cases flagAt s.data.toList p3 <;> rfl
theorem may_no {nm : ByteArray} {v1 v2 v3 : Int} (h : 1099511627776 < v1 ∨ 1099511627776 < v2 ∨ 1099511627776 < v3) (c : Bool) : Sp.may ⟨nm, v1, v2, v3, c⟩ = false := by
  unfold Sp.may
  rw [decide_eq_false_iff_not]
  rintro ⟨_, b1, b2, b3⟩
  dsimp only at b1 b2 b3
  omega
theorem rdecTp_any (s : ByteArray) (w : World) (hs : s.size ≤ 100000) :
    Calls Tryz.prog 61 #[.string s] w fun e w' => e = .returned (match decTp s with | some (x, n) => .agg #[.string x.nm, .int .i64 x.parts, .int .i64 x.age, .int .i64 x.size, .bool x.comp, .int .i64 (n : Int), .bool true] | none => .agg #[.string ⟨#[]⟩, .int .i64 0, .int .i64 0, .int .i64 0, .bool false, .int .i64 0, .bool false]) ∧ Below w.heap.size w w' := by
  have hsl : s.data.toList.length = s.size := by simp
  cases h0 : txAt s 0 with
  | none =>
    rw [show decTp s = none from by unfold decTp; rw [h0]; rfl]
    exact rdec22_text s w hs h0
  | some a =>
    obtain ⟨nm, p0⟩ := a
    have hp0 := (txAt_yes h0).2
    cases h1 : chAt s.data.toList p0 with
    | none =>
      rw [show decTp s = none from by unfold decTp; simp only [h0, h1, Option.bind_some, Option.bind_none]]
      exact rdec22_no1 s w hs nm p0 h0 h1
    | some a =>
      obtain ⟨v1, p1⟩ := a
      obtain ⟨_, _, _, hp1, x1, y1⟩ := chAt_yes h1 (by omega)
      cases h2 : chAt s.data.toList p1 with
      | none =>
        rw [show decTp s = none from by unfold decTp; simp only [h0, h1, h2, Option.bind_some, Option.bind_none]]
        by_cases g1 : 1099511627776 < v1
        · exact rdec22_big1 s w hs nm p0 v1 p1 h0 h1 g1
        · exact rdec22_no2 s w hs nm p0 v1 p1 h0 h1 (by omega) h2
      | some a =>
        obtain ⟨v2, p2⟩ := a
        obtain ⟨_, _, _, hp2, x2, y2⟩ := chAt_yes h2 (by omega)
        cases h3 : chAt s.data.toList p2 with
        | none =>
          rw [show decTp s = none from by unfold decTp; simp only [h0, h1, h2, h3, Option.bind_some, Option.bind_none]]
          by_cases g1 : 1099511627776 < v1
          · exact rdec22_big1 s w hs nm p0 v1 p1 h0 h1 g1
          · by_cases g2 : 1099511627776 < v2
            · exact rdec22_big2 s w hs nm p0 v1 p1 v2 p2 h0 h1 (by omega) h2 g2
            · exact rdec22_no3 s w hs nm p0 v1 p1 v2 p2 h0 h1 (by omega) h2 (by omega) h3
        | some a =>
          obtain ⟨v3, p3⟩ := a
          obtain ⟨_, _, _, hp3, x3, y3⟩ := chAt_yes h3 (by omega)
          by_cases g1 : 1099511627776 < v1
          · rw [dec_big h0 h1 h2 h3 (may_no (.inl g1))]
            exact rdec22_big1 s w hs nm p0 v1 p1 h0 h1 g1
          by_cases g2 : 1099511627776 < v2
          · rw [dec_big h0 h1 h2 h3 (may_no (.inr (.inl g2)))]
            exact rdec22_big2 s w hs nm p0 v1 p1 v2 p2 h0 h1 (by omega) h2 g2
          by_cases g3 : 1099511627776 < v3
          · rw [dec_big h0 h1 h2 h3 (may_no (.inr (.inr g3)))]
            exact rdec22_big3 s w hs nm p0 v1 p1 v2 p2 v3 p3 h0 h1 (by omega) h2 (by omega) h3 g3
          cases h4 : chAt s.data.toList p3 with
          | none =>
            rw [show decTp s = none from by unfold decTp; simp only [h0, h1, h2, h3, flag_none h4, Option.bind_some, Option.bind_none]]
            exact rdec22_no4 s w hs nm p0 v1 p1 v2 p2 v3 p3 h0 h1 (by omega) h2 (by omega) h3 (by omega) h4
          | some a =>
            obtain ⟨v4, p4⟩ := a
            obtain ⟨_, _, _, hp4, x4, y4⟩ := chAt_yes h4 (by omega)
            by_cases g4 : 1 < v4
            · rw [show decTp s = none from by unfold decTp; simp only [h0, h1, h2, h3, flag_big h4 g4, Option.bind_some, Option.bind_none]]
              by_cases g5 : 1099511627776 < v4
              · exact rdec22_big4 s w hs nm p0 v1 p1 v2 p2 v3 p3 v4 p4 h0 h1 (by omega) h2 (by omega) h3 (by omega) h4 g5
              · exact rdec22_endbig s w hs nm p0 v1 p1 v2 p2 v3 p3 v4 p4 h0 h1 (by omega) h2 (by omega) h3 (by omega) h4 (by omega) g4
            · obtain ⟨hf, hq⟩ := chain_flag h4 (by omega) (by omega)
              have hfd : decide (v4.toNat = 1) = decide (v4 = 1) := by
                rw [Bool.eq_iff_iff, decide_eq_true_iff, decide_eq_true_iff]; omega
              cases hm : Sp.may ⟨nm, v1, v2, v3, decide (v4 = 1)⟩ with
              | false =>
                rw [show decTp s = none from by unfold decTp; simp only [h0, h1, h2, h3, hf, Option.bind_some, hfd, hm]; rfl]
                exact rdec22_endno s w hs nm p0 v1 p1 v2 p2 v3 p3 v4 p4 h0 h1 (by omega) h2 (by omega) h3 (by omega) h4 (by omega) (by omega) hm
              | true =>
                rw [show decTp s = some (⟨nm, v1, v2, v3, decide (v4 = 1)⟩, p4) from by unfold decTp; simp only [h0, h1, h2, h3, hf, Option.bind_some, hfd, hm, hq]; rfl]
                exact rdec22_endok s w hs nm p0 v1 p1 v2 p2 v3 p3 v4 p4 h0 h1 (by omega) h2 (by omega) h3 (by omega) h4 (by omega) (by omega) hm
end Go.Proofs.YtgogackkeodciaaGreat.W
