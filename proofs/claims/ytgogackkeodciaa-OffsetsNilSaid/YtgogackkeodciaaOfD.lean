/- Package offsets: Commit; the first offset is applied; Get and Groups behind it. -/
import Derived.Test.YtgogackkeodciaaOfC
namespace Go.Proofs.Ytgogackkeodciaa.W
open Go.RowKit Go.Sort
open Go.Maps (Keyed)
open Go.Proofs.Ytgogackkeodciaa.M Go.Proofs.Ytgogackkeodciaa.D Go.Proofs.Ytgogackkeodciaa.Z
set_option linter.unusedVariables false
set_option linter.unusedSimpArgs false

theorem payA24 : B (offE ⟨#[103]⟩ ⟨#[97]⟩ 1 5) = ⟨#[1, 103, 1, 97, 1, 5]⟩ := by decide +kernel
theorem kyK_key (g t : ByteArray) (p : Int) : WideAt.IsKeyLit (kyK g t p) := trivial
theorem nameG24 : nameB ⟨#[103]⟩ = true := by decide +kernel
theorem nameA24 : nameB ⟨#[97]⟩ = true := by decide +kernel
set_option maxRecDepth 100000 in
set_option maxHeartbeats 4000000 in
theorem commit24_yes (tb : Nat) (g t : ByteArray) (p n : Int) (x : Value) (w : World) (h : Whole w tb 80 [x, .map none]) (hg : nameB g = true) (ht : nameB t = true) (hgs : g.size ≤ 1000) (hts : t.size ≤ 1000) (hp : 0 ≤ p ∧ p ≤ 3) (hn : 0 ≤ n ∧ n ≤ 1048577) (L : ByteArray) (hL : B (offE g t p n) = L) :
    Calls Try.prog 20 #[.pointer (some ⟨tb, 0, none⟩), .agg #[.string g, .string t, .int .i64 p], .int .i64 n] w fun e w' => e = .returned (.tuple #[.agg #[.int .i64 1, .string L], .int .i64 0]) ∧ Below w.heap.size w w' := by
  obtain ⟨V, hV⟩ : ∃ V, Hid (V = (w.alloc (.cells #[.string g, .string t, .int .i64 p] 26)).alloc (.cells #[.int .i64 0, .string ⟨#[]⟩] 33)) := ⟨_, Lib.hid rfl⟩
  have hB : Below w.heap.size w V := by rw [hV.out]; exact grewAlloc (grewAlloc (Below.refl _ _) _) _
  have hP : Whole V w.heap.size 26 [.string g, .string t, .int .i64 p] := by rw [hV.out]; exact (Whole.new w _ _).alloc _
  have hR : Whole V (w.heap.size + 1) 33 [.int .i64 0, .string ⟨#[]⟩] := by
    rw [hV.out]
    have := Whole.new (w.alloc (.cells #[.string g, .string t, .int .i64 p] 26)) 33 [.int .i64 0, .string ⟨#[]⟩]
    simpa using this
  obtain ⟨pb, hpb⟩ : ∃ q, Hid (w.heap.size = q) := ⟨_, Lib.hid rfl⟩
  obtain ⟨fb, hfb⟩ : ∃ q, Hid (w.heap.size + 1 = q) := ⟨_, Lib.hid rfl⟩
  rw [hpb.out] at hP
  rw [hfb.out] at hR
  have hfw : w.heap.size ≤ fb := by have := hfb.out; omega
  have hG := h.below hB h.lt
  have k1 := Lib.hid (may24_yes g t p n V hg ht hp hn)
  have k2 := Lib.hid (fun W (hb : Below V.heap.size V W) => hasRoom24_nil tb x g W (by unfold maxLen; omega) (hG.below hb hG.lt))
  have k3 := Lib.hid (fun W => layCommit24_any g t p n W hgs hts (by omega) (by omega) L hL)
  have p0 : V.cell? ⟨pb, 0, none⟩ = some (.string g) := hP.cell 0
  have p1 : V.cell? ⟨pb, 1, none⟩ = some (.string t) := hP.cell 1
  have p2 : V.cell? ⟨pb, 2, none⟩ = some (.int .i64 p) := hP.cell 2
  replace hP := Lib.hid hP
  replace hR := Lib.hid hR
  replace hB := Lib.hid hB
  clear hG h hg ht hgs hts hp hn hL
  go_enter Try.func20, Try.ntmps20
  go_upto_region 1 with fail
  rw [← show V = _ from hV.out, hfb.out, hpb.out]
  clear hV hpb hfb
  go_wp2_with fail
  refine k1.out.mono ?_
  rintro _ w1 ⟨rfl, b1⟩
  have hPx := hP.out.below b1 hP.out.lt
  have q0 : w1.cell? ⟨pb, 0, none⟩ = some (.string g) := hPx.cell 0
  have q1 : w1.cell? ⟨pb, 1, none⟩ = some (.string t) := hPx.cell 1
  have q2 : w1.cell? ⟨pb, 2, none⟩ = some (.int .i64 p) := hPx.cell 2
  have s11 := Lib.hid b1
  clear b1 hPx p0 p1 p2 k1
  go_wp2_with fail
  refine (k2.out _ s11.out).mono ?_
  rintro _ w2 ⟨rfl, rfl⟩
  go_wp2_with fail
  refine (k3.out _).mono ?_
  rintro _ w5 ⟨rfl, b5⟩
  have s15 := grew s11.out b5
  have hR9 := hR.out.below s15 hR.out.lt
  have r0 : w5.cell? ⟨fb, 0, none⟩ = some (.int .i64 0) := hR9.cell 0
  have r1 : w5.cell? ⟨fb, 1, none⟩ = some (.string ⟨#[]⟩) := hR9.cell 1
  have f0 := hR9.frozen 0
  have f1 := hR9.frozen 1
  have hend : Hid (Whole (w5.setCells fb 0 [.int .i64 1, .string L]) fb 33 [.int .i64 1, .string L]) := Lib.hid (whole_all hR9 rfl)
  have hB9 : Hid (Below w.heap.size w (w5.setCells fb 0 [.int .i64 1, .string L])) := Lib.hid (below_store (grew hB.out s15) hfw (Nat.le_refl _) 0 [.int .i64 1, .string L])
  clear hR9 b5 s15 hR hB hP k2 k3 q0 q1 q2 s11
  go_wp2_with fail
  exact bodyPost_ret (result_cell_tmp Try.results20 rfl rfl hend.out.range Try.underlying33 rfl sizeFr24) rfl ⟨rfl, hB9.out⟩
set_option maxRecDepth 100000 in
set_option maxHeartbeats 4000000 in
theorem applyCommit24_A (tb : Nat) (w : World) (h : Whole w tb 80 [.map none, .map none]) :
    Calls Try.prog 38 #[.pointer (some ⟨tb, 0, none⟩), .agg #[.string ⟨#[1, 103, 1, 97, 1, 5]⟩, .bool false]] w fun e w' => e = .returned (.int .i64 0) ∧ ∃ m1 m2, Whole w' tb 80 [.map (some m1), .map (some m2)] ∧ offM w' m1 1 ((DataW.map []).put (kyK ⟨#[103]⟩ ⟨#[97]⟩ 1) (.lit (.int .i64 5))) ∧ grpM w' m2 1 ((DataW.map []).put (.string (⟨#[103]⟩ : ByteArray).data.toList) (.lit (.int .i64 1))) ∧ Kept (fun q => q = tb) w w' := by
  obtain ⟨V, hV⟩ : ∃ V, Hid (V = w.alloc (.cells #[.string ⟨#[1, 103, 1, 97, 1, 5]⟩, .bool false] 89)) := ⟨_, Lib.hid rfl⟩
  have hB : Below w.heap.size w V := by rw [hV.out]; exact grewAlloc (Below.refl _ _) _
  have hR : Whole V w.heap.size 89 [.string ⟨#[1, 103, 1, 97, 1, 5]⟩, .bool false] := by rw [hV.out]; exact Whole.new w _ _
  obtain ⟨rb, hrb⟩ : ∃ q, Hid (w.heap.size = q) := ⟨_, Lib.hid rfl⟩
  rw [hrb.out] at hR
  have hrw : w.heap.size ≤ rb := by have := hrb.out; omega
  have htr : tb ≠ rb := by have := hrb.out; have := h.lt; omega
  have hG := h.below hB h.lt
  have k1 := Lib.hid (text24_any rb ⟨#[1, 103, 1, 97, 1, 5]⟩ ⟨#[103]⟩ ⟨#[1, 97, 1, 5]⟩ 2 V hR (by decide) (by decide +kernel) (by decide) (by decide +kernel))
  have k2 := Lib.hid (fun W (hW : Whole W rb 89 [.string ⟨#[1, 97, 1, 5]⟩, .bool false]) => text24_any rb ⟨#[1, 97, 1, 5]⟩ ⟨#[97]⟩ ⟨#[1, 5]⟩ 2 W hW (by decide) (by decide +kernel) (by decide) (by decide +kernel))
  have k3 := Lib.hid (fun W (hW : Whole W rb 89 [.string ⟨#[1, 5]⟩, .bool false]) => number24_any rb ⟨#[1, 5]⟩ ⟨#[5]⟩ 1 1 W hW (by decide) (by decide +kernel) (by decide) (by decide) (by decide) (by decide +kernel))
  have k4 := Lib.hid (fun W (hW : Whole W rb 89 [.string ⟨#[5]⟩, .bool false]) => number24_any rb ⟨#[5]⟩ ⟨#[]⟩ 5 1 W hW (by decide) (by decide +kernel) (by decide) (by decide) (by decide) (by decide +kernel))
  have k5 := Lib.hid (fun W => may24_yes ⟨#[103]⟩ ⟨#[97]⟩ 1 5 W nameG24 nameA24 (by decide) (by decide))
  have hkV : Hid (Kept (fun q => q = rb) w V) := Lib.hid (Kept.of_below hB)
  replace hG := Lib.hid hG
  clear h hR hB
  go_enter Try.func38, Try.ntmps38
  go_upto_region 1 with fail
  rw [← show V = _ from hV.out, hrb.out]
  clear hV hrb
  go_wp2_with fail
  refine k1.out.mono ?_
  rintro _ w1 ⟨rfl, hW1, hk1⟩
  replace k2 := Lib.hid (k2.out _ hW1)
  replace hk1 := Lib.hid hk1
  clear hW1 k1
  go_wp2_with fail
  refine k2.out.mono ?_
  rintro _ w2 ⟨rfl, hW2, hk2⟩
  replace k3 := Lib.hid (k3.out _ hW2)
  replace hk2 := Lib.hid (hk1.out.trans hk2)
  clear hW2 k2 hk1
  go_wp2_with fail
  refine k3.out.mono ?_
  rintro _ w3 ⟨rfl, hW3, hk3⟩
  obtain ⟨V4, hV4⟩ : ∃ x, Hid (x = w3.alloc (.cells #[.string ⟨#[103]⟩, .string ⟨#[97]⟩, .int .i64 1] 26)) := ⟨_, Lib.hid rfl⟩
  have hK4 : Whole V4 w3.heap.size 26 [.string ⟨#[103]⟩, .string ⟨#[97]⟩, .int .i64 1] := by rw [hV4.out]; exact Whole.new w3 _ _
  have s4 : Below w3.heap.size w3 V4 := by rw [hV4.out]; exact grewAlloc (Below.refl _ _) _
  obtain ⟨kb, hkb⟩ : ∃ q, Hid (w3.heap.size = q) := ⟨_, Lib.hid rfl⟩
  rw [hkb.out] at hK4
  have hkr : kb ≠ rb := by have := hkb.out; have := hW3.lt; omega
  have hk4 := Lib.hid ((hk2.out.trans hk3).trans (Kept.of_below s4))
  replace k4 := Lib.hid (k4.out _ (hW3.below s4 hW3.lt))
  replace hK4 := Lib.hid hK4
  clear hW3 k3 hk2 hk3 s4
  go_upto_region 2 with fail
  rw [← show V4 = _ from hV4.out, hkb.out]
  clear hV4 hkb
  go_wp2_with fail
  refine k4.out.mono ?_
  rintro _ w5 ⟨rfl, hW5, hk5⟩
  have hK5 := hK4.out.of_kept hk5 hkr
  have hk5 := Lib.hid (hk4.out.trans hk5)
  have a0 : w5.cell? ⟨kb, 0, none⟩ = some (.string ⟨#[103]⟩) := hK5.cell 0
  have a1 : w5.cell? ⟨kb, 1, none⟩ = some (.string ⟨#[97]⟩) := hK5.cell 1
  have a2 : w5.cell? ⟨kb, 2, none⟩ = some (.int .i64 1) := hK5.cell 2
  have k6 := Lib.hid (whole24_yes rb w5 hW5)
  replace hK5 := Lib.hid hK5
  clear hW5 k4 hk4 hK4
  go_wp2_with fail
  refine k6.out.mono ?_
  rintro _ w6 ⟨rfl, rfl⟩
  go_wp2_with fail
  refine (k5.out _).mono ?_
  rintro _ w6 ⟨rfl, b6⟩
  have hK6 := hK5.out.below b6 hK5.out.lt
  have c0 : w6.cell? ⟨kb, 0, none⟩ = some (.string ⟨#[103]⟩) := hK6.cell 0
  have c1 : w6.cell? ⟨kb, 1, none⟩ = some (.string ⟨#[97]⟩) := hK6.cell 1
  have c2 : w6.cell? ⟨kb, 2, none⟩ = some (.int .i64 1) := hK6.cell 2
  have hk6 : Kept (fun q => q = rb) V w6 := hk5.out.trans (Kept.of_below b6)
  have hG6 := hG.out.of_kept hk6 htr
  have k7 := Lib.hid (hasRoom24_nil tb _ ⟨#[103]⟩ w6 (by decide) hG6)
  have k8 := Lib.hid (put24_first tb ⟨#[103]⟩ ⟨#[97]⟩ 1 5 w6 hG6 (by decide) (by decide) (by decide) (by decide))
  have hkw := Lib.hid (hkV.out.trans hk6)
  clear b6 hK6 hK5 hk5 hk6 hG6 hG a0 a1 a2 k6 k5 hkV
  go_wp2_with fail
  refine k7.out.mono ?_
  rintro _ w7 ⟨rfl, rfl⟩
  go_wp2_with fail
  refine k8.out.mono ?_
  rintro _ w8 ⟨rfl, m1, m2, x1, x2, x3, x4⟩
  have hfin := Lib.hid (And.intro x1 (And.intro x2 (And.intro x3 (((hkw.out.mono (own' := fun q => q = tb) (fun k hlt e => by rw [e] at hlt; omega)).trans x4)))))
  clear x1 x2 x3 x4 k7 k8 hkw c0 c1 c2
  go_wp2_with fail
  go_ret
  exact ⟨rfl, m1, m2, hfin.out⟩
set_option maxRecDepth 100000 in
set_option maxHeartbeats 4000000 in
theorem apply24_A (tb : Nat) (w : World) (h : Whole w tb 80 [.map none, .map none]) :
    Calls Try.prog 13 #[.pointer (some ⟨tb, 0, none⟩), .agg #[.int .i64 1, .string ⟨#[1, 103, 1, 97, 1, 5]⟩]] w fun e w' => e = .returned (.int .i64 0) ∧ ∃ m1 m2, Whole w' tb 80 [.map (some m1), .map (some m2)] ∧ offM w' m1 1 ((DataW.map []).put (kyK ⟨#[103]⟩ ⟨#[97]⟩ 1) (.lit (.int .i64 5))) ∧ grpM w' m2 1 ((DataW.map []).put (.string (⟨#[103]⟩ : ByteArray).data.toList) (.lit (.int .i64 1))) ∧ Kept (fun q => q = tb) w w' := by
  obtain ⟨V, hV⟩ : ∃ V, Hid (V = (w.alloc (.cells #[.int .i64 1, .string ⟨#[1, 103, 1, 97, 1, 5]⟩] 33)).alloc (.cells #[.string ⟨#[1, 103, 1, 97, 1, 5]⟩, .bool false] 89)) := ⟨_, Lib.hid rfl⟩
  have hB : Below w.heap.size w V := by rw [hV.out]; exact grewAlloc (grewAlloc (Below.refl _ _) _) _
  have hF : Whole V w.heap.size 33 [.int .i64 1, .string ⟨#[1, 103, 1, 97, 1, 5]⟩] := by rw [hV.out]; exact (Whole.new w _ _).alloc _
  have hR : Whole V (w.heap.size + 1) 89 [.string ⟨#[1, 103, 1, 97, 1, 5]⟩, .bool false] := by
    rw [hV.out]
    have := Whole.new (w.alloc (.cells #[.int .i64 1, .string ⟨#[1, 103, 1, 97, 1, 5]⟩] 33)) 89 [.string ⟨#[1, 103, 1, 97, 1, 5]⟩, .bool false]
    simpa using this
  obtain ⟨fb, hfb⟩ : ∃ q, Hid (w.heap.size = q) := ⟨_, Lib.hid rfl⟩
  obtain ⟨rb, hrb⟩ : ∃ q, Hid (w.heap.size + 1 = q) := ⟨_, Lib.hid rfl⟩
  rw [hfb.out] at hF
  rw [hrb.out] at hR
  have k1 := Lib.hid (applyCommit24_A tb V (h.below hB h.lt))
  have f0 : V.cell? ⟨fb, 0, none⟩ = some (.int .i64 1) := hF.cell 0
  have r0 : V.cell? ⟨rb, 0, none⟩ = some (.string ⟨#[1, 103, 1, 97, 1, 5]⟩) := hR.cell 0
  have r1 : V.cell? ⟨rb, 1, none⟩ = some (.bool false) := hR.cell 1
  have hkV : Hid (Kept (fun q => q = tb) w V) := Lib.hid (Kept.of_below hB)
  clear h hB hF hR
  go_enter Try.func13, Try.ntmps13
  go_upto_region 4 with fail
  rw [← show V = _ from hV.out, hrb.out, hfb.out]
  clear hV hrb hfb
  go_wp2_with fail
  refine k1.out.mono ?_
  rintro _ w8 ⟨rfl, m1, m2, x1, x2, x3, x4⟩
  have hfin := Lib.hid (And.intro x1 (And.intro x2 (And.intro x3 (hkV.out.trans x4))))
  clear x1 x2 x3 x4 k1 hkV f0 r0 r1
  go_wp2_with fail
  go_ret
  exact ⟨rfl, m1, m2, hfin.out⟩
set_option maxRecDepth 100000 in
set_option maxHeartbeats 4000000 in
theorem get24_A (tb m1 : Nat) (x : Value) (g t : ByteArray) (p n : Int) (w : World) (h : Whole w tb 80 [.map (some m1), x]) (ho : offM w m1 1 ((DataW.map []).put (kyK g t p) (.lit (.int .i64 n)))) (hg : g.size ≤ maxLen) (ht : t.size ≤ maxLen) (hp : (Lit.int .i64 p).wf = true) :
    Calls Try.prog 15 #[.pointer (some ⟨tb, 0, none⟩), .agg #[.string g, .string t, .int .i64 p]] w fun e w' => e = .returned (.tuple #[.int .i64 n, .int .i64 0]) ∧ Below w.heap.size w w' := by
  obtain ⟨V, hV⟩ : ∃ V, Hid (V = w.alloc (.cells #[.string g, .string t, .int .i64 p] 26)) := ⟨_, Lib.hid rfl⟩
  have hB : Below w.heap.size w V := by rw [hV.out]; exact grewAlloc (Below.refl _ _) _
  have hP : Whole V w.heap.size 26 [.string g, .string t, .int .i64 p] := by rw [hV.out]; exact Whole.new w _ _
  have ho2 : offM V m1 1 ((DataW.map []).put (kyK g t p) (.lit (.int .i64 n))) := by rw [hV.out]; exact ho.alloc _
  obtain ⟨pb, hpb⟩ : ∃ q, Hid (w.heap.size = q) := ⟨_, Lib.hid rfl⟩
  rw [hpb.out] at hP
  have hG := h.below hB h.lt
  have c0 : V.cell? ⟨tb, 0, none⟩ = some (.map (some m1)) := hG.cell 0
  have p0 : V.cell? ⟨pb, 0, none⟩ = some (.string g) := hP.cell 0
  have p1 : V.cell? ⟨pb, 1, none⟩ = some (.string t) := hP.cell 1
  have p2 : V.cell? ⟨pb, 2, none⟩ = some (.int .i64 p) := hP.cell 2
  have l1 : (Instr.lookup 77 (.map (some m1)) (.agg #[.string g, .string t, .int .i64 p]) true).run Try.prog V.drew = .ok (.tuple #[.int .i64 n, .bool true]) V.drew := by
    obtain ⟨v, ps, hrun, hv⟩ := ho2.drew.look_ok kyLaw Try.underlying77 (zero24 V.drew) (run_mapInt 0 (by decide)) (kyK_of hg ht hp)
    rw [Maps.has_put_same Maps.tidy_empty.isMap (kyK_key g t p)] at hrun
    rw [hrun]
    rw [Maps.atKey_put_same Maps.tidy_empty.isMap (kyK_key g t p)] at hv
    obtain ⟨c, rfl, hc, _⟩ := plainElem_int_inv Try.underlying3 hv
    simp only [Prod.mk.injEq, DataW.lit.injEq, Lit.int.injEq] at hc
    rw [← hc.1.2]
  have hfin := Lib.hid (show Below w.heap.size w V.drew from hB.drew)
  clear h ho ho2 hB hP hG
  go_enter Try.func15, Try.ntmps15
  go_upto_region 3 with fail
  rw [← show V = _ from hV.out, hpb.out]
  clear hV hpb
  go_region
  clear l1 c0 p0 p1 p2
  go_wp2_with fail
  go_ret2
  exact ⟨rfl, hfin.out⟩
theorem groups24_A (tb m2 : Nat) (x : Value) (g : ByteArray) (d : DataW Unit) (w : World) (h : Whole w tb 80 [x, .map (some m2)]) (ho : grpM w m2 1 ((DataW.map []).put (.string g.data.toList) d)) :
    Calls Try.prog 22 #[.pointer (some ⟨tb, 0, none⟩)] w fun e w' => e = .returned (.int .i64 1) ∧ w = w' := by
  have c1 : w.cell? ⟨tb, 1, none⟩ = some (.map (some m2)) := h.cell 1
  have hl := fun ty => ho.len (t := 78) Try.underlying78 ty
  rw [Maps.size_put Maps.tidy_empty] at hl
  have e : ((if Maps.has (DataW.map [] : DataW Unit) (.string g.data.toList) = true then Maps.size (DataW.map [] : DataW Unit) else Maps.size (DataW.map [] : DataW Unit) + 1 : Nat) : Int) = 1 := rfl
  clear h ho
  go_enter Try.func22, Try.ntmps22
  go_wp2_with fail
  go_ret
  exact ⟨by first | rfl | (simp; done), rfl⟩
end Go.Proofs.Ytgogackkeodciaa.W
