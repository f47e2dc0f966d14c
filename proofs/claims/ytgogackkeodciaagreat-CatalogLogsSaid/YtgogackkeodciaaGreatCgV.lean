/- Package catalog: layDrop, layMeta, Delete, Put. Package catalog: layMeta, Put. Package catalog: Put. -/
import Derived.Test.YtgogackkeodciaaGreatCgR
section
namespace Go.Proofs.YtgogackkeodciaaGreat.W
open Go.RowKit Go.Sort
open Go.Proofs.YtgogackkeodciaaGreat.M Go.Proofs.YtgogackkeodciaaGreat.D Go.Proofs.YtgogackkeodciaaGreat.Z
set_option linter.unusedVariables false
set_option linter.unusedSimpArgs false

set_option maxRecDepth 100000 in
theorem layDrop_any (nm : ByteArray) (w : World) (hn : nm.size ≤ 100000) :
    Calls Tryz.prog 49 #[.string nm] w fun e w' => e = .returned (.agg #[.int .i64 2, .string (B (textL (nk nm)))]) ∧ Below w.heap.size w w' := by
  obtain ⟨V, hV⟩ : ∃ V, Hid (V = w.alloc (.cells #[.int .i64 0, .string ⟨#[]⟩] 37)) := ⟨_, Lib.hid rfl⟩
  have hB : Below w.heap.size w V := by rw [hV.out]; exact grewAlloc (Below.refl _ _) _
  have hR : Whole V w.heap.size 37 [.int .i64 0, .string ⟨#[]⟩] := by rw [hV.out]; exact Whole.new w _ _
  obtain ⟨rb, hrb⟩ : ∃ q, Hid (w.heap.size = q) := ⟨_, Lib.hid rfl⟩
  rw [hrb.out] at hR
  have hrw : w.heap.size ≤ rb := by have := hrb.out; omega
  have ht := Lib.hid (text_any nm V (by omega))
  obtain ⟨S, hS⟩ : ∃ S, Hid (B (textL (nk nm)) = S) := ⟨_, Lib.hid rfl⟩
  rw [show B (textL nm.data.toList) = S from hS.out] at ht
  rw [hS.out]
  replace hB := Lib.hid hB
  replace hR := Lib.hid hR
  clear hS
  go_enter Tryz.func49, Tryz.ntmps49
  go_upto_region 1 with fail
  rw [← show V = _ from hV.out, hrb.out]
  clear hV hrb
  go_wp2_with (go_at_call 71; refine ht.out.mono ?_; rintro _ w2 ⟨rfl, b2⟩; have hR2 := hR.out.below b2 hR.out.lt; have r0 : w2.cell? ⟨rb, 0, none⟩ = some (.int .i64 0) := hR2.cell 0; have r1 : w2.cell? ⟨rb, 1, none⟩ = some (.string ⟨#[]⟩) := hR2.cell 1; have f0 := hR2.frozen 0; have f1 := hR2.frozen 1; have hend : Hid (Whole (w2.setCells rb 0 [.int .i64 2, .string S]) rb 37 [.int .i64 2, .string S]) := Lib.hid (whole_all hR2 rfl); have hB9 : Hid (Below w.heap.size w (w2.setCells rb 0 [.int .i64 2, .string S])) := Lib.hid (below_store (grew hB.out b2) hrw (Nat.le_refl _) 0 [.int .i64 2, .string S]); clear hR2 b2)
  exact bodyPost_ret (result_cell Tryz.results49 rfl hend.out.range Tryz.underlying37 rfl sizeFr23) rfl ⟨rfl, hB9.out⟩
/-- What Delete tells. -/
def deleteF (T : List To) (nm : ByteArray) : Int × ByteArray × Int := if hasT T nm = true then (2, B (textL (nk nm)), 0) else (0, ⟨#[]⟩, 6)
set_option maxRecDepth 100000 in
set_option maxHeartbeats 2000000 in
theorem delete23_any {B0 : Nat} (cb : Nat) (m : Option Nat) (T : List To) (n : Int) (c : Nat) (nm : ByteArray) (w : World) (h : CaAt B0 w cb m T n c) (hn : nm.size ≤ 100000) :
    Calls Tryz.prog 21 #[.pointer (some ⟨cb, 0, none⟩), .string nm] w fun e w' => e = .returned (.tuple #[.agg #[.int .i64 (deleteF T nm).1, .string (deleteF T nm).2.1], .int .i64 (deleteF T nm).2.2]) ∧ Below w.heap.size w w' := by
  obtain ⟨V, hV⟩ : ∃ V, Hid (V = w.alloc (.cells #[.int .i64 0, .string ⟨#[]⟩] 37)) := ⟨_, Lib.hid rfl⟩
  have hB : Below w.heap.size w V := by rw [hV.out]; exact grewAlloc (Below.refl _ _) _
  have hR : Whole V w.heap.size 37 [.int .i64 0, .string ⟨#[]⟩] := by rw [hV.out]; exact Whole.new w _ _
  obtain ⟨rb, hrb⟩ : ∃ q, Hid (w.heap.size = q) := ⟨_, Lib.hid rfl⟩
  rw [hrb.out] at hR
  have hrw : w.heap.size ≤ rb := by have := hrb.out; omega
  have hha := has23_any cb m T n c nm V (h.below hB)
  have hld := Lib.hid (fun W => layDrop_any nm W hn)
  replace hB := Lib.hid hB
  replace hR := Lib.hid hR
  unfold deleteF
  clear h
  cases hv : hasT T nm with
  | false =>
    rw [hv] at hha
    rw [if_neg (by decide)]
    replace hha := Lib.hid hha
    clear hld hv
    go_enter Tryz.func21, Tryz.ntmps21
    go_upto_region 1 with fail
    rw [← show V = _ from hV.out, hrb.out]
    clear hV hrb
    go_wp2_with fail
    refine hha.out.mono ?_
    rintro _ w2 ⟨rfl, b2⟩
    have hR2 := hR.out.below b2 hR.out.lt
    have r0 : w2.cell? ⟨rb, 0, none⟩ = some (.int .i64 0) := hR2.cell 0
    have r1 : w2.cell? ⟨rb, 1, none⟩ = some (.string ⟨#[]⟩) := hR2.cell 1
    have f0 := hR2.frozen 0
    have f1 := hR2.frozen 1
    have hend : Hid (Whole (w2.setCells rb 0 [.int .i64 0, .string ⟨#[]⟩]) rb 37 [.int .i64 0, .string ⟨#[]⟩]) := Lib.hid (whole_all hR2 rfl)
    have hB9 : Hid (Below w.heap.size w (w2.setCells rb 0 [.int .i64 0, .string ⟨#[]⟩])) := Lib.hid (below_store (grew hB.out b2) hrw (Nat.le_refl _) 0 [.int .i64 0, .string ⟨#[]⟩])
    clear hR2 b2 hha
    go_wp2_with fail
    exact bodyPost_ret (result_cell_tmp Tryz.results21 rfl rfl hend.out.range Tryz.underlying37 rfl sizeFr23) rfl ⟨rfl, hB9.out⟩
  | true =>
    rw [hv] at hha
    rw [if_pos rfl]
    replace hha := Lib.hid hha
    obtain ⟨S, hS⟩ : ∃ S, Hid (B (textL (nk nm)) = S) := ⟨_, Lib.hid rfl⟩
    rw [hS.out] at hld ⊢
    clear hS hv
    go_enter Tryz.func21, Tryz.ntmps21
    go_upto_region 1 with fail
    rw [← show V = _ from hV.out, hrb.out]
    clear hV hrb
    go_wp2_with fail
    refine hha.out.mono ?_
    rintro _ w2 ⟨rfl, b2⟩
    clear hha
    go_wp2_with (go_at_call 49; refine (hld.out _).mono ?_; rintro _ w3 ⟨rfl, b3⟩; have b4 := grew b2 b3; have hR2 := hR.out.below b4 hR.out.lt; have r0 : w3.cell? ⟨rb, 0, none⟩ = some (.int .i64 0) := hR2.cell 0; have r1 : w3.cell? ⟨rb, 1, none⟩ = some (.string ⟨#[]⟩) := hR2.cell 1; have f0 := hR2.frozen 0; have f1 := hR2.frozen 1; have hend : Hid (Whole (w3.setCells rb 0 [.int .i64 2, .string S]) rb 37 [.int .i64 2, .string S]) := Lib.hid (whole_all hR2 rfl); have hB9 : Hid (Below w.heap.size w (w3.setCells rb 0 [.int .i64 2, .string S])) := Lib.hid (below_store (grew hB.out b4) hrw (Nat.le_refl _) 0 [.int .i64 2, .string S]); clear hR2 b3 b4 b2)
    exact bodyPost_ret (result_cell_tmp Tryz.results21 rfl rfl hend.out.range Tryz.underlying37 rfl sizeFr23) rfl ⟨rfl, hB9.out⟩
end Go.Proofs.YtgogackkeodciaaGreat.W
end
section
namespace Go.Proofs.YtgogackkeodciaaGreat.W
open Go.RowKit Go.Sort
open Go.Proofs.YtgogackkeodciaaGreat.M Go.Proofs.YtgogackkeodciaaGreat.D Go.Proofs.YtgogackkeodciaaGreat.Z
set_option linter.unusedVariables false
set_option linter.unusedSimpArgs false

theorem textL_small {s : ByteArray} {n : Nat} (h : s.size ≤ n) : (B (textL s.data.toList)).size ≤ n + 10 := by
  rw [B_size]
  have := textL_most s.data.toList
  have hl : s.data.toList.length = s.size := by simp
  omega
set_option maxRecDepth 100000 in
set_option maxHeartbeats 4000000 in
theorem layMeta_any (pn : ByteArray) (pp : Int) (x : Mt) (w : World) (hn : pn.size ≤ 100000) (hp : 0 ≤ pp ∧ pp ≤ 1099511627776) (hx : x.may = true) :
    Calls Tryz.prog 46 #[.agg #[.string pn, .int .i64 pp], .agg #[.int .i64 x.gen, .int .i64 x.seq, .int .i64 x.start, .int .i64 x.next, .string x.tab]] w fun e w' => e = .returned (.agg #[.int .i64 3, .string (B (metaE pn pp x))]) ∧ Below w.heap.size w w' := by
  obtain ⟨V1, hV1⟩ : ∃ V, Hid (V = (w.alloc (.cells #[.string pn, .int .i64 pp] 33)).alloc (.cells #[.int .i64 x.gen, .int .i64 x.seq, .int .i64 x.start, .int .i64 x.next, .string x.tab] 35)) := ⟨_, Lib.hid rfl⟩
  have hP1 : Whole V1 w.heap.size 33 [.string pn, .int .i64 pp] := by rw [hV1.out]; exact (Whole.new w _ _).alloc _
  have hM1 : Whole V1 (w.heap.size + 1) 35 [.int .i64 x.gen, .int .i64 x.seq, .int .i64 x.start, .int .i64 x.next, .string x.tab] := by
    rw [hV1.out]
    have := Whole.new (w.alloc (.cells #[.string pn, .int .i64 pp] 33)) 35 [.int .i64 x.gen, .int .i64 x.seq, .int .i64 x.start, .int .i64 x.next, .string x.tab]
    simpa using this
  have hz1 : V1.heap.size = w.heap.size + 2 := by rw [hV1.out]; simp
  obtain ⟨V, hV⟩ : ∃ V, Hid (V = V1.alloc (.cells #[.int .i64 0, .string ⟨#[]⟩] 37)) := ⟨_, Lib.hid rfl⟩
  have hB : Below w.heap.size w V := by rw [hV.out, hV1.out]; exact grewAlloc (grewAlloc (grewAlloc (Below.refl _ _) _) _) _
  have hP : Whole V w.heap.size 33 [.string pn, .int .i64 pp] := by rw [hV.out]; exact hP1.alloc _
  have hM : Whole V (w.heap.size + 1) 35 [.int .i64 x.gen, .int .i64 x.seq, .int .i64 x.start, .int .i64 x.next, .string x.tab] := by rw [hV.out]; exact hM1.alloc _
  have hR : Whole V (w.heap.size + 2) 37 [.int .i64 0, .string ⟨#[]⟩] := by
    rw [hV.out, ← hz1]
    exact Whole.new V1 _ _
  rw [hV1.out] at hV
  clear hV1 hP1 hM1 hz1
  obtain ⟨xb, hxb⟩ : ∃ q, Hid (w.heap.size = q) := ⟨_, Lib.hid rfl⟩
  obtain ⟨yb, hyb⟩ : ∃ q, Hid (w.heap.size + 1 = q) := ⟨_, Lib.hid rfl⟩
  obtain ⟨rb, hrb⟩ : ∃ q, Hid (w.heap.size + 2 = q) := ⟨_, Lib.hid rfl⟩
  rw [hxb.out] at hP
  rw [hyb.out] at hM
  rw [hrb.out] at hR
  have hrw : w.heap.size ≤ rb := by have := hrb.out; omega
  have hxr : xb ≠ rb := by have := hrb.out; have := hxb.out; omega
  have hyr : yb ≠ rb := by have := hrb.out; have := hyb.out; omega
  obtain ⟨⟨g0, g1⟩, ⟨q0, q1⟩, ⟨s0, s1⟩, n1, tok⟩ : Mt.ok x := of_decide_eq_true hx
  have htz := tabB_size tok
  have hcl := chainsL_len [pp, x.gen, x.seq, x.start, x.next]
  have z1 : (B (chainsL [pp, x.gen, x.seq, x.start, x.next])).size ≤ 50 := by rw [B_size]; simpa using hcl
  have z2 := textL_small hn
  have z3 := textL_small htz
  have hap : Hid (B (textL pn.data.toList) ++ B (chainsL [pp, x.gen, x.seq, x.start, x.next]) ++ B (textL x.tab.data.toList) = B (metaE pn pp x)) := Lib.hid (by rw [B_append, B_append]; unfold chainsL metaE nk; simp)
  have hch : Hid (∀ (W : World) (q : Nat), Whole W q 3 [.int .i64 pp, .int .i64 x.gen, .int .i64 x.seq, .int .i64 x.start, .int .i64 x.next] → Calls Tryz.prog 70 #[.slice (some ⟨q, 0, none⟩) 5 5] W fun e w' => e = .returned (.string (B (chainsL [pp, x.gen, x.seq, x.start, x.next]))) ∧ Below W.heap.size W w') := Lib.hid (fun W q hW => chains23_any q 5 [pp, x.gen, x.seq, x.start, x.next] W (by simp) (fun j y hj => by
      rw [hW.cell]
      match j, hj with
      | 0, hj => cases hj; rfl
      | 1, hj => cases hj; rfl
      | 2, hj => cases hj; rfl
      | 3, hj => cases hj; rfl
      | 4, hj => cases hj; rfl
      | j + 5, hj => simp at hj) (fun y hy => by
      simp only [List.mem_cons, List.not_mem_nil, or_false] at hy
      rcases hy with rfl | rfl | rfl | rfl | rfl
      · exact hp
      · omega
      · omega
      · omega
      · omega))
  obtain ⟨C, hC⟩ : ∃ s, Hid (B (chainsL [pp, x.gen, x.seq, x.start, x.next]) = s) := ⟨_, Lib.hid rfl⟩
  obtain ⟨S1, hS1⟩ : ∃ s, Hid (B (textL pn.data.toList) = s) := ⟨_, Lib.hid rfl⟩
  obtain ⟨S2, hS2⟩ : ∃ s, Hid (B (textL x.tab.data.toList) = s) := ⟨_, Lib.hid rfl⟩
  have ht1 := fun W => text_any pn W (by omega)
  have ht2 := fun W => text_any x.tab W (by omega)
  rw [hC.out] at z1 hap hch
  rw [hS1.out] at z2 hap ht1
  rw [hS2.out] at z3 hap ht2
  rw [← hap.out]
  obtain ⟨g, q, s, nx, tb⟩ := x
  dsimp only at hV hM hch ht2 ⊢
  have p0 : V.cell? ⟨xb, 0, none⟩ = some (.string pn) := hP.cell 0
  have p1 : V.cell? ⟨xb, 1, none⟩ = some (.int .i64 pp) := hP.cell 1
  have m0 : V.cell? ⟨yb, 0, none⟩ = some (.int .i64 g) := hM.cell 0
  have m1 : V.cell? ⟨yb, 1, none⟩ = some (.int .i64 q) := hM.cell 1
  have m2 : V.cell? ⟨yb, 2, none⟩ = some (.int .i64 s) := hM.cell 2
  have m3 : V.cell? ⟨yb, 3, none⟩ = some (.int .i64 nx) := hM.cell 3
  have m4 : V.cell? ⟨yb, 4, none⟩ = some (.string tb) := hM.cell 4
  replace hB := Lib.hid hB
  replace hP := Lib.hid hP
  replace hM := Lib.hid hM
  replace hR := Lib.hid hR
  replace ht1 := Lib.hid ht1
  replace ht2 := Lib.hid ht2
  clear hn hp hx g0 g1 q0 q1 s0 s1 n1 tok htz hcl hC hS1 hS2 hap
  go_enter Tryz.func46, Tryz.ntmps46
  go_upto_region 1 with fail
  rw [← show V = _ from hV.out, show w.heap.size + 1 + 1 = rb from hrb.out, hyb.out, hxb.out]
  clear hV hxb hyb hrb
  obtain ⟨V3, hV3⟩ : ∃ W, Hid (W = V.alloc (.cells #[.int .i64 pp, .int .i64 g, .int .i64 q, .int .i64 s, .int .i64 nx] 3)) := ⟨_, Lib.hid rfl⟩
  have hb3 : Below V.heap.size V V3 := by rw [hV3.out]; exact grewAlloc (Below.refl _ _) _
  have hT : Whole V3 V.heap.size 3 [.int .i64 pp, .int .i64 g, .int .i64 q, .int .i64 s, .int .i64 nx] := by rw [hV3.out]; exact Whole.new V _ _
  have hc3 := Lib.hid (hch.out V3 V.heap.size hT)
  clear hch hT
  go_wp2_with (go_at_call 70; rw [← show V3 = _ from hV3.out]; refine hc3.out.mono ?_; rintro _ W ⟨rfl, b4⟩; have hb4 : Below V.heap.size V W := grew hb3 b4)
  have hP4 := hP.out.below hb4 hP.out.lt
  have hM4 := hM.out.below hb4 hM.out.lt
  have hR4 := hR.out.below hb4 hR.out.lt
  have hB4 := Lib.hid (grew hB.out hb4)
  have x0 : ∀ W', Kept (fun k => k = rb) W W' → W'.cell? ⟨xb, 0, none⟩ = some (.string pn) := fun W' hk => (hP4.of_kept hk hxr).cell 0
  have y4 : ∀ W', Kept (fun k => k = rb) W W' → W'.cell? ⟨yb, 4, none⟩ = some (.string tb) := fun W' hk => (hM4.of_kept hk hyr).cell 4
  have s10 : Kept (fun k => k = rb) W W := Kept.refl _ _
  have s10d : Kept (fun k => k = rb) W W.drew := kD (Kept.refl _ _)
  have ha1 : ¬ 9223372036854775807 < S1.size + C.size := by omega
  have ha2 : ¬ 9223372036854775807 < S1.size + C.size + S2.size := by omega
  have ha3 : ¬ 9223372036854775807 < (S1 ++ C).size + S2.size := by rw [ByteArray.size_append]; omega
  replace hR4 := Lib.hid hR4
  clear hP4 hM4 hb3 b4 hb4 hc3 hV3 p0 p1 m0 m1 m2 m3 m4 hP hM hR hB
  go_upto_region 2 with fail
  go_region_held3 (fun w' => Kept (fun k => k = rb) W w') (with_reducible first | assumption | exact kR2 (by assumption) _ _) (first
    | (go_at_call 71; have qq := s11; (with_reducible refine (ht2.out _).mono ?_); rintro _ y2 ⟨rfl, b2⟩; have b22 : Below W.heap.size W y2 := grew b11 b2; have s12 : Kept (fun k => k = rb) W y2 := Kept.of_below b22; have hR5 := hR4.out.below b22 hR4.out.lt; have r0 : y2.cell? ⟨rb, 0, none⟩ = some (.int .i64 0) := hR5.cell 0; have r1 : y2.cell? ⟨rb, 1, none⟩ = some (.string ⟨#[]⟩) := hR5.cell 1; have f0 := hR5.frozen 0; have f1 := hR5.frozen 1; have hend : Hid (Whole (y2.setCells rb 0 [.int .i64 3, .string (S1 ++ C ++ S2)]) rb 37 [.int .i64 3, .string (S1 ++ C ++ S2)]) := Lib.hid (whole_all hR5 rfl); have hB9 : Hid (Below w.heap.size w (y2.setCells rb 0 [.int .i64 3, .string (S1 ++ C ++ S2)])) := Lib.hid (below_store (grew hB4.out b22) hrw (Nat.le_refl _) 0 [.int .i64 3, .string (S1 ++ C ++ S2)]))
    | (go_at_call 71; (with_reducible refine (ht1.out _).mono ?_); rintro _ y1 ⟨rfl, b1⟩; have b11 : Below W.heap.size W y1 := grew (Below.refl _ _).drew b1; have s11 : Kept (fun k => k = rb) W y1 := Kept.of_below b11))
  all_goals
    clear x0 y4 ht1 ht2
    go_wp2_with fail
    exact bodyPost_ret (result_cell Tryz.results46 rfl hend.out.range Tryz.underlying37 rfl sizeFr23) rfl ⟨rfl, hB9.out⟩
/-- What Put tells. -/
def putE (T : List To) (pn : ByteArray) (pp : Int) (x : Mt) : Int × ByteArray × Int := if (metaT T pn pp).isSome = false then (0, ⟨#[]⟩, 6) else if x.may = false then (0, ⟨#[]⟩, 1) else (3, B (metaE pn pp x), 0)
end Go.Proofs.YtgogackkeodciaaGreat.W
end
section
namespace Go.Proofs.YtgogackkeodciaaGreat.W
open Go.RowKit Go.Sort
open Go.Proofs.YtgogackkeodciaaGreat.M Go.Proofs.YtgogackkeodciaaGreat.D Go.Proofs.YtgogackkeodciaaGreat.Z
set_option linter.unusedVariables false
set_option linter.unusedSimpArgs false

set_option maxRecDepth 100000 in
set_option maxHeartbeats 2000000 in
theorem put23C_any {B0 : Nat} (cb : Nat) (m : Option Nat) (T : List To) (n : Int) (c : Nat) (pn : ByteArray) (pp : Int) (x : Mt) (w : World) (h : CaAt B0 w cb m T n c) (hn : pn.size ≤ 100000) (h1 : (Lit.int .i64 pp).wf = true) (hp : (metaT T pn pp).isSome = true → 0 ≤ pp ∧ pp ≤ 1099511627776) (ht : x.tab.size ≤ 100000) :
    Calls Tryz.prog 22 #[.pointer (some ⟨cb, 0, none⟩), .agg #[.string pn, .int .i64 pp], .agg #[.int .i64 x.gen, .int .i64 x.seq, .int .i64 x.start, .int .i64 x.next, .string x.tab]] w fun e w' => e = .returned (.tuple #[.agg #[.int .i64 (putE T pn pp x).1, .string (putE T pn pp x).2.1], .int .i64 (putE T pn pp x).2.2]) ∧ Below w.heap.size w w' := by
  obtain ⟨V1, hV1⟩ : ∃ V, Hid (V = (w.alloc (.cells #[.string pn, .int .i64 pp] 33)).alloc (.cells #[.int .i64 x.gen, .int .i64 x.seq, .int .i64 x.start, .int .i64 x.next, .string x.tab] 35)) := ⟨_, Lib.hid rfl⟩
  have hP1 : Whole V1 w.heap.size 33 [.string pn, .int .i64 pp] := by rw [hV1.out]; exact (Whole.new w _ _).alloc _
  have hM1 : Whole V1 (w.heap.size + 1) 35 [.int .i64 x.gen, .int .i64 x.seq, .int .i64 x.start, .int .i64 x.next, .string x.tab] := by
    rw [hV1.out]
    have := Whole.new (w.alloc (.cells #[.string pn, .int .i64 pp] 33)) 35 [.int .i64 x.gen, .int .i64 x.seq, .int .i64 x.start, .int .i64 x.next, .string x.tab]
    simpa using this
  have hz1 : V1.heap.size = w.heap.size + 2 := by rw [hV1.out]; simp
  obtain ⟨V, hV⟩ : ∃ V, Hid (V = V1.alloc (.cells #[.int .i64 0, .string ⟨#[]⟩] 37)) := ⟨_, Lib.hid rfl⟩
  have hB : Below w.heap.size w V := by rw [hV.out, hV1.out]; exact grewAlloc (grewAlloc (grewAlloc (Below.refl _ _) _) _) _
  have hP : Whole V w.heap.size 33 [.string pn, .int .i64 pp] := by rw [hV.out]; exact hP1.alloc _
  have hM : Whole V (w.heap.size + 1) 35 [.int .i64 x.gen, .int .i64 x.seq, .int .i64 x.start, .int .i64 x.next, .string x.tab] := by rw [hV.out]; exact hM1.alloc _
  have hR : Whole V (w.heap.size + 2) 37 [.int .i64 0, .string ⟨#[]⟩] := by
    rw [hV.out, ← hz1]
    exact Whole.new V1 _ _
  rw [hV1.out] at hV
  clear hV1 hP1 hM1 hz1
  obtain ⟨xb, hxb⟩ : ∃ q, Hid (w.heap.size = q) := ⟨_, Lib.hid rfl⟩
  obtain ⟨yb, hyb⟩ : ∃ q, Hid (w.heap.size + 1 = q) := ⟨_, Lib.hid rfl⟩
  obtain ⟨rb, hrb⟩ : ∃ q, Hid (w.heap.size + 2 = q) := ⟨_, Lib.hid rfl⟩
  rw [hxb.out] at hP
  rw [hyb.out] at hM
  rw [hrb.out] at hR
  have hrw : w.heap.size ≤ rb := by have := hrb.out; omega
  have hC := h.below hB
  have q0 : V.cell? ⟨xb, 0, none⟩ = some (.string pn) := hP.cell 0
  have q1 : V.cell? ⟨xb, 1, none⟩ = some (.int .i64 pp) := hP.cell 1
  have hhp := hasPlace_any cb m _ _ n c pn pp V hC.at_ (by unfold maxLen; omega) h1
  have hmy := Lib.hid (fun W => may23_any x.gen x.seq x.start x.next x.tab W ht)
  have hlm : Hid ((metaT T pn pp).isSome = true → x.may = true → ∀ W, Calls Tryz.prog 46 #[.agg #[.string pn, .int .i64 pp], .agg #[.int .i64 x.gen, .int .i64 x.seq, .int .i64 x.start, .int .i64 x.next, .string x.tab]] W fun e w' => e = .returned (.agg #[.int .i64 3, .string (B (metaE pn pp x))]) ∧ Below W.heap.size W w') := Lib.hid (fun a b W => layMeta_any pn pp x W hn (hp a) b)
  have hin : Hid (True ∧ Whole V xb 33 [.string pn, .int .i64 pp] ∧ Whole V yb 35 [.int .i64 x.gen, .int .i64 x.seq, .int .i64 x.start, .int .i64 x.next, .string x.tab] ∧ Whole V rb 37 [.int .i64 0, .string ⟨#[]⟩]) := Lib.hid ⟨trivial, hP, hM, hR⟩
  obtain ⟨S, hS⟩ : ∃ s, Hid (B (metaE pn pp x) = s) := ⟨_, Lib.hid rfl⟩
  rw [hS.out] at hlm
  replace hB := Lib.hid hB
  unfold putE
  rw [hS.out]
  clear hS hP hM hR h hC hp h1 hn ht
  obtain ⟨g, q, s, nx, tb⟩ := x
  dsimp only at hV hin hmy hlm ⊢
  cases hm : (metaT T pn pp).isSome with
  | false =>
    rw [hm] at hhp
    rw [if_pos rfl]
    replace hhp := Lib.hid hhp
    clear hm hmy hlm
    go_enter Tryz.func22, Tryz.ntmps22
    go_upto_region 1 with fail
    rw [← show V = _ from hV.out, show w.heap.size + 1 + 1 = rb from hrb.out, hyb.out, hxb.out]
    clear hV hxb hyb hrb
    go_wp2_with fail
    refine hhp.out.mono ?_
    rintro _ W2 ⟨rfl, hb2⟩
    have hR9 := hin.out.2.2.2.below hb2 hin.out.2.2.2.lt
    have r0 : W2.cell? ⟨rb, 0, none⟩ = some (.int .i64 0) := hR9.cell 0
    have r1 : W2.cell? ⟨rb, 1, none⟩ = some (.string ⟨#[]⟩) := hR9.cell 1
    have f0 := hR9.frozen 0
    have f1 := hR9.frozen 1
    have hend : Hid (Whole (W2.setCells rb 0 [.int .i64 0, .string ⟨#[]⟩]) rb 37 [.int .i64 0, .string ⟨#[]⟩]) := Lib.hid (whole_all hR9 rfl)
    have hB9 : Hid (Below w.heap.size w (W2.setCells rb 0 [.int .i64 0, .string ⟨#[]⟩])) := Lib.hid (below_store (grew hB.out hb2) hrw (Nat.le_refl _) 0 [.int .i64 0, .string ⟨#[]⟩])
    clear hb2 hhp q0 q1 hR9 hin
    go_wp2_with fail
    exact bodyPost_ret (result_cell_tmp Tryz.results22 rfl rfl hend.out.range Tryz.underlying37 rfl sizeFr23) rfl ⟨rfl, hB9.out⟩
  | true =>
    rw [hm] at hhp
    rw [if_neg (by decide)]
    replace hhp := Lib.hid hhp
    cases hy : Mt.may ⟨g, q, s, nx, tb⟩ with
    | false =>
      rw [if_pos rfl]
      replace hmy := Lib.hid (fun W => hy ▸ hmy.out W)
      clear hm hlm hy
      go_enter Tryz.func22, Tryz.ntmps22
      go_upto_region 1 with fail
      rw [← show V = _ from hV.out, show w.heap.size + 1 + 1 = rb from hrb.out, hyb.out, hxb.out]
      clear hV hxb hyb hrb
      go_wp2_with fail
      refine hhp.out.mono ?_
      rintro _ W2 ⟨rfl, hb2⟩
      have hP2 := hin.out.2.1.below hb2 hin.out.2.1.lt
      have hM2 := hin.out.2.2.1.below hb2 hin.out.2.2.1.lt
      have m0 : W2.cell? ⟨yb, 0, none⟩ = some (.int .i64 g) := hM2.cell 0
      have m1 : W2.cell? ⟨yb, 1, none⟩ = some (.int .i64 q) := hM2.cell 1
      have m2 : W2.cell? ⟨yb, 2, none⟩ = some (.int .i64 s) := hM2.cell 2
      have m3 : W2.cell? ⟨yb, 3, none⟩ = some (.int .i64 nx) := hM2.cell 3
      have m4 : W2.cell? ⟨yb, 4, none⟩ = some (.string tb) := hM2.cell 4
      clear hP2 hM2 q0 q1 hhp
      go_wp2_with fail
      refine (hmy.out _).mono ?_
      rintro _ W3 ⟨rfl, hb3⟩
      have hb4 := grew hb2 hb3
      clear m0 m1 m2 m3 m4
      have hR9 := hin.out.2.2.2.below hb4 hin.out.2.2.2.lt
      have r0 : W3.cell? ⟨rb, 0, none⟩ = some (.int .i64 0) := hR9.cell 0
      have r1 : W3.cell? ⟨rb, 1, none⟩ = some (.string ⟨#[]⟩) := hR9.cell 1
      have f0 := hR9.frozen 0
      have f1 := hR9.frozen 1
      have hend : Hid (Whole (W3.setCells rb 0 [.int .i64 0, .string ⟨#[]⟩]) rb 37 [.int .i64 0, .string ⟨#[]⟩]) := Lib.hid (whole_all hR9 rfl)
      have hB9 : Hid (Below w.heap.size w (W3.setCells rb 0 [.int .i64 0, .string ⟨#[]⟩])) := Lib.hid (below_store (grew hB.out hb4) hrw (Nat.le_refl _) 0 [.int .i64 0, .string ⟨#[]⟩])
      clear hb2 hb3 hb4 hmy hR9 hin
      go_wp2_with fail
      exact bodyPost_ret (result_cell_tmp Tryz.results22 rfl rfl hend.out.range Tryz.underlying37 rfl sizeFr23) rfl ⟨rfl, hB9.out⟩
    | true =>
      rw [if_neg (by decide)]
      replace hmy := Lib.hid (fun W => hy ▸ hmy.out W)
      replace hlm := Lib.hid (hlm.out hm hy)
      clear hm hy
      go_enter Tryz.func22, Tryz.ntmps22
      go_upto_region 1 with fail
      rw [← show V = _ from hV.out, show w.heap.size + 1 + 1 = rb from hrb.out, hyb.out, hxb.out]
      clear hV hxb hyb hrb
      go_wp2_with fail
      refine hhp.out.mono ?_
      rintro _ W2 ⟨rfl, hb2⟩
      have hP2 := hin.out.2.1.below hb2 hin.out.2.1.lt
      have hM2 := hin.out.2.2.1.below hb2 hin.out.2.2.1.lt
      have m0 : W2.cell? ⟨yb, 0, none⟩ = some (.int .i64 g) := hM2.cell 0
      have m1 : W2.cell? ⟨yb, 1, none⟩ = some (.int .i64 q) := hM2.cell 1
      have m2 : W2.cell? ⟨yb, 2, none⟩ = some (.int .i64 s) := hM2.cell 2
      have m3 : W2.cell? ⟨yb, 3, none⟩ = some (.int .i64 nx) := hM2.cell 3
      have m4 : W2.cell? ⟨yb, 4, none⟩ = some (.string tb) := hM2.cell 4
      clear hP2 hM2 q0 q1 hhp
      go_wp2_with fail
      refine (hmy.out _).mono ?_
      rintro _ W3 ⟨rfl, hb3⟩
      have hb4 := grew hb2 hb3
      clear m0 m1 m2 m3 m4
      have hP3 := hin.out.2.1.below hb4 hin.out.2.1.lt
      have hM3 := hin.out.2.2.1.below hb4 hin.out.2.2.1.lt
      have p0 : W3.cell? ⟨xb, 0, none⟩ = some (.string pn) := hP3.cell 0
      have p1 : W3.cell? ⟨xb, 1, none⟩ = some (.int .i64 pp) := hP3.cell 1
      have m0 : W3.cell? ⟨yb, 0, none⟩ = some (.int .i64 g) := hM3.cell 0
      have m1 : W3.cell? ⟨yb, 1, none⟩ = some (.int .i64 q) := hM3.cell 1
      have m2 : W3.cell? ⟨yb, 2, none⟩ = some (.int .i64 s) := hM3.cell 2
      have m3 : W3.cell? ⟨yb, 3, none⟩ = some (.int .i64 nx) := hM3.cell 3
      have m4 : W3.cell? ⟨yb, 4, none⟩ = some (.string tb) := hM3.cell 4
      clear hP3 hM3 hmy hb2 hb3
      go_wp2_with (go_at_call 46; refine (hlm.out _).mono ?_; rintro _ W4 ⟨rfl, b5⟩; have b6 := grew hb4 b5; have hR9 := hin.out.2.2.2.below b6 hin.out.2.2.2.lt; have r0 : W4.cell? ⟨rb, 0, none⟩ = some (.int .i64 0) := hR9.cell 0; have r1 : W4.cell? ⟨rb, 1, none⟩ = some (.string ⟨#[]⟩) := hR9.cell 1; have f0 := hR9.frozen 0; have f1 := hR9.frozen 1; have hend : Hid (Whole (W4.setCells rb 0 [.int .i64 3, .string S]) rb 37 [.int .i64 3, .string S]) := Lib.hid (whole_all hR9 rfl); have hB9 : Hid (Below w.heap.size w (W4.setCells rb 0 [.int .i64 3, .string S])) := Lib.hid (below_store (grew hB.out b6) hrw (Nat.le_refl _) 0 [.int .i64 3, .string S]); clear hR9 b5 b6)
      exact bodyPost_ret (result_cell_tmp Tryz.results22 rfl rfl hend.out.range Tryz.underlying37 rfl sizeFr23) rfl ⟨rfl, hB9.out⟩
end Go.Proofs.YtgogackkeodciaaGreat.W
end
