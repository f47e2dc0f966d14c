/- Layer 19's definition: Append. -/
import Derived.Test.YtahljbjgenepaaaPtS
namespace Go.Proofs.Ytahljbjgenepaaa.W
open Go.RowKit Go.Sort
open Go.Proofs.Ytahljbjgenepaaa.M Go.Proofs.Ytahljbjgenepaaa.D Go.Proofs.Ytahljbjgenepaaa.Z
set_option linter.unusedVariables false
set_option linter.unusedSimpArgs false

set_option maxRecDepth 100000 in
set_option maxHeartbeats 4000000 in
theorem rapp_any (vr : Option Addr) (cr : Nat) (d : Pd) (vl : Option Addr) (cl : Nat) (l : List Rc) (w : World) (h : RcAt w vr d.rs) (hl : RcAt w vl l) (hll : l.length ≤ 1000) (hn : d.rs.length ≤ 90000) :
    Calls Try.prog 31 #[.agg #[.slice vr d.rs.length cr, .int .i64 d.st, .int .i64 d.nx, .int .i64 d.sn], .slice vl l.length cl] w (DidPost w vr d.rs vl l (d.app l).2 (d.app l).1) := by
  obtain ⟨V, hV, hb0, hP, hR⟩ := did_boxes w vr d.rs.length cr d.st d.nx d.sn
  have hlo : w.heap.size ≤ w.heap.size + 1 := by omega
  obtain ⟨q, hq⟩ : ∃ q, Hid (w.heap.size = q) := ⟨_, Lib.hid rfl⟩
  rw [hq.out] at hP hR
  have hlo : w.heap.size ≤ q + 1 := by rw [← hq.out]; exact hlo
  obtain ⟨p0, p1, p2, p3⟩ := cells4 hP
  obtain ⟨r0, r1, r2, r3, r4⟩ := cells5 hR
  obtain ⟨z0, z1, z2, z3, z4⟩ := frozen5 hR
  obtain ⟨N, hN⟩ : ∃ N, Hid (d.rs.length = N) := ⟨_, Lib.hid rfl⟩
  rw [hN.out] at p0 hP ⊢
  have hVN : Hid (V = (w.alloc (.cells #[.slice vr N cr, .int .i64 d.st, .int .i64 d.nx, .int .i64 d.sn] 29)).alloc (.cells #[.slice none 0 0, .int .i64 0, .int .i64 0, .int .i64 0, .int .i64 0] 36)) := Lib.hid (by rw [hV.out, hN.out])
  clear hV
  rw [hN.out] at hn
  have hmy := rmay19_any vl cl l V (hl.below hb0) hll
  have hri := fun W (hb : Below w.heap.size w W) => rrise19_any vl cl l d.nx 1073741824 W (hl.below hb) hll
  obtain ⟨M, hM⟩ : ∃ M, Hid (l.length = M) := ⟨_, Lib.hid rfl⟩
  rw [hM.out] at hmy hri hll ⊢
  unfold Pd.app
  replace hR := Lib.hid hR
  replace hP := Lib.hid hP
  replace hb0 := Lib.hid hb0
  clear p0 p1 p2 p3 r0 r1 r2 r3 r4 z0 z1 z2 z3 z4
  by_cases ha : l.all Rc.may = true
  · rw [ha] at hmy
    replace hmy := Lib.hid hmy
    have htop : stairB 1073741824 d.nx l = stairB 1048577 d.nx l := stair_top l (all_may.1 ha) d.nx
    rw [htop] at hri
    by_cases hs : stairB 1048577 d.nx l = true
    · have hck : checkP d.nx 1048577 l = 0 := by unfold checkP; rw [if_pos ha, if_pos hs]
      rw [if_pos hck]
      rw [hs] at hri
      have hoks := all_may.1 ha
      replace hri := Lib.hid hri
      clear hck ha hs htop
      by_cases h0 : l = []
      · subst h0
        obtain rfl : M = 0 := hM.out.symm
        rw [lastN_nil, List.append_nil]
        go_enter Try.func31, Try.ntmps31
        go_upto_region 1 with fail
        rw [← show V = _ from hVN.out, hq.out]
        clear hVN
        go_wp2_with fail
        refine hmy.out.mono ?_
        rintro _ w1 ⟨rfl, hb1⟩
        have hP1 := hP.out.below hb1 hP.out.lt
        have hR1 := hR.out.below hb1 hR.out.lt
        replace hb1 := Lib.hid (grew hb0.out hb1)
        obtain ⟨p0, p1, p2, p3⟩ := cells4 hP1
        obtain ⟨r0, r1, r2, r3, r4⟩ := cells5 hR1
        obtain ⟨z0, z1, z2, z3, z4⟩ := frozen5 hR1
        replace hP1 := Lib.hid hP1
        replace hR1 := Lib.hid hR1
        clear hmy hP hR hb0
        have hri1 := Lib.hid (hri.out w1 hb1.out)
        clear hri
        go_wp2_with fail
        refine hri1.out.mono ?_
        rintro _ w2 ⟨rfl, hb2⟩
        have hP2 := hP1.out.below hb2 hP1.out.lt
        have hR2 := hR1.out.below hb2 hR1.out.lt
        replace hb2 := Lib.hid (grew hb1.out hb2)
        clear p0 p1 p2 p3 r0 r1 r2 r3 r4 z0 z1 z2 z3 z4
        obtain ⟨p0, p1, p2, p3⟩ := cells4 hP2
        obtain ⟨r0, r1, r2, r3, r4⟩ := cells5 hR2
        obtain ⟨z0, z1, z2, z3, z4⟩ := frozen5 hR2
        replace hP2 := Lib.hid hP2
        replace hR2 := Lib.hid hR2
        clear hri1 hP1 hR1 hb1
        obtain ⟨f1, f2⟩ := did_laid (v0 := .slice vr N cr) (v1 := .int .i64 d.st) (v2 := .int .i64 d.nx) (v3 := .int .i64 d.sn) (v4 := .int .i64 0) hR2.out hb2.out hlo
        obtain ⟨e0, e1, e2, e3, e4⟩ := cells5 f1
        simp only [World.setCells, Nat.zero_add, Nat.reduceAdd] at e0 e1 e2 e3 e4
        have hfin : Hid (RcAt (w2.setCells (q + 1) 0 [.slice vr N cr, .int .i64 d.st, .int .i64 d.nx, .int .i64 d.sn, .int .i64 0]) vr d.rs ∧ Below w.heap.size w (w2.setCells (q + 1) 0 [.slice vr N cr, .int .i64 d.st, .int .i64 d.nx, .int .i64 d.sn, .int .i64 0])) := Lib.hid ⟨h.below f2, f2⟩
        simp only [World.setCells, Nat.zero_add, Nat.reduceAdd] at hfin
        clear f1 f2
        go_wp2_with fail
        exact bodyPost_ret (v := .agg #[.slice vr N cr, .int .i64 d.st, .int .i64 d.nx, .int .i64 d.sn, .int .i64 0]) (by simp [results, Try.results31, go_sem, e0, e1, e2, e3, e4]) rfl ⟨vr, cr, by rw [← hN.out], hfin.out.1, fun hne q h => .inl ⟨h, hne⟩, hfin.out.2⟩
      · have hpos : 0 < M := by rw [← hM.out]; exact List.length_pos_iff.2 h0
        obtain ⟨r, hr⟩ : ∃ r, l[l.length - 1]? = some r := ⟨_, List.getElem?_eq_getElem (by have := hM.out; omega)⟩
        rw [lastN_at hr h0]
        have hro := (hoks r (List.mem_of_getElem? hr)).1
        obtain ⟨x, hx⟩ : ∃ x, Hid (r.off = x) := ⟨_, Lib.hid rfl⟩
        rw [hx.out] at hro ⊢
        have hrl : Hid (∀ V, RcAt V vl l → ∃ b o, vl = some ⟨b, o, none⟩ ∧ V.cell? ⟨b, o + (M - 1) * 8, none⟩ = some (.int .i64 x)) := Lib.hid (fun V hV => by
          obtain ⟨b, o, e, d0, _⟩ := hV.get hr
          exact ⟨b, o, e, by rw [← hx.out, ← hM.out]; exact d0⟩)
        have hw1 : IntKind.i64.wrap ((M : Int) - 1) = (M : Int) - 1 := by rw [IntWalk.i64_in _ (by omega)]
        have hw2 : IntKind.i64.wrap (x + 1) = x + 1 := by rw [IntWalk.i64_in _ (by omega)]
        have hw3 : ((M : Int) - 1).toNat = M - 1 := by omega
        have hw4 : (M : Int) - 1 < (M : Int) := by omega
        have hw5 : (0 : Int) ≤ (M : Int) - 1 := by omega
        have hm0 : ¬ M = 0 := by omega
        have hm1 : ((M : Int) == 0) = false := by simp; omega
        have hNM : (d.rs ++ l).length = N + M := by rw [List.length_append, hN.out, hM.out]
        replace h0 := Lib.hid h0
        clear hr hoks
        go_enter Try.func31, Try.ntmps31
        go_upto_region 1 with fail
        rw [← show V = _ from hVN.out, hq.out]
        clear hVN
        go_wp2_with fail
        refine hmy.out.mono ?_
        rintro _ w1 ⟨rfl, hb1⟩
        have hP1 := hP.out.below hb1 hP.out.lt
        have hR1 := hR.out.below hb1 hR.out.lt
        replace hb1 := Lib.hid (grew hb0.out hb1)
        obtain ⟨p0, p1, p2, p3⟩ := cells4 hP1
        obtain ⟨r0, r1, r2, r3, r4⟩ := cells5 hR1
        obtain ⟨z0, z1, z2, z3, z4⟩ := frozen5 hR1
        replace hP1 := Lib.hid hP1
        replace hR1 := Lib.hid hR1
        clear hmy hP hR hb0
        have hri1 := Lib.hid (hri.out w1 hb1.out)
        clear hri
        go_wp2_with fail
        refine hri1.out.mono ?_
        rintro _ w2 ⟨rfl, hb2⟩
        have hP2 := hP1.out.below hb2 hP1.out.lt
        have hR2 := hR1.out.below hb2 hR1.out.lt
        replace hb2 := Lib.hid (grew hb1.out hb2)
        clear p0 p1 p2 p3 r0 r1 r2 r3 r4 z0 z1 z2 z3 z4
        obtain ⟨p0, p1, p2, p3⟩ := cells4 hP2
        obtain ⟨r0, r1, r2, r3, r4⟩ := cells5 hR2
        obtain ⟨z0, z1, z2, z3, z4⟩ := frozen5 hR2
        replace hP2 := Lib.hid hP2
        replace hR2 := Lib.hid hR2
        clear hri1 hP1 hR1 hb1
        have hrc2 := h.below hb2.out
        obtain ⟨vA, cA, w3, k1, k2, k3, k4⟩ := run_app2 (W := w2) (va := none) (c := 0) (rs := []) (ns := d.rs) (.inl ⟨rfl, rfl, rfl⟩) (by simp; have := hN.out; omega) vr cr hrc2 27
        have hb3 : Below w2.heap.size w2 w3 := k3.below (Nat.le_refl _) (fun q ⟨o, e⟩ => by cases e)
        obtain ⟨vB, cB, w4, m1, m2, m3, m4⟩ := run_app2 (W := w3) (va := vA) (c := cA) (rs := [] ++ d.rs) (ns := l) k2 (by simp; have := hN.out; have := hM.out; omega) vl cl (hl.below (grew hb2.out hb3)) 27
        have hA2 : ∀ q, ownB vA q → w2.heap.size ≤ q := fun q hq => (k4 q hq).elim (fun ⟨o, e⟩ => by cases e) id
        have hB2' : ∀ q, ownB vB q → w2.heap.size ≤ q := fun q hq => (m4 q hq).elim (hA2 q) (fun e => Nat.le_trans hb3.size e)
        have hb4 : Below w2.heap.size w2 w4 := hb3.trans (m3.below hb3.size (fun q hq => hA2 q hq))
        have hN0 : ([] ++ d.rs : List Rc).length = N := hN.out
        simp only [List.length_nil, Nat.zero_add] at k1
        rw [hN0, hM.out] at m1
        rw [hN.out] at k1
        have hP4 := hP2.out.below hb4 hP2.out.lt
        have hR4 := hR2.out.below hb4 hR2.out.lt
        have hb5 := Lib.hid (grew hb2.out hb4)
        obtain ⟨b, o, rfl, q0⟩ := hrl.out w4 (hl.below hb5.out)
        replace k1 := Lib.hid k1
        replace m1 := Lib.hid m1
        have hg3 := keepZ hb3 p0
        replace hb3 := Lib.hid hb3
        replace hb4 := Lib.hid hb4
        replace k2 := Lib.hid k2
        replace m2 := Lib.hid m2
        replace k3 := Lib.hid k3
        replace m3 := Lib.hid m3
        replace hP4 := Lib.hid hP4
        replace hR4 := Lib.hid hR4
        replace hrl := Lib.hid hrl
        clear hrc2 hN0
        have hlow : Hid (∀ q, ownB vB q → w.heap.size ≤ q) := Lib.hid (fun q hq => Nat.le_trans hb2.out.size (hB2' q hq))
        replace k4 := Lib.hid k4
        replace m4 := Lib.hid m4
        clear hA2 hB2'
        go_wp2_with (with_reducible refine zAppend _ _ _ rfl ?_)
        refine Lib.hid ?_
        refine wpList_append_by rfl _ _ 27 rfl _ _ _ rfl rfl k1.out ?_
        go_wp2_with (with_reducible refine zAppend _ _ _ rfl ?_)
        refine Lib.hid ?_
        refine wpList_append_by rfl _ _ 27 rfl _ _ _ rfl rfl m1.out ?_
        clear p0 p1 p2 p3 r0 r1 r2 r3 r4 z0 z1 z2 z3 z4 hg3
        obtain ⟨p0, p1, p2, p3⟩ := cells4 hP4.out
        obtain ⟨r0, r1, r2, r3, r4⟩ := cells5 hR4.out
        obtain ⟨z0, z1, z2, z3, z4⟩ := frozen5 hR4.out
        go_wp2_with fail
        obtain ⟨f1, f2⟩ := did_laid (v0 := .slice vB (N + M) cB) (v1 := .int .i64 d.st) (v2 := .int .i64 (x + 1)) (v3 := .int .i64 d.sn) (v4 := .int .i64 0) hR4.out hb5.out hlo
        obtain ⟨e0, e1, e2, e3, e4⟩ := cells5 f1
        simp only [World.setCells, Nat.zero_add, Nat.reduceAdd] at e0 e1 e2 e3 e4
        have hfin : Hid (RcAt (w4.setCells (q + 1) 0 [.slice vB (N + M) cB, .int .i64 d.st, .int .i64 (x + 1), .int .i64 d.sn, .int .i64 0]) vB (d.rs ++ l) ∧ Below w.heap.size w (w4.setCells (q + 1) 0 [.slice vB (N + M) cB, .int .i64 d.st, .int .i64 (x + 1), .int .i64 d.sn, .int .i64 0])) := Lib.hid ⟨(m2.out.far_did hR4.out 0 _).at_, f2⟩
        simp only [World.setCells, Nat.zero_add, Nat.reduceAdd] at hfin
        clear f1 f2
        go_region
        go_wp2_with fail
        exact bodyPost_ret (v := .agg #[.slice vB (N + M) cB, .int .i64 d.st, .int .i64 (x + 1), .int .i64 d.sn, .int .i64 0]) (by simp [results, Try.results31, go_sem, World.cell?_drew, e0, e1, e2, e3, e4]) rfl ⟨vB, cB, by rw [hNM], hfin.out.1, fun _ k hk => .inr (.inr (hlow.out k hk)), ⟨hfin.out.2.os, hfin.out.2.tape, hfin.out.2.output, hfin.out.2.size, hfin.out.2.block⟩⟩
    · have hck : checkP d.nx 1048577 l = 34 := by unfold checkP; rw [if_pos ha, if_neg hs]
      rw [hck, if_neg (by decide)]
      rw [Bool.eq_false_iff.2 hs] at hri
      replace hri := Lib.hid hri
      clear hck ha hs htop
      go_enter Try.func31, Try.ntmps31
      go_upto_region 1 with fail
      rw [← show V = _ from hVN.out, hq.out]
      clear hVN
      go_wp2_with fail
      refine hmy.out.mono ?_
      rintro _ w1 ⟨rfl, hb1⟩
      have hP1 := hP.out.below hb1 hP.out.lt
      have hR1 := hR.out.below hb1 hR.out.lt
      replace hb1 := Lib.hid (grew hb0.out hb1)
      obtain ⟨p0, p1, p2, p3⟩ := cells4 hP1
      obtain ⟨r0, r1, r2, r3, r4⟩ := cells5 hR1
      obtain ⟨z0, z1, z2, z3, z4⟩ := frozen5 hR1
      replace hP1 := Lib.hid hP1
      replace hR1 := Lib.hid hR1
      clear hmy hP hR hb0
      have hri1 := Lib.hid (hri.out w1 hb1.out)
      clear hri
      go_wp2_with fail
      refine hri1.out.mono ?_
      rintro _ w2 ⟨rfl, hb2⟩
      have hP2 := hP1.out.below hb2 hP1.out.lt
      have hR2 := hR1.out.below hb2 hR1.out.lt
      replace hb2 := Lib.hid (grew hb1.out hb2)
      clear p0 p1 p2 p3 r0 r1 r2 r3 r4 z0 z1 z2 z3 z4
      obtain ⟨p0, p1, p2, p3⟩ := cells4 hP2
      obtain ⟨r0, r1, r2, r3, r4⟩ := cells5 hR2
      obtain ⟨z0, z1, z2, z3, z4⟩ := frozen5 hR2
      replace hP2 := Lib.hid hP2
      replace hR2 := Lib.hid hR2
      clear hri1 hP1 hR1 hb1
      obtain ⟨f1, f2⟩ := did_laid (v0 := .slice vr N cr) (v1 := .int .i64 d.st) (v2 := .int .i64 d.nx) (v3 := .int .i64 d.sn) (v4 := .int .i64 34) hR2.out hb2.out hlo
      obtain ⟨e0, e1, e2, e3, e4⟩ := cells5 f1
      simp only [World.setCells, Nat.zero_add, Nat.reduceAdd] at e0 e1 e2 e3 e4
      have hfin : Hid (RcAt (w2.setCells (q + 1) 0 [.slice vr N cr, .int .i64 d.st, .int .i64 d.nx, .int .i64 d.sn, .int .i64 34]) vr d.rs ∧ Below w.heap.size w (w2.setCells (q + 1) 0 [.slice vr N cr, .int .i64 d.st, .int .i64 d.nx, .int .i64 d.sn, .int .i64 34])) := Lib.hid ⟨h.below f2, f2⟩
      simp only [World.setCells, Nat.zero_add, Nat.reduceAdd] at hfin
      clear f1 f2
      go_wp2_with fail
      exact bodyPost_ret (v := .agg #[.slice vr N cr, .int .i64 d.st, .int .i64 d.nx, .int .i64 d.sn, .int .i64 34]) (by simp [results, Try.results31, go_sem, e0, e1, e2, e3, e4]) rfl ⟨vr, cr, by rw [← hN.out], hfin.out.1, fun hne q h => .inl ⟨h, hne⟩, hfin.out.2⟩
  · have hck : checkP d.nx 1048577 l = 1 := by unfold checkP; rw [if_neg ha]
    rw [hck, if_neg (by decide)]
    rw [Bool.eq_false_iff.2 ha] at hmy
    replace hmy := Lib.hid hmy
    clear hck ha hri
    go_enter Try.func31, Try.ntmps31
    go_upto_region 1 with fail
    rw [← show V = _ from hVN.out, hq.out]
    clear hVN
    go_wp2_with fail
    refine hmy.out.mono ?_
    rintro _ w1 ⟨rfl, hb1⟩
    have hP1 := hP.out.below hb1 hP.out.lt
    have hR1 := hR.out.below hb1 hR.out.lt
    replace hb1 := Lib.hid (grew hb0.out hb1)
    obtain ⟨p0, p1, p2, p3⟩ := cells4 hP1
    obtain ⟨r0, r1, r2, r3, r4⟩ := cells5 hR1
    obtain ⟨z0, z1, z2, z3, z4⟩ := frozen5 hR1
    replace hP1 := Lib.hid hP1
    replace hR1 := Lib.hid hR1
    clear hmy hP hR hb0
    obtain ⟨f1, f2⟩ := did_laid (v0 := .slice vr N cr) (v1 := .int .i64 d.st) (v2 := .int .i64 d.nx) (v3 := .int .i64 d.sn) (v4 := .int .i64 1) hR1.out hb1.out hlo
    obtain ⟨e0, e1, e2, e3, e4⟩ := cells5 f1
    simp only [World.setCells, Nat.zero_add, Nat.reduceAdd] at e0 e1 e2 e3 e4
    have hfin : Hid (RcAt (w1.setCells (q + 1) 0 [.slice vr N cr, .int .i64 d.st, .int .i64 d.nx, .int .i64 d.sn, .int .i64 1]) vr d.rs ∧ Below w.heap.size w (w1.setCells (q + 1) 0 [.slice vr N cr, .int .i64 d.st, .int .i64 d.nx, .int .i64 d.sn, .int .i64 1])) := Lib.hid ⟨h.below f2, f2⟩
    simp only [World.setCells, Nat.zero_add, Nat.reduceAdd] at hfin
    clear f1 f2
    go_wp2_with fail
    exact bodyPost_ret (v := .agg #[.slice vr N cr, .int .i64 d.st, .int .i64 d.nx, .int .i64 d.sn, .int .i64 1]) (by simp [results, Try.results31, go_sem, e0, e1, e2, e3, e4]) rfl ⟨vr, cr, by rw [← hN.out], hfin.out.1, fun hne q h => .inl ⟨h, hne⟩, hfin.out.2⟩
end Go.Proofs.Ytahljbjgenepaaa.W
