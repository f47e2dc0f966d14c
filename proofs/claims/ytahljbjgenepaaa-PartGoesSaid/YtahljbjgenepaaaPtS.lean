/- Layer 19's definition: Set, Replace, Append, Trim. -/
import Derived.Test.YtahljbjgenepaaaPtR
namespace Go.Proofs.Ytahljbjgenepaaa.W
open Go.RowKit Go.Sort
open Go.Proofs.Ytahljbjgenepaaa.M Go.Proofs.Ytahljbjgenepaaa.D Go.Proofs.Ytahljbjgenepaaa.Z
set_option linter.unusedVariables false
set_option linter.unusedSimpArgs false

/-- What a call of the definition comes to. -/
def DidPost (w : World) (vr : Option Addr) (ro : List Rc) (vl : Option Addr) (l : List Rc) (d : Pd) (x : Int) (e : Ending) (w' : World) : Prop :=
  ∃ vr' cr', e = .returned (.agg #[.slice vr' d.rs.length cr', .int .i64 d.st, .int .i64 d.nx, .int .i64 d.sn, .int .i64 x]) ∧ RcAt w' vr' d.rs ∧ (d.rs ≠ [] → ∀ q, ownB vr' q → (ownB vr q ∧ ro ≠ []) ∨ (ownB vl q ∧ l ≠ []) ∨ w.heap.size ≤ q) ∧ Below w.heap.size w w'
/-- The definition's boxes. -/
theorem did_boxes (w : World) (vr : Option Addr) (N cr : Nat) (st nx sn : Int) : ∃ V, Hid (V = (w.alloc (.cells #[.slice vr N cr, .int .i64 st, .int .i64 nx, .int .i64 sn] 29)).alloc (.cells #[.slice none 0 0, .int .i64 0, .int .i64 0, .int .i64 0, .int .i64 0] 36)) ∧
    Below w.heap.size w V ∧ Whole V w.heap.size 29 [.slice vr N cr, .int .i64 st, .int .i64 nx, .int .i64 sn] ∧ Whole V (w.heap.size + 1) 36 [.slice none 0 0, .int .i64 0, .int .i64 0, .int .i64 0, .int .i64 0] := by
  refine ⟨_, Lib.hid rfl, grewAlloc (grewAlloc (Below.refl _ _) _) _, (Whole.new w _ [.slice vr N cr, .int .i64 st, .int .i64 nx, .int .i64 sn]).alloc _, ?_⟩
  have := Whole.new (w.alloc (.cells #[.slice vr N cr, .int .i64 st, .int .i64 nx, .int .i64 sn] 29)) 36 [.slice none 0 0, .int .i64 0, .int .i64 0, .int .i64 0, .int .i64 0]
  rwa [show (w.alloc (.cells #[.slice vr N cr, .int .i64 st, .int .i64 nx, .int .i64 sn] 29)).heap.size = w.heap.size + 1 from by simp] at this
theorem cells4 {W : World} {b : Nat} {t : TypeId} {a0 a1 a2 a3 : Value} (h : Whole W b t [a0, a1, a2, a3]) : W.cell? ⟨b, 0, none⟩ = some a0 ∧ W.cell? ⟨b, 1, none⟩ = some a1 ∧ W.cell? ⟨b, 2, none⟩ = some a2 ∧ W.cell? ⟨b, 3, none⟩ = some a3 := ⟨h.cell 0, h.cell 1, h.cell 2, h.cell 3⟩
theorem cells5 {W : World} {b : Nat} {t : TypeId} {a0 a1 a2 a3 a4 : Value} (h : Whole W b t [a0, a1, a2, a3, a4]) : W.cell? ⟨b, 0, none⟩ = some a0 ∧ W.cell? ⟨b, 1, none⟩ = some a1 ∧ W.cell? ⟨b, 2, none⟩ = some a2 ∧ W.cell? ⟨b, 3, none⟩ = some a3 ∧ W.cell? ⟨b, 4, none⟩ = some a4 := ⟨h.cell 0, h.cell 1, h.cell 2, h.cell 3, h.cell 4⟩
theorem frozen5 {W : World} {b : Nat} {t : TypeId} {l : List Value} (h : Whole W b t l) : W.frozen? ⟨b, 0, none⟩ = false ∧ W.frozen? ⟨b, 1, none⟩ = false ∧ W.frozen? ⟨b, 2, none⟩ = false ∧ W.frozen? ⟨b, 3, none⟩ = false ∧ W.frozen? ⟨b, 4, none⟩ = false := ⟨h.frozen 0, h.frozen 1, h.frozen 2, h.frozen 3, h.frozen 4⟩
/-- The result that is laid. -/
theorem did_laid {w W : World} {rb : Nat} {a0 a1 a2 a3 a4 v0 v1 v2 v3 v4 : Value} (hR : Whole W rb 36 [a0, a1, a2, a3, a4]) (hb : Below w.heap.size w W) (hlo : w.heap.size ≤ rb) :
    Whole (W.setCells rb 0 [v0, v1, v2, v3, v4]) rb 36 [v0, v1, v2, v3, v4] ∧ Below w.heap.size w (W.setCells rb 0 [v0, v1, v2, v3, v4]) :=
  ⟨hR.store 0 [v0, v1, v2, v3, v4] (by simp), Z.below_store hb (c := rb) hlo (Nat.le_refl _) 0 [v0, v1, v2, v3, v4]⟩
theorem stair_top : ∀ (l : List Rc), (∀ r ∈ l, r.ok) → ∀ f : Int, stairB 1073741824 f l = stairB 1048577 f l := by
  intro l
  induction l with
  | nil => intro _ f; rfl
  | cons r t ih =>
    intro h f
    have hr := (h r List.mem_cons_self).1.2
    show (decide _ && stairB 1073741824 (r.off + 1) t) = (decide _ && stairB 1048577 (r.off + 1) t)
    rw [ih (fun x hx => h x (List.mem_cons_of_mem _ hx)) (r.off + 1)]
    congr 1
    apply decide_eq_decide.2
    omega
/-- append of any records, none too. -/
theorem run_app2 {W : World} {va : Option Addr} {c : Nat} {rs ns : List Rc} (h : RowO W va c rs) (hn : rs.length + ns.length ≤ 1000000) (vs : Option Addr) (c2 : Nat) (hns : RcAt W vs ns) (ty : TypeId) :
    ∃ va' c' W', (Builtin.append_ #[27, 27] ty #[.slice va rs.length c, .slice vs ns.length c2]).run Try.prog W = .ok (.slice va' (rs.length + ns.length) c') W' ∧
      RowO W' va' c' (rs ++ ns) ∧ Kept (ownB va) W W' ∧ ∀ q, ownB va' q → ownB va q ∨ W.heap.size ≤ q := by
  rcases vs with _ | ad
  · obtain rfl : ns = [] := by
      cases ns with
      | nil => rfl
      | cons r t => obtain ⟨b, o, e, _⟩ := hns 0 r rfl; cases e
    obtain ⟨i0, hi0, hz0, hz1, hz2⟩ := info_parts infoRp
    refine ⟨va, c, W, ?_, by rw [List.append_nil]; exact h, Kept.refl _ _, fun q hq => .inl hq⟩
    exact run_append_nothing (P := Try.prog) W 27 27 ty 40 i0 Try.underlying27 hi0 va rs.length c h.cap.1 _ (Src.ofNil W Try.underlying27 c2)
  · exact run_row_append h hn ad c2 (rcAt_cells2 hns) ty
theorem RowO.far_did {W : World} {A : Option Addr} {c rb : Nat} {rs : List Rc} {l : List Value} (h : RowO W A c rs) (hR : Whole W rb 36 l) (o : Nat) (vs : List Value) : RowO (W.setCells rb o vs) A c rs :=
  h.of_kept ((Kept.refl (fun k => k = rb) W).setCells (.inl rfl) o vs) (fun k hk e => by
    subst e
    obtain ⟨o2, e2⟩ := hk
    rcases h with ⟨e3, _⟩ | ⟨g3, o3, cu3, e3, hW3, _⟩
    · rw [e2] at e3; cases e3
    · rw [e2] at e3; cases e3
      exact (hW3.ne hR (by decide)) rfl)
-- GEN
set_option maxRecDepth 100000 in
set_option maxHeartbeats 4000000 in
theorem rset_any (vr : Option Addr) (cr : Nat) (d : Pd) (n m : Int) (w : World) (hok : d.ok) (h : RcAt w vr d.rs) :
    Calls Try.prog 34 #[.agg #[.slice vr d.rs.length cr, .int .i64 d.st, .int .i64 d.nx, .int .i64 d.sn], .int .i64 n, .int .i64 m] w (DidPost w vr d.rs none [] (d.set n m).2 (d.set n m).1) := by
  have hpos : 0 < d.rs.length → d.nx ≠ 0 := fun hp => by
    obtain ⟨r, hr⟩ : ∃ r, d.rs[0]? = some r := ⟨_, List.getElem?_eq_getElem hp⟩
    have h1 := hok.2.2.2.2.1 r (List.mem_of_getElem? hr)
    have := hok.1
    omega
  obtain ⟨V, hV, hb0, hP, hR⟩ := did_boxes w vr d.rs.length cr d.st d.nx d.sn
  have hlo : w.heap.size ≤ w.heap.size + 1 := by omega
  obtain ⟨q, hq⟩ : ∃ q, Hid (w.heap.size = q) := ⟨_, Lib.hid rfl⟩
  rw [hq.out] at hP hR
  have hlo : w.heap.size ≤ q + 1 := by rw [← hq.out]; exact hlo
  obtain ⟨p0, p1, p2, p3⟩ := cells4 hP
  obtain ⟨r0, r1, r2, r3, r4⟩ := cells5 hR
  obtain ⟨z0, z1, z2, z3, z4⟩ := frozen5 hR
  obtain ⟨N, hN⟩ : ∃ N, Hid (d.rs.length = N) := ⟨_, Lib.hid rfl⟩
  rw [hN.out] at p0 hP ⊢
  have hVN : Hid (V = (w.alloc (.cells #[.slice vr N cr, .int .i64 d.st, .int .i64 d.nx, .int .i64 d.sn] 29)).alloc (.cells #[.slice none 0 0, .int .i64 0, .int .i64 0, .int .i64 0, .int .i64 0] 36)) := Lib.hid (by rw [hV.out, hN.out])
  clear hV
  rw [hN.out] at hpos
  unfold Pd.set
  by_cases h0 : d.nx ≠ 0
  · rw [if_pos h0]
    have h1 : (d.nx != 0) = true := by simp [h0]
    replace h0 := Lib.hid h0
    replace hR := Lib.hid hR
    clear hP hpos
    rcases (show 0 < N ∨ N = 0 by omega) with h2 | h2
    · have h3 : (0 : Int) < (N : Int) := by omega
      go_enter Try.func34, Try.ntmps34
      go_upto_region 1 with fail
      rw [← show V = _ from hVN.out, hq.out]
      clear hVN
      obtain ⟨f1, f2⟩ := did_laid (v0 := .slice vr N cr) (v1 := .int .i64 d.st) (v2 := .int .i64 d.nx) (v3 := .int .i64 d.sn) (v4 := .int .i64 7) hR.out hb0 hlo
      obtain ⟨e0, e1, e2, e3, e4⟩ := cells5 f1
      simp only [World.setCells, Nat.zero_add, Nat.reduceAdd] at e0 e1 e2 e3 e4
      have hfin : Hid (RcAt (V.setCells (q + 1) 0 [.slice vr N cr, .int .i64 d.st, .int .i64 d.nx, .int .i64 d.sn, .int .i64 7]) vr d.rs ∧ Below w.heap.size w (V.setCells (q + 1) 0 [.slice vr N cr, .int .i64 d.st, .int .i64 d.nx, .int .i64 d.sn, .int .i64 7])) := Lib.hid ⟨h.below f2, f2⟩
      simp only [World.setCells, Nat.zero_add, Nat.reduceAdd] at hfin
      clear f1 f2
      clear h hb0
      go_wp2_with fail
      exact bodyPost_ret (v := .agg #[.slice vr N cr, .int .i64 d.st, .int .i64 d.nx, .int .i64 d.sn, .int .i64 7]) (by simp [results, Try.results34, go_sem, e0, e1, e2, e3, e4]) rfl ⟨vr, cr, by rw [← hN.out], hfin.out.1, fun hne q h => .inl ⟨h, hne⟩, hfin.out.2⟩
    · subst h2
      go_enter Try.func34, Try.ntmps34
      go_upto_region 1 with fail
      rw [← show V = _ from hVN.out, hq.out]
      clear hVN
      obtain ⟨f1, f2⟩ := did_laid (v0 := .slice vr 0 cr) (v1 := .int .i64 d.st) (v2 := .int .i64 d.nx) (v3 := .int .i64 d.sn) (v4 := .int .i64 7) hR.out hb0 hlo
      obtain ⟨e0, e1, e2, e3, e4⟩ := cells5 f1
      simp only [World.setCells, Nat.zero_add, Nat.reduceAdd] at e0 e1 e2 e3 e4
      have hfin : Hid (RcAt (V.setCells (q + 1) 0 [.slice vr 0 cr, .int .i64 d.st, .int .i64 d.nx, .int .i64 d.sn, .int .i64 7]) vr d.rs ∧ Below w.heap.size w (V.setCells (q + 1) 0 [.slice vr 0 cr, .int .i64 d.st, .int .i64 d.nx, .int .i64 d.sn, .int .i64 7])) := Lib.hid ⟨h.below f2, f2⟩
      simp only [World.setCells, Nat.zero_add, Nat.reduceAdd] at hfin
      clear f1 f2
      clear h hb0
      go_wp2_with fail
      exact bodyPost_ret (v := .agg #[.slice vr 0 cr, .int .i64 d.st, .int .i64 d.nx, .int .i64 d.sn, .int .i64 7]) (by simp [results, Try.results34, go_sem, e0, e1, e2, e3, e4]) rfl ⟨vr, cr, by rw [← hN.out], hfin.out.1, fun hne q h => .inl ⟨h, hne⟩, hfin.out.2⟩
  · rw [if_neg h0]
    have h1 : (d.nx != 0) = false := by simp at h0 ⊢; exact h0
    obtain rfl : N = 0 := by
      rcases Nat.eq_zero_or_pos N with e | e
      · exact e
      · exact absurd (hpos e) h0
    have hrs : d.rs = [] := List.eq_nil_of_length_eq_zero hN.out
    replace h0 := Lib.hid h0
    replace hR := Lib.hid hR
    clear hP hpos
    by_cases h2 : n < 0 ∨ m < n ∨ 1048577 < m
    · rw [if_pos h2]
      replace hrs := Lib.hid hrs
      rcases (show n < 0 ∨ (0 ≤ n ∧ m < n) ∨ (0 ≤ n ∧ n ≤ m ∧ 1048577 < m) by omega) with k1 | ⟨k1, k2⟩ | ⟨k1, k2, k3⟩
      all_goals
        clear h2
        go_enter Try.func34, Try.ntmps34
        go_upto_region 1 with fail
        rw [← show V = _ from hVN.out, hq.out]
        clear hVN
        obtain ⟨f1, f2⟩ := did_laid (v0 := .slice vr 0 cr) (v1 := .int .i64 d.st) (v2 := .int .i64 d.nx) (v3 := .int .i64 d.sn) (v4 := .int .i64 1) hR.out hb0 hlo
        obtain ⟨e0, e1, e2, e3, e4⟩ := cells5 f1
        simp only [World.setCells, Nat.zero_add, Nat.reduceAdd] at e0 e1 e2 e3 e4
        have hfin : Hid (RcAt (V.setCells (q + 1) 0 [.slice vr 0 cr, .int .i64 d.st, .int .i64 d.nx, .int .i64 d.sn, .int .i64 1]) vr d.rs ∧ Below w.heap.size w (V.setCells (q + 1) 0 [.slice vr 0 cr, .int .i64 d.st, .int .i64 d.nx, .int .i64 d.sn, .int .i64 1])) := Lib.hid ⟨h.below f2, f2⟩
        simp only [World.setCells, Nat.zero_add, Nat.reduceAdd] at hfin
        clear f1 f2
        clear h hb0
        go_wp2_with fail
        exact bodyPost_ret (v := .agg #[.slice vr 0 cr, .int .i64 d.st, .int .i64 d.nx, .int .i64 d.sn, .int .i64 1]) (by simp [results, Try.results34, go_sem, e0, e1, e2, e3, e4]) rfl ⟨vr, cr, by rw [← hN.out], hfin.out.1, fun hne q h => .inl ⟨h, hne⟩, hfin.out.2⟩
    · rw [if_neg h2]
      have k1 : 0 ≤ n := by omega
      have k2 : n ≤ m := by omega
      have k3 : m ≤ 1048577 := by omega
      have hnil : ∀ W, RcAt W none d.rs := fun W i r hi => by rw [hrs] at hi; simp at hi
      replace hrs := Lib.hid hrs
      replace hnil := Lib.hid hnil
      clear h2
      go_enter Try.func34, Try.ntmps34
      go_upto_region 1 with fail
      rw [← show V = _ from hVN.out, hq.out]
      clear hVN
      obtain ⟨f1, f2⟩ := did_laid (v0 := .slice none 0 0) (v1 := .int .i64 n) (v2 := .int .i64 m) (v3 := .int .i64 m) (v4 := .int .i64 0) hR.out hb0 hlo
      obtain ⟨e0, e1, e2, e3, e4⟩ := cells5 f1
      simp only [World.setCells, Nat.zero_add, Nat.reduceAdd] at e0 e1 e2 e3 e4
      have hfin : Hid (RcAt (V.setCells (q + 1) 0 [.slice none 0 0, .int .i64 n, .int .i64 m, .int .i64 m, .int .i64 0]) none d.rs ∧ Below w.heap.size w (V.setCells (q + 1) 0 [.slice none 0 0, .int .i64 n, .int .i64 m, .int .i64 m, .int .i64 0])) := Lib.hid ⟨hnil.out _, f2⟩
      simp only [World.setCells, Nat.zero_add, Nat.reduceAdd] at hfin
      clear f1 f2
      clear h hb0
      go_wp2_with fail
      exact bodyPost_ret (v := .agg #[.slice none 0 0, .int .i64 n, .int .i64 m, .int .i64 m, .int .i64 0]) (by simp [results, Try.results34, go_sem, e0, e1, e2, e3, e4]) rfl ⟨none, 0, by rw [← hN.out], hfin.out.1, fun e => absurd hrs.out e, hfin.out.2⟩
set_option maxRecDepth 100000 in
set_option maxHeartbeats 4000000 in
theorem rrepl_any (vr : Option Addr) (cr : Nat) (d : Pd) (vl : Option Addr) (cl : Nat) (l : List Rc) (w : World) (h : RcAt w vr d.rs) (hl : RcAt w vl l) (hll : l.length ≤ 1000) :
    Calls Try.prog 33 #[.agg #[.slice vr d.rs.length cr, .int .i64 d.st, .int .i64 d.nx, .int .i64 d.sn], .slice vl l.length cl] w (DidPost w vr d.rs vl l (d.repl l).2 (d.repl l).1) := by
  obtain ⟨V, hV, hb0, hP, hR⟩ := did_boxes w vr d.rs.length cr d.st d.nx d.sn
  have hlo : w.heap.size ≤ w.heap.size + 1 := by omega
  obtain ⟨q, hq⟩ : ∃ q, Hid (w.heap.size = q) := ⟨_, Lib.hid rfl⟩
  rw [hq.out] at hP hR
  have hlo : w.heap.size ≤ q + 1 := by rw [← hq.out]; exact hlo
  obtain ⟨p0, p1, p2, p3⟩ := cells4 hP
  obtain ⟨r0, r1, r2, r3, r4⟩ := cells5 hR
  obtain ⟨z0, z1, z2, z3, z4⟩ := frozen5 hR
  obtain ⟨N, hN⟩ : ∃ N, Hid (d.rs.length = N) := ⟨_, Lib.hid rfl⟩
  rw [hN.out] at p0 hP ⊢
  have hVN : Hid (V = (w.alloc (.cells #[.slice vr N cr, .int .i64 d.st, .int .i64 d.nx, .int .i64 d.sn] 29)).alloc (.cells #[.slice none 0 0, .int .i64 0, .int .i64 0, .int .i64 0, .int .i64 0] 36)) := Lib.hid (by rw [hV.out, hN.out])
  clear hV
  have hmy := rmay19_any vl cl l V (hl.below hb0) hll
  have hri := fun W (hb : Below w.heap.size w W) => rrise19_any vl cl l d.st d.nx W (hl.below hb) hll
  obtain ⟨M, hM⟩ : ∃ M, Hid (l.length = M) := ⟨_, Lib.hid rfl⟩
  rw [hM.out] at hmy hri ⊢
  unfold Pd.repl
  replace hR := Lib.hid hR
  replace hP := Lib.hid hP
  replace hb0 := Lib.hid hb0
  clear p0 p1 p2 p3 r0 r1 r2 r3 r4 z0 z1 z2 z3 z4
  by_cases ha : l.all Rc.may = true
  · rw [ha] at hmy
    replace hmy := Lib.hid hmy
    by_cases hs : stairB d.nx d.st l = true
    · have hck : checkP d.st d.nx l = 0 := by unfold checkP; rw [if_pos ha, if_pos hs]
      rw [if_pos hck]
      rw [hs] at hri
      replace hri := Lib.hid hri
      clear hck ha hs
      go_enter Try.func33, Try.ntmps33
      go_upto_region 1 with fail
      rw [← show V = _ from hVN.out, hq.out]
      clear hVN
      go_wp2_with fail
      refine hmy.out.mono ?_
      rintro _ w1 ⟨rfl, hb1⟩
      have hP1 := hP.out.below hb1 hP.out.lt
      have hR1 := hR.out.below hb1 hR.out.lt
      replace hb1 := Lib.hid (grew hb0.out hb1)
      obtain ⟨p0, p1, p2, p3⟩ := cells4 hP1
      obtain ⟨r0, r1, r2, r3, r4⟩ := cells5 hR1
      obtain ⟨z0, z1, z2, z3, z4⟩ := frozen5 hR1
      replace hP1 := Lib.hid hP1
      replace hR1 := Lib.hid hR1
      clear hmy hP hR hb0
      have hri1 := Lib.hid (hri.out w1 hb1.out)
      clear hri
      go_wp2_with fail
      refine hri1.out.mono ?_
      rintro _ w2 ⟨rfl, hb2⟩
      have hP2 := hP1.out.below hb2 hP1.out.lt
      have hR2 := hR1.out.below hb2 hR1.out.lt
      replace hb2 := Lib.hid (grew hb1.out hb2)
      clear p0 p1 p2 p3 r0 r1 r2 r3 r4 z0 z1 z2 z3 z4
      obtain ⟨p0, p1, p2, p3⟩ := cells4 hP2
      obtain ⟨r0, r1, r2, r3, r4⟩ := cells5 hR2
      obtain ⟨z0, z1, z2, z3, z4⟩ := frozen5 hR2
      replace hP2 := Lib.hid hP2
      replace hR2 := Lib.hid hR2
      clear hri1 hP1 hR1 hb1
      obtain ⟨f1, f2⟩ := did_laid (v0 := .slice vl M cl) (v1 := .int .i64 d.st) (v2 := .int .i64 d.nx) (v3 := .int .i64 d.sn) (v4 := .int .i64 0) hR2.out hb2.out hlo
      obtain ⟨e0, e1, e2, e3, e4⟩ := cells5 f1
      simp only [World.setCells, Nat.zero_add, Nat.reduceAdd] at e0 e1 e2 e3 e4
      have hfin : Hid (RcAt (w2.setCells (q + 1) 0 [.slice vl M cl, .int .i64 d.st, .int .i64 d.nx, .int .i64 d.sn, .int .i64 0]) vl l ∧ Below w.heap.size w (w2.setCells (q + 1) 0 [.slice vl M cl, .int .i64 d.st, .int .i64 d.nx, .int .i64 d.sn, .int .i64 0])) := Lib.hid ⟨hl.below f2, f2⟩
      simp only [World.setCells, Nat.zero_add, Nat.reduceAdd] at hfin
      clear f1 f2
      go_wp2_with fail
      exact bodyPost_ret (v := .agg #[.slice vl M cl, .int .i64 d.st, .int .i64 d.nx, .int .i64 d.sn, .int .i64 0]) (by simp [results, Try.results33, go_sem, e0, e1, e2, e3, e4]) rfl ⟨vl, cl, by rw [← hM.out], hfin.out.1, fun hne q h => .inr (.inl ⟨h, hne⟩), hfin.out.2⟩
    · have hck : checkP d.st d.nx l = 34 := by unfold checkP; rw [if_pos ha, if_neg hs]
      rw [hck, if_neg (by decide)]
      rw [Bool.eq_false_iff.2 hs] at hri
      replace hri := Lib.hid hri
      clear hck ha hs
      go_enter Try.func33, Try.ntmps33
      go_upto_region 1 with fail
      rw [← show V = _ from hVN.out, hq.out]
      clear hVN
      go_wp2_with fail
      refine hmy.out.mono ?_
      rintro _ w1 ⟨rfl, hb1⟩
      have hP1 := hP.out.below hb1 hP.out.lt
      have hR1 := hR.out.below hb1 hR.out.lt
      replace hb1 := Lib.hid (grew hb0.out hb1)
      obtain ⟨p0, p1, p2, p3⟩ := cells4 hP1
      obtain ⟨r0, r1, r2, r3, r4⟩ := cells5 hR1
      obtain ⟨z0, z1, z2, z3, z4⟩ := frozen5 hR1
      replace hP1 := Lib.hid hP1
      replace hR1 := Lib.hid hR1
      clear hmy hP hR hb0
      have hri1 := Lib.hid (hri.out w1 hb1.out)
      clear hri
      go_wp2_with fail
      refine hri1.out.mono ?_
      rintro _ w2 ⟨rfl, hb2⟩
      have hP2 := hP1.out.below hb2 hP1.out.lt
      have hR2 := hR1.out.below hb2 hR1.out.lt
      replace hb2 := Lib.hid (grew hb1.out hb2)
      clear p0 p1 p2 p3 r0 r1 r2 r3 r4 z0 z1 z2 z3 z4
      obtain ⟨p0, p1, p2, p3⟩ := cells4 hP2
      obtain ⟨r0, r1, r2, r3, r4⟩ := cells5 hR2
      obtain ⟨z0, z1, z2, z3, z4⟩ := frozen5 hR2
      replace hP2 := Lib.hid hP2
      replace hR2 := Lib.hid hR2
      clear hri1 hP1 hR1 hb1
      obtain ⟨f1, f2⟩ := did_laid (v0 := .slice vr N cr) (v1 := .int .i64 d.st) (v2 := .int .i64 d.nx) (v3 := .int .i64 d.sn) (v4 := .int .i64 34) hR2.out hb2.out hlo
      obtain ⟨e0, e1, e2, e3, e4⟩ := cells5 f1
      simp only [World.setCells, Nat.zero_add, Nat.reduceAdd] at e0 e1 e2 e3 e4
      have hfin : Hid (RcAt (w2.setCells (q + 1) 0 [.slice vr N cr, .int .i64 d.st, .int .i64 d.nx, .int .i64 d.sn, .int .i64 34]) vr d.rs ∧ Below w.heap.size w (w2.setCells (q + 1) 0 [.slice vr N cr, .int .i64 d.st, .int .i64 d.nx, .int .i64 d.sn, .int .i64 34])) := Lib.hid ⟨h.below f2, f2⟩
      simp only [World.setCells, Nat.zero_add, Nat.reduceAdd] at hfin
      clear f1 f2
      go_wp2_with fail
      exact bodyPost_ret (v := .agg #[.slice vr N cr, .int .i64 d.st, .int .i64 d.nx, .int .i64 d.sn, .int .i64 34]) (by simp [results, Try.results33, go_sem, e0, e1, e2, e3, e4]) rfl ⟨vr, cr, by rw [← hN.out], hfin.out.1, fun hne q h => .inl ⟨h, hne⟩, hfin.out.2⟩
  · have hck : checkP d.st d.nx l = 1 := by unfold checkP; rw [if_neg ha]
    rw [hck, if_neg (by decide)]
    rw [Bool.eq_false_iff.2 ha] at hmy
    replace hmy := Lib.hid hmy
    clear hck ha hri
    go_enter Try.func33, Try.ntmps33
    go_upto_region 1 with fail
    rw [← show V = _ from hVN.out, hq.out]
    clear hVN
    go_wp2_with fail
    refine hmy.out.mono ?_
    rintro _ w1 ⟨rfl, hb1⟩
    have hP1 := hP.out.below hb1 hP.out.lt
    have hR1 := hR.out.below hb1 hR.out.lt
    replace hb1 := Lib.hid (grew hb0.out hb1)
    obtain ⟨p0, p1, p2, p3⟩ := cells4 hP1
    obtain ⟨r0, r1, r2, r3, r4⟩ := cells5 hR1
    obtain ⟨z0, z1, z2, z3, z4⟩ := frozen5 hR1
    replace hP1 := Lib.hid hP1
    replace hR1 := Lib.hid hR1
    clear hmy hP hR hb0
    obtain ⟨f1, f2⟩ := did_laid (v0 := .slice vr N cr) (v1 := .int .i64 d.st) (v2 := .int .i64 d.nx) (v3 := .int .i64 d.sn) (v4 := .int .i64 1) hR1.out hb1.out hlo
    obtain ⟨e0, e1, e2, e3, e4⟩ := cells5 f1
    simp only [World.setCells, Nat.zero_add, Nat.reduceAdd] at e0 e1 e2 e3 e4
    have hfin : Hid (RcAt (w1.setCells (q + 1) 0 [.slice vr N cr, .int .i64 d.st, .int .i64 d.nx, .int .i64 d.sn, .int .i64 1]) vr d.rs ∧ Below w.heap.size w (w1.setCells (q + 1) 0 [.slice vr N cr, .int .i64 d.st, .int .i64 d.nx, .int .i64 d.sn, .int .i64 1])) := Lib.hid ⟨h.below f2, f2⟩
    simp only [World.setCells, Nat.zero_add, Nat.reduceAdd] at hfin
    clear f1 f2
    go_wp2_with fail
    exact bodyPost_ret (v := .agg #[.slice vr N cr, .int .i64 d.st, .int .i64 d.nx, .int .i64 d.sn, .int .i64 1]) (by simp [results, Try.results33, go_sem, e0, e1, e2, e3, e4]) rfl ⟨vr, cr, by rw [← hN.out], hfin.out.1, fun hne q h => .inl ⟨h, hne⟩, hfin.out.2⟩
end Go.Proofs.Ytahljbjgenepaaa.W
