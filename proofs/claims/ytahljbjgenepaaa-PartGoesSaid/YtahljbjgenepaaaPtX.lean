/- Layer 19's law: act, done. -/
import Derived.Test.YtahljbjgenepaaaPtW
namespace Go.Proofs.Ytahljbjgenepaaa.W
open Go.RowKit Go.Sort
open Go.Proofs.Ytahljbjgenepaaa.M Go.Proofs.Ytahljbjgenepaaa.D Go.Proofs.Ytahljbjgenepaaa.Z
set_option linter.unusedVariables false
set_option linter.unusedSimpArgs false

theorem wf_i64p {x : Int} (h : (Lit.int .i64 x).wf = true) : -9223372036854775808 ≤ x ∧ x ≤ 9223372036854775807 := by
  simp [Lit.wf, IntKind.min, IntKind.max, IntKind.signed, IntKind.bits] at h
  omega
/-- What a call comes to. -/
def Pd.step (d : Pd) (x : A19) : Int × Pd :=
  if x.k = 0 then d.app x.rs else if x.k = 1 then d.trim x.n else if x.k = 2 then d.repl x.rs else if x.k = 3 then d.set x.n x.m else if x.k = 4 then (0, d.mark) else (0, d)
theorem DidPost.pre {w V : World} {vr vl : Option Addr} {ro l : List Rc} {d : Pd} {x : Int} {e : Ending} {w' : World} (h : DidPost V vr ro vl l d x e w') (hb : Below w.heap.size w V) : DidPost w vr ro vl l d x e w' := by
  obtain ⟨vr', cr', h1, h2, h3, h4⟩ := h
  exact ⟨vr', cr', h1, h2, fun hne q hq => (h3 hne q hq).imp id (fun e => e.imp id (fun e => Nat.le_trans hb.size e)), grew hb h4⟩
theorem DidPost.noL {w : World} {vr vl : Option Addr} {ro l : List Rc} {d : Pd} {x : Int} {e : Ending} {w' : World} (h : DidPost w vr ro none [] d x e w') : DidPost w vr ro vl l d x e w' := by
  obtain ⟨vr', cr', h1, h2, h3, h4⟩ := h
  exact ⟨vr', cr', h1, h2, fun hne q hq => (h3 hne q hq).imp id (fun e => e.elim (fun ⟨_, e⟩ => absurd rfl e) .inr), h4⟩
theorem LeftP.pre {w V w' : World} {pb : Nat} {va : Option Addr} {d : Pd} (h : LeftP V pb va d w') (hb : Below w.heap.size w V) : LeftP w pb va d w' := by
  obtain ⟨va', c', h1, h2, h3⟩ := h
  exact ⟨va', c', h1, (Kept.of_below hb).trans ⟨h2.os, h2.tape, h2.output, h2.size, h2.block⟩, fun q hq => (h3 q hq).imp id (fun e => Nat.le_trans hb.size e)⟩
theorem keys5 (k : Int) : (k = 0 ∨ k = 1 ∨ k = 2 ∨ k = 3 ∨ k = 4) ∨ ((k == 0) = false ∧ (k == 1) = false ∧ (k == 2) = false ∧ (k == 3) = false ∧ (k == 4) = false ∧ k ≠ 0 ∧ k ≠ 1 ∧ k ≠ 2 ∧ k ≠ 3 ∧ k ≠ 4) := by
  by_cases h : k = 0 ∨ k = 1 ∨ k = 2 ∨ k = 3 ∨ k = 4
  · exact .inl h
  · refine .inr ?_
    simp
    omega
/-- The boxes of act. -/
theorem act_boxes (w : World) (vr : Option Addr) (N cr : Nat) (st nx sn k n m : Int) (la : Option Addr) (ln lc : Nat) : ∃ V, Hid (V = ((w.alloc (.cells #[.slice vr N cr, .int .i64 st, .int .i64 nx, .int .i64 sn] 29)).alloc (.cells #[.int .i64 k, .int .i64 n, .int .i64 m, .slice la ln lc] 31)).alloc (.cells #[.slice none 0 0, .int .i64 0, .int .i64 0, .int .i64 0, .int .i64 0] 36)) ∧
    Below w.heap.size w V ∧ Whole V w.heap.size 29 [.slice vr N cr, .int .i64 st, .int .i64 nx, .int .i64 sn] ∧ Whole V (w.heap.size + 1) 31 [.int .i64 k, .int .i64 n, .int .i64 m, .slice la ln lc] ∧ Whole V (w.heap.size + 1 + 1) 36 [.slice none 0 0, .int .i64 0, .int .i64 0, .int .i64 0, .int .i64 0] := by
  refine ⟨_, Lib.hid rfl, grewAlloc (grewAlloc (grewAlloc (Below.refl _ _) _) _) _, ((Whole.new w _ [.slice vr N cr, .int .i64 st, .int .i64 nx, .int .i64 sn]).alloc _).alloc _, ?_, ?_⟩
  · have := (Whole.new (w.alloc (.cells #[.slice vr N cr, .int .i64 st, .int .i64 nx, .int .i64 sn] 29)) 31 [.int .i64 k, .int .i64 n, .int .i64 m, .slice la ln lc]).alloc (.cells #[.slice none 0 0, .int .i64 0, .int .i64 0, .int .i64 0, .int .i64 0] 36)
    rwa [show (w.alloc (.cells #[.slice vr N cr, .int .i64 st, .int .i64 nx, .int .i64 sn] 29)).heap.size = w.heap.size + 1 from by simp] at this
  · have := Whole.new ((w.alloc (.cells #[.slice vr N cr, .int .i64 st, .int .i64 nx, .int .i64 sn] 29)).alloc (.cells #[.int .i64 k, .int .i64 n, .int .i64 m, .slice la ln lc] 31)) 36 [.slice none 0 0, .int .i64 0, .int .i64 0, .int .i64 0, .int .i64 0]
    rwa [show ((w.alloc (.cells #[.slice vr N cr, .int .i64 st, .int .i64 nx, .int .i64 sn] 29)).alloc (.cells #[.int .i64 k, .int .i64 n, .int .i64 m, .slice la ln lc] 31)).heap.size = w.heap.size + 1 + 1 from by simp] at this
set_option maxRecDepth 100000 in
set_option maxHeartbeats 4000000 in
theorem act_app (vr : Option Addr) (cr : Nat) (d : Pd) (N : Nat) (hN : Hid (d.rs.length = N)) (n m : Int) (la : Option Addr) (ln lc : Nat) (rs : List Rc) (w : World) (h : RcAt w vr d.rs) (hin : rs ≠ [] → ∀ b, ownB la b → b < w.heap.size) (D : Pd) (E : Int) (hc : ∀ V, RcAt V vr d.rs → Below w.heap.size w V → ∃ F, F = 31 ∧ Calls Try.prog F #[.agg #[.slice vr N cr, .int .i64 d.st, .int .i64 d.nx, .int .i64 d.sn], .slice la ln lc] V (DidPost V vr d.rs la rs D E)) :
    Calls Try.prog 12 #[.agg #[.slice vr N cr, .int .i64 d.st, .int .i64 d.nx, .int .i64 d.sn], .agg #[.int .i64 0, .int .i64 n, .int .i64 m, .slice la ln lc]] w (DidPost w vr d.rs la rs D E) := by
  obtain ⟨V, hV, hb0, hP, hX, hR⟩ := act_boxes w vr N cr d.st d.nx d.sn 0 n m la ln lc
  have hlo : w.heap.size ≤ w.heap.size + 1 + 1 := by omega
  obtain ⟨q, hq⟩ : ∃ q, Hid (w.heap.size = q) := ⟨_, Lib.hid rfl⟩
  rw [hq.out] at hP hR hX
  have hlo : w.heap.size ≤ q + 1 + 1 := by rw [← hq.out]; exact hlo
  obtain ⟨p0, p1, p2, p3⟩ := cells4 hP
  obtain ⟨x0, x1, x2, x3⟩ := cells4 hX
  have hfr : Hid (D.rs ≠ [] → ∀ b, ownB vr b → d.rs ≠ [] → b = q + 1 + 1 → False) := Lib.hid (fun _ b hb hne e => by
    obtain ⟨o, e2⟩ := hb
    obtain ⟨r, hr⟩ : ∃ r, d.rs[0]? = some r := ⟨_, List.getElem?_eq_getElem (List.length_pos_iff.2 hne)⟩
    obtain ⟨b', o', e3, h3, _⟩ := h 0 r hr
    rw [e2] at e3; cases e3
    omega)
  have hfl : Hid (D.rs ≠ [] → ∀ b, ownB la b → rs ≠ [] → b = q + 1 + 1 → False) := Lib.hid (fun _ b hb hne e => by
    have := hin hne b hb
    omega)
  have hfr : Hid (D.rs ≠ [] → ∀ b, ownB vr b → d.rs ≠ [] → b = q + 1 + 1 → False) := Lib.hid (fun _ b hb hne e => by
    obtain ⟨o, e2⟩ := hb
    obtain ⟨r, hr⟩ : ∃ r, d.rs[0]? = some r := ⟨_, List.getElem?_eq_getElem (List.length_pos_iff.2 hne)⟩
    obtain ⟨b', o', e3, h3, _⟩ := h 0 r hr
    rw [e2] at e3; cases e3
    omega)
  have hfl : Hid (D.rs ≠ [] → ∀ b, ownB la b → rs ≠ [] → b = q + 1 + 1 → False) := Lib.hid (fun _ b hb hne e => by
    have := hin hne b hb
    omega)
  have hfr : Hid (D.rs ≠ [] → ∀ b, ownB vr b → d.rs ≠ [] → b = q + 1 + 1 → False) := Lib.hid (fun _ b hb hne e => by
    obtain ⟨o, e2⟩ := hb
    obtain ⟨r, hr⟩ : ∃ r, d.rs[0]? = some r := ⟨_, List.getElem?_eq_getElem (List.length_pos_iff.2 hne)⟩
    obtain ⟨b', o', e3, h3, _⟩ := h 0 r hr
    rw [e2] at e3; cases e3
    omega)
  have hfl : Hid (D.rs ≠ [] → ∀ b, ownB la b → rs ≠ [] → b = q + 1 + 1 → False) := Lib.hid (fun _ b hb hne e => by
    have := hin hne b hb
    omega)
  have hfr : Hid (D.rs ≠ [] → ∀ b, ownB vr b → d.rs ≠ [] → b = q + 1 + 1 → False) := Lib.hid (fun _ b hb hne e => by
    obtain ⟨o, e2⟩ := hb
    obtain ⟨r, hr⟩ : ∃ r, d.rs[0]? = some r := ⟨_, List.getElem?_eq_getElem (List.length_pos_iff.2 hne)⟩
    obtain ⟨b', o', e3, h3, _⟩ := h 0 r hr
    rw [e2] at e3; cases e3
    omega)
  have hfl : Hid (D.rs ≠ [] → ∀ b, ownB la b → rs ≠ [] → b = q + 1 + 1 → False) := Lib.hid (fun _ b hb hne e => by
    have := hin hne b hb
    omega)
  obtain ⟨F, hF, hc⟩ := hc V (h.below hb0) hb0
  subst hF
  replace hc := Lib.hid hc
  replace hb0 := Lib.hid hb0
  replace hR := Lib.hid hR
  clear hP hX h
  go_enter Try.func12, Try.ntmps12
  go_upto_region 1 with fail
  rw [← show V = _ from hV.out, hq.out]
  clear hV
  go_wp2_with fail
  refine hc.out.mono ?_
  rintro _ w1 ⟨vr1, cr1, rfl, h1, h2, hb1⟩
  have hR1 := hR.out.below hb1 hR.out.lt
  have hb2 := grew hb0.out hb1
  have hsz := hb0.out.size
  obtain ⟨M1, hM1⟩ : ∃ M, Hid (D.rs.length = M) := ⟨_, Lib.hid rfl⟩
  rw [hM1.out]
  obtain ⟨r0, r1, r2, r3, r4⟩ := cells5 hR1
  obtain ⟨z0, z1, z2, z3, z4⟩ := frozen5 hR1
  have hql : q + 1 + 1 < V.heap.size := hR.out.lt
  clear p0 p1 p2 p3 x0 x1 x2 x3 hc
  obtain ⟨T0, T1, T2, T3⟩ : ∃ a b c : Int, Hid (D.st = a ∧ D.nx = b ∧ D.sn = c) := ⟨_, _, _, Lib.hid ⟨rfl, rfl, rfl⟩⟩
  rw [T3.out.1, T3.out.2.1, T3.out.2.2]
  obtain ⟨f1, f2⟩ := did_laid (v0 := .slice vr1 M1 cr1) (v1 := .int .i64 T0) (v2 := .int .i64 T1) (v3 := .int .i64 T2) (v4 := .int .i64 E) hR1 hb2 hlo
  obtain ⟨e0, e1, e2, e3, e4⟩ := cells5 f1
  simp only [World.setCells, Nat.zero_add, Nat.reduceAdd] at e0 e1 e2 e3 e4
  have hfin : Hid (DidPost w vr d.rs la rs D E (.returned (.agg #[.slice vr1 M1 cr1, .int .i64 T0, .int .i64 T1, .int .i64 T2, .int .i64 E])) (w1.setCells (q + 1 + 1) 0 [.slice vr1 M1 cr1, .int .i64 T0, .int .i64 T1, .int .i64 T2, .int .i64 E])) := Lib.hid ⟨vr1, cr1, by rw [hM1.out, T3.out.1, T3.out.2.1, T3.out.2.2], h1.of_kept ((Kept.refl (fun b => b = q + 1 + 1) w1).setCells (.inl rfl) 0 _) (fun hne b hb e => by
        subst e
        rcases h2 hne _ hb with ⟨e1, e2⟩ | ⟨e1, e2⟩ | e1
        · exact hfr.out hne _ e1 e2 rfl
        · exact hfl.out hne _ e1 e2 rfl
        · omega), fun hne b hb => (h2 hne b hb).imp id (fun e => e.imp id (fun e => Nat.le_trans hsz e)), f2⟩
  simp only [World.setCells, Nat.zero_add, Nat.reduceAdd] at hfin
  clear f1 f2
  go_wp2_with fail
  exact bodyPost_ret (v := .agg #[.slice vr1 M1 cr1, .int .i64 T0, .int .i64 T1, .int .i64 T2, .int .i64 E]) (by simp [results, Try.results12, go_sem, e0, e1, e2, e3, e4]) rfl hfin.out
set_option maxRecDepth 100000 in
set_option maxHeartbeats 4000000 in
theorem act_trim (vr : Option Addr) (cr : Nat) (d : Pd) (N : Nat) (hN : Hid (d.rs.length = N)) (n m : Int) (la : Option Addr) (ln lc : Nat) (rs : List Rc) (w : World) (h : RcAt w vr d.rs) (hin : rs ≠ [] → ∀ b, ownB la b → b < w.heap.size) (D : Pd) (E : Int) (hc : ∀ V, RcAt V vr d.rs → Below w.heap.size w V → ∃ F, F = 32 ∧ Calls Try.prog F #[.agg #[.slice vr N cr, .int .i64 d.st, .int .i64 d.nx, .int .i64 d.sn], .int .i64 n] V (DidPost V vr d.rs la rs D E)) :
    Calls Try.prog 12 #[.agg #[.slice vr N cr, .int .i64 d.st, .int .i64 d.nx, .int .i64 d.sn], .agg #[.int .i64 1, .int .i64 n, .int .i64 m, .slice la ln lc]] w (DidPost w vr d.rs la rs D E) := by
  obtain ⟨V, hV, hb0, hP, hX, hR⟩ := act_boxes w vr N cr d.st d.nx d.sn 1 n m la ln lc
  have hlo : w.heap.size ≤ w.heap.size + 1 + 1 := by omega
  obtain ⟨q, hq⟩ : ∃ q, Hid (w.heap.size = q) := ⟨_, Lib.hid rfl⟩
  rw [hq.out] at hP hR hX
  have hlo : w.heap.size ≤ q + 1 + 1 := by rw [← hq.out]; exact hlo
  obtain ⟨p0, p1, p2, p3⟩ := cells4 hP
  obtain ⟨x0, x1, x2, x3⟩ := cells4 hX
  have hfr : Hid (D.rs ≠ [] → ∀ b, ownB vr b → d.rs ≠ [] → b = q + 1 + 1 → False) := Lib.hid (fun _ b hb hne e => by
    obtain ⟨o, e2⟩ := hb
    obtain ⟨r, hr⟩ : ∃ r, d.rs[0]? = some r := ⟨_, List.getElem?_eq_getElem (List.length_pos_iff.2 hne)⟩
    obtain ⟨b', o', e3, h3, _⟩ := h 0 r hr
    rw [e2] at e3; cases e3
    omega)
  have hfl : Hid (D.rs ≠ [] → ∀ b, ownB la b → rs ≠ [] → b = q + 1 + 1 → False) := Lib.hid (fun _ b hb hne e => by
    have := hin hne b hb
    omega)
  have hfr : Hid (D.rs ≠ [] → ∀ b, ownB vr b → d.rs ≠ [] → b = q + 1 + 1 → False) := Lib.hid (fun _ b hb hne e => by
    obtain ⟨o, e2⟩ := hb
    obtain ⟨r, hr⟩ : ∃ r, d.rs[0]? = some r := ⟨_, List.getElem?_eq_getElem (List.length_pos_iff.2 hne)⟩
    obtain ⟨b', o', e3, h3, _⟩ := h 0 r hr
    rw [e2] at e3; cases e3
    omega)
  have hfl : Hid (D.rs ≠ [] → ∀ b, ownB la b → rs ≠ [] → b = q + 1 + 1 → False) := Lib.hid (fun _ b hb hne e => by
    have := hin hne b hb
    omega)
  have hfr : Hid (D.rs ≠ [] → ∀ b, ownB vr b → d.rs ≠ [] → b = q + 1 + 1 → False) := Lib.hid (fun _ b hb hne e => by
    obtain ⟨o, e2⟩ := hb
    obtain ⟨r, hr⟩ : ∃ r, d.rs[0]? = some r := ⟨_, List.getElem?_eq_getElem (List.length_pos_iff.2 hne)⟩
    obtain ⟨b', o', e3, h3, _⟩ := h 0 r hr
    rw [e2] at e3; cases e3
    omega)
  have hfl : Hid (D.rs ≠ [] → ∀ b, ownB la b → rs ≠ [] → b = q + 1 + 1 → False) := Lib.hid (fun _ b hb hne e => by
    have := hin hne b hb
    omega)
  obtain ⟨F, hF, hc⟩ := hc V (h.below hb0) hb0
  subst hF
  replace hc := Lib.hid hc
  replace hb0 := Lib.hid hb0
  replace hR := Lib.hid hR
  clear hP hX h
  go_enter Try.func12, Try.ntmps12
  go_upto_region 1 with fail
  rw [← show V = _ from hV.out, hq.out]
  clear hV
  go_wp2_with fail
  refine hc.out.mono ?_
  rintro _ w1 ⟨vr1, cr1, rfl, h1, h2, hb1⟩
  have hR1 := hR.out.below hb1 hR.out.lt
  have hb2 := grew hb0.out hb1
  have hsz := hb0.out.size
  obtain ⟨M1, hM1⟩ : ∃ M, Hid (D.rs.length = M) := ⟨_, Lib.hid rfl⟩
  rw [hM1.out]
  obtain ⟨r0, r1, r2, r3, r4⟩ := cells5 hR1
  obtain ⟨z0, z1, z2, z3, z4⟩ := frozen5 hR1
  have hql : q + 1 + 1 < V.heap.size := hR.out.lt
  clear p0 p1 p2 p3 x0 x1 x2 x3 hc
  obtain ⟨T0, T1, T2, T3⟩ : ∃ a b c : Int, Hid (D.st = a ∧ D.nx = b ∧ D.sn = c) := ⟨_, _, _, Lib.hid ⟨rfl, rfl, rfl⟩⟩
  rw [T3.out.1, T3.out.2.1, T3.out.2.2]
  obtain ⟨f1, f2⟩ := did_laid (v0 := .slice vr1 M1 cr1) (v1 := .int .i64 T0) (v2 := .int .i64 T1) (v3 := .int .i64 T2) (v4 := .int .i64 E) hR1 hb2 hlo
  obtain ⟨e0, e1, e2, e3, e4⟩ := cells5 f1
  simp only [World.setCells, Nat.zero_add, Nat.reduceAdd] at e0 e1 e2 e3 e4
  have hfin : Hid (DidPost w vr d.rs la rs D E (.returned (.agg #[.slice vr1 M1 cr1, .int .i64 T0, .int .i64 T1, .int .i64 T2, .int .i64 E])) (w1.setCells (q + 1 + 1) 0 [.slice vr1 M1 cr1, .int .i64 T0, .int .i64 T1, .int .i64 T2, .int .i64 E])) := Lib.hid ⟨vr1, cr1, by rw [hM1.out, T3.out.1, T3.out.2.1, T3.out.2.2], h1.of_kept ((Kept.refl (fun b => b = q + 1 + 1) w1).setCells (.inl rfl) 0 _) (fun hne b hb e => by
        subst e
        rcases h2 hne _ hb with ⟨e1, e2⟩ | ⟨e1, e2⟩ | e1
        · exact hfr.out hne _ e1 e2 rfl
        · exact hfl.out hne _ e1 e2 rfl
        · omega), fun hne b hb => (h2 hne b hb).imp id (fun e => e.imp id (fun e => Nat.le_trans hsz e)), f2⟩
  simp only [World.setCells, Nat.zero_add, Nat.reduceAdd] at hfin
  clear f1 f2
  go_wp2_with fail
  exact bodyPost_ret (v := .agg #[.slice vr1 M1 cr1, .int .i64 T0, .int .i64 T1, .int .i64 T2, .int .i64 E]) (by simp [results, Try.results12, go_sem, e0, e1, e2, e3, e4]) rfl hfin.out
set_option maxRecDepth 100000 in
set_option maxHeartbeats 4000000 in
theorem act_repl (vr : Option Addr) (cr : Nat) (d : Pd) (N : Nat) (hN : Hid (d.rs.length = N)) (n m : Int) (la : Option Addr) (ln lc : Nat) (rs : List Rc) (w : World) (h : RcAt w vr d.rs) (hin : rs ≠ [] → ∀ b, ownB la b → b < w.heap.size) (D : Pd) (E : Int) (hc : ∀ V, RcAt V vr d.rs → Below w.heap.size w V → ∃ F, F = 33 ∧ Calls Try.prog F #[.agg #[.slice vr N cr, .int .i64 d.st, .int .i64 d.nx, .int .i64 d.sn], .slice la ln lc] V (DidPost V vr d.rs la rs D E)) :
    Calls Try.prog 12 #[.agg #[.slice vr N cr, .int .i64 d.st, .int .i64 d.nx, .int .i64 d.sn], .agg #[.int .i64 2, .int .i64 n, .int .i64 m, .slice la ln lc]] w (DidPost w vr d.rs la rs D E) := by
  obtain ⟨V, hV, hb0, hP, hX, hR⟩ := act_boxes w vr N cr d.st d.nx d.sn 2 n m la ln lc
  have hlo : w.heap.size ≤ w.heap.size + 1 + 1 := by omega
  obtain ⟨q, hq⟩ : ∃ q, Hid (w.heap.size = q) := ⟨_, Lib.hid rfl⟩
  rw [hq.out] at hP hR hX
  have hlo : w.heap.size ≤ q + 1 + 1 := by rw [← hq.out]; exact hlo
  obtain ⟨p0, p1, p2, p3⟩ := cells4 hP
  obtain ⟨x0, x1, x2, x3⟩ := cells4 hX
  have hfr : Hid (D.rs ≠ [] → ∀ b, ownB vr b → d.rs ≠ [] → b = q + 1 + 1 → False) := Lib.hid (fun _ b hb hne e => by
    obtain ⟨o, e2⟩ := hb
    obtain ⟨r, hr⟩ : ∃ r, d.rs[0]? = some r := ⟨_, List.getElem?_eq_getElem (List.length_pos_iff.2 hne)⟩
    obtain ⟨b', o', e3, h3, _⟩ := h 0 r hr
    rw [e2] at e3; cases e3
    omega)
  have hfl : Hid (D.rs ≠ [] → ∀ b, ownB la b → rs ≠ [] → b = q + 1 + 1 → False) := Lib.hid (fun _ b hb hne e => by
    have := hin hne b hb
    omega)
  have hfr : Hid (D.rs ≠ [] → ∀ b, ownB vr b → d.rs ≠ [] → b = q + 1 + 1 → False) := Lib.hid (fun _ b hb hne e => by
    obtain ⟨o, e2⟩ := hb
    obtain ⟨r, hr⟩ : ∃ r, d.rs[0]? = some r := ⟨_, List.getElem?_eq_getElem (List.length_pos_iff.2 hne)⟩
    obtain ⟨b', o', e3, h3, _⟩ := h 0 r hr
    rw [e2] at e3; cases e3
    omega)
  have hfl : Hid (D.rs ≠ [] → ∀ b, ownB la b → rs ≠ [] → b = q + 1 + 1 → False) := Lib.hid (fun _ b hb hne e => by
    have := hin hne b hb
    omega)
  obtain ⟨F, hF, hc⟩ := hc V (h.below hb0) hb0
  subst hF
  replace hc := Lib.hid hc
  replace hb0 := Lib.hid hb0
  replace hR := Lib.hid hR
  clear hP hX h
  go_enter Try.func12, Try.ntmps12
  go_upto_region 1 with fail
  rw [← show V = _ from hV.out, hq.out]
  clear hV
  go_wp2_with fail
  refine hc.out.mono ?_
  rintro _ w1 ⟨vr1, cr1, rfl, h1, h2, hb1⟩
  have hR1 := hR.out.below hb1 hR.out.lt
  have hb2 := grew hb0.out hb1
  have hsz := hb0.out.size
  obtain ⟨M1, hM1⟩ : ∃ M, Hid (D.rs.length = M) := ⟨_, Lib.hid rfl⟩
  rw [hM1.out]
  obtain ⟨r0, r1, r2, r3, r4⟩ := cells5 hR1
  obtain ⟨z0, z1, z2, z3, z4⟩ := frozen5 hR1
  have hql : q + 1 + 1 < V.heap.size := hR.out.lt
  clear p0 p1 p2 p3 x0 x1 x2 x3 hc
  obtain ⟨T0, T1, T2, T3⟩ : ∃ a b c : Int, Hid (D.st = a ∧ D.nx = b ∧ D.sn = c) := ⟨_, _, _, Lib.hid ⟨rfl, rfl, rfl⟩⟩
  rw [T3.out.1, T3.out.2.1, T3.out.2.2]
  obtain ⟨f1, f2⟩ := did_laid (v0 := .slice vr1 M1 cr1) (v1 := .int .i64 T0) (v2 := .int .i64 T1) (v3 := .int .i64 T2) (v4 := .int .i64 E) hR1 hb2 hlo
  obtain ⟨e0, e1, e2, e3, e4⟩ := cells5 f1
  simp only [World.setCells, Nat.zero_add, Nat.reduceAdd] at e0 e1 e2 e3 e4
  have hfin : Hid (DidPost w vr d.rs la rs D E (.returned (.agg #[.slice vr1 M1 cr1, .int .i64 T0, .int .i64 T1, .int .i64 T2, .int .i64 E])) (w1.setCells (q + 1 + 1) 0 [.slice vr1 M1 cr1, .int .i64 T0, .int .i64 T1, .int .i64 T2, .int .i64 E])) := Lib.hid ⟨vr1, cr1, by rw [hM1.out, T3.out.1, T3.out.2.1, T3.out.2.2], h1.of_kept ((Kept.refl (fun b => b = q + 1 + 1) w1).setCells (.inl rfl) 0 _) (fun hne b hb e => by
        subst e
        rcases h2 hne _ hb with ⟨e1, e2⟩ | ⟨e1, e2⟩ | e1
        · exact hfr.out hne _ e1 e2 rfl
        · exact hfl.out hne _ e1 e2 rfl
        · omega), fun hne b hb => (h2 hne b hb).imp id (fun e => e.imp id (fun e => Nat.le_trans hsz e)), f2⟩
  simp only [World.setCells, Nat.zero_add, Nat.reduceAdd] at hfin
  clear f1 f2
  go_wp2_with fail
  exact bodyPost_ret (v := .agg #[.slice vr1 M1 cr1, .int .i64 T0, .int .i64 T1, .int .i64 T2, .int .i64 E]) (by simp [results, Try.results12, go_sem, e0, e1, e2, e3, e4]) rfl hfin.out
set_option maxRecDepth 100000 in
set_option maxHeartbeats 4000000 in
theorem act_set (vr : Option Addr) (cr : Nat) (d : Pd) (N : Nat) (hN : Hid (d.rs.length = N)) (n m : Int) (la : Option Addr) (ln lc : Nat) (rs : List Rc) (w : World) (h : RcAt w vr d.rs) (hin : rs ≠ [] → ∀ b, ownB la b → b < w.heap.size) (D : Pd) (E : Int) (hc : ∀ V, RcAt V vr d.rs → Below w.heap.size w V → ∃ F, F = 34 ∧ Calls Try.prog F #[.agg #[.slice vr N cr, .int .i64 d.st, .int .i64 d.nx, .int .i64 d.sn], .int .i64 n, .int .i64 m] V (DidPost V vr d.rs la rs D E)) :
    Calls Try.prog 12 #[.agg #[.slice vr N cr, .int .i64 d.st, .int .i64 d.nx, .int .i64 d.sn], .agg #[.int .i64 3, .int .i64 n, .int .i64 m, .slice la ln lc]] w (DidPost w vr d.rs la rs D E) := by
  obtain ⟨V, hV, hb0, hP, hX, hR⟩ := act_boxes w vr N cr d.st d.nx d.sn 3 n m la ln lc
  have hlo : w.heap.size ≤ w.heap.size + 1 + 1 := by omega
  obtain ⟨q, hq⟩ : ∃ q, Hid (w.heap.size = q) := ⟨_, Lib.hid rfl⟩
  rw [hq.out] at hP hR hX
  have hlo : w.heap.size ≤ q + 1 + 1 := by rw [← hq.out]; exact hlo
  obtain ⟨p0, p1, p2, p3⟩ := cells4 hP
  obtain ⟨x0, x1, x2, x3⟩ := cells4 hX
  have hfr : Hid (D.rs ≠ [] → ∀ b, ownB vr b → d.rs ≠ [] → b = q + 1 + 1 → False) := Lib.hid (fun _ b hb hne e => by
    obtain ⟨o, e2⟩ := hb
    obtain ⟨r, hr⟩ : ∃ r, d.rs[0]? = some r := ⟨_, List.getElem?_eq_getElem (List.length_pos_iff.2 hne)⟩
    obtain ⟨b', o', e3, h3, _⟩ := h 0 r hr
    rw [e2] at e3; cases e3
    omega)
  have hfl : Hid (D.rs ≠ [] → ∀ b, ownB la b → rs ≠ [] → b = q + 1 + 1 → False) := Lib.hid (fun _ b hb hne e => by
    have := hin hne b hb
    omega)
  obtain ⟨F, hF, hc⟩ := hc V (h.below hb0) hb0
  subst hF
  replace hc := Lib.hid hc
  replace hb0 := Lib.hid hb0
  replace hR := Lib.hid hR
  clear hP hX h
  go_enter Try.func12, Try.ntmps12
  go_upto_region 1 with fail
  rw [← show V = _ from hV.out, hq.out]
  clear hV
  go_wp2_with fail
  refine hc.out.mono ?_
  rintro _ w1 ⟨vr1, cr1, rfl, h1, h2, hb1⟩
  have hR1 := hR.out.below hb1 hR.out.lt
  have hb2 := grew hb0.out hb1
  have hsz := hb0.out.size
  obtain ⟨M1, hM1⟩ : ∃ M, Hid (D.rs.length = M) := ⟨_, Lib.hid rfl⟩
  rw [hM1.out]
  obtain ⟨r0, r1, r2, r3, r4⟩ := cells5 hR1
  obtain ⟨z0, z1, z2, z3, z4⟩ := frozen5 hR1
  have hql : q + 1 + 1 < V.heap.size := hR.out.lt
  clear p0 p1 p2 p3 x0 x1 x2 x3 hc
  obtain ⟨T0, T1, T2, T3⟩ : ∃ a b c : Int, Hid (D.st = a ∧ D.nx = b ∧ D.sn = c) := ⟨_, _, _, Lib.hid ⟨rfl, rfl, rfl⟩⟩
  rw [T3.out.1, T3.out.2.1, T3.out.2.2]
  obtain ⟨f1, f2⟩ := did_laid (v0 := .slice vr1 M1 cr1) (v1 := .int .i64 T0) (v2 := .int .i64 T1) (v3 := .int .i64 T2) (v4 := .int .i64 E) hR1 hb2 hlo
  obtain ⟨e0, e1, e2, e3, e4⟩ := cells5 f1
  simp only [World.setCells, Nat.zero_add, Nat.reduceAdd] at e0 e1 e2 e3 e4
  have hfin : Hid (DidPost w vr d.rs la rs D E (.returned (.agg #[.slice vr1 M1 cr1, .int .i64 T0, .int .i64 T1, .int .i64 T2, .int .i64 E])) (w1.setCells (q + 1 + 1) 0 [.slice vr1 M1 cr1, .int .i64 T0, .int .i64 T1, .int .i64 T2, .int .i64 E])) := Lib.hid ⟨vr1, cr1, by rw [hM1.out, T3.out.1, T3.out.2.1, T3.out.2.2], h1.of_kept ((Kept.refl (fun b => b = q + 1 + 1) w1).setCells (.inl rfl) 0 _) (fun hne b hb e => by
        subst e
        rcases h2 hne _ hb with ⟨e1, e2⟩ | ⟨e1, e2⟩ | e1
        · exact hfr.out hne _ e1 e2 rfl
        · exact hfl.out hne _ e1 e2 rfl
        · omega), fun hne b hb => (h2 hne b hb).imp id (fun e => e.imp id (fun e => Nat.le_trans hsz e)), f2⟩
  simp only [World.setCells, Nat.zero_add, Nat.reduceAdd] at hfin
  clear f1 f2
  go_wp2_with fail
  exact bodyPost_ret (v := .agg #[.slice vr1 M1 cr1, .int .i64 T0, .int .i64 T1, .int .i64 T2, .int .i64 E]) (by simp [results, Try.results12, go_sem, e0, e1, e2, e3, e4]) rfl hfin.out
set_option maxRecDepth 100000 in
set_option maxHeartbeats 4000000 in
theorem act_mark (vr : Option Addr) (cr : Nat) (d : Pd) (N : Nat) (hN : Hid (d.rs.length = N)) (n m : Int) (la : Option Addr) (ln lc : Nat) (rs : List Rc) (w : World) (h : RcAt w vr d.rs) :
    Calls Try.prog 12 #[.agg #[.slice vr N cr, .int .i64 d.st, .int .i64 d.nx, .int .i64 d.sn], .agg #[.int .i64 4, .int .i64 n, .int .i64 m, .slice la ln lc]] w (DidPost w vr d.rs la rs d.mark 0) := by
  obtain ⟨V, hV, hb0, hP, hX, hR⟩ := act_boxes w vr N cr d.st d.nx d.sn 4 n m la ln lc
  have hlo : w.heap.size ≤ w.heap.size + 1 + 1 := by omega
  obtain ⟨q, hq⟩ : ∃ q, Hid (w.heap.size = q) := ⟨_, Lib.hid rfl⟩
  rw [hq.out] at hP hR hX
  have hlo : w.heap.size ≤ q + 1 + 1 := by rw [← hq.out]; exact hlo
  obtain ⟨p0, p1, p2, p3⟩ := cells4 hP
  obtain ⟨x0, x1, x2, x3⟩ := cells4 hX
  have hb1 : Below w.heap.size w (V.setCell ⟨q, 3, none⟩ (.int .i64 d.nx)) := Z.below_store hb0 (c := q) (by rw [← hq.out]; exact Nat.le_refl _) (Nat.le_refl _) 3 [.int .i64 d.nx]
  have hR1 : Whole (V.setCell ⟨q, 3, none⟩ (.int .i64 d.nx)) (q + 1 + 1) 36 [.slice none 0 0, .int .i64 0, .int .i64 0, .int .i64 0, .int .i64 0] := hR.far (by omega) 3 [.int .i64 d.nx]
  have hP1 : Whole (V.setCell ⟨q, 3, none⟩ (.int .i64 d.nx)) q 29 [.slice vr N cr, .int .i64 d.st, .int .i64 d.nx, .int .i64 d.nx] := hP.store 3 [.int .i64 d.nx] (by simp)
  have y3 := hP.frozen 3
  obtain ⟨W1, hW1⟩ : ∃ W1, Hid (W1 = V.setCell ⟨q, 3, none⟩ (.int .i64 d.nx)) := ⟨_, Lib.hid rfl⟩
  rw [← show W1 = _ from hW1.out] at hb1 hR1 hP1
  obtain ⟨u0, u1, u2, u3⟩ := cells4 hP1
  obtain ⟨r0, r1, r2, r3, r4⟩ := cells5 hR1
  obtain ⟨z0, z1, z2, z3, z4⟩ := frozen5 hR1
  obtain ⟨f1, f2⟩ := did_laid (v0 := .slice vr N cr) (v1 := .int .i64 d.st) (v2 := .int .i64 d.nx) (v3 := .int .i64 d.nx) (v4 := .int .i64 0) hR1 hb1 hlo
  obtain ⟨e0, e1, e2, e3, e4⟩ := cells5 f1
  simp only [World.setCells, Nat.zero_add, Nat.reduceAdd] at e0 e1 e2 e3 e4
  have hfin : Hid (DidPost w vr d.rs la rs d.mark 0 (.returned (.agg #[.slice vr N cr, .int .i64 d.st, .int .i64 d.nx, .int .i64 d.nx, .int .i64 0])) (W1.setCells (q + 1 + 1) 0 [.slice vr N cr, .int .i64 d.st, .int .i64 d.nx, .int .i64 d.nx, .int .i64 0])) := Lib.hid ⟨vr, cr, (by show _ = Ending.returned (.agg #[.slice vr d.rs.length cr, _, _, _, _]); rw [hN.out]; try rfl), h.below f2, fun hne b hb => .inl ⟨hb, hne⟩, f2⟩
  simp only [World.setCells, Nat.zero_add, Nat.reduceAdd] at hfin
  clear f1 f2 hb0 hP hX hR hb1 hR1 hP1 h
  go_enter Try.func12, Try.ntmps12
  go_upto_region 1 with fail
  rw [← show V = _ from hV.out, hq.out]
  clear hV
  go_upto_region 12 with fail
  rw [← show W1 = _ from hW1.out]
  clear hW1 p0 p1 p2 p3 x0 x1 x2 x3
  go_wp2_with fail
  exact bodyPost_ret (v := .agg #[.slice vr N cr, .int .i64 d.st, .int .i64 d.nx, .int .i64 d.nx, .int .i64 0]) (by simp [results, Try.results12, go_sem, e0, e1, e2, e3, e4]) rfl hfin.out
set_option maxRecDepth 100000 in
set_option maxHeartbeats 4000000 in
theorem act_none (vr : Option Addr) (cr : Nat) (d : Pd) (N : Nat) (hN : Hid (d.rs.length = N)) (k : Int) (hk : (k == 0) = false ∧ (k == 1) = false ∧ (k == 2) = false ∧ (k == 3) = false ∧ (k == 4) = false ∧ k ≠ 0 ∧ k ≠ 1 ∧ k ≠ 2 ∧ k ≠ 3 ∧ k ≠ 4) (n m : Int) (la : Option Addr) (ln lc : Nat) (rs : List Rc) (w : World) (h : RcAt w vr d.rs) :
    Calls Try.prog 12 #[.agg #[.slice vr N cr, .int .i64 d.st, .int .i64 d.nx, .int .i64 d.sn], .agg #[.int .i64 k, .int .i64 n, .int .i64 m, .slice la ln lc]] w (DidPost w vr d.rs la rs d 0) := by
  obtain ⟨V, hV, hb0, hP, hX, hR⟩ := act_boxes w vr N cr d.st d.nx d.sn k n m la ln lc
  have hlo : w.heap.size ≤ w.heap.size + 1 + 1 := by omega
  obtain ⟨q, hq⟩ : ∃ q, Hid (w.heap.size = q) := ⟨_, Lib.hid rfl⟩
  rw [hq.out] at hP hR hX
  have hlo : w.heap.size ≤ q + 1 + 1 := by rw [← hq.out]; exact hlo
  obtain ⟨p0, p1, p2, p3⟩ := cells4 hP
  obtain ⟨x0, x1, x2, x3⟩ := cells4 hX
  obtain ⟨j0, j1, j2, j3, j4, _⟩ := hk
  obtain ⟨r0, r1, r2, r3, r4⟩ := cells5 hR
  obtain ⟨z0, z1, z2, z3, z4⟩ := frozen5 hR
  obtain ⟨f1, f2⟩ := did_laid (v0 := .slice vr N cr) (v1 := .int .i64 d.st) (v2 := .int .i64 d.nx) (v3 := .int .i64 d.sn) (v4 := .int .i64 0) hR hb0 hlo
  obtain ⟨e0, e1, e2, e3, e4⟩ := cells5 f1
  simp only [World.setCells, Nat.zero_add, Nat.reduceAdd] at e0 e1 e2 e3 e4
  have hfin : Hid (DidPost w vr d.rs la rs d 0 (.returned (.agg #[.slice vr N cr, .int .i64 d.st, .int .i64 d.nx, .int .i64 d.sn, .int .i64 0])) (V.setCells (q + 1 + 1) 0 [.slice vr N cr, .int .i64 d.st, .int .i64 d.nx, .int .i64 d.sn, .int .i64 0])) := Lib.hid ⟨vr, cr, (by show _ = Ending.returned (.agg #[.slice vr d.rs.length cr, _, _, _, _]); rw [hN.out]; try rfl), h.below f2, fun hne b hb => .inl ⟨hb, hne⟩, f2⟩
  simp only [World.setCells, Nat.zero_add, Nat.reduceAdd] at hfin
  clear f1 f2 hb0 hP hX hR h
  go_enter Try.func12, Try.ntmps12
  go_upto_region 1 with fail
  rw [← show V = _ from hV.out, hq.out]
  clear hV
  go_wp2_with fail
  exact bodyPost_ret (v := .agg #[.slice vr N cr, .int .i64 d.st, .int .i64 d.nx, .int .i64 d.sn, .int .i64 0]) (by simp [results, Try.results12, go_sem, e0, e1, e2, e3, e4]) rfl hfin.out
theorem act19_any (vr : Option Addr) (cr : Nat) (d : Pd) (x : A19) (w w0 : World) (hok : d.ok) (h : RcAt w vr d.rs) (hx : A19In w0 x) (hb : Below w0.heap.size w0 w) (hl : x.ln ≤ 1000) (hn : d.rs.length ≤ 90000) :
    Calls Try.prog 12 #[.agg #[.slice vr d.rs.length cr, .int .i64 d.st, .int .i64 d.nx, .int .i64 d.sn], .agg #[.int .i64 x.k, .int .i64 x.n, .int .i64 x.m, .slice x.la x.ln x.lc]] w (DidPost w vr d.rs x.la x.rs (d.step x).2 (d.step x).1) := by
  obtain ⟨k, n, m, la, ln, lc, rs⟩ := x
  obtain ⟨_, _, _, hrl, hra, _⟩ := hx
  dsimp only at hl hrl hra ⊢
  have hin : rs ≠ [] → ∀ b, ownB la b → b < w.heap.size := fun hne b hq => by
    obtain ⟨o, e⟩ := hq
    obtain ⟨r, hr⟩ : ∃ r, rs[0]? = some r := ⟨_, List.getElem?_eq_getElem (List.length_pos_iff.2 hne)⟩
    obtain ⟨b', o', e3, h3, _⟩ := hra 0 r hr
    rw [e] at e3; cases e3
    exact Nat.lt_of_lt_of_le h3 hb.size
  have hris := hok.2.2.2.2.2
  subst hrl
  rcases keys5 k with (rfl | rfl | rfl | rfl | rfl) | hk
  · exact act_app vr cr d _ (Lib.hid rfl) n m la _ lc rs w h hin (d.app rs).2 (d.app rs).1 (fun V h1 hbV => ⟨_, rfl, rapp_any vr cr d la lc rs V h1 ((hra.below hb).below hbV) hl hn⟩)
  · exact act_trim vr cr d _ (Lib.hid rfl) n m la _ lc rs w h hin (d.trim n).2 (d.trim n).1 (fun V h1 hbV => ⟨_, rfl, (rtrim_any vr cr d n V h1 hn hris).mono fun e w' h => h.noL⟩)
  · exact act_repl vr cr d _ (Lib.hid rfl) n m la _ lc rs w h hin (d.repl rs).2 (d.repl rs).1 (fun V h1 hbV => ⟨_, rfl, rrepl_any vr cr d la lc rs V h1 ((hra.below hb).below hbV) hl⟩)
  · exact act_set vr cr d _ (Lib.hid rfl) n m la _ lc rs w h hin (d.set n m).2 (d.set n m).1 (fun V h1 hbV => ⟨_, rfl, (rset_any vr cr d n m V hok h1).mono fun e w' h => h.noL⟩)
  · exact act_mark vr cr d _ (Lib.hid rfl) n m la _ lc rs w h
  · have e : d.step ⟨k, n, m, la, rs.length, lc, rs⟩ = (0, d) := by
      unfold Pd.step
      obtain ⟨_, _, _, _, _, a0, a1, a2, a3, a4⟩ := hk
      simp only [a0, a1, a2, a3, a4, if_false]
    rw [e]
    exact act_none vr cr d _ (Lib.hid rfl) k hk n m la _ lc rs w h
end Go.Proofs.Ytahljbjgenepaaa.W
