/- Layer 19's law: done. -/
import Derived.Test.YtahljbjgenepaaaPtX
namespace Go.Proofs.Ytahljbjgenepaaa.W
open Go.RowKit Go.Sort
open Go.Proofs.Ytahljbjgenepaaa.M Go.Proofs.Ytahljbjgenepaaa.D Go.Proofs.Ytahljbjgenepaaa.Z
set_option linter.unusedVariables false
set_option linter.unusedSimpArgs false

/-- The boxes of done. -/
theorem done_boxes (w : World) (vr : Option Addr) (N cr : Nat) (st nx sn k n m : Int) (la : Option Addr) (ln lc : Nat) : ∃ V, Hid (V = (w.alloc (.cells #[.slice vr N cr, .int .i64 st, .int .i64 nx, .int .i64 sn] 29)).alloc (.cells #[.int .i64 k, .int .i64 n, .int .i64 m, .slice la ln lc] 31)) ∧
    Below w.heap.size w V ∧ Whole V w.heap.size 29 [.slice vr N cr, .int .i64 st, .int .i64 nx, .int .i64 sn] ∧ Whole V (w.heap.size + 1) 31 [.int .i64 k, .int .i64 n, .int .i64 m, .slice la ln lc] := by
  refine ⟨_, Lib.hid rfl, grewAlloc (grewAlloc (Below.refl _ _) _) _, (Whole.new w _ [.slice vr N cr, .int .i64 st, .int .i64 nx, .int .i64 sn]).alloc _, ?_⟩
  have := Whole.new (w.alloc (.cells #[.slice vr N cr, .int .i64 st, .int .i64 nx, .int .i64 sn] 29)) 31 [.int .i64 k, .int .i64 n, .int .i64 m, .slice la ln lc]
  rwa [show (w.alloc (.cells #[.slice vr N cr, .int .i64 st, .int .i64 nx, .int .i64 sn] 29)).heap.size = w.heap.size + 1 from by simp] at this
set_option maxRecDepth 100000 in
set_option maxHeartbeats 4000000 in
theorem done_app (pb : Nat) (va : Option Addr) (c : Nat) (vr : Option Addr) (cr : Nat) (d : Pd) (N : Nat) (n m : Int) (la : Option Addr) (ln lc : Nat) (w : World) (h : PdAt w pb d va c) (D : Pd) (E : Int) (hc : ∀ V, PdAt V pb d va c → Below w.heap.size w V → ∃ F, F = 19 ∧ Calls Try.prog F #[.pointer (some ⟨pb, 0, none⟩), .slice la ln lc] V fun e w' => e = .returned (.int .i64 E) ∧ LeftP V pb va D w') :
    Calls Try.prog 11 #[.pointer (some ⟨pb, 0, none⟩), .agg #[.slice vr N cr, .int .i64 d.st, .int .i64 d.nx, .int .i64 d.sn], .agg #[.int .i64 0, .int .i64 n, .int .i64 m, .slice la ln lc]] w fun e w' => e = .returned (.tuple #[.int .i64 E, .bool true]) ∧ LeftP w pb va D w' := by
  obtain ⟨V, hV, hb0, hP, hX⟩ := done_boxes w vr N cr d.st d.nx d.sn 0 n m la ln lc
  obtain ⟨q, hq⟩ : ∃ q, Hid (w.heap.size = q) := ⟨_, Lib.hid rfl⟩
  rw [hq.out] at hP hX
  obtain ⟨p0, p1, p2, p3⟩ := cells4 hP
  obtain ⟨x0, x1, x2, x3⟩ := cells4 hX
  obtain ⟨F, hF, hc⟩ := hc V (h.below hb0) hb0
  subst hF
  replace hc := Lib.hid hc
  replace hb0 := Lib.hid hb0
  clear hP hX h
  go_enter Try.func11, Try.ntmps11
  go_upto_region 1 with fail
  rw [← show V = _ from hV.out, hq.out]
  clear hV
  go_wp2_with fail
  refine hc.out.mono ?_
  rintro _ w1 ⟨rfl, hl1⟩
  have hfin := Lib.hid (hl1.pre hb0.out)
  clear hl1 hc p0 p1 p2 p3 x0 x1 x2 x3
  go_wp2_with fail
  go_ret2
  exact ⟨rfl, hfin.out⟩
set_option maxRecDepth 100000 in
set_option maxHeartbeats 4000000 in
theorem done_trim (pb : Nat) (va : Option Addr) (c : Nat) (vr : Option Addr) (cr : Nat) (d : Pd) (N : Nat) (n m : Int) (la : Option Addr) (ln lc : Nat) (w : World) (h : PdAt w pb d va c) (D : Pd) (E : Int) (hc : ∀ V, PdAt V pb d va c → Below w.heap.size w V → ∃ F, F = 20 ∧ Calls Try.prog F #[.pointer (some ⟨pb, 0, none⟩), .int .i64 n] V fun e w' => e = .returned (.int .i64 E) ∧ LeftP V pb va D w') :
    Calls Try.prog 11 #[.pointer (some ⟨pb, 0, none⟩), .agg #[.slice vr N cr, .int .i64 d.st, .int .i64 d.nx, .int .i64 d.sn], .agg #[.int .i64 1, .int .i64 n, .int .i64 m, .slice la ln lc]] w fun e w' => e = .returned (.tuple #[.int .i64 E, .bool true]) ∧ LeftP w pb va D w' := by
  obtain ⟨V, hV, hb0, hP, hX⟩ := done_boxes w vr N cr d.st d.nx d.sn 1 n m la ln lc
  obtain ⟨q, hq⟩ : ∃ q, Hid (w.heap.size = q) := ⟨_, Lib.hid rfl⟩
  rw [hq.out] at hP hX
  obtain ⟨p0, p1, p2, p3⟩ := cells4 hP
  obtain ⟨x0, x1, x2, x3⟩ := cells4 hX
  obtain ⟨F, hF, hc⟩ := hc V (h.below hb0) hb0
  subst hF
  replace hc := Lib.hid hc
  replace hb0 := Lib.hid hb0
  clear hP hX h
  go_enter Try.func11, Try.ntmps11
  go_upto_region 1 with fail
  rw [← show V = _ from hV.out, hq.out]
  clear hV
  go_wp2_with fail
  refine hc.out.mono ?_
  rintro _ w1 ⟨rfl, hl1⟩
  have hfin := Lib.hid (hl1.pre hb0.out)
  clear hl1 hc p0 p1 p2 p3 x0 x1 x2 x3
  go_wp2_with fail
  go_ret2
  exact ⟨rfl, hfin.out⟩
set_option maxRecDepth 100000 in
set_option maxHeartbeats 4000000 in
theorem done_repl (pb : Nat) (va : Option Addr) (c : Nat) (vr : Option Addr) (cr : Nat) (d : Pd) (N : Nat) (n m : Int) (la : Option Addr) (ln lc : Nat) (w : World) (h : PdAt w pb d va c) (D : Pd) (E : Int) (hc : ∀ V, PdAt V pb d va c → Below w.heap.size w V → ∃ F, F = 21 ∧ Calls Try.prog F #[.pointer (some ⟨pb, 0, none⟩), .slice la ln lc] V fun e w' => e = .returned (.int .i64 E) ∧ LeftP V pb va D w') :
    Calls Try.prog 11 #[.pointer (some ⟨pb, 0, none⟩), .agg #[.slice vr N cr, .int .i64 d.st, .int .i64 d.nx, .int .i64 d.sn], .agg #[.int .i64 2, .int .i64 n, .int .i64 m, .slice la ln lc]] w fun e w' => e = .returned (.tuple #[.int .i64 E, .bool true]) ∧ LeftP w pb va D w' := by
  obtain ⟨V, hV, hb0, hP, hX⟩ := done_boxes w vr N cr d.st d.nx d.sn 2 n m la ln lc
  obtain ⟨q, hq⟩ : ∃ q, Hid (w.heap.size = q) := ⟨_, Lib.hid rfl⟩
  rw [hq.out] at hP hX
  obtain ⟨p0, p1, p2, p3⟩ := cells4 hP
  obtain ⟨x0, x1, x2, x3⟩ := cells4 hX
  obtain ⟨F, hF, hc⟩ := hc V (h.below hb0) hb0
  subst hF
  replace hc := Lib.hid hc
  replace hb0 := Lib.hid hb0
  clear hP hX h
  go_enter Try.func11, Try.ntmps11
  go_upto_region 1 with fail
  rw [← show V = _ from hV.out, hq.out]
  clear hV
  go_wp2_with fail
  refine hc.out.mono ?_
  rintro _ w1 ⟨rfl, hl1⟩
  have hfin := Lib.hid (hl1.pre hb0.out)
  clear hl1 hc p0 p1 p2 p3 x0 x1 x2 x3
  go_wp2_with fail
  go_ret2
  exact ⟨rfl, hfin.out⟩
set_option maxRecDepth 100000 in
set_option maxHeartbeats 4000000 in
theorem done_set (pb : Nat) (va : Option Addr) (c : Nat) (vr : Option Addr) (cr : Nat) (d : Pd) (N : Nat) (n m : Int) (la : Option Addr) (ln lc : Nat) (w : World) (h : PdAt w pb d va c) (D : Pd) (E : Int) (hc : ∀ V, PdAt V pb d va c → Below w.heap.size w V → ∃ F, F = 22 ∧ Calls Try.prog F #[.pointer (some ⟨pb, 0, none⟩), .int .i64 n, .int .i64 m] V fun e w' => e = .returned (.int .i64 E) ∧ LeftP V pb va D w') :
    Calls Try.prog 11 #[.pointer (some ⟨pb, 0, none⟩), .agg #[.slice vr N cr, .int .i64 d.st, .int .i64 d.nx, .int .i64 d.sn], .agg #[.int .i64 3, .int .i64 n, .int .i64 m, .slice la ln lc]] w fun e w' => e = .returned (.tuple #[.int .i64 E, .bool true]) ∧ LeftP w pb va D w' := by
  obtain ⟨V, hV, hb0, hP, hX⟩ := done_boxes w vr N cr d.st d.nx d.sn 3 n m la ln lc
  obtain ⟨q, hq⟩ : ∃ q, Hid (w.heap.size = q) := ⟨_, Lib.hid rfl⟩
  rw [hq.out] at hP hX
  obtain ⟨p0, p1, p2, p3⟩ := cells4 hP
  obtain ⟨x0, x1, x2, x3⟩ := cells4 hX
  obtain ⟨F, hF, hc⟩ := hc V (h.below hb0) hb0
  subst hF
  replace hc := Lib.hid hc
  replace hb0 := Lib.hid hb0
  clear hP hX h
  go_enter Try.func11, Try.ntmps11
  go_upto_region 1 with fail
  rw [← show V = _ from hV.out, hq.out]
  clear hV
  go_wp2_with fail
  refine hc.out.mono ?_
  rintro _ w1 ⟨rfl, hl1⟩
  have hfin := Lib.hid (hl1.pre hb0.out)
  clear hl1 hc p0 p1 p2 p3 x0 x1 x2 x3
  go_wp2_with fail
  go_ret2
  exact ⟨rfl, hfin.out⟩
set_option maxRecDepth 100000 in
set_option maxHeartbeats 4000000 in
theorem done_mark (pb : Nat) (va : Option Addr) (c : Nat) (vr : Option Addr) (cr : Nat) (d : Pd) (N : Nat) (n m : Int) (la : Option Addr) (ln lc : Nat) (w : World) (h : PdAt w pb d va c) :
    Calls Try.prog 11 #[.pointer (some ⟨pb, 0, none⟩), .agg #[.slice vr N cr, .int .i64 d.st, .int .i64 d.nx, .int .i64 d.sn], .agg #[.int .i64 4, .int .i64 n, .int .i64 m, .slice la ln lc]] w fun e w' => e = .returned (.tuple #[.int .i64 0, .bool true]) ∧ LeftP w pb va d.mark w' := by
  obtain ⟨V, hV, hb0, hP, hX⟩ := done_boxes w vr N cr d.st d.nx d.sn 4 n m la ln lc
  obtain ⟨q, hq⟩ : ∃ q, Hid (w.heap.size = q) := ⟨_, Lib.hid rfl⟩
  rw [hq.out] at hP hX
  obtain ⟨p0, p1, p2, p3⟩ := cells4 hP
  obtain ⟨x0, x1, x2, x3⟩ := cells4 hX
  have hc := Lib.hid (pmark_any (h.below hb0))
  replace hb0 := Lib.hid hb0
  clear hP hX h
  go_enter Try.func11, Try.ntmps11
  go_upto_region 1 with fail
  rw [← show V = _ from hV.out, hq.out]
  clear hV
  go_wp2_with fail
  refine hc.out.mono ?_
  rintro _ w1 ⟨rfl, hl1⟩
  have hfin := Lib.hid (hl1.pre hb0.out)
  clear hl1 hc p0 p1 p2 p3 x0 x1 x2 x3
  go_wp2_with fail
  go_ret2
  exact ⟨rfl, hfin.out⟩
set_option maxRecDepth 100000 in
set_option maxHeartbeats 4000000 in
theorem done_fetch (pb : Nat) (va : Option Addr) (c : Nat) (vr : Option Addr) (cr : Nat) (d : Pd) (N : Nat) (k : Int) (hk : (k == 0) = false ∧ (k == 1) = false ∧ (k == 2) = false ∧ (k == 3) = false ∧ (k == 4) = false ∧ k ≠ 0 ∧ k ≠ 1 ∧ k ≠ 2 ∧ k ≠ 3 ∧ k ≠ 4) (n m : Int) (la : Option Addr) (ln lc : Nat) (w : World) (h : PdAt w pb d va c) (hN : d.rs.length = N) (hv : RcAt w vr d.rs) (hm : m ≤ 9223372036854775807) (hn : d.rs.length ≤ 90000) (hr : risL d.rs) (hok : ∀ r ∈ d.rs, r.ok) :
    Calls Try.prog 11 #[.pointer (some ⟨pb, 0, none⟩), .agg #[.slice vr N cr, .int .i64 d.st, .int .i64 d.nx, .int .i64 d.sn], .agg #[.int .i64 k, .int .i64 n, .int .i64 m, .slice la ln lc]] w fun e w' => e = .returned (.tuple #[.int .i64 0, .bool true]) ∧ LeftP w pb va d w' := by
  obtain ⟨V, hV, hb0, hP, hX⟩ := done_boxes w vr N cr d.st d.nx d.sn k n m la ln lc
  obtain ⟨q, hq⟩ : ∃ q, Hid (w.heap.size = q) := ⟨_, Lib.hid rfl⟩
  rw [hq.out] at hP hX
  obtain ⟨p0, p1, p2, p3⟩ := cells4 hP
  obtain ⟨x0, x1, x2, x3⟩ := cells4 hX
  obtain ⟨j0, j1, j2, j3, j4, _⟩ := hk
  have hpt := h.below hb0
  have hc := Lib.hid (pfetch_any hpt n m (by omega) hr hok hm)
  have hrf := fun W (hb : Below V.heap.size V W) => rfetch_any vr cr d n m W ((hv.below hb0).below hb) hn hr hok
  rw [hN] at hrf
  have hfo : ∀ r ∈ fetchL d n m, r.ok := fun r hr2 => by
    unfold fetchL at hr2
    split at hr2
    · simp at hr2
    · split at hr2
      · simp at hr2
      · unfold seenL at hr2
        exact hok r (List.mem_of_mem_take (List.mem_of_mem_drop (List.mem_of_mem_take hr2)))
  have hfl : (fetchL d n m).length ≤ 1000 := by
    unfold fetchL
    split
    · simp
    · split
      · simp
      · rw [List.length_take]; omega
  have hno := Lib.hid (fun W (hb : Below V.heap.size V W) => LeftP.of_below (d := d) h (grew hb0 hb))
  obtain ⟨FL, hFL⟩ : ∃ l, Hid (fetchL d n m = l) := ⟨_, Lib.hid rfl⟩
  obtain ⟨FN, hFN⟩ : ∃ l, Hid (fetchN d n m = l) := ⟨_, Lib.hid rfl⟩
  obtain ⟨FE, hFE⟩ : ∃ l, Hid (fetchE d n = l) := ⟨_, Lib.hid rfl⟩
  have hrf2 : ∀ W, Below V.heap.size V W → Calls Try.prog 30 #[.agg #[.slice vr N cr, .int .i64 d.st, .int .i64 d.nx, .int .i64 d.sn], .int .i64 n, .int .i64 m] W fun e w' => ∃ A c', e = .returned (.agg #[.slice A FL.length c', .int .i64 FN, .int .i64 FE]) ∧ RcAt w' A FL ∧ Below W.heap.size W w' := fun W hb => (hrf W hb).mono fun e w' ⟨A, c', h1, h2, _, h4⟩ => ⟨A, c', by rw [h1, hFL.out, hFN.out, hFE.out], by rw [← hFL.out]; exact h2, h4⟩
  rw [hFL.out, hFN.out, hFE.out] at hc
  rw [hFL.out] at hfo hfl
  have hsm := fun (A B : Option Addr) (c2 c3 : Nat) (W : World) (h1 : RcAt W A FL) (h2 : RcAt W B FL) => same_recs A B FL.length c2 c3 FL W h1 h2 rfl (by omega) (fun r hr => ok_wf (hfo r hr))
  obtain ⟨M, hM⟩ : ∃ M, Hid (FL.length = M) := ⟨_, Lib.hid rfl⟩
  rw [hM.out] at hc hrf2 hsm
  have g1 : (FN == FN) = true := by simp
  have g2 : (FE == FE) = true := by simp
  replace hsm := Lib.hid hsm
  replace hrf2 := Lib.hid hrf2
  replace hfo := Lib.hid hfo
  replace hN := Lib.hid hN
  have hPh := Lib.hid hP
  have hXh := Lib.hid hX
  clear hP hX h hv hpt hrf hok hr hfl
  go_enter Try.func11, Try.ntmps11
  go_upto_region 1 with fail
  rw [← show V = _ from hV.out, hq.out]
  clear hV
  go_wp2_with fail
  refine hc.out.mono ?_
  rintro _ w1 ⟨A1, c1, rfl, hr1, hb1⟩
  have hP1 := hPh.out.below hb1 hPh.out.lt
  have hX1 := hXh.out.below hb1 hXh.out.lt
  clear p0 p1 p2 p3 x0 x1 x2 x3
  obtain ⟨p0, p1, p2, p3⟩ := cells4 hP1
  obtain ⟨x0, x1, x2, x3⟩ := cells4 hX1
  have hrf3 := Lib.hid (hrf2.out w1 hb1)
  replace hr1 := Lib.hid hr1
  replace hb1 := Lib.hid hb1
  clear hP1 hX1 hc hrf2 hPh hXh
  go_wp2_with fail
  refine hrf3.out.mono ?_
  rintro _ w2 ⟨A2, c2, rfl, hr2, hb2⟩
  obtain ⟨W3, hW3⟩ : ∃ W3, Hid (W3 = w2.alloc (.cells #[.slice A2 M c2, .int .i64 FN, .int .i64 FE] 61)) := ⟨_, Lib.hid rfl⟩
  have hb3 : Below w2.heap.size w2 W3 := by rw [hW3.out]; exact grewAlloc (Below.refl _ _) _
  have hO3 : Whole W3 w2.heap.size 61 [.slice A2 M c2, .int .i64 FN, .int .i64 FE] := by rw [hW3.out]; exact Whole.new w2 _ _
  obtain ⟨ob, hob⟩ : ∃ ob, Hid (w2.heap.size = ob) := ⟨_, Lib.hid rfl⟩
  rw [hob.out] at hO3
  obtain ⟨o0, o1, o2⟩ := cells3 hO3
  have hD3 : Below V.heap.size V W3.drew := (grew (grew hb1.out hb2) hb3).drew
  have sm := Lib.hid (hsm.out A1 A2 c1 c2 W3.drew ((hr1.out.below hb2).below hb3.drew).at_ (hr2.below hb3.drew))
  have hO3h := Lib.hid hO3
  replace hD3 := Lib.hid hD3
  replace hb3 := Lib.hid hb3
  replace hb2 := Lib.hid hb2
  replace hr2 := Lib.hid hr2
  clear p0 p1 p2 p3 x0 x1 x2 x3 hrf3 hO3
  go_upto_region 15 with fail
  rw [← show W3 = _ from hW3.out, hob.out]
  clear hW3 hob
  go_region_held3 (fun w' => w'.cell? ⟨ob, 0, none⟩ = some (.slice A2 M c2) ∧ w'.cell? ⟨ob, 1, none⟩ = some (.int .i64 FN) ∧ w'.cell? ⟨ob, 2, none⟩ = some (.int .i64 FE)) (first | assumption | (go_keep)) (first
    | (go_at_call 17; (with_reducible refine sm.out.mono ?_); rintro _ w4 ⟨rfl, hb4⟩; have v0 := keepZ hb4 o0; have v1 := keepZ hb4 o1; have v2 := keepZ hb4 o2; have hB4 := Lib.hid (grew hD3.out hb4); replace hb4 := Lib.hid hb4))
  all_goals
    have hfin := Lib.hid (hno.out w4 hB4.out)
    go_wp2_with fail
    go_ret2
    exact ⟨rfl, hfin.out⟩
theorem done19_any (pb : Nat) (va : Option Addr) (c : Nat) (vr : Option Addr) (cr : Nat) (d : Pd) (x : A19) (w w0 : World) (hp : PS w0 pb d va c w) (hok : d.ok) (h : RcAt w vr d.rs) (hx : A19In w0 x) (hl : x.ln ≤ 1000) (hn : d.rs.length ≤ 90000) :
    Calls Try.prog 11 #[.pointer (some ⟨pb, 0, none⟩), .agg #[.slice vr d.rs.length cr, .int .i64 d.st, .int .i64 d.nx, .int .i64 d.sn], .agg #[.int .i64 x.k, .int .i64 x.n, .int .i64 x.m, .slice x.la x.ln x.lc]] w fun e w' => e = .returned (.tuple #[.int .i64 (d.step x).1, .bool true]) ∧ LeftP w pb va (d.step x).2 w' := by
  obtain ⟨k, n, m, la, ln, lc, rs⟩ := x
  obtain ⟨_, _, hwm, hrl, hra, _⟩ := hx
  dsimp only at hl hrl hra hwm ⊢
  have hfar := far_in hp hra
  have hris := hok.2.2.2.2.2
  have hoks : ∀ r ∈ d.rs, r.ok := fun r hr => (hok.2.2.2.2.1 r hr).1
  have hb := hp.since
  subst hrl
  rcases keys5 k with (rfl | rfl | rfl | rfl | rfl) | hk
  · exact done_app pb va c vr cr d _ n m la _ lc w hp.at_ (d.app rs).2 (d.app rs).1 (fun V h1 hbV => ⟨_, rfl, pappend_any h1 la lc rs ((hra.below hb).below hbV) hl hfar (by omega)⟩)
  · exact done_trim pb va c vr cr d _ n m la _ lc w hp.at_ (d.trim n).2 (d.trim n).1 (fun V h1 hbV => ⟨_, rfl, ptrim_any h1 n (by omega) hris⟩)
  · exact done_repl pb va c vr cr d _ n m la _ lc w hp.at_ (d.repl rs).2 (d.repl rs).1 (fun V h1 hbV => ⟨_, rfl, preplace_any h1 la lc rs ((hra.below hb).below hbV) hl⟩)
  · exact done_set pb va c vr cr d _ n m la _ lc w hp.at_ (d.set n m).2 (d.set n m).1 (fun V h1 hbV => ⟨_, rfl, pset_any h1 n m⟩)
  · exact done_mark pb va c vr cr d _ n m la _ lc w hp.at_
  · have e : d.step ⟨k, n, m, la, rs.length, lc, rs⟩ = (0, d) := by
      unfold Pd.step
      obtain ⟨_, _, _, _, _, a0, a1, a2, a3, a4⟩ := hk
      simp only [a0, a1, a2, a3, a4, if_false]
    rw [e]
    exact done_fetch pb va c vr cr d _ k hk n m la _ lc w hp.at_ rfl h (wf_i64p hwm).2 hn hris hoks
end Go.Proofs.Ytahljbjgenepaaa.W
