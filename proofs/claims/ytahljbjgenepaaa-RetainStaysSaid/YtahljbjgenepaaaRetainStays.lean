/- For all records, limits and later ticks the law RetainStays returns true: with an age and a size of 0 all stay; what stays of what stays is all of it; of a later tick no more. No condition. -/
import Derived.Test.YtahljbjgenepaaaRows
import Derived.Test.YtahljbjgenepaaaRtB
import Derived.Test.YtahljbjgenepaaaOpenRc
import Derived.ChangeOld
import Derived.ShutString
import Derived.Deep.Cut
import Derived.Deep.LoopGhost
import Derived.Deep.RegionHeld3
namespace Go.Proofs.Ytahljbjgenepaaa.retainStays
open Go.ChangeShapes Go.WideShapes Go.ChangeAt Go.RowKit Go.Sort
open Go.ChangeMaps (open_string shut_string)
open Go.Proofs.Ytahljbjgenepaaa.M Go.Proofs.Ytahljbjgenepaaa.W Go.Proofs.Ytahljbjgenepaaa.D Go.Proofs.Ytahljbjgenepaaa.Z
set_option linter.unusedVariables false
set_option linter.unusedSimpArgs false

/-- Rising offsets. -/
def riseL : List Rc → Prop
  | [] => True
  | r :: t => (∀ x ∈ t, r.off < x.off) ∧ riseL t
theorem riseL_of : ∀ (rs : List Rc), (∀ (i : Nat) (a b : Rc), rs[i]? = some a → rs[i + 1]? = some b → a.off < b.off) → riseL rs := by
  intro rs
  induction rs with
  | nil => intro _; trivial
  | cons r t ih =>
    intro h
    have ht := ih (fun i a b ha hb => h (i + 1) a b (by simpa using ha) (by simpa using hb))
    refine ⟨fun x hx => ?_, ht⟩
    cases t with
    | nil => cases hx
    | cons y t =>
      have h0 := h 0 r y rfl rfl
      rcases List.mem_cons.1 hx with rfl | hx
      · exact h0
      · have := ht.1 x hx; omega
theorem riseL_fair {rs : List Rc} (h : fair20 rs) : riseL rs := riseL_of rs fun i a b ha hb => (h.2 (i + 1) (List.getElem?_eq_some_iff.1 hb).1 b hb).2 (by omega) a (by simpa using ha)
theorem ok_fair {rs : List Rc} (h : fair20 rs) : ∀ r ∈ rs, r.ok := fun r hr => by
  obtain ⟨i, hi⟩ := List.getElem?_of_mem hr
  exact (h.2 i (List.getElem?_eq_some_iff.1 hi).1 r hi).1
theorem startF_ge (now age size next x : Int) (hx : x ≤ next) : ∀ rs : List Rc, (∀ r ∈ rs, x ≤ r.off) → x ≤ startF now age size next rs := by
  intro rs
  induction rs with
  | nil => intro _; exact hx
  | cons r t ih =>
    intro h
    show x ≤ if staysP now age size r t then r.off else startF now age size next t
    split
    · exact h r List.mem_cons_self
    · exact ih (fun y hy => h y (List.mem_cons_of_mem _ hy))
theorem startF_mono (now now2 age size next : Int) (hn : now ≤ now2) : ∀ rs : List Rc, riseL rs → (∀ r ∈ rs, r.off < next) → startF now age size next rs ≤ startF now2 age size next rs := by
  intro rs
  induction rs with
  | nil => intro _ _; exact Int.le_refl _
  | cons r t ih =>
    intro h hl
    have h2 : staysP now2 age size r t → staysP now age size r t := fun e => ⟨e.1, e.2.imp id fun e => by omega⟩
    show (if staysP now age size r t then r.off else startF now age size next t) ≤ if staysP now2 age size r t then r.off else startF now2 age size next t
    by_cases e2 : staysP now2 age size r t
    · rw [if_pos e2, if_pos (h2 e2)]; exact Int.le_refl _
    · rw [if_neg e2]
      split
      · have h3 := startF_ge now2 age size next (r.off + 1) (by have := hl r List.mem_cons_self; omega) t (fun y hy => by have := h.1 y hy; omega)
        omega
      · exact ih h.2 (fun y hy => hl y (List.mem_cons_of_mem _ hy))
theorem behind_all {x : Int} {rs : List Rc} (h : ∀ r ∈ rs, x ≤ r.off) : behindL x rs = rs := by
  unfold behindL
  exact List.filter_eq_self.2 fun r hr => decide_eq_true (h r hr)
theorem startF_again (now age size next : Int) : ∀ rs : List Rc, riseL rs → (∀ r ∈ rs, r.off < next) → startF now age size next (behindL (startF now age size next rs) rs) = startF now age size next rs := by
  intro rs
  induction rs with
  | nil => intro _ _; rfl
  | cons r t ih =>
    intro h hl
    by_cases e : staysP now age size r t
    · have e1 : startF now age size next (r :: t) = r.off := by show (if _ then _ else _) = _; rw [if_pos e]
      rw [e1, behind_all (fun y hy => by
        rcases List.mem_cons.1 hy with rfl | hy
        · exact Int.le_refl _
        · have := h.1 y hy; omega), e1]
    · have e1 : startF now age size next (r :: t) = startF now age size next t := by show (if _ then _ else _) = _; rw [if_neg e]
      have h3 := startF_ge now age size next (r.off + 1) (by have := hl r List.mem_cons_self; omega) t (fun y hy => by have := h.1 y hy; omega)
      have e2 : behindL (startF now age size next t) (r :: t) = behindL (startF now age size next t) t := by
        unfold behindL
        rw [List.filter_cons, if_neg (by simp; omega)]
      rw [e1, e2]
      exact ih h.2 (fun y hy => hl y (List.mem_cons_of_mem _ hy))
/-- The first offset. -/
def firstF : List Rc → Int
  | [] => 2097152
  | r :: _ => r.off
theorem startF_zero (now : Int) (rs : List Rc) : startF now (clampI 0) (clampI 0) 2097152 rs = firstF rs := by
  cases rs with
  | nil => rfl
  | cons r t =>
    show (if staysP now (clampI 0) (clampI 0) r t then r.off else _) = r.off
    rw [if_pos ⟨.inl rfl, .inl rfl⟩]
theorem startF_first (now age size : Int) {rs : List Rc} (h : riseL rs) (hl : ∀ r ∈ rs, r.off < 2097152) : firstF rs ≤ startF now age size 2097152 rs := by
  cases rs with
  | nil => exact Int.le_refl _
  | cons r t =>
    exact startF_ge now age size 2097152 r.off (Int.le_of_lt (hl r List.mem_cons_self)) (r :: t) (fun y hy => by
      rcases List.mem_cons.1 hy with rfl | hy
      · exact Int.le_refl _
      · have := h.1 y hy; omega)
theorem behind_ok {x : Int} {rs : List Rc} (h : ∀ r ∈ rs, r.ok) : ∀ r ∈ behindL x rs, r.ok := fun r hr => h r (List.mem_filter.1 hr).1
theorem behind_len (x : Int) (rs : List Rc) : (behindL x rs).length ≤ rs.length := List.length_filter_le _ _
theorem cellsLim : Try.prog.cellsOf 53 = 3 := by kernel_rfl
theorem open_lim {H : Type} {enc : TypeId × Value → H} {w : World} {base : Nat} {held : Bool} {b0 : Nat} {v : Value} {d : DataW H} {p : List MemPlace} (hval : Value.okWide Try.prog w .any b0 53 v) (h : DataW.Trod enc Try.prog w base (fun _ => true) held 53 v d p) :
    ∃ a b c : Int, v = .agg #[.int .i64 a, .int .i64 b, .int .i64 c] ∧ (Lit.int .i64 a).wf = true ∧ (Lit.int .i64 b).wf = true ∧ (Lit.int .i64 c).wf = true := by
  obtain ⟨cs, rfl, hsz⟩ := okWide_struct Try.underlying53 hval
  obtain ⟨l⟩ := cs
  rw [cellsLim] at hsz
  obtain ⟨fuel, hf⟩ := h
  match l, (show l.length = 3 by simpa using hsz) with
  | [c0, c1, c2], _ =>
    obtain ⟨xs, n, _, _, _, hlen, hg⟩ := DataW.trod_struct Try.underlying53 (show DataW.trod enc Try.prog w base (fun _ => true) held fuel 53 [c0, c1, c2] = some _ from hf)
    match xs, hlen with
    | [y0, y1, y2], _ =>
      have h0 : DataW.trod enc Try.prog w base (fun _ => true) held n 3 ((([c0, c1, c2] : List Value).drop 0).take (Try.prog.cellsOf 3)) = some y0 := hg 0 _ rfl
      have h1 : DataW.trod enc Try.prog w base (fun _ => true) held n 3 ((([c0, c1, c2] : List Value).drop 1).take (Try.prog.cellsOf 3)) = some y1 := hg 1 _ rfl
      have h2 : DataW.trod enc Try.prog w base (fun _ => true) held n 3 ((([c0, c1, c2] : List Value).drop 2).take (Try.prog.cellsOf 3)) = some y2 := hg 2 _ rfl
      rw [cellsRi] at h0 h1 h2
      obtain ⟨x0, e0, _, w0⟩ := DataW.trod_int Try.underlying3 (show DataW.trod enc Try.prog w base (fun _ => true) held n 3 [c0] = some y0 from h0)
      obtain ⟨x1, e1, _, w1⟩ := DataW.trod_int Try.underlying3 (show DataW.trod enc Try.prog w base (fun _ => true) held n 3 [c1] = some y1 from h1)
      obtain ⟨x2, e2, _, w2⟩ := DataW.trod_int Try.underlying3 (show DataW.trod enc Try.prog w base (fun _ => true) held n 3 [c2] = some y2 from h2)
      simp only [List.cons.injEq, and_true] at e0 e1 e2
      subst e0 e1 e2
      exact ⟨x0, x1, x2, rfl, w0, w1, w2⟩

set_option maxRecDepth 100000 in
set_option maxHeartbeats 4000000 in
theorem walk (a0 : Option Addr) (n c : Nat) (rs : List Rc) (qa qb qc later : Int) (w : World) (w0 : RcIn w a0 n rs) (_ : (Lit.int .i64 qa).wf = true) (_ : (Lit.int .i64 qb).wf = true) (_ : (Lit.int .i64 qc).wf = true) (_ : (Lit.int .i64 later).wf = true) :
    Calls Try.prog 7 #[.slice a0 n c, .agg #[.int .i64 qa, .int .i64 qb, .int .i64 qc], .int .i64 later] w fun e w' => e = .returned (.bool true) ∧ Below w.heap.size w w' := by
  obtain ⟨hn, hat, hwf⟩ := w0
  obtain ⟨V, hV⟩ : ∃ V, Hid (V = w.alloc (.cells #[.int .i64 qa, .int .i64 qb, .int .i64 qc] 53)) := ⟨_, Lib.hid rfl⟩
  have hb0 : Below w.heap.size w V := by rw [hV.out]; exact grewAlloc (Below.refl _ _) _
  have hQ0 : Whole V w.heap.size 53 [.int .i64 qa, .int .i64 qb, .int .i64 qc] := by rw [hV.out]; exact Whole.new w _ _
  obtain ⟨q, hq⟩ : ∃ q, Hid (w.heap.size = q) := ⟨_, Lib.hid rfl⟩
  rw [hq.out] at hQ0
  have hat0 := hat.below hb0
  have hmy := may20_is a0 c rs V hat0
  have h3 := Lib.hid (fun W => three20_any W)
  clear hwf
  rcases hmy with ⟨hf, hmy⟩ | hmy
  · by_cases hlt : later < qa
    · rw [hn] at hmy
      replace hmy := Lib.hid hmy
      replace hb0 := Lib.hid hb0
      replace hQ0 := Lib.hid hQ0
      clear hf hat hat0 hn
      go_enter Try.func7, Try.ntmps7
      go_upto_region 1 with fail
      rw [← show V = _ from hV.out, hq.out]
      clear hV
      go_wp2_with fail
      refine hmy.out.mono ?_
      rintro e w1 ⟨rfl, hb1⟩
      have hB1 := Lib.hid (grew hb0.out hb1)
      have hQ1 := hQ0.out.below hb1 hQ0.out.lt
      have q0 : w1.cell? ⟨q, 0, none⟩ = some (.int .i64 qa) := hQ1.cell 0
      clear hmy hb0 hQ0 hb1 hQ1
      go_wp2_with fail
      refine (h3.out _).mono ?_
      rintro e w2 ⟨rfl, hb2⟩
      have hB2 := Lib.hid (grew hB1.out hb2)
      clear hb2
      go_wp2_with fail
      go_ret
      exact ⟨rfl, hB2.out⟩
    · have hge : qa ≤ later := by omega
      have hris := riseL_fair hf
      have hok := ok_fair hf
      have hlt2 : ∀ r ∈ rs, r.off < 2097152 := fun r hr => by have := (hok r hr).1.2; omega
      have f1 := startF_first (clampI qa) (clampI qb) (clampI qc) hris hlt2
      have f2 := startF_again (clampI qa) (clampI qb) (clampI qc) 2097152 rs hris hlt2
      have f3 := startF_mono (clampI qa) (clampI later) (clampI qb) (clampI qc) 2097152 (clampI_mono hge) rs hris hlt2
      have f4 := startF_zero (clampI qa) rs
      have hlen := hf.1
      have s1 := fun W (hW : RcAt W a0 rs) => start_any a0 c rs 2097152 qa qb qc W hW (by omega) hok
      have s2 := fun W A cc (hW : RcAt W A (behindL (startF (clampI qa) (clampI qb) (clampI qc) 2097152 rs) rs)) => start_any A cc _ 2097152 qa qb qc W hW (by have := behind_len (startF (clampI qa) (clampI qb) (clampI qc) 2097152 rs) rs; omega) (behind_ok hok)
      have s3 := fun W (hW : RcAt W a0 rs) => start_any a0 c rs 2097152 later qb qc W hW (by omega) hok
      have s4 := fun W (hW : RcAt W a0 rs) => start_any a0 c rs 2097152 qa 0 0 W hW (by omega) hok
      have s5 := fun W (hW : RcAt W a0 rs) => behind20_any a0 c rs (startF (clampI qa) (clampI qb) (clampI qc) 2097152 rs) W hW (by omega)
      rw [f2] at s2
      rw [f4] at s4
      have hfi : ∀ r, rs[0]? = some r → firstF rs = r.off := fun r hr => by
        cases rs with
        | nil => cases hr
        | cons x t => simp at hr; rw [← hr]; rfl
      have hfe : n = 0 → firstF rs = 2097152 := fun e => by rw [List.eq_nil_of_length_eq_zero (show rs.length = 0 by omega)]; rfl
      rw [hn] at hmy s1 s3 s4 s5 hlen
      obtain ⟨A, hA⟩ : ∃ A, Hid (startF (clampI qa) (clampI qb) (clampI qc) 2097152 rs = A) := ⟨_, Lib.hid rfl⟩
      obtain ⟨C, hC⟩ : ∃ A, Hid (startF (clampI later) (clampI qb) (clampI qc) 2097152 rs = A) := ⟨_, Lib.hid rfl⟩
      obtain ⟨F, hF⟩ : ∃ A, Hid (firstF rs = A) := ⟨_, Lib.hid rfl⟩
      rw [hA.out] at f1 f3 s1 s2 s5
      rw [hC.out] at f3 s3
      rw [hF.out] at f1 s4 hfi hfe
      obtain ⟨L, hL⟩ : ∃ L, Hid ((behindL A rs).length = L) := ⟨_, Lib.hid rfl⟩
      rw [hL.out] at s5
      replace s1 := Lib.hid s1
      replace s2 := Lib.hid s2
      replace s3 := Lib.hid s3
      replace s4 := Lib.hid s4
      replace s5 := Lib.hid s5
      replace hfi := Lib.hid hfi
      replace hfe := Lib.hid hfe
      replace hmy := Lib.hid hmy
      replace hb0 := Lib.hid hb0
      replace hQ0 := Lib.hid hQ0
      replace hat := Lib.hid hat
      replace hn := Lib.hid hn
      have e1 : (F == F) = true := by simp
      have e2 : (A == A) = true := by simp
      clear hf hat0 hris hok hlt2 f2 f4
      go_enter Try.func7, Try.ntmps7
      go_upto_region 1 with fail
      rw [← show V = _ from hV.out, hq.out]
      clear hV
      go_wp2_with fail
      refine hmy.out.mono ?_
      rintro e w1 ⟨rfl, hb1⟩
      have hB1 := Lib.hid (grew hb0.out hb1)
      have hQ1 := hQ0.out.below hb1 hQ0.out.lt
      have q0 : w1.cell? ⟨q, 0, none⟩ = some (.int .i64 qa) := hQ1.cell 0
      have q1 : w1.cell? ⟨q, 1, none⟩ = some (.int .i64 qb) := hQ1.cell 1
      have q2 : w1.cell? ⟨q, 2, none⟩ = some (.int .i64 qc) := hQ1.cell 2
      have t1 := Lib.hid (s1.out w1 (hat.out.below hB1.out))
      replace hQ1 := Lib.hid hQ1
      clear hmy hb0 hQ0 hb1 s1
      have hpart : Hid (n = 0 ∧ F = 2097152 ∨ 0 < n ∧ ∃ b o, a0 = some ⟨b, o, none⟩ ∧ w1.cell? ⟨b, o, none⟩ = some (.int .i64 F)) := Lib.hid (by
        by_cases h0 : n = 0
        · exact .inl ⟨h0, hfe.out h0⟩
        · obtain ⟨r, hr⟩ : ∃ r, rs[0]? = some r := ⟨_, List.getElem?_eq_getElem (by have := hn.out; omega)⟩
          obtain ⟨b, o, e, c0, _⟩ := (hat.out.below hB1.out).get hr
          exact .inr ⟨by omega, b, o, e, by rw [hfi.out r hr]; simpa using c0⟩)
      rcases hpart.out with ⟨h0, hF2⟩ | ⟨h0, b, o, e, c0⟩
      · have h0i : ¬ (0 : Int) < (n : Int) := by omega
        subst hF2
        replace h0 := Lib.hid h0
        clear hpart
        go_wp2_with fail
        refine t1.out.mono ?_
        rintro _ w2 ⟨rfl, hb2⟩
        have hB2 := Lib.hid (grew hB1.out hb2)
        have hQ2 := hQ1.out.below hb2 hQ1.out.lt
        clear q0 q1 q2 t1 hb2 hB1 hQ1
        have q0 : w2.cell? ⟨q, 0, none⟩ = some (.int .i64 qa) := hQ2.cell 0
        have q1 : w2.cell? ⟨q, 1, none⟩ = some (.int .i64 qb) := hQ2.cell 1
        have q2 : w2.cell? ⟨q, 2, none⟩ = some (.int .i64 qc) := hQ2.cell 2
        have hD2 := Lib.hid hB2.out.drew
        have t5 := Lib.hid (s5.out w2.drew (hat.out.below hD2.out))
        replace hQ2 := Lib.hid hQ2
        go_wp2_with fail
        go_region_held3 (fun w' => w'.cell? ⟨q, 0, none⟩ = some (.int .i64 qa) ∧ w'.cell? ⟨q, 1, none⟩ = some (.int .i64 qb) ∧ w'.cell? ⟨q, 2, none⟩ = some (.int .i64 qc)) (first | assumption | (go_keep)) (first
          | (go_at_call 29; (with_reducible refine t5.out.mono ?_); rintro _ w3 ⟨A3, cc3, rfl, hr3, hb3⟩; have hB3 := Lib.hid (grew hD2.out hb3); have d0 := keepZ hb3 q0; have d1 := keepZ hb3 q1; have d2 := keepZ hb3 q2; have t2 := s2.out w3 A3 cc3 hr3; rw [hL.out] at t2; replace t2 := Lib.hid t2; replace hr3 := Lib.hid hr3; replace hb3 := Lib.hid hb3)
          | (go_at_call 28; (with_reducible refine t2.out.mono ?_); rintro _ w4 ⟨rfl, hb4⟩; have hB4 := Lib.hid (grew hB3.out hb4); have f0 := keepZ hb4 d0; have f1' := keepZ hb4 d1; have f2' := keepZ hb4 d2; replace hb4 := Lib.hid hb4))
        have t3 := Lib.hid (s3.out w4 (hat.out.below hB4.out))
        go_wp2_with fail
        refine t3.out.mono ?_
        rintro _ w5 ⟨rfl, hb5⟩
        have hB5 := Lib.hid (grew hB4.out hb5)
        have t4 := Lib.hid (s4.out w5 (hat.out.below hB5.out))
        have g0 := keepZ hb5 f0
        replace hb5 := Lib.hid hb5
        go_wp2_with fail
        refine t4.out.mono ?_
        rintro _ w6 ⟨rfl, hb6⟩
        have hB6 := Lib.hid (grew hB5.out hb6)
        replace hb6 := Lib.hid hb6
        go_wp2_with fail
        refine (h3.out _).mono ?_
        rintro _ w7 ⟨rfl, hb7⟩
        have hB7 := Lib.hid (grew hB6.out hb7)
        clear hb7
        go_wp2_with fail
        go_ret
        exact ⟨rfl, hB7.out⟩
      · have h0i : (0 : Int) < (n : Int) := by omega
        subst e
        clear hpart
        go_wp2_with fail
        refine t1.out.mono ?_
        rintro _ w2 ⟨rfl, hb2⟩
        have hB2 := Lib.hid (grew hB1.out hb2)
        have hQ2 := hQ1.out.below hb2 hQ1.out.lt
        clear q0 q1 q2 t1 hb2 hB1 hQ1
        have q0 : w2.cell? ⟨q, 0, none⟩ = some (.int .i64 qa) := hQ2.cell 0
        have q1 : w2.cell? ⟨q, 1, none⟩ = some (.int .i64 qb) := hQ2.cell 1
        have q2 : w2.cell? ⟨q, 2, none⟩ = some (.int .i64 qc) := hQ2.cell 2
        have hD2 := Lib.hid hB2.out.drew
        have t5 := Lib.hid (s5.out w2.drew (hat.out.below hD2.out))
        replace hQ2 := Lib.hid hQ2
        go_wp2_with fail
        go_region_held3 (fun w' => w'.cell? ⟨q, 0, none⟩ = some (.int .i64 qa) ∧ w'.cell? ⟨q, 1, none⟩ = some (.int .i64 qb) ∧ w'.cell? ⟨q, 2, none⟩ = some (.int .i64 qc)) (first | assumption | (go_keep)) (first
          | (go_at_call 29; (with_reducible refine t5.out.mono ?_); rintro _ w3 ⟨A3, cc3, rfl, hr3, hb3⟩; have hB3 := Lib.hid (grew hD2.out hb3); have d0 := keepZ hb3 q0; have d1 := keepZ hb3 q1; have d2 := keepZ hb3 q2; have t2 := s2.out w3 A3 cc3 hr3; rw [hL.out] at t2; replace t2 := Lib.hid t2; replace hr3 := Lib.hid hr3; replace hb3 := Lib.hid hb3)
          | (go_at_call 28; (with_reducible refine t2.out.mono ?_); rintro _ w4 ⟨rfl, hb4⟩; have hB4 := Lib.hid (grew hB3.out hb4); have f0 := keepZ hb4 d0; have f1' := keepZ hb4 d1; have f2' := keepZ hb4 d2; replace hb4 := Lib.hid hb4))
        have t3 := Lib.hid (s3.out w4 (hat.out.below hB4.out))
        go_wp2_with fail
        refine t3.out.mono ?_
        rintro _ w5 ⟨rfl, hb5⟩
        have hB5 := Lib.hid (grew hB4.out hb5)
        have t4 := Lib.hid (s4.out w5 (hat.out.below hB5.out))
        have g0 := keepZ hb5 f0
        replace hb5 := Lib.hid hb5
        go_wp2_with fail
        refine t4.out.mono ?_
        rintro _ w6 ⟨rfl, hb6⟩
        have hB6 := Lib.hid (grew hB5.out hb6)
        replace hb6 := Lib.hid hb6
        go_wp2_with fail
        refine (h3.out _).mono ?_
        rintro _ w7 ⟨rfl, hb7⟩
        have hB7 := Lib.hid (grew hB6.out hb7)
        clear hb7
        go_wp2_with fail
        go_ret
        exact ⟨rfl, hB7.out⟩
  · rw [hn] at hmy
    replace hmy := Lib.hid hmy
    replace hb0 := Lib.hid hb0
    clear hat hat0 hn hQ0
    go_enter Try.func7, Try.ntmps7
    go_upto_region 1 with fail
    rw [← show V = _ from hV.out, hq.out]
    clear hV hq
    go_wp2_with fail
    refine hmy.out.mono ?_
    rintro e w1 ⟨rfl, hb1⟩
    have hB1 := Lib.hid (grew hb0.out hb1)
    clear hmy hb0 hb1
    go_wp2_with fail
    refine (h3.out _).mono ?_
    rintro e w2 ⟨rfl, hb2⟩
    have hB2 := Lib.hid (grew hB1.out hb2)
    clear hb2
    go_wp2_with fail
    go_ret
    exact ⟨rfl, hB2.out⟩

theorem own : ownKnob Try.prog.godebug = none := by kernel_rfl
theorem laidOut : laidOutB Try.prog = true := by kernel_rfl

set_option maxRecDepth 100000 in
theorem lifted (os : Os) (started : os.Started) (H : Type) (enc : TypeId × Value → H) :
    ReturnsInHanded {} Try.checked os 7 .any (Rows.retainStaysSpec.pre6 enc Try.prog Try.f7 Rows.retainStaysRow.domain false) (Rows.retainStaysSpec.post enc Try.prog Try.f7 false true false false) := by
  refine returnsInHanded_of_change (C := Try.checked) own started (by kernel_rfl) Try.func7
    (ChangeSpec.witness6 (enc := enc) (C := Try.checked) false ⟨#[], #[.slice none 0 0, .agg #[.int .i64 0, .int .i64 0, .int .i64 0], .int .i64 0], []⟩ 8 (by kernel_rfl) (by kernel_rfl) (by kernel_rfl) (by kernel_rfl)) ?_
  intro W base args ds gs before hval0 hW hcnd _
  have hval : ∀ (j : Nat) t v, Try.f7.params[j]? = some t → args[j]? = some v → Value.okWide Try.prog W .any base t v := hval0
  have hW' := hW
  obtain ⟨p, q, hA0, hV, rfl, hfz, hnd⟩ := hW
  have hA : DataW.TrodAll enc Try.prog W 0 (fun _ => true) true Try.f7.params.toList args.toList ds p := hA0
  rw [Try.params7] at hA hval
  obtain ⟨v0, vs0, d0, ds0, p0, q0, hargs, rfl, rfl, h0, r0⟩ := trodAll_cons hA
  obtain ⟨v1, vs1, d1, ds1, p1, q1, rfl, rfl, rfl, h1, r1⟩ := trodAll_cons r0
  obtain ⟨v2, vs2, d2, ds2, p2, q2, rfl, rfl, rfl, h2, r2⟩ := trodAll_cons r1
  obtain ⟨rfl, rfl, rfl⟩ := trodAll_nil r2
  obtain rfl : args = #[v0, v1, v2] := by cases args; simp_all
  obtain ⟨rfl, rfl⟩ := trodVars_none hV
  obtain ⟨a0, len0, cap0, rfl⟩ := okWide_slice Try.underlying27 (hval 0 27 v0 rfl rfl)
  have k0 := h0
  have lt0 : ∀ x ∈ p0, x.block < W.heap.size := by obtain ⟨m, hm⟩ := k0; exact DataW.trod_lt m _ _ _ hm
  obtain ⟨fu0, hf0⟩ := h0
  obtain ⟨z0, w0⟩ := Go.Proofs.Ytahljbjgenepaaa.W.open_recs (show DataW.trod enc Try.prog W 0 (fun _ => true) true fu0 27 [.slice a0 len0 cap0] = some _ from hf0)
  have k1 := h1
  have lt1 : ∀ x ∈ p1, x.block < W.heap.size := by obtain ⟨m, hm⟩ := k1; exact DataW.trod_lt m _ _ _ hm
  obtain ⟨qa1, qb1, qc1, rfl, wqa1, wqb1, wqc1⟩ := open_lim (hval 1 53 v1 rfl rfl) h1
  obtain ⟨a2, rfl, rfl, rfl, w2⟩ := open_int Try.underlying3 (hval 2 3 v2 rfl rfl) h2
  clear hA0 hval0
  refine (walk a0 len0 cap0 z0 qa1 qb1 qc1 a2 W w0 wqa1 wqb1 wqc1 w2).mono fun e W' ⟨he, bel⟩ => ?_
  subst he
  exact ⟨_, rfl, _, _, _, [], _, [], hW', trodAll_mk1 (shut_bool Try.underlying4 _), (trodAll_cons_mk (Below.trod laidOut (by kernel_rfl) (of_decide_eq_true (by kernel_rfl)) k0 bel lt0) (trodAll_cons_mk (Below.trod laidOut (by kernel_rfl) (of_decide_eq_true (by kernel_rfl)) k1 bel lt1) (trodAll_cons_mk (shut_int Try.underlying3 w2) trodAll_mk0))), rfl, bel.frame _, fun h => by cases h⟩

theorem over : Rows.retainStaysRow.holds Try.pinned (OpenSpec.ofChange Rows.retainStaysSpec) :=
  OpenClaim.holds_of_wide 7 Try.f7 rfl rfl rfl rfl rfl rfl rfl ⟨rfl, rfl, rfl, rfl, rfl⟩ rfl rfl rfl rfl rfl (by kernel_rfl) Try.func7 (by kernel_rfl)
    (of_decide_eq_true (by kernel_rfl)) (by unfold Func.isWrapper; first | (rw [if_pos (by decide +kernel)]; kernel_rfl) | (rw [if_neg (by decide +kernel)]; exact ⟨rfl, rfl⟩))
    (fun os started H enc _ => lifted os started H enc)

/-- The statement. -/
theorem proved : Rows.RetainStaysSaid := over
#print axioms proved

end Go.Proofs.Ytahljbjgenepaaa.retainStays
