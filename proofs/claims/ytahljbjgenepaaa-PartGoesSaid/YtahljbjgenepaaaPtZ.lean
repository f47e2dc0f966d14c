/- Layer 19's law: what its state is, step by step. -/
import Derived.Test.YtahljbjgenepaaaPtY
namespace Go.Proofs.Ytahljbjgenepaaa.W
open Go.RowKit Go.Sort
open Go.Proofs.Ytahljbjgenepaaa.M Go.Proofs.Ytahljbjgenepaaa.D Go.Proofs.Ytahljbjgenepaaa.Z
set_option linter.unusedVariables false
set_option linter.unusedSimpArgs false

theorem stair_facts {below : Int} : ∀ (l : List Rc) (f : Int), stairB below f l = true → (∀ r ∈ l, f ≤ r.off ∧ r.off < below ∧ r.off < lastN f l) ∧ risL l ∧ f ≤ lastN f l ∧ (l ≠ [] → lastN f l ≤ below) := by
  intro l
  induction l with
  | nil => intro f _; exact ⟨fun r h => by simp at h, trivial, Int.le_refl _, fun h => absurd rfl h⟩
  | cons r t ih =>
    intro f h
    have h' : (decide (f ≤ r.off ∧ r.off < below) && stairB below (r.off + 1) t) = true := h
    rw [Bool.and_eq_true] at h'
    obtain ⟨h1, h2⟩ := h'
    have h1 := of_decide_eq_true h1
    obtain ⟨i1, i2, i3, i4⟩ := ih (r.off + 1) h2
    rw [lastN_cons]
    refine ⟨fun x hx => ?_, ⟨fun x hx => by have := (i1 x hx).1; omega, i2⟩, by omega, fun _ => ?_⟩
    · rcases List.mem_cons.1 hx with rfl | hx
      · omega
      · have := i1 x hx; omega
    · cases t with
      | nil => show r.off + 1 ≤ below; omega
      | cons y t => exact i4 (by simp)
theorem risL_append : ∀ {a b : List Rc}, risL a → risL b → (∀ x ∈ a, ∀ y ∈ b, x.off < y.off) → risL (a ++ b)
  | [], b, _, hb, _ => hb
  | r :: t, b, ha, hb, h => ⟨fun x hx => by
      rcases List.mem_append.1 hx with hx | hx
      · exact ha.1 x hx
      · exact h r List.mem_cons_self x hx, risL_append ha.2 hb (fun x hx y hy => h x (List.mem_cons_of_mem _ hx) y hy)⟩
theorem risL_drop : ∀ {a : List Rc} (k : Nat), risL a → risL (a.drop k)
  | [], k, _ => by simp [risL]
  | r :: t, 0, h => h
  | r :: t, k + 1, h => risL_drop k h.2
theorem check_zero {f below : Int} {l : List Rc} (h : checkP f below l = 0) : (∀ r ∈ l, r.ok) ∧ stairB below f l = true := by
  refine ⟨check_ok h, ?_⟩
  unfold checkP at h
  by_cases e : l.all Rc.may = true
  · rw [if_pos e] at h
    by_cases e2 : stairB below f l = true
    · exact e2
    · rw [if_neg e2] at h; exact absurd h (by decide)
  · rw [if_neg e] at h; exact absurd h (by decide)
/-- A call leaves a partition that may be. -/
theorem step_ok {d : Pd} (hd : d.ok) (x : A19) : (d.step x).2.ok ∧ (d.step x).2.rs.length ≤ d.rs.length + x.rs.length := by
  obtain ⟨h1, h2, h3, h4, h5, h6⟩ := id hd
  unfold Pd.step
  by_cases k0 : x.k = 0
  · rw [if_pos k0]
    unfold Pd.app
    by_cases hc : checkP d.nx 1048577 x.rs = 0
    · rw [if_pos hc]
      obtain ⟨c1, c2⟩ := check_zero hc
      obtain ⟨s1, s2, s3, s4⟩ := stair_facts x.rs d.nx c2
      refine ⟨⟨h1, h2, Int.le_trans h3 s3, ?_, fun r hr => ?_, ?_⟩, by simp⟩
      · show lastN d.nx x.rs ≤ 1048577
        by_cases e : x.rs = []
        · rw [e]; exact h4
        · exact s4 e
      · rcases List.mem_append.1 hr with hr | hr
        · have := h5 r hr; exact ⟨this.1, this.2.1, by show r.off < lastN d.nx x.rs; omega⟩
        · have := s1 r hr; exact ⟨c1 r hr, by show d.st ≤ r.off; omega, this.2.2⟩
      · exact risL_append h6 s2 (fun a ha b hb => by have := h5 a ha; have := s1 b hb; omega)
    · rw [if_neg hc]; exact ⟨hd, Nat.le_add_right _ _⟩
  rw [if_neg k0]
  by_cases k1 : x.k = 1
  · rw [if_pos k1]
    unfold Pd.trim
    by_cases hc : x.n < d.st ∨ d.nx < x.n
    · rw [if_pos hc]; exact ⟨hd, Nat.le_add_right _ _⟩
    · rw [if_neg hc]
      refine ⟨⟨by show 0 ≤ x.n; omega, by show x.n ≤ max d.sn x.n; omega, by show max d.sn x.n ≤ d.nx; omega, h4, fun r hr => ?_, risL_drop _ h6⟩, by show (d.rs.drop _).length ≤ _; rw [List.length_drop]; omega⟩
      have hr' : r ∈ d.rs.drop (cutN x.n d.rs) := hr
      rw [← geL_drop x.n d.rs h6] at hr'
      have h7 := List.mem_filter.1 hr'
      have h8 : x.n ≤ r.off := of_decide_eq_true h7.2
      have := h5 r h7.1
      exact ⟨this.1, h8, this.2.2⟩
  rw [if_neg k1]
  by_cases k2 : x.k = 2
  · rw [if_pos k2]
    unfold Pd.repl
    by_cases hc : checkP d.st d.nx x.rs = 0
    · rw [if_pos hc]
      obtain ⟨c1, c2⟩ := check_zero hc
      obtain ⟨s1, s2, s3, s4⟩ := stair_facts x.rs d.st c2
      exact ⟨⟨h1, h2, h3, h4, fun r hr => ⟨c1 r hr, (s1 r hr).1, (s1 r hr).2.1⟩, s2⟩, Nat.le_add_left _ _⟩
    · rw [if_neg hc]; exact ⟨hd, Nat.le_add_right _ _⟩
  rw [if_neg k2]
  by_cases k3 : x.k = 3
  · rw [if_pos k3]
    unfold Pd.set
    by_cases hc : d.nx ≠ 0
    · rw [if_pos hc]; exact ⟨hd, Nat.le_add_right _ _⟩
    · rw [if_neg hc]
      by_cases hc2 : x.n < 0 ∨ x.m < x.n ∨ 1048577 < x.m
      · rw [if_pos hc2]; exact ⟨hd, Nat.le_add_right _ _⟩
      · rw [if_neg hc2]
        exact ⟨⟨by show 0 ≤ x.n; omega, by show x.n ≤ x.m; omega, Int.le_refl _, by show x.m ≤ 1048577; omega, fun r hr => by have := h5 r hr; omega, h6⟩, Nat.le_add_right _ _⟩
  rw [if_neg k3]
  by_cases k4 : x.k = 4
  · rw [if_pos k4]
    exact ⟨⟨h1, Int.le_trans h2 h3, Int.le_refl _, h4, h5, h6⟩, Nat.le_add_right _ _⟩
  · rw [if_neg k4]; exact ⟨hd, Nat.le_add_right _ _⟩

/-- The law's state: a partition, and the definition's in a box. -/
structure QS (w0 : World) (pb bx : Nat) (d : Pd) (va : Option Addr) (c : Nat) (vr : Option Addr) (cr : Nat) (W : World) : Prop where
  ps : PS w0 pb d va c W
  box : Whole W bx 29 [.slice vr d.rs.length cr, .int .i64 d.st, .int .i64 d.nx, .int .i64 d.sn]
  lo : w0.heap.size ≤ bx
  row : RcAt W vr d.rs
  far : d.rs ≠ [] → ∀ q, ownB vr q → ¬ mineP pb va q ∧ q ≠ bx
  nbx : ¬ mineP pb va bx
section
variable {w0 W W' : World} {pb bx c cr : Nat} {d D : Pd} {va vr : Option Addr}
theorem QS.below (h : QS w0 pb bx d va c vr cr W) (hb : Below W.heap.size W W') : QS w0 pb bx d va c vr cr W' := ⟨h.ps.below hb, h.box.below hb h.box.lt, h.lo, h.row.below hb, h.far, h.nbx⟩
/-- The program's call. -/
theorem QS.left (h : QS w0 pb bx d va c vr cr W) (hl : LeftP W pb va D W') : ∃ va' c', PS w0 pb D va' c' W' ∧ Whole W' bx 29 [.slice vr d.rs.length cr, .int .i64 d.st, .int .i64 d.nx, .int .i64 d.sn] ∧ RcAt W' vr d.rs ∧ Kept (mineP pb va) W W' ∧ (∀ q, ownB va' q → ownB va q ∨ W.heap.size ≤ q) := by
  obtain ⟨va', c', h1, h2, h3⟩ := h.ps.left hl
  exact ⟨va', c', h1, h.box.of_kept h2 h.nbx, h.row.of_kept h2 (fun hne q hq => (h.far hne q hq).1), h2, h3⟩
theorem rcAt_lt {W : World} {va : Option Addr} {rs : List Rc} (h : RcAt W va rs) (hne : rs ≠ []) {q : Nat} (hq : ownB va q) : q < W.heap.size := by
  obtain ⟨o, e⟩ := hq
  obtain ⟨r, hr⟩ : ∃ r, rs[0]? = some r := ⟨_, List.getElem?_eq_getElem (List.length_pos_iff.2 hne)⟩
  obtain ⟨b', o', e3, h3, _⟩ := h 0 r hr
  rw [e] at e3; cases e3
  exact h3
/-- The definition's call, and its partition in the box. -/
theorem QS.next {W2 W4 : World} {va' vr' la : Option Addr} {c' cr' : Nat} {l : List Rc} (h : QS w0 pb bx d va c vr cr W) (h2 : PS w0 pb D va' c' W2) (hk : Kept (mineP pb va) W W2) (hq : ∀ q, ownB va' q → ownB va q ∨ W.heap.size ≤ q)
    (hb4 : Below W2.heap.size W2 W4) (hbox : Whole W4 bx 29 [.slice vr d.rs.length cr, .int .i64 d.st, .int .i64 d.nx, .int .i64 d.sn]) (hla : RcAt w0 la l)
    (hr : RcAt W4 vr' D.rs) (hcl : D.rs ≠ [] → ∀ q, ownB vr' q → (ownB vr q ∧ d.rs ≠ []) ∨ (ownB la q ∧ l ≠ []) ∨ W2.heap.size ≤ q) :
    QS w0 pb bx D va' c' vr' cr' (W4.setCells bx 0 [.slice vr' D.rs.length cr', .int .i64 D.st, .int .i64 D.nx, .int .i64 D.sn]) := by
  have hbxl : bx < W.heap.size := h.box.lt
  have nbx' : ¬ mineP pb va' bx := fun e => by
    rcases e with e | e
    · exact h.nbx (.inl e)
    · rcases hq bx e with e2 | e2
      · exact h.nbx (.inr e2)
      · omega
  have hfar : D.rs ≠ [] → ∀ q, ownB vr' q → ¬ mineP pb va' q ∧ q ≠ bx := fun hne q hq2 => by
    rcases hcl hne q hq2 with ⟨e1, e2⟩ | ⟨e1, e2⟩ | e1
    · have h3 := h.far e2 q e1
      refine ⟨fun e => ?_, h3.2⟩
      rcases e with e | e
      · exact h3.1 (.inl e)
      · rcases hq q e with e5 | e5
        · exact h3.1 (.inr e5)
        · have := rcAt_lt h.row e2 e1; omega
    · have h3 := rcAt_lt hla e2 e1
      exact ⟨fun e => by have := h2.mine q e; omega, by have := h.lo; omega⟩
    · refine ⟨fun e => by have := h2.lt q e; omega, fun e => ?_⟩
      have := hk.size
      omega
  have hks : Kept (fun q => q = bx) W4 (W4.setCells bx 0 [.slice vr' D.rs.length cr', .int .i64 D.st, .int .i64 D.nx, .int .i64 D.sn]) := (Kept.refl (fun q => q = bx) W4).setCells (.inl rfl) 0 _
  have h4 := h2.below hb4
  have hsi : Below w0.heap.size w0 (W4.setCells bx 0 [.slice vr' D.rs.length cr', .int .i64 D.st, .int .i64 D.nx, .int .i64 D.sn]) := h4.since.trans (hks.below h4.since.size (fun q e => by rw [e]; exact h.lo))
  refine ⟨⟨⟨h4.at_.obj.of_kept hks (fun e => nbx' (.inl e.symm)), h4.at_.row.of_kept hks (fun q hq e => nbx' (.inr (by rw [← e]; exact hq)))⟩, h4.lo, h4.own, hsi⟩, ?_, h.lo, hr.of_kept hks (fun hne q hq => (hfar hne q hq).2), hfar, nbx'⟩
  exact hbox.store 0 [.slice vr' D.rs.length cr', .int .i64 D.st, .int .i64 D.nx, .int .i64 D.sn] (by simp)
end
/-- The acts of a row. -/
theorem As19.get {w W : World} {va : Option Addr} {n : Nat} {xs : List A19} (h : As19 w va n xs) (hb : Below w.heap.size w W) {i : Nat} {x : A19} (hx : xs[i]? = some x) : ∃ b o, va = some ⟨b, o, none⟩ ∧ W.cell? ⟨b, o + i * 4, none⟩ = some (.int .i64 x.k) ∧ W.cell? ⟨b, o + i * 4 + 1, none⟩ = some (.int .i64 x.n) ∧ W.cell? ⟨b, o + i * 4 + 2, none⟩ = some (.int .i64 x.m) ∧ W.cell? ⟨b, o + i * 4 + 3, none⟩ = some (.slice x.la x.ln x.lc) := by
  obtain ⟨b, o, e, h1, h2⟩ := h.at_ i x hx
  have k := fun j v (hj : (a19L x)[j]? = some v) => (World.cell?_of_block (a := ⟨b, o + i * 4 + j, none⟩) (hb.block b h1)).trans (h2 j v hj)
  exact ⟨b, o, e, k 0 _ rfl, k 1 _ rfl, k 2 _ rfl, k 3 _ rfl⟩
end Go.Proofs.Ytahljbjgenepaaa.W
