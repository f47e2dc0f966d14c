/- Two partitions beside one another; records that are put in pieces. -/
import Derived.Test.YtahljbjgenepaaaPtH
namespace Go.Proofs.Ytahljbjgenepaaa.W
open Go.RowKit Go.Sort
open Go.Proofs.Ytahljbjgenepaaa.M Go.Proofs.Ytahljbjgenepaaa.D Go.Proofs.Ytahljbjgenepaaa.Z
set_option linter.unusedVariables false
set_option linter.unusedSimpArgs false

theorem lastN_cons (f : Int) (r : Rc) (t : List Rc) : lastN f (r :: t) = lastN (r.off + 1) t := by
  unfold lastN
  cases t with
  | nil => rfl
  | cons y t => rw [List.getLast?_cons_cons, List.getLast?_eq_some_getLast (by simp)]
theorem stair_append (below : Int) : ∀ (a b : List Rc) (f : Int), stairB below f (a ++ b) = (stairB below f a && stairB below (lastN f a) b) := by
  intro a
  induction a with
  | nil => intro b f; simp [stairB, lastN]
  | cons r t ih =>
    intro b f
    rw [List.cons_append]
    show (_ && stairB below (r.off + 1) (t ++ b)) = ((_ && stairB below (r.off + 1) t) && _)
    rw [ih b (r.off + 1), lastN_cons, Bool.and_assoc]
theorem lastN_append (f : Int) : ∀ (a b : List Rc), lastN f (a ++ b) = lastN (lastN f a) b := by
  intro a
  induction a generalizing f with
  | nil => intro b; rfl
  | cons r t ih => intro b; rw [List.cons_append, lastN_cons, lastN_cons, ih]
theorem check_parts {f below : Int} {a b : List Rc} (h : checkP f below (a ++ b) = 0) : checkP f below a = 0 ∧ checkP (lastN f a) below b = 0 := by
  unfold checkP at h ⊢
  by_cases e : (a ++ b).all Rc.may = true
  · rw [if_pos e] at h
    rw [List.all_append, Bool.and_eq_true] at e
    by_cases e2 : stairB below f (a ++ b) = true
    · rw [stair_append, Bool.and_eq_true] at e2
      rw [if_pos e.1, if_pos e.2, if_pos e2.1, if_pos e2.2]
      exact ⟨rfl, rfl⟩
    · rw [if_neg e2] at h; exact absurd h (by decide)
  · rw [if_neg e] at h; exact absurd h (by decide)
theorem check_ok {f below : Int} {l : List Rc} (h : checkP f below l = 0) : ∀ r ∈ l, r.ok := by
  apply all_may.1
  by_cases e : l.all Rc.may = true
  · exact e
  · unfold checkP at h; rw [if_neg e] at h; exact absurd h (by decide)
theorem app_ok {d : Pd} {l : List Rc} (h : checkP d.nx 1048577 l = 0) : d.app l = (0, ⟨d.st, lastN d.nx l, d.sn, d.rs ++ l⟩) := by unfold Pd.app; rw [if_pos h]
theorem app_no {d : Pd} {l : List Rc} (h : checkP d.nx 1048577 l ≠ 0) : d.app l = (checkP d.nx 1048577 l, d) := by unfold Pd.app; rw [if_neg h]
/-- Two partitions' blocks are apart. -/
def SepP (pa : Nat) (va : Option Addr) (pb : Nat) (vb : Option Addr) : Prop := ∀ q, mineP pa va q → ¬ mineP pb vb q
theorem SepP.flip {pa pb : Nat} {va vb : Option Addr} (h : SepP pa va pb vb) : SepP pb vb pa va := fun q h1 h2 => h q h2 h1
theorem PS.beside {w0 W W' : World} {pb pa : Nat} {d : Pd} {va vb : Option Addr} {c : Nat} (h : PS w0 pb d vb c W) (hk : Kept (mineP pa va) W W') (hs : SepP pb vb pa va) (hsi : Below w0.heap.size w0 W') : PS w0 pb d vb c W' :=
  ⟨⟨h.at_.obj.of_kept hk (hs pb (.inl rfl)), h.at_.row.of_kept hk (fun q hq => hs q (.inr hq))⟩, h.lo, h.own, hsi⟩
theorem SepP.step {w0 W : World} {pb pa : Nat} {d : Pd} {va va' vb : Option Addr} {c : Nat} (h : SepP pa va pb vb) (hb : PS w0 pb d vb c W) (hq : ∀ q, ownB va' q → ownB va q ∨ W.heap.size ≤ q) : SepP pa va' pb vb := fun q h1 h2 => by
  rcases h1 with rfl | h1
  · exact h _ (.inl rfl) h2
  · rcases hq q h1 with e | e
    · exact h q (.inr e) h2
    · have := hb.lt q h2; omega
/-- Two partitions of the law's own. -/
structure PT (w0 : World) (pa : Nat) (da : Pd) (va : Option Addr) (ca pb : Nat) (db : Pd) (vb : Option Addr) (cb : Nat) (W : World) : Prop where
  a : PS w0 pa da va ca W
  b : PS w0 pb db vb cb W
  sep : SepP pa va pb vb
section
variable {w0 W W' : World} {pa pb ca cb : Nat} {da db d' : Pd} {va vb : Option Addr}
theorem PT.flip (h : PT w0 pa da va ca pb db vb cb W) : PT w0 pb db vb cb pa da va ca W := ⟨h.b, h.a, h.sep.flip⟩
theorem PT.below (h : PT w0 pa da va ca pb db vb cb W) (hb : Below W.heap.size W W') : PT w0 pa da va ca pb db vb cb W' := ⟨h.a.below hb, h.b.below hb, h.sep⟩
theorem PT.left (h : PT w0 pa da va ca pb db vb cb W) (hl : LeftP W pa va d' W') : ∃ va' ca', PT w0 pa d' va' ca' pb db vb cb W' := by
  obtain ⟨va', ca', h1, h2, h3⟩ := h.a.left hl
  exact ⟨va', ca', h1, h.b.beside h2 h.sep.flip h1.since, h.sep.step h.b h3⟩
end
theorem far_in {w0 W : World} {pb : Nat} {d : Pd} {va vl : Option Addr} {c : Nat} {l : List Rc} (hp : PS w0 pb d va c W) (hat : RcAt w0 vl l) : l ≠ [] → ∀ q, ownB vl q → ¬ mineP pb va q := fun hne q hq hm => by
  have := hp.mine q hm
  obtain ⟨o, e⟩ := hq
  obtain ⟨r, hr⟩ : ∃ r, l[0]? = some r := ⟨_, List.getElem?_eq_getElem (List.length_pos_iff.2 hne)⟩
  obtain ⟨b, o2, e2, h2, _⟩ := hat 0 r hr
  rw [e] at e2
  cases e2
  omega
/-- Append of what came in. -/
theorem append_in {w0 : World} {vl : Option Addr} {l : List Rc} (hat : RcAt w0 vl l) (cl n : Nat) (hn : l.length = n) (hll : n ≤ 1000) (nx X : Int) (rs rs' : List Rc) (h0 : checkP nx 1048577 l = 0) (hX : lastN nx l = X) (hrs : rs ++ l = rs') (hr : rs.length ≤ 1000) (W : World) (pa : Nat) (va : Option Addr) (c : Nat) (hp : PS w0 pa ⟨0, nx, 0, rs⟩ va c W) :
    Calls Try.prog 19 #[.pointer (some ⟨pa, 0, none⟩), .slice vl n cl] W fun e w' => e = .returned (.int .i64 0) ∧ LeftP W pa va ⟨0, X, 0, rs'⟩ w' := by
  subst hn hX hrs
  have h1 := pappend_any hp.at_ vl cl l (hat.below hp.since) hll (far_in hp hat) (by simp only; omega)
  rw [app_ok (d := ⟨0, nx, 0, rs⟩) h0] at h1
  exact h1
theorem rcAt_take {W : World} {va : Option Addr} {rs : List Rc} (h : RcAt W va rs) (k : Nat) : RcAt W va (rs.take k) := fun i r hi => by
  rw [List.getElem?_take] at hi
  split at hi
  · exact h i r hi
  · cases hi
theorem rcAt_drop {W : World} {b o : Nat} {rs : List Rc} (h : RcAt W (some ⟨b, o, none⟩) rs) (k : Nat) : RcAt W (some ⟨b, o + k * 8, none⟩) (rs.drop k) := fun i r hi => by
  rw [List.getElem?_drop] at hi
  obtain ⟨b', o', e, h1, h2⟩ := h (k + i) r hi
  cases e
  refine ⟨b, o + k * 8, rfl, h1, fun j v hj => ?_⟩
  rw [show o + k * 8 + i * 8 + j = o + (k + i) * 8 + j from by omega]
  exact h2 j v hj

end Go.Proofs.Ytahljbjgenepaaa.W
