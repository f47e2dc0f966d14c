/- Pairs; package batch's may, all: which pairs may be. -/
import Derived.Test.YtgogackkeodciaaRcQ
import Derived.Laws.EntriesVeiled
import Derived.Deep.Cut
namespace Go.Proofs.Ytgogackkeodciaa.W
open Go.RowKit Go.Sort
open Go.Proofs.Ytgogackkeodciaa.M Go.Proofs.Ytgogackkeodciaa.D Go.Proofs.Ytgogackkeodciaa.Z
set_option linter.unusedVariables false
set_option linter.unusedSimpArgs false

/-- A pair. -/
structure Pr where
  key : ByteArray
  val : ByteArray
  gone : Bool
/-- What may be (17.1). -/
def Pr.ok (p : Pr) : Prop := p.key.size ≤ 32 ∧ p.val.size ≤ 200 ∧ (p.gone = true → 0 < p.key.size ∧ p.val.size = 0)
instance instDecPrOk (p : Pr) : Decidable p.ok := by unfold Pr.ok; infer_instance
def Pr.may (p : Pr) : Bool := decide p.ok
abbrev prL (p : Pr) : List Value := [.string p.key, .string p.val, .bool p.gone]
/-- Pairs as cells, one behind the other. -/
def prRows (ps : List Pr) : List Value := ps.flatMap prL
theorem prRows_at (ps : List Pr) : ∀ i p, ps[i]? = some p → ∀ j v, (prL p)[j]? = some v → (prRows ps)[i * 3 + j]? = some v := by
  induction ps with
  | nil => intro i p h; cases h
  | cons x ps ih =>
    intro i p h j v hj
    have hj3 : j < 3 := (List.getElem?_eq_some_iff.1 hj).1
    cases i with
    | zero =>
      obtain rfl : x = p := by simpa using h
      show (prL x ++ prRows ps)[0 * 3 + j]? = some v
      rw [Nat.zero_mul, Nat.zero_add, List.getElem?_append_left (by simpa using hj3)]
      exact hj
    | succ i =>
      show (prL x ++ prRows ps)[(i + 1) * 3 + j]? = some v
      have e : (i + 1) * 3 + j = i * 3 + j + 3 := by omega
      rw [e, List.getElem?_append_right (by simp), show i * 3 + j + 3 - (prL x).length = i * 3 + j from by simp]
      exact ih i p (by simpa using h) j v hj
theorem prRows_len (ps : List Pr) : (prRows ps).length = ps.length * 3 := by
  induction ps with
  | nil => rfl
  | cons x ps ih =>
    show (prL x ++ prRows ps).length = _
    rw [List.length_append, ih, List.length_cons]
    simp
    omega
theorem prRows_append (a b : List Pr) : prRows (a ++ b) = prRows a ++ prRows b := by unfold prRows; rw [List.flatMap_append]
/-- Pairs that lie in memory. -/
def PrAt (w : World) (va : Option Addr) (ps : List Pr) : Prop := ∀ i p, ps[i]? = some p → ∃ b o, va = some ⟨b, o, none⟩ ∧ b < w.heap.size ∧ ∀ j v, (prL p)[j]? = some v → w.cell? ⟨b, o + i * 3 + j, none⟩ = some v
theorem PrAt.below {w w' : World} {va : Option Addr} {ps : List Pr} (h : PrAt w va ps) (hb : Below w.heap.size w w') : PrAt w' va ps := fun i p hi => by
  obtain ⟨b, o, h1, h2, h3⟩ := h i p hi
  exact ⟨b, o, h1, Nat.lt_of_lt_of_le h2 hb.size, fun j v hj => (World.cell?_of_block (hb.block b h2)).trans (h3 j v hj)⟩
theorem prAt_own {w : World} {va : Option Addr} {n c B : Nat} {ps : List Pr} (h : w.ownsRow B 62 3 (.slice va n c) n (prRows ps)) (hn : ps.length = n) : PrAt w va ps := fun i p hi => by
  rcases h.2 with ⟨hv, h0⟩ | ⟨g, cap, cur, hv, hB, hg, h1, h2, h3, h4⟩
  · have := (List.getElem?_eq_some_iff.1 hi).1; omega
  · injection hv with e1 e2 e3
    have hil := (List.getElem?_eq_some_iff.1 hi).1
    refine ⟨g, 0, e1, ?_, fun j v hj => ?_⟩
    · exact (Array.getElem?_eq_some_iff.1 hg).1
    · have h5 := prRows_at ps i p hi j v hj
      rw [← h4, List.getElem?_take] at h5
      split at h5
      · rw [Nat.zero_add]
        exact (cell_of_row w g (i * 3 + j) _ _ _ hg).trans (by rw [← Array.getElem?_toList]; exact h5)
      · cases h5
theorem PrAt.get {w : World} {va : Option Addr} {ps : List Pr} (h : PrAt w va ps) {i : Nat} {p : Pr} (hi : ps[i]? = some p) : ∃ b o, va = some ⟨b, o, none⟩ ∧ w.cell? ⟨b, o + i * 3, none⟩ = some (.string p.key) ∧ w.cell? ⟨b, o + i * 3 + 1, none⟩ = some (.string p.val) ∧ w.cell? ⟨b, o + i * 3 + 2, none⟩ = some (.bool p.gone) := by
  obtain ⟨b, o, h1, _, h3⟩ := h i p hi
  exact ⟨b, o, h1, h3 0 _ rfl, h3 1 _ rfl, h3 2 _ rfl⟩
theorem prCells {W : World} {b : Nat} {t : TypeId} {k v : ByteArray} {g : Bool} (h : Whole W b t [.string k, .string v, .bool g]) : W.cell? ⟨b, 0, none⟩ = some (.string k) ∧ W.cell? ⟨b, 1, none⟩ = some (.string v) ∧ W.cell? ⟨b, 2, none⟩ = some (.bool g) := ⟨h.cell 0, h.cell 1, h.cell 2⟩

set_option maxRecDepth 100000 in
set_option maxHeartbeats 4000000 in
theorem pmay_any (k v : ByteArray) (g : Bool) (w : World) :
    Calls Try.prog 112 #[.agg #[.string k, .string v, .bool g]] w fun e w' => e = .returned (.bool (Pr.mk k v g).may) ∧ Below w.heap.size w w' := by
  have hB := Lib.hid ((Below.refl w.heap.size w).alloc (Nat.le_refl _) (.cells #[.string k, .string v, .bool g] 62))
  obtain ⟨B, hm⟩ : ∃ B, Hid ((Pr.mk k v g).may = B) := ⟨_, Lib.hid rfl⟩
  have bad : ¬ (Pr.mk k v g).ok → B = false := fun h => by rw [← hm.out]; exact decide_eq_false h
  have fine : (Pr.mk k v g).ok → B = true := fun h => by rw [← hm.out]; exact decide_eq_true h
  rw [hm.out]
  replace bad := Lib.hid bad
  replace fine := Lib.hid fine
  clear hm
  go_enter Try.func112, Try.ntmps112
  by_cases h3 : ¬ (k.size ≤ 32)
  · obtain rfl := bad.out (fun h => h3 h.1)
    have h4 : (32 : Int) < (k.size : Int) := by omega
    clear h3
    go_wp2_with fail
    go_ret
    exact ⟨rfl, hB.out⟩
  replace h3 := Classical.not_not.1 h3
  have h4 : (k.size : Int) ≤ 32 := by omega
  by_cases h5 : ¬ (v.size ≤ 200)
  · obtain rfl := bad.out (fun h => h5 h.2.1)
    have h6 : (200 : Int) < (v.size : Int) := by omega
    clear h5
    go_wp2_with fail
    go_ret
    exact ⟨rfl, hB.out⟩
  replace h5 := Classical.not_not.1 h5
  have h6 : (v.size : Int) ≤ 200 := by omega
  cases g with
  | false =>
    obtain rfl := fine.out ⟨h3, h5, fun e => by cases e⟩
    go_wp2_with fail
    go_ret
    exact ⟨rfl, hB.out⟩
  | true =>
    by_cases h11 : k.size = 0
    · obtain rfl := bad.out (fun h => by have := (h.2.2 rfl).1; simp only at this; omega)
      have h12 := (toList_nil k).2 h11
      go_wp2_with fail
      go_ret
      exact ⟨rfl, hB.out⟩
    · have h12 : ¬ k.toList = [] := fun h => h11 ((toList_nil k).1 h)
      by_cases h13 : v.size = 0
      · obtain rfl := fine.out ⟨h3, h5, fun e => ⟨by simp only; omega, h13⟩⟩
        have h14 := (toList_nil v).2 h13
        go_wp2_with fail
        go_ret
        exact ⟨by simp [h12, h14], hB.out⟩
      · obtain rfl := bad.out (fun h => h13 (h.2.2 rfl).2)
        have h14 : ¬ v.toList = [] := fun h => h13 ((toList_nil v).1 h)
        go_wp2_with fail
        go_ret
        exact ⟨by simp [h12, h14], hB.out⟩

/-- The first one for which something does not hold. -/
theorem first_bad_of {α : Type} (P : α → Bool) (l : List α) (h : ¬ ∀ r ∈ l, P r = true) : ∃ (k : Nat) (r : α), l[k]? = some r ∧ P r = false ∧ ∀ (j : Nat) (s : α), j < k → l[j]? = some s → P s = true := by
  induction l with
  | nil => exact absurd (by simp) h
  | cons x rs ih =>
    cases hx : P x with
    | true =>
      obtain ⟨k, r, h1, h2, h3⟩ := ih (fun e => h (fun r hr => by rcases List.mem_cons.1 hr with rfl | hr; exact hx; exact e r hr))
      refine ⟨k + 1, r, by simpa using h1, h2, fun j s hj hs => ?_⟩
      cases j with
      | zero => obtain rfl : x = s := by simpa using hs
                exact hx
      | succ j => exact h3 j s (by omega) (by simpa using hs)
    | false => exact ⟨0, x, rfl, hx, fun j s hj => by omega⟩

section
variable (P : Pr → Bool) (gf b : Nat) (eg : ∀ args w, (callFunc gf args).run Try.prog w = .ok (.enter gf args) w)
  (hf : ∀ (p : Pr) W, Calls Try.prog gf #[.agg #[.string p.key, .string p.val, .bool p.gone]] W fun e w' => e = .returned (.bool (P p)) ∧ Below W.heap.size W w')
include eg hf
set_option maxRecDepth 100000 in
theorem pnot_any (p : Pr) (w : World) (hc : w.cell? ⟨b, 0, none⟩ = some (.func (.func gf) #[] #[])) :
    Calls Try.prog 129 #[.agg #[.string p.key, .string p.val, .bool p.gone], .pointer (some ⟨b, 0, none⟩)] w fun e w' => e = .returned (.bool (!P p)) ∧ Below w.heap.size w w' := by
  have hm := Lib.hid (fun W => hf p W)
  obtain ⟨m, hme⟩ : ∃ m, Hid (P p = m) := ⟨_, Lib.hid rfl⟩
  rw [hme.out] at hm ⊢
  have hb0 := grewAlloc (Below.refl w.heap.size w) (.cells #[.string p.key, .string p.val, .bool p.gone] 62)
  have hc1 := keepZ hb0 hc
  replace hb0 := Lib.hid hb0
  clear hf
  go_enter Try.func129, Try.ntmps129
  go_wp2_with fail
  refine (hm.out _).mono ?_
  rintro e w1 ⟨rfl, hb⟩
  have hB1 := Lib.hid (grew hb0.out hb)
  clear hb0 hb hc1
  go_wp2_with fail
  go_ret
  exact ⟨rfl, hB1.out⟩
end
end Go.Proofs.Ytgogackkeodciaa.W
