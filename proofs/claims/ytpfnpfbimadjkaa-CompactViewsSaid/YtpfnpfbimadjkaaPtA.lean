/- Package part: rows of records of its own; check, own, the library's Clone. -/
import Derived.Test.YtpfnpfbimadjkaaRcQ
import Derived.Test.YtpfnpfbimadjkaaClone
import Derived.Deep.AppendLies
import Derived.Deep.AppendSrc
import Derived.Deep.Upon
import Derived.Deep.Cut
import Derived.Deep.RegionHeld3
namespace Go.Proofs.Ytpfnpfbimadjkaa.W
open Go.RowKit Go.Sort
open Go.Proofs.Ytpfnpfbimadjkaa.M Go.Proofs.Ytpfnpfbimadjkaa.D Go.Proofs.Ytpfnpfbimadjkaa.Z
set_option linter.unusedVariables false
set_option linter.unusedSimpArgs false

/-- A row of records of the program's own, wherever in its block it begins. -/
def RowO (W : World) (va : Option Addr) (c : Nat) (rs : List Rc) : Prop :=
  (va = none ∧ c = 0 ∧ rs = []) ∨ ∃ g o cur, va = some ⟨g, o, none⟩ ∧ Whole W g 32 cur ∧ o + c * 8 ≤ cur.length ∧ rs.length ≤ c ∧ c ≤ maxLen ∧ (cur.drop o).take (rs.length * 8) = rcRows rs
/-- The block in which a row lies. -/
def ownB (va : Option Addr) (q : Nat) : Prop := ∃ o, va = some ⟨q, o, none⟩
theorem rcRows_take (rs : List Rc) : ∀ k, (rcRows rs).take (k * 8) = rcRows (rs.take k) := by
  induction rs with
  | nil => intro k; simp [rcRows]
  | cons r t ih =>
    intro k
    cases k with
    | zero => simp [rcRows]
    | succ k =>
      show (rcL r ++ rcRows t).take ((k + 1) * 8) = rcL r ++ rcRows (t.take k)
      rw [List.take_append, ← ih k, List.take_of_length_le (by simp; omega), show (k + 1) * 8 - (rcL r).length = k * 8 from by simp; omega]
theorem rcRows_drop (rs : List Rc) : ∀ k, (rcRows rs).drop (k * 8) = rcRows (rs.drop k) := by
  induction rs with
  | nil => intro k; simp [rcRows]
  | cons r t ih =>
    intro k
    cases k with
    | zero => simp [rcRows]
    | succ k =>
      show (rcL r ++ rcRows t).drop ((k + 1) * 8) = rcRows (t.drop k)
      rw [List.drop_append, ← ih k, List.drop_eq_nil_of_le (by simp; omega), List.nil_append, show (k + 1) * 8 - (rcL r).length = k * 8 from by simp; omega]
section
variable {W W' : World} {va : Option Addr} {c : Nat} {rs : List Rc}
theorem RowO.at_ (h : RowO W va c rs) : RcAt W va rs := fun i r hi => by
  rcases h with ⟨_, _, rfl⟩ | ⟨g, o, cur, rfl, hW, h1, h2, h3, h4⟩
  · simp at hi
  · refine ⟨g, o, rfl, hW.lt, fun j v hj => ?_⟩
    have h5 := rcRows_at rs i r hi j v hj
    rw [← h4, List.getElem?_take] at h5
    split at h5
    · rw [List.getElem?_drop] at h5
      rw [hW.cell, Nat.add_assoc]
      exact h5
    · cases h5
theorem RowO.below (h : RowO W va c rs) (hb : Below W.heap.size W W') : RowO W' va c rs := by
  rcases h with h | ⟨g, o, cur, e, hW, h1⟩
  · exact .inl h
  · exact .inr ⟨g, o, cur, e, hW.below hb hW.lt, h1⟩
theorem RowO.of_kept {own : Nat → Prop} (h : RowO W va c rs) (hk : Kept own W W') (ho : ∀ q, ownB va q → ¬ own q) : RowO W' va c rs := by
  rcases h with h | ⟨g, o, cur, e, hW, h1⟩
  · exact .inl h
  · exact .inr ⟨g, o, cur, e, hW.of_kept hk (ho g ⟨o, e⟩), h1⟩
theorem RowO.lt (h : RowO W va c rs) {q : Nat} (hq : ownB va q) : q < W.heap.size := by
  obtain ⟨o', e'⟩ := hq
  rcases h with ⟨rfl, _⟩ | ⟨g, o, cur, rfl, hW, _⟩
  · cases e'
  · cases e'; exact hW.lt
theorem RowO.cap (h : RowO W va c rs) : rs.length ≤ c ∧ c ≤ maxLen := by
  rcases h with ⟨_, rfl, rfl⟩ | ⟨g, o, cur, e, hW, h1, h2, h3, _⟩
  · exact ⟨Nat.le_refl _, Nat.zero_le _⟩
  · exact ⟨h2, h3⟩
theorem RowO.of_own {B n : Nat} (h : W.ownsRow B 32 8 (.slice va n c) n (rcRows rs)) (hn : rs.length = n) : RowO W va c rs ∧ ∀ q, ownB va q → B ≤ q := by
  rcases h.2 with ⟨hv, h0⟩ | ⟨g, cap, cur, hv, hB, hg, h1, h2, h3, h4⟩
  · injection hv with e1 e2 e3
    subst e1 e3
    refine ⟨.inl ⟨rfl, rfl, List.eq_nil_of_length_eq_zero (by omega)⟩, fun q hq => ?_⟩
    obtain ⟨o, e⟩ := hq
    cases e
  · injection hv with e1 e2 e3
    subst e1 e3
    refine ⟨.inr ⟨g, 0, cur.toList, rfl, by simpa [Whole] using hg, by rw [Array.length_toList, h3]; omega, by omega, h2, by rw [List.drop_zero, hn]; exact h4⟩, fun q hq => ?_⟩
    obtain ⟨o, e⟩ := hq
    cases e
    exact hB
end
theorem infoRp : (Try.prog.info? 32).map (fun i => (i.zero, i.size, i.bytes)) = some (some (.agg #[.int .i64 0, .int .i64 0, .string ⟨#[]⟩, .string ⟨#[]⟩, .bool false, .int .i64 0, .int .i64 0, .int .i64 0]), 8, 80) := by kernel_rfl
theorem rcRows_one (rs : List Rc) : ∀ u ∈ rcRows rs, u.oneCell' = true := fun u hu => by
  obtain ⟨r, _, hr⟩ := List.mem_flatMap.1 hu
  simp only [rcL, List.mem_cons, List.not_mem_nil, or_false] at hr
  rcases hr with rfl | rfl | rfl | rfl | rfl | rfl | rfl | rfl <;> rfl
theorem rcAt_cells {W : World} {b o : Nat} {rs : List Rc} (h : RcAt W (some ⟨b, o, none⟩) rs) : ∀ j u, (rcRows rs)[j]? = some u → W.cell? ((⟨b, o, none⟩ : Addr).add j) = some u := fun j u hu => by
  have hjl := (List.getElem?_eq_some_iff.1 hu).1
  rw [rcRows_len] at hjl
  have hi : j / 8 < rs.length := by omega
  obtain ⟨r, hr⟩ : ∃ r, rs[j / 8]? = some r := ⟨_, List.getElem?_eq_getElem hi⟩
  obtain ⟨b', o', e, _, h3⟩ := h _ r hr
  cases e
  have hm : j % 8 < (rcL r).length := by simp; omega
  have h5 := rcRows_at rs (j / 8) r hr (j % 8) _ (List.getElem?_eq_getElem hm)
  rw [show j / 8 * 8 + j % 8 = j from by omega, hu] at h5
  have h6 := h3 (j % 8) u (by rw [List.getElem?_eq_getElem hm]; exact h5.symm)
  rw [Addr.add_mid, show o + j = o + j / 8 * 8 + j % 8 from by omega]
  exact h6
/-- Do records stand from an offset on, rising, below another one? -/
def stairB (below : Int) : Int → List Rc → Bool
  | _, [] => true
  | f, r :: t => decide (f ≤ r.off ∧ r.off < below) && stairB below (r.off + 1) t
theorem stairB_at {below f : Int} {rs : List Rc} {m : Nat} {r : Rc} (h : rs[m]? = some r) : stairB below f (rs.drop m) = (decide (f ≤ r.off ∧ r.off < below) && stairB below (r.off + 1) (rs.drop (m + 1))) := by
  obtain ⟨hm, rfl⟩ := List.getElem?_eq_some_iff.1 h
  rw [List.drop_eq_getElem_cons hm]
  rfl
/-- Why records can't stand there (19.1, 19.2). -/
def checkP (from_ below : Int) (rs : List Rc) : Int := if rs.all Rc.may then (if stairB below from_ rs then 0 else 34) else 1
theorem all_may {rs : List Rc} : rs.all Rc.may = true ↔ ∀ r ∈ rs, r.ok := by
  rw [List.all_eq_true]
  exact ⟨fun h r hr => of_decide_eq_true (h r hr), fun h r hr => decide_eq_true (h r hr)⟩

end Go.Proofs.Ytpfnpfbimadjkaa.W
