/- Layer 19's law: who fetches again and again. -/
import Derived.Test.YtahljbjgenepaaaPtZ
namespace Go.Proofs.Ytahljbjgenepaaa.W
open Go.RowKit Go.Sort
open Go.Proofs.Ytahljbjgenepaaa.M Go.Proofs.Ytahljbjgenepaaa.D Go.Proofs.Ytahljbjgenepaaa.Z
set_option linter.unusedVariables false
set_option linter.unusedSimpArgs false

theorem risL_filter (p : Rc → Bool) : ∀ {l : List Rc}, risL l → risL (l.filter p)
  | [], h => trivial
  | r :: t, h => by
    rw [List.filter_cons]
    split
    · exact ⟨fun x hx => h.1 x (List.mem_filter.1 hx).1, risL_filter p h.2⟩
    · exact risL_filter p h.2
theorem geL_past {r : Rc} {U : List Rc} : ∀ {T : List Rc}, risL (T ++ U) → T.getLast? = some r → geL (r.off + 1) (T ++ U) = U
  | [], _, h => by simp at h
  | [x], hr, h => by
    obtain rfl : x = r := by simpa using h
    unfold geL
    rw [List.singleton_append, List.filter_cons, if_neg (by simp; omega)]
    exact geL_all fun y hy => by have := hr.1 y hy; omega
  | x :: y :: t, hr, h => by
    have h2 : (y :: t).getLast? = some r := by simpa using h
    have ih := geL_past (T := y :: t) hr.2 h2
    have hx := hr.1 r (List.mem_append_left _ (List.mem_of_getLast? h2))
    unfold geL at ih ⊢
    rw [List.cons_append, List.filter_cons, if_neg (by simp; omega)]
    exact ih
theorem inL_past {a b c : Int} (hab : a ≤ b) (rs : List Rc) : inL b c rs = geL b (inL a c rs) := by
  unfold inL geL
  rw [List.filter_filter]
  apply List.filter_congr
  intro r _
  by_cases e : b ≤ r.off
  · have e2 : a ≤ r.off := by omega
    simp [e, e2]
  · simp [e]
theorem inL_len (a b : Int) (rs : List Rc) : (inL a b rs).length ≤ rs.length := List.length_filter_le _ _
/-- What remains to be told. -/
def leftN (d : Pd) (at_ : Int) : Nat := (inL at_ d.sn d.rs).length + (if at_ = d.sn then 0 else 1)
theorem leftN_le (d : Pd) (at_ : Int) : leftN d at_ ≤ d.rs.length + 1 := by
  unfold leftN
  have := inL_len at_ d.sn d.rs
  split <;> omega
/-- A fetch from where to go on. -/
theorem fetch_step {d : Pd} (hd : d.ok) {at_ most : Int} (h1 : d.st ≤ at_) (h2 : at_ ≤ d.sn) (h3 : at_ ≠ d.sn) (hm : 1 ≤ most) :
    fetchE d at_ = 0 ∧ at_ < fetchN d at_ most ∧ fetchN d at_ most ≤ d.sn ∧ ((fetchL d at_ most).length : Int) ≤ most ∧ (fetchL d at_ most).length ≤ 16 ∧
      fetchL d at_ most ++ inL (fetchN d at_ most) d.sn d.rs = inL at_ d.sn d.rs ∧ leftN d (fetchN d at_ most) < leftN d at_ := by
  have hris := hd.2.2.2.2.2
  have k1 : ¬ (at_ < d.st ∨ d.sn < at_) := by omega
  have k2 : ¬ most < 1 := by omega
  have hF : fetchL d at_ most = (inL at_ d.sn d.rs).take (min most.toNat 16) := by
    unfold fetchL seenL
    rw [if_neg k1, if_neg k2, inL_cut h2 d.rs hris]
  have hE : fetchE d at_ = 0 := by unfold fetchE; rw [if_neg k1]
  have hN : fetchN d at_ most = lastN d.sn (fetchL d at_ most) := by unfold fetchN; rw [if_neg k1, if_neg k2]
  have hlen : (fetchL d at_ most).length ≤ min most.toNat 16 := by rw [hF, List.length_take]; omega
  refine ⟨hE, ?_⟩
  have hsr : risL (inL at_ d.sn d.rs) := risL_filter _ hris
  have hmem : ∀ r ∈ inL at_ d.sn d.rs, at_ ≤ r.off ∧ r.off < d.sn := fun r hr => by
    have := (List.mem_filter.1 hr).2
    simpa using this
  by_cases hS : inL at_ d.sn d.rs = []
  · have hF0 : fetchL d at_ most = [] := by rw [hF, hS, List.take_nil]
    have hN0 : fetchN d at_ most = d.sn := by rw [hN, hF0]; rfl
    have hno : inL d.sn d.sn d.rs = [] := inL_none fun r _ => by omega
    rw [hN0, hF0, hno, hS]
    refine ⟨by omega, Int.le_refl _, by simp; omega, by simp, rfl, ?_⟩
    unfold leftN
    rw [hno, hS, if_pos rfl, if_neg h3]
    simp
  · have hpos : 0 < (inL at_ d.sn d.rs).length := List.length_pos_iff.2 hS
    have hTl : 0 < (fetchL d at_ most).length := by rw [hF, List.length_take]; omega
    obtain ⟨r, hr⟩ : ∃ r, (fetchL d at_ most).getLast? = some r := ⟨_, List.getLast?_eq_some_getLast (List.length_pos_iff.1 hTl)⟩
    have hrm : r ∈ inL at_ d.sn d.rs := by
      have := List.mem_of_getLast? hr
      rw [hF] at this
      exact List.mem_of_mem_take this
    have hro := hmem r hrm
    have hN1 : fetchN d at_ most = r.off + 1 := by rw [hN]; unfold lastN; rw [hr]
    have hsplit : fetchL d at_ most ++ (inL at_ d.sn d.rs).drop (min most.toNat 16) = inL at_ d.sn d.rs := by rw [hF]; exact List.take_append_drop _ _
    have hdrop : inL (r.off + 1) d.sn d.rs = (inL at_ d.sn d.rs).drop (min most.toNat 16) := by
      rw [inL_past (show at_ ≤ r.off + 1 by omega)]
      have := geL_past (r := r) (T := fetchL d at_ most) (U := (inL at_ d.sn d.rs).drop (min most.toNat 16)) (by rw [hsplit]; exact hsr) hr
      rw [hsplit] at this
      exact this
    rw [hN1]
    refine ⟨by omega, by omega, by omega, by omega, by rw [hdrop]; exact hsplit, ?_⟩
    unfold leftN
    rw [hdrop, if_neg h3]
    have hl := congrArg List.length hsplit
    rw [List.length_append] at hl
    split <;> omega
section
variable {W : World} {va A : Option Addr} {c c2 : Nat} {rs ns : List Rc}
/-- A row of records behind another. -/
theorem row_row (h : RowO W va c rs) (h2 : RowO W A c2 ns) (hn : rs.length + ns.length ≤ 1000000) (ty : TypeId) :
    ∃ va' c' W', (Builtin.append_ #[27, 27] ty #[.slice va rs.length c, .slice A ns.length c2]).run Try.prog W = .ok (.slice va' (rs ++ ns).length c') W' ∧
      RowO W' va' c' (rs ++ ns) ∧ Kept (ownB va) W W' ∧ ∀ q, ownB va' q → ownB va q ∨ W.heap.size ≤ q := by
  rw [List.length_append]
  rcases A with _ | ad
  · rcases h2 with ⟨_, rfl, rfl⟩ | ⟨g, o, cur, e, _⟩
    · obtain ⟨i0, hi0, hz0, hz1, hz2⟩ := info_parts infoRp
      refine ⟨va, c, W, ?_, by rw [List.append_nil]; exact h, Kept.refl _ _, fun q hq => .inl hq⟩
      have h3 := run_append_nothing (P := Try.prog) W 27 27 ty 40 i0 Try.underlying27 hi0 va rs.length c h.cap.1 (.slice none 0 0) (Src.ofNil _ Try.underlying27 0)
      exact h3
    · cases e
  · exact run_row_append h hn ad c2 (rcAt_cells2 h2.at_) ty
end
end Go.Proofs.Ytahljbjgenepaaa.W
