/- For the law CompactOrder: what is kept lies in order; comparisons of records, of keys. -/
import Derived.Test.YtpfnpfbimadjkaaCpG
namespace Go.Proofs.Ytpfnpfbimadjkaa.W
open Go.RowKit Go.Sort
open Go.Proofs.Ytpfnpfbimadjkaa.M Go.Proofs.Ytpfnpfbimadjkaa.D Go.Proofs.Ytpfnpfbimadjkaa.Z
set_option linter.unusedVariables false
set_option linter.unusedSimpArgs false

set_option maxRecDepth 100000 in
/-- The records up to a place. -/
theorem to_rc (va : Option Addr) (n c k : Nat) (rs : List Rc) (hk : k ≤ c) : ∃ (A : Option Addr) (C : Nat), (∀ W, (Instr.slice 22 (.slice va n c) none (some (.int .i64 (k : Int))) none).run Try.prog W = .ok (.slice A k C) W) ∧ ∀ W, RcAt W va rs → RcAt W A (rs.take k) := by
  refine ⟨if c = 0 then va else va.map (·.add 0), c, fun W => ?_, fun W h i r hi => ?_⟩
  · rw [run_slice_h (P := Try.prog) (w := W) 22 va n c Try.underlying22 .i64 (k : Int) (by omega) (by omega)]
    rw [show Try.prog.elem 22 = 32 from by kernel_rfl, Try.sizeOf32]
    simp [Result.andThen, sliced]
  · have hil := (List.getElem?_eq_some_iff.1 hi).1
    rw [List.length_take] at hil
    rw [List.getElem?_take_of_lt (by omega)] at hi
    obtain ⟨b, o, e, h1, h2⟩ := h i r hi
    rw [if_neg (by omega), e]
    exact ⟨b, o, by simp [Addr.add], h1, h2⟩
/-- Records are held against one another. -/
theorem neq_rc (x y : Rc) (hx : wfR x) (hy : wfR y) (W : World) : (x.off ≠ y.off → (binOp .neq 32 (rcV x) (rcV y)).run Try.prog W = .ok (.bool true) W) ∧ (x = y → (binOp .neq 32 (rcV x) (rcV y)).run Try.prog W = .ok (.bool false) W) := by
  obtain ⟨q, h1, h2⟩ := run_equalIn_deep 9997 3 32 key_rc W 3 3 (rcV x) (rcV y) _ _ (by kernel_rfl) (by kernel_rfl) (lits_rc x hx) (lits_rc y hy)
  have h3 : (binOp .neq 32 (rcV x) (rcV y)).run Try.prog W = .ok (.bool (!q)) W := by
    simp only [binOp]
    simp [show Op.equal 32 (rcV x) (rcV y) = Op.equalIn (9997 + 3) 32 (rcV x) (rcV y) from rfl, h1]
  refine ⟨fun hne => ?_, fun he => ?_⟩
  · have : q = false := by
      cases hq : q with
      | false => rfl
      | true =>
        have := h2.1 hq
        simp at this
        exact absurd this.1 hne
    rw [h3, this]; rfl
  · have : q = true := h2.2 (by rw [he])
    rw [h3, this]; rfl
/-- Do offsets rise? -/
def upR (rs : List Rc) : Prop := rs.Pairwise fun a b => a.off < b.off
theorem up_of {rs : List Rc} (h : ∀ (i : Nat) (x y : Rc), rs[i]? = some x → rs[i + 1]? = some y → x.off < y.off) : upR rs := by
  induction rs with
  | nil => exact List.Pairwise.nil
  | cons r t ih =>
    have ht : upR t := ih (fun i x y h1 h2 => h (i + 1) x y (by simpa using h1) (by simpa using h2))
    refine List.pairwise_cons.2 ⟨fun y hy => ?_, ht⟩
    cases t with
    | nil => simp at hy
    | cons s t =>
      have h0 := h 0 r s rfl rfl
      rcases List.mem_cons.1 hy with rfl | hy
      · exact h0
      · exact Int.lt_trans h0 ((List.pairwise_cons.1 ht).1 y hy)
theorem up_at {rs : List Rc} (h : upR rs) {i j : Nat} {x y : Rc} (hi : rs[i]? = some x) (hj : rs[j]? = some y) : (i < j → x.off < y.off) ∧ (x.off < y.off → i < j) ∧ (x.off = y.off → i = j) := by
  have key : ∀ {a b : Nat} {u v : Rc}, rs[a]? = some u → rs[b]? = some v → a < b → u.off < v.off := fun {a b u v} ha hb hab => by
    obtain ⟨la, ea⟩ := List.getElem?_eq_some_iff.1 ha
    obtain ⟨lb, eb⟩ := List.getElem?_eq_some_iff.1 hb
    have := List.pairwise_iff_getElem.1 h a b la lb hab
    rwa [ea, eb] at this
  refine ⟨key hi hj, fun hlt => ?_, fun he => ?_⟩
  · rcases Nat.lt_trichotomy i j with h1 | h1 | h1
    · exact h1
    · subst h1; rw [hi] at hj; cases hj; omega
    · have := key hj hi h1; omega
  · rcases Nat.lt_trichotomy i j with h1 | h1 | h1
    · have := key hi hj h1; omega
    · exact h1
    · have := key hj hi h1; omega
/-- Where the next one that is kept stands. -/
theorem next_kept {dead : Int} {rs : List Rc} (h : upR rs) {i at_ : Nat} {r : Rc} (hr : (keepF dead rs)[i]? = some r) (h0 : i = 0 → at_ = 0) (h1 : ∀ j x, i = j + 1 → (keepF dead rs)[j]? = some x → rs[at_]? = some x) : ∃ p, rs[p]? = some r ∧ at_ ≤ p := by
  obtain ⟨p, hp⟩ := List.mem_iff_getElem?.1 ((keepF_sub dead rs).subset (List.mem_of_getElem? hr))
  refine ⟨p, hp, ?_⟩
  rcases i with _ | j
  · rw [h0 rfl]; omega
  · have hj : j < (keepF dead rs).length := by have := (List.getElem?_eq_some_iff.1 hr).1; omega
    obtain ⟨x, hx⟩ : ∃ x, (keepF dead rs)[j]? = some x := ⟨_, List.getElem?_eq_getElem hj⟩
    have hup : upR (keepF dead rs) := h.sublist (keepF_sub dead rs)
    have h2 := (up_at hup hx hr).1 (by omega)
    have h3 := (up_at h (h1 j x rfl hx) hp).2.1 h2
    omega
/-- No two that are kept have one key. -/
theorem kept_keys (dead : Int) : ∀ l, (keepF dead l).Pairwise fun a b => kb a ≠ [] → kb b ≠ kb a
  | [] => List.Pairwise.nil
  | r :: t => by
    unfold keepF
    split
    · rename_i h
      refine List.pairwise_cons.2 ⟨fun y hy hk e => ?_, kept_keys dead t⟩
      unfold keptB at h
      rw [Bool.or_eq_true, Bool.and_eq_true] at h
      rcases h with h | ⟨h, _⟩
      · exact hk (of_decide_eq_true h)
      · have h1 : laterL (kb r) t = false := by simpa using h
        rw [laterL_mem.2 ⟨y, (keepF_sub dead t).subset hy, e⟩] at h1
        cases h1
    · exact kept_keys dead t
theorem kept_at {dead : Int} {l : List Rc} {i j : Nat} {x y : Rc} (hi : (keepF dead l)[i]? = some x) (hj : (keepF dead l)[j]? = some y) (hij : i < j) (hk : kb y ≠ []) : kb x ≠ kb y := by
  obtain ⟨la, ea⟩ := List.getElem?_eq_some_iff.1 hi
  obtain ⟨lb, eb⟩ := List.getElem?_eq_some_iff.1 hj
  have h := List.pairwise_iff_getElem.1 (kept_keys dead l) i j la lb hij
  rw [ea, eb] at h
  exact fun e => h (by rw [e]; exact hk) e.symm
theorem view_at {l : List Rc} {i : Nat} {x y : Rc} (hi : (viewF l)[i]? = some x) (hj : (viewF l)[i + 1]? = some y) : kb x < kb y := by
  obtain ⟨la, ea⟩ := List.getElem?_eq_some_iff.1 hi
  obtain ⟨lb, eb⟩ := List.getElem?_eq_some_iff.1 hj
  have h := List.pairwise_iff_getElem.1 (viewF_by l) i (i + 1) la lb (by omega)
  rwa [ea, eb] at h
theorem leqKey {x y : Rc} (h : kb x < kb y) (W : World) : (binOp .leq 9 (.string y.key) (.string x.key)).run Try.prog W = .ok (.bool false) W := by
  obtain ⟨h1, h2⟩ := less_yes h
  simp only [binOp, Op.stringOp]
  simp [h1, h2]
end Go.Proofs.Ytpfnpfbimadjkaa.W
