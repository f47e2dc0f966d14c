/- Layer 28, plain: the members by rising names, ranks, the range assignment. -/
import Derived.Lib.SlicesCompact
import Derived.Sort.Walk0
namespace Go.Proofs.Ytnekiiahgidkoaa.M
set_option linter.unusedVariables false
set_option linter.unusedSimpArgs false
open Go.Lib

abbrev Nm := List UInt8
/-- By rising names. -/
def srt (N : List Nm) : List Nm := N.mergeSort fun x y => decide (x ≤ y)
theorem srt_perm (N : List Nm) : (srt N).Perm N := List.mergeSort_perm _ _
theorem srt_len (N : List Nm) : (srt N).length = N.length := (srt_perm N).length_eq
theorem srt_mem {N : List Nm} {x : Nm} : x ∈ srt N ↔ x ∈ N := (srt_perm N).mem_iff
theorem srt_le (N : List Nm) : (srt N).Pairwise (· ≤ ·) := by
  have h := List.pairwise_mergeSort (le := fun x y : Nm => decide (x ≤ y)) (fun a b c h1 h2 => by simp only [decide_eq_true_eq] at h1 h2 ⊢; exact List.le_trans h1 h2) (fun a b => by simp only [Bool.or_eq_true, decide_eq_true_eq]; exact List.le_total a b) N
  exact h.imp (fun h => of_decide_eq_true h)
theorem srt_nodup {N : List Nm} (h : N.Nodup) : (srt N).Nodup := (srt_perm N).nodup_iff.2 h
theorem nm_lt {a b : Nm} (h : a ≤ b) (hn : a ≠ b) : a < b := by
  rcases Classical.em (a < b) with h1 | h1
  · exact h1
  · exact absurd (List.le_antisymm h (List.not_lt.1 h1)) hn
theorem srt_lt {N : List Nm} (h : N.Nodup) : (srt N).Pairwise (· < ·) := by
  have h1 := srt_le N
  have h2 : (srt N).Pairwise (· ≠ ·) := srt_nodup h
  exact (h1.and h2).imp (fun ⟨a, b⟩ => nm_lt a b)
theorem srt_same {N M : List Nm} (h : N.Perm M) : srt N = srt M :=
  List.Perm.eq_of_pairwise (le := fun a b : Nm => a ≤ b) (fun a b _ _ h1 h2 => List.le_antisymm h1 h2) (srt_le N) (srt_le M) (((srt_perm N).trans h).trans (srt_perm M).symm)

/-- How many come ahead. -/
def ranK (N : List Nm) (m : Nm) : Nat := N.countP fun x => decide (x < m)
theorem ranK_perm {N M : List Nm} (h : N.Perm M) (m : Nm) : ranK N m = ranK M m := h.countP_eq _
theorem ranK_nil (m : Nm) : ranK [] m = 0 := rfl
theorem ranK_step (N : List Nm) (x m : Nm) : ranK (N ++ [x]) m = ranK N m + if x < m then 1 else 0 := by
  unfold ranK
  rw [List.countP_append, List.countP_singleton]
  by_cases h : x < m <;> simp [h]
theorem ranK_le (N : List Nm) (m : Nm) : ranK N m ≤ N.length := List.countP_le_length
theorem count_lt : ∀ {S : List Nm}, S.Pairwise (· < ·) → ∀ {i : Nat} {m : Nm}, S[i]? = some m → ranK S m = i
  | [], _, i, m, h => by simp at h
  | x :: S, hp, 0, m, h => by
    obtain rfl : x = m := by simpa using h
    unfold ranK
    rw [List.countP_eq_zero]
    intro y hy
    have : ¬ y < x := by
      rcases List.mem_cons.1 hy with rfl | hy
      · exact List.lt_irrefl y
      · exact fun c => List.lt_irrefl y (List.lt_trans c (List.rel_of_pairwise_cons hp hy))
    simpa using this
  | x :: S, hp, i + 1, m, h => by
    have h2 : S[i]? = some m := by simpa using h
    have hm : m ∈ S := List.mem_of_getElem? h2
    have hx : x < m := List.rel_of_pairwise_cons hp hm
    have := count_lt (List.Pairwise.of_cons hp) h2
    unfold ranK at this ⊢
    rw [List.countP_cons, this]; simp [hx]
theorem ranK_srt {N : List Nm} (h : N.Nodup) {i : Nat} {m : Nm} (hi : (srt N)[i]? = some m) : ranK N m = i := by
  rw [← ranK_perm (srt_perm N) m]; exact count_lt (srt_lt h) hi
theorem srt_rank {N : List Nm} (h : N.Nodup) {m : Nm} (hm : m ∈ N) : (srt N)[ranK N m]? = some m := by
  obtain ⟨i, hi⟩ := List.getElem?_of_mem (srt_mem.2 hm)
  rw [ranK_srt h hi]; exact hi
theorem ranK_lt {N : List Nm} (h : N.Nodup) {m : Nm} (hm : m ∈ N) : ranK N m < N.length := by
  have := (List.getElem?_eq_some_iff.1 (srt_rank h hm)).1
  rwa [srt_len] at this
theorem ranK_inj {N : List Nm} (h : N.Nodup) {a b : Nm} (ha : a ∈ N) (hb : b ∈ N) (e : ranK N a = ranK N b) : a = b := by
  have h1 := srt_rank h ha
  rw [e, srt_rank h hb] at h1
  exact (Option.some.inj h1).symm

/-! ### The range assignment -/
/-- How many partitions of p the i-th of n members has, and from which on. -/
def shr (p n i : Nat) : Nat := p / n + if i < p % n then 1 else 0
def frm (p n k : Nat) : Nat := k * (p / n) + min k (p % n)
def iv (p n i : Nat) : List Nat := List.range' (frm p n i) (shr p n i)
theorem frm_zero (p n : Nat) : frm p n 0 = 0 := by simp [frm]
theorem frm_succ (p n k : Nat) : frm p n (k + 1) = frm p n k + shr p n k := by
  unfold frm shr
  rw [Nat.succ_mul]
  split <;> omega
theorem frm_all {p n : Nat} (h : 0 < n) : frm p n n = p := by
  unfold frm
  have h1 := Nat.mod_lt p h
  rw [Nat.min_eq_right (Nat.le_of_lt h1)]
  exact Nat.div_add_mod p n
theorem frm_mono (p n : Nat) {i j : Nat} (h : i ≤ j) : frm p n i ≤ frm p n j := by
  induction h with
  | refl => exact Nat.le_refl _
  | step _ ih => exact Nat.le_trans ih (by rw [frm_succ]; omega)
theorem iv_len (p n i : Nat) : (iv p n i).length = shr p n i := by simp [iv]
theorem iv_get {p n i j : Nat} (h : j < shr p n i) : (iv p n i)[j]? = some (frm p n i + j) := by
  unfold iv; rw [List.getElem?_range' h]; simp
theorem iv_mem {p n i q : Nat} : q ∈ iv p n i ↔ frm p n i ≤ q ∧ q < frm p n (i + 1) := by
  unfold iv; rw [List.mem_range'_1, frm_succ]
theorem iv_lt {p n i q : Nat} (h : i < n) (hq : q ∈ iv p n i) : q < p := by
  have h1 := (iv_mem.1 hq).2
  have h2 := frm_mono p n (i := i + 1) (j := n) h
  rw [frm_all (by omega)] at h2
  omega
theorem shr_le {p n i : Nat} (h : i < n) : shr p n i ≤ p := by
  have h2 := frm_mono p n (i := i + 1) (j := n) h
  rw [frm_all (by omega), frm_succ] at h2
  omega
theorem iv_apart {p n i j q : Nat} (hi : q ∈ iv p n i) (hj : q ∈ iv p n j) : i = j := by
  rw [iv_mem] at hi hj
  rcases Nat.lt_trichotomy i j with h | h | h
  · have := frm_mono p n (i := i + 1) (j := j) h; omega
  · exact h
  · have := frm_mono p n (i := j + 1) (j := i) h; omega
theorem iv_some {p n q : Nat} (hn : 0 < n) (hq : q < p) : ∃ i, i < n ∧ q ∈ iv p n i := by
  have h : ∀ k, q < frm p n k → ∃ i, i < k ∧ q ∈ iv p n i := by
    intro k
    induction k with
    | zero => intro h; rw [frm_zero] at h; omega
    | succ k ih =>
      intro h
      rcases Nat.lt_or_ge q (frm p n k) with c | c
      · obtain ⟨i, h1, h2⟩ := ih c; exact ⟨i, by omega, h2⟩
      · exact ⟨k, by omega, iv_mem.2 ⟨c, h⟩⟩
  exact h n (by rw [frm_all hn]; exact hq)
theorem shr_near (p n i : Nat) : p / n ≤ shr p n i ∧ shr p n i ≤ p / n + 1 := by
  unfold shr; split <;> omega

/-! ### Twins -/
theorem keeps_srt {S : List Nm} (hp : S.Pairwise (· < ·)) : ∀ j, j < S.length → keeps S.toArray j = true := by
  intro j hj
  rcases Nat.eq_zero_or_pos j with rfl | h
  · simp [keeps]
  · refine keeps_pos fun e => ?_
    have h1 : S.toArray[j]! = S[j] := by simp [hj]
    have h2 : S.toArray[j - 1]! = S[j - 1] := by simp [show j - 1 < S.length by omega]
    rw [h1, h2] at e
    have := List.pairwise_iff_getElem.1 hp (j - 1) j (by omega) hj (by omega)
    rw [e] at this
    exact List.lt_irrefl _ this
theorem compact_less {S : List Nm} (hp : S.Pairwise (· ≤ ·)) (hn : ¬ S.Nodup) : (compact S).length < S.length := by
  have hex : ∃ j, 0 < j ∧ j < S.length ∧ S.toArray[j]! = S.toArray[j - 1]! := by
    refine Classical.byContradiction fun hc => hn ?_
    have : S.Pairwise (· < ·) := by
      have hstep : ∀ d i, (h : i + d + 1 < S.length) → S[i] < S[i + d + 1] := by
        intro d
        induction d with
        | zero =>
          intro i h
          refine nm_lt (List.pairwise_iff_getElem.1 hp i (i + 0 + 1) (by omega) h (by omega)) fun e => hc ⟨i + 1, by omega, by omega, ?_⟩
          simp [show i + 1 < S.length by omega, show i < S.length by omega]
          exact e.symm
        | succ d ih =>
          intro i h
          refine List.lt_trans (ih i (by omega)) ?_
          refine nm_lt (List.pairwise_iff_getElem.1 hp (i + d + 1) (i + (d + 1) + 1) (by omega) h (by omega)) fun e => hc ⟨i + d + 2, by omega, by omega, ?_⟩
          simp [show i + d + 2 < S.length by omega, show i + d + 1 < S.length by omega]
          exact e.symm
      rw [List.pairwise_iff_getElem]
      intro i j hi hj hij
      obtain ⟨d, rfl⟩ : ∃ d, j = i + d + 1 := ⟨j - i - 1, by omega⟩
      exact hstep d i hj
    unfold List.Nodup
    exact this.imp (fun {a b} h => fun e : a = b => by subst e; exact List.lt_irrefl _ h)
  obtain ⟨j, h0, hj, he⟩ := hex
  have hk := keeps_neg h0 he
  unfold compact compactUpTo
  rw [List.length_map]
  have h2 : (List.range S.length).length = S.length := List.length_range
  refine Nat.lt_of_lt_of_eq (List.length_filter_lt_length_iff_exists.2 ⟨j, List.mem_range.2 hj, by simp [hk]⟩) h2
theorem compact_same {N : List Nm} (h : N.Nodup) : (compact (srt N)).length = (srt N).length := by
  rw [compact_all _ (keeps_srt (srt_lt h))]
theorem compact_twins {N : List Nm} (h : ¬ N.Nodup) : (compact (srt N)).length < (srt N).length :=
  compact_less (srt_le N) (fun c => h ((srt_perm N).nodup_iff.1 c))
end Go.Proofs.Ytnekiiahgidkoaa.M
