/- Layer 28: how many members have a partition; an array of counts; who owns a partition. -/
import Derived.Test.YtnekiiahgidkoaaAsT
import Derived.Deep.OwnRows
namespace Go.Proofs.Ytnekiiahgidkoaa.M
/-- How many of members have partition q. -/
def cntQ (N T : List Nm) (p q : Nat) : Nat := T.countP fun m => decide (q ∈ iv p N.length (ranK N m))
theorem cntQ_nil (N : List Nm) (p q : Nat) : cntQ N [] p q = 0 := rfl
theorem cntQ_step (N T : List Nm) (p q : Nat) (m : Nm) : cntQ N (T ++ [m]) p q = cntQ N T p q + if q ∈ iv p N.length (ranK N m) then 1 else 0 := by
  unfold cntQ
  rw [List.countP_append, List.countP_singleton]
  by_cases h : q ∈ iv p N.length (ranK N m) <;> simp [h]
theorem count_one {α : Type} {P : α → Bool} {x : α} (hP : P x = true) : ∀ {l : List α}, l.Nodup → x ∈ l → (∀ y ∈ l, P y = true → y = x) → l.countP P = 1
  | [], _, h, _ => by simp at h
  | a :: t, hn, hx, hu => by
    have hn2 := List.nodup_cons.1 hn
    rw [List.countP_cons]
    rcases List.mem_cons.1 hx with rfl | hx
    · have : t.countP P = 0 := List.countP_eq_zero.2 fun y hy hp => hn2.1 (by rw [← hu y (List.mem_cons_of_mem _ hy) hp]; exact hy)
      rw [this, if_pos hP]
    · have ha : ¬ P a = true := fun hp => hn2.1 (by rw [hu a (List.mem_cons_self ..) hp]; exact hx)
      rw [if_neg ha, count_one hP hn2.2 hx fun y hy => hu y (List.mem_cons_of_mem _ hy)]
theorem cntQ_all {N : List Nm} (h : N.Nodup) (h0 : 0 < N.length) {p q : Nat} (hq : q < p) : cntQ N N p q = 1 := by
  obtain ⟨i, hi, hqi⟩ := iv_some h0 hq
  obtain ⟨m, hm⟩ : ∃ m, (srt N)[i]? = some m := ⟨_, List.getElem?_eq_getElem (by rw [srt_len]; exact hi)⟩
  have hmN : m ∈ N := srt_mem.1 (List.mem_of_getElem? hm)
  have hr := ranK_srt h hm
  refine count_one (x := m) (by rw [hr]; exact decide_eq_true hqi) h hmN fun y hy hp => ?_
  have := iv_apart (of_decide_eq_true hp) hqi
  exact ranK_inj h hy hmN (by rw [this, hr])
/-- A row of counts. -/
def rowG (p : Nat) (g : Nat → Nat) : List Nat := (List.range p).map g
theorem rowG_len (p : Nat) (g : Nat → Nat) : (rowG p g).length = p := by simp [rowG]
theorem rowG_get {p : Nat} (g : Nat → Nat) {q : Nat} (h : q < p) : (rowG p g)[q]? = some (g q) := by unfold rowG; simp [h]
theorem rowG_set {p : Nat} (g g' : Nat → Nat) {q : Nat} (h : q < p) (h1 : g' q = g q + 1) (h2 : ∀ r, r ≠ q → g' r = g r) : (rowG p g).set q (g q + 1) = rowG p g' := by
  apply List.ext_getElem?
  intro i
  rw [List.getElem?_set]
  by_cases hi : i < p
  · rw [rowG_get g' hi, rowG_get g hi]
    by_cases e : q = i
    · subst e; rw [if_pos rfl, if_pos (by rw [rowG_len]; exact hi), h1]
    · rw [if_neg e, h2 i (fun c => e c.symm)]
  · rw [List.getElem?_eq_none (l := rowG p g') (by rw [rowG_len]; omega), List.getElem?_eq_none (l := rowG p g) (by rw [rowG_len]; omega), if_neg (by omega)]
end Go.Proofs.Ytnekiiahgidkoaa.M
namespace Go.Proofs.Ytnekiiahgidkoaa.W
open Go.RowKit Go.Sort
open Go.Proofs.Ytnekiiahgidkoaa.M Go.Proofs.Ytnekiiahgidkoaa.D Go.Proofs.Ytnekiiahgidkoaa.Z
set_option linter.unusedVariables false
set_option linter.unusedSimpArgs false
theorem owner_is {N : List Nm} {p : Nat} {s : Nm} {q : Nat} {e : Ending} (hnd : N.Nodup) (hs : s ∈ N) (hq : q ∈ iv p N.length (ranK N s)) (h : OwQ N p q e) : e = .returned (.tuple #[.string (B s), .int .i64 0]) := by
  rcases h with ⟨i, t, hi, ht, hh, rfl⟩ | ⟨hno, _⟩
  · obtain ⟨y, hy, e⟩ := of_decide_eq_true hh
    have e2 : y = q := by omega
    subst e2
    have hir := iv_apart hy hq
    rw [hir, srt_rank hnd hs] at ht
    cases ht; rfl
  · have := hno _ (ranK_lt hnd hs)
    unfold hasN at this
    exact absurd ⟨q, hq, rfl⟩ (of_decide_eq_false this)
theorem owner_none {N : List Nm} {p : Nat} {e : Ending} (h : OwQ N p (p : Nat) e) : e = .returned (.tuple #[.string ⟨#[]⟩, .int .i64 6]) := by
  rcases h with ⟨i, t, hi, ht, hh, rfl⟩ | ⟨hno, rfl⟩
  · obtain ⟨y, hy, e⟩ := of_decide_eq_true hh
    have := iv_lt hi hy
    omega
  · rfl
/-- An array of counts in its block. -/
def CtsAt (w : World) (b p : Nat) (g : Nat → Nat) : Prop := Whole w b 3 ((rowG p g).map fun x : Nat => Value.int .i64 (x : Int))
theorem CtsAt.cell {w : World} {b p : Nat} {g : Nat → Nat} (h : CtsAt w b p g) {q : Nat} (hq : q < p) : w.cell? ⟨b, q, none⟩ = some (.int .i64 ((g q : Nat) : Int)) := by
  rw [Whole.cell h, List.getElem?_map, rowG_get g hq]; rfl
theorem splice28 (cs : List Value) (k : Nat) (v : Value) (h : k < cs.length) : splice cs k [v] = cs.set k v := by
  unfold splice
  rw [List.set_eq_take_append_cons_drop, if_pos h]; simp
theorem CtsAt.more {w : World} {b p : Nat} {g : Nat → Nat} (h : CtsAt w b p g) {q G : Nat} (hq : q < p) (hG : g q + 1 = G) {g' : Nat → Nat} (h1 : g' q = g q + 1) (h2 : ∀ r, r ≠ q → g' r = g r) : CtsAt (w.setCell ⟨b, q, none⟩ (.int .i64 (G : Int))) b p g' := by
  have hs := Whole.store h q [.int .i64 (G : Int)] (by simp [rowG_len]; omega)
  simp only [World.setCells] at hs
  unfold CtsAt
  rw [← rowG_set g g' hq h1 h2, List.map_set, hG]
  rw [splice28 _ _ _ (by simp [rowG_len]; exact hq)] at hs
  exact hs
theorem zeros28 (n : Nat) : madeCells #[Value.int .i64 0] n = ((rowG n fun _ => 0).map fun x : Nat => Value.int .i64 (x : Int)).toArray := by
  apply Array.toList_inj.1
  apply List.ext_getElem?
  intro j
  by_cases hj : j < n
  · simp [madeCells, rowG, hj, Nat.mod_one]
  · simp [madeCells, rowG, hj]
theorem make_zeros (n : Nat) (hn : n ≤ 100000) (W : World) : (Instr.makeSlice 29 (.int .i64 (n : Int)) (.int .i64 (n : Int))).run Try.prog W = .ok (.slice (some ⟨W.heap.size, 0, none⟩) n n) (W.alloc (.cells (madeCells #[Value.int .i64 0] n) 3)) :=
  run_make_row' (P := Try.prog) 29 3 (.int .i64 0) 8 Try.underlying29 infoI28 rfl .i64 .i64 n (by omega) (by omega) W
theorem CtsAt.new (w : World) (n : Nat) : CtsAt (w.alloc (.cells (madeCells #[Value.int .i64 0] n) 3)) w.heap.size n fun _ => 0 := by
  rw [zeros28]; exact Whole.new w _ _
end Go.Proofs.Ytnekiiahgidkoaa.W
