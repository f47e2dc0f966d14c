/- Layer 23, plain: the names of the slots, sorted, are the topics' names in their order. Layer 23, plain: which logs CatalogLogs has met. Package catalog: Names. Law 23: the flags of CatalogLogs beside the names, in the loops. -/
import Derived.Test.YtgogackkeodciaaGreatCgB
import Derived.Sort.OwnSorted
import Derived.Test.YtgogackkeodciaaGreatShelf
import Derived.Test.YtgogackkeodciaaGreatCgL
import Derived.Test.YtgogackkeodciaaGreatCgW
import Derived.Great.BuildSlice
import Derived.OwnWalk
import Derived.Great.Walk
import Derived.Deep.MidRow
section
namespace Go.Proofs.YtgogackkeodciaaGreat.W
open Go.RowKit Go.Sort
open Go.Proofs.YtgogackkeodciaaGreat.M Go.Proofs.YtgogackkeodciaaGreat.D Go.Proofs.YtgogackkeodciaaGreat.Z
set_option linter.unusedVariables false
set_option linter.unusedSimpArgs false

/-- The names in the first k slots. -/
def slotN (T : List To) (k : Nat) : List (List UInt8) := ((List.range k).map fun i => nk (spAt T i).nm).filter fun s => !s.isEmpty
def namesT (T : List To) : List (List UInt8) := T.map fun x => nk x.sp.nm
theorem slotN_zero (T : List To) : slotN T 0 = [] := rfl
theorem slotN_step (T : List To) (k : Nat) : slotN T (k + 1) = if nk (spAt T k).nm = [] then slotN T k else slotN T k ++ [nk (spAt T k).nm] := by
  unfold slotN
  rw [List.range_succ, List.map_append, List.filter_append]
  show _ ++ List.filter _ [nk (spAt T k).nm] = _
  split
  · rename_i h; rw [h]; simp
  · rename_i h
    have : (nk (spAt T k).nm).isEmpty = false := by simpa using h
    simp [this]
theorem slotN_len (T : List To) (k : Nat) : (slotN T k).length ≤ k := by
  have := List.length_filter_le (fun s : List UInt8 => !s.isEmpty) ((List.range k).map fun i => nk (spAt T i).nm)
  unfold slotN
  simpa using this
theorem namesT_nodup {T : List To} {n : Int} (h : CatOk T n) : (namesT T).Nodup := by
  unfold namesT
  refine List.pairwise_map.2 (h.rise.imp ?_)
  intro a b hl e
  rw [e] at hl
  exact List.lt_irrefl _ hl
theorem nk_ne {T : List To} {n : Int} (h : CatOk T n) {x : To} (hx : x ∈ T) : nk x.sp.nm ≠ [] := by
  have h1 := h.name_ne hx
  intro e
  have : (nk x.sp.nm).length = x.sp.nm.size := by unfold nk; simp
  rw [e] at this
  simp at this
  omega
theorem nk_zero : nk zSp.nm = [] := rfl
theorem slotN_mem {T : List To} {n : Int} (h : CatOk T n) {s : List UInt8} {k : Nat} : s ∈ slotN T k ↔ ∃ x ∈ T, nk x.sp.nm = s ∧ x.slot < (k : Int) := by
  unfold slotN
  rw [List.mem_filter, List.mem_map]
  constructor
  · rintro ⟨⟨i, hi, rfl⟩, hne⟩
    have hi := List.mem_range.1 hi
    cases hs : slotT T (i : Int) with
    | none =>
      rw [spAt_free (by unfold freeS; rw [hs]; rfl), nk_zero] at hne
      simp at hne
    | some x =>
      obtain ⟨h1, h2⟩ := h.slot.1 hs
      refine ⟨x, h1, ?_, by omega⟩
      unfold spAt; rw [hs]
  · rintro ⟨x, hx, rfl, hk⟩
    have h1 := (h.ok x hx).2.1
    refine ⟨⟨x.slot.toNat, List.mem_range.2 (by omega), by rw [spAt_of h hx]⟩, ?_⟩
    have := nk_ne h hx
    simpa using this
theorem slotN_nodup {T : List To} {n : Int} (h : CatOk T n) : ∀ k, (slotN T k).Nodup
  | 0 => List.Pairwise.nil
  | k + 1 => by
    rw [slotN_step]
    split
    · exact slotN_nodup h k
    · rename_i hne
      refine List.nodup_append.2 ⟨slotN_nodup h k, by simp, ?_⟩
      intro a ha b hb e
      obtain rfl := List.mem_singleton.1 hb
      subst e
      obtain ⟨x, hx, hx2, hx3⟩ := (slotN_mem h).1 ha
      cases hs : slotT T (k : Int) with
      | none => exact hne (by rw [spAt_free (by unfold freeS; rw [hs]; rfl)]; rfl)
      | some y =>
        obtain ⟨h1, h2⟩ := h.slot.1 hs
        have h3 : spAt T k = y.sp := by unfold spAt; rw [hs]
        rw [h3] at hx2
        have f1 := h.find.2 ⟨hx, nk_inj hx2⟩
        have f2 := h.find.2 ⟨h1, rfl⟩
        rw [f1] at f2
        cases f2
        omega
theorem slotN_perm {T : List To} {n : Int} (h : CatOk T n) : (slotN T 8).Perm (namesT T) := by
  refine (List.perm_ext_iff_of_nodup (slotN_nodup h 8) (namesT_nodup h)).2 ?_
  intro s
  rw [slotN_mem h]
  unfold namesT
  rw [List.mem_map]
  constructor
  · rintro ⟨x, hx, he, _⟩; exact ⟨x, hx, he⟩
  · rintro ⟨x, hx, he⟩; have := (h.ok x hx).2.1; exact ⟨x, hx, he, by omega⟩
/-- The slots' names, sorted: the topics' names in their order. -/
theorem slotN_sort {T : List To} {n : Int} (h : CatOk T n) : ((slotN T 8).mergeSort fun x y => decide (x ≤ y)) = namesT T := by
  have hs := List.pairwise_mergeSort (le := fun x y : List UInt8 => decide (x ≤ y)) (fun a b c h1 h2 => by simp only [decide_eq_true_eq] at h1 h2 ⊢; exact List.le_trans h1 h2) (fun a b => by simp only [Bool.or_eq_true, decide_eq_true_eq]; exact List.le_total a b) (slotN T 8)
  refine List.Perm.eq_of_pairwise (le := fun a b : List UInt8 => decide (a ≤ b) = true) ?_ hs ?_ ((List.mergeSort_perm _ _).trans (slotN_perm h))
  · intro a b _ _ h1 h2
    simp only [decide_eq_true_eq] at h1 h2
    exact List.le_antisymm h1 h2
  · unfold namesT
    refine List.pairwise_map.2 (h.rise.imp ?_)
    intro a b hl
    simp only [decide_eq_true_eq]
    exact List.le_of_lt hl
theorem namesT_len {T : List To} {n : Int} (h : CatOk T n) : (namesT T).length ≤ 8 := by
  rw [← (slotN_perm h).length_eq]; exact slotN_len T 8
end Go.Proofs.YtgogackkeodciaaGreat.W
end
section
namespace Go.Proofs.YtgogackkeodciaaGreat.W
open Go.RowKit Go.Sort
open Go.Proofs.YtgogackkeodciaaGreat.M Go.Proofs.YtgogackkeodciaaGreat.D Go.Proofs.YtgogackkeodciaaGreat.Z
set_option linter.unusedVariables false
set_option linter.unusedSimpArgs false

/-- Is k the log of one of this topic's first i partitions? -/
def hitX (x : To) (i : Int) (k : Nat) : Bool := decide (4 ≤ k) && (decide (x.slot = (((k - 4) / 4 : Nat) : Int)) && decide ((((k - 4) % 4 : Nat) : Int) < i))
/-- Met behind j whole topics and i partitions of the next. -/
def metAt (T : List To) (j i k : Nat) : Bool := (T.take j).any (fun x => hitX x x.sp.parts k) || (T[j]?).any (fun x => hitX x (i : Int) k)
def logOf (x : To) (i : Nat) : Nat := 4 + 4 * x.slot.toNat + i
theorem hitX_zero (x : To) (k : Nat) : hitX x 0 k = false := by
  unfold hitX
  rw [show decide ((((k - 4) % 4 : Nat) : Int) < 0) = false from decide_eq_false (by omega), Bool.and_false, Bool.and_false]
theorem metAt_none (T : List To) (k : Nat) : metAt T 0 0 k = false := by
  unfold metAt
  cases h : T[0]? with
  | none => rfl
  | some x => simp [hitX_zero]
theorem parts_ok {T : List To} {n : Int} (h : CatOk T n) {x : To} (hx : x ∈ T) : 1 ≤ x.sp.parts ∧ x.sp.parts ≤ 4 := (show Sp.ok x.sp from of_decide_eq_true (h.ok x hx).1).2.1
theorem logOf_range {T : List To} {n : Int} (h : CatOk T n) {x : To} (hx : x ∈ T) {i : Nat} (hi : (i : Int) < x.sp.parts) : 4 ≤ logOf x i ∧ logOf x i ≤ 35 := by
  have h1 := (h.ok x hx).2.1
  have h2 := parts_ok h hx
  unfold logOf
  omega
theorem hit_iff {T : List To} {n : Int} (h : CatOk T n) {x : To} (hx : x ∈ T) {i k : Nat} (hi : i ≤ 4) : hitX x (i : Int) k = true ↔ ∃ p, p < i ∧ k = logOf x p := by
  have h1 := (h.ok x hx).2.1
  unfold hitX logOf
  simp only [Bool.and_eq_true, decide_eq_true_eq]
  constructor
  · rintro ⟨a, b, c⟩
    exact ⟨(k - 4) % 4, by omega, by omega⟩
  · rintro ⟨p, a, rfl⟩
    refine ⟨by omega, ?_, ?_⟩ <;> omega
theorem metAt_new {T : List To} {n : Int} (h : CatOk T n) {x : To} {j i : Nat} (hj : T[j]? = some x) (hi : (i : Int) < x.sp.parts) : metAt T j i (logOf x i) = false := by
  have hx := List.mem_of_getElem? hj
  have hp := parts_ok h hx
  have hsx := (h.ok x hx).2.1
  unfold metAt
  rw [hj]
  refine Bool.or_eq_false_iff.2 ⟨?_, ?_⟩
  · rw [List.any_eq_false]
    intro y hy hh
    obtain ⟨q, hq, hyq⟩ := List.mem_take_iff_getElem.1 hy
    have hym := List.mem_of_mem_take hy
    have hsy := (h.ok y hym).2.1
    have hqj : q < j := by omega
    have hne : y.slot ≠ x.slot := by
      have := List.pairwise_iff_getElem.1 h.slots q j (by omega) (List.getElem?_eq_some_iff.1 hj).1 hqj
      rw [hyq, (List.getElem?_eq_some_iff.1 hj).2] at this
      exact this
    unfold hitX logOf at hh
    simp only [Bool.and_eq_true, decide_eq_true_eq] at hh
    omega
  · show hitX x (i : Int) (logOf x i) = false
    unfold hitX logOf
    rw [show decide ((((4 + 4 * x.slot.toNat + i - 4) % 4 : Nat) : Int) < (i : Int)) = false from decide_eq_false (by omega), Bool.and_false, Bool.and_false]
theorem metAt_step {T : List To} {n : Int} (h : CatOk T n) {x : To} {j i : Nat} (hj : T[j]? = some x) (hi : (i : Int) < x.sp.parts) (k : Nat) : metAt T j (i + 1) k = (metAt T j i k || decide (k = logOf x i)) := by
  have hx := List.mem_of_getElem? hj
  have hp := parts_ok h hx
  unfold metAt
  rw [hj]
  show (_ || hitX x ((i + 1 : Nat) : Int) k) = ((_ || hitX x (i : Int) k) || _)
  rw [Bool.or_assoc]
  congr 1
  rw [Bool.eq_iff_iff, hit_iff h hx (by omega), Bool.or_eq_true, hit_iff h hx (by omega), decide_eq_true_eq]
  constructor
  · rintro ⟨p, h1, h2⟩
    by_cases e : p = i
    · subst e; exact .inr h2
    · exact .inl ⟨p, by omega, h2⟩
  · rintro (⟨p, h1, h2⟩ | h2)
    · exact ⟨p, by omega, h2⟩
    · exact ⟨i, by omega, h2⟩
theorem metAt_next {T : List To} {x : To} {j i : Nat} (hj : T[j]? = some x) (hi : (i : Int) = x.sp.parts) (k : Nat) : metAt T (j + 1) 0 k = metAt T j i k := by
  unfold metAt
  rw [hj, List.take_add_one, hj, List.any_append]
  have e : (T[j + 1]?).any (fun x => hitX x ((0 : Nat) : Int) k) = false := by
    cases T[j + 1]? with
    | none => rfl
    | some y => exact hitX_zero y k
  rw [e, Bool.or_false, hi]
  simp
/-- The forty flags. -/
def metL (T : List To) (j i : Nat) : List Value := (List.range 40).map fun k => .bool (metAt T j i k)
theorem metL_len (T : List To) (j i : Nat) : (metL T j i).length = 40 := by unfold metL; simp
theorem metL_none (T : List To) : metL T 0 0 = List.replicate 40 (.bool false) := by
  unfold metL
  rw [show (fun k : Nat => Value.bool (metAt T 0 0 k)) = fun _ => Value.bool false from funext fun k => by rw [metAt_none]]
  rfl
theorem metL_at (T : List To) (j i : Nat) {k : Nat} (hk : k < 40) : (metL T j i)[k]? = some (.bool (metAt T j i k)) := by unfold metL; simp [hk]
theorem metL_step {T : List To} {n : Int} (h : CatOk T n) {x : To} {j i : Nat} (hj : T[j]? = some x) (hi : (i : Int) < x.sp.parts) : metL T j (i + 1) = (metL T j i).set (logOf x i) (.bool true) := by
  apply List.ext_getElem?
  intro k
  by_cases hk : k < 40
  · rw [metL_at T j (i + 1) hk, metAt_step h hj hi, List.getElem?_set]
    have hr := logOf_range h (List.mem_of_getElem? hj) hi
    by_cases e : logOf x i = k
    · subst e
      rw [if_pos rfl, metL_len, if_pos hk, decide_eq_true rfl, Bool.or_true]
    · rw [if_neg e, metL_at T j i hk, decide_eq_false (fun e2 => e e2.symm), Bool.or_false]
  · rw [List.getElem?_eq_none (by rw [metL_len]; omega), List.getElem?_eq_none (by rw [List.length_set, metL_len]; omega)]
theorem metL_next {T : List To} {x : To} {j i : Nat} (hj : T[j]? = some x) (hi : (i : Int) = x.sp.parts) : metL T (j + 1) 0 = metL T j i := by
  unfold metL
  rw [show (fun k : Nat => Value.bool (metAt T (j + 1) 0 k)) = fun k => Value.bool (metAt T j i k) from funext fun k => by rw [metAt_next hj hi]]
end Go.Proofs.YtgogackkeodciaaGreat.W
end
section
namespace Go.Proofs.YtgogackkeodciaaGreat.W
open Go.RowKit Go.Sort
open Go.Proofs.YtgogackkeodciaaGreat.M Go.Proofs.YtgogackkeodciaaGreat.D Go.Proofs.YtgogackkeodciaaGreat.Z
set_option linter.unusedVariables false
theorem size8 : (Tryz.prog.info? 64).map (·.size) = some 40 := by kernel_rfl
theorem sizeOfSp : ∀ w, (Go.sizeOf 31).run Tryz.prog w = .ok 5 w := fun w => by kernel_rfl
theorem aggOfSp : ∀ w, (isAgg 31).run Tryz.prog w = .ok true w := fun w => by kernel_rfl
/-- The forty cells of the slots. -/
def ct40 (T : List To) : List Value := (((List.range 8).map (spAt T)).map spL).flatten
theorem ct40_len (T : List To) : (ct40 T).length = 40 := by unfold ct40; rfl
theorem ctL_40 (T : List To) (m : Option Nat) (n : Int) : ctL ((List.range 8).map (spAt T)) m n = ct40 T ++ [.map m, .int .i64 n] := rfl
theorem CaAt.slots {B0 : Nat} {cb : Nat} {m : Option Nat} {T : List To} {n : Int} {c : Nat} {w : World} (h : CaAt B0 w cb m T n c) : w.rangeAt cb 0 (ct40 T) := fun j v hj => by
  have hl : j < (ct40 T).length := by
    rcases Nat.lt_or_ge j (ct40 T).length with h | h
    · exact h
    · rw [List.getElem?_eq_none h] at hj; cases hj
  rw [Nat.zero_add, h.at_.box.cell, ctL_40, List.getElem?_append_left hl]
  exact hj
theorem index8 (T : List To) (k : Nat) (hk : k < 8) (w : World) :
    (Instr.index 64 (.agg (ct40 T).toArray) (.int .i64 (k : Int))).run Tryz.prog w = .ok (.agg #[.string (spAt T k).nm, .int .i64 (spAt T k).parts, .int .i64 (spAt T k).age, .int .i64 (spAt T k).size, .bool (spAt T k).comp]) w := by
  have e : (ct40 T).toArray = ((((List.range 8).map (spAt T)).map spL).flatten).toArray := rfl
  match k, hk with
  | 0, _ => simp [Instr.index, run_underlying Tryz.underlying64, asIntOf, sizeOfSp, aggOfSp, go_sem]; rfl
  | 1, _ => simp [Instr.index, run_underlying Tryz.underlying64, asIntOf, sizeOfSp, aggOfSp, go_sem]; rfl
  | 2, _ => simp [Instr.index, run_underlying Tryz.underlying64, asIntOf, sizeOfSp, aggOfSp, go_sem]; rfl
  | 3, _ => simp [Instr.index, run_underlying Tryz.underlying64, asIntOf, sizeOfSp, aggOfSp, go_sem]; rfl
  | 4, _ => simp [Instr.index, run_underlying Tryz.underlying64, asIntOf, sizeOfSp, aggOfSp, go_sem]; rfl
  | 5, _ => simp [Instr.index, run_underlying Tryz.underlying64, asIntOf, sizeOfSp, aggOfSp, go_sem]; rfl
  | 6, _ => simp [Instr.index, run_underlying Tryz.underlying64, asIntOf, sizeOfSp, aggOfSp, go_sem]; rfl
  | 7, _ => simp [Instr.index, run_underlying Tryz.underlying64, asIntOf, sizeOfSp, aggOfSp, go_sem]; rfl
theorem own_nilS {W : World} {B : Nat} {e : TypeId} {sz : Nat} : W.ownsRow B e sz (.slice none 0 0) 0 [] := ⟨by simp, .inl ⟨rfl, rfl⟩⟩
theorem infoStrZ : (Tryz.prog.info? 9).map (fun i => (i.zero, i.size, i.bytes)) = some (some (.string ⟨#[]⟩), 1, 16) := by kernel_rfl
theorem encStr_nk (s : ByteArray) : encStr (nk s) = .string s := by unfold nk; rfl
theorem nk_nil {s : ByteArray} : nk s = [] ↔ s = ⟨#[]⟩ := ⟨fun h => nk_inj (by rw [h]; rfl), fun h => by rw [h]; rfl⟩
/-- What Names hands back: the topics' names by their order, in a row of its own. -/
def NamesP (w : World) (T : List To) (e : Ending) (w' : World) : Prop := ∃ A c, e = .returned (.slice A T.length c) ∧ w'.ownsRow w.heap.size 9 1 (.slice A T.length c) T.length ((namesT T).map encStr) ∧ Below w.heap.size w w'
set_option maxRecDepth 100000 in
set_option maxHeartbeats 4000000 in
theorem names23_any {B0 : Nat} (cb : Nat) (m : Option Nat) (T : List To) (n : Int) (c : Nat) (w : World) (h : CaAt B0 w cb m T n c) :
    Calls Tryz.prog 14 #[.pointer (some ⟨cb, 0, none⟩)] w (NamesP w T) := by
  have hs := h.slots
  have hl := ct40_len T
  have hok := Lib.hid h.ok
  have hix := index8 T
  obtain ⟨i0, hi0, hz0, hz1, hz2⟩ := info_parts infoStrZ
  obtain ⟨A, hA⟩ : ∃ A, Hid ((ct40 T).toArray = A) := ⟨_, Lib.hid rfl⟩
  rw [hA.out] at hix
  replace hix := Lib.hid hix
  go_enter Tryz.func14, Tryz.ntmps14
  go_wp2_with (with_reducible refine zLoad 64 _ rfl ?_)
  refine Lib.hid ?_
  refine wpList_load_mid rfl 64 _ rfl cb 0 rfl (ct40 T) _ hs Tryz.underlying64 rfl (by rw [hl]; exact size8) ?_
  rw [hA.out]
  clear hs hl h hA
  go_wp2_with fail
  go_loopg [3, 12] 8 (fun ga lv iv wr => ∃ (j : Nat) (Ad : Option Addr) (c : Nat), j ≤ 8 ∧ 8 ≤ j + ga ∧ iv = .int .i64 (j : Int) ∧ lv = .slice Ad (slotN T j).length c ∧ Hid (wr.ownsRow w.heap.size 9 1 (.slice Ad (slotN T j).length c) (slotN T j).length ((slotN T j).map encStr) ∧ Below w.heap.size w wr))
  case atStart => exact ⟨0, none, 0, by omega, by omega, rfl, rfl, Lib.hid ⟨own_nilS, Below.refl _ _⟩⟩
  case round =>
    obtain ⟨j, Ad, c, hj8, hja, rfl, rfl, hrel⟩ := hrel
    generalize wr = wo at *
    by_cases hlt : j < 8
    · have hji : (j : Int) < 8 := by omega
      have hij := Lib.hid (fun W => hix.out j hlt W)
      have hst := Lib.hid (slotN_step T j)
      have hln := slotN_len T j
      obtain ⟨x, hx⟩ : ∃ x, Hid (spAt T j = x) := ⟨_, Lib.hid rfl⟩
      rw [hx.out] at hij hst
      obtain ⟨nm, parts, age, size, comp⟩ := x
      dsimp only at hij hst
      clear hx hix
      have hij1 := hij.out
      obtain ⟨how, hB⟩ := hrel.out
      clear hrel
      by_cases he : nm = ⟨#[]⟩
      · subst he
        have hst2 : slotN T (j + 1) = slotN T j := by rw [hst.out, if_pos (nk_nil.2 rfl)]
        have hfin : Hid ((wo.alloc (.cells #[.string ⟨#[]⟩, .int .i64 parts, .int .i64 age, .int .i64 size, .bool comp] 31)).ownsRow w.heap.size 9 1 (.slice Ad (slotN T (j + 1)).length c) (slotN T (j + 1)).length ((slotN T (j + 1)).map encStr) ∧ Below w.heap.size w (wo.alloc (.cells #[.string ⟨#[]⟩, .int .i64 parts, .int .i64 age, .int .i64 size, .bool comp] 31))) := Lib.hid (by rw [hst2]; exact ⟨how.alloc _, hB.alloc hB.size _⟩)
        clear how hB hst
        go_wp2_with fail
        go_roundg (gk - 1)
        case measure => omega
        case rel => exact ⟨j + 1, Ad, c, by omega, by omega, by go_num, by rw [hst2], hfin⟩
      · have hst2 : slotN T (j + 1) = slotN T j ++ [nk nm] := by rw [hst.out, if_neg (fun e => he (nk_nil.1 e))]
        have hne : nm.toList.isEmpty = false := by
          cases hq : nm.toList.isEmpty with
          | false => rfl
          | true =>
            exfalso
            have h1 : nm.toList = [] := by simpa using hq
            rw [Lib.toList_data] at h1
            exact he (nk_nil.1 h1)
        obtain ⟨W3, hW3⟩ : ∃ W, Hid (W = (wo.alloc (.cells #[.string nm, .int .i64 parts, .int .i64 age, .int .i64 size, .bool comp] 31)).alloc (.cells #[.string nm] 9)) := ⟨_, Lib.hid rfl⟩
        have how2 : W3.ownsRow w.heap.size 9 1 (.slice Ad (slotN T j).length c) (slotN T j).length ((slotN T j).map encStr) := by rw [hW3.out]; exact (how.alloc _).alloc _
        have hB2 : Below w.heap.size w W3 := by rw [hW3.out]; exact grewAlloc (grewAlloc hB _) _
        have hz3 : W3.heap.size = wo.heap.size + 2 := by rw [hW3.out]; simp
        have hnb : W3.heap[wo.heap.size + 1]? = some (.cells #[.string nm] 9 (0, 0)) := by
          rw [hW3.out]
          have := heap_alloc_new (wo.alloc (.cells #[.string nm, .int .i64 parts, .int .i64 age, .int .i64 size, .bool comp] 31)) (.cells #[.string nm] 9)
          simpa using this
        replace how2 := Lib.hid how2
        replace hB2 := Lib.hid hB2
        clear how hB hst
        go_wp2_with (with_reducible refine zAppend _ _ _ rfl ?_)
        rw [← show W3 = _ from hW3.out]
        clear hW3
        refine Lib.hid ?_
        refine wpList_append_lies _ rfl _ _ 52 rfl w.heap.size 9 i0 _ 1 16 Tryz.underlying52 hi0 hz0 hz1 hz2 rfl (by omega) (.slice Ad (slotN T j).length c) (slotN T j).length ((slotN T j).map encStr) rfl how2.out _ 1 1 [.string nm] rfl rfl (World.news_of_block hnb) (by simp [Value.oneCell']) (by omega) (by unfold maxLen; omega) (by omega) (by have := hB2.out.size; simpa using this) (W3.heap.size) (by simp) ?_
        intro gg cap w6 hown6 hgrow6 hat6 hlt6
        have hb6 : Below w.heap.size w w6 := below_grown hB2.out hgrow6 (by have := hB2.out.size; simpa using this) (fun k hk => ownFar how2.out k hk)
        have hll : (slotN T (j + 1)).length = (slotN T j).length + 1 := by rw [hst2, List.length_append]; rfl
        have hfin : Hid (w6.ownsRow w.heap.size 9 1 (.slice (some ⟨gg, 0, none⟩) (slotN T (j + 1)).length cap) (slotN T (j + 1)).length ((slotN T (j + 1)).map encStr) ∧ Below w.heap.size w w6) := Lib.hid ⟨by rw [hll, hst2, List.map_append, List.map_singleton, encStr_nk]; exact hown6, hb6⟩
        clear hown6 hgrow6 hat6 hlt6 hb6 how2 hB2
        go_wp2_with fail
        go_roundg (gk - 1)
        case measure => omega
        case rel => exact ⟨j + 1, some ⟨gg, 0, none⟩, cap, by omega, by omega, by go_num, by rw [hll], hfin⟩
    · have hj : j = 8 := by omega
      subst hj
      have hso := slotN_sort hok.out
      have hln : (slotN T 8).length ≤ 8 := slotN_len T 8
      have hnN : (namesT T).length = T.length := by unfold namesT; rw [List.length_map]
      have hTl : (slotN T 8).length = T.length := by rw [(slotN_perm hok.out).length_eq, hnN]
      obtain ⟨L, hL⟩ : ∃ L, Hid (slotN T 8 = L) := ⟨_, Lib.hid rfl⟩
      rw [hL.out] at hso hln hTl hrel
      rw [show (slotN T 8).length = L.length from congrArg _ hL.out]
      obtain ⟨how, hB⟩ := hrel.out
      clear hrel hL hix
      have hl2 : (L.mergeSort fun x y => decide (x ≤ y)).length = L.length := List.length_mergeSort L
      rcases how.2 with ⟨hnil, hk0⟩ | ⟨g, cap, cur, hv, hbase, hb, h1, h2, h3, h4⟩
      · injection hnil with e1 e2 e3
        have hk1 : L = [] := List.eq_nil_of_length_eq_zero (by omega)
        have hT0 : T.length = 0 := by rw [← hTl, hk1]; rfl
        have hn0 : namesT T = [] := List.eq_nil_of_length_eq_zero (by rw [hnN, hT0])
        have hfin : Hid (NamesP w T (.returned (.slice none 0 0)) wo) := Lib.hid ⟨none, 0, by rw [hT0], by rw [hT0, hn0]; exact own_nilS, hB⟩
        subst e1 e3
        rw [show L.length = 0 by rw [hk1]; rfl]
        clear how hB hso hl2 hk0 hk1 hT0 hn0 hnN hTl hln
        go_wp2_with fail
        refine (Tryz.slices_Sort_string_none none 0 _).mono ?_
        rintro e w' ⟨rfl, rfl⟩
        go_wp2_with fail
        go_ret
        exact hfin.out
      · injection hv with e1 e2 e3
        subst e1 e3
        have hH : Holds encStr wo g 0 L.toArray := holds_of_block hb (by simpa using h4)
        have hgl : g < wo.heap.size := (Array.getElem?_eq_some_iff.1 hb).1
        have hsort := Lib.hid (Tryz.slices_Sort_string g 0 c L wo hH hgl (by omega))
        have hgr := fun (nn : Nat) (os : Array Obj) => grownBy_sorted (w := wo) (g := g) (n := nn) (os := os) (L.mergeSort fun x y => decide (x ≤ y)).toArray
        have hro := fun (nn : Nat) (os : Array Obj) => ownsRow_sorted (n := nn) (os := os) (ts := L.mergeSort fun x y => decide (x ≤ y)) hl2 hbase hb h1 h2 h3
        rw [hso] at hro hgr
        have hfin : Hid (∀ nn os w', w' = grow (putRow encStr (Sort.ahead wo nn) g 0 (namesT T).toArray) os → NamesP w T (.returned (.slice (some ⟨g, 0, none⟩) L.length c)) w') := Lib.hid (fun nn os w' e => by
          subst e
          refine ⟨some ⟨g, 0, none⟩, c, by rw [hTl], ?_, below_grown hB (hgr nn os) hB.size (fun k e => by cases e; exact hbase)⟩
          rw [← hTl]
          exact hro nn os)
        have hse := Lib.hid hso
        clear how hB hso hH hgr hro hl2 hb h1 h2 h3 h4 hgl hnN hTl hln
        go_wp2_with fail
        refine hsort.out.mono ?_
        rintro e w' ⟨rfl, nn, os, hw'⟩
        rw [hse.out] at hw'
        have hf2 := Lib.hid (hfin.out nn os w' hw')
        clear hw' hfin
        go_wp2_with fail
        go_ret
        exact hf2.out
end Go.Proofs.YtgogackkeodciaaGreat.W
end
section
namespace Go.Proofs.YtgogackkeodciaaGreat.W
open Go.RowKit Go.Sort
open Go.Proofs.YtgogackkeodciaaGreat.M Go.Proofs.YtgogackkeodciaaGreat.D Go.Proofs.YtgogackkeodciaaGreat.Z
set_option linter.unusedVariables false
set_option linter.unusedSimpArgs false

theorem slot_of {T : List To} {n : Int} (h : CatOk T n) {x : To} (hx : x ∈ T) : findT T x.sp.nm = some x := h.find.2 ⟨hx, rfl⟩
theorem spec_fact {T : List To} {n : Int} (h : CatOk T n) {x : To} (hx : x ∈ T) : specF T x.sp.nm = (x.sp, 0) := by
  unfold specF
  rw [slot_of h hx]
theorem log_fact {T : List To} {n : Int} (h : CatOk T n) {x : To} (hx : x ∈ T) {i : Nat} (hi : (i : Int) < x.sp.parts) : logF T x.sp.nm (i : Int) = (((logOf x i : Nat) : Int), 0) := by
  have h3 := (h.ok x hx).2.2.1
  have h4 := (h.ok x hx).2.1
  have hm : (metaT T x.sp.nm (i : Int)).isSome = true := by
    unfold metaT
    rw [slot_of h hx]
    dsimp only
    rw [if_pos (by omega), List.getElem?_eq_getElem (by simp; omega)]
    rfl
  unfold logF
  rw [if_pos hm]
  unfold slotI logOf
  rw [slot_of h hx]
  dsimp only
  congr 1
  omega
/-- A row of strings beside another block. -/
def NmAt (W : World) (A : Option Addr) (mb : Nat) (xs : List Value) : Prop := ∀ j v, xs[j]? = some v → ∃ g, A = some ⟨g, 0, none⟩ ∧ W.cell? ⟨g, j, none⟩ = some v ∧ g ≠ mb ∧ g < W.heap.size
theorem NmAt.below {W W' : World} {A : Option Addr} {mb : Nat} {xs : List Value} (h : NmAt W A mb xs) (hb : Below W.heap.size W W') : NmAt W' A mb xs := fun j v hj => by
  obtain ⟨g, e, h1, h2, h3⟩ := h j v hj
  exact ⟨g, e, (World.cell?_of_block (a := ⟨g, j, none⟩) (hb.block g h3)).trans h1, h2, Nat.lt_of_lt_of_le h3 hb.size⟩
theorem NmAt.set {W : World} {A : Option Addr} {mb : Nat} {xs : List Value} (h : NmAt W A mb xs) (k : Nat) (u : Value) : NmAt (W.setCell ⟨mb, k, none⟩ u) A mb xs := fun j v hj => by
  obtain ⟨g, e, h1, h2, h3⟩ := h j v hj
  exact ⟨g, e, (World.cell?_of_block (a := ⟨g, j, none⟩) (Below.heap_setCell W ⟨mb, k, none⟩ u g h2)).trans h1, h2, by simpa [World.setCell] using h3⟩
theorem nmAt_own {W : World} {A : Option Addr} {B e n c mb : Nat} {xs : List Value} (h : W.ownsRow B e 1 (.slice A n c) n xs) (hl : xs.length = n) (hB : mb < B) : NmAt W A mb xs := fun j v hj => by
  rcases h.2 with ⟨hnil, hk0⟩ | ⟨g, cap, cur, hv, hbase, hb, h1, h2, h3, h4⟩
  · exfalso
    have := (List.getElem?_eq_some_iff.1 hj).1
    omega
  · injection hv with e1 e2 e3
    refine ⟨g, e1, ?_, by omega, (Array.getElem?_eq_some_iff.1 hb).1⟩
    rw [← h4, List.getElem?_take] at hj
    split at hj
    · exact (cell_of_row W g j _ _ _ hb).trans (by rw [← Array.getElem?_toList]; exact hj)
    · cases hj
/-- The flags' state in CatalogLogs. -/
def LgR (V W : World) (mb : Nat) (T : List To) (A : Option Addr) (j i : Nat) : Prop := Below V.heap.size V W ∧ V.heap.size ≤ mb ∧ Whole W mb 51 (metL T j i) ∧ NmAt W A mb ((namesT T).map encStr)
theorem LgR.below {V W W' : World} {mb : Nat} {T : List To} {A : Option Addr} {j i : Nat} (h : LgR V W mb T A j i) (hb : Below W.heap.size W W') : LgR V W' mb T A j i :=
  ⟨grew h.1 hb, h.2.1, h.2.2.1.below hb h.2.2.1.lt, h.2.2.2.below hb⟩
theorem LgR.mark {V W : World} {mb : Nat} {T : List To} {A : Option Addr} {j i : Nat} {n : Int} {x : To} (h : LgR V W mb T A j i) (hc : CatOk T n) (hj : T[j]? = some x) (hi : (i : Int) < x.sp.parts) : LgR V (W.setCell ⟨mb, logOf x i, none⟩ (.bool true)) mb T A j (i + 1) := by
  have hr := logOf_range hc (List.mem_of_getElem? hj) hi
  refine ⟨h.1.setCell h.2.1 _, h.2.1, ?_, h.2.2.2.set _ _⟩
  rw [metL_step hc hj hi]
  have hs := h.2.2.1.store (logOf x i) [.bool true] (by rw [metL_len]; simp; omega)
  have e : splice (metL T j i) (logOf x i) [.bool true] = (metL T j i).set (logOf x i) (.bool true) := by
    unfold splice
    rw [List.set_eq_take_append_cons_drop, if_pos (by rw [metL_len]; omega)]
    simp
  rw [e] at hs
  exact hs
theorem LgR.next {V W : World} {mb : Nat} {T : List To} {A : Option Addr} {j i : Nat} {x : To} (h : LgR V W mb T A j i) (hj : T[j]? = some x) (hi : (i : Int) = x.sp.parts) : LgR V W mb T A (j + 1) 0 := by
  refine ⟨h.1, h.2.1, ?_, h.2.2.2⟩
  rw [metL_next hj hi]
  exact h.2.2.1
theorem LgR.met {V W : World} {mb : Nat} {T : List To} {A : Option Addr} {j i : Nat} {n : Int} {x : To} (h : LgR V W mb T A j i) (hc : CatOk T n) (hj : T[j]? = some x) (hi : (i : Int) < x.sp.parts) : W.cell? ⟨mb, logOf x i, none⟩ = some (.bool false) ∧ W.frozen? ⟨mb, logOf x i, none⟩ = false := by
  have hr := logOf_range hc (List.mem_of_getElem? hj) hi
  exact ⟨by rw [h.2.2.1.cell, metL_at T j i (by omega), metAt_new hc hj hi], h.2.2.1.frozen _⟩
theorem LgR.name {V W : World} {mb : Nat} {T : List To} {A : Option Addr} {j i : Nat} {x : To} (h : LgR V W mb T A j i) (hj : T[j]? = some x) : ∃ g, A = some ⟨g, 0, none⟩ ∧ W.cell? ⟨g, j, none⟩ = some (.string x.sp.nm) := by
  obtain ⟨g, e, h1, _, _⟩ := h.2.2.2 j (.string x.sp.nm) (by
    unfold namesT
    rw [List.map_map, List.getElem?_map, hj]
    show some (encStr (nk x.sp.nm)) = _
    rw [encStr_nk])
  exact ⟨g, e, h1⟩
def fl40 : List Value := List.replicate 40 (.bool false)
theorem fl40_one : ∀ v ∈ fl40, v.oneCell' = true := by
  intro v hv
  unfold fl40 at hv
  rw [List.eq_of_mem_replicate hv]; rfl
theorem fl40_len : fl40.length = 40 := by unfold fl40; simp
set_option maxRecDepth 100000 in
theorem info40 : (Tryz.prog.info? 51).map (fun i => (i.zero, i.size, i.bytes)) = some (some (.agg fl40.toArray), 40, 40) := by kernel_rfl
set_option maxRecDepth 100000 in
theorem built40 : Tryz.prog.built 51 [] = some fl40.toArray := by kernel_rfl
section
variable {P : Program} {w : World} {ops : Array Oper} {rest : List Oper} {o : Oper} {a : Go.Act} {Q : Exit → Go.Act → World → Prop}
theorem zBuild40 (t : TypeId) (ho : o.op = .build t #[]) (h : Hid (wpList P ops Q (o :: rest) a w)) : wpList P ops Q (o :: rest) a w := h
theorem zAlloc40 (t : TypeId) (ho : o.op = .alloc t) (h : Hid (wpList P ops Q (o :: rest) a w)) : wpList P ops Q (o :: rest) a w := h
theorem alloc_of40 {t : TypeId} {i : TypeInfo} {z : Value} (hg : o.guard = none) (ho : o.op = .alloc t) (hi : P.info? t = some i) (hz : i.zero = some z)
    (h : wpList P ops Q rest (a.put o.dst (.pointer (some ⟨w.heap.size, 0, none⟩))) (w.alloc (.cells z.cells t))) : wpList P ops Q (o :: rest) a w := by
  refine Go.Great.wpList_allocTo hg o.dst rfl _ _ ?_ h
  have hz0 : (zeroValue t).run P w = .ok z w := by
    unfold zeroValue
    simp [typeInfo, go_sem, hi, hz]
  unfold execOp
  simp [ho, go_sem, hz0]
end
/-- The forty flags, made and stored. -/
def mkW (wo : World) : World := (wo.alloc (.cells fl40.toArray 51)).setCells wo.heap.size 0 fl40.toArray.toList
theorem mkW_whole (wo : World) (T : List To) : Whole (mkW wo) wo.heap.size 51 (metL T 0 0) := by
  rw [metL_none]
  exact whole_all (Whole.new wo 51 fl40) rfl
theorem mkW_below (wo : World) : Below wo.heap.size wo (mkW wo) := below_store (grewAlloc (Below.refl _ _) _) (Nat.le_refl _) (Nat.le_refl _) 0 _
theorem mkW_size (wo : World) : (mkW wo).heap.size = wo.heap.size + 1 := by
  unfold mkW
  rw [size_setCells]; simp
theorem metR (wo w5 : World) (mb : Nat) (T : List To) (A5 : Option Addr) (c5 : Nat) (hmb : wo.heap.size = mb) (b5 : Below (mkW wo).heap.size (mkW wo) w5) (how : w5.ownsRow (mkW wo).heap.size 9 1 (.slice A5 T.length c5) T.length ((namesT T).map encStr)) : LgR wo w5 mb T A5 0 0 := by
  have hz := mkW_size wo
  refine ⟨grew (mkW_below wo) b5, by omega, ?_, nmAt_own how (by unfold namesT; simp) (by omega)⟩
  rw [← hmb]
  exact (mkW_whole wo T).below b5 (by omega)
end Go.Proofs.YtgogackkeodciaaGreat.W
end
