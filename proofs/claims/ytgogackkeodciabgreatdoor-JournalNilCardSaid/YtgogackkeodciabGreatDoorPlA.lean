/- A pool's segments as a list of owners (0: free); nothing of the program. What the calls of a pool come to; nothing of the program. A pool in memory; package pool's small calls. Which segments count: package pool's those, Free, Of. Package pool's New, Take, Claim, Give. Package pool's New; the small case that each law of layer 12 asks. -/
import Derived.WalkKit
import Derived.Test.YtgogackkeodciabGreatDoorFlat
import Derived.Test.YtgogackkeodciabGreatDoorProg
import Derived.Test.YtgogackkeodciabGreatDoorShelf
import Derived.Test.YtgogackkeodciabGreatDoorHdA
import Derived.Test.YtgogackkeodciabGreatDoorStops
import Derived.Test.YtgogackkeodciabGreatDoorCells
import Derived.Deep.LoopGhost
import Derived.Deep.RegionHeld3
import Derived.Lib.Slices
import Derived.Deep.AppendLies
import Derived.Deep.DrawnRows
import Derived.Deep.OwnRows
import Derived.OwnWalk
import Derived.BigQuiet
import Derived.Deep.QuietTactic
section
section
namespace Go.Proofs.YtgogackkeodciabGreatDoor.M
open Go.RowKit
set_option linter.unusedVariables false

/-- The lowest free segment, if k is it; that there is none. -/
def FirstAt (l : List Int) (k : Nat) : Prop := l[k]? = some 0 ∧ ∀ j : Nat, j < k → l[j]? ≠ some 0
def Full (l : List Int) : Prop := ∀ j : Nat, l[j]? ≠ some 0
theorem first_or (l : List Int) : (∃ k, FirstAt l k) ∨ Full l := by
  induction l with
  | nil => exact .inr (fun j => by simp)
  | cons o l ih =>
    by_cases h : o = 0
    · exact .inl ⟨0, by simp [h], fun j hj => by omega⟩
    · rcases ih with ⟨k, h1, h2⟩ | h1
      · refine .inl ⟨k + 1, by simpa using h1, fun j hj => ?_⟩
        cases j with
        | zero => simpa using h
        | succ j => simpa using h2 j (by omega)
      · refine .inr (fun j => ?_)
        cases j with
        | zero => simpa using h
        | succ j => simpa using h1 j
/-- How many are free; those of a log, rising. -/
def freeN (l : List Int) : Nat := l.count 0
def ofL (l : List Int) (g : Int) : List Nat := (List.range l.length).filter (fun i => l[i]? == some g)
theorem freeN_snoc (l : List Int) (o : Int) : freeN (l ++ [o]) = freeN l + if o = 0 then 1 else 0 := by
  unfold freeN
  rw [List.count_append]
  by_cases h : o = 0
  · subst h; simp
  · rw [if_neg h]; simp [h]
theorem ofL_snoc (l : List Int) (o g : Int) : ofL (l ++ [o]) g = if o = g then ofL l g ++ [l.length] else ofL l g := by
  unfold ofL
  rw [List.length_append, List.length_singleton, List.range_succ, List.filter_append]
  have e1 : (List.range l.length).filter (fun i => (l ++ [o])[i]? == some g) = (List.range l.length).filter (fun i => l[i]? == some g) := by
    apply List.filter_congr
    intro i hi
    rw [List.getElem?_append_left (by simpa using hi)]
  rw [e1]
  by_cases h : o = g
  · rw [if_pos h]; simp [h]
  · rw [if_neg h]; simp [h]
theorem ptake_snoc (l : List Int) (k : Nat) (o : Int) (h : l[k]? = some o) : l.take (k + 1) = l.take k ++ [o] := by
  rw [List.take_add_one, h]; rfl
theorem freeN_take (l : List Int) (k : Nat) (o : Int) (h : l[k]? = some o) : freeN (l.take (k + 1)) = freeN (l.take k) + if o = 0 then 1 else 0 := by
  rw [ptake_snoc l k o h, freeN_snoc]
theorem ofL_take (l : List Int) (k : Nat) (o g : Int) (h : l[k]? = some o) : ofL (l.take (k + 1)) g = if o = g then ofL (l.take k) g ++ [k] else ofL (l.take k) g := by
  have hk : k < l.length := (List.getElem?_eq_some_iff.1 h).1
  rw [ptake_snoc l k o h, ofL_snoc, List.length_take, Nat.min_eq_left (by omega)]
theorem freeN_le (l : List Int) : freeN l ≤ l.length := List.count_le_length
theorem ofL_le (l : List Int) (g : Int) : (ofL l g).length ≤ l.length := by
  unfold ofL
  exact Nat.le_trans (List.length_filter_le _ _) (by simp)
/-- A pool with a segment that is somebody else's, by parts. -/
theorem set_take (l : List Int) (i k : Nat) (g o : Int) (h : l[k]? = some o) : (l.set i g).take (k + 1) = (l.set i g).take k ++ [if k = i then g else o] := by
  have hk : k < l.length := (List.getElem?_eq_some_iff.1 h).1
  apply ptake_snoc
  by_cases e : k = i
  · subst e; rw [if_pos rfl, List.getElem?_set_self hk]
  · rw [if_neg e, List.getElem?_set_ne (by omega), h]
/-- Taken and given back, all is as it was. -/
theorem take_give (l : List Int) (k : Nat) (g : Int) (h : FirstAt l k) : (l.set k g).set k 0 = l := by
  have hk : k < l.length := (List.getElem?_eq_some_iff.1 h.1).1
  have e : l[k] = 0 := by
    have := h.1
    rw [List.getElem?_eq_getElem hk] at this
    exact Option.some.inj this
  rw [List.set_set]
  have e0 : l.set k l[k] = l := List.set_getElem_self hk
  conv => rhs; rw [← e0, e]
end Go.Proofs.YtgogackkeodciabGreatDoor.M
end
section
namespace Go.Proofs.YtgogackkeodciabGreatDoor.M
open Go.RowKit
open Go.Proofs.YtgogackkeodciabGreatDoor.D
set_option linter.unusedVariables false

/-- Owners as cells. -/
def rowP (l : List Int) : List Value := l.map (Value.int .i64)
theorem rowP_len (l : List Int) : (rowP l).length = l.length := by simp [rowP]
theorem rowP_at {l : List Int} {k : Nat} {o : Int} (h : l[k]? = some o) : (rowP l)[k]? = some (.int .i64 o) := by simp [rowP, h]
theorem rowP_set (l : List Int) (k : Nat) (g : Int) : (rowP l).set k (.int .i64 g) = rowP (l.set k g) := by unfold rowP; rw [List.map_set]
/-- All owners may be. -/
def GoodO (l : List Int) : Prop := ∀ o ∈ l, 0 ≤ o ∧ o ≤ 65535
theorem GoodO.set {l : List Int} (h : GoodO l) (k : Nat) {g : Int} (hg : 0 ≤ g ∧ g ≤ 65535) : GoodO (l.set k g) := fun o ho => by
  rcases List.mem_or_eq_of_mem_set ho with h1 | h1
  · exact h o h1
  · rw [h1]; exact hg
theorem GoodO.zero (n : Nat) : GoodO (List.replicate n 0) := fun o ho => by rw [List.eq_of_mem_replicate ho]; omega
theorem GoodO.at_ {l : List Int} (h : GoodO l) {k : Nat} {o : Int} (hk : l[k]? = some o) : 0 ≤ o ∧ o ≤ 65535 := h o (List.mem_of_getElem? hk)
def okG (g : Int) : Bool := decide (1 ≤ g ∧ g ≤ 65535)
/-- What a Take comes to: segment, stamp, error, owners and count. -/
def Tk (l : List Int) (ep ct : Nat) (g seg : Int) (st : Nat) (er : Int) (l' : List Int) (ct' : Nat) : Prop :=
  (okG g = false ∧ seg = 0 ∧ st = 0 ∧ er = 1 ∧ l' = l ∧ ct' = ct) ∨
  (okG g = true ∧ (Full l ∨ 65536 ≤ ct) ∧ seg = 0 ∧ st = 0 ∧ er = 32 ∧ l' = l ∧ ct' = ct) ∨
  (okG g = true ∧ ∃ k : Nat, FirstAt l k ∧ ct < 65536 ∧ seg = k ∧ st = 65536 * ep + ct ∧ er = 0 ∧ l' = l.set k g ∧ ct' = ct + 1)
theorem tk_any (l : List Int) (ep ct : Nat) (g : Int) : ∃ seg st er l' ct', Tk l ep ct g seg st er l' ct' := by
  cases hg : okG g with
  | false => exact ⟨0, 0, 1, l, ct, .inl ⟨hg, rfl, rfl, rfl, rfl, rfl⟩⟩
  | true =>
    by_cases hc : ct < 65536
    · rcases first_or l with ⟨k, hk⟩ | hf
      · exact ⟨k, _, 0, _, _, .inr (.inr ⟨hg, k, hk, hc, rfl, rfl, rfl, rfl, rfl⟩)⟩
      · exact ⟨0, 0, 32, l, ct, .inr (.inl ⟨hg, .inl hf, rfl, rfl, rfl, rfl, rfl⟩)⟩
    · exact ⟨0, 0, 32, l, ct, .inr (.inl ⟨hg, .inr (by omega), rfl, rfl, rfl, rfl, rfl⟩)⟩
theorem okG_good {g : Int} (h : okG g = true) : 0 ≤ g ∧ g ≤ 65535 := by unfold okG at h; simp at h; omega
theorem Tk.good {l : List Int} {ep ct : Nat} {g seg : Int} {st : Nat} {er : Int} {l' : List Int} {ct' : Nat} (h : Tk l ep ct g seg st er l' ct') (hg : GoodO l) : GoodO l' := by
  rcases h with ⟨_, _, _, _, rfl, _⟩ | ⟨_, _, _, _, _, rfl, _⟩ | ⟨ho, k, _, _, _, _, _, rfl, _⟩
  · exact hg
  · exact hg
  · exact hg.set k (okG_good ho)
theorem Tk.len {l : List Int} {ep ct : Nat} {g seg : Int} {st : Nat} {er : Int} {l' : List Int} {ct' : Nat} (h : Tk l ep ct g seg st er l' ct') : l'.length = l.length := by
  rcases h with ⟨_, _, _, _, rfl, _⟩ | ⟨_, _, _, _, _, rfl, _⟩ | ⟨_, k, _, _, _, _, _, rfl, _⟩ <;> simp
theorem Tk.count {l : List Int} {ep ct : Nat} {g seg : Int} {st : Nat} {er : Int} {l' : List Int} {ct' : Nat} (h : Tk l ep ct g seg st er l' ct') : ct' ≤ ct + 1 := by
  rcases h with ⟨_, _, _, _, _, rfl⟩ | ⟨_, _, _, _, _, _, rfl⟩ | ⟨_, k, _, _, _, _, _, _, rfl⟩ <;> omega
/-- What a Claim comes to. -/
def Cl (l : List Int) (s g er : Int) (l' : List Int) : Prop :=
  (¬ (0 ≤ s ∧ s < (l.length : Int)) ∧ er = 20 ∧ l' = l) ∨
  ((0 ≤ s ∧ s < (l.length : Int)) ∧ okG g = false ∧ er = 1 ∧ l' = l) ∨
  ((0 ≤ s ∧ s < (l.length : Int)) ∧ okG g = true ∧ (∃ o, l[s.toNat]? = some o ∧ o ≠ 0) ∧ er = 8 ∧ l' = l) ∨
  ((0 ≤ s ∧ s < (l.length : Int)) ∧ okG g = true ∧ l[s.toNat]? = some 0 ∧ er = 0 ∧ l' = l.set s.toNat g)
theorem cl_any (l : List Int) (s g : Int) : ∃ er l', Cl l s g er l' := by
  by_cases hs : 0 ≤ s ∧ s < (l.length : Int)
  · cases hg : okG g with
    | false => exact ⟨1, l, .inr (.inl ⟨hs, hg, rfl, rfl⟩)⟩
    | true =>
      have hk : s.toNat < l.length := by omega
      by_cases h0 : l[s.toNat] = 0
      · exact ⟨0, _, .inr (.inr (.inr ⟨hs, hg, by rw [List.getElem?_eq_getElem hk, h0], rfl, rfl⟩))⟩
      · exact ⟨8, l, .inr (.inr (.inl ⟨hs, hg, ⟨_, List.getElem?_eq_getElem hk, h0⟩, rfl, rfl⟩))⟩
  · exact ⟨20, l, .inl ⟨hs, rfl, rfl⟩⟩
theorem Cl.good {l : List Int} {s g er : Int} {l' : List Int} (h : Cl l s g er l') (hg : GoodO l) : GoodO l' := by
  rcases h with ⟨_, _, rfl⟩ | ⟨_, _, _, rfl⟩ | ⟨_, _, _, _, rfl⟩ | ⟨_, ho, _, _, rfl⟩
  · exact hg
  · exact hg
  · exact hg
  · exact hg.set _ (okG_good ho)
theorem Cl.len {l : List Int} {s g er : Int} {l' : List Int} (h : Cl l s g er l') : l'.length = l.length := by
  rcases h with ⟨_, _, rfl⟩ | ⟨_, _, _, rfl⟩ | ⟨_, _, _, _, rfl⟩ | ⟨_, _, _, _, rfl⟩ <;> simp
/-- What a Give comes to. -/
def Gv (l : List Int) (s er : Int) (l' : List Int) : Prop :=
  (¬ (0 ≤ s ∧ s < (l.length : Int)) ∧ er = 20 ∧ l' = l) ∨
  ((0 ≤ s ∧ s < (l.length : Int)) ∧ l[s.toNat]? = some 0 ∧ er = 6 ∧ l' = l) ∨
  ((0 ≤ s ∧ s < (l.length : Int)) ∧ (∃ o, l[s.toNat]? = some o ∧ o ≠ 0) ∧ er = 0 ∧ l' = l.set s.toNat 0)
theorem gv_any (l : List Int) (s : Int) : ∃ er l', Gv l s er l' := by
  by_cases hs : 0 ≤ s ∧ s < (l.length : Int)
  · have hk : s.toNat < l.length := by omega
    by_cases h0 : l[s.toNat] = 0
    · exact ⟨6, l, .inr (.inl ⟨hs, by rw [List.getElem?_eq_getElem hk, h0], rfl, rfl⟩)⟩
    · exact ⟨0, _, .inr (.inr ⟨hs, ⟨_, List.getElem?_eq_getElem hk, h0⟩, rfl, rfl⟩)⟩
  · exact ⟨20, l, .inl ⟨hs, rfl, rfl⟩⟩
theorem Gv.good {l : List Int} {s er : Int} {l' : List Int} (h : Gv l s er l') (hg : GoodO l) : GoodO l' := by
  rcases h with ⟨_, _, rfl⟩ | ⟨_, _, _, rfl⟩ | ⟨_, _, _, rfl⟩
  · exact hg
  · exact hg
  · exact hg.set _ (by omega)
theorem Gv.len {l : List Int} {s er : Int} {l' : List Int} (h : Gv l s er l') : l'.length = l.length := by
  rcases h with ⟨_, _, rfl⟩ | ⟨_, _, _, rfl⟩ | ⟨_, _, _, rfl⟩ <;> simp
/-- A log's segments, as both tell them; how many are free. -/
def ofP (l : List Int) (g : Int) : List Nat := if g = 0 then [] else ofL l g
theorem ofL_free_take (l : List Int) (k : Nat) (hk : k ≤ l.length) : (ofL (l.take k) 0).length = freeN (l.take k) := by
  induction k with
  | zero => rfl
  | succ k ih =>
    have h : l[k]? = some l[k] := List.getElem?_eq_getElem (by omega)
    rw [ofL_take l k _ 0 h, freeN_take l k _ h]
    by_cases h0 : l[k] = 0
    · rw [if_pos h0, if_pos h0, List.length_append, ih (by omega)]; rfl
    · rw [if_neg h0, if_neg h0, ih (by omega)]; rfl
theorem ofL_free (l : List Int) : (ofL l 0).length = freeN l := by
  have h := ofL_free_take l l.length (Nat.le_refl _)
  rwa [List.take_length] at h
theorem ofL_none_take {l : List Int} (h : GoodO l) {g : Int} (hg : ¬ (0 ≤ g ∧ g ≤ 65535)) (k : Nat) (hk : k ≤ l.length) : ofL (l.take k) g = [] := by
  induction k with
  | zero => rfl
  | succ k ih =>
    have h0 : l[k]? = some l[k] := List.getElem?_eq_getElem (by omega)
    rw [ofL_take l k _ g h0, if_neg (fun e => hg (by rw [← e]; exact h.at_ h0)), ih (by omega)]
theorem ofL_none {l : List Int} (h : GoodO l) {g : Int} (hg : ¬ (0 ≤ g ∧ g ≤ 65535)) : ofL l g = [] := by
  have e := ofL_none_take h hg l.length (Nat.le_refl _)
  rwa [List.take_length] at e
end Go.Proofs.YtgogackkeodciabGreatDoor.M
end
end
section
section
namespace Go.Proofs.YtgogackkeodciabGreatDoor.W
open Go.RowKit
open Go.Proofs.YtgogackkeodciabGreatDoor.M Go.Proofs.YtgogackkeodciabGreatDoor.D Go.Proofs.YtgogackkeodciabGreatDoor.Z
set_option linter.unusedVariables false

/-- A pool: its block b, its owners' block a. -/
structure Pl (w : World) (b a : Nat) (l : List Int) (ep ct : Nat) : Prop where
  box : Whole w b 63 [.slice (some ⟨a, 0, none⟩) l.length l.length, .int .i64 (ep : Int), .int .i64 (ct : Int)]
  row : Whole w a 3 (rowP l)
theorem Pl.c0 {w : World} {b a : Nat} {l : List Int} {ep ct : Nat} (h : Pl w b a l ep ct) : w.cell? ⟨b, 0, none⟩ = some (.slice (some ⟨a, 0, none⟩) l.length l.length) := h.box.cell 0
theorem Pl.c1 {w : World} {b a : Nat} {l : List Int} {ep ct : Nat} (h : Pl w b a l ep ct) : w.cell? ⟨b, 1, none⟩ = some (.int .i64 (ep : Int)) := h.box.cell 1
theorem Pl.c2 {w : World} {b a : Nat} {l : List Int} {ep ct : Nat} (h : Pl w b a l ep ct) : w.cell? ⟨b, 2, none⟩ = some (.int .i64 (ct : Int)) := h.box.cell 2
theorem Pl.at_ {w : World} {b a : Nat} {l : List Int} {ep ct : Nat} (h : Pl w b a l ep ct) {k : Nat} {o : Int} (hk : l[k]? = some o) : w.cell? ⟨a, k, none⟩ = some (.int .i64 o) := (h.row.cell k).trans (rowP_at hk)
theorem Pl.below {w w' : World} {b a B : Nat} {l : List Int} {ep ct : Nat} (h : Pl w b a l ep ct) (hb : Below B w w') (h1 : b < B) (h2 : a < B) : Pl w' b a l ep ct := ⟨h.box.below hb h1, h.row.below hb h2⟩
theorem Pl.grow {w w' : World} {b a : Nat} {l : List Int} {ep ct : Nat} (h : Pl w b a l ep ct) (hb : Below w.heap.size w w') : Pl w' b a l ep ct := ⟨h.box.below hb h.box.lt, h.row.below hb h.row.lt⟩
theorem Pl.ne {w : World} {b a : Nat} {l : List Int} {ep ct : Nat} (h : Pl w b a l ep ct) : b ≠ a := h.box.ne h.row (by decide)
theorem isLog_any (g : Int) (w : World) :
    Calls Tryz.prog 85 #[.int .i64 g] w fun e w' => e = .returned (.bool (okG g)) ∧ w = w' := by
  unfold okG
  go_enter Tryz.func85, Tryz.ntmps85
  by_cases h0 : 1 ≤ g
  · by_cases h1 : g ≤ 65535
    · rw [show decide (1 ≤ g ∧ g ≤ 65535) = true from by simp [h0, h1]]
      go_wp2_with fail
      go_ret
      exact ⟨rfl, rfl⟩
    · rw [show decide (1 ≤ g ∧ g ≤ 65535) = false from by simp [h1]]
      have h2 : 65535 < g := by omega
      go_wp2_with fail
      go_ret
      exact ⟨rfl, rfl⟩
  · rw [show decide (1 ≤ g ∧ g ≤ 65535) = false from by simp [h0]]
    have h2 : g < 1 := by omega
    go_wp2_with fail
    go_ret
    exact ⟨rfl, rfl⟩
section
variable {w : World} {b a : Nat} {l : List Int} {ep ct : Nat}
theorem pstamp_yes (h : Pl w b a l ep ct) (he : ep < 65536) (hc : ct < 65536) :
    Calls Tryz.prog 34 #[.pointer (some ⟨b, 0, none⟩)] w fun e w' => e = .returned (.tuple #[.int .u32 ((65536 * ep + ct : Nat) : Int), .int .i64 0]) ∧ Below w.heap.size w w' := by
  have c1 := h.c1
  have c2 := h.c2
  have hs := Lib.hid (fun W => stamp_yes ep ct W he hc)
  have d1 : w.drew.cell? ⟨b, 1, none⟩ = some (.int .i64 (ep : Int)) := c1
  have d2 : w.drew.cell? ⟨b, 2, none⟩ = some (.int .i64 (ct : Int)) := c2
  have hB := Lib.hid (drewS (Below.refl w.heap.size w) 1)
  clear h
  go_enter Tryz.func34, Tryz.ntmps34
  go_wp2_with fail
  go_region_held3 (fun w' => w'.cell? ⟨b, 1, none⟩ = some (.int .i64 (ep : Int)) ∧ w'.cell? ⟨b, 2, none⟩ = some (.int .i64 (ct : Int))) (first | exact ⟨c1, c2⟩ | exact ⟨d1, d2⟩) (first
    | (go_at_call 61; (with_reducible refine (hs.out _).mono ?_); rintro ee w1 ⟨rfl, rfl⟩))
  all_goals
    go_wp2_with fail
    go_ret2
    exact ⟨rfl, hB.out⟩
theorem pstamp_no (h : Pl w b a l ep ct) (hc : ¬ (ep < 65536 ∧ ct < 65536)) :
    Calls Tryz.prog 34 #[.pointer (some ⟨b, 0, none⟩)] w fun e w' => e = .returned (.tuple #[.int .u32 0, .int .i64 1]) ∧ Below w.heap.size w w' := by
  have c1 := h.c1
  have c2 := h.c2
  have hs := Lib.hid (fun W => stamp_no (ep : Int) ct W (by omega))
  have d1 : w.drew.cell? ⟨b, 1, none⟩ = some (.int .i64 (ep : Int)) := c1
  have d2 : w.drew.cell? ⟨b, 2, none⟩ = some (.int .i64 (ct : Int)) := c2
  have hB := Lib.hid (drewS (Below.refl w.heap.size w) 1)
  clear h
  go_enter Tryz.func34, Tryz.ntmps34
  go_wp2_with fail
  go_region_held3 (fun w' => w'.cell? ⟨b, 1, none⟩ = some (.int .i64 (ep : Int)) ∧ w'.cell? ⟨b, 2, none⟩ = some (.int .i64 (ct : Int))) (first | exact ⟨c1, c2⟩ | exact ⟨d1, d2⟩) (first
    | (go_at_call 61; (with_reducible refine (hs.out _).mono ?_); rintro ee w1 ⟨rfl, rfl⟩))
  all_goals
    go_wp2_with fail
    go_ret2
    exact ⟨rfl, hB.out⟩
theorem psize_any (h : Pl w b a l ep ct) :
    Calls Tryz.prog 99 #[.pointer (some ⟨b, 0, none⟩)] w fun e w' => e = .returned (.int .i64 (l.length : Int)) ∧ w = w' := by
  have c0 := h.c0
  generalize l.length = n at *
  clear h
  go_enter Tryz.func99, Tryz.ntmps99
  go_wp2_with fail
  go_ret
  exact ⟨rfl, rfl⟩
theorem phas_any (h : Pl w b a l ep ct) (s : Int) :
    Calls Tryz.prog 84 #[.pointer (some ⟨b, 0, none⟩), .int .i64 s] w fun e w' => e = .returned (.bool (decide (0 ≤ s ∧ s < (l.length : Int)))) ∧ w = w' := by
  have hz := Lib.hid (psize_any h)
  generalize l.length = n at *
  clear h
  go_enter Tryz.func84, Tryz.ntmps84
  by_cases h0 : 0 ≤ s
  · rw [show decide (0 ≤ s ∧ s < (n : Int)) = decide (s < (n : Int)) from by simp [h0]]
    go_wp2_with fail
    refine hz.out.mono ?_
    rintro ee w1 ⟨rfl, rfl⟩
    go_wp2_with fail
    go_ret
    exact ⟨rfl, rfl⟩
  · rw [show decide (0 ≤ s ∧ s < (n : Int)) = false from by simp [h0]]
    have h1 : s < 0 := by omega
    clear hz
    go_wp2_with fail
    go_ret
    exact ⟨rfl, rfl⟩
end
end Go.Proofs.YtgogackkeodciabGreatDoor.W
end
section
namespace Go.Proofs.YtgogackkeodciabGreatDoor.W
open Go.RowKit
open Go.Proofs.YtgogackkeodciabGreatDoor.M Go.Proofs.YtgogackkeodciabGreatDoor.D Go.Proofs.YtgogackkeodciabGreatDoor.Z
set_option linter.unusedVariables false

theorem infoI : (Tryz.prog.info? 3).map (fun i => (i.zero, i.size, i.bytes)) = some (some (.int .i64 0), 1, 8) := by kernel_rfl
def nv (k : Nat) : Value := .int .i64 (k : Int)
/-- A row of numbers that a call hands back. -/
def Told (w : World) (A : Option Addr) (xs : List Nat) : Prop := ∀ k x, xs[k]? = some x → ∃ g, A = some ⟨g, 0, none⟩ ∧ w.cell? ⟨g, k, none⟩ = some (nv x)
theorem Told.grow {w w' : World} {A : Option Addr} {xs : List Nat} (h : Told w A xs) (hb : Below w.heap.size w w') : Told w' A xs := fun k x hk => by
  obtain ⟨g, e, hc⟩ := h k x hk
  exact ⟨g, e, (hb.cell (World.block_lt_of_cell? w _ hc)).trans hc⟩
theorem own_told {w : World} {B : Nat} {v : Value} {xs : List Nat} (h : w.ownsRow B 3 1 v xs.length (xs.map nv)) : ∃ A c, v = .slice A xs.length c ∧ Told w A xs := by
  by_cases h0 : 0 < xs.length
  · obtain ⟨gg, c2, rfl, _, _, _, _, hcl⟩ := ownCells h0 h
    exact ⟨_, c2, rfl, fun k x hk => ⟨gg, rfl, hcl k _ (by rw [List.getElem?_map, hk]; rfl)⟩⟩
  · have e : xs = [] := List.eq_nil_of_length_eq_zero (by omega)
    subst e
    rcases h with ⟨_, ⟨rfl, _⟩ | ⟨g, cap, cur, rfl, _⟩⟩
    · exact ⟨none, 0, rfl, fun k x hk => by simp at hk⟩
    · exact ⟨some ⟨g, 0, none⟩, cap, rfl, fun k x hk => by simp at hk⟩
theorem those_nil (v : Value) (w : World) :
    Calls Tryz.prog 38 #[.pointer none, v] w fun e w' => e = .returned (.slice none 0 0) ∧ w = w' := by
  go_enter Tryz.func38, Tryz.ntmps38
  go_wp2_with fail
  go_ret
  exact ⟨rfl, rfl⟩
/-- What counts, step by step. -/
structure Steps (l : List Int) (P : Int → Bool) (T : Nat → List Nat) : Prop where
  zero : T 0 = []
  next : ∀ k o, l[k]? = some o → T (k + 1) = if P o = true then T k ++ [k] else T k
theorem Steps.len {l : List Int} {P : Int → Bool} {T : Nat → List Nat} (h : Steps l P T) (k : Nat) (hk : k ≤ l.length) : (T k).length ≤ k := by
  induction k with
  | zero => rw [h.zero]; exact Nat.le_refl _
  | succ k ih =>
    have ih := ih (by omega)
    rw [h.next k _ (List.getElem?_eq_getElem (by omega))]
    by_cases hp : P l[k] = true
    · rw [if_pos hp, List.length_append]; simp; omega
    · rw [if_neg hp]; omega
theorem steps_free (l : List Int) : Steps l (fun o => o == 0) (fun k => ofL (l.take k) 0) := ⟨rfl, fun k o hk => by
  show ofL (l.take (k + 1)) 0 = _
  rw [ofL_take l k o 0 hk]
  by_cases h : o = 0
  · rw [if_pos h, if_pos (by simp [h])]
  · rw [if_neg h, if_neg (by simp [h])]⟩
theorem steps_of (l : List Int) (g : Int) : Steps l (fun o => o == g && okG o) (fun k => if okG g = true then ofL (l.take k) g else []) := by
  refine ⟨by simp [ofL], fun k o hk => ?_⟩
  cases hg : okG g with
  | true =>
    simp only [if_true]
    rw [ofL_take l k o g hk]
    by_cases h : o = g
    · subst h; rw [if_pos rfl, if_pos (by simp [hg])]
    · rw [if_neg h, if_neg (by simp [h])]
  | false =>
    simp only [Bool.false_eq_true, if_false]
    rw [if_neg]
    intro h
    simp only [Bool.and_eq_true, beq_iff_eq] at h
    rw [← h.1, h.2] at hg
    exact absurd hg (by decide)
set_option maxHeartbeats 4000000 in
set_option maxRecDepth 100000 in
theorem those_free {w : World} {b a : Nat} {l : List Int} {ep ct : Nat} (h : Pl w b a l ep ct) (hn : l.length ≤ 64) (P : Int → Bool) (T : Nat → List Nat) (hS : Steps l P T) (gf : FuncId)
    (eg : ∀ args w, (callFunc gf args).run Tryz.prog w = .ok (.enter gf args) w) (hf : ∀ W : World, Below w.heap.size w W → ∀ o : Int, Calls Tryz.prog gf #[.int .i64 o] W fun e w' => e = .returned (.bool (P o)) ∧ W = w') :
    Calls Tryz.prog 38 #[.pointer (some ⟨b, 0, none⟩), .func (.func gf) #[] #[]] w fun e w' => ∃ A c, e = .returned (.slice A (T l.length).length c) ∧ Told w' A (T l.length) ∧ Below w.heap.size w w' ∧ (T l.length = [] → A = none ∧ c = 0) := by
  obtain ⟨is, his, hs0, hs1, hs2⟩ := info_parts infoI
  have c0 := h.c0
  have hcell : Hid (∀ W : World, Below w.heap.size w W → ∀ (k : Nat) (o : Int), l[k]? = some o → W.cell? ⟨a, k, none⟩ = some (.int .i64 o)) := Lib.hid (fun W hb k o hk => (h.grow hb).at_ hk)
  have hget : Hid (∀ k, k < l.length → ∃ o, l[k]? = some o) := Lib.hid (fun k hk => ⟨_, List.getElem?_eq_getElem hk⟩)
  have hlen := Lib.hid hS.len
  have hzero := hS.zero
  have hnext := Lib.hid hS.next
  have hB := Below.refl w.heap.size w
  generalize hnn : l.length = n at *
  replace hf := Lib.hid hf
  replace hnn := Lib.hid hnn
  clear h hS
  go_enter Tryz.func38, Tryz.ntmps38
  go_wp2_with fail
  go_loopg [5, 15] n (fun ga v i wr => ∃ k : Nat, k ≤ n ∧ n ≤ k + ga ∧ i = .int .i64 k ∧ Below w.heap.size w wr ∧ Hid (wr.ownsRow w.heap.size 3 1 v (T k).length ((T k).map nv)) ∧ Hid (T k = [] → v = .slice none 0 0))
  case atStart => exact ⟨0, by omega, by omega, rfl, hB, Lib.hid (by rw [hzero]; exact World.ownsRow_nil _ _ _ _), Lib.hid (fun _ => rfl)⟩
  case round =>
    clear hB hzero
    obtain ⟨k, hk, hg, rfl, hb, how, hem⟩ := hrel
    generalize wr = wq at *
    have hsq := hb.size
    by_cases hlt : k < n
    · obtain ⟨o, ho⟩ := hget.out k hlt
      have e1 := hcell.out wq hb k o ho
      have hfo := Lib.hid (hf.out wq hb o)
      have hnx := hnext.out k o ho
      have hlk := hlen.out k (by omega)
      cases hp : P o with
      | false =>
        rw [hp] at hfo
        rw [hp, if_neg (by decide)] at hnx
        replace hnx := Lib.hid hnx
        clear hp ho
        go_wp2_with fail
        refine hfo.out.mono ?_
        rintro ee w1 ⟨rfl, rfl⟩
        go_wp2_with fail
        go_roundg (gk - 1)
        case measure => omega
        case rel => exact ⟨k + 1, by omega, by omega, by go_num, hb, by rw [hnx.out]; exact how, by rw [hnx.out]; exact hem⟩
      | true =>
        rw [hp] at hfo
        rw [hp, if_pos rfl] at hnx
        replace hnx := Lib.hid hnx
        clear hp ho
        go_wp2_with fail
        refine hfo.out.mono ?_
        rintro ee w1 ⟨rfl, rfl⟩
        go_wp2_with (with_reducible refine zAppend _ _ _ rfl ?_)
        refine Lib.hid ?_
        refine wpList_append_lies _ rfl _ _ 60 rfl w.heap.size 3 is _ 1 8 Tryz.underlying60 his hs0 hs1 hs2 rfl (by omega) _ _ _ rfl (how.out.alloc _) _ 1 1 [.int .i64 k] rfl rfl (World.news_of_block (heap_alloc_new _ _)) (by simp [Value.oneCell']) (by omega) (by unfold maxLen; omega) (by omega) (by simp; omega) (wq.heap.size + 1) (by simp) ?_
        intro gg cap2 w5 hown5 hgrow5 hat5 hlt5
        have hb5 : Below w.heap.size w w5 := (((Kept.of_below (own := fun b => w.heap.size ≤ b) hb).alloc _).grown hgrow5 (fun k hk => .inl (ownFar how.out k hk))).below (Nat.le_refl _) (fun _ h => h)
        have hown6 : Hid (w5.ownsRow w.heap.size 3 1 (.slice (some ⟨gg, 0, none⟩) ((T k).length + 1) cap2) (T (k + 1)).length ((T (k + 1)).map nv)) := by
          rw [hnx.out, List.map_append, List.length_append]; exact Lib.hid hown5
        clear hown5 hgrow5 hat5 how hb
        go_wp2_with fail
        go_roundg (gk - 1)
        case measure => omega
        case rel => exact ⟨k + 1, by omega, by omega, by go_num, hb5, hown6, Lib.hid (fun e => by rw [hnx.out] at e; simp at e)⟩
    · obtain rfl : k = n := by omega
      obtain ⟨A, c, hv, htl⟩ := own_told how.out
      generalize u5 = v5 at *
      subst hv
      have hem2 : Hid (T k = [] → A = none ∧ c = 0) := Lib.hid (fun e => by
        have h := hem.out e
        simp at h
        exact ⟨h.1, h.2.2⟩)
      clear how hem
      go_wp2_with fail
      go_ret
      exact ⟨A, c, rfl, htl, hb, hem2.out⟩
set_option maxHeartbeats 4000000 in
set_option maxRecDepth 100000 in
theorem those_of {w : World} {b a : Nat} {l : List Int} {ep ct : Nat} (h : Pl w b a l ep ct) (hn : l.length ≤ 64) (P : Int → Bool) (T : Nat → List Nat) (hS : Steps l P T) (gf : FuncId) (q : Addr)
    (eg : ∀ args w, (callFunc gf args).run Tryz.prog w = .ok (.enter gf args) w) (hf : ∀ W : World, Below w.heap.size w W → ∀ o : Int, Calls Tryz.prog gf #[.int .i64 o, .pointer (some q)] W fun e w' => e = .returned (.bool (P o)) ∧ W = w') :
    Calls Tryz.prog 38 #[.pointer (some ⟨b, 0, none⟩), .func (.func gf) #[] #[.pointer (some q)]] w fun e w' => ∃ A c, e = .returned (.slice A (T l.length).length c) ∧ Told w' A (T l.length) ∧ Below w.heap.size w w' ∧ (T l.length = [] → A = none ∧ c = 0) := by
  obtain ⟨is, his, hs0, hs1, hs2⟩ := info_parts infoI
  have c0 := h.c0
  have hcell : Hid (∀ W : World, Below w.heap.size w W → ∀ (k : Nat) (o : Int), l[k]? = some o → W.cell? ⟨a, k, none⟩ = some (.int .i64 o)) := Lib.hid (fun W hb k o hk => (h.grow hb).at_ hk)
  have hget : Hid (∀ k, k < l.length → ∃ o, l[k]? = some o) := Lib.hid (fun k hk => ⟨_, List.getElem?_eq_getElem hk⟩)
  have hlen := Lib.hid hS.len
  have hzero := hS.zero
  have hnext := Lib.hid hS.next
  have hB := Below.refl w.heap.size w
  generalize hnn : l.length = n at *
  replace hf := Lib.hid hf
  replace hnn := Lib.hid hnn
  clear h hS
  go_enter Tryz.func38, Tryz.ntmps38
  go_wp2_with fail
  go_loopg [5, 15] n (fun ga v i wr => ∃ k : Nat, k ≤ n ∧ n ≤ k + ga ∧ i = .int .i64 k ∧ Below w.heap.size w wr ∧ Hid (wr.ownsRow w.heap.size 3 1 v (T k).length ((T k).map nv)) ∧ Hid (T k = [] → v = .slice none 0 0))
  case atStart => exact ⟨0, by omega, by omega, rfl, hB, Lib.hid (by rw [hzero]; exact World.ownsRow_nil _ _ _ _), Lib.hid (fun _ => rfl)⟩
  case round =>
    clear hB hzero
    obtain ⟨k, hk, hg, rfl, hb, how, hem⟩ := hrel
    generalize wr = wq at *
    have hsq := hb.size
    by_cases hlt : k < n
    · obtain ⟨o, ho⟩ := hget.out k hlt
      have e1 := hcell.out wq hb k o ho
      have hfo := Lib.hid (hf.out wq hb o)
      have hnx := hnext.out k o ho
      have hlk := hlen.out k (by omega)
      cases hp : P o with
      | false =>
        rw [hp] at hfo
        rw [hp, if_neg (by decide)] at hnx
        replace hnx := Lib.hid hnx
        clear hp ho
        go_wp2_with fail
        refine hfo.out.mono ?_
        rintro ee w1 ⟨rfl, rfl⟩
        go_wp2_with fail
        go_roundg (gk - 1)
        case measure => omega
        case rel => exact ⟨k + 1, by omega, by omega, by go_num, hb, by rw [hnx.out]; exact how, by rw [hnx.out]; exact hem⟩
      | true =>
        rw [hp] at hfo
        rw [hp, if_pos rfl] at hnx
        replace hnx := Lib.hid hnx
        clear hp ho
        go_wp2_with fail
        refine hfo.out.mono ?_
        rintro ee w1 ⟨rfl, rfl⟩
        go_wp2_with (with_reducible refine zAppend _ _ _ rfl ?_)
        refine Lib.hid ?_
        refine wpList_append_lies _ rfl _ _ 60 rfl w.heap.size 3 is _ 1 8 Tryz.underlying60 his hs0 hs1 hs2 rfl (by omega) _ _ _ rfl (how.out.alloc _) _ 1 1 [.int .i64 k] rfl rfl (World.news_of_block (heap_alloc_new _ _)) (by simp [Value.oneCell']) (by omega) (by unfold maxLen; omega) (by omega) (by simp; omega) (wq.heap.size + 1) (by simp) ?_
        intro gg cap2 w5 hown5 hgrow5 hat5 hlt5
        have hb5 : Below w.heap.size w w5 := (((Kept.of_below (own := fun b => w.heap.size ≤ b) hb).alloc _).grown hgrow5 (fun k hk => .inl (ownFar how.out k hk))).below (Nat.le_refl _) (fun _ h => h)
        have hown6 : Hid (w5.ownsRow w.heap.size 3 1 (.slice (some ⟨gg, 0, none⟩) ((T k).length + 1) cap2) (T (k + 1)).length ((T (k + 1)).map nv)) := by
          rw [hnx.out, List.map_append, List.length_append]; exact Lib.hid hown5
        clear hown5 hgrow5 hat5 how hb
        go_wp2_with fail
        go_roundg (gk - 1)
        case measure => omega
        case rel => exact ⟨k + 1, by omega, by omega, by go_num, hb5, hown6, Lib.hid (fun e => by rw [hnx.out] at e; simp at e)⟩
    · obtain rfl : k = n := by omega
      obtain ⟨A, c, hv, htl⟩ := own_told how.out
      generalize u5 = v5 at *
      subst hv
      have hem2 : Hid (T k = [] → A = none ∧ c = 0) := Lib.hid (fun e => by
        have h := hem.out e
        simp at h
        exact ⟨h.1, h.2.2⟩)
      clear how hem
      go_wp2_with fail
      go_ret
      exact ⟨A, c, rfl, htl, hb, hem2.out⟩
theorem free1_any (o : Int) (w : World) :
    Calls Tryz.prog 39 #[.int .i64 o] w fun e w' => e = .returned (.bool (o == 0)) ∧ w = w' := by
  go_enter Tryz.func39, Tryz.ntmps39
  go_wp2_with fail
  go_ret
  exact ⟨rfl, rfl⟩
theorem pfree_any {w : World} {b a : Nat} {l : List Int} {ep ct : Nat} (h : Pl w b a l ep ct) (hn : l.length ≤ 64) :
    Calls Tryz.prog 20 #[.pointer (some ⟨b, 0, none⟩)] w fun e w' => e = .returned (.int .i64 (freeN l : Nat)) ∧ Below w.heap.size w w' := by
  have ht := those_free h hn _ _ (steps_free l) 39 (fun _ _ => by kernel_rfl) (fun W _ o => free1_any o W)
  rw [show (ofL (l.take l.length) 0).length = freeN l from by rw [List.take_length]; exact ofL_free l] at ht
  replace ht := Lib.hid ht
  go_enter Tryz.func20, Tryz.ntmps20
  go_wp2_with fail
  refine ht.out.mono ?_
  rintro ee w1 ⟨A, c, rfl, _, hb, _⟩
  go_wp2_with fail
  go_ret
  exact ⟨rfl, hb⟩
theorem pfree_nil (w : World) :
    Calls Tryz.prog 20 #[.pointer none] w fun e w' => e = .returned (.int .i64 0) ∧ w = w' := by
  go_enter Tryz.func20, Tryz.ntmps20
  go_wp2_with fail
  refine (those_nil _ _).mono ?_
  rintro ee w1 ⟨rfl, rfl⟩
  go_wp2_with fail
  go_ret
  exact ⟨rfl, rfl⟩
/-- A log's segments, as the program tells them. -/
theorem of_good {l : List Int} (h : GoodO l) (g : Int) : (if okG g = true then ofL (l.take l.length) g else []) = ofP l g := by
  rw [List.take_length]
  unfold ofP
  cases hg : okG g with
  | true =>
    have : g ≠ 0 := by rintro rfl; exact absurd hg (by decide)
    rw [if_pos rfl, if_neg this]
  | false =>
    rw [if_neg (by decide)]
    by_cases h0 : g = 0
    · rw [if_pos h0]
    · rw [if_neg h0, ofL_none h]
      unfold okG at hg
      simp at hg
      omega
end Go.Proofs.YtgogackkeodciabGreatDoor.W
end
section
namespace Go.Proofs.YtgogackkeodciabGreatDoor.W
open Go.RowKit
open Go.Proofs.YtgogackkeodciabGreatDoor.M Go.Proofs.YtgogackkeodciabGreatDoor.D Go.Proofs.YtgogackkeodciabGreatDoor.Z
set_option linter.unusedVariables false

/-- What a call leaves that writes a pool. -/
theorem Pl.set {w : World} {b a : Nat} {l : List Int} {ep ct : Nat} (h : Pl w b a l ep ct) (k : Nat) (hk : k < l.length) (g : Int) : Pl (w.setCell ⟨a, k, none⟩ (.int .i64 g)) b a (l.set k g) ep ct := by
  refine ⟨?_, ?_⟩
  · have e := h.box.far (c := a) h.ne k [.int .i64 g]
    rw [List.length_set]
    exact e
  · have e := h.row.store k [.int .i64 g] (by rw [rowP_len]; simp; omega)
    rw [show splice (rowP l) k [.int .i64 g] = (rowP l).set k (.int .i64 g) from by
      unfold splice
      rw [List.set_eq_take_append_cons_drop, if_pos (by rw [rowP_len]; exact hk)]
      rfl, rowP_set] at e
    exact e
theorem Pl.count {w : World} {b a : Nat} {l : List Int} {ep ct : Nat} (h : Pl w b a l ep ct) (c : Nat) : Pl (w.setCell ⟨b, 2, none⟩ (.int .i64 (c : Int))) b a l ep c := by
  refine ⟨?_, h.row.far (c := b) (fun e => h.ne e.symm) 2 [.int .i64 (c : Int)]⟩
  have e := h.box.store 2 [.int .i64 (c : Int)] (by simp)
  exact e
def Own2 (b a : Nat) : Nat → Prop := fun q => q = b ∨ q = a
section
variable {w : World} {b a : Nat} {l : List Int} {ep ct : Nat}
theorem first_idx {k : Nat} (h : FirstAt l k) : Lib.idxOf (l.take l.length) 0 = (k : Int) := by
  have hk : k < l.length := (List.getElem?_eq_some_iff.1 h.1).1
  refine Lib.idxOf_hit l l.length k 0 hk (Nat.le_refl _) ?_ (fun j hj => ?_)
  · rw [List.getD, h.1]; rfl
  · have h2 := h.2 j hj
    rw [List.getElem?_eq_getElem (by omega)] at h2
    rw [List.getD, List.getElem?_eq_getElem (by omega)]
    exact fun e => h2 (congrArg some e)
theorem full_idx (h : Full l) : Lib.idxOf (l.take l.length) 0 = -1 := by
  refine Lib.idxOf_miss l l.length 0 (fun j hj => ?_)
  have h2 := h j
  rw [List.getElem?_eq_getElem hj] at h2
  rw [List.getD, List.getElem?_eq_getElem hj]
  exact fun e => h2 (congrArg some e)
theorem pindex_any (h : Pl w b a l ep ct) (hn : l.length ≤ 64) :
    Calls Tryz.prog 100 #[.slice (some ⟨a, 0, none⟩) l.length l.length, .int .i64 0] w fun e w' => e = .returned (.int .i64 (Lib.idxOf (l.take l.length) 0)) ∧ w' = w :=
  Tryz.slices_Index_int a 0 l.length l.length l 0 w (Nat.le_refl _) (by omega) (fun j hj => by
    rw [Nat.zero_add]
    rw [List.getD, List.getElem?_eq_getElem hj]
    exact h.at_ (List.getElem?_eq_getElem hj))
theorem ptake_done (h : Pl w b a l ep ct) (hn : l.length ≤ 64) (he : ep < 65536) (hc : ct < 65536) (g : Int) (hg : okG g = true) (k : Nat) (hk : FirstAt l k) :
    Calls Tryz.prog 86 #[.pointer (some ⟨b, 0, none⟩), .int .i64 g] w fun e w' => e = .returned (.tuple #[.int .i64 (k : Int), .int .u32 ((65536 * ep + ct : Nat) : Int), .int .i64 0]) ∧ Pl w' b a (l.set k g) ep (ct + 1) ∧ Kept (Own2 b a) w w' := by
  have hkl : k < l.length := (List.getElem?_eq_some_iff.1 hk.1).1
  have hix := pindex_any h hn
  rw [first_idx hk] at hix
  have hlg := fun W => isLog_any g W
  rw [hg] at hlg
  have hst := Lib.hid (fun (W : World) (hb : Below w.heap.size w W) => pstamp_yes (h.grow hb) he hc)
  have c0 := h.c0
  have h2 : (k : Int) < (l.length : Int) := by omega
  have hk0 := Lib.hid hk.1
  have hpl := Lib.hid h
  have hnl := Lib.hid hn
  generalize hnn : l.length = n at *
  replace hix := Lib.hid hix
  replace hlg := Lib.hid hlg
  clear h hn hk hg
  go_enter Tryz.func86, Tryz.ntmps86
  go_wp2_with fail
  refine (hlg.out _).mono ?_
  rintro ee w1 ⟨rfl, rfl⟩
  go_wp2_with fail
  refine hix.out.mono ?_
  rintro ee w1 ⟨rfl, rfl⟩
  go_wp2_with fail
  refine (hst.out _ (Below.refl _ _)).mono ?_
  rintro ee w2 ⟨rfl, hb2⟩
  have hp2 := hpl.out.grow hb2
  have d0 : w2.cell? ⟨b, 0, none⟩ = some (.slice (some ⟨a, 0, none⟩) n n) := by rw [← hnn]; exact hp2.c0
  have d2 := hp2.c2
  have dk := hp2.at_ hk0.out
  have dfr := hp2.row.frozen k
  have hp3 := hp2.set k (by rw [hnn]; exact hkl) g
  have e2 := hp3.c2
  have e2f := hp3.box.frozen 2
  have hp4 := Lib.hid (hp3.count (ct + 1))
  have hk4 := Lib.hid (((Kept.of_below (own := Own2 b a) hb2).setCell (c := a) (.inl (.inr rfl)) k (.int .i64 g)).setCell (c := b) (.inl (.inl rfl)) 2 (.int .i64 ((ct + 1 : Nat) : Int)))
  clear hp2 hp3 hpl hst hb2
  go_wp2_with fail
  go_ret3
  exact ⟨rfl, hp4.out, hk4.out⟩
theorem ptake_none (h : Pl w b a l ep ct) (hn : l.length ≤ 64) (he : ep < 65536) (g : Int) (hg : okG g = true) (hf : Full l ∨ 65536 ≤ ct) :
    Calls Tryz.prog 86 #[.pointer (some ⟨b, 0, none⟩), .int .i64 g] w fun e w' => e = .returned (.tuple #[.int .i64 0, .int .u32 0, .int .i64 32]) ∧ Below w.heap.size w w' := by
  have hix := pindex_any h hn
  have hlg := fun W => isLog_any g W
  rw [hg] at hlg
  have c0 := h.c0
  by_cases hc : ct < 65536
  · have hfl : Full l := by
      rcases hf with h1 | h1
      · exact h1
      · omega
    rw [full_idx hfl] at hix
    have hst := Lib.hid (pstamp_yes h he hc)
    generalize hnn : l.length = n at *
    replace hix := Lib.hid hix
    replace hlg := Lib.hid hlg
    clear h hn hg hf hfl
    go_enter Tryz.func86, Tryz.ntmps86
    go_wp2_with fail
    refine (hlg.out _).mono ?_
    rintro ee w1 ⟨rfl, rfl⟩
    go_wp2_with fail
    refine hix.out.mono ?_
    rintro ee w1 ⟨rfl, rfl⟩
    go_wp2_with fail
    refine hst.out.mono ?_
    rintro ee w2 ⟨rfl, hb2⟩
    go_wp2_with fail
    go_ret3
    exact ⟨rfl, hb2⟩
  · have hst := Lib.hid (pstamp_no h (fun e => hc e.2))
    generalize hnn : l.length = n at *
    obtain ⟨i, hi⟩ : ∃ i, Hid (Lib.idxOf (l.take n) 0 = i) := ⟨_, Lib.hid rfl⟩
    rw [hi.out] at hix
    replace hix := Lib.hid hix
    replace hlg := Lib.hid hlg
    clear h hn hg hf hi
    by_cases hi0 : i < 0
    · go_enter Tryz.func86, Tryz.ntmps86
      go_wp2_with fail
      refine (hlg.out _).mono ?_
      rintro ee w1 ⟨rfl, rfl⟩
      go_wp2_with fail
      refine hix.out.mono ?_
      rintro ee w1 ⟨rfl, rfl⟩
      go_wp2_with fail
      refine hst.out.mono ?_
      rintro ee w2 ⟨rfl, hb2⟩
      go_wp2_with fail
      go_ret3
      exact ⟨rfl, hb2⟩
    · have hi1 : 0 ≤ i := by omega
      go_enter Tryz.func86, Tryz.ntmps86
      go_wp2_with fail
      refine (hlg.out _).mono ?_
      rintro ee w1 ⟨rfl, rfl⟩
      go_wp2_with fail
      refine hix.out.mono ?_
      rintro ee w1 ⟨rfl, rfl⟩
      go_wp2_with fail
      refine hst.out.mono ?_
      rintro ee w2 ⟨rfl, hb2⟩
      go_wp2_with fail
      go_ret3
      exact ⟨rfl, hb2⟩
theorem ptake_arg (g : Int) (hg : okG g = false) (w : World) :
    Calls Tryz.prog 86 #[.pointer (some ⟨b, 0, none⟩), .int .i64 g] w fun e w' => e = .returned (.tuple #[.int .i64 0, .int .u32 0, .int .i64 1]) ∧ w = w' := by
  have hlg := fun W => isLog_any g W
  rw [hg] at hlg
  replace hlg := Lib.hid hlg
  clear hg
  go_enter Tryz.func86, Tryz.ntmps86
  go_wp2_with fail
  refine (hlg.out _).mono ?_
  rintro ee w1 ⟨rfl, rfl⟩
  go_wp2_with fail
  go_ret3
  exact ⟨rfl, rfl⟩
theorem ptake_nil (g : Int) (w : World) :
    Calls Tryz.prog 86 #[.pointer none, .int .i64 g] w fun e w' => e = .returned (.tuple #[.int .i64 0, .int .u32 0, .int .i64 7]) ∧ w = w' := by
  go_enter Tryz.func86, Tryz.ntmps86
  go_wp2_with fail
  go_ret3
  exact ⟨rfl, rfl⟩
theorem ptake_any (h : Pl w b a l ep ct) (hn : l.length ≤ 64) (he : ep < 65536) {g seg : Int} {st : Nat} {er : Int} {l' : List Int} {ct' : Nat} (ht : Tk l ep ct g seg st er l' ct') :
    Calls Tryz.prog 86 #[.pointer (some ⟨b, 0, none⟩), .int .i64 g] w fun e w' => e = .returned (.tuple #[.int .i64 seg, .int .u32 (st : Int), .int .i64 er]) ∧ Pl w' b a l' ep ct' ∧ Kept (Own2 b a) w w' := by
  rcases ht with ⟨hg, rfl, rfl, rfl, rfl, rfl⟩ | ⟨hg, hf, rfl, rfl, rfl, rfl, rfl⟩ | ⟨hg, k, hk, hc, rfl, rfl, rfl, rfl, rfl⟩
  · exact (ptake_arg g hg w).mono fun e w' ⟨h1, h2⟩ => ⟨h1, h2 ▸ h, h2 ▸ Kept.refl _ _⟩
  · exact (ptake_none h hn he g hg hf).mono fun e w' ⟨h1, h2⟩ => ⟨h1, h.grow h2, Kept.of_below h2⟩
  · exact ptake_done h hn he hc g hg k hk
theorem phas_lit (h : Pl w b a l ep ct) (s : Int) (r : Bool) (hr : decide (0 ≤ s ∧ s < (l.length : Int)) = r) :
    Calls Tryz.prog 84 #[.pointer (some ⟨b, 0, none⟩), .int .i64 s] w fun e w' => e = .returned (.bool r) ∧ w = w' := by
  have e := phas_any h s
  rwa [hr] at e
theorem pclaim_nil (s g : Int) (w : World) :
    Calls Tryz.prog 71 #[.pointer none, .int .i64 s, .int .i64 g] w fun e w' => e = .returned (.int .i64 7) ∧ w = w' := by
  go_enter Tryz.func71, Tryz.ntmps71
  go_wp2_with fail
  go_ret
  exact ⟨rfl, rfl⟩
theorem pgive_nil (s : Int) (w : World) :
    Calls Tryz.prog 72 #[.pointer none, .int .i64 s] w fun e w' => e = .returned (.int .i64 7) ∧ w = w' := by
  go_enter Tryz.func72, Tryz.ntmps72
  go_wp2_with fail
  go_ret
  exact ⟨rfl, rfl⟩
theorem psize_nil (w : World) :
    Calls Tryz.prog 99 #[.pointer none] w fun e w' => e = .returned (.int .i64 0) ∧ w = w' := by
  go_enter Tryz.func99, Tryz.ntmps99
  go_wp2_with fail
  go_ret
  exact ⟨rfl, rfl⟩
theorem phas_nil (s : Int) (w : World) :
    Calls Tryz.prog 84 #[.pointer none, .int .i64 s] w fun e w' => e = .returned (.bool false) ∧ w = w' := by
  have hz := Lib.hid (psize_nil w)
  go_enter Tryz.func84, Tryz.ntmps84
  by_cases h0 : 0 ≤ s
  · have h1 : decide (s < 0) = false := by simp; omega
    go_wp2_with fail
    refine hz.out.mono ?_
    rintro ee w1 ⟨rfl, rfl⟩
    go_wp2_with fail
    go_ret
    exact ⟨rfl, rfl⟩
  · have h1 : s < 0 := by omega
    clear hz
    go_wp2_with fail
    go_ret
    exact ⟨rfl, rfl⟩
theorem pclaim_any (h : Pl w b a l ep ct) {s g er : Int} {l' : List Int} (hc : Cl l s g er l') :
    Calls Tryz.prog 71 #[.pointer (some ⟨b, 0, none⟩), .int .i64 s, .int .i64 g] w fun e w' => e = .returned (.int .i64 er) ∧ Pl w' b a l' ep ct ∧ Kept (Own2 b a) w w' := by
  have hlg := fun W => isLog_any g W
  have c0 := h.c0
  rcases hc with ⟨hs, rfl, rfl⟩ | ⟨hs, hg, rfl, rfl⟩ | ⟨hs, hg, ⟨o, ho, h0⟩, rfl, rfl⟩ | ⟨hs, hg, ho, rfl, rfl⟩
  · have hz := Lib.hid (phas_lit h s false (by rw [decide_eq_false_iff_not]; exact hs))
    have hk := Lib.hid (And.intro h (Kept.refl (Own2 b a) w))
    clear h hs hlg
    go_enter Tryz.func71, Tryz.ntmps71
    go_wp2_with fail
    refine hz.out.mono ?_
    rintro ee w1 ⟨rfl, rfl⟩
    go_wp2_with fail
    go_ret
    exact ⟨rfl, hk.out⟩
  · have hz := Lib.hid (phas_lit h s true (by rw [decide_eq_true_iff]; exact hs))
    have hk := Lib.hid (And.intro h (Kept.refl (Own2 b a) w))
    rw [hg] at hlg
    replace hlg := Lib.hid hlg
    clear h hs hg
    go_enter Tryz.func71, Tryz.ntmps71
    go_wp2_with fail
    refine hz.out.mono ?_
    rintro ee w1 ⟨rfl, rfl⟩
    go_wp2_with fail
    refine (hlg.out _).mono ?_
    rintro ee w1 ⟨rfl, rfl⟩
    go_wp2_with fail
    go_ret
    exact ⟨rfl, hk.out⟩
  · have hz := Lib.hid (phas_lit h s true (by rw [decide_eq_true_iff]; exact hs))
    have hk := Lib.hid (And.intro h (Kept.refl (Own2 b a) w))
    rw [hg] at hlg
    replace hlg := Lib.hid hlg
    obtain ⟨k, rfl⟩ : ∃ k : Nat, s = (k : Int) := ⟨s.toNat, by omega⟩
    rw [Int.toNat_natCast] at ho
    have c3 := h.at_ ho
    have h2 : (k : Int) < (l'.length : Int) := hs.2
    have h3 : (o != 0) = true := by simp [h0]
    generalize l'.length = n at *
    clear h hs hg ho h0
    go_enter Tryz.func71, Tryz.ntmps71
    go_wp2_with fail
    refine hz.out.mono ?_
    rintro ee w1 ⟨rfl, rfl⟩
    go_wp2_with fail
    refine (hlg.out _).mono ?_
    rintro ee w1 ⟨rfl, rfl⟩
    go_wp2_with fail
    go_ret
    exact ⟨rfl, hk.out⟩
  · have hz := Lib.hid (phas_lit h s true (by rw [decide_eq_true_iff]; exact hs))
    rw [hg] at hlg
    replace hlg := Lib.hid hlg
    obtain ⟨k, rfl⟩ : ∃ k : Nat, s = (k : Int) := ⟨s.toNat, by omega⟩
    rw [Int.toNat_natCast] at ho ⊢
    have c3 := h.at_ ho
    have cf := h.row.frozen k
    have h2 : (k : Int) < (l.length : Int) := hs.2
    have hk := Lib.hid (And.intro (h.set k (by omega) g) ((Kept.refl (Own2 b a) w).setCell (c := a) (.inl (.inr rfl)) k (.int .i64 g)))
    generalize l.length = n at *
    clear h hs hg ho
    go_enter Tryz.func71, Tryz.ntmps71
    go_wp2_with fail
    refine hz.out.mono ?_
    rintro ee w1 ⟨rfl, rfl⟩
    go_wp2_with fail
    refine (hlg.out _).mono ?_
    rintro ee w1 ⟨rfl, rfl⟩
    go_wp2_with fail
    go_ret
    exact ⟨rfl, hk.out⟩
theorem pgive_any (h : Pl w b a l ep ct) {s er : Int} {l' : List Int} (hc : Gv l s er l') :
    Calls Tryz.prog 72 #[.pointer (some ⟨b, 0, none⟩), .int .i64 s] w fun e w' => e = .returned (.int .i64 er) ∧ Pl w' b a l' ep ct ∧ Kept (Own2 b a) w w' := by
  have c0 := h.c0
  rcases hc with ⟨hs, rfl, rfl⟩ | ⟨hs, ho, rfl, rfl⟩ | ⟨hs, ⟨o, ho, h0⟩, rfl, rfl⟩
  · have hz := Lib.hid (phas_lit h s false (by rw [decide_eq_false_iff_not]; exact hs))
    have hk := Lib.hid (And.intro h (Kept.refl (Own2 b a) w))
    clear h hs
    go_enter Tryz.func72, Tryz.ntmps72
    go_wp2_with fail
    refine hz.out.mono ?_
    rintro ee w1 ⟨rfl, rfl⟩
    go_wp2_with fail
    go_ret
    exact ⟨rfl, hk.out⟩
  · have hz := Lib.hid (phas_lit h s true (by rw [decide_eq_true_iff]; exact hs))
    have hk := Lib.hid (And.intro h (Kept.refl (Own2 b a) w))
    obtain ⟨k, rfl⟩ : ∃ k : Nat, s = (k : Int) := ⟨s.toNat, by omega⟩
    rw [Int.toNat_natCast] at ho
    have c3 := h.at_ ho
    have h2 : (k : Int) < (l'.length : Int) := hs.2
    generalize l'.length = n at *
    clear h hs ho
    go_enter Tryz.func72, Tryz.ntmps72
    go_wp2_with fail
    refine hz.out.mono ?_
    rintro ee w1 ⟨rfl, rfl⟩
    go_wp2_with fail
    go_ret
    exact ⟨rfl, hk.out⟩
  · have hz := Lib.hid (phas_lit h s true (by rw [decide_eq_true_iff]; exact hs))
    obtain ⟨k, rfl⟩ : ∃ k : Nat, s = (k : Int) := ⟨s.toNat, by omega⟩
    rw [Int.toNat_natCast] at ho ⊢
    have c3 := h.at_ ho
    have cf := h.row.frozen k
    have h2 : (k : Int) < (l.length : Int) := hs.2
    have h3 : (o == 0) = false := by simp [h0]
    have hk := Lib.hid (And.intro (h.set k (by omega) 0) ((Kept.refl (Own2 b a) w).setCell (c := a) (.inl (.inr rfl)) k (.int .i64 0)))
    generalize l.length = n at *
    clear h hs ho h0
    go_enter Tryz.func72, Tryz.ntmps72
    go_wp2_with fail
    refine hz.out.mono ?_
    rintro ee w1 ⟨rfl, rfl⟩
    go_wp2_with fail
    go_ret
    exact ⟨rfl, hk.out⟩
end
end Go.Proofs.YtgogackkeodciabGreatDoor.W
end
section
namespace Go.Proofs.YtgogackkeodciabGreatDoor.W
open Go.RowKit
open Go.Proofs.YtgogackkeodciabGreatDoor.M Go.Proofs.YtgogackkeodciabGreatDoor.D Go.Proofs.YtgogackkeodciabGreatDoor.Z
set_option linter.unusedVariables false

theorem made_zero (n : Nat) : (madeCells #[Value.int .i64 0] n).toList = rowP (List.replicate n 0) := by
  apply List.ext_getElem?
  intro j
  by_cases hj : j < n
  · simp [madeCells, rowP, hj, Nat.mod_one]
  · simp [madeCells, rowP, hj]
theorem make_ints (n : Nat) (hn : n ≤ 64) (W : World) : ∃ cs : Array Value, cs.toList = rowP (List.replicate n 0) ∧ (Instr.makeSlice 60 (.int .i64 (n : Int)) (.int .i64 (n : Int))).run Tryz.prog W = .ok (.slice (some ⟨W.heap.size, 0, none⟩) n n) (W.alloc (.cells cs 3)) :=
  ⟨_, made_zero n, run_make_row' (P := Tryz.prog) 60 3 (.int .i64 0) 8 Tryz.underlying60 infoI rfl .i64 .i64 n (by omega) (by omega) W⟩
theorem pstamp_raw (b : Nat) (e c : Int) (w : World) (c1 : w.cell? ⟨b, 1, none⟩ = some (.int .i64 e)) (c2 : w.cell? ⟨b, 2, none⟩ = some (.int .i64 c)) (hc : ¬ (0 ≤ e ∧ e ≤ 65535 ∧ 0 ≤ c ∧ c ≤ 65535)) :
    Calls Tryz.prog 34 #[.pointer (some ⟨b, 0, none⟩)] w fun x w' => x = .returned (.tuple #[.int .u32 0, .int .i64 1]) ∧ Below w.heap.size w w' := by
  have hs := Lib.hid (fun W => stamp_no e c W hc)
  have d1 : w.drew.cell? ⟨b, 1, none⟩ = some (.int .i64 e) := c1
  have d2 : w.drew.cell? ⟨b, 2, none⟩ = some (.int .i64 c) := c2
  have hB := Lib.hid (drewS (Below.refl w.heap.size w) 1)
  go_enter Tryz.func34, Tryz.ntmps34
  go_wp2_with fail
  go_region_held3 (fun w' => w'.cell? ⟨b, 1, none⟩ = some (.int .i64 e) ∧ w'.cell? ⟨b, 2, none⟩ = some (.int .i64 c)) (first | exact ⟨c1, c2⟩ | exact ⟨d1, d2⟩) (first
    | (go_at_call 61; (with_reducible refine (hs.out _).mono ?_); rintro ee w1 ⟨rfl, rfl⟩))
  all_goals
    go_wp2_with fail
    go_ret2
    exact ⟨rfl, hB.out⟩
set_option maxRecDepth 100000 in
theorem pnew_yes (n ep : Nat) (w : World) (h1 : 6 ≤ n) (h2 : n ≤ 64) (he : ep < 65536) :
    Calls Tryz.prog 16 #[.int .i64 (n : Int), .int .i64 (ep : Int)] w fun x w' => x = .returned (.tuple #[.pointer (some ⟨w.heap.size + 1, 0, none⟩), .int .i64 0]) ∧ Pl w' (w.heap.size + 1) w.heap.size (List.replicate n 0) ep 0 ∧ Below w.heap.size w w' := by
  obtain ⟨cs, hcs, hmk⟩ := make_ints n h2 w
  have hR : Whole (w.alloc (.cells cs 3)) w.heap.size 3 (rowP (List.replicate n 0)) := by
    have h := Whole.new w 3 (rowP (List.replicate n 0))
    rw [← hcs] at h ⊢
    exact h
  have hb1 := (Below.refl w.heap.size w).alloc (Nat.le_refl _) (.cells cs 3)
  have hz1 : (w.alloc (.cells cs 3)).heap.size = w.heap.size + 1 := by simp
  have hbox := Whole.new (w.alloc (.cells cs 3)) 63 [.slice (some ⟨w.heap.size, 0, none⟩) n n, .int .i64 (ep : Int), .int .i64 0]
  rw [hz1] at hbox
  have hP : Pl ((w.alloc (.cells cs 3)).alloc (.cells #[.slice (some ⟨w.heap.size, 0, none⟩) n n, .int .i64 (ep : Int), .int .i64 0] 63)) (w.heap.size + 1) w.heap.size (List.replicate n 0) ep 0 := by
    refine ⟨?_, hR.alloc _⟩
    rw [List.length_replicate]
    exact hbox
  have hst := Lib.hid (pstamp_yes hP he (by decide))
  have hB := Lib.hid (grewAlloc hb1 (.cells #[.slice (some ⟨w.heap.size, 0, none⟩) n n, .int .i64 (ep : Int), .int .i64 0] 63))
  replace hP := Lib.hid hP
  have i1 : (6 : Int) ≤ (n : Int) := by omega
  have i2 : (n : Int) ≤ 64 := by omega
  clear hR hb1 hz1 hbox hcs
  go_enter Tryz.func16, Tryz.ntmps16
  go_wp2_with fail
  refine hst.out.mono ?_
  rintro ee w2 ⟨rfl, hb2⟩
  go_wp2_with fail
  go_ret2
  exact ⟨rfl, hP.out.grow hb2, grew hB.out hb2⟩
set_option maxRecDepth 100000 in
theorem pnew_no (s e : Int) (w : World) (h : ¬ (6 ≤ s ∧ s ≤ 64 ∧ 0 ≤ e ∧ e ≤ 65535)) :
    Calls Tryz.prog 16 #[.int .i64 s, .int .i64 e] w fun x w' => x = .returned (.tuple #[.pointer none, .int .i64 1]) ∧ Below w.heap.size w w' := by
  by_cases h1 : 6 ≤ s
  · by_cases h2 : s ≤ 64
    · obtain ⟨n, rfl⟩ : ∃ n : Nat, s = (n : Int) := ⟨s.toNat, by omega⟩
      obtain ⟨cs, hcs, hmk⟩ := make_ints n (by omega) w
      have hb1 := (Below.refl w.heap.size w).alloc (Nat.le_refl _) (.cells cs 3)
      have hz1 : (w.alloc (.cells cs 3)).heap.size = w.heap.size + 1 := by simp
      have hbox := Whole.new (w.alloc (.cells cs 3)) 63 [.slice (some ⟨w.heap.size, 0, none⟩) n n, .int .i64 e, .int .i64 0]
      rw [hz1] at hbox
      have hst := Lib.hid (pstamp_raw (w.heap.size + 1) e 0 _ (hbox.cell 1) (hbox.cell 2) (by omega))
      have hB := Lib.hid (grewAlloc hb1 (.cells #[.slice (some ⟨w.heap.size, 0, none⟩) n n, .int .i64 e, .int .i64 0] 63))
      clear hb1 hz1 hbox hcs h
      go_enter Tryz.func16, Tryz.ntmps16
      go_wp2_with fail
      refine hst.out.mono ?_
      rintro ee w2 ⟨rfl, hb2⟩
      go_wp2_with fail
      go_ret2
      exact ⟨rfl, grew hB.out hb2⟩
    · have h3 : 64 < s := by omega
      clear h
      go_enter Tryz.func16, Tryz.ntmps16
      go_wp2_with fail
      go_ret2
      exact ⟨rfl, Below.refl _ _⟩
  · have h3 : s < 6 := by omega
    clear h
    go_enter Tryz.func16, Tryz.ntmps16
    go_wp2_with fail
    go_ret2
    exact ⟨rfl, Below.refl _ _⟩
/-- The lists of the small case. -/
def six0 : List Int := List.replicate 6 0
def six1 : List Int := six0.set 0 4
def six2 : List Int := six1.set 1 5
def six3 : List Int := six2.set 0 0
def six4 : List Int := six3.set 0 4
theorem six_t1 : Tk six0 2 0 4 0 131072 0 six1 1 := .inr (.inr ⟨rfl, 0, ⟨rfl, fun j hj => by omega⟩, by decide, rfl, rfl, rfl, rfl, rfl⟩)
theorem six_t2 : Tk six1 2 1 5 1 131073 0 six2 2 := .inr (.inr ⟨rfl, 1, ⟨rfl, fun j hj => match j, hj with | 0, _ => by decide⟩, by decide, rfl, rfl, rfl, rfl, rfl⟩)
theorem six_g : Gv six2 0 0 six3 := .inr (.inr ⟨by decide, ⟨4, rfl, by decide⟩, rfl, rfl⟩)
theorem six_t3 : Tk six3 2 2 4 0 131074 0 six4 3 := .inr (.inr ⟨rfl, 0, ⟨rfl, fun j hj => by omega⟩, by decide, rfl, rfl, rfl, rfl, rfl⟩)
theorem kept_pl {b a B : Nat} {w w0 w' : World} (hB : Below B w0 w) (hs : B ≤ w.heap.size) (h1 : B ≤ b) (h2 : B ≤ a) (hk : Kept (Own2 b a) w w') : Below B w0 w' :=
  hB.trans (hk.below hs (fun k hk => by rcases hk with rfl | rfl <;> assumption))
end Go.Proofs.YtgogackkeodciabGreatDoor.W
end
end
