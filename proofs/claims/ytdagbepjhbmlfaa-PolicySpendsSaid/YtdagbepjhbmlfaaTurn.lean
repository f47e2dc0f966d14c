/- The functions that make new tables and lists of labels out of a square table. -/
import Derived.Test.YtdagbepjhbmlfaaProg
import Derived.Test.YtdagbepjhbmlfaaSquare
import Derived.Laws.AppendOwn
import Derived.Maps.AppendAt
import Derived.Deep.AppendLies
import Derived.OwnWalk
import Derived.RowKit
namespace Go.Proofs.Ytdagbepjhbmlfaa.L
open Go.RowKit
set_option linter.unusedVariables false

theorem stopHere' {p : Prop} (h : Hid p) : p := h
theorem infoBool : (Try.prog.info? 4).map (fun i => (i.zero, i.size, i.bytes)) = some (some (.bool false), 1, 1) := by kernel_rfl
theorem infoRow : (Try.prog.info? 87).map (fun i => (i.zero, i.size, i.bytes)) = some (some (.slice none 0 0), 1, 24) := by kernel_rfl
theorem infoInt : (Try.prog.info? 3).map (fun i => (i.zero, i.size, i.bytes)) = some (some (.int .i64 0), 1, 8) := by kernel_rfl
theorem grownOf' {a w : World} (h : Below a.heap.size a w) (row : Option Nat) : a.grownBy w row := ⟨h.os, h.tape, h.output, h.size, fun i hi _ => h.block i hi⟩
theorem add_mid' (b o j : Nat) : (⟨b, o, none⟩ : Addr).add j = ⟨b, o + j, none⟩ := by unfold Addr.add; split <;> simp_all

/-- The numbers of the labels below n that p tells. -/
def pick (n : Nat) (p : Nat → Bool) : List Nat := (List.range n).filter p
theorem pick_succ (n : Nat) (p : Nat → Bool) : pick (n + 1) p = pick n p ++ if p n then [n] else [] := by
  unfold pick; rw [List.range_succ, List.filter_append]; cases h : p n <;> simp [h]
theorem pick_len (n : Nat) (p : Nat → Bool) : (pick n p).length ≤ n := by
  unfold pick; exact Nat.le_trans (List.length_filter_le _ _) (by simp)
/-- The slice of ints that a value is. -/
structure Ints (w : World) (A : Option Addr) (xs : List Nat) : Prop where
  at_ : ∀ k, k < xs.length → ∃ b o, A = some ⟨b, o, none⟩ ∧ w.cell? ⟨b, o + k, none⟩ = some (.int .i64 (xs.getD k 0 : Nat))
theorem Ints.below {w w' : World} {A : Option Addr} {xs : List Nat} (h : Ints w A xs) (hb : Below w.heap.size w w') : Ints w' A xs :=
  ⟨fun k hk => let ⟨b, o, e, hc⟩ := h.at_ k hk; ⟨b, o, e, keepCell hb hc⟩⟩
abbrev iv (k : Nat) : Value := .int .i64 (k : Int)
theorem Ints.of_own {w : World} {base : Nat} {v : Value} {xs : List Nat} (h : w.ownsRow base 3 1 v xs.length (xs.map iv)) : ∃ A c, v = .slice A xs.length c ∧ Ints w A xs := by
  rcases h.2 with ⟨rfl, h0⟩ | ⟨g, cap, cur, rfl, _, _, _, _, _, _⟩
  · exact ⟨none, 0, by rw [h0], ⟨fun k hk => by omega⟩⟩
  · refine ⟨_, cap, rfl, ⟨fun k hk => ⟨g, 0, rfl, ?_⟩⟩⟩
    have := h.cells (g := g) rfl k (iv (xs.getD k 0)) (by rw [List.getElem?_map, List.getD, List.getElem?_eq_getElem hk]; rfl)
    rwa [add_mid'] at this
/-- What a call that tells labels answers. -/
def Told_ (w : World) (xs : List Nat) (e : Ending) (w' : World) : Prop := ∃ A c, e = .returned (.slice A xs.length c) ∧ Ints w' A xs ∧ Below w.heap.size w w'

/-- The rows of a table that is being made: each lies in a block of its own, of bools. -/
def Rows_ (w : World) (base n : Nat) (F : Nat → Nat → Bool) (R C : Nat → Nat) (k : Nat) : Prop :=
  ∀ r, r < k → base ≤ R r ∧ ∃ cs, w.heap[R r]? = some (.cells cs 4 (0, 0)) ∧ ∀ j, j < n → cs[j]? = some (.bool (F j r))
def rowV (n : Nat) (R C : Nat → Nat) (r : Nat) : Value := .slice (some ⟨R r, 0, none⟩) n (C r)
theorem Rows_.below {w w' : World} {base n k : Nat} {F : Nat → Nat → Bool} {R C : Nat → Nat} (h : Rows_ w base n F R C k) (hb : Below w.heap.size w w') : Rows_ w' base n F R C k := fun r hr => by
  obtain ⟨h0, cs, h1, h2⟩ := h r hr
  have hlt : R r < w.heap.size := (Array.getElem?_eq_some_iff.1 h1).1
  exact ⟨h0, cs, (hb.block _ hlt).trans h1, h2⟩
theorem Rows_.grown {w w' : World} {base n k : Nat} {F : Nat → Nat → Bool} {R C : Nat → Nat} {v : Value} {m : Nat} {xs : List Value} (h : Rows_ w base n F R C k) (hown : w.ownsRow base 87 1 v m xs) (hg : w.grownBy w' v.ownBlock) : Rows_ w' base n F R C k := fun r hr => by
  obtain ⟨h0, cs, h1, h2⟩ := h r hr
  have hlt : R r < w.heap.size := (Array.getElem?_eq_some_iff.1 h1).1
  refine ⟨h0, cs, (hg.block _ hlt ?_).trans h1, h2⟩
  intro e
  rcases hown.2 with ⟨rfl, _⟩ | ⟨g, c, cur, rfl, _, hgg, _⟩
  · simp [Value.ownBlock] at e
  · have : R r = g := by simpa [Value.ownBlock] using e
    rw [this, hgg] at h1
    injection h1 with h1
    injection h1 with _ ht
    exact absurd ht (by decide)
theorem Rows_.snoc {w : World} {base n k : Nat} {F : Nat → Nat → Bool} {R C : Nat → Nat} (h : Rows_ w base n F R C k) {b c : Nat} {cs : Array Value} (hb : base ≤ b) (hcs : w.heap[b]? = some (.cells cs 4 (0, 0))) (hj : ∀ j, j < n → cs[j]? = some (.bool (F j k))) :
    Rows_ w base n F (fun r => if r = k then b else R r) (fun r => if r = k then c else C r) (k + 1) := fun r hr => by
  by_cases e : r = k
  · subst e
    simp only [if_true]
    exact ⟨hb, cs, hcs, hj⟩
  · simp only [e, if_false]
    exact h r (by omega)
def Turned_ (w : World) (n : Nat) (F : Nat → Nat → Bool) (e : Ending) (w' : World) : Prop := ∃ b o c, e = .returned (.slice (some ⟨b, o, none⟩) n c) ∧ Sq w' b o n (turn F) ∧ Below w.heap.size w w'
theorem range_map_congr {k : Nat} {f g : Nat → Value} (h : ∀ r, r < k → f r = g r) : (List.range k).map f = (List.range k).map g := List.map_congr_left fun r hr => h r (List.mem_range.1 hr)

theorem rows_snoc (l k g c : Nat) (R C : Nat → Nat) : (List.range k).map (rowV l R C) ++ [.slice (some ⟨g, 0, none⟩) l c] = (List.range (k + 1)).map (rowV l (fun r => if r = k then g else R r) (fun r => if r = k then c else C r)) := by
  rw [List.range_succ, List.map_append]
  congr 1
  · refine range_map_congr fun r hr => ?_
    have e : r ≠ k := by omega
    simp [rowV, e]
  · simp [rowV]

set_option maxRecDepth 100000 in
set_option maxHeartbeats 1000000 in
theorem turned_any (bk off n cap : Nat) (F : Nat → Nat → Bool) (w : World) (h : Sq w bk off n F) (h1 : 0 < n) :
    Calls Try.prog 84 #[.slice (some ⟨bk, off, none⟩) n cap] w (Turned_ w n F) := by
  have hs := h.small
  obtain ⟨R, O, C, hr, he⟩ := h.rows
  replace hr := Lib.hid hr
  replace he := Lib.hid he
  obtain ⟨i0, hi0, hz0, hz1, hz2⟩ := info_parts infoBool
  obtain ⟨j0, hj0, hy0, hy1, hy2⟩ := info_parts infoRow
  go_enter Try.func84, Try.ntmps84
  go_wp2_with fail
  go_loopg [3, 9] n (fun g v i wr => ∃ k : Nat, ∃ R' C' : Nat → Nat, k ≤ n ∧ n ≤ k + g ∧ i = .int .i64 k ∧ wr.ownsRow w.heap.size 87 1 v k ((List.range k).map (rowV n R' C')) ∧ Rows_ wr w.heap.size n F R' C' k ∧ Below w.heap.size w wr)
  case atStart => exact ⟨0, fun _ => 0, fun _ => 0, by omega, by omega, rfl, World.ownsRow_nil _ _ _ _, fun r hr => by omega, Below.refl _ _⟩
  case round =>
    obtain ⟨k, R', C', hk, hg, rfl, hown, hrows, hbel⟩ := hrel
    by_cases hkn : k < n
    · generalize gk = gout at *
      generalize wr = wo at *
      replace hown := Lib.hid hown
      go_wp2_with fail
      go_loopg [5, 14] n (fun g v i wx => ∃ l : Nat, l ≤ n ∧ n ≤ l + g ∧ i = .int .i64 l ∧ wx.ownsRow wo.heap.size 4 1 v l ((List.range l).map fun j => .bool (F j k)) ∧ Below wo.heap.size wo wx)
      case atStart => exact ⟨0, by omega, by omega, rfl, World.ownsRow_nil _ _ _ _, Below.refl _ _⟩
      case round =>
        obtain ⟨l, hl, hgl, rfl, hrow, hin⟩ := hrel
        have hall := hbel.trans (hin.mono hbel.size)
        have hsz := hbel.size
        have hsz2 := hin.size
        by_cases hln : l < n
        · have e1 := keepCell (hall.mono (Nat.le_refl _)) (hr.out l hln)
          have e2 := keepCell (hall.mono (Nat.le_refl _)) (he.out l k hln hkn)
          replace hrow := Lib.hid hrow
          go_wp2_with (at_builtin; refine stopHere' ?_)
          refine Lib.hid ?_
          refine wpList_append_own _ rfl _ _ 87 rfl wo.heap.size 4 i0 (.bool false) 1 1 Try.underlying87 hi0 hz0 hz1 hz2 rfl (by decide) _ _ _ rfl (hrow.out.alloc _) ⟨wr.heap.size, 0, none⟩ 1 1 [.bool (F l k)] rfl rfl (cell_one_new _ _ _) (fun x hx => by simp at hx; subst hx; rfl) (by unfold maxLen; omega) (by omega) (by simp; omega) ?_
          intro v' w1 hown1 hgrow1 _
          have hin1 := (hin.alloc hin.size (.cells #[.bool (F l k)] 4)).grown hgrow1 (by simp; omega) (fun j hj => (hrow.out.lt j hj).1)
          replace hown1 := Lib.hid hown1
          clear hgrow1
          go_wp2_with fail
          go_roundg (gk - 1)
          case measure => omega
          case rel => exact ⟨l + 1, by omega, by omega, by go_num, by simpa [List.range_succ] using hown1.out, hin1⟩
        · obtain rfl : l = n := by omega
          obtain ⟨g, c, hg1, hgc, hgl2⟩ := hrow.form (by omega)
          obtain ⟨cs, hcs, hcell⟩ : ∃ cs, wr.heap[g]? = some (.cells cs 4 (0, 0)) ∧ ∀ j, j < l → cs[j]? = some (.bool (F j k)) := by
            rcases hrow.2 with ⟨h0, _⟩ | ⟨g', cap', cur, hv, _, hh, hle, _, hcs', htake⟩
            · rw [hg1] at h0; cases h0
            · rw [hg1] at hv
              cases hv
              refine ⟨cur, hh, fun j hj => ?_⟩
              have := congrArg (fun l => l[j]?) htake
              simp only [List.getElem?_take, List.getElem?_map, List.getElem?_range, Nat.mul_one, hj, if_true, Option.map_some] at this
              simpa using this
          have hbg : wo.heap.size ≤ g := (hrow.lt g (by rw [hg1]; rfl)).1
          subst hg1
          have hown0 := hown.out.kept (grownOf' hin none) (Classical.em _)
          have hrows0 := (hrows.below hin).snoc (b := g) (c := c) (by omega) hcs hcell
          replace hcell := Lib.hid hcell
          replace hcs := Lib.hid hcs
          replace hrow := Lib.hid hrow
          replace hown0 := Lib.hid hown0
          go_wp2_with (at_builtin; refine stopHere' ?_)
          refine Lib.hid ?_
          refine wpList_append_own _ rfl _ _ 53 rfl w.heap.size 87 j0 (.slice none 0 0) 1 24 Try.underlying53 hj0 hy0 hy1 hy2 rfl (by decide) _ _ _ rfl (hown0.out.alloc _) ⟨wr.heap.size, 0, none⟩ 1 1 [.slice (some ⟨g, 0, none⟩) l c] rfl rfl (cell_one_new _ _ _) (fun x hx => by simp at hx; subst hx; rfl) (by unfold maxLen; omega) (by omega) (by simp; omega) ?_
          intro v' w1 hown1 hgrow1 _
          have hall1 := (hall.alloc hall.size (.cells #[.slice (some ⟨g, 0, none⟩) l c] 87)).grown hgrow1 (by simp; omega) (fun j hj => (hown0.out.lt j hj).1)
          have hrows1 := (hrows0.below ((Below.refl _ _).alloc (Nat.le_refl _) (.cells #[.slice (some ⟨g, 0, none⟩) l c] 87))).grown (hown0.out.alloc _) hgrow1
          replace hown1 := Lib.hid hown1
          clear hgrow1
          go_wp2_with fail
          go_roundg (gout - 1)
          case measure => omega
          case rel =>
            refine ⟨k + 1, (fun r => if r = k then g else R' r), (fun r => if r = k then c else C' r), by omega, by omega, by go_num, ?_, hrows1, hall1⟩
            have h9 := hown1.out
            rw [rows_snoc] at h9
            exact h9
    · obtain rfl : k = n := by omega
      go_wp2_with fail
      go_ret
      obtain ⟨g, c, rfl, hgc, hgl2⟩ := hown.form (by omega)
      refine ⟨g, 0, c, rfl, ⟨hs, R', fun _ => 0, C', fun r hr => ?_, fun r j hr hj => ?_⟩, hbel⟩
      · have := hown.cells (g := g) rfl r (rowV k R' C' r) (by rw [List.getElem?_map, List.getElem?_range hr]; rfl)
        rwa [add_mid'] at this
      · obtain ⟨_, cs, hcs, hcell⟩ := hrows r hr
        have := cell_of_row wr (R' r) j cs _ _ hcs
        rw [hcell j hj] at this
        show _ = some (Value.bool (F j r))
        simpa using this
end Go.Proofs.Ytdagbepjhbmlfaa.L
