/- The top and the bottom of a lattice, and the walks at nil. -/
import Derived.Test.YtbhbiejaneencaaProg
import Derived.Test.YtbhbiejaneencaaAsks
import Derived.Deep.RegionWith
import Derived.Deep.DrawnRows
namespace Go.Proofs.Ytbhbiejaneencaa.L
open Go.RowKit
set_option linter.unusedVariables false
attribute [local go_sem ↓] Go.wp_at_zero Go.wp_at_succ

/-- A method of the object that lists labels on one side of one. -/
structure Side (g p n : Nat) (F R : Nat → Nat → Bool) : Prop where
  enter : ∀ (args : Array Value) (w : World), (callFunc g args).run Try.prog w = .ok (.enter g args) w
  tells : ∀ (a : Nat) (w : World), a < n → Lat w p n F → Calls Try.prog g #[.pointer (some ⟨p, 0, none⟩), .int .i64 a] w (Told_ w (pick n (R a)))
theorem side_above (p n : Nat) (F : Nat → Nat → Bool) : Side 44 p n F F := ⟨fun _ _ => by kernel_rfl, fun a w ha h => above_in p n a F w h ha⟩
theorem side_below (p n : Nat) (F : Nat → Nat → Bool) : Side 46 p n F (turn F) := ⟨fun _ _ => by kernel_rfl, fun a w ha h => below_in p n a F w h ha⟩
theorem Lat.drew {w : World} {p n : Nat} {F : Nat → Nat → Bool} (h : Lat w p n F) : Lat w.drew p n F := ⟨h.small, h.size, h.flows⟩
theorem below_undrew {a w : World} (h : Below a.drew.heap.size a.drew w) : Below a.heap.size a w := ⟨h.os, h.tape, h.output, h.size, h.block⟩
theorem pick_all {n : Nat} {p : Nat → Bool} : (pick n p).length = n ↔ allB n p = true := by
  induction n with
  | zero => simp [pick, allB]
  | succ n ih =>
    rw [pick_succ, List.length_append, allB, Bool.and_eq_true, ← ih]
    have := pick_len n p
    cases h : p n <;> simp <;> omega
/-- The label on one side of which all stand. -/
def endN (n : Nat) (R : Nat → Nat → Bool) : Option Nat := findB n fun a => allB n (R a)
def endI (n : Nat) (R : Nat → Nat → Bool) : Int := match endN n R with
  | some c => c
  | none => -1

set_option maxHeartbeats 1000000 in
theorem outer_in (g p n : Nat) (F R : Nat → Nat → Bool) (w : World) (hB : Side g p n F R) (h : Lat w p n F) :
    Calls Try.prog 67 #[.pointer (some ⟨p, 0, none⟩), .func (.func g) #[.pointer (some ⟨p, 0, none⟩)] #[]] w fun e w' => e = .returned (.int .i64 (endI n R)) ∧ Below w.heap.size w w' := by
  have hs := h.small
  have hp := h.lt
  have eg := hB.enter
  have ht := Lib.hid hB.tells
  go_enter Try.func67, Try.ntmps67
  go_wp2_with fail
  refine (size_any p n F _ h).mono ?_
  rintro e w1 ⟨rfl, rfl⟩
  go_wp2_with fail
  go_loopg [8] n (fun g i wr => ∃ k : Nat, k ≤ n ∧ n ≤ k + g ∧ i = .int .i64 k ∧ Hid (∀ j, j < k → allB n (R j) = false) ∧ Below w.heap.size w wr)
  case atStart => exact ⟨0, by omega, by omega, rfl, fun j hj => by omega, Below.refl _ _⟩
  case round =>
    obtain ⟨k, hk, hg, rfl, hj, hbel⟩ := hrel
    by_cases hlt : k < n
    · have hL := h.below hbel hp
      have hs0 := hL.size
      have hlen := pick_len n (R k)
      have hpa := pick_all (n := n) (p := R k)
      cases hv : allB n (R k)
      · have hd : (((pick n (R k)).length : Int) == (n : Int)) = false := by
          rw [beq_eq_false_iff_ne]
          intro e
          rw [hpa.1 (by omega)] at hv; cases hv
        replace hv := Lib.hid hv
        clear hpa
        go_wp2_with fail
        go_region_with (refine (ht.out k _ hlt hL.drew).mono ?_; rintro e w1 ⟨A, c, rfl, hi, hb⟩; have hb2 := below_undrew hb; have hs1 := (hL.below hb2 hL.lt).size)
        all_goals
          go_wp2_with fail
          go_roundg (gk - 1)
          case measure => omega
          case rel => exact ⟨k + 1, by omega, by omega, by go_num, uptoF hj.out hv.out, hbel.trans (hb2.mono hbel.size)⟩
      · have hd : (((pick n (R k)).length : Int) == (n : Int)) = true := by
          rw [beq_iff_eq]
          have := hpa.2 hv
          omega
        have hfin := Lib.hid (show endI n R = k by unfold endI endN; rw [findB_some hlt hv hj.out])
        replace hv := Lib.hid hv
        clear hpa
        go_wp2_with fail
        go_region_with (refine (ht.out k _ hlt hL.drew).mono ?_; rintro e w1 ⟨A, c, rfl, hi, hb⟩; have hb2 := below_undrew hb; have hs1 := (hL.below hb2 hL.lt).size)
        all_goals
          go_wp2_with fail
          go_ret
          exact ⟨ret_i64 hfin.out.symm, hbel.trans (hb2.mono hbel.size)⟩
    · obtain rfl : k = n := by omega
      have hfin := Lib.hid (show endI k R = -1 by unfold endI endN; rw [findB_none hj.out])
      go_wp2_with fail
      go_ret
      exact ⟨ret_i64 hfin.out.symm, hbel⟩

theorem top_in (p n : Nat) (F : Nat → Nat → Bool) (w : World) (h : Lat w p n F) :
    Calls Try.prog 34 #[.pointer (some ⟨p, 0, none⟩)] w fun e w' => e = .returned (.int .i64 (endI n (turn F))) ∧ Below w.heap.size w w' := by
  go_enter Try.func34, Try.ntmps34
  go_wp2_with fail
  refine (outer_in _ p n F (turn F) _ (side_below _ _ _) h).mono ?_
  rintro e w1 ⟨rfl, hb⟩
  go_wp2_with fail
  go_ret
  exact ⟨rfl, hb⟩
theorem bottom_in (p n : Nat) (F : Nat → Nat → Bool) (w : World) (h : Lat w p n F) :
    Calls Try.prog 36 #[.pointer (some ⟨p, 0, none⟩)] w fun e w' => e = .returned (.int .i64 (endI n F)) ∧ Below w.heap.size w w' := by
  go_enter Try.func36, Try.ntmps36
  go_wp2_with fail
  refine (outer_in _ p n F F _ (side_above _ _ _) h).mono ?_
  rintro e w1 ⟨rfl, hb⟩
  go_wp2_with fail
  go_ret
  exact ⟨rfl, hb⟩
-- at nil
theorem outer_nil (g : Nat) (w : World) :
    Calls Try.prog 67 #[.pointer none, .func (.func g) #[.pointer none] #[]] w fun e w' => e = .returned (.int .i64 (-1)) ∧ w = w' := by
  go_enter Try.func67, Try.ntmps67
  go_wp2_with fail
  refine (size_nil _).mono ?_
  rintro e w1 ⟨rfl, rfl⟩
  go_wp2_with fail
  go_loopg [8] 0 (fun g i wr => i = .int .i64 0 ∧ w = wr)
  case atStart => exact ⟨rfl, rfl⟩
  case round =>
    obtain ⟨rfl, rfl⟩ := hrel
    go_wp2_with fail
    go_ret
    exact ⟨rfl, rfl⟩
theorem top_nil (w : World) : Calls Try.prog 34 #[.pointer none] w fun e w' => e = .returned (.int .i64 (-1)) ∧ w = w' := by
  go_enter Try.func34, Try.ntmps34
  go_wp2_with fail
  refine (outer_nil _ _).mono ?_
  rintro e w1 ⟨rfl, rfl⟩
  go_wp2_with fail
  go_ret
  exact ⟨rfl, rfl⟩
theorem bottom_nil (w : World) : Calls Try.prog 36 #[.pointer none] w fun e w' => e = .returned (.int .i64 (-1)) ∧ w = w' := by
  go_enter Try.func36, Try.ntmps36
  go_wp2_with fail
  refine (outer_nil _ _).mono ?_
  rintro e w1 ⟨rfl, rfl⟩
  go_wp2_with fail
  go_ret
  exact ⟨rfl, rfl⟩
theorem beside_nil (g : Nat) (a : Int) (w : World) :
    Calls Try.prog 71 #[.pointer none, .int .i64 a, .func (.func g) #[.pointer none] #[]] w fun e w' => e = .returned (.slice none 0 0) ∧ w = w' := by
  go_enter Try.func71, Try.ntmps71
  go_wp2_with fail
  refine (size_nil _).mono ?_
  rintro e w1 ⟨rfl, rfl⟩
  go_wp2_with fail
  go_loopg [7, 11] 0 (fun g v i wr => v = .slice none 0 0 ∧ i = .int .i64 0 ∧ w = wr)
  case atStart => exact ⟨rfl, rfl, rfl⟩
  case round =>
    obtain ⟨rfl, rfl, rfl⟩ := hrel
    go_wp2_with fail
    go_ret
    exact ⟨rfl, rfl⟩
theorem above_nil (a : Int) (w : World) : Calls Try.prog 44 #[.pointer none, .int .i64 a] w fun e w' => e = .returned (.slice none 0 0) ∧ w = w' := by
  go_enter Try.func44, Try.ntmps44
  go_wp2_with fail
  refine (beside_nil _ a _).mono ?_
  rintro e w1 ⟨rfl, rfl⟩
  go_wp2_with fail
  go_ret
  exact ⟨rfl, rfl⟩
theorem below_nil (a : Int) (w : World) : Calls Try.prog 46 #[.pointer none, .int .i64 a] w fun e w' => e = .returned (.slice none 0 0) ∧ w = w' := by
  go_enter Try.func46, Try.ntmps46
  go_wp2_with fail
  refine (beside_nil _ a _).mono ?_
  rintro e w1 ⟨rfl, rfl⟩
  go_wp2_with fail
  go_ret
  exact ⟨rfl, rfl⟩
end Go.Proofs.Ytbhbiejaneencaa.L
