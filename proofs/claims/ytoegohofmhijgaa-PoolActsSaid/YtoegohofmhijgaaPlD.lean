/- Package pool's New; the small case that each law of layer 12 asks. -/
import Derived.Test.YtoegohofmhijgaaPlB
import Derived.Test.YtoegohofmhijgaaPlC
import Derived.BigQuiet
import Derived.Deep.QuietTactic
namespace Go.Proofs.Ytoegohofmhijgaa.W
open Go.RowKit
open Go.Proofs.Ytoegohofmhijgaa.M Go.Proofs.Ytoegohofmhijgaa.D Go.Proofs.Ytoegohofmhijgaa.Z
set_option linter.unusedVariables false

theorem made_zero (n : Nat) : (madeCells #[Value.int .i64 0] n).toList = rowP (List.replicate n 0) := by
  apply List.ext_getElem?
  intro j
  by_cases hj : j < n
  · simp [madeCells, rowP, hj, Nat.mod_one]
  · simp [madeCells, rowP, hj]
theorem make_ints (n : Nat) (hn : n ≤ 64) (W : World) : ∃ cs : Array Value, cs.toList = rowP (List.replicate n 0) ∧ (Instr.makeSlice 30 (.int .i64 (n : Int)) (.int .i64 (n : Int))).run Try.prog W = .ok (.slice (some ⟨W.heap.size, 0, none⟩) n n) (W.alloc (.cells cs 3)) :=
  ⟨_, made_zero n, run_make_row' (P := Try.prog) 30 3 (.int .i64 0) 8 Try.underlying30 infoI rfl .i64 .i64 n (by omega) (by omega) W⟩
theorem pstamp_raw (b : Nat) (e c : Int) (w : World) (c1 : w.cell? ⟨b, 1, none⟩ = some (.int .i64 e)) (c2 : w.cell? ⟨b, 2, none⟩ = some (.int .i64 c)) (hc : ¬ (0 ≤ e ∧ e ≤ 65535 ∧ 0 ≤ c ∧ c ≤ 65535)) :
    Calls Try.prog 24 #[.pointer (some ⟨b, 0, none⟩)] w fun x w' => x = .returned (.tuple #[.int .u32 0, .int .i64 1]) ∧ Below w.heap.size w w' := by
  have hs := Lib.hid (fun W => stamp_no e c W hc)
  have d1 : w.drew.cell? ⟨b, 1, none⟩ = some (.int .i64 e) := c1
  have d2 : w.drew.cell? ⟨b, 2, none⟩ = some (.int .i64 c) := c2
  have hB := Lib.hid (drewS (Below.refl w.heap.size w) 1)
  go_enter Try.func24, Try.ntmps24
  go_wp2_with fail
  go_region_held3 (fun w' => w'.cell? ⟨b, 1, none⟩ = some (.int .i64 e) ∧ w'.cell? ⟨b, 2, none⟩ = some (.int .i64 c)) (first | exact ⟨c1, c2⟩ | exact ⟨d1, d2⟩) (first
    | (go_at_call 36; (with_reducible refine (hs.out _).mono ?_); rintro ee w1 ⟨rfl, rfl⟩))
  all_goals
    go_wp2_with fail
    go_ret2
    exact ⟨rfl, hB.out⟩
theorem pnew_yes (n ep : Nat) (w : World) (h1 : 6 ≤ n) (h2 : n ≤ 64) (he : ep < 65536) :
    Calls Try.prog 8 #[.int .i64 (n : Int), .int .i64 (ep : Int)] w fun x w' => x = .returned (.tuple #[.pointer (some ⟨w.heap.size + 1, 0, none⟩), .int .i64 0]) ∧ Pl w' (w.heap.size + 1) w.heap.size (List.replicate n 0) ep 0 ∧ Below w.heap.size w w' := by
  obtain ⟨cs, hcs, hmk⟩ := make_ints n h2 w
  have hR : Whole (w.alloc (.cells cs 3)) w.heap.size 3 (rowP (List.replicate n 0)) := by
    have h := Whole.new w 3 (rowP (List.replicate n 0))
    rw [← hcs] at h ⊢
    exact h
  have hb1 := (Below.refl w.heap.size w).alloc (Nat.le_refl _) (.cells cs 3)
  have hz1 : (w.alloc (.cells cs 3)).heap.size = w.heap.size + 1 := by simp
  have hbox := Whole.new (w.alloc (.cells cs 3)) 57 [.slice (some ⟨w.heap.size, 0, none⟩) n n, .int .i64 (ep : Int), .int .i64 0]
  rw [hz1] at hbox
  have hP : Pl ((w.alloc (.cells cs 3)).alloc (.cells #[.slice (some ⟨w.heap.size, 0, none⟩) n n, .int .i64 (ep : Int), .int .i64 0] 57)) (w.heap.size + 1) w.heap.size (List.replicate n 0) ep 0 := by
    refine ⟨?_, hR.alloc _⟩
    rw [List.length_replicate]
    exact hbox
  have hst := Lib.hid (pstamp_yes hP he (by decide))
  have hB := Lib.hid (grewAlloc hb1 (.cells #[.slice (some ⟨w.heap.size, 0, none⟩) n n, .int .i64 (ep : Int), .int .i64 0] 57))
  replace hP := Lib.hid hP
  have i1 : (6 : Int) ≤ (n : Int) := by omega
  have i2 : (n : Int) ≤ 64 := by omega
  clear hR hb1 hz1 hbox hcs
  go_enter Try.func8, Try.ntmps8
  go_wp2_with fail
  refine hst.out.mono ?_
  rintro ee w2 ⟨rfl, hb2⟩
  go_wp2_with fail
  go_ret2
  exact ⟨rfl, hP.out.grow hb2, grew hB.out hb2⟩
theorem pnew_no (s e : Int) (w : World) (h : ¬ (6 ≤ s ∧ s ≤ 64 ∧ 0 ≤ e ∧ e ≤ 65535)) :
    Calls Try.prog 8 #[.int .i64 s, .int .i64 e] w fun x w' => x = .returned (.tuple #[.pointer none, .int .i64 1]) ∧ Below w.heap.size w w' := by
  by_cases h1 : 6 ≤ s
  · by_cases h2 : s ≤ 64
    · obtain ⟨n, rfl⟩ : ∃ n : Nat, s = (n : Int) := ⟨s.toNat, by omega⟩
      obtain ⟨cs, hcs, hmk⟩ := make_ints n (by omega) w
      have hb1 := (Below.refl w.heap.size w).alloc (Nat.le_refl _) (.cells cs 3)
      have hz1 : (w.alloc (.cells cs 3)).heap.size = w.heap.size + 1 := by simp
      have hbox := Whole.new (w.alloc (.cells cs 3)) 57 [.slice (some ⟨w.heap.size, 0, none⟩) n n, .int .i64 e, .int .i64 0]
      rw [hz1] at hbox
      have hst := Lib.hid (pstamp_raw (w.heap.size + 1) e 0 _ (hbox.cell 1) (hbox.cell 2) (by omega))
      have hB := Lib.hid (grewAlloc hb1 (.cells #[.slice (some ⟨w.heap.size, 0, none⟩) n n, .int .i64 e, .int .i64 0] 57))
      clear hb1 hz1 hbox hcs h
      go_enter Try.func8, Try.ntmps8
      go_wp2_with fail
      refine hst.out.mono ?_
      rintro ee w2 ⟨rfl, hb2⟩
      go_wp2_with fail
      go_ret2
      exact ⟨rfl, grew hB.out hb2⟩
    · have h3 : 64 < s := by omega
      clear h
      go_enter Try.func8, Try.ntmps8
      go_wp2_with fail
      go_ret2
      exact ⟨rfl, Below.refl _ _⟩
  · have h3 : s < 6 := by omega
    clear h
    go_enter Try.func8, Try.ntmps8
    go_wp2_with fail
    go_ret2
    exact ⟨rfl, Below.refl _ _⟩
/-- The lists of the small case. -/
def six0 : List Int := List.replicate 6 0
def six1 : List Int := six0.set 0 4
def six2 : List Int := six1.set 1 5
def six3 : List Int := six2.set 0 0
def six4 : List Int := six3.set 0 4
theorem six_t1 : Tk six0 2 0 4 0 131072 0 six1 1 := .inr (.inr ⟨rfl, 0, ⟨rfl, fun j hj => by omega⟩, by decide, rfl, rfl, rfl, rfl, rfl⟩)
theorem six_t2 : Tk six1 2 1 5 1 131073 0 six2 2 := .inr (.inr ⟨rfl, 1, ⟨rfl, fun j hj => match j, hj with | 0, _ => by decide⟩, by decide, rfl, rfl, rfl, rfl, rfl⟩)
theorem six_g : Gv six2 0 0 six3 := .inr (.inr ⟨by decide, ⟨4, rfl, by decide⟩, rfl, rfl⟩)
theorem six_t3 : Tk six3 2 2 4 0 131074 0 six4 3 := .inr (.inr ⟨rfl, 0, ⟨rfl, fun j hj => by omega⟩, by decide, rfl, rfl, rfl, rfl, rfl⟩)
theorem kept_pl {b a B : Nat} {w w0 w' : World} (hB : Below B w0 w) (hs : B ≤ w.heap.size) (h1 : B ≤ b) (h2 : B ≤ a) (hk : Kept (Own2 b a) w w') : Below B w0 w' :=
  hB.trans (hk.below hs (fun k hk => by rcases hk with rfl | rfl <;> assumption))
set_option maxRecDepth 100000 in
set_option maxHeartbeats 4000000 in
theorem six_any (w : World) :
    Calls Try.prog 7 #[] w fun e w' => e = .returned (.bool true) ∧ Below w.heap.size w w' := by
  have hn : ∀ W : World, Calls Try.prog 8 #[.int .i64 6, .int .i64 2] W fun x w' => x = .returned (.tuple #[.pointer (some ⟨W.heap.size + 1, 0, none⟩), .int .i64 0]) ∧ Pl w' (W.heap.size + 1) W.heap.size six0 2 0 ∧ Below W.heap.size W w' := fun W => pnew_yes 6 2 W (by decide) (by decide) (by decide)
  have l0 : six0.length ≤ 64 := by decide
  have l1 : six1.length ≤ 64 := by decide
  have l2 : six2.length ≤ 64 := by decide
  have l3 : six3.length ≤ 64 := by decide
  have l4 : six4.length ≤ 64 := by decide
  have t1 : ∀ (W : World) (b a : Nat), Pl W b a six0 2 0 → Calls Try.prog 11 #[.pointer (some ⟨b, 0, none⟩), .int .i64 4] W fun e w' => e = .returned (.tuple #[.int .i64 0, .int .u32 131072, .int .i64 0]) ∧ Pl w' b a six1 2 1 ∧ Kept (Own2 b a) W w' := fun W b a h => ptake_any h l0 (by decide) six_t1
  have t2 : ∀ (W : World) (b a : Nat), Pl W b a six1 2 1 → Calls Try.prog 11 #[.pointer (some ⟨b, 0, none⟩), .int .i64 5] W fun e w' => e = .returned (.tuple #[.int .i64 1, .int .u32 131073, .int .i64 0]) ∧ Pl w' b a six2 2 2 ∧ Kept (Own2 b a) W w' := fun W b a h => ptake_any h l1 (by decide) six_t2
  have t3 : ∀ (W : World) (b a : Nat), Pl W b a six2 2 2 → Calls Try.prog 16 #[.pointer (some ⟨b, 0, none⟩), .int .i64 0] W fun e w' => e = .returned (.int .i64 0) ∧ Pl w' b a six3 2 2 ∧ Kept (Own2 b a) W w' := fun W b a h => pgive_any h six_g
  have t4 : ∀ (W : World) (b a : Nat), Pl W b a six3 2 2 → Calls Try.prog 11 #[.pointer (some ⟨b, 0, none⟩), .int .i64 4] W fun e w' => e = .returned (.tuple #[.int .i64 0, .int .u32 131074, .int .i64 0]) ∧ Pl w' b a six4 2 3 ∧ Kept (Own2 b a) W w' := fun W b a h => ptake_any h l3 (by decide) six_t3
  have f4 : ∀ (W : World) (b a : Nat), Pl W b a six4 2 3 → Calls Try.prog 21 #[.pointer (some ⟨b, 0, none⟩)] W fun e w' => e = .returned (.int .i64 4) ∧ Below W.heap.size W w' := fun W b a h => pfree_any h l4
  have o4 : ∀ (W : World) (b a : Nat), Pl W b a six4 2 3 → Calls Try.prog 23 #[.pointer (some ⟨b, 0, none⟩), .int .i64 1] W fun e w' => e = .returned (.int .i64 5) ∧ W = w' := fun W b a h => powner_in h 1 5 rfl
  have z4 : ∀ (W : World) (b a : Nat), Pl W b a six4 2 3 → Calls Try.prog 22 #[.pointer (some ⟨b, 0, none⟩)] W fun e w' => e = .returned (.int .i64 6) ∧ W = w' := fun W b a h => psize_any h
  clear l0 l1 l2 l3 l4
  generalize six0 = s0 at *
  generalize six1 = s1 at *
  generalize six2 = s2 at *
  generalize six3 = s3 at *
  generalize six4 = s4 at *
  replace hn := Lib.hid hn
  replace t1 := Lib.hid t1
  replace t2 := Lib.hid t2
  replace t3 := Lib.hid t3
  replace t4 := Lib.hid t4
  replace f4 := Lib.hid f4
  replace o4 := Lib.hid o4
  replace z4 := Lib.hid z4
  go_enter Try.func7, Try.ntmps7
  go_wp2_with fail
  refine (hn.out _).mono ?_
  rintro ee w1 ⟨rfl, hp, hb⟩
  generalize hq : w.heap.size = q at *
  replace hp := Lib.hid hp
  replace hb := Lib.hid hb
  go_wp2_with fail
  refine (t1.out _ _ _ hp.out).mono ?_
  rintro ee w2 ⟨rfl, hp2, hk⟩
  replace hb := Lib.hid (kept_pl hb.out (by have := hb.out.size; omega) (by omega) (by omega) hk)
  replace hp := Lib.hid hp2
  clear hp2 hk
  go_wp2_with fail
  refine (t2.out _ _ _ hp.out).mono ?_
  rintro ee w3 ⟨rfl, hp2, hk⟩
  replace hb := Lib.hid (kept_pl hb.out (by have := hb.out.size; omega) (by omega) (by omega) hk)
  replace hp := Lib.hid hp2
  clear hp2 hk
  go_wp2_with fail
  refine (t3.out _ _ _ hp.out).mono ?_
  rintro ee w4 ⟨rfl, hp2, hk⟩
  replace hb := Lib.hid (kept_pl hb.out (by have := hb.out.size; omega) (by omega) (by omega) hk)
  replace hp := Lib.hid hp2
  clear hp2 hk
  go_wp2_with fail
  refine (t4.out _ _ _ hp.out).mono ?_
  rintro ee w5 ⟨rfl, hp2, hk⟩
  replace hb := Lib.hid (kept_pl hb.out (by have := hb.out.size; omega) (by omega) (by omega) hk)
  replace hp := Lib.hid hp2
  clear hp2 hk
  go_wp2_with fail
  refine (f4.out _ _ _ hp.out).mono ?_
  rintro ee w6 ⟨rfl, hb6⟩
  replace hp := Lib.hid (hp.out.grow hb6)
  replace hb := Lib.hid (hb.out.trans (hb6.mono (by have := hb.out.size; omega)))
  clear hb6
  go_wp2_with fail
  refine (o4.out _ _ _ hp.out).mono ?_
  rintro ee w7 ⟨rfl, rfl⟩
  go_wp2_with fail
  refine (z4.out _ _ _ hp.out).mono ?_
  rintro ee w7 ⟨rfl, rfl⟩
  go_wp2_with fail
  go_ret
  exact ⟨rfl, by rw [hq]; exact hb.out⟩
end Go.Proofs.Ytoegohofmhijgaa.W
