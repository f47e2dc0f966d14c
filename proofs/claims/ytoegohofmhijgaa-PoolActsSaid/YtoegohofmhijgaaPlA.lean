/- A pool in memory; package pool's small calls. -/
import Derived.WalkKit
import Derived.Test.YtoegohofmhijgaaProg
import Derived.Test.YtoegohofmhijgaaShelf
import Derived.Test.YtoegohofmhijgaaPlM
import Derived.Test.YtoegohofmhijgaaStamp
import Derived.Test.YtoegohofmhijgaaStops
import Derived.Test.YtoegohofmhijgaaCells
import Derived.Deep.LoopGhost
import Derived.Deep.RegionHeld3
import Derived.Lib.Slices
namespace Go.Proofs.Ytoegohofmhijgaa.W
open Go.RowKit
open Go.Proofs.Ytoegohofmhijgaa.M Go.Proofs.Ytoegohofmhijgaa.D Go.Proofs.Ytoegohofmhijgaa.Z
set_option linter.unusedVariables false

/-- A pool: its block b, its owners' block a. -/
structure Pl (w : World) (b a : Nat) (l : List Int) (ep ct : Nat) : Prop where
  box : Whole w b 57 [.slice (some ⟨a, 0, none⟩) l.length l.length, .int .i64 (ep : Int), .int .i64 (ct : Int)]
  row : Whole w a 3 (rowP l)
theorem Pl.c0 {w : World} {b a : Nat} {l : List Int} {ep ct : Nat} (h : Pl w b a l ep ct) : w.cell? ⟨b, 0, none⟩ = some (.slice (some ⟨a, 0, none⟩) l.length l.length) := h.box.cell 0
theorem Pl.c1 {w : World} {b a : Nat} {l : List Int} {ep ct : Nat} (h : Pl w b a l ep ct) : w.cell? ⟨b, 1, none⟩ = some (.int .i64 (ep : Int)) := h.box.cell 1
theorem Pl.c2 {w : World} {b a : Nat} {l : List Int} {ep ct : Nat} (h : Pl w b a l ep ct) : w.cell? ⟨b, 2, none⟩ = some (.int .i64 (ct : Int)) := h.box.cell 2
theorem Pl.at_ {w : World} {b a : Nat} {l : List Int} {ep ct : Nat} (h : Pl w b a l ep ct) {k : Nat} {o : Int} (hk : l[k]? = some o) : w.cell? ⟨a, k, none⟩ = some (.int .i64 o) := (h.row.cell k).trans (rowP_at hk)
theorem Pl.below {w w' : World} {b a B : Nat} {l : List Int} {ep ct : Nat} (h : Pl w b a l ep ct) (hb : Below B w w') (h1 : b < B) (h2 : a < B) : Pl w' b a l ep ct := ⟨h.box.below hb h1, h.row.below hb h2⟩
theorem Pl.grow {w w' : World} {b a : Nat} {l : List Int} {ep ct : Nat} (h : Pl w b a l ep ct) (hb : Below w.heap.size w w') : Pl w' b a l ep ct := ⟨h.box.below hb h.box.lt, h.row.below hb h.row.lt⟩
theorem Pl.ne {w : World} {b a : Nat} {l : List Int} {ep ct : Nat} (h : Pl w b a l ep ct) : b ≠ a := h.box.ne h.row (by decide)
theorem isLog_any (g : Int) (w : World) :
    Calls Try.prog 25 #[.int .i64 g] w fun e w' => e = .returned (.bool (okG g)) ∧ w = w' := by
  unfold okG
  go_enter Try.func25, Try.ntmps25
  by_cases h0 : 1 ≤ g
  · by_cases h1 : g ≤ 65535
    · rw [show decide (1 ≤ g ∧ g ≤ 65535) = true from by simp [h0, h1]]
      go_wp2_with fail
      go_ret
      exact ⟨rfl, rfl⟩
    · rw [show decide (1 ≤ g ∧ g ≤ 65535) = false from by simp [h1]]
      have h2 : 65535 < g := by omega
      go_wp2_with fail
      go_ret
      exact ⟨rfl, rfl⟩
  · rw [show decide (1 ≤ g ∧ g ≤ 65535) = false from by simp [h0]]
    have h2 : g < 1 := by omega
    go_wp2_with fail
    go_ret
    exact ⟨rfl, rfl⟩
theorem rlog_any (g : Int) (w : World) :
    Calls Try.prog 27 #[.int .i64 g] w fun e w' => e = .returned (.bool (okG g)) ∧ w = w' := by
  unfold okG
  go_enter Try.func27, Try.ntmps27
  by_cases h0 : 1 ≤ g
  · by_cases h1 : g ≤ 65535
    · rw [show decide (1 ≤ g ∧ g ≤ 65535) = true from by simp [h0, h1]]
      go_wp2_with fail
      go_ret
      exact ⟨rfl, rfl⟩
    · rw [show decide (1 ≤ g ∧ g ≤ 65535) = false from by simp [h1]]
      have h2 : 65535 < g := by omega
      go_wp2_with fail
      go_ret
      exact ⟨rfl, rfl⟩
  · rw [show decide (1 ≤ g ∧ g ≤ 65535) = false from by simp [h0]]
    have h2 : g < 1 := by omega
    go_wp2_with fail
    go_ret
    exact ⟨rfl, rfl⟩
section
variable {w : World} {b a : Nat} {l : List Int} {ep ct : Nat}
theorem pstamp_yes (h : Pl w b a l ep ct) (he : ep < 65536) (hc : ct < 65536) :
    Calls Try.prog 24 #[.pointer (some ⟨b, 0, none⟩)] w fun e w' => e = .returned (.tuple #[.int .u32 ((65536 * ep + ct : Nat) : Int), .int .i64 0]) ∧ Below w.heap.size w w' := by
  have c1 := h.c1
  have c2 := h.c2
  have hs := Lib.hid (fun W => stamp_yes ep ct W he hc)
  have d1 : w.drew.cell? ⟨b, 1, none⟩ = some (.int .i64 (ep : Int)) := c1
  have d2 : w.drew.cell? ⟨b, 2, none⟩ = some (.int .i64 (ct : Int)) := c2
  have hB := Lib.hid (drewS (Below.refl w.heap.size w) 1)
  clear h
  go_enter Try.func24, Try.ntmps24
  go_wp2_with fail
  go_region_held3 (fun w' => w'.cell? ⟨b, 1, none⟩ = some (.int .i64 (ep : Int)) ∧ w'.cell? ⟨b, 2, none⟩ = some (.int .i64 (ct : Int))) (first | exact ⟨c1, c2⟩ | exact ⟨d1, d2⟩) (first
    | (go_at_call 36; (with_reducible refine (hs.out _).mono ?_); rintro ee w1 ⟨rfl, rfl⟩))
  all_goals
    go_wp2_with fail
    go_ret2
    exact ⟨rfl, hB.out⟩
theorem pstamp_no (h : Pl w b a l ep ct) (hc : ¬ (ep < 65536 ∧ ct < 65536)) :
    Calls Try.prog 24 #[.pointer (some ⟨b, 0, none⟩)] w fun e w' => e = .returned (.tuple #[.int .u32 0, .int .i64 1]) ∧ Below w.heap.size w w' := by
  have c1 := h.c1
  have c2 := h.c2
  have hs := Lib.hid (fun W => stamp_no (ep : Int) ct W (by omega))
  have d1 : w.drew.cell? ⟨b, 1, none⟩ = some (.int .i64 (ep : Int)) := c1
  have d2 : w.drew.cell? ⟨b, 2, none⟩ = some (.int .i64 (ct : Int)) := c2
  have hB := Lib.hid (drewS (Below.refl w.heap.size w) 1)
  clear h
  go_enter Try.func24, Try.ntmps24
  go_wp2_with fail
  go_region_held3 (fun w' => w'.cell? ⟨b, 1, none⟩ = some (.int .i64 (ep : Int)) ∧ w'.cell? ⟨b, 2, none⟩ = some (.int .i64 (ct : Int))) (first | exact ⟨c1, c2⟩ | exact ⟨d1, d2⟩) (first
    | (go_at_call 36; (with_reducible refine (hs.out _).mono ?_); rintro ee w1 ⟨rfl, rfl⟩))
  all_goals
    go_wp2_with fail
    go_ret2
    exact ⟨rfl, hB.out⟩
theorem psize_any (h : Pl w b a l ep ct) :
    Calls Try.prog 22 #[.pointer (some ⟨b, 0, none⟩)] w fun e w' => e = .returned (.int .i64 (l.length : Int)) ∧ w = w' := by
  have c0 := h.c0
  generalize l.length = n at *
  clear h
  go_enter Try.func22, Try.ntmps22
  go_wp2_with fail
  go_ret
  exact ⟨rfl, rfl⟩
theorem phas_any (h : Pl w b a l ep ct) (s : Int) :
    Calls Try.prog 31 #[.pointer (some ⟨b, 0, none⟩), .int .i64 s] w fun e w' => e = .returned (.bool (decide (0 ≤ s ∧ s < (l.length : Int)))) ∧ w = w' := by
  have hz := Lib.hid (psize_any h)
  generalize l.length = n at *
  clear h
  go_enter Try.func31, Try.ntmps31
  by_cases h0 : 0 ≤ s
  · rw [show decide (0 ≤ s ∧ s < (n : Int)) = decide (s < (n : Int)) from by simp [h0]]
    go_wp2_with fail
    refine hz.out.mono ?_
    rintro ee w1 ⟨rfl, rfl⟩
    go_wp2_with fail
    go_ret
    exact ⟨rfl, rfl⟩
  · rw [show decide (0 ≤ s ∧ s < (n : Int)) = false from by simp [h0]]
    have h1 : s < 0 := by omega
    clear hz
    go_wp2_with fail
    go_ret
    exact ⟨rfl, rfl⟩
theorem powner_in (h : Pl w b a l ep ct) (k : Nat) (o : Int) (hk : l[k]? = some o) :
    Calls Try.prog 23 #[.pointer (some ⟨b, 0, none⟩), .int .i64 (k : Int)] w fun e w' => e = .returned (.int .i64 o) ∧ w = w' := by
  have hl : k < l.length := (List.getElem?_eq_some_iff.1 hk).1
  have hz := phas_any h (k : Int)
  rw [show decide (0 ≤ (k : Int) ∧ (k : Int) < (l.length : Int)) = true from by simp; omega] at hz
  replace hz := Lib.hid hz
  have c0 := h.c0
  have c3 := h.at_ hk
  have h2 : (k : Int) < (l.length : Int) := by omega
  generalize l.length = n at *
  clear h hk
  go_enter Try.func23, Try.ntmps23
  go_wp2_with fail
  refine hz.out.mono ?_
  rintro ee w1 ⟨rfl, rfl⟩
  go_wp2_with fail
  go_ret
  exact ⟨rfl, rfl⟩
theorem powner_out (h : Pl w b a l ep ct) (s : Int) (hs : ¬ (0 ≤ s ∧ s < (l.length : Int))) :
    Calls Try.prog 23 #[.pointer (some ⟨b, 0, none⟩), .int .i64 s] w fun e w' => e = .returned (.int .i64 0) ∧ w = w' := by
  have hz := phas_any h s
  rw [show decide (0 ≤ s ∧ s < (l.length : Int)) = false from by rw [decide_eq_false_iff_not]; exact hs] at hz
  replace hz := Lib.hid hz
  clear h hs
  go_enter Try.func23, Try.ntmps23
  go_wp2_with fail
  refine hz.out.mono ?_
  rintro ee w1 ⟨rfl, rfl⟩
  go_wp2_with fail
  go_ret
  exact ⟨rfl, rfl⟩
end
end Go.Proofs.Ytoegohofmhijgaa.W
