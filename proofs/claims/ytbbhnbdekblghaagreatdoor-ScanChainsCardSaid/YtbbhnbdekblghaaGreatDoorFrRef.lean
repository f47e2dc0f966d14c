/- The walks of the definitions of layer 8. The walk of the definition of Decode of layer 8. -/
import Derived.Test.YtbbhnbdekblghaaGreatDoorProg
import Derived.Test.YtbbhnbdekblghaaGreatDoorFrameM
import Derived.Test.YtbbhnbdekblghaaGreatDoorFixed
import Derived.Test.YtbbhnbdekblghaaGreatDoorCrc
import Derived.Test.YtbbhnbdekblghaaGreatDoorWorld
import Derived.Test.YtbbhnbdekblghaaGreatDoorOpen
import Derived.ProofKit
import Derived.OpenShut
import Derived.Below
import Derived.Outline
import Derived.Lib.Hide
import Derived.Deep.RegionHeld3
import Derived.Test.YtbbhnbdekblghaaGreatDoorFlat
import Derived.Test.YtbbhnbdekblghaaGreatDoorStops
import Derived.Deep.QuietTactic
import Derived.BigQuiet
import Derived.BigRegion
section
namespace Go.Proofs.YtbbhnbdekblghaaGreatDoor.W
open Go.RowKit
open Go.Proofs.YtbbhnbdekblghaaGreatDoor.M
set_option linter.unusedVariables false

theorem keepR {w w' : World} (h : Below w.heap.size w w') {a : Addr} {v : Value} (hc : w.cell? a = some v) : w'.cell? a = some v := by
  rw [h.cell (cell_lt hc)]; exact hc

theorem rplace_any (a : Int) (w : World) :
    Calls Tryz.prog 145 #[.int .i64 a] w fun e w' => e = .returned (.bool (decide (1 ≤ a) && decide (a < 16))) ∧ w = w' := by
  by_cases h : 1 ≤ a
  · by_cases h2 : a < 16
    · go_enter Tryz.func145, Tryz.ntmps145
      go_wp2
      go_ret
      exact ⟨ret_bool (by rw [Bool.eq_iff_iff]; simp; omega), rfl⟩
    · go_enter Tryz.func145, Tryz.ntmps145
      go_wp2
      go_ret
      exact ⟨ret_bool (by rw [Bool.eq_iff_iff]; simp; omega), rfl⟩
  · go_enter Tryz.func145, Tryz.ntmps145
    go_wp2
    go_ret
    exact ⟨ret_bool (by rw [Bool.eq_iff_iff]; simp; omega), rfl⟩

theorem rwrong_any (pl k : Int) (p : ByteArray) (w : World) (hp : p.size ≤ 9223372036854775807) :
    Calls Tryz.prog 111 #[.int .i64 pl, .agg #[.int .i64 k, .string p]] w fun e w' => e = .returned (.int .i64 (wrongF pl k p.size)) ∧ Below w.heap.size w w' := by
  by_cases h1 : k < 1
  · rw [wrongF_arg (.inl h1)]
    go_enter Tryz.func111, Tryz.ntmps111
    go_wp2
    go_ret
    exact ⟨rfl, (Below.refl _ _).alloc (Nat.le_refl _) _⟩
  · have k1 : 1 ≤ k := by omega
    by_cases h2 : 255 < k
    · rw [wrongF_arg (.inr (.inl h2))]
      go_enter Tryz.func111, Tryz.ntmps111
      go_wp2
      go_ret
      exact ⟨rfl, (Below.refl _ _).alloc (Nat.le_refl _) _⟩
    · have k2 : k ≤ 255 := by omega
      by_cases h3 : 1 ≤ pl ∧ pl < 16
      · have h4 : ¬ (k < 1 ∨ 255 < k ∨ ¬ (1 ≤ pl ∧ pl < 16)) := by omega
        have hpl := Lib.hid (place_yes h3)
        by_cases h5 : 773 < p.size
        · rw [wrongF_long h4 h5]
          clear h3 h4
          go_enter Tryz.func111, Tryz.ntmps111
          go_wp2_with fail
          refine (rplace_any pl _).mono ?_
          rintro e w1 ⟨rfl, rfl⟩
          rw [hpl.out]
          go_wp2_with fail
          go_ret
          exact ⟨rfl, (Below.refl _ _).alloc (Nat.le_refl _) _⟩
        · rw [wrongF_no h4 h5]
          clear h3 h4
          go_enter Tryz.func111, Tryz.ntmps111
          go_wp2_with fail
          refine (rplace_any pl _).mono ?_
          rintro e w1 ⟨rfl, rfl⟩
          rw [hpl.out]
          go_wp2_with fail
          go_ret
          exact ⟨rfl, (Below.refl _ _).alloc (Nat.le_refl _) _⟩
      · rw [wrongF_arg (.inr (.inr h3))]
        have hpl := Lib.hid (place_no h3)
        clear h3
        go_enter Tryz.func111, Tryz.ntmps111
        go_wp2_with fail
        refine (rplace_any pl _).mono ?_
        rintro e w1 ⟨rfl, rfl⟩
        rw [hpl.out]
        go_wp2_with fail
        go_ret
        exact ⟨rfl, (Below.refl _ _).alloc (Nat.le_refl _) _⟩

theorem keptByte {W w' : World} {x : Int} {e : TypeId} (h : Below (W.alloc (.cells #[.int .u8 x] e)).heap.size (W.alloc (.cells #[.int .u8 x] e)) w') : w'.cell? ⟨W.heap.size, 0, none⟩ = some (.int .u8 x) :=
  keepR h (by simp)
theorem keepA {w w' : World} {o : Obj} (h : Below (w.alloc o).heap.size (w.alloc o) w') {a : Addr} {v : Value} (hc : w.cell? a = some v) : w'.cell? a = some v :=
  keepR h (by rw [World.cell?_alloc_lt _ _ _ (cell_lt hc)]; exact hc)
theorem undrew {W w' : World} (h : Below W.drew.heap.size W.drew w') : Below W.heap.size W w' := ⟨h.os, h.tape, h.output, h.size, h.block⟩
theorem grewA {w W w' : World} {o : Obj} (h : Below w.heap.size w W) (hb : Below (W.alloc o).heap.size (W.alloc o) w') : Below w.heap.size w w' := grew (grewAlloc h o) hb

/-- The conversion of the kind's byte, named: so the region's walk doesn't try it ahead of its turn. -/
def cvOp : Oper := { dst := some 27, op := .convert 148 9 (.tmp 26), type := 9, pos := "ref.go:32", after := #[{ on := 19, ground := .data }], guard := none }
theorem cvOp_eq : ({ dst := some 27, op := .convert 148 9 (.tmp 26), type := 9, pos := "ref.go:32", after := #[{ on := 19, ground := .data }], guard := none } : Oper) = cvOp := rfl
attribute [local go_sem] cvOp

end Go.Proofs.YtbbhnbdekblghaaGreatDoor.W
end
section
namespace Go.Proofs.YtbbhnbdekblghaaGreatDoor.W
open Go.RowKit
open Go.Proofs.YtbbhnbdekblghaaGreatDoor.M
open Go.Proofs.YtbbhnbdekblghaaGreatDoor.D
open Go.Proofs.YtbbhnbdekblghaaGreatDoor.Z
set_option linter.unusedVariables false

/-- What its Decode tells. -/
abbrev rdecV (st pl : Int) (s : ByteArray) : Value := .agg #[.int .i64 (decK st pl s), .string (decP st pl s), .int .i64 (decN st pl s), .int .i64 (decWhy st pl s)]
abbrev rnoV (x : Int) : Value := .agg #[.int .i64 0, .string ⟨#[]⟩, .int .i64 0, .int .i64 x]
theorem rdecV_no {st pl : Int} {s : ByteArray} {x : Int} (h : decWhy st pl s = x) (hx : x ≠ 0) : rdecV st pl s = rnoV x := by
  obtain ⟨e1, e2, e3⟩ := decNo h hx
  unfold rdecV rnoV
  rw [e1, e2, e3, h]
theorem rdecV_yes {st pl : Int} {s : ByteArray} (h : decWhy st pl s = 0) : rdecV st pl s = .agg #[.int .i64 (bt s.data.toList 6 : Nat), .string (s.extract 7 (6 + toldF s)), .int .i64 ((6 + toldF s : Nat) : Int), .int .i64 0] := by
  obtain ⟨e1, e2, e3⟩ := decYes h
  unfold rdecV
  rw [e1, e2, e3, h]

theorem rfar_store {w W : World} {b : Nat} (hb : Below w.heap.size w W) (hB : w.heap.size ≤ b) (vs : List Value) : Below w.heap.size w (W.setCells b 0 vs) :=
  hb.trans (((Kept.refl (fun q => q = b) W).setCells (c := b) (.inl rfl) 0 vs).below hb.size (fun q hq => by omega))

end Go.Proofs.YtbbhnbdekblghaaGreatDoor.W
end
