/- The walks of the definitions of layer 8. -/
import Derived.Test.YtgomhnclmacleaaProg
import Derived.Test.YtgomhnclmacleaaFrameM
import Derived.Test.YtgomhnclmacleaaFixed
import Derived.Test.YtgomhnclmacleaaCrc
import Derived.Test.YtgomhnclmacleaaWorld
import Derived.Test.YtgomhnclmacleaaOpen
import Derived.ProofKit
import Derived.OpenShut
import Derived.Below
import Derived.Outline
import Derived.Lib.Hide
import Derived.Deep.RegionHeld3
namespace Go.Proofs.Ytgomhnclmacleaa.W
open Go.RowKit
open Go.Proofs.Ytgomhnclmacleaa.M
set_option linter.unusedVariables false

theorem keepR {w w' : World} (h : Below w.heap.size w w') {a : Addr} {v : Value} (hc : w.cell? a = some v) : w'.cell? a = some v := by
  rw [h.cell (cell_lt hc)]; exact hc

theorem rplace_any (a : Int) (w : World) :
    Calls Try.prog 73 #[.int .i64 a] w fun e w' => e = .returned (.bool (decide (1 ≤ a) && decide (a < 16))) ∧ w = w' := by
  by_cases h : 1 ≤ a
  · by_cases h2 : a < 16
    · go_enter Try.func73, Try.ntmps73
      go_wp2
      go_ret
      exact ⟨ret_bool (by rw [Bool.eq_iff_iff]; simp; omega), rfl⟩
    · go_enter Try.func73, Try.ntmps73
      go_wp2
      go_ret
      exact ⟨ret_bool (by rw [Bool.eq_iff_iff]; simp; omega), rfl⟩
  · go_enter Try.func73, Try.ntmps73
    go_wp2
    go_ret
    exact ⟨ret_bool (by rw [Bool.eq_iff_iff]; simp; omega), rfl⟩

theorem rwrong_any (pl k : Int) (p : ByteArray) (w : World) (hp : p.size ≤ 9223372036854775807) :
    Calls Try.prog 43 #[.int .i64 pl, .agg #[.int .i64 k, .string p]] w fun e w' => e = .returned (.int .i64 (wrongF pl k p.size)) ∧ Below w.heap.size w w' := by
  by_cases h1 : k < 1
  · rw [wrongF_arg (.inl h1)]
    go_enter Try.func43, Try.ntmps43
    go_wp2
    go_ret
    exact ⟨rfl, (Below.refl _ _).alloc (Nat.le_refl _) _⟩
  · have k1 : 1 ≤ k := by omega
    by_cases h2 : 255 < k
    · rw [wrongF_arg (.inr (.inl h2))]
      go_enter Try.func43, Try.ntmps43
      go_wp2
      go_ret
      exact ⟨rfl, (Below.refl _ _).alloc (Nat.le_refl _) _⟩
    · have k2 : k ≤ 255 := by omega
      by_cases h3 : 1 ≤ pl ∧ pl < 16
      · have h4 : ¬ (k < 1 ∨ 255 < k ∨ ¬ (1 ≤ pl ∧ pl < 16)) := by omega
        have hpl := Lib.hid (place_yes h3)
        by_cases h5 : 773 < p.size
        · rw [wrongF_long h4 h5]
          clear h3 h4
          go_enter Try.func43, Try.ntmps43
          go_wp2_with fail
          refine (rplace_any pl _).mono ?_
          rintro e w1 ⟨rfl, rfl⟩
          rw [hpl.out]
          go_wp2_with fail
          go_ret
          exact ⟨rfl, (Below.refl _ _).alloc (Nat.le_refl _) _⟩
        · rw [wrongF_no h4 h5]
          clear h3 h4
          go_enter Try.func43, Try.ntmps43
          go_wp2_with fail
          refine (rplace_any pl _).mono ?_
          rintro e w1 ⟨rfl, rfl⟩
          rw [hpl.out]
          go_wp2_with fail
          go_ret
          exact ⟨rfl, (Below.refl _ _).alloc (Nat.le_refl _) _⟩
      · rw [wrongF_arg (.inr (.inr h3))]
        have hpl := Lib.hid (place_no h3)
        clear h3
        go_enter Try.func43, Try.ntmps43
        go_wp2_with fail
        refine (rplace_any pl _).mono ?_
        rintro e w1 ⟨rfl, rfl⟩
        rw [hpl.out]
        go_wp2_with fail
        go_ret
        exact ⟨rfl, (Below.refl _ _).alloc (Nat.le_refl _) _⟩

theorem rsum_any (st pl k : Int) (p : ByteArray) (w : World) (s0 : 0 ≤ st) (s1 : st < 4294967296) (k1 : 0 ≤ k) (k2 : k ≤ 255) (h3 : 1 ≤ pl ∧ pl < 16) (hp : p.size ≤ 100000) :
    Calls Try.prog 77 #[.int .u32 st, .int .i64 pl, .int .i64 k, .string p] w fun e w' => e = .returned (.int .u32 (crc 0 (sumB st pl (cntF p.data.toList) (bodyF k p.data.toList)) : Nat)) ∧ Below w.heap.size w w' := by
  have h1b := fun (wx : World) (x : Int) => one_byte (P := Try.prog) 89 9 5 Try.underlying89 Try.underlying5 Try.underlying9 wx x
  have hB1 := B_one
  have z1 := fx_size st 4
  have z2 := fx_size pl 2
  have z3 := fx_size ((p.size : Int) + 1) 2
  obtain ⟨p0, p1⟩ := h3
  have hcat := Lib.hid (sum_cat st pl k p k1 k2)
  have hz := B_size (sumB st pl (cntF p.data.toList) (bodyF k p.data.toList))
  have hz2 : (sumB st pl (cntF p.data.toList) (bodyF k p.data.toList)).length = 9 + p.size := by
    unfold sumB; rw [List.length_append, List.length_append, List.length_append, fx_length, fx_length, cntF_len, bodyF_len]; simp; omega
  go_enter Try.func77, Try.ntmps77
  go_wp2_with fail
  refine (rfixed_any st 4 _ s0 (by omega) (by omega) (by omega)).mono ?_
  rintro e w1 ⟨rfl, hb1⟩
  go_wp2_with fail
  refine (rfixed_any pl 2 _ (by omega) (by omega) (by omega) (by omega)).mono ?_
  rintro e w2 ⟨rfl, hb2⟩
  go_wp2_with fail
  refine (rfixed_any _ 2 _ (by omega) (by omega) (by omega) (by omega)).mono ?_
  rintro e w3 ⟨rfl, hb3⟩
  go_wp2_with fail
  rw [hcat.out]
  refine (rcrc_any 0 _ _ (by omega) (by omega)).mono ?_
  rintro e w4 ⟨rfl, rfl⟩
  go_wp2_with fail
  go_ret
  exact ⟨rfl, grewAlloc (grew (grew hb1 hb2) hb3) _⟩

theorem keptByte {W w' : World} {x : Int} {e : TypeId} (h : Below (W.alloc (.cells #[.int .u8 x] e)).heap.size (W.alloc (.cells #[.int .u8 x] e)) w') : w'.cell? ⟨W.heap.size, 0, none⟩ = some (.int .u8 x) :=
  keepR h (by simp)
theorem keepA {w w' : World} {o : Obj} (h : Below (w.alloc o).heap.size (w.alloc o) w') {a : Addr} {v : Value} (hc : w.cell? a = some v) : w'.cell? a = some v :=
  keepR h (by rw [World.cell?_alloc_lt _ _ _ (cell_lt hc)]; exact hc)
theorem undrew {W w' : World} (h : Below W.drew.heap.size W.drew w') : Below W.heap.size W w' := ⟨h.os, h.tape, h.output, h.size, h.block⟩
theorem grewA {w W w' : World} {o : Obj} (h : Below w.heap.size w W) (hb : Below (W.alloc o).heap.size (W.alloc o) w') : Below w.heap.size w w' := grew (grewAlloc h o) hb

/-- The conversion of the kind's byte, named: so the region's walk doesn't try it ahead of its turn. -/
def cvOp : Oper := { dst := some 27, op := .convert 89 9 (.tmp 26), type := 9, pos := "ref.go:32", after := #[{ on := 19, ground := .data }], guard := none }
theorem cvOp_eq : ({ dst := some 27, op := .convert 89 9 (.tmp 26), type := 9, pos := "ref.go:32", after := #[{ on := 19, ground := .data }], guard := none } : Oper) = cvOp := rfl
attribute [local go_sem] cvOp

set_option maxRecDepth 100000 in
set_option maxHeartbeats 4000000 in
theorem rencode_any (st pl k : Int) (p : ByteArray) (w : World) (s0 : 0 ≤ st) (s1 : st < 4294967296) (k1 : 0 ≤ k) (k2 : k ≤ 255) (h3 : 1 ≤ pl ∧ pl < 16) (hp : p.size ≤ 100000) :
    Calls Try.prog 45 #[.int .u32 st, .int .i64 pl, .agg #[.int .i64 k, .string p]] w fun e w' => e = .returned (.string (B (encF st pl k p.data.toList))) ∧ Below w.heap.size w w' := by
  have h1b := fun (wx : World) (b : Nat) (hc : wx.cell? ⟨b, 0, none⟩ = some (.int .u8 k)) => one_byte_at (P := Try.prog) 89 9 5 Try.underlying89 Try.underlying5 Try.underlying9 wx b k hc
  have hB1 := B_one
  have z1 := fx_size ((p.size : Int) + 1) 2
  have hcl := crc_lt 0 (sumB st pl (cntF p.data.toList) (bodyF k p.data.toList))
  have hsum : ∀ W : World, Calls Try.prog 77 #[.int .u32 st, .int .i64 pl, .int .i64 k, .string p] W fun e w' => e = .returned (.int .u32 (crc 0 (sumB st pl (cntF p.data.toList) (bodyF k p.data.toList)) : Nat)) ∧ Below W.heap.size W w' := fun W => rsum_any st pl k p W s0 s1 k1 k2 h3 hp
  have hcat := enc_cat st pl k p k1 k2
  obtain ⟨C, hC⟩ : ∃ C, Hid (crc 0 (sumB st pl (cntF p.data.toList) (bodyF k p.data.toList)) = C) := ⟨_, Lib.hid rfl⟩
  rw [hC.out] at hsum hcat hcl
  replace hcat := Lib.hid hcat
  replace hsum := Lib.hid hsum
  have z2 := fx_size (C : Int) 4
  have hf1 : ∀ W : World, Calls Try.prog 76 #[.int .u64 ((p.size : Int) + 1), .int .i64 2] W fun e w' => e = .returned (.string (B (fx ((p.size : Int) + 1) 2))) ∧ Below W.heap.size W w' := fun W => rfixed_any _ 2 W (by omega) (by omega) (by omega) (by omega)
  have hf2 : ∀ W : World, Calls Try.prog 76 #[.int .u64 (C : Int), .int .i64 4] W fun e w' => e = .returned (.string (B (fx (C : Int) 4))) ∧ Below W.heap.size W w' := fun W => rfixed_any _ 4 W (by omega) (by omega) (by omega) (by omega)
  have hw1 : IntKind.i64.wrap ((p.size : Int) + 1) = (p.size : Int) + 1 := IntWalk.i64_in _ (by omega)
  have hw2 : IntKind.u64.wrap ((p.size : Int) + 1) = (p.size : Int) + 1 := wrap_low _ (by omega) (by omega)
  have hw3 : IntKind.u8.wrap k = k := by rw [IntKind.wrap_u8]; omega
  have hw4 : IntKind.u64.wrap (C : Int) = (C : Int) := wrap_low _ (by omega) (by omega)
  replace hf1 := Lib.hid hf1
  replace hf2 := Lib.hid hf2
  go_enter Try.func45, Try.ntmps45
  go_wp2_with fail
  have x0 : (w.alloc (.cells #[.int .i64 k, .string p] 72)).drew.cell? ⟨w.heap.size, 0, none⟩ = some (.int .i64 k) := by show (w.alloc _).cell? _ = _; simp
  have x1 : (w.alloc (.cells #[.int .i64 k, .string p] 72)).drew.cell? ⟨w.heap.size, 1, none⟩ = some (.string p) := by show (w.alloc _).cell? _ = _; simp
  have hbA : Below w.heap.size w (w.alloc (.cells #[.int .i64 k, .string p] 72)) := (Below.refl _ w).alloc (Nat.le_refl _) _
  have u0 : (w.alloc (.cells #[.int .i64 k, .string p] 72)).cell? ⟨w.heap.size, 0, none⟩ = some (.int .i64 k) := x0
  have u1 : (w.alloc (.cells #[.int .i64 k, .string p] 72)).cell? ⟨w.heap.size, 1, none⟩ = some (.string p) := x1
  have hsm : ¬ 9223372036854775807 < 2 + 4 + 1 + p.size := by omega
  have hsm2 : ¬ 9223372036854775807 < 7 + p.size := by omega
  replace hbA := Lib.hid hbA
  rw [cvOp_eq]
  go_region_held3 (fun w' => w'.cell? ⟨w.heap.size, 0, none⟩ = some (.int .i64 k) ∧ w'.cell? ⟨w.heap.size, 1, none⟩ = some (.string p)) (go_keep) (first
    | (go_at_call 76; (with_reducible refine (hf1.out _).mono ?_); rintro e w5 ⟨rfl, hb5⟩; replace hb5 := undrew hb5; first | (have y0 := keepR hb5 u0; have y1 := keepR hb5 u1; have g5 := Lib.hid (grew hbA.out hb5)) | (have y0 := keepA hb5 u0; have y1 := keepA hb5 u1; have g5 := Lib.hid (grewA hbA.out hb5); have kA : w5.cell? ⟨w.heap.size + 1, 0, none⟩ = some (.int .u8 k) := (by have hh := keptByte hb5; simpa using hh)))
    | (go_at_call 77; (with_reducible refine (hsum.out _).mono ?_); rintro e w6 ⟨rfl, hb6⟩; first | (have y2 := keepR hb6 y0; have y3 := keepR hb6 y1; have g6 := Lib.hid (grew g5.out hb6); try (have kB := keepR hb6 kA)) | (have y2 := keepA hb6 y0; have y3 := keepA hb6 y1; have g6 := Lib.hid (grewA g5.out hb6); have kB := keptByte hb6))
    | (go_at_call 76; (with_reducible refine (hf2.out _).mono ?_); rintro e w7 ⟨rfl, hb7⟩; first | (have y4 := keepR hb7 y2; have y5 := keepR hb7 y3; have g7 := Lib.hid (grew g6.out hb7); try (have kC := keepR hb7 kB)) | (have y4 := keepA hb7 y2; have y5 := keepA hb7 y3; have g7 := Lib.hid (grewA g6.out hb7); have kC := keptByte hb7)))
  all_goals rw [hcat.out]
  all_goals go_wp2_with fail
  all_goals go_ret
  all_goals first | exact ⟨rfl, g7.out⟩ | exact ⟨rfl, grewAlloc g7.out _⟩
end Go.Proofs.Ytgomhnclmacleaa.W
