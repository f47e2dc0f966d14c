/- The walks of the definitions of layer 8. The walk of the definition of Decode of layer 8. -/
import Derived.Test.YtlgoepbfdldgnaaDoorProg
import Derived.Test.YtlgoepbfdldgnaaDoorFrameM
import Derived.Test.YtlgoepbfdldgnaaDoorFixed
import Derived.Test.YtlgoepbfdldgnaaDoorCrc
import Derived.Test.YtlgoepbfdldgnaaDoorWorld
import Derived.Test.YtlgoepbfdldgnaaDoorOpen
import Derived.ProofKit
import Derived.OpenShut
import Derived.Below
import Derived.Outline
import Derived.Lib.Hide
import Derived.Deep.RegionHeld3
import Derived.Test.YtlgoepbfdldgnaaDoorFlat
import Derived.Test.YtlgoepbfdldgnaaDoorStops
import Derived.Deep.QuietTactic
import Derived.BigQuiet
import Derived.BigRegion
section
namespace Go.Proofs.YtlgoepbfdldgnaaDoor.W
open Go.RowKit
open Go.Proofs.YtlgoepbfdldgnaaDoor.M
set_option linter.unusedVariables false

theorem keepR {w w' : World} (h : Below w.heap.size w w') {a : Addr} {v : Value} (hc : w.cell? a = some v) : w'.cell? a = some v := by
  rw [h.cell (cell_lt hc)]; exact hc

theorem rplace_any (a : Int) (w : World) :
    Calls Tryd.prog 102 #[.int .i64 a] w fun e w' => e = .returned (.bool (decide (1 ≤ a) && decide (a < 16))) ∧ w = w' := by
  by_cases h : 1 ≤ a
  · by_cases h2 : a < 16
    · go_enter Tryd.func102, Tryd.ntmps102
      go_wp2
      go_ret
      exact ⟨ret_bool (by rw [Bool.eq_iff_iff]; simp; omega), rfl⟩
    · go_enter Tryd.func102, Tryd.ntmps102
      go_wp2
      go_ret
      exact ⟨ret_bool (by rw [Bool.eq_iff_iff]; simp; omega), rfl⟩
  · go_enter Tryd.func102, Tryd.ntmps102
    go_wp2
    go_ret
    exact ⟨ret_bool (by rw [Bool.eq_iff_iff]; simp; omega), rfl⟩

theorem rwrong_any (pl k : Int) (p : ByteArray) (w : World) (hp : p.size ≤ 9223372036854775807) :
    Calls Tryd.prog 61 #[.int .i64 pl, .agg #[.int .i64 k, .string p]] w fun e w' => e = .returned (.int .i64 (wrongF pl k p.size)) ∧ Below w.heap.size w w' := by
  by_cases h1 : k < 1
  · rw [wrongF_arg (.inl h1)]
    go_enter Tryd.func61, Tryd.ntmps61
    go_wp2
    go_ret
    exact ⟨rfl, (Below.refl _ _).alloc (Nat.le_refl _) _⟩
  · have k1 : 1 ≤ k := by omega
    by_cases h2 : 255 < k
    · rw [wrongF_arg (.inr (.inl h2))]
      go_enter Tryd.func61, Tryd.ntmps61
      go_wp2
      go_ret
      exact ⟨rfl, (Below.refl _ _).alloc (Nat.le_refl _) _⟩
    · have k2 : k ≤ 255 := by omega
      by_cases h3 : 1 ≤ pl ∧ pl < 16
      · have h4 : ¬ (k < 1 ∨ 255 < k ∨ ¬ (1 ≤ pl ∧ pl < 16)) := by omega
        have hpl := Lib.hid (place_yes h3)
        by_cases h5 : 773 < p.size
        · rw [wrongF_long h4 h5]
          clear h3 h4
          go_enter Tryd.func61, Tryd.ntmps61
          go_wp2_with fail
          refine (rplace_any pl _).mono ?_
          rintro e w1 ⟨rfl, rfl⟩
          rw [hpl.out]
          go_wp2_with fail
          go_ret
          exact ⟨rfl, (Below.refl _ _).alloc (Nat.le_refl _) _⟩
        · rw [wrongF_no h4 h5]
          clear h3 h4
          go_enter Tryd.func61, Tryd.ntmps61
          go_wp2_with fail
          refine (rplace_any pl _).mono ?_
          rintro e w1 ⟨rfl, rfl⟩
          rw [hpl.out]
          go_wp2_with fail
          go_ret
          exact ⟨rfl, (Below.refl _ _).alloc (Nat.le_refl _) _⟩
      · rw [wrongF_arg (.inr (.inr h3))]
        have hpl := Lib.hid (place_no h3)
        clear h3
        go_enter Tryd.func61, Tryd.ntmps61
        go_wp2_with fail
        refine (rplace_any pl _).mono ?_
        rintro e w1 ⟨rfl, rfl⟩
        rw [hpl.out]
        go_wp2_with fail
        go_ret
        exact ⟨rfl, (Below.refl _ _).alloc (Nat.le_refl _) _⟩

theorem rsum_any (st pl k : Int) (p : ByteArray) (w : World) (s0 : 0 ≤ st) (s1 : st < 4294967296) (k1 : 0 ≤ k) (k2 : k ≤ 255) (h3 : 1 ≤ pl ∧ pl < 16) (hp : p.size ≤ 100000) :
    Calls Tryd.prog 103 #[.int .u32 st, .int .i64 pl, .int .i64 k, .string p] w fun e w' => e = .returned (.int .u32 (crc 0 (sumB st pl (cntF p.data.toList) (bodyF k p.data.toList)) : Nat)) ∧ Below w.heap.size w w' := by
  have h1b := fun (wx : World) (x : Int) => one_byte (P := Tryd.prog) 108 9 5 Tryd.underlying108 Tryd.underlying5 Tryd.underlying9 wx x
  have hB1 := B_one
  have z1 := fx_size st 4
  have z2 := fx_size pl 2
  have z3 := fx_size ((p.size : Int) + 1) 2
  obtain ⟨p0, p1⟩ := h3
  have hcat := Lib.hid (sum_cat st pl k p k1 k2)
  have hz := B_size (sumB st pl (cntF p.data.toList) (bodyF k p.data.toList))
  have hz2 : (sumB st pl (cntF p.data.toList) (bodyF k p.data.toList)).length = 9 + p.size := by
    unfold sumB; rw [List.length_append, List.length_append, List.length_append, fx_length, fx_length, cntF_len, bodyF_len]; simp; omega
  go_enter Tryd.func103, Tryd.ntmps103
  go_wp2_with fail
  refine (rfixed_any st 4 _ s0 (by omega) (by omega) (by omega)).mono ?_
  rintro e w1 ⟨rfl, hb1⟩
  go_wp2_with fail
  refine (rfixed_any pl 2 _ (by omega) (by omega) (by omega) (by omega)).mono ?_
  rintro e w2 ⟨rfl, hb2⟩
  go_wp2_with fail
  refine (rfixed_any _ 2 _ (by omega) (by omega) (by omega) (by omega)).mono ?_
  rintro e w3 ⟨rfl, hb3⟩
  go_wp2_with fail
  rw [hcat.out]
  refine (rcrc_any 0 _ _ (by omega) (by omega)).mono ?_
  rintro e w4 ⟨rfl, rfl⟩
  go_wp2_with fail
  go_ret
  exact ⟨rfl, grewAlloc (grew (grew hb1 hb2) hb3) _⟩

theorem keptByte {W w' : World} {x : Int} {e : TypeId} (h : Below (W.alloc (.cells #[.int .u8 x] e)).heap.size (W.alloc (.cells #[.int .u8 x] e)) w') : w'.cell? ⟨W.heap.size, 0, none⟩ = some (.int .u8 x) :=
  keepR h (by simp)
theorem keepA {w w' : World} {o : Obj} (h : Below (w.alloc o).heap.size (w.alloc o) w') {a : Addr} {v : Value} (hc : w.cell? a = some v) : w'.cell? a = some v :=
  keepR h (by rw [World.cell?_alloc_lt _ _ _ (cell_lt hc)]; exact hc)
theorem undrew {W w' : World} (h : Below W.drew.heap.size W.drew w') : Below W.heap.size W w' := ⟨h.os, h.tape, h.output, h.size, h.block⟩
theorem grewA {w W w' : World} {o : Obj} (h : Below w.heap.size w W) (hb : Below (W.alloc o).heap.size (W.alloc o) w') : Below w.heap.size w w' := grew (grewAlloc h o) hb

/-- The conversion of the kind's byte, named: so the region's walk doesn't try it ahead of its turn. -/
def cvOp : Oper := { dst := some 27, op := .convert 108 9 (.tmp 26), type := 9, pos := "ref.go:32", after := #[{ on := 19, ground := .data }], guard := none }
theorem cvOp_eq : ({ dst := some 27, op := .convert 108 9 (.tmp 26), type := 9, pos := "ref.go:32", after := #[{ on := 19, ground := .data }], guard := none } : Oper) = cvOp := rfl
attribute [local go_sem] cvOp

set_option maxRecDepth 100000 in
set_option maxHeartbeats 4000000 in
theorem rencode_any (st pl k : Int) (p : ByteArray) (w : World) (s0 : 0 ≤ st) (s1 : st < 4294967296) (k1 : 0 ≤ k) (k2 : k ≤ 255) (h3 : 1 ≤ pl ∧ pl < 16) (hp : p.size ≤ 100000) :
    Calls Tryd.prog 62 #[.int .u32 st, .int .i64 pl, .agg #[.int .i64 k, .string p]] w fun e w' => e = .returned (.string (B (encF st pl k p.data.toList))) ∧ Below w.heap.size w w' := by
  have h1b := fun (wx : World) (b : Nat) (hc : wx.cell? ⟨b, 0, none⟩ = some (.int .u8 k)) => one_byte_at (P := Tryd.prog) 108 9 5 Tryd.underlying108 Tryd.underlying5 Tryd.underlying9 wx b k hc
  have hB1 := B_one
  have z1 := fx_size ((p.size : Int) + 1) 2
  have hcl := crc_lt 0 (sumB st pl (cntF p.data.toList) (bodyF k p.data.toList))
  have hsum : ∀ W : World, Calls Tryd.prog 103 #[.int .u32 st, .int .i64 pl, .int .i64 k, .string p] W fun e w' => e = .returned (.int .u32 (crc 0 (sumB st pl (cntF p.data.toList) (bodyF k p.data.toList)) : Nat)) ∧ Below W.heap.size W w' := fun W => rsum_any st pl k p W s0 s1 k1 k2 h3 hp
  have hcat := enc_cat st pl k p k1 k2
  obtain ⟨C, hC⟩ : ∃ C, Hid (crc 0 (sumB st pl (cntF p.data.toList) (bodyF k p.data.toList)) = C) := ⟨_, Lib.hid rfl⟩
  rw [hC.out] at hsum hcat hcl
  replace hcat := Lib.hid hcat
  replace hsum := Lib.hid hsum
  have z2 := fx_size (C : Int) 4
  have hf1 : ∀ W : World, Calls Tryd.prog 96 #[.int .u64 ((p.size : Int) + 1), .int .i64 2] W fun e w' => e = .returned (.string (B (fx ((p.size : Int) + 1) 2))) ∧ Below W.heap.size W w' := fun W => rfixed_any _ 2 W (by omega) (by omega) (by omega) (by omega)
  have hf2 : ∀ W : World, Calls Tryd.prog 96 #[.int .u64 (C : Int), .int .i64 4] W fun e w' => e = .returned (.string (B (fx (C : Int) 4))) ∧ Below W.heap.size W w' := fun W => rfixed_any _ 4 W (by omega) (by omega) (by omega) (by omega)
  have hw1 : IntKind.i64.wrap ((p.size : Int) + 1) = (p.size : Int) + 1 := IntWalk.i64_in _ (by omega)
  have hw2 : IntKind.u64.wrap ((p.size : Int) + 1) = (p.size : Int) + 1 := wrap_low _ (by omega) (by omega)
  have hw3 : IntKind.u8.wrap k = k := by rw [IntKind.wrap_u8]; omega
  have hw4 : IntKind.u64.wrap (C : Int) = (C : Int) := wrap_low _ (by omega) (by omega)
  replace hf1 := Lib.hid hf1
  replace hf2 := Lib.hid hf2
  go_enter Tryd.func62, Tryd.ntmps62
  go_wp2_with fail
  have x0 : (w.alloc (.cells #[.int .i64 k, .string p] 45)).drew.cell? ⟨w.heap.size, 0, none⟩ = some (.int .i64 k) := by show (w.alloc _).cell? _ = _; simp
  have x1 : (w.alloc (.cells #[.int .i64 k, .string p] 45)).drew.cell? ⟨w.heap.size, 1, none⟩ = some (.string p) := by show (w.alloc _).cell? _ = _; simp
  have hbA : Below w.heap.size w (w.alloc (.cells #[.int .i64 k, .string p] 45)) := (Below.refl _ w).alloc (Nat.le_refl _) _
  have u0 : (w.alloc (.cells #[.int .i64 k, .string p] 45)).cell? ⟨w.heap.size, 0, none⟩ = some (.int .i64 k) := x0
  have u1 : (w.alloc (.cells #[.int .i64 k, .string p] 45)).cell? ⟨w.heap.size, 1, none⟩ = some (.string p) := x1
  have hsm : ¬ 9223372036854775807 < 2 + 4 + 1 + p.size := by omega
  have hsm2 : ¬ 9223372036854775807 < 7 + p.size := by omega
  replace hbA := Lib.hid hbA
  rw [cvOp_eq]
  go_region_held3 (fun w' => w'.cell? ⟨w.heap.size, 0, none⟩ = some (.int .i64 k) ∧ w'.cell? ⟨w.heap.size, 1, none⟩ = some (.string p)) (go_keep) (first
    | (go_at_call 96; (with_reducible refine (hf1.out _).mono ?_); rintro e w5 ⟨rfl, hb5⟩; replace hb5 := undrew hb5; first | (have y0 := keepR hb5 u0; have y1 := keepR hb5 u1; have g5 := Lib.hid (grew hbA.out hb5)) | (have y0 := keepA hb5 u0; have y1 := keepA hb5 u1; have g5 := Lib.hid (grewA hbA.out hb5); have kA : w5.cell? ⟨w.heap.size + 1, 0, none⟩ = some (.int .u8 k) := (by have hh := keptByte hb5; simpa using hh)))
    | (go_at_call 103; (with_reducible refine (hsum.out _).mono ?_); rintro e w6 ⟨rfl, hb6⟩; first | (have y2 := keepR hb6 y0; have y3 := keepR hb6 y1; have g6 := Lib.hid (grew g5.out hb6); try (have kB := keepR hb6 kA)) | (have y2 := keepA hb6 y0; have y3 := keepA hb6 y1; have g6 := Lib.hid (grewA g5.out hb6); have kB := keptByte hb6))
    | (go_at_call 96; (with_reducible refine (hf2.out _).mono ?_); rintro e w7 ⟨rfl, hb7⟩; first | (have y4 := keepR hb7 y2; have y5 := keepR hb7 y3; have g7 := Lib.hid (grew g6.out hb7); try (have kC := keepR hb7 kB)) | (have y4 := keepA hb7 y2; have y5 := keepA hb7 y3; have g7 := Lib.hid (grewA g6.out hb7); have kC := keptByte hb7)))
  all_goals rw [hcat.out]
  all_goals go_wp2_with fail
  all_goals go_ret
  all_goals first | exact ⟨rfl, g7.out⟩ | exact ⟨rfl, grewAlloc g7.out _⟩
end Go.Proofs.YtlgoepbfdldgnaaDoor.W
end
section
namespace Go.Proofs.YtlgoepbfdldgnaaDoor.W
open Go.RowKit
open Go.Proofs.YtlgoepbfdldgnaaDoor.M
open Go.Proofs.YtlgoepbfdldgnaaDoor.D
open Go.Proofs.YtlgoepbfdldgnaaDoor.Z
set_option linter.unusedVariables false

/-- What its Decode tells. -/
abbrev rdecV (st pl : Int) (s : ByteArray) : Value := .agg #[.int .i64 (decK st pl s), .string (decP st pl s), .int .i64 (decN st pl s), .int .i64 (decWhy st pl s)]
abbrev rnoV (x : Int) : Value := .agg #[.int .i64 0, .string ⟨#[]⟩, .int .i64 0, .int .i64 x]
theorem rdecV_no {st pl : Int} {s : ByteArray} {x : Int} (h : decWhy st pl s = x) (hx : x ≠ 0) : rdecV st pl s = rnoV x := by
  obtain ⟨e1, e2, e3⟩ := decNo h hx
  unfold rdecV rnoV
  rw [e1, e2, e3, h]
theorem rdecV_yes {st pl : Int} {s : ByteArray} (h : decWhy st pl s = 0) : rdecV st pl s = .agg #[.int .i64 (bt s.data.toList 6 : Nat), .string (s.extract 7 (6 + toldF s)), .int .i64 ((6 + toldF s : Nat) : Int), .int .i64 0] := by
  obtain ⟨e1, e2, e3⟩ := decYes h
  unfold rdecV
  rw [e1, e2, e3, h]

theorem rfar_store {w W : World} {b : Nat} (hb : Below w.heap.size w W) (hB : w.heap.size ≤ b) (vs : List Value) : Below w.heap.size w (W.setCells b 0 vs) :=
  hb.trans (((Kept.refl (fun q => q = b) W).setCells (c := b) (.inl rfl) 0 vs).below hb.size (fun q hq => by omega))

set_option maxRecDepth 100000 in
set_option maxHeartbeats 4000000 in
theorem rdecode_any (st pl : Int) (s : ByteArray) (w : World) (s0 : 0 ≤ st) (s1 : st < 4294967296) (hs : s.size ≤ 1000000) :
    Calls Tryd.prog 71 #[.int .u32 st, .int .i64 pl, .string s] w fun e w' => e = .returned (rdecV st pl s) ∧ Below w.heap.size w w' := by
  by_cases h3 : ¬ (1 ≤ pl ∧ pl < 16)
  · rw [rdecV_no (show decWhy st pl s = 1 from by unfold decWhy; rw [if_pos h3]) (by decide)]
    have hpl := Lib.hid (place_no h3)
    clear h3
    go_enter Tryd.func71, Tryd.ntmps71
    go_wp2_with fail
    refine (rplace_any pl _).mono ?_
    rintro e w1 ⟨rfl, rfl⟩
    rw [hpl.out]
    go_wp2_with fail
    exact bodyPost_ret (v := rnoV 1) (by simp [results, Tryd.results71, go_sem]) rfl ⟨rfl, (Below.refl _ _).alloc (Nat.le_refl _) _⟩
  replace h3 : 1 ≤ pl ∧ pl < 16 := Decidable.not_not.1 h3
  have hpl := Lib.hid (place_yes h3)
  by_cases h4 : s.size < 2
  · rw [rdecV_no (show decWhy st pl s = 3 from by unfold decWhy; rw [if_neg (by omega), if_pos h4]) (by decide)]
    clear h3
    go_enter Tryd.func71, Tryd.ntmps71
    go_wp2_with fail
    refine (rplace_any pl _).mono ?_
    rintro e w1 ⟨rfl, rfl⟩
    rw [hpl.out]
    go_wp2_with fail
    exact bodyPost_ret (v := rnoV 3) (by simp [results, Tryd.results71, go_sem]) rfl ⟨rfl, (Below.refl _ _).alloc (Nat.le_refl _) _⟩
  have hTl := toldF_lt s
  have hTt := (told_two s (by omega)).1
  have hsame := enc_same st pl s
  have hk := bt_lt s.data.toList 6
  have h1 := bt_lt s.data.toList 0
  have h2 := bt_lt s.data.toList 1
  obtain ⟨T, hT⟩ : ∃ T, Hid (toldF s = T) := ⟨_, Lib.hid rfl⟩
  have h4' : (2 : Int) ≤ (s.size : Int) := by omega
  have h4a : (0 : Int) < (s.size : Int) := by omega
  have h4b : (1 : Int) < (s.size : Int) := by omega
  have hi0 : ∀ wx, (Instr.index 9 (.string s) (.int .i64 0)).run Tryd.prog wx = .ok (.int .u8 (bt s.data.toList 0 : Nat)) wx := fun wx => idx_nat (P := Tryd.prog) 9 Tryd.underlying9 s .i64 0 (by omega) wx
  have hi1 : ∀ wx, (Instr.index 9 (.string s) (.int .i64 1)).run Tryd.prog wx = .ok (.int .u8 (bt s.data.toList 1 : Nat)) wx := fun wx => idx_nat (P := Tryd.prog) 9 Tryd.underlying9 s .i64 1 (by omega) wx
  rw [hT.out] at hTl hTt
  obtain ⟨b0, hb0⟩ : ∃ b, Hid (bt s.data.toList 0 = b) := ⟨_, Lib.hid rfl⟩
  obtain ⟨b1, hb1⟩ : ∃ b, Hid (bt s.data.toList 1 = b) := ⟨_, Lib.hid rfl⟩
  rw [hb0.out] at hi0 hTt h1
  rw [hb1.out] at hi1 hTt h2
  have hw1 : IntKind.i64.wrap ((b0 : Int) * 256) = (b0 : Int) * 256 := IntWalk.i64_in _ (by omega)
  have hw2 : IntKind.i64.wrap ((b0 : Int) * 256 + (b1 : Int)) = (T : Int) := by rw [IntWalk.i64_in _ (by omega)]; omega
  clear hTt
  by_cases h5 : T = 0
  · rw [rdecV_no (show decWhy st pl s = 6 from by unfold decWhy; rw [if_neg (by omega), if_neg h4, if_pos (by rw [hT.out]; exact h5)]) (by decide)]
    have h5' : ((T : Int) == 0) = true := by simp; omega
    clear h3 hsame h5
    go_enter Tryd.func71, Tryd.ntmps71
    go_wp2_with fail
    refine (rplace_any pl _).mono ?_
    rintro e w1 ⟨rfl, rfl⟩
    rw [hpl.out]
    go_wp2_with fail
    go_quiet (fail)
    have hZ : Whole ((w.alloc (.cells #[.int .i64 0, .string ⟨#[]⟩, .int .i64 0, .int .i64 0] 130)).drewN nq) w.heap.size 130 [.int .i64 0, .string ⟨#[]⟩, .int .i64 0, .int .i64 0] := (Whole.new w 130 [.int .i64 0, .string ⟨#[]⟩, .int .i64 0, .int .i64 0]).drewN nq
    have hbW : Hid (Below w.heap.size w ((w.alloc (.cells #[.int .i64 0, .string ⟨#[]⟩, .int .i64 0, .int .i64 0] 130)).drewN nq)) := Lib.hid (let h := (Below.refl w.heap.size w).alloc (Nat.le_refl _) (.cells #[.int .i64 0, .string ⟨#[]⟩, .int .i64 0, .int .i64 0] 130); ⟨h.os, h.tape, h.output, h.size, h.block⟩)
    generalize (w.alloc (.cells #[.int .i64 0, .string ⟨#[]⟩, .int .i64 0, .int .i64 0] 130)).drewN nq = W at hZ hbW ⊢
    have q0 := hZ.cell 0
    have q1 := hZ.cell 1
    have q2 := hZ.cell 2
    have q3 := hZ.cell 3
    have r0 := hZ.frozen 0
    have r1 := hZ.frozen 1
    have r2 := hZ.frozen 2
    have r3 := hZ.frozen 3
    simp only [List.getElem?_cons_zero, List.getElem?_cons_succ] at q0 q1 q2 q3
    clear hZ
    go_wp2_with fail
    exact bodyPost_ret (v := rnoV 6) (by simp [results, Tryd.results71, go_sem, q0, q1, q2, q3]) rfl ⟨rfl, rfar_store hbW.out (Nat.le_refl _) [.int .i64 0, .string ⟨#[]⟩, .int .i64 0, .int .i64 6]⟩
  have h5' : ((T : Int) == 0) = false := by rw [beq_eq_false_iff_ne]; omega
  by_cases h6 : 774 < T
  · rw [rdecV_no (show decWhy st pl s = 2 from by unfold decWhy; rw [if_neg (by omega), if_neg h4, hT.out, if_neg h5, if_pos h6]) (by decide)]
    clear h3 h5 hsame
    go_enter Tryd.func71, Tryd.ntmps71
    go_wp2_with fail
    refine (rplace_any pl _).mono ?_
    rintro e w1 ⟨rfl, rfl⟩
    rw [hpl.out]
    go_wp2_with fail
    go_quiet (fail)
    have hZ : Whole ((w.alloc (.cells #[.int .i64 0, .string ⟨#[]⟩, .int .i64 0, .int .i64 0] 130)).drewN nq) w.heap.size 130 [.int .i64 0, .string ⟨#[]⟩, .int .i64 0, .int .i64 0] := (Whole.new w 130 [.int .i64 0, .string ⟨#[]⟩, .int .i64 0, .int .i64 0]).drewN nq
    have hbW : Hid (Below w.heap.size w ((w.alloc (.cells #[.int .i64 0, .string ⟨#[]⟩, .int .i64 0, .int .i64 0] 130)).drewN nq)) := Lib.hid (let h := (Below.refl w.heap.size w).alloc (Nat.le_refl _) (.cells #[.int .i64 0, .string ⟨#[]⟩, .int .i64 0, .int .i64 0] 130); ⟨h.os, h.tape, h.output, h.size, h.block⟩)
    generalize (w.alloc (.cells #[.int .i64 0, .string ⟨#[]⟩, .int .i64 0, .int .i64 0] 130)).drewN nq = W at hZ hbW ⊢
    have q0 := hZ.cell 0
    have q1 := hZ.cell 1
    have q2 := hZ.cell 2
    have q3 := hZ.cell 3
    have r0 := hZ.frozen 0
    have r1 := hZ.frozen 1
    have r2 := hZ.frozen 2
    have r3 := hZ.frozen 3
    simp only [List.getElem?_cons_zero, List.getElem?_cons_succ] at q0 q1 q2 q3
    clear hZ
    go_wp2_with fail
    exact bodyPost_ret (v := rnoV 2) (by simp [results, Tryd.results71, go_sem, q0, q1, q2, q3]) rfl ⟨rfl, rfar_store hbW.out (Nat.le_refl _) [.int .i64 0, .string ⟨#[]⟩, .int .i64 0, .int .i64 2]⟩
  by_cases h7 : s.size < 6 + T
  · rw [rdecV_no (show decWhy st pl s = 3 from by unfold decWhy; rw [if_neg (by omega), if_neg h4, hT.out, if_neg h5, if_neg h6, if_pos h7]) (by decide)]
    clear h3 h5 hsame
    go_enter Tryd.func71, Tryd.ntmps71
    go_wp2_with fail
    refine (rplace_any pl _).mono ?_
    rintro e w1 ⟨rfl, rfl⟩
    rw [hpl.out]
    go_wp2_with fail
    go_quiet (fail)
    have hZ : Whole ((w.alloc (.cells #[.int .i64 0, .string ⟨#[]⟩, .int .i64 0, .int .i64 0] 130)).drewN nq) w.heap.size 130 [.int .i64 0, .string ⟨#[]⟩, .int .i64 0, .int .i64 0] := (Whole.new w 130 [.int .i64 0, .string ⟨#[]⟩, .int .i64 0, .int .i64 0]).drewN nq
    have hbW : Hid (Below w.heap.size w ((w.alloc (.cells #[.int .i64 0, .string ⟨#[]⟩, .int .i64 0, .int .i64 0] 130)).drewN nq)) := Lib.hid (let h := (Below.refl w.heap.size w).alloc (Nat.le_refl _) (.cells #[.int .i64 0, .string ⟨#[]⟩, .int .i64 0, .int .i64 0] 130); ⟨h.os, h.tape, h.output, h.size, h.block⟩)
    generalize (w.alloc (.cells #[.int .i64 0, .string ⟨#[]⟩, .int .i64 0, .int .i64 0] 130)).drewN nq = W at hZ hbW ⊢
    have q0 := hZ.cell 0
    have q1 := hZ.cell 1
    have q2 := hZ.cell 2
    have q3 := hZ.cell 3
    have r0 := hZ.frozen 0
    have r1 := hZ.frozen 1
    have r2 := hZ.frozen 2
    have r3 := hZ.frozen 3
    simp only [List.getElem?_cons_zero, List.getElem?_cons_succ] at q0 q1 q2 q3
    clear hZ
    go_wp2_with fail
    exact bodyPost_ret (v := rnoV 3) (by simp [results, Tryd.results71, go_sem, q0, q1, q2, q3]) rfl ⟨rfl, rfar_store hbW.out (Nat.le_refl _) [.int .i64 0, .string ⟨#[]⟩, .int .i64 0, .int .i64 3]⟩
  have hWhy := Lib.hid (show decWhy st pl s = if bt s.data.toList 6 = 0 ∨ s.extract 2 6 ≠ B (sumF st pl (s.extract 0 2).data.toList (bodyS s).data.toList) then 4 else 0 from by
    unfold decWhy; rw [if_neg (by omega), if_neg h4, hT.out, if_neg h5, if_neg h6, if_neg h7])
  rw [hT.out] at hsame
  have hsame2 := Lib.hid (hsame (by omega) (by omega))
  clear hsame
  have h7' : 6 + (T : Int) ≤ (s.size : Int) := by omega
  have h7a : (6 : Int) < (s.size : Int) := by omega
  have h7b : (7 : Int) ≤ 6 + (T : Int) := by omega
  have hi6 : ∀ wx, (Instr.index 9 (.string s) (.int .i64 6)).run Tryd.prog wx = .ok (.int .u8 (bt s.data.toList 6 : Nat)) wx := fun wx => idx_nat (P := Tryd.prog) 9 Tryd.underlying9 s .i64 6 (by omega) wx
  obtain ⟨K, hK⟩ : ∃ K, Hid (bt s.data.toList 6 = K) := ⟨_, Lib.hid rfl⟩
  rw [hK.out] at hWhy hi6 hsame2 hk
  have hPz : (s.extract 7 (6 + T)).size = T - 1 := by simp; omega
  obtain ⟨Py, hPy⟩ : ∃ P, Hid (s.extract 7 (6 + T) = P) := ⟨_, Lib.hid rfl⟩
  rw [hPy.out] at hsame2 hPz
  by_cases hK0 : K = 0
  · rw [rdecV_no (show decWhy st pl s = 4 from by rw [hWhy.out, if_pos (.inl hK0)]) (by decide)]
    have hKb : ((K : Int) == 0) = true := by simp; omega
    replace hK0 := Lib.hid hK0
    clear hWhy hsame2
    go_enter Tryd.func71, Tryd.ntmps71
    go_wp2_with fail
    refine (rplace_any pl _).mono ?_
    rintro e w1 ⟨rfl, rfl⟩
    rw [hpl.out]
    go_wp2_with fail
    go_quiet (fail)
    have hZ : Whole ((w.alloc (.cells #[.int .i64 0, .string ⟨#[]⟩, .int .i64 0, .int .i64 0] 130)).drewN nq) w.heap.size 130 [.int .i64 0, .string ⟨#[]⟩, .int .i64 0, .int .i64 0] := (Whole.new w 130 [.int .i64 0, .string ⟨#[]⟩, .int .i64 0, .int .i64 0]).drewN nq
    have hbW : Hid (Below w.heap.size w ((w.alloc (.cells #[.int .i64 0, .string ⟨#[]⟩, .int .i64 0, .int .i64 0] 130)).drewN nq)) := Lib.hid (let h := (Below.refl w.heap.size w).alloc (Nat.le_refl _) (.cells #[.int .i64 0, .string ⟨#[]⟩, .int .i64 0, .int .i64 0] 130); ⟨h.os, h.tape, h.output, h.size, h.block⟩)
    generalize (w.alloc (.cells #[.int .i64 0, .string ⟨#[]⟩, .int .i64 0, .int .i64 0] 130)).drewN nq = W at hZ hbW ⊢
    go_wp2_with fail
    go_region
    rw [hPy.out]
    obtain ⟨fb, hfb⟩ : ∃ b, Hid (W.heap.size = b) := ⟨_, Lib.hid rfl⟩
    have hF : Whole ((W.alloc (.cells #[.int .i64 (K : Nat), .string Py] 45)).drew) W.heap.size 45 [.int .i64 (K : Nat), .string Py] := (Whole.new W 45 [.int .i64 (K : Nat), .string Py]).drewN 1
    replace hZ : Whole ((W.alloc (.cells #[.int .i64 (K : Nat), .string Py] 45)).drew) w.heap.size 130 [.int .i64 0, .string ⟨#[]⟩, .int .i64 0, .int .i64 0] := (hZ.alloc _).drewN 1
    replace hbW : Hid (Below w.heap.size w ((W.alloc (.cells #[.int .i64 (K : Nat), .string Py] 45)).drew)) := Lib.hid (hbW.out.alloc hbW.out.size _).drew
    generalize (W.alloc (.cells #[.int .i64 (K : Nat), .string Py] 45)).drew = W2 at hF hZ hbW ⊢
    rw [hfb.out] at hF ⊢
    clear hfb W
    have c0 := hF.cell 0
    have c1 := hF.cell 1
    simp only [List.getElem?_cons_zero, List.getElem?_cons_succ] at c0 c1
    go_wp2_with fail
    go_quiet (fail)
    replace hZ := hZ.drewN nq
    replace hbW : Hid (Below w.heap.size w (W2.drewN nq)) := Lib.hid (let h := hbW.out; ⟨h.os, h.tape, h.output, h.size, h.block⟩)
    generalize W2.drewN nq = W3 at hZ hbW ⊢
    clear hF c0 c1
    have q0 := hZ.cell 0
    have q1 := hZ.cell 1
    have q2 := hZ.cell 2
    have q3 := hZ.cell 3
    have r0 := hZ.frozen 0
    have r1 := hZ.frozen 1
    have r2 := hZ.frozen 2
    have r3 := hZ.frozen 3
    simp only [List.getElem?_cons_zero, List.getElem?_cons_succ] at q0 q1 q2 q3
    clear hZ
    go_wp2_with fail
    exact bodyPost_ret (v := rnoV 4) (by simp [results, Tryd.results71, go_sem, q0, q1, q2, q3]) rfl ⟨rfl, rfar_store hbW.out (Nat.le_refl _) [.int .i64 0, .string ⟨#[]⟩, .int .i64 0, .int .i64 4]⟩
  have h60 : (0 : Int) ≤ 6 + (T : Int) := by omega
  have h6w : IntKind.i64.wrap (6 + (T : Int)) = 6 + (T : Int) := IntWalk.i64_in _ (by omega)
  have hKb : ((K : Int) == 0) = false := by rw [beq_eq_false_iff_ne]; omega
  have hEnc : ∀ W : World, Calls Tryd.prog 62 #[.int .u32 st, .int .i64 pl, .agg #[.int .i64 (K : Nat), .string Py]] W fun e w' => e = .returned (.string (B (encF st pl (K : Nat) Py.data.toList))) ∧ Below W.heap.size W w' := fun W => rencode_any st pl K Py W s0 s1 (by omega) (by omega) h3 (by omega)
  replace hEnc := Lib.hid hEnc
  obtain ⟨E, hE⟩ : ∃ E, Hid (B (encF st pl (K : Nat) Py.data.toList) = E) := ⟨_, Lib.hid rfl⟩
  rw [hE.out] at hEnc hsame2
  by_cases hC : E = s.extract 0 (6 + T)
  · rw [rdecV_yes (show decWhy st pl s = 0 from by rw [hWhy.out, if_neg (by rintro (h | h); exact hK0 h; exact h (hsame2.out.1 hC))]), hK.out, hT.out, hPy.out]
    have hCb : (E.toList == (s.extract 0 (6 + (T : Int)).toNat).toList) = true := by rw [show (6 + (T : Int)).toNat = 6 + T from by omega]; exact bytes_eq hC
    replace hK0 := Lib.hid hK0
    clear hWhy hsame2 hC
    go_enter Tryd.func71, Tryd.ntmps71
    go_wp2_with fail
    refine (rplace_any pl _).mono ?_
    rintro e w1 ⟨rfl, rfl⟩
    rw [hpl.out]
    go_wp2_with fail
    go_quiet (fail)
    have hZ : Whole ((w.alloc (.cells #[.int .i64 0, .string ⟨#[]⟩, .int .i64 0, .int .i64 0] 130)).drewN nq) w.heap.size 130 [.int .i64 0, .string ⟨#[]⟩, .int .i64 0, .int .i64 0] := (Whole.new w 130 [.int .i64 0, .string ⟨#[]⟩, .int .i64 0, .int .i64 0]).drewN nq
    have hbW : Hid (Below w.heap.size w ((w.alloc (.cells #[.int .i64 0, .string ⟨#[]⟩, .int .i64 0, .int .i64 0] 130)).drewN nq)) := Lib.hid (let h := (Below.refl w.heap.size w).alloc (Nat.le_refl _) (.cells #[.int .i64 0, .string ⟨#[]⟩, .int .i64 0, .int .i64 0] 130); ⟨h.os, h.tape, h.output, h.size, h.block⟩)
    generalize (w.alloc (.cells #[.int .i64 0, .string ⟨#[]⟩, .int .i64 0, .int .i64 0] 130)).drewN nq = W at hZ hbW ⊢
    go_wp2_with fail
    go_region
    rw [hPy.out]
    obtain ⟨fb, hfb⟩ : ∃ b, Hid (W.heap.size = b) := ⟨_, Lib.hid rfl⟩
    have hF : Whole ((W.alloc (.cells #[.int .i64 (K : Nat), .string Py] 45)).drew) W.heap.size 45 [.int .i64 (K : Nat), .string Py] := (Whole.new W 45 [.int .i64 (K : Nat), .string Py]).drewN 1
    replace hZ : Whole ((W.alloc (.cells #[.int .i64 (K : Nat), .string Py] 45)).drew) w.heap.size 130 [.int .i64 0, .string ⟨#[]⟩, .int .i64 0, .int .i64 0] := (hZ.alloc _).drewN 1
    replace hbW : Hid (Below w.heap.size w ((W.alloc (.cells #[.int .i64 (K : Nat), .string Py] 45)).drew)) := Lib.hid (hbW.out.alloc hbW.out.size _).drew
    generalize (W.alloc (.cells #[.int .i64 (K : Nat), .string Py] 45)).drew = W2 at hF hZ hbW ⊢
    rw [hfb.out] at hF ⊢
    clear hfb W
    have c0 := hF.cell 0
    have c1 := hF.cell 1
    simp only [List.getElem?_cons_zero, List.getElem?_cons_succ] at c0 c1
    go_wp2_with fail
    go_region_held3 (fun w' => w'.cell? ⟨fb, 0, none⟩ = some (.int .i64 (K : Nat)) ∧ w'.cell? ⟨fb, 1, none⟩ = some (.string Py)) (go_keep) (first
      | (go_at_call 62; (with_reducible refine (hEnc.out _).mono ?_); rintro e w5 ⟨rfl, hb5⟩; replace hb5 := undrew hb5; have d0 := keepR hb5 c0; have d1 := keepR hb5 c1))
    have hZ5 : Whole w5 w.heap.size 130 [.int .i64 0, .string ⟨#[]⟩, .int .i64 0, .int .i64 0] := hZ.below hb5 hZ.lt
    have hb6 := Lib.hid (hbW.out.trans (hb5.mono hbW.out.size))
    clear hZ hbW hb5 c0 c1 hF
    have q0 := hZ5.cell 0
    have q1 := hZ5.cell 1
    have q2 := hZ5.cell 2
    have q3 := hZ5.cell 3
    have r0 := hZ5.frozen 0
    have r1 := hZ5.frozen 1
    have r2 := hZ5.frozen 2
    have r3 := hZ5.frozen 3
    simp only [List.getElem?_cons_zero, List.getElem?_cons_succ] at q0 q1 q2 q3
    clear hZ5
    go_wp2_with fail
    exact bodyPost_ret (v := .agg #[.int .i64 (K : Nat), .string Py, .int .i64 ((6 + T : Nat) : Int), .int .i64 0]) (by simp [results, Tryd.results71, go_sem, q0, q1, q2, q3]) rfl ⟨rfl, rfar_store hb6.out (Nat.le_refl _) [.int .i64 (K : Nat), .string Py, .int .i64 ((6 + T : Nat) : Int), .int .i64 0]⟩
  · rw [rdecV_no (show decWhy st pl s = 4 from by rw [hWhy.out, if_pos (.inr (fun h => hC (hsame2.out.2 h)))]) (by decide)]
    have hCb : (E.toList == (s.extract 0 (6 + (T : Int)).toNat).toList) = false := by rw [show (6 + (T : Int)).toNat = 6 + T from by omega]; exact bytes_ne hC
    replace hK0 := Lib.hid hK0
    clear hWhy hsame2 hC
    go_enter Tryd.func71, Tryd.ntmps71
    go_wp2_with fail
    refine (rplace_any pl _).mono ?_
    rintro e w1 ⟨rfl, rfl⟩
    rw [hpl.out]
    go_wp2_with fail
    go_quiet (fail)
    have hZ : Whole ((w.alloc (.cells #[.int .i64 0, .string ⟨#[]⟩, .int .i64 0, .int .i64 0] 130)).drewN nq) w.heap.size 130 [.int .i64 0, .string ⟨#[]⟩, .int .i64 0, .int .i64 0] := (Whole.new w 130 [.int .i64 0, .string ⟨#[]⟩, .int .i64 0, .int .i64 0]).drewN nq
    have hbW : Hid (Below w.heap.size w ((w.alloc (.cells #[.int .i64 0, .string ⟨#[]⟩, .int .i64 0, .int .i64 0] 130)).drewN nq)) := Lib.hid (let h := (Below.refl w.heap.size w).alloc (Nat.le_refl _) (.cells #[.int .i64 0, .string ⟨#[]⟩, .int .i64 0, .int .i64 0] 130); ⟨h.os, h.tape, h.output, h.size, h.block⟩)
    generalize (w.alloc (.cells #[.int .i64 0, .string ⟨#[]⟩, .int .i64 0, .int .i64 0] 130)).drewN nq = W at hZ hbW ⊢
    go_wp2_with fail
    go_region
    rw [hPy.out]
    obtain ⟨fb, hfb⟩ : ∃ b, Hid (W.heap.size = b) := ⟨_, Lib.hid rfl⟩
    have hF : Whole ((W.alloc (.cells #[.int .i64 (K : Nat), .string Py] 45)).drew) W.heap.size 45 [.int .i64 (K : Nat), .string Py] := (Whole.new W 45 [.int .i64 (K : Nat), .string Py]).drewN 1
    replace hZ : Whole ((W.alloc (.cells #[.int .i64 (K : Nat), .string Py] 45)).drew) w.heap.size 130 [.int .i64 0, .string ⟨#[]⟩, .int .i64 0, .int .i64 0] := (hZ.alloc _).drewN 1
    replace hbW : Hid (Below w.heap.size w ((W.alloc (.cells #[.int .i64 (K : Nat), .string Py] 45)).drew)) := Lib.hid (hbW.out.alloc hbW.out.size _).drew
    generalize (W.alloc (.cells #[.int .i64 (K : Nat), .string Py] 45)).drew = W2 at hF hZ hbW ⊢
    rw [hfb.out] at hF ⊢
    clear hfb W
    have c0 := hF.cell 0
    have c1 := hF.cell 1
    simp only [List.getElem?_cons_zero, List.getElem?_cons_succ] at c0 c1
    go_wp2_with fail
    go_region_held3 (fun w' => w'.cell? ⟨fb, 0, none⟩ = some (.int .i64 (K : Nat)) ∧ w'.cell? ⟨fb, 1, none⟩ = some (.string Py)) (go_keep) (first
      | (go_at_call 62; (with_reducible refine (hEnc.out _).mono ?_); rintro e w5 ⟨rfl, hb5⟩; replace hb5 := undrew hb5; have d0 := keepR hb5 c0; have d1 := keepR hb5 c1))
    have hZ5 : Whole w5 w.heap.size 130 [.int .i64 0, .string ⟨#[]⟩, .int .i64 0, .int .i64 0] := hZ.below hb5 hZ.lt
    have hb6 := Lib.hid (hbW.out.trans (hb5.mono hbW.out.size))
    clear hZ hbW hb5 c0 c1 hF
    have q0 := hZ5.cell 0
    have q1 := hZ5.cell 1
    have q2 := hZ5.cell 2
    have q3 := hZ5.cell 3
    have r0 := hZ5.frozen 0
    have r1 := hZ5.frozen 1
    have r2 := hZ5.frozen 2
    have r3 := hZ5.frozen 3
    simp only [List.getElem?_cons_zero, List.getElem?_cons_succ] at q0 q1 q2 q3
    clear hZ5
    go_wp2_with fail
    exact bodyPost_ret (v := rnoV 4) (by simp [results, Tryd.results71, go_sem, q0, q1, q2, q3]) rfl ⟨rfl, rfar_store hb6.out (Nat.le_refl _) [.int .i64 0, .string ⟨#[]⟩, .int .i64 0, .int .i64 4]⟩
end Go.Proofs.YtlgoepbfdldgnaaDoor.W
end
