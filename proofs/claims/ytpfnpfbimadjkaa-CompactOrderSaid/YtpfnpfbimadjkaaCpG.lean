/- Layer 21's law: four. -/
import Derived.Test.YtpfnpfbimadjkaaCpF
import Derived.Deep.RegionHeld3
namespace Go.Proofs.Ytpfnpfbimadjkaa.W
open Go.RowKit Go.Sort
open Go.Proofs.Ytpfnpfbimadjkaa.M Go.Proofs.Ytpfnpfbimadjkaa.D Go.Proofs.Ytpfnpfbimadjkaa.Z
set_option linter.unusedVariables false
set_option linter.unusedSimpArgs false

abbrev fA : Rc := ⟨0, 0, ⟨#[97]⟩, ⟨#[49]⟩, false, 0, 0, 0⟩
abbrev fB : Rc := ⟨1, 0, ⟨#[98]⟩, ⟨#[50]⟩, false, 0, 0, 0⟩
abbrev fC : Rc := ⟨2, 0, ⟨#[97]⟩, ⟨#[51]⟩, false, 0, 0, 0⟩
abbrev fD : Rc := ⟨3, 5, ⟨#[98]⟩, ⟨#[]⟩, true, 0, 0, 0⟩
abbrev four21 : List Rc := [fA, fB, fC, fD]
theorem keep5 : keepF 5 four21 = [fC, fD] := by kernel_rfl
theorem keep6 : keepF 6 four21 = [fC] := by kernel_rfl
theorem view4 : viewF four21 = [fC] := by kernel_rfl
theorem whole_at {W : World} {q : Nat} {t : TypeId} {rs : List Rc} (h : Whole W q t (rcRows rs)) (k : Nat) : RcAt W (some ⟨q, k * 8, none⟩) (rs.drop k) := fun i r hi =>
  ⟨q, k * 8, rfl, h.lt, fun j v hj => by
    rw [List.getElem?_drop] at hi
    rw [show k * 8 + i * 8 + j = (k + i) * 8 + j from by omega, h.cell]
    exact rcRows_at rs _ r hi j v hj⟩
theorem rcAt_take {W : World} {va : Option Addr} {rs : List Rc} (h : RcAt W va rs) (k : Nat) : RcAt W va (rs.take k) := fun i r hi => by
  have hil := (List.getElem?_eq_some_iff.1 hi).1
  rw [List.length_take] at hil
  rw [List.getElem?_take_of_lt (by omega)] at hi
  exact h i r hi
theorem wf4 : ∀ r ∈ four21, wfR r := fun r hr => by
  simp only [four21, List.mem_cons, List.not_mem_nil, or_false] at hr
  rcases hr with rfl | rfl | rfl | rfl <;> exact ⟨by decide, by decide, by decide, by decide, by decide, by decide, by decide⟩
theorem short4 : ∀ r ∈ four21, r.key.size ≤ 100000 := fun r hr => by
  simp only [four21, List.mem_cons, List.not_mem_nil, or_false] at hr
  rcases hr with rfl | rfl | rfl | rfl <;> decide
set_option maxRecDepth 100000 in
set_option maxHeartbeats 4000000 in
theorem four_any (w : World) :
    Calls Try.prog 10 #[] w fun e w' => e = .returned (.bool true) ∧ Below w.heap.size w w' := by
  obtain ⟨V, hV⟩ : ∃ V, Hid (V = w.alloc (.cells #[.int .i64 0, .int .i64 0, .string ⟨#[97]⟩, .string ⟨#[49]⟩, .bool false, .int .i64 0, .int .i64 0, .int .i64 0, .int .i64 1, .int .i64 0, .string ⟨#[98]⟩, .string ⟨#[50]⟩, .bool false, .int .i64 0, .int .i64 0, .int .i64 0, .int .i64 2, .int .i64 0, .string ⟨#[97]⟩, .string ⟨#[51]⟩, .bool false, .int .i64 0, .int .i64 0, .int .i64 0, .int .i64 3, .int .i64 5, .string ⟨#[98]⟩, .string ⟨#[]⟩, .bool true, .int .i64 0, .int .i64 0, .int .i64 0] 32)) := ⟨_, Lib.hid rfl⟩
  have hb0 : Below w.heap.size w V := by rw [hV.out]; exact grewAlloc (Below.refl _ _) _
  have hQ : Whole V w.heap.size 32 (rcRows four21) := by rw [hV.out]; exact Whole.new w _ _
  obtain ⟨q, hq⟩ : ∃ q, Hid (w.heap.size = q) := ⟨_, Lib.hid rfl⟩
  rw [hq.out] at hQ
  have h0 : RcAt V (some ⟨q, 0, none⟩) four21 := whole_at hQ 0
  have h2 : RcAt V (some ⟨q, 16, none⟩) [fC, fD] := whole_at hQ 2
  have h1 : RcAt V (some ⟨q, 16, none⟩) [fC] := rcAt_take h2 1
  have k5 : ∀ W, RcAt W (some ⟨q, 0, none⟩) four21 → Calls Try.prog 11 #[.slice (some ⟨q, 0, none⟩) 4 4, .int .i64 5] W fun e w' => ∃ A cc, e = .returned (.slice A 2 cc) ∧ RcAt w' A [fC, fD] ∧ Below W.heap.size W w' := fun W hW => by
    have := keep_any (some ⟨q, 0, none⟩) 4 four21 5 W hW (by decide) short4
    rw [keep5] at this
    exact this
  have k6 : ∀ W, RcAt W (some ⟨q, 0, none⟩) four21 → Calls Try.prog 11 #[.slice (some ⟨q, 0, none⟩) 4 4, .int .i64 6] W fun e w' => ∃ A cc, e = .returned (.slice A 1 cc) ∧ RcAt w' A [fC] ∧ Below W.heap.size W w' := fun W hW => by
    have := keep_any (some ⟨q, 0, none⟩) 4 four21 6 W hW (by decide) short4
    rw [keep6] at this
    exact this
  have kv : ∀ W, RcAt W (some ⟨q, 0, none⟩) four21 → Calls Try.prog 14 #[.slice (some ⟨q, 0, none⟩) 4 4] W fun e w' => ∃ A cc, e = .returned (.slice A 1 cc) ∧ RcAt w' A [fC] ∧ Below W.heap.size W w' := fun W hW => by
    have := view_any (some ⟨q, 0, none⟩) 4 four21 W hW (by decide) short4
    rw [view4] at this
    exact this
  have kg : ∀ W, RcAt W (some ⟨q, 0, none⟩) four21 → Calls Try.prog 16 #[.slice (some ⟨q, 0, none⟩) 4 4, .int .i64 5] W fun e w' => e = .returned (.int .i64 2) ∧ Below W.heap.size W w' := fun W hW => by
    have := garbage_any (some ⟨q, 0, none⟩) 4 four21 5 W hW (by decide) short4
    rw [keep5] at this
    exact this
  have s2 := Lib.hid (fun W A cc (hA : RcAt W A [fC, fD]) (hW : RcAt W (some ⟨q, 16, none⟩) [fC, fD]) => same_recs A (some ⟨q, 16, none⟩) 2 cc 2 [fC, fD] W hA hW rfl (by omega) (fun r hr => wf4 r (by simp at hr ⊢; rcases hr with e | e <;> simp [e])))
  have s1 := Lib.hid (fun W A cc (hA : RcAt W A [fC]) (hW : RcAt W (some ⟨q, 16, none⟩) [fC]) => same_recs A (some ⟨q, 16, none⟩) 1 cc 2 [fC] W hA hW rfl (by omega) (fun r hr => wf4 r (by simp at hr ⊢; simp [hr])))
  replace k5 := Lib.hid (k5 V.drew (h0.below (Below.refl _ _).drew))
  replace k6 := Lib.hid k6
  replace kv := Lib.hid kv
  replace kg := Lib.hid kg
  replace h0 := Lib.hid h0
  replace h1 := Lib.hid h1
  replace h2 := Lib.hid h2
  have hD : Below V.heap.size V V.drew := (Below.refl _ _).drew
  replace hb0 := Lib.hid hb0
  clear hQ
  go_enter Try.func10, Try.ntmps10
  go_upto_region 2 with fail
  rw [← show V = _ from hV.out, hq.out]
  clear hV hq
  go_region_held3 (fun w' => Below V.heap.size V w') (first | assumption | (go_keep)) (first
    | (go_at_call 11; (with_reducible refine k5.out.mono ?_); rintro _ w3 ⟨A3, a3, rfl, h3, hb3⟩; have hB3 := grew hD hb3; have t1 := Lib.hid (s2.out w3 A3 a3 h3 (h2.out.below hB3)); replace h3 := Lib.hid h3; replace hb3 := Lib.hid hb3)
    | (go_at_call 12; (with_reducible refine t1.out.mono ?_); rintro _ w4 ⟨rfl, hb4⟩; have hB4 := grew hB3 hb4; have t2 := Lib.hid (k6.out w4 (h0.out.below hB4)); replace hb4 := Lib.hid hb4)
    | (go_at_call 11; (with_reducible refine t2.out.mono ?_); rintro _ w5 ⟨A5, a5, rfl, h5, hb5⟩; have hB5 := grew hB4 hb5; have t3 := Lib.hid (s1.out w5 A5 a5 h5 (h1.out.below hB5)); replace h5 := Lib.hid h5; replace hb5 := Lib.hid hb5)
    | (go_at_call 12; (with_reducible refine t3.out.mono ?_); rintro _ w6 ⟨rfl, hb6⟩; have hB6 := grew hB5 hb6; have t4 := Lib.hid (kv.out w6 (h0.out.below hB6)); replace hb6 := Lib.hid hb6)
    | (go_at_call 14; (with_reducible refine t4.out.mono ?_); rintro _ w7 ⟨A7, a7, rfl, h7, hb7⟩; have hB7 := grew hB6 hb7; have t5 := Lib.hid (s1.out w7 A7 a7 h7 (h1.out.below hB7)); replace h7 := Lib.hid h7; replace hb7 := Lib.hid hb7)
    | (go_at_call 12; (with_reducible refine t5.out.mono ?_); rintro _ w8 ⟨rfl, hb8⟩; have hB8 := grew hB7 hb8; have t6 := Lib.hid (kg.out w8 (h0.out.below hB8)); replace hb8 := Lib.hid hb8)
    | (go_at_call 16; (with_reducible refine t6.out.mono ?_); rintro _ w9 ⟨rfl, hb9⟩; have hB9 := grew hB8 hb9; replace hb9 := Lib.hid hb9))
  all_goals
    replace hB9 := Lib.hid hB9
    go_wp2_with fail
    go_ret
    exact ⟨rfl, grew hb0.out hB9.out⟩
theorem small21 {rs : List Rc} (h : bigL rs = false) : rs.length ≤ 40 ∧ ∀ r ∈ rs, r.key.size ≤ 300 ∧ r.val.size ≤ 300 := by
  unfold bigL at h
  rw [Bool.or_eq_false_iff] at h
  refine ⟨by have := of_decide_eq_false h.1; omega, fun r hr => ?_⟩
  have := List.any_eq_false.1 h.2 r hr
  unfold bigB at this
  simp at this
  omega
theorem short21 {rs : List Rc} (h : ∀ r ∈ rs, r.key.size ≤ 300 ∧ r.val.size ≤ 300) : ∀ r ∈ rs, r.key.size ≤ 100000 := fun r hr => by have := h r hr; omega
end Go.Proofs.Ytpfnpfbimadjkaa.W
