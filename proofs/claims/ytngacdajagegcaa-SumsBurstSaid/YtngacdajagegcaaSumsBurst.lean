/- For every beginning, every string and any two numbers the law SumsBurst returns true: of two texts that differ within four bytes in a row the CRCs are unlike. No condition. -/
import Derived.Test.YtngacdajagegcaaRows
import Derived.Test.YtngacdajagegcaaSums
import Derived.Test.YtngacdajagegcaaOpen
import Derived.Test.YtngacdajagegcaaBurst
import Derived.BigRegion
import Derived.ChangeOld
import Derived.ShutString
namespace Go.Proofs.Ytngacdajagegcaa.sumsBurst
open Go.ChangeShapes Go.WideShapes Go.ChangeAt Go.RowKit
open Go.ChangeMaps (open_string shut_string)
open Go.Proofs.Ytngacdajagegcaa.M Go.Proofs.Ytngacdajagegcaa.W
set_option linter.unusedVariables false

set_option maxRecDepth 100000 in
set_option maxHeartbeats 4000000 in
theorem walk (a0 : Int) (a1 : ByteArray) (x0 x1 : Int) (w : World) (w0 : (Lit.int .u32 a0).wf = true) (v1 : a1.size ≤ maxLen) (w2 : (Lit.int .u32 x0).wf = true) (w3 : (Lit.int .u32 x1).wf = true) :
    Calls Try.prog 12 #[.int .u32 a0, .string a1, .agg #[.int .u32 x0, .int .u32 x1]] w fun e w' => e = .returned (.bool true) ∧ Below w.heap.size w w' := by
  obtain ⟨l0, l1⟩ := bounds_u32 w0
  obtain ⟨m0, m1⟩ := bounds_u32 w2
  obtain ⟨n0, n1⟩ := bounds_u32 w3
  obtain ⟨b, rfl⟩ := Int.eq_ofNat_of_zero_le l0
  obtain ⟨q0, rfl⟩ := Int.eq_ofNat_of_zero_le m0
  obtain ⟨q1, rfl⟩ := Int.eq_ofNat_of_zero_le n0
  unfold maxLen at v1
  have hb : b < 4294967296 := by omega
  obtain ⟨i, hi⟩ : ∃ i : Nat, (q0 : Int) % 1000 = (i : Int) := ⟨q0 % 1000, rfl⟩
  have hi1000 : i < 1000 := by omega
  by_cases h3 : 1000 < a1.size
  · go_enter Try.func12, Try.ntmps12
    go_wp2_with (go_at_call 37; refine (nine_any _).mono ?_; rintro e w1 ⟨rfl, rfl⟩)
    all_goals go_ret
    all_goals exact ⟨rfl, (Below.refl _ _).alloc (Nat.le_refl _) _⟩
  · by_cases h4 : (a1.size : Int) < (i : Int) + 4
    · go_enter Try.func12, Try.ntmps12
      go_wp2_with (go_at_call 37; refine (nine_any _).mono ?_; rintro e w1 ⟨rfl, rfl⟩)
      all_goals go_ret
      all_goals exact ⟨rfl, (Below.refl _ _).alloc (Nat.le_refl _) _⟩
    · by_cases hq : q1 = 0
      · have hqb : ((q1 : Int) == 0) = true := by rw [hq]; rfl
        clear hq
        go_enter Try.func12, Try.ntmps12
        go_wp2_with (go_at_call 37; refine (nine_any _).mono ?_; rintro e w1 ⟨rfl, rfl⟩)
        all_goals go_ret
        all_goals exact ⟨rfl, (Below.refl _ _).alloc (Nat.le_refl _) _⟩
      · have hqb : ((q1 : Int) == 0) = false := by simp; exact hq
        have hlen : a1.data.toList.length = a1.size := by simp
        have hne := crc_turned_ne b hb a1.data.toList i (by rw [hlen]; omega) (q1 % 256) (q1 / 256 % 256) (q1 / 65536 % 256) (q1 / 16777216) (by omega) (by omega) (by omega) (by omega) (by omega)
        unfold turned at hne
        have hb0 := bt_lt a1.data.toList i
        have hX0 : bits BinOp.xor IntKind.u8 ((bt a1.data.toList i : Nat) : Int) ((q1 : Int) % 256) = ((bt a1.data.toList i ^^^ q1 % 256 : Nat) : Int) := u8_xor_nat (bt a1.data.toList i) (q1 % 256) hb0 (by omega)
        have he0 : bt a1.data.toList i ^^^ q1 % 256 < 256 := Nat.xor_lt_two_pow (n := 8) hb0 (by omega)
        generalize bt a1.data.toList i ^^^ q1 % 256 = e0 at hX0 he0 hne
        have hb1 := bt_lt a1.data.toList (i + 1)
        have hX1 : bits BinOp.xor IntKind.u8 ((bt a1.data.toList (i + 1) : Nat) : Int) ((q1 : Int) / 256 % 256) = ((bt a1.data.toList (i + 1) ^^^ q1 / 256 % 256 : Nat) : Int) := u8_xor_nat (bt a1.data.toList (i + 1)) (q1 / 256 % 256) hb1 (by omega)
        have he1 : bt a1.data.toList (i + 1) ^^^ q1 / 256 % 256 < 256 := Nat.xor_lt_two_pow (n := 8) hb1 (by omega)
        generalize bt a1.data.toList (i + 1) ^^^ q1 / 256 % 256 = e1 at hX1 he1 hne
        have hb2 := bt_lt a1.data.toList (i + 2)
        have hX2 : bits BinOp.xor IntKind.u8 ((bt a1.data.toList (i + 2) : Nat) : Int) ((q1 : Int) / 65536 % 256) = ((bt a1.data.toList (i + 2) ^^^ q1 / 65536 % 256 : Nat) : Int) := u8_xor_nat (bt a1.data.toList (i + 2)) (q1 / 65536 % 256) hb2 (by omega)
        have he2 : bt a1.data.toList (i + 2) ^^^ q1 / 65536 % 256 < 256 := Nat.xor_lt_two_pow (n := 8) hb2 (by omega)
        generalize bt a1.data.toList (i + 2) ^^^ q1 / 65536 % 256 = e2 at hX2 he2 hne
        have hb3 := bt_lt a1.data.toList (i + 3)
        have hX3 : bits BinOp.xor IntKind.u8 ((bt a1.data.toList (i + 3) : Nat) : Int) ((q1 : Int) / 16777216) = ((bt a1.data.toList (i + 3) ^^^ q1 / 16777216 : Nat) : Int) := u8_xor_nat (bt a1.data.toList (i + 3)) (q1 / 16777216) hb3 (by omega)
        have he3 : bt a1.data.toList (i + 3) ^^^ q1 / 16777216 < 256 := Nat.xor_lt_two_pow (n := 8) hb3 (by omega)
        generalize bt a1.data.toList (i + 3) ^^^ q1 / 16777216 = e3 at hX3 he3 hne
        replace hlen := Lib.hid hlen
        replace hne := Lib.hid hne
        clear hq
        have kb := fun wx : World => run_bytes_of_string (P := Try.prog) wx 9 62 5 a1 Try.underlying9 Try.underlying62 Try.underlying5
        go_enter Try.func12, Try.ntmps12
        go_wp2_with fail
        clear kb
        have hrow : ByteRow (((w.alloc (.cells #[.int .u32 (q0 : Int), .int .u32 (q1 : Int)] 64)).alloc (.cells (bytesRow a1 (grownCap (w.alloc (.cells #[.int .u32 (q0 : Int), .int .u32 (q1 : Int)] 64)) a1.size 0 5)) 5 ((bytesRow a1 (grownCap (w.alloc (.cells #[.int .u32 (q0 : Int), .int .u32 (q1 : Int)] 64)) a1.size 0 5)).size, (bytesRow a1 (grownCap (w.alloc (.cells #[.int .u32 (q0 : Int), .int .u32 (q1 : Int)] 64)) a1.size 0 5)).size + 1))).drew) (w.heap.size + 1) a1.data.toList := by
          have := ByteRow.made (w.alloc (.cells #[.int .u32 (q0 : Int), .int .u32 (q1 : Int)] 64)) a1 (grownCap (w.alloc (.cells #[.int .u32 (q0 : Int), .int .u32 (q1 : Int)] 64)) a1.size 0 5) 5
          rw [show (w.alloc (.cells #[.int .u32 (q0 : Int), .int .u32 (q1 : Int)] 64)).heap.size = w.heap.size + 1 from by simp] at this
          exact this
        have hbel : Below w.heap.size w (((w.alloc (.cells #[.int .u32 (q0 : Int), .int .u32 (q1 : Int)] 64)).alloc (.cells (bytesRow a1 (grownCap (w.alloc (.cells #[.int .u32 (q0 : Int), .int .u32 (q1 : Int)] 64)) a1.size 0 5)) 5 ((bytesRow a1 (grownCap (w.alloc (.cells #[.int .u32 (q0 : Int), .int .u32 (q1 : Int)] 64)) a1.size 0 5)).size, (bytesRow a1 (grownCap (w.alloc (.cells #[.int .u32 (q0 : Int), .int .u32 (q1 : Int)] 64)) a1.size 0 5)).size + 1))).drew) := (((Below.refl _ w).alloc (Nat.le_refl _) _).alloc (by simp) _).drew
        have hcq : (((w.alloc (.cells #[.int .u32 (q0 : Int), .int .u32 (q1 : Int)] 64)).alloc (.cells (bytesRow a1 (grownCap (w.alloc (.cells #[.int .u32 (q0 : Int), .int .u32 (q1 : Int)] 64)) a1.size 0 5)) 5 ((bytesRow a1 (grownCap (w.alloc (.cells #[.int .u32 (q0 : Int), .int .u32 (q1 : Int)] 64)) a1.size 0 5)).size, (bytesRow a1 (grownCap (w.alloc (.cells #[.int .u32 (q0 : Int), .int .u32 (q1 : Int)] 64)) a1.size 0 5)).size + 1))).drew).cell? ⟨w.heap.size, 1, none⟩ = some (.int .u32 (q1 : Int)) := by
          rw [World.cell?_drew, World.cell?_alloc_lt _ _ _ (by simp)]
          simp
        generalize (((w.alloc (.cells #[.int .u32 (q0 : Int), .int .u32 (q1 : Int)] 64)).alloc (.cells (bytesRow a1 (grownCap (w.alloc (.cells #[.int .u32 (q0 : Int), .int .u32 (q1 : Int)] 64)) a1.size 0 5)) 5 ((bytesRow a1 (grownCap (w.alloc (.cells #[.int .u32 (q0 : Int), .int .u32 (q1 : Int)] 64)) a1.size 0 5)).size, (bytesRow a1 (grownCap (w.alloc (.cells #[.int .u32 (q0 : Int), .int .u32 (q1 : Int)] 64)) a1.size 0 5)).size + 1))).drew) = w4 at hrow hbel hcq ⊢
        generalize grownCap (w.alloc (.cells #[.int .u32 (q0 : Int), .int .u32 (q1 : Int)] 64)) a1.size 0 5 = cap
        obtain ⟨hc0, hf0⟩ := hrow i (by first | (simp only [List.length_set]; rw [hlen.out]; omega) | (rw [hlen.out]; omega))
        replace hrow := Lib.hid hrow
        go_region
        have hcq0 : (w4.setCell ⟨w.heap.size + 1, i, none⟩ (.int .u8 (e0 : Int))).drew.cell? ⟨w.heap.size, 1, none⟩ = some (.int .u32 (q1 : Int)) := by
          rw [World.cell?_drew, World.cell?_setCell_other _ _ _ _ (by intro he; injection he with h1 _ _; omega)]
          exact hcq
        replace hrow := (hrow.out.set i (by first | (simp only [List.length_set]; rw [hlen.out]; omega) | (rw [hlen.out]; omega)) (e0 : Int) (by omega) (by omega)).drew
        replace hbel := (hbel.setCell (p := ⟨w.heap.size + 1, i, none⟩) (by show w.heap.size ≤ w.heap.size + 1; omega) (.int .u8 (e0 : Int))).drew
        rw [Int.toNat_natCast] at hrow
        clear hcq hc0 hf0 hX0
        have hcq := hcq0
        clear hcq0
        generalize (w4.setCell ⟨w.heap.size + 1, i, none⟩ (.int .u8 (e0 : Int))).drew = w5 at hrow hbel hcq ⊢
        go_wp2_with fail
        obtain ⟨hc1, hf1⟩ := hrow (i + 1) (by first | (simp only [List.length_set]; rw [hlen.out]; omega) | (rw [hlen.out]; omega))
        rw [bt_set _ _ _ _ (by first | (simp only [List.length_set]; rw [hlen.out]; omega) | (rw [hlen.out]; omega)), if_neg (by omega)] at hc1
        replace hrow := Lib.hid hrow
        go_region
        have hcq1 : (w5.setCell ⟨w.heap.size + 1, i + 1, none⟩ (.int .u8 (e1 : Int))).drew.cell? ⟨w.heap.size, 1, none⟩ = some (.int .u32 (q1 : Int)) := by
          rw [World.cell?_drew, World.cell?_setCell_other _ _ _ _ (by intro he; injection he with h1 _ _; omega)]
          exact hcq
        replace hrow := (hrow.out.set (i + 1) (by first | (simp only [List.length_set]; rw [hlen.out]; omega) | (rw [hlen.out]; omega)) (e1 : Int) (by omega) (by omega)).drew
        replace hbel := (hbel.setCell (p := ⟨w.heap.size + 1, i + 1, none⟩) (by show w.heap.size ≤ w.heap.size + 1; omega) (.int .u8 (e1 : Int))).drew
        rw [Int.toNat_natCast] at hrow
        clear hcq hc1 hf1 hX1
        have hcq := hcq1
        clear hcq1
        generalize (w5.setCell ⟨w.heap.size + 1, i + 1, none⟩ (.int .u8 (e1 : Int))).drew = w6 at hrow hbel hcq ⊢
        go_wp2_with fail
        obtain ⟨hc2, hf2⟩ := hrow (i + 2) (by first | (simp only [List.length_set]; rw [hlen.out]; omega) | (rw [hlen.out]; omega))
        rw [bt_set _ _ _ _ (by first | (simp only [List.length_set]; rw [hlen.out]; omega) | (rw [hlen.out]; omega)), if_neg (by omega), bt_set _ _ _ _ (by first | (simp only [List.length_set]; rw [hlen.out]; omega) | (rw [hlen.out]; omega)), if_neg (by omega)] at hc2
        replace hrow := Lib.hid hrow
        go_region
        have hcq2 : (w6.setCell ⟨w.heap.size + 1, i + 2, none⟩ (.int .u8 (e2 : Int))).drew.cell? ⟨w.heap.size, 1, none⟩ = some (.int .u32 (q1 : Int)) := by
          rw [World.cell?_drew, World.cell?_setCell_other _ _ _ _ (by intro he; injection he with h1 _ _; omega)]
          exact hcq
        replace hrow := (hrow.out.set (i + 2) (by first | (simp only [List.length_set]; rw [hlen.out]; omega) | (rw [hlen.out]; omega)) (e2 : Int) (by omega) (by omega)).drew
        replace hbel := (hbel.setCell (p := ⟨w.heap.size + 1, i + 2, none⟩) (by show w.heap.size ≤ w.heap.size + 1; omega) (.int .u8 (e2 : Int))).drew
        rw [Int.toNat_natCast] at hrow
        clear hcq hc2 hf2 hX2
        have hcq := hcq2
        clear hcq2
        generalize (w6.setCell ⟨w.heap.size + 1, i + 2, none⟩ (.int .u8 (e2 : Int))).drew = w7 at hrow hbel hcq ⊢
        go_wp2_with fail
        obtain ⟨hc3, hf3⟩ := hrow (i + 3) (by first | (simp only [List.length_set]; rw [hlen.out]; omega) | (rw [hlen.out]; omega))
        rw [bt_set _ _ _ _ (by first | (simp only [List.length_set]; rw [hlen.out]; omega) | (rw [hlen.out]; omega)), if_neg (by omega), bt_set _ _ _ _ (by first | (simp only [List.length_set]; rw [hlen.out]; omega) | (rw [hlen.out]; omega)), if_neg (by omega), bt_set _ _ _ _ (by first | (simp only [List.length_set]; rw [hlen.out]; omega) | (rw [hlen.out]; omega)), if_neg (by omega)] at hc3
        replace hrow := Lib.hid hrow
        go_region
        have hcq3 : (w7.setCell ⟨w.heap.size + 1, i + 3, none⟩ (.int .u8 (e3 : Int))).drew.cell? ⟨w.heap.size, 1, none⟩ = some (.int .u32 (q1 : Int)) := by
          rw [World.cell?_drew, World.cell?_setCell_other _ _ _ _ (by intro he; injection he with h1 _ _; omega)]
          exact hcq
        replace hrow := (hrow.out.set (i + 3) (by first | (simp only [List.length_set]; rw [hlen.out]; omega) | (rw [hlen.out]; omega)) (e3 : Int) (by omega) (by omega)).drew
        replace hbel := (hbel.setCell (p := ⟨w.heap.size + 1, i + 3, none⟩) (by show w.heap.size ≤ w.heap.size + 1; omega) (.int .u8 (e3 : Int))).drew
        rw [Int.toNat_natCast] at hrow
        clear hcq hc3 hf3 hX3
        have hcq := hcq3
        clear hcq3
        generalize (w7.setCell ⟨w.heap.size + 1, i + 3, none⟩ (.int .u8 (e3 : Int))).drew = w8 at hrow hbel hcq ⊢
        have hcv := hrow.back (P := Try.prog) 62 9 5 cap a1.size (by simp only [List.length_set]; rw [hlen.out]) Try.underlying62 Try.underlying5 Try.underlying9
        have hz : (B ((((a1.data.toList.set i (UInt8.ofNat e0)).set (i + 1) (UInt8.ofNat e1)).set (i + 2) (UInt8.ofNat e2)).set (i + 3) (UInt8.ofNat e3))).size ≤ 1000 := by rw [B_size]; simp only [List.length_set]; rw [hlen.out]; omega
        replace hrow := Lib.hid hrow
        have hnb : (((crc b ((((a1.data.toList.set i (UInt8.ofNat e0)).set (i + 1) (UInt8.ofNat e1)).set (i + 2) (UInt8.ofNat e2)).set (i + 3) (UInt8.ofNat e3)) : Nat) : Int) != ((crc b a1.data.toList : Nat) : Int)) = true := by
          have := hne.out
          rw [bne_iff_ne]; omega
        go_wp2_with fail
        refine (crc_any b (B ((((a1.data.toList.set i (UInt8.ofNat e0)).set (i + 1) (UInt8.ofNat e1)).set (i + 2) (UInt8.ofNat e2)).set (i + 3) (UInt8.ofNat e3))) _ hb (by omega)).mono ?_
        rintro e w9 ⟨rfl, rfl⟩
        rw [B_data]
        go_wp2_with fail
        refine (crc_any b a1 _ hb (by omega)).mono ?_
        rintro e w9 ⟨rfl, rfl⟩
        go_wp2_with fail
        refine (nine_any _).mono ?_
        rintro e w9 ⟨rfl, rfl⟩
        go_wp2_with fail
        go_ret
        exact ⟨rfl, hbel⟩

theorem own : ownKnob Try.prog.godebug = none := by kernel_rfl
theorem laidOut : laidOutB Try.prog = true := by kernel_rfl

set_option maxRecDepth 100000 in
theorem lifted (os : Os) (started : os.Started) (H : Type) (enc : TypeId × Value → H) :
    ReturnsInHanded {} Try.checked os 12 .any (Rows.sumsBurstSpec.pre6 enc Try.prog Try.f12 Rows.sumsBurstRow.domain false) (Rows.sumsBurstSpec.post enc Try.prog Try.f12 false true false false) := by
  refine returnsInHanded_of_change (C := Try.checked) own started (by kernel_rfl) Try.func12
    (ChangeSpec.witness6 (enc := enc) (C := Try.checked) false ⟨#[], #[.int .u32 0, .string ByteArray.empty, .agg #[.int .u32 0, .int .u32 0]], []⟩ 8 (by kernel_rfl) (by kernel_rfl) (by kernel_rfl) (by kernel_rfl)) ?_
  intro W base args ds gs before hval0 hW hcnd _
  have hval : ∀ (j : Nat) t v, Try.f12.params[j]? = some t → args[j]? = some v → Value.okWide Try.prog W .any base t v := hval0
  have hW' := hW
  obtain ⟨p, q, hA0, hV, rfl, hfz, hnd⟩ := hW
  have hA : DataW.TrodAll enc Try.prog W 0 (fun _ => true) true Try.f12.params.toList args.toList ds p := hA0
  rw [Try.params12] at hA hval
  obtain ⟨v0, vs0, d0, ds0, p0, q0, hargs, rfl, rfl, h0, r0⟩ := trodAll_cons hA
  obtain ⟨v1, vs1, d1, ds1, p1, q1, rfl, rfl, rfl, h1, r1⟩ := trodAll_cons r0
  obtain ⟨v2, vs2, d2, ds2, p2, q2, rfl, rfl, rfl, h2, r2⟩ := trodAll_cons r1
  obtain ⟨rfl, rfl, rfl⟩ := trodAll_nil r2
  obtain rfl : args = #[v0, v1, v2] := by cases args; simp_all
  obtain ⟨rfl, rfl⟩ := trodVars_none hV
  obtain ⟨a0, rfl, rfl, rfl, w0⟩ := open_int Try.underlying53 (hval 0 53 v0 rfl rfl) h0
  obtain ⟨a1, rfl, rfl, rfl, w1⟩ := open_string Try.underlying9 (hval 1 9 v1 rfl rfl) h1
  have k2 := h2
  have lt2 : ∀ x ∈ p2, x.block < W.heap.size := by obtain ⟨m, hm⟩ := k2; exact DataW.trod_lt m _ _ _ hm
  obtain ⟨x2_0, x2_1, rfl, w2_0, w2_1⟩ := open_arr2 Try.underlying64 Try.underlying53 (by kernel_rfl) (by kernel_rfl) (hval 2 64 v2 rfl rfl) h2
  clear hA0 hval0
  refine (walk a0 a1 x2_0 x2_1 W w0 w1 w2_0 w2_1).mono fun e W' ⟨he, bel⟩ => ?_
  subst he
  exact ⟨_, rfl, _, _, _, [], _, [], hW', trodAll_mk1 (shut_bool Try.underlying4 _), (trodAll_cons_mk (shut_int Try.underlying53 w0) (trodAll_cons_mk (shut_string Try.underlying9 w1) (trodAll_cons_mk (Below.trod laidOut (by kernel_rfl) (of_decide_eq_true (by kernel_rfl)) k2 bel lt2) trodAll_mk0))), rfl, bel.frame _, fun h => by cases h⟩

theorem over : Rows.sumsBurstRow.holds Try.pinned (OpenSpec.ofChange Rows.sumsBurstSpec) :=
  OpenClaim.holds_of_wide 12 Try.f12 rfl rfl rfl rfl rfl rfl rfl ⟨rfl, rfl, rfl, rfl, rfl⟩ rfl rfl rfl rfl rfl (by kernel_rfl) Try.func12 (by kernel_rfl)
    (of_decide_eq_true (by kernel_rfl)) (by unfold Func.isWrapper; first | (rw [if_pos (by decide +kernel)]; kernel_rfl) | (rw [if_neg (by decide +kernel)]; exact ⟨rfl, rfl⟩))
    (fun os started H enc _ => lifted os started H enc)

/-- The statement. -/
theorem proved : Rows.SumsBurstSaid := over
#print axioms proved

end Go.Proofs.Ytngacdajagegcaa.sumsBurst
