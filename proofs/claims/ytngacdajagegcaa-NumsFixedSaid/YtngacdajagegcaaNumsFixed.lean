/- For every uint64, int and string the law NumsFixed returns true: numbers as bytes, and the number of bytes, are those of the definition, and back. No condition. -/
import Derived.Test.YtngacdajagegcaaRows
import Derived.Test.YtngacdajagegcaaSome
import Derived.Test.YtngacdajagegcaaChainBack
import Derived.Test.YtngacdajagegcaaWorld
import Derived.Deep.RegionWith
import Derived.ChangeOld
import Derived.ShutString
namespace Go.Proofs.Ytngacdajagegcaa.numsFixed
open Go.ChangeShapes Go.WideShapes Go.ChangeAt Go.RowKit
open Go.ChangeMaps (open_string shut_string)
open Go.Proofs.Ytngacdajagegcaa.M Go.Proofs.Ytngacdajagegcaa.W
set_option linter.unusedVariables false

theorem rd_fx (a : Int) (n : Nat) (h0 : 0 ≤ a) : (rd (fx a n) : Int) = a % 256 ^ n := by
  unfold rd
  have key : ∀ (n : Nat) (v : Nat), (((fx a n).foldl (fun (v : Nat) (b : UInt8) => 256 * v + b.toNat) v : Nat) : Int) = v * 256 ^ n + a % 256 ^ n := by
    intro n
    induction n with
    | zero => intro v; simp [fx, Int.emod_one]
    | succ n ih =>
      intro v
      show (((fx a n).foldl (fun v b => 256 * v + b.toNat) (256 * v + (UInt8.ofNat (a / 256 ^ n % 256).toNat).toNat) : Nat) : Int) = _
      rw [ih]
      have hp : (0 : Int) < 256 ^ n := Int.pow_pos (by omega)
      have e1 : (((256 * v + (UInt8.ofNat (a / 256 ^ n % 256).toNat).toNat : Nat)) : Int) = 256 * v + a / 256 ^ n % 256 := by
        rw [Int.natCast_add, Int.natCast_mul, UInt8.toNat_ofNat']; omega
      have e2 : a % 256 ^ (n + 1) = a % 256 ^ n + 256 ^ n * (a / 256 ^ n % 256) := by
        obtain ⟨m, rfl⟩ := Int.eq_ofNat_of_zero_le h0
        have := Nat.mod_pow_succ (b := 256) (x := m) (k := n)
        have e := congrArg (Nat.cast : Nat → Int) this
        simpa using e
      rw [e1, e2, Int.pow_succ, Int.add_mul, Int.mul_comm (256 ^ n) (a / 256 ^ n % 256), Int.mul_comm 256 (v : Int), Int.mul_assoc, Int.mul_comm 256 (256 ^ n)]
      omega
  have := key n 0
  simpa using this

theorem rd_fixed (a n : Int) (h0 : 0 ≤ a) (hf : fitsB a n = true) : ((rd (B (fx a n.toNat)).data.toList : Nat) : Int) = a := by
  unfold fitsB at hf
  simp only [decide_eq_true_eq] at hf
  obtain ⟨h2, h3, h4⟩ := hf
  rw [B_data, rd_fx a _ h0]
  have := Int.mul_ediv_add_emod a (256 ^ n.toNat)
  rw [h4] at this; omega

set_option maxRecDepth 100000 in
set_option maxHeartbeats 4000000 in
theorem walk (a0 a1 : Int) (a2 : ByteArray) (w : World) (w0 : (Lit.int .u64 a0).wf = true) (w1 : (Lit.int .i64 a1).wf = true) (w2 : a2.size ≤ maxLen) :
    Calls Try.prog 3 #[.int .u64 a0, .int .i64 a1, .string a2] w fun e w' => e = .returned (.bool true) ∧ Below w.heap.size w w' := by
  obtain ⟨l0, l1⟩ := bounds_u64 w0
  obtain ⟨m0, m1⟩ := bounds_i64 w1
  unfold maxLen at w2
  have l2 : a0 < 18446744073709551616 := by omega
  by_cases hl : 100 < a2.size
  · go_enter Try.func3, Try.ntmps3
    go_wp2_with fail
    refine (some_any _).mono ?_
    rintro e w1 ⟨rfl, hb⟩
    go_wp2_with fail
    go_ret
    exact ⟨rfl, hb⟩
  · have hcase : (a2.size < 1 ∧ a2.toList.isEmpty = true) ∨ (8 < a2.size ∧ a2.toList.isEmpty = false) ∨ (1 ≤ a2.size ∧ a2.size ≤ 8 ∧ a2.toList.isEmpty = false) := by
      have hz : a2.toList.length = a2.size := by rw [ByteArray.toList_eq]; simp
      by_cases h : a2.size < 1
      · refine .inl ⟨h, ?_⟩
        rw [List.isEmpty_iff, List.eq_nil_iff_length_eq_zero]; omega
      · have h' : a2.toList.isEmpty = false := by
          cases hh : a2.toList with
          | nil => rw [hh] at hz; simp at hz; omega
          | cons => rfl
        by_cases h8 : 8 < a2.size
        · exact .inr (.inl ⟨h8, h'⟩)
        · exact .inr (.inr ⟨by omega, by omega, h'⟩)
    cases hf : fitsB a0 a1 with
    | false =>
      replace hf := Lib.hid hf
      rcases hcase with ⟨h1, h2⟩ | ⟨h1, h2⟩ | ⟨h1, h3, h2⟩
      · go_enter Try.func3, Try.ntmps3
        go_wp2_with fail
        refine (read_no a2 _ (by omega) (.inl h1)).mono ?_
        rintro e w1 ⟨rfl, rfl⟩
        go_wp2_with fail
        refine (fixed_no a0 a1 _ l0 l2 m0 m1 hf.out).mono ?_
        rintro e w1 ⟨rfl, hb1⟩
        rw [show B [] = ⟨#[]⟩ from rfl]
        go_wp2_with fail
        refine (fits_any a0 a1 _ l0 l2 m0 m1).mono ?_
        rintro e w2 ⟨rfl, rfl⟩
        rw [hf.out]
        go_wp2_with fail
        refine (some_any _).mono ?_
        rintro e w3 ⟨rfl, hb3⟩
        go_wp2_with fail
        go_ret
        exact ⟨rfl, hb1.trans (hb3.mono hb1.size)⟩
      · go_enter Try.func3, Try.ntmps3
        go_wp2_with fail
        refine (read_no a2 _ (by omega) (.inr h1)).mono ?_
        rintro e w1 ⟨rfl, rfl⟩
        go_wp2_with fail
        refine (fixed_no a0 a1 _ l0 l2 m0 m1 hf.out).mono ?_
        rintro e w1 ⟨rfl, hb1⟩
        rw [show B [] = ⟨#[]⟩ from rfl]
        go_wp2_with fail
        refine (fits_any a0 a1 _ l0 l2 m0 m1).mono ?_
        rintro e w2 ⟨rfl, rfl⟩
        rw [hf.out]
        go_wp2_with fail
        refine (some_any _).mono ?_
        rintro e w3 ⟨rfl, hb3⟩
        go_wp2_with fail
        go_ret
        exact ⟨rfl, hb1.trans (hb3.mono hb1.size)⟩
      · go_enter Try.func3, Try.ntmps3
        go_wp2_with fail
        refine (read_any a2 _ h1 h3).mono ?_
        rintro e w1 ⟨rfl, rfl⟩
        go_wp2_with fail
        refine (rread_any a2 _ h3).mono ?_
        rintro e w1 ⟨rfl, rfl⟩
        go_wp2_with fail
        refine (fixed_no a0 a1 _ l0 l2 m0 m1 hf.out).mono ?_
        rintro e w1 ⟨rfl, hb1⟩
        rw [show B [] = ⟨#[]⟩ from rfl]
        go_wp2_with fail
        refine (fits_any a0 a1 _ l0 l2 m0 m1).mono ?_
        rintro e w2 ⟨rfl, rfl⟩
        rw [hf.out]
        go_wp2_with fail
        refine (some_any _).mono ?_
        rintro e w3 ⟨rfl, hb3⟩
        go_wp2_with fail
        go_ret
        exact ⟨rfl, hb1.trans (hb3.mono hb1.size)⟩
    | true =>
      have hnn : 1 ≤ a1 ∧ a1 ≤ 8 := by unfold fitsB at hf; simp at hf; omega
      obtain ⟨hn1, hn8⟩ := hnn
      have hz1 : 1 ≤ (B (fx a0 a1.toNat)).size := by rw [fx_size]; omega
      have hz8 : (B (fx a0 a1.toNat)).size ≤ 8 := by rw [fx_size]; omega
      have hrd := Lib.hid (rd_fixed a0 a1 l0 hf)
      replace hf := Lib.hid hf
      rcases hcase with ⟨h1, h2⟩ | ⟨h1, h2⟩ | ⟨h1, h3, h2⟩
      · go_enter Try.func3, Try.ntmps3
        go_wp2_with fail
        refine (read_no a2 _ (by omega) (.inl h1)).mono ?_
        rintro e w1 ⟨rfl, rfl⟩
        go_wp2_with fail
        refine (fixed_yes a0 a1 _ l0 l2 hf.out).mono ?_
        rintro e w1 ⟨rfl, hb1⟩
        go_wp2_with fail
        refine (fits_any a0 a1 _ l0 l2 m0 m1).mono ?_
        rintro e w2 ⟨rfl, rfl⟩
        rw [hf.out]
        go_wp2_with fail
        refine (read_any (B (fx a0 a1.toNat)) _ hz1 hz8).mono ?_
        rintro e w2 ⟨rfl, rfl⟩
        rw [hrd.out]
        go_wp2_with fail
        refine (rfixed_any a0 a1 _ l0 l2 hn1 hn8).mono ?_
        rintro e w2 ⟨rfl, hb2⟩
        go_wp2_with fail
        refine (some_any _).mono ?_
        rintro e w3 ⟨rfl, hb3⟩
        go_wp2_with fail
        go_ret
        exact ⟨rfl, (hb1.trans (hb2.mono hb1.size)).trans (hb3.mono (Nat.le_trans hb1.size hb2.size))⟩
      · go_enter Try.func3, Try.ntmps3
        go_wp2_with fail
        refine (read_no a2 _ (by omega) (.inr h1)).mono ?_
        rintro e w1 ⟨rfl, rfl⟩
        go_wp2_with fail
        refine (fixed_yes a0 a1 _ l0 l2 hf.out).mono ?_
        rintro e w1 ⟨rfl, hb1⟩
        go_wp2_with fail
        refine (fits_any a0 a1 _ l0 l2 m0 m1).mono ?_
        rintro e w2 ⟨rfl, rfl⟩
        rw [hf.out]
        go_wp2_with fail
        refine (read_any (B (fx a0 a1.toNat)) _ hz1 hz8).mono ?_
        rintro e w2 ⟨rfl, rfl⟩
        rw [hrd.out]
        go_wp2_with fail
        refine (rfixed_any a0 a1 _ l0 l2 hn1 hn8).mono ?_
        rintro e w2 ⟨rfl, hb2⟩
        go_wp2_with fail
        refine (some_any _).mono ?_
        rintro e w3 ⟨rfl, hb3⟩
        go_wp2_with fail
        go_ret
        exact ⟨rfl, (hb1.trans (hb2.mono hb1.size)).trans (hb3.mono (Nat.le_trans hb1.size hb2.size))⟩
      · go_enter Try.func3, Try.ntmps3
        go_wp2_with fail
        refine (read_any a2 _ h1 h3).mono ?_
        rintro e w1 ⟨rfl, rfl⟩
        go_wp2_with fail
        refine (rread_any a2 _ h3).mono ?_
        rintro e w1 ⟨rfl, rfl⟩
        go_wp2_with fail
        refine (fixed_yes a0 a1 _ l0 l2 hf.out).mono ?_
        rintro e w1 ⟨rfl, hb1⟩
        go_wp2_with fail
        refine (fits_any a0 a1 _ l0 l2 m0 m1).mono ?_
        rintro e w2 ⟨rfl, rfl⟩
        rw [hf.out]
        go_wp2_with fail
        refine (read_any (B (fx a0 a1.toNat)) _ hz1 hz8).mono ?_
        rintro e w2 ⟨rfl, rfl⟩
        rw [hrd.out]
        go_wp2_with fail
        refine (rfixed_any a0 a1 _ l0 l2 hn1 hn8).mono ?_
        rintro e w2 ⟨rfl, hb2⟩
        go_wp2_with fail
        refine (some_any _).mono ?_
        rintro e w3 ⟨rfl, hb3⟩
        go_wp2_with fail
        go_ret
        exact ⟨rfl, (hb1.trans (hb2.mono hb1.size)).trans (hb3.mono (Nat.le_trans hb1.size hb2.size))⟩


theorem own : ownKnob Try.prog.godebug = none := by kernel_rfl
theorem laidOut : laidOutB Try.prog = true := by kernel_rfl

set_option maxRecDepth 100000 in
theorem lifted (os : Os) (started : os.Started) (H : Type) (enc : TypeId × Value → H) :
    ReturnsInHanded {} Try.checked os 3 .any (Rows.numsFixedSpec.pre6 enc Try.prog Try.f3 Rows.numsFixedRow.domain false) (Rows.numsFixedSpec.post enc Try.prog Try.f3 false true false false) := by
  refine returnsInHanded_of_change (C := Try.checked) own started (by kernel_rfl) Try.func3
    (ChangeSpec.witness6 (enc := enc) (C := Try.checked) false ⟨#[], #[.int .u64 0, .int .i64 0, .string ByteArray.empty], []⟩ 8 (by kernel_rfl) (by kernel_rfl) (by kernel_rfl) (by kernel_rfl)) ?_
  intro W base args ds gs before hval0 hW hcnd _
  have hval : ∀ (j : Nat) t v, Try.f3.params[j]? = some t → args[j]? = some v → Value.okWide Try.prog W .any base t v := hval0
  have hW' := hW
  obtain ⟨p, q, hA0, hV, rfl, hfz, hnd⟩ := hW
  have hA : DataW.TrodAll enc Try.prog W 0 (fun _ => true) true Try.f3.params.toList args.toList ds p := hA0
  rw [Try.params3] at hA hval
  obtain ⟨v0, vs0, d0, ds0, p0, q0, hargs, rfl, rfl, h0, r0⟩ := trodAll_cons hA
  obtain ⟨v1, vs1, d1, ds1, p1, q1, rfl, rfl, rfl, h1, r1⟩ := trodAll_cons r0
  obtain ⟨v2, vs2, d2, ds2, p2, q2, rfl, rfl, rfl, h2, r2⟩ := trodAll_cons r1
  obtain ⟨rfl, rfl, rfl⟩ := trodAll_nil r2
  obtain rfl : args = #[v0, v1, v2] := by cases args; simp_all
  obtain ⟨rfl, rfl⟩ := trodVars_none hV
  obtain ⟨a0, rfl, rfl, rfl, w0⟩ := open_int Try.underlying22 (hval 0 22 v0 rfl rfl) h0
  obtain ⟨a1, rfl, rfl, rfl, w1⟩ := open_int Try.underlying3 (hval 1 3 v1 rfl rfl) h1
  obtain ⟨a2, rfl, rfl, rfl, w2⟩ := open_string Try.underlying9 (hval 2 9 v2 rfl rfl) h2
  clear hA0 hval0
  refine (walk a0 a1 a2 W w0 w1 w2).mono fun e W' ⟨he, bel⟩ => ?_
  subst he
  exact ⟨_, rfl, _, _, _, [], [], [], hW', trodAll_mk1 (shut_bool Try.underlying4 _), (trodAll_cons_mk (shut_int Try.underlying22 w0) (trodAll_cons_mk (shut_int Try.underlying3 w1) (trodAll_cons_mk (shut_string Try.underlying9 w2) trodAll_mk0))), rfl, bel.frame _, fun h => by cases h⟩

theorem over : Rows.numsFixedRow.holds Try.pinned (OpenSpec.ofChange Rows.numsFixedSpec) :=
  OpenClaim.holds_of_wide 3 Try.f3 rfl rfl rfl rfl rfl rfl rfl ⟨rfl, rfl, rfl, rfl, rfl⟩ rfl rfl rfl rfl rfl (by kernel_rfl) Try.func3 (by kernel_rfl)
    (of_decide_eq_true (by kernel_rfl)) (by unfold Func.isWrapper; first | (rw [if_pos (by decide +kernel)]; kernel_rfl) | (rw [if_neg (by decide +kernel)]; exact ⟨rfl, rfl⟩))
    (fun os started H enc _ => lifted os started H enc)

/-- The statement. -/
theorem proved : Rows.NumsFixedSaid := over
#print axioms proved

end Go.Proofs.Ytngacdajagegcaa.numsFixed
