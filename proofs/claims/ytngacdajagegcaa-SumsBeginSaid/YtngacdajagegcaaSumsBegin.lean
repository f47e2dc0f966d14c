/- For any three numbers of 32 bits and any two strings the law SumsBegin returns true: CRC(a, s) xor CRC(b, s) hangs on a xor b and the length of s alone. No condition. -/
import Derived.Test.YtngacdajagegcaaRows
import Derived.Test.YtngacdajagegcaaSums
import Derived.Test.YtngacdajagegcaaOpen
import Derived.ChangeOld
import Derived.ShutString
namespace Go.Proofs.Ytngacdajagegcaa.sumsBegin
open Go.ChangeShapes Go.WideShapes Go.ChangeAt Go.RowKit
open Go.ChangeMaps (open_string shut_string)
open Go.Proofs.Ytngacdajagegcaa.M Go.Proofs.Ytngacdajagegcaa.W
set_option linter.unusedVariables false

theorem crc_xor (a x : Nat) (ha : a < 4294967296) (hx : x < 4294967296) (l : List UInt8) : crc a l ^^^ crc (a ^^^ x) l = goOn l.length x := by
  have hax := xor_lt32 a x ha hx
  have e : ∀ r, r < 4294967296 → ones - r = r ^^^ ones := fun r h => (xor_ones32 r h).symm
  unfold crc
  rw [e _ (reg_lt l _ (by unfold ones; omega)), e _ (reg_lt l _ (by unfold ones; omega)), e a ha, e _ hax]
  rw [Nat.xor_assoc a x ones, Nat.xor_comm x ones, ← Nat.xor_assoc a ones x, reg_xor l (a ^^^ ones) x]
  generalize reg (a ^^^ ones) l = r
  generalize goOn l.length x = g
  rw [Nat.xor_assoc r g ones, Nat.xor_comm g ones, ← Nat.xor_assoc r ones g, ← Nat.xor_assoc, Nat.xor_self, Nat.zero_xor]

theorem walk (x0 x1 x2 : Int) (a1 a2 : ByteArray) (w : World) (w0 : (Lit.int .u32 x0).wf = true) (w1 : (Lit.int .u32 x1).wf = true) (w2 : (Lit.int .u32 x2).wf = true) (v1 : a1.size ≤ maxLen) (v2 : a2.size ≤ maxLen) :
    Calls Try.prog 13 #[.agg #[.int .u32 x0, .int .u32 x1, .int .u32 x2], .string a1, .string a2] w fun e w' => e = .returned (.bool true) ∧ Below w.heap.size w w' := by
  obtain ⟨l0, m0⟩ := bounds_u32 w0
  obtain ⟨l1, m1⟩ := bounds_u32 w1
  obtain ⟨l2, m2⟩ := bounds_u32 w2
  obtain ⟨a, rfl⟩ := Int.eq_ofNat_of_zero_le l0
  obtain ⟨x, rfl⟩ := Int.eq_ofNat_of_zero_le l1
  obtain ⟨c, rfl⟩ := Int.eq_ofNat_of_zero_le l2
  unfold maxLen at v1 v2
  have ha : a < 4294967296 := by omega
  have hx : x < 4294967296 := by omega
  have hc : c < 4294967296 := by omega
  by_cases hl : a1.size = a2.size
  · have hl1 : ((a1.size : Int) != (a2.size : Int)) = false := by rw [hl]; simp
    by_cases h3 : 300 < a1.size
    · clear hl
      go_enter Try.func13, Try.ntmps13
      go_wp2_with fail
      refine (nine_any _).mono ?_
      rintro e w1 ⟨rfl, rfl⟩
      go_wp2_with fail
      go_ret
      exact ⟨rfl, (Below.refl _ _).alloc (Nat.le_refl _) _⟩
    · have h32 : a2.size ≤ 300 := by omega
      have hax := xor_lt32 a x ha hx
      have hcx := xor_lt32 c x hc hx
      have e1 := u32_xor_nat a x ha hx
      have e2 := u32_xor_nat c x hc hx
      have e3 : bits .xor .u32 ((crc a a1.data.toList : Nat) : Int) ((crc (a ^^^ x) a1.data.toList : Nat) : Int) = ((goOn a1.data.toList.length x : Nat) : Int) := by
        rw [u32_xor_nat _ _ (crc_lt _ _) (crc_lt _ _), crc_xor a x ha hx]
      have e4 : bits .xor .u32 ((crc c a2.data.toList : Nat) : Int) ((crc (c ^^^ x) a2.data.toList : Nat) : Int) = ((goOn a1.data.toList.length x : Nat) : Int) := by
        rw [u32_xor_nat _ _ (crc_lt _ _) (crc_lt _ _), crc_xor c x hc hx, show a2.data.toList.length = a1.data.toList.length from by simp [hl]]
      obtain ⟨g, hg⟩ : ∃ g : Nat, Hid (goOn a1.data.toList.length x = g) := ⟨_, Lib.hid rfl⟩
      rw [hg.out] at e3 e4
      clear hl
      go_enter Try.func13, Try.ntmps13
      go_wp2_with fail
      refine (crc_any a a1 _ ha (by omega)).mono ?_
      rintro e w1 ⟨rfl, rfl⟩
      go_wp2_with fail
      refine (crc_any (a ^^^ x) a1 _ hax (by omega)).mono ?_
      rintro e w1 ⟨rfl, rfl⟩
      go_wp2_with fail
      refine (crc_any c a2 _ hc (by omega)).mono ?_
      rintro e w1 ⟨rfl, rfl⟩
      go_wp2_with fail
      refine (crc_any (c ^^^ x) a2 _ hcx (by omega)).mono ?_
      rintro e w1 ⟨rfl, rfl⟩
      go_wp2_with fail
      refine (nine_any _).mono ?_
      rintro e w1 ⟨rfl, rfl⟩
      go_wp2_with fail
      go_ret
      exact ⟨rfl, (Below.refl _ _).alloc (Nat.le_refl _) _⟩
  · have hl1 : ((a1.size : Int) != (a2.size : Int)) = true := by rw [bne_iff_ne]; omega
    clear hl
    go_enter Try.func13, Try.ntmps13
    go_wp2_with fail
    refine (nine_any _).mono ?_
    rintro e w1 ⟨rfl, rfl⟩
    go_wp2_with fail
    go_ret
    exact ⟨rfl, (Below.refl _ _).alloc (Nat.le_refl _) _⟩


theorem own : ownKnob Try.prog.godebug = none := by kernel_rfl
theorem laidOut : laidOutB Try.prog = true := by kernel_rfl

set_option maxRecDepth 100000 in
theorem lifted (os : Os) (started : os.Started) (H : Type) (enc : TypeId × Value → H) :
    ReturnsInHanded {} Try.checked os 13 .any (Rows.sumsBeginSpec.pre6 enc Try.prog Try.f13 Rows.sumsBeginRow.domain false) (Rows.sumsBeginSpec.post enc Try.prog Try.f13 false true false false) := by
  refine returnsInHanded_of_change (C := Try.checked) own started (by kernel_rfl) Try.func13
    (ChangeSpec.witness6 (enc := enc) (C := Try.checked) false ⟨#[], #[.agg #[.int .u32 0, .int .u32 0, .int .u32 0], .string ByteArray.empty, .string ByteArray.empty], []⟩ 8 (by kernel_rfl) (by kernel_rfl) (by kernel_rfl) (by kernel_rfl)) ?_
  intro W base args ds gs before hval0 hW hcnd _
  have hval : ∀ (j : Nat) t v, Try.f13.params[j]? = some t → args[j]? = some v → Value.okWide Try.prog W .any base t v := hval0
  have hW' := hW
  obtain ⟨p, q, hA0, hV, rfl, hfz, hnd⟩ := hW
  have hA : DataW.TrodAll enc Try.prog W 0 (fun _ => true) true Try.f13.params.toList args.toList ds p := hA0
  rw [Try.params13] at hA hval
  obtain ⟨v0, vs0, d0, ds0, p0, q0, hargs, rfl, rfl, h0, r0⟩ := trodAll_cons hA
  obtain ⟨v1, vs1, d1, ds1, p1, q1, rfl, rfl, rfl, h1, r1⟩ := trodAll_cons r0
  obtain ⟨v2, vs2, d2, ds2, p2, q2, rfl, rfl, rfl, h2, r2⟩ := trodAll_cons r1
  obtain ⟨rfl, rfl, rfl⟩ := trodAll_nil r2
  obtain rfl : args = #[v0, v1, v2] := by cases args; simp_all
  obtain ⟨rfl, rfl⟩ := trodVars_none hV
  have k0 := h0
  have lt0 : ∀ x ∈ p0, x.block < W.heap.size := by obtain ⟨m, hm⟩ := k0; exact DataW.trod_lt m _ _ _ hm
  obtain ⟨x0_0, x0_1, x0_2, rfl, w0_0, w0_1, w0_2⟩ := open_arr3 Try.underlying67 Try.underlying53 (by kernel_rfl) (by kernel_rfl) (hval 0 67 v0 rfl rfl) h0
  obtain ⟨a1, rfl, rfl, rfl, w1⟩ := open_string Try.underlying9 (hval 1 9 v1 rfl rfl) h1
  obtain ⟨a2, rfl, rfl, rfl, w2⟩ := open_string Try.underlying9 (hval 2 9 v2 rfl rfl) h2
  clear hA0 hval0
  refine (walk x0_0 x0_1 x0_2 a1 a2 W w0_0 w0_1 w0_2 w1 w2).mono fun e W' ⟨he, bel⟩ => ?_
  subst he
  exact ⟨_, rfl, _, _, _, [], _, [], hW', trodAll_mk1 (shut_bool Try.underlying4 _), (trodAll_cons_mk (Below.trod laidOut (by kernel_rfl) (of_decide_eq_true (by kernel_rfl)) k0 bel lt0) (trodAll_cons_mk (shut_string Try.underlying9 w1) (trodAll_cons_mk (shut_string Try.underlying9 w2) trodAll_mk0))), rfl, bel.frame _, fun h => by cases h⟩

theorem over : Rows.sumsBeginRow.holds Try.pinned (OpenSpec.ofChange Rows.sumsBeginSpec) :=
  OpenClaim.holds_of_wide 13 Try.f13 rfl rfl rfl rfl rfl rfl rfl ⟨rfl, rfl, rfl, rfl, rfl⟩ rfl rfl rfl rfl rfl (by kernel_rfl) Try.func13 (by kernel_rfl)
    (of_decide_eq_true (by kernel_rfl)) (by unfold Func.isWrapper; first | (rw [if_pos (by decide +kernel)]; kernel_rfl) | (rw [if_neg (by decide +kernel)]; exact ⟨rfl, rfl⟩))
    (fun os started H enc _ => lifted os started H enc)

/-- The statement. -/
theorem proved : Rows.SumsBeginSaid := over
#print axioms proved

end Go.Proofs.Ytngacdajagegcaa.sumsBegin
