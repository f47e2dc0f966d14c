/- The laws' small case of records; which records are gone through. -/
import Derived.Test.YtgfamaddghajlaaRcR
import Derived.Test.YtgfamaddghajlaaRcI
import Derived.Deep.Cut
namespace Go.Proofs.Ytgfamaddghajlaa.W
open Go.RowKit Go.Sort
open Go.Proofs.Ytgfamaddghajlaa.M Go.Proofs.Ytgfamaddghajlaa.D Go.Proofs.Ytgfamaddghajlaa.Z
set_option linter.unusedVariables false
set_option linter.unusedSimpArgs false

abbrev r1 : Rc := ⟨1, 2, ⟨#[97]⟩, ⟨#[98]⟩, false, 0, 0, 0⟩
theorem r1_ok : r1.ok := by decide
theorem r1_bytes : recL r1 = [1, 2, 0, 0, 0, 0, 1, 97, 1, 98] := by decide +kernel
theorem r1_good : good [r1] := ⟨⟨by simp, fun r hr => by rw [List.mem_singleton.1 hr]; exact r1_ok, fun i a b _ hb => by simp at hb⟩, by simp, by simp [packL, r1_bytes]⟩
abbrev s1 : ByteArray := ⟨#[1, 2, 0, 0, 0, 0, 1, 97, 1, 98]⟩
theorem s1_is : B (recL r1) = s1 := by rw [r1_bytes]; rfl

set_option maxRecDepth 100000 in
set_option maxHeartbeats 4000000 in
theorem rone_any (w : World) :
    Calls Try.prog 9 #[] w fun e w' => e = .returned (.bool true) ∧ Below w.heap.size w w' := by
  have he := fun W => enc_yes 1 2 ⟨#[97]⟩ ⟨#[98]⟩ false 0 0 0 W r1_ok
  rw [s1_is] at he
  have hd := fun W => dec_yes (s1 ++ ⟨#[109, 111, 114, 101]⟩) r1 10 W (by decide) (by
    have := recAt_rec (r := r1) (s := s1 ++ ⟨#[109, 111, 114, 101]⟩) (p := 0) (t := [109, 111, 114, 101]) r1_ok (by rw [r1_bytes]; rfl)
    rw [this, r1_bytes]; rfl)
  have hu : ∀ W, Calls Try.prog 19 #[.string s1] W fun e w' => ∃ A c, e = .returned (.tuple #[.slice A 1 c, .int .i64 0]) ∧ Below W.heap.size W w' := fun W =>
    (unpack_any s1 W (by decide)).mono fun e w' h => by
      have hp : packL [r1] = s1.data.toList := by simp [packL, r1_bytes]
      rcases h with ⟨rs, A, c, h1, h2, h3, _, h5⟩ | ⟨h1, _⟩
      · have : rs = [r1] := packL_inj r1_good.1.2.1 h1.1.2.1 (h2.trans hp.symm)
        subst this
        exact ⟨A, c, h3, h5⟩
      · exact absurd hp (h1 _ r1_good)
  have hz := fun W => size_yes 1 2 ⟨#[97]⟩ ⟨#[98]⟩ false 0 0 0 W r1_ok
  rw [show ((recL (Rc.mk 1 2 ⟨#[97]⟩ ⟨#[98]⟩ false 0 0 0)).length : Int) = 10 by rw [show Rc.mk 1 2 ⟨#[97]⟩ ⟨#[98]⟩ false 0 0 0 = r1 from rfl, r1_bytes]; rfl] at hz
  have hm := fun W => may_any 1 2 ⟨#[97]⟩ ⟨#[98]⟩ false 0 0 0 W
  rw [show (Rc.mk 1 2 ⟨#[97]⟩ ⟨#[98]⟩ false 0 0 0).may = true from decide_eq_true r1_ok] at hm
  have hsm := fun W => same_rc r1 (ok_wf r1_ok) W
  have hcat : (s1 ++ ⟨#[109, 111, 114, 101]⟩ : ByteArray) = ⟨#[1, 2, 0, 0, 0, 0, 1, 97, 1, 98, 109, 111, 114, 101]⟩ := by rfl
  rw [hcat] at hd
  clear hcat
  replace he := Lib.hid he
  replace hd := Lib.hid hd
  replace hu := Lib.hid hu
  replace hz := Lib.hid hz
  replace hm := Lib.hid hm
  have hR0 := Lib.hid (Whole.new w 23 [.int .i64 1, .int .i64 2, .string ⟨#[97]⟩, .string ⟨#[98]⟩, .bool false, .int .i64 0, .int .i64 0, .int .i64 0])
  have hB0 := Lib.hid ((Below.refl w.heap.size w).alloc (Nat.le_refl _) (.cells #[.int .i64 1, .int .i64 2, .string ⟨#[97]⟩, .string ⟨#[98]⟩, .bool false, .int .i64 0, .int .i64 0, .int .i64 0] 23))
  go_enter Try.func9, Try.ntmps9
  go_wp2_with fail
  refine (he.out _).mono ?_
  rintro e w1 ⟨rfl, hb1⟩
  have hR1 := Lib.hid (hR0.out.below hb1 hR0.out.lt)
  have hB1 := Lib.hid (grew hB0.out hb1)
  clear hb1 hR0 hB0
  go_wp2_with fail
  refine (hd.out _).mono ?_
  rintro e w2 ⟨rfl, hb2⟩
  obtain ⟨b4, hb4⟩ : ∃ b, Hid (w2.heap.size = b) := ⟨_, Lib.hid rfl⟩
  have hX := Whole.new w2 23 [.int .i64 1, .int .i64 2, .string ⟨#[97]⟩, .string ⟨#[98]⟩, .bool false, .int .i64 0, .int .i64 0, .int .i64 0]
  rw [hb4.out] at hX
  have hR2 := (hR1.out.below hb2 hR1.out.lt).alloc (.cells #[.int .i64 1, .int .i64 2, .string ⟨#[97]⟩, .string ⟨#[98]⟩, .bool false, .int .i64 0, .int .i64 0, .int .i64 0] 23)
  have hB2 := grewAlloc (grew hB1.out hb2) (.cells #[.int .i64 1, .int .i64 2, .string ⟨#[97]⟩, .string ⟨#[98]⟩, .bool false, .int .i64 0, .int .i64 0, .int .i64 0] 23)
  obtain ⟨W2, hW2⟩ : ∃ W, Hid (W = w2.alloc (.cells #[.int .i64 1, .int .i64 2, .string ⟨#[97]⟩, .string ⟨#[98]⟩, .bool false, .int .i64 0, .int .i64 0, .int .i64 0] 23)) := ⟨_, Lib.hid rfl⟩
  rw [← show W2 = _ from hW2.out] at hX hR2 hB2
  replace hX := Lib.hid hX
  replace hR2 := Lib.hid hR2
  replace hB2 := Lib.hid hB2
  clear hb2 hR1 hB1
  go_upto_region 4 with fail
  rw [← show W2 = _ from hW2.out, hb4.out]
  clear hW2
  go_wp2_with fail
  refine (hu.out _).mono ?_
  rintro e w3 ⟨A, c, rfl, hb3⟩
  have hX3 := hX.out.below hb3 hX.out.lt
  have hR3 := hR2.out.below hb3 hR2.out.lt
  have hB3 := Lib.hid (grew hB2.out hb3)
  obtain ⟨x0, x1, x2, x3, x4, x5, x6, x7⟩ := recCells hX3
  obtain ⟨y0, y1, y2, y3, y4, y5, y6, y7⟩ := recCells hR3
  replace hR3 := Lib.hid hR3
  clear hX hR2 hB2 hX3 hb3
  go_wp2_with fail
  refine (hz.out _).mono ?_
  rintro e w4 ⟨rfl, hb4⟩
  have hR4 := hR3.out.below hb4 hR3.out.lt
  have hB4 := Lib.hid (grew hB3.out hb4)
  clear x0 x1 x2 x3 x4 x5 x6 x7 y0 y1 y2 y3 y4 y5 y6 y7 hb4 hR3 hB3
  obtain ⟨y0, y1, y2, y3, y4, y5, y6, y7⟩ := recCells hR4
  clear hR4
  go_wp2_with fail
  refine (hm.out _).mono ?_
  rintro e w5 ⟨rfl, hb5⟩
  have hB5 := Lib.hid (grew hB4.out hb5)
  clear y0 y1 y2 y3 y4 y5 y6 y7 hb5 hB4
  go_wp2_with fail
  go_ret
  exact ⟨rfl, hB5.out⟩

def bigR (r : Rc) : Bool := decide (300 < r.key.size) || decide (300 < r.val.size)
theorem rlarge_any (r : Rc) (w : World) :
    Calls Try.prog 8 #[.agg #[.int .i64 r.off, .int .i64 r.tick, .string r.key, .string r.val, .bool r.gone, .int .i64 r.prod, .int .i64 r.seq, .int .i64 r.frm]] w fun e w' => e = .returned (.bool (bigR r)) ∧ Below w.heap.size w w' := by
  have hB0 := Lib.hid ((Below.refl w.heap.size w).alloc (Nat.le_refl _) (.cells #[.int .i64 r.off, .int .i64 r.tick, .string r.key, .string r.val, .bool r.gone, .int .i64 r.prod, .int .i64 r.seq, .int .i64 r.frm] 23))
  unfold bigR
  by_cases h1 : 300 < r.key.size
  · have h1i : (300 : Int) < (r.key.size : Int) := by omega
    rw [decide_eq_true h1, Bool.true_or]
    go_enter Try.func8, Try.ntmps8
    go_wp2_with fail
    go_ret
    exact ⟨rfl, hB0.out⟩
  · have h1i : (r.key.size : Int) ≤ 300 := by omega
    rw [decide_eq_false h1, Bool.false_or]
    by_cases h2 : 300 < r.val.size
    · have h2i : (300 : Int) < (r.val.size : Int) := by omega
      rw [decide_eq_true h2]
      go_enter Try.func8, Try.ntmps8
      go_wp2_with fail
      go_ret
      exact ⟨by simp [h2], hB0.out⟩
    · have h2i : (r.val.size : Int) ≤ 300 := by omega
      rw [decide_eq_false h2]
      go_enter Try.func8, Try.ntmps8
      go_wp2_with fail
      go_ret
      exact ⟨by simp; omega, hB0.out⟩
end Go.Proofs.Ytgfamaddghajlaa.W
