/- The walks of a view's Write, Flush, Waiting, and of the calls of none. -/
import Derived.Test.YtgomhnclmacleaaProg
import Derived.Test.YtgomhnclmacleaaViewB
namespace Go.Proofs.Ytgomhnclmacleaa.D
open Go.RowKit
open Go.Proofs.Ytgomhnclmacleaa.Z
set_option linter.unusedVariables false

theorem ret_b7 {a b : Bool} (h : a = b) : Ending.returned (.bool a) = .returned (.bool b) := by rw [h]
theorem vhas_any (a : Int) (f m : Int) (w : World) :
    Calls Try.prog 81 #[.agg #[.int .i64 f, .int .i64 m], .int .i64 a] w fun e w' => e = .returned (.bool (decide (0 ≤ a) && decide (a < m))) ∧ Below w.heap.size w w' := by
  by_cases h : 0 ≤ a
  · by_cases h2 : a < m
    · go_enter Try.func81, Try.ntmps81
      go_wp2
      go_ret
      exact ⟨ret_b7 (by rw [Bool.eq_iff_iff]; simp; omega), (Below.refl _ _).alloc (Nat.le_refl _) _⟩
    · go_enter Try.func81, Try.ntmps81
      go_wp2
      go_ret
      exact ⟨ret_b7 (by rw [Bool.eq_iff_iff]; simp; omega), (Below.refl _ _).alloc (Nat.le_refl _) _⟩
  · go_enter Try.func81, Try.ntmps81
    go_wp2
    go_ret
    exact ⟨ret_b7 (by rw [Bool.eq_iff_iff]; simp; omega), (Below.refl _ _).alloc (Nat.le_refl _) _⟩
section
variable {w : World} {vb d g : Nat} {v : Value} {lie : List (List UInt8)} {ws : List (Nat × List UInt8)} {from_ n : Nat} {fuse steps : Int} {gone : Bool}
theorem vsector_any (a : Int) (h : Vw w vb d g v lie ws from_ n fuse steps gone) :
    Calls Try.prog 68 #[.pointer (some ⟨vb, 0, none⟩), .int .i64 a] w fun e w' => e = .returned (.int .i64 (if 0 ≤ a ∧ a < n then 0 else 20)) ∧ Below w.heap.size w w' := by
  have c1 := h.c1
  have c2 := h.c2
  clear h
  by_cases hin : 0 ≤ a ∧ a < n
  · rw [if_pos hin]
    have hb := Lib.hid (show (decide (0 ≤ a) && decide (a < (n : Int))) = true from by simp [hin.1, hin.2])
    clear hin
    go_enter Try.func68, Try.ntmps68
    go_wp2_with fail
    refine (vhas_any a _ _ _).mono ?_
    rintro e w1 ⟨rfl, hb1⟩
    rw [hb.out]
    go_wp2_with fail
    go_ret
    exact ⟨rfl, hb1⟩
  · rw [if_neg hin]
    have hb := Lib.hid (show (decide (0 ≤ a) && decide (a < (n : Int))) = false from by
      rw [Bool.and_eq_false_iff]
      by_cases h : 0 ≤ a
      · exact .inr (decide_eq_false (fun e => hin ⟨h, e⟩))
      · exact .inl (decide_eq_false h))
    clear hin
    go_enter Try.func68, Try.ntmps68
    go_wp2_with fail
    refine (vhas_any a _ _ _).mono ?_
    rintro e w1 ⟨rfl, hb1⟩
    rw [hb.out]
    go_wp2_with fail
    go_ret
    exact ⟨rfl, hb1⟩
theorem vsector_nil (a : Int) (w : World) : Calls Try.prog 68 #[.pointer none, .int .i64 a] w fun e w' => e = .returned (.int .i64 7) ∧ w = w' := by
  go_enter Try.func68, Try.ntmps68
  go_wp2_with fail
  go_ret
  exact ⟨rfl, rfl⟩
theorem vreading_nil (a : Int) (w : World) : Calls Try.prog 67 #[.pointer none, .int .i64 a] w fun e w' => e = .returned (.int .i64 7) ∧ w = w' := by
  go_enter Try.func67, Try.ntmps67
  go_wp2_with fail
  refine (vsector_nil a _).mono ?_
  rintro e w1 ⟨rfl, rfl⟩
  go_wp2_with fail
  go_ret
  exact ⟨rfl, rfl⟩
theorem vread_nil (a : Int) (w : World) : Calls Try.prog 33 #[.pointer none, .int .i64 a] w fun e w' => e = .returned (.tuple #[.string ⟨#[]⟩, .int .i64 7]) ∧ w = w' := by
  go_enter Try.func33, Try.ntmps33
  go_wp2_with fail
  refine (vreading_nil a _).mono ?_
  rintro e w1 ⟨rfl, rfl⟩
  go_wp2_with fail
  go_ret2
  exact ⟨rfl, rfl⟩
theorem vwrite_nil (a : Int) (s : ByteArray) (w : World) : Calls Try.prog 34 #[.pointer none, .int .i64 a, .string s] w fun e w' => e = .returned (.int .i64 7) ∧ w = w' := by
  go_enter Try.func34, Try.ntmps34
  go_wp2_with fail
  refine (vsector_nil a _).mono ?_
  rintro e w1 ⟨rfl, rfl⟩
  go_wp2_with fail
  go_ret
  exact ⟨rfl, rfl⟩
theorem vflush_nil (w : World) : Calls Try.prog 36 #[.pointer none] w fun e w' => e = .returned (.int .i64 7) ∧ w = w' := by
  go_enter Try.func36, Try.ntmps36
  go_wp2_with fail
  go_ret
  exact ⟨rfl, rfl⟩
theorem vcrash_nil (kv : Value) (w : World) : Calls Try.prog 37 #[.pointer none, kv] w fun e w' => e = .returned (.int .i64 7) ∧ w = w' := by
  go_enter Try.func37, Try.ntmps37
  go_wp2_with fail
  go_ret
  exact ⟨rfl, rfl⟩
theorem vwaiting_nil (w : World) : Calls Try.prog 39 #[.pointer none] w fun e w' => e = .returned (.int .i64 0) ∧ w = w' := by
  go_enter Try.func39, Try.ntmps39
  go_wp2_with fail
  go_ret
  exact ⟨rfl, rfl⟩

theorem vwrite_out (a : Int) (s : ByteArray) (h : Vw w vb d g v lie ws from_ n fuse steps gone) (ha : ¬ (0 ≤ a ∧ a < n)) :
    Calls Try.prog 34 #[.pointer (some ⟨vb, 0, none⟩), .int .i64 a, .string s] w fun e w' => e = .returned (.int .i64 20) ∧ Below w.heap.size w w' := by
  have hs := vsector_any a h
  rw [if_neg ha] at hs
  replace hs := Lib.hid hs
  clear ha h
  go_enter Try.func34, Try.ntmps34
  go_wp2_with fail
  refine hs.out.mono ?_
  rintro e w1 ⟨rfl, hb1⟩
  go_wp2_with fail
  go_ret
  exact ⟨rfl, hb1⟩
theorem vwrite_arg (a : Int) (s : ByteArray) (h : Vw w vb d g v lie ws from_ n fuse steps gone) (ha : 0 ≤ a ∧ a < n) (hz : s.size < 64) :
    Calls Try.prog 34 #[.pointer (some ⟨vb, 0, none⟩), .int .i64 a, .string s] w fun e w' => e = .returned (.int .i64 1) ∧ Below w.heap.size w w' := by
  have hs := vsector_any a h
  rw [if_pos ha] at hs
  replace hs := Lib.hid hs
  have hne : ((s.size : Int) != 64) = true := by simp; omega
  clear ha h
  go_enter Try.func34, Try.ntmps34
  go_wp2_with fail
  refine hs.out.mono ?_
  rintro e w1 ⟨rfl, hb1⟩
  go_wp2_with fail
  go_ret
  exact ⟨rfl, hb1⟩
/-- What a refused step leaves. -/
def Still (w : World) (vb d g : Nat) (v : Value) (lie : List (List UInt8)) (ws : List (Nat × List UInt8)) (from_ n : Nat) (fuse steps : Int) (w' : World) : Prop :=
  Vw w' vb d g v lie ws from_ n fuse steps true ∧ Kept (fun q => q = vb) w w'
theorem vwrite_power (a : Int) (s : ByteArray) (h : Vw w vb d g v lie ws from_ n fuse steps gone) (ha : 0 ≤ a ∧ a < n) (hz : s.size = 64) (hno : gone = true ∨ fuse = 0) :
    Calls Try.prog 34 #[.pointer (some ⟨vb, 0, none⟩), .int .i64 a, .string s] w fun e w' => e = .returned (.int .i64 21) ∧ Still w vb d g v lie ws from_ n fuse steps w' := by
  have hs := vsector_any a h
  rw [if_pos ha] at hs
  replace hs := Lib.hid hs
  have hne : ((s.size : Int) != 64) = false := by simp [hz]
  clear ha
  replace h := Lib.hid h
  replace hno := Lib.hid hno
  replace hz := Lib.hid hz
  go_enter Try.func34, Try.ntmps34
  go_wp2_with fail
  refine hs.out.mono ?_
  rintro e w1 ⟨rfl, hb1⟩
  have h1 := h.out.below hb1
  have g1 : Kept (fun q => q = vb) w w1 := Kept.of_below hb1
  have hnn : ((vb : Nat) : Int) = vb := rfl
  go_wp2_with fail
  refine (step_no h1 hno.out).mono ?_
  rintro e w2 ⟨rfl, h2, hk2⟩
  go_wp2_with fail
  go_ret
  exact ⟨rfl, h2, g1.trans hk2⟩
end
end Go.Proofs.Ytgomhnclmacleaa.D
