/- Package retain: bounded, Right, Start. -/
import Derived.Test.YtgogackkeodciaaGreatRcF
import Derived.Test.YtgogackkeodciaaGreatStops
import Derived.Deep.Cut
namespace Go.Proofs.YtgogackkeodciaaGreat.W
open Go.RowKit Go.Sort
open Go.Proofs.YtgogackkeodciaaGreat.M Go.Proofs.YtgogackkeodciaaGreat.D Go.Proofs.YtgogackkeodciaaGreat.Z
set_option linter.unusedVariables false
set_option linter.unusedSimpArgs false

/-- A number, or the one next to it from 0 to 2^40. -/
def clampI (n : Int) : Int := if n < 0 then 0 else if 1099511627776 < n then 1099511627776 else n
theorem clampI_bounds (n : Int) : 0 ≤ clampI n ∧ clampI n ≤ 1099511627776 := by unfold clampI; split <;> (try split) <;> omega
theorem clampI_mono {a b : Int} (h : a ≤ b) : clampI a ≤ clampI b := by unfold clampI; repeat' split
                                                                        all_goals omega
/-- How many bytes records have. -/
def bytesL (rs : List Rc) : Nat := (packL rs).length
/-- What may stay at a record's place. -/
def staysP (now age size : Int) (r : Rc) (t : List Rc) : Prop := (size = 0 ∨ (bytesL (r :: t) : Int) ≤ size) ∧ (age = 0 ∨ now - r.tick ≤ age)
instance (now age size : Int) (r : Rc) (t : List Rc) : Decidable (staysP now age size r t) := by unfold staysP; infer_instance
/-- The first one that stays (20.1). -/
def startF (now age size next : Int) : List Rc → Int
  | [] => next
  | r :: t => if staysP now age size r t then r.off else startF now age size next t
theorem bytesL_cons (r : Rc) (t : List Rc) : bytesL (r :: t) = (recL r).length + bytesL t := by show (recL r ++ packL t).length = _; rw [List.length_append]; rfl
theorem bytesL_drop (rs : List Rc) : ∀ i, bytesL (rs.drop i) ≤ bytesL rs := by
  induction rs with
  | nil => intro i; simp
  | cons r t ih =>
    intro i
    cases i with
    | zero => exact Nat.le_refl _
    | succ i => have := ih i; rw [List.drop_succ_cons, bytesL_cons]; omega
theorem startF_break (now age size next : Int) (rs : List Rc) : ∀ m, size ≠ 0 → size < (bytesL (rs.drop m) : Int) → startF now age size next rs = startF now age size next (rs.drop (m + 1)) := by
  induction rs with
  | nil => intro m _ _; simp
  | cons r t ih =>
    intro m h0 h1
    have hno : ¬ staysP now age size r t := fun h => by
      have h2 := bytesL_drop (r :: t) m
      rcases h.1 with h3 | h3 <;> omega
    have e : startF now age size next (r :: t) = startF now age size next t := by show (if _ then _ else _) = _; rw [if_neg hno]
    cases m with
    | zero => rw [e]; rfl
    | succ m => rw [e, ih m h0 (by simpa using h1)]; rfl
theorem startF_at {now age size next : Int} {rs : List Rc} {m : Nat} {r : Rc} (h : rs[m]? = some r) : rs.drop m = r :: rs.drop (m + 1) := by
  obtain ⟨hm, rfl⟩ := List.getElem?_eq_some_iff.1 h
  exact List.drop_eq_getElem_cons hm

theorem bounded_any (n : Int) (w : World) :
    Calls Tryz.prog 101 #[.int .i64 n] w fun e w' => e = .returned (.int .i64 (clampI n)) ∧ w = w' := by
  have hmx := fun W => run_max_int2 (P := Tryz.prog) (w := W) #[3, 3] 3 .i64 .i64 n 0
  obtain ⟨N, hN⟩ : ∃ N, Hid ((if (0 : Int) > n then 0 else n) = N) := ⟨_, Lib.hid rfl⟩
  rw [hN.out] at hmx
  have hmn := fun W => run_min_int2 (P := Tryz.prog) (w := W) #[3, 3] 3 .i64 .i64 N 1099511627776
  have hC : (if (1099511627776 : Int) < N then 1099511627776 else N) = clampI n := by
    unfold clampI; rw [← hN.out]; repeat' split
    all_goals omega
  rw [hC] at hmn
  obtain ⟨C, hCC⟩ : ∃ C, Hid (clampI n = C) := ⟨_, Lib.hid rfl⟩
  rw [hCC.out] at hmn ⊢
  clear hC
  go_enter Tryz.func101, Tryz.ntmps101
  go_wp2_with fail
  go_ret
  exact ⟨rfl, rfl⟩

theorem right_of (a s : Int) (B : Bool) (hB : decide (a = clampI a ∧ s = clampI s) = B) (w : World) :
    Calls Tryz.prog 73 #[.int .i64 a, .int .i64 s] w fun e w' => e = .returned (.bool B) ∧ w = w' := by
  have h1 := Lib.hid (fun W => bounded_any a W)
  have h2 := Lib.hid (fun W => bounded_any s W)
  obtain ⟨A, hA⟩ : ∃ A, Hid (clampI a = A) := ⟨_, Lib.hid rfl⟩
  obtain ⟨S, hS⟩ : ∃ A, Hid (clampI s = A) := ⟨_, Lib.hid rfl⟩
  rw [hA.out] at h1 hB
  rw [hS.out] at h2 hB
  by_cases ha : a = A
  · have ea : (a == A) = true := by simp [ha]
    by_cases hs : s = S
    · have es : (s == S) = true := by simp [hs]
      obtain rfl : B = true := by rw [← hB]; exact decide_eq_true ⟨ha, hs⟩
      replace ha := Lib.hid ha
      replace hs := Lib.hid hs
      clear hB
      go_enter Tryz.func73, Tryz.ntmps73
      go_wp2_with fail
      refine (h1.out _).mono ?_
      rintro _ w1 ⟨rfl, rfl⟩
      go_wp2_with fail
      refine (h2.out _).mono ?_
      rintro _ w1 ⟨rfl, rfl⟩
      go_wp2_with fail
      go_ret
      exact ⟨rfl, rfl⟩
    · have es : (s == S) = false := by simp [hs]
      obtain rfl : B = false := by rw [← hB]; exact decide_eq_false (fun h => hs h.2)
      replace ha := Lib.hid ha
      replace hs := Lib.hid hs
      clear hB
      go_enter Tryz.func73, Tryz.ntmps73
      go_wp2_with fail
      refine (h1.out _).mono ?_
      rintro _ w1 ⟨rfl, rfl⟩
      go_wp2_with fail
      refine (h2.out _).mono ?_
      rintro _ w1 ⟨rfl, rfl⟩
      go_wp2_with fail
      go_ret
      exact ⟨rfl, rfl⟩
  · have ea : (a == A) = false := by simp [ha]
    obtain rfl : B = false := by rw [← hB]; exact decide_eq_false (fun h => ha h.1)
    replace ha := Lib.hid ha
    clear hB
    go_enter Tryz.func73, Tryz.ntmps73
    go_wp2_with fail
    refine (h1.out _).mono ?_
    rintro _ w1 ⟨rfl, rfl⟩
    go_wp2_with fail
    go_ret
    exact ⟨rfl, rfl⟩

end Go.Proofs.YtgogackkeodciaaGreat.W
