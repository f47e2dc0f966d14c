/- Layer 22: Right of both. -/
import Derived.Test.YtpfnpfbimadjkaaTpA
namespace Go.Proofs.Ytpfnpfbimadjkaa.W
open Go.RowKit Go.Sort
open Go.Proofs.Ytpfnpfbimadjkaa.M Go.Proofs.Ytpfnpfbimadjkaa.D Go.Proofs.Ytpfnpfbimadjkaa.Z
set_option linter.unusedVariables false
set_option linter.unusedSimpArgs false

theorem clampI_is (n : Int) : n = clampI n ↔ 0 ≤ n ∧ n ≤ 1099511627776 := by unfold clampI; split <;> (try split) <;> omega
theorem may_of (nm : ByteArray) (pa ag sz : Int) (cp : Bool) (B : Bool) (h : B = true ↔ nameB nm = true ∧ (1 ≤ pa ∧ pa ≤ 4) ∧ (0 ≤ ag ∧ ag ≤ 1099511627776) ∧ (0 ≤ sz ∧ sz ≤ 1099511627776)) : Sp.may ⟨nm, pa, ag, sz, cp⟩ = B := by
  rw [Bool.eq_iff_iff, h]
  unfold Sp.may
  rw [decide_eq_true_iff]
  rfl
set_option maxRecDepth 100000 in
set_option maxHeartbeats 4000000 in
theorem right22_any (nm : ByteArray) (pa ag sz : Int) (cp : Bool) (w : World) :
    Calls Try.prog 20 #[(.agg #[.string nm, .int .i64 pa, .int .i64 ag, .int .i64 sz, .bool cp])] w fun e w' => e = .returned (.bool (Sp.may ⟨nm, pa, ag, sz, cp⟩)) ∧ Below w.heap.size w w' := by
  have hB0 := Lib.hid ((Below.refl w.heap.size w).alloc (Nat.le_refl _) (.cells #[.string nm, .int .i64 pa, .int .i64 ag, .int .i64 sz, .bool cp] 34))
  have hn := fun W => name22_any nm W
  have hmo := may_of nm pa ag sz cp
  obtain ⟨R, hR⟩ : ∃ R, Hid (Sp.may ⟨nm, pa, ag, sz, cp⟩ = R) := ⟨_, Lib.hid rfl⟩
  rw [hR.out] at hmo ⊢
  clear hR
  cases hnm : nameB nm with
  | false =>
    rw [hnm] at hn hmo
    have hf := hmo false (by simp)
    replace hn := Lib.hid hn
    subst hf
    clear hmo hnm
    go_enter Try.func20, Try.ntmps20
    go_wp2_with fail
    refine (hn.out _).mono ?_
    rintro _ w1 ⟨rfl, rfl⟩
    go_wp2_with fail
    go_ret
    exact ⟨rfl, hB0.out⟩
  | true =>
    rw [hnm] at hn hmo
    replace hn := Lib.hid hn
    clear hnm
    by_cases c1 : pa < 1
    · have hf := hmo false (by simp; omega)
      have d1 : decide ((1 : Int) ≤ pa) = false := decide_eq_false (by omega)
      subst hf
      clear hmo
      go_enter Try.func20, Try.ntmps20
      go_wp2_with fail
      refine (hn.out _).mono ?_
      rintro _ w1 ⟨rfl, rfl⟩
      go_wp2_with fail
      go_ret
      exact ⟨rfl, hB0.out⟩
    · have c1i : 1 ≤ pa := by omega
      by_cases c2 : 4 < pa
      · have hf := hmo false (by simp; omega)
        have d2 : decide (pa ≤ 4) = false := decide_eq_false (by omega)
        subst hf
        clear hmo
        go_enter Try.func20, Try.ntmps20
        go_wp2_with fail
        refine (hn.out _).mono ?_
        rintro _ w1 ⟨rfl, rfl⟩
        go_wp2_with fail
        go_ret
        exact ⟨rfl, hB0.out⟩
      · have c2i : pa ≤ 4 := by omega
        obtain ⟨B, hBd⟩ : ∃ B, Hid (decide (ag = clampI ag ∧ sz = clampI sz) = B) := ⟨_, Lib.hid rfl⟩
        have hr := Lib.hid (fun W => right_of ag sz B hBd.out W)
        have hf := hmo B (by rw [← hBd.out, decide_eq_true_iff, clampI_is, clampI_is]; simp; omega)
        subst hf
        clear hmo
        go_enter Try.func20, Try.ntmps20
        go_wp2_with fail
        refine (hn.out _).mono ?_
        rintro _ w1 ⟨rfl, rfl⟩
        go_wp2_with fail
        refine (hr.out _).mono ?_
        rintro _ w1 ⟨rfl, rfl⟩
        go_wp2_with fail
        go_ret
        exact ⟨rfl, hB0.out⟩
set_option maxRecDepth 100000 in
set_option maxHeartbeats 8000000 in
theorem rright_any (nm : ByteArray) (pa ag sz : Int) (cp : Bool) (w : World) (hs : nm.size ≤ 100000) :
    Calls Try.prog 19 #[(.agg #[.string nm, .int .i64 pa, .int .i64 ag, .int .i64 sz, .bool cp])] w fun e w' => e = .returned (.bool (Sp.may ⟨nm, pa, ag, sz, cp⟩)) ∧ Below w.heap.size w w' := by
  have hB0 := Lib.hid ((Below.refl w.heap.size w).alloc (Nat.le_refl _) (.cells #[.string nm, .int .i64 pa, .int .i64 ag, .int .i64 sz, .bool cp] 34))
  have hn := fun W => rname_any nm W hs
  have hmo := may_of nm pa ag sz cp
  obtain ⟨R, hR⟩ : ∃ R, Hid (Sp.may ⟨nm, pa, ag, sz, cp⟩ = R) := ⟨_, Lib.hid rfl⟩
  rw [hR.out] at hmo ⊢
  clear hR hs
  cases hnm : nameB nm with
  | false =>
    rw [hnm] at hn hmo
    have hf := hmo false (by simp)
    replace hn := Lib.hid hn
    subst hf
    clear hmo hnm
    go_enter Try.func19, Try.ntmps19
    go_wp2_with fail
    refine (hn.out _).mono ?_
    rintro _ w1 ⟨rfl, rfl⟩
    go_wp2_with fail
    go_ret
    exact ⟨rfl, hB0.out⟩
  | true =>
    rw [hnm] at hn hmo
    replace hn := Lib.hid hn
    clear hnm
    by_cases c0 : pa < 1
    · have hf := hmo false (by simp; omega)
      have d0 : decide (1 ≤ pa) = false := decide_eq_false (by omega)
      subst hf
      clear hmo
      go_enter Try.func19, Try.ntmps19
      go_wp2_with fail
      refine (hn.out _).mono ?_
      rintro _ w1 ⟨rfl, rfl⟩
      go_wp2_with fail
      go_ret
      exact ⟨rfl, hB0.out⟩
    have e0 : 1 ≤ pa := by omega
    by_cases c1 : 4 < pa
    · have hf := hmo false (by simp; omega)
      have d1 : decide (pa ≤ 4) = false := decide_eq_false (by omega)
      subst hf
      clear hmo
      go_enter Try.func19, Try.ntmps19
      go_wp2_with fail
      refine (hn.out _).mono ?_
      rintro _ w1 ⟨rfl, rfl⟩
      go_wp2_with fail
      go_ret
      exact ⟨rfl, hB0.out⟩
    have e1 : pa ≤ 4 := by omega
    by_cases c2 : ag < 0
    · have hf := hmo false (by simp; omega)
      have d2 : decide (0 ≤ ag) = false := decide_eq_false (by omega)
      subst hf
      clear hmo
      go_enter Try.func19, Try.ntmps19
      go_wp2_with fail
      refine (hn.out _).mono ?_
      rintro _ w1 ⟨rfl, rfl⟩
      go_wp2_with fail
      go_ret
      exact ⟨rfl, hB0.out⟩
    have e2 : 0 ≤ ag := by omega
    by_cases c3 : 1099511627776 < ag
    · have hf := hmo false (by simp; omega)
      have d3 : decide (ag ≤ 1099511627776) = false := decide_eq_false (by omega)
      subst hf
      clear hmo
      go_enter Try.func19, Try.ntmps19
      go_wp2_with fail
      refine (hn.out _).mono ?_
      rintro _ w1 ⟨rfl, rfl⟩
      go_wp2_with fail
      go_ret
      exact ⟨rfl, hB0.out⟩
    have e3 : ag ≤ 1099511627776 := by omega
    by_cases c4 : sz < 0
    · have hf := hmo false (by simp; omega)
      have d4 : decide (0 ≤ sz) = false := decide_eq_false (by omega)
      subst hf
      clear hmo
      go_enter Try.func19, Try.ntmps19
      go_wp2_with fail
      refine (hn.out _).mono ?_
      rintro _ w1 ⟨rfl, rfl⟩
      go_wp2_with fail
      go_ret
      exact ⟨rfl, hB0.out⟩
    have e4 : 0 ≤ sz := by omega
    by_cases c5 : 1099511627776 < sz
    · have hf := hmo false (by simp; omega)
      have d5 : decide (sz ≤ 1099511627776) = false := decide_eq_false (by omega)
      subst hf
      clear hmo
      go_enter Try.func19, Try.ntmps19
      go_wp2_with fail
      refine (hn.out _).mono ?_
      rintro _ w1 ⟨rfl, rfl⟩
      go_wp2_with fail
      go_ret
      exact ⟨rfl, hB0.out⟩
    have e5 : sz ≤ 1099511627776 := by omega
    have hf := hmo true (by simp; omega)
    subst hf
    clear hmo
    go_enter Try.func19, Try.ntmps19
    go_wp2_with fail
    refine (hn.out _).mono ?_
    rintro _ w1 ⟨rfl, rfl⟩
    go_wp2_with fail
    go_ret
    exact ⟨rfl, hB0.out⟩
end Go.Proofs.Ytpfnpfbimadjkaa.W
