/- Layer 22: which topics may be. -/
import Derived.Test.YtpfnpfbimadjkaaRtA
import Derived.Test.YtpfnpfbimadjkaaUntexts
import Derived.Test.YtpfnpfbimadjkaaCells
namespace Go.Proofs.Ytpfnpfbimadjkaa.W
open Go.RowKit Go.Sort
open Go.Proofs.Ytpfnpfbimadjkaa.M Go.Proofs.Ytpfnpfbimadjkaa.D Go.Proofs.Ytpfnpfbimadjkaa.Z
set_option linter.unusedVariables false
set_option linter.unusedSimpArgs false

/-- May a name have a byte? -/
def letB (b : Nat) : Bool := decide (97 ≤ b ∧ b ≤ 122) || decide (48 ≤ b ∧ b ≤ 57) || decide (b = 45)
def nameB (s : ByteArray) : Bool := decide (1 ≤ s.size ∧ s.size ≤ 12) && s.data.toList.all fun c => letB c.toNat
/-- A topic. -/
structure Sp where
  nm : ByteArray
  parts : Int
  age : Int
  size : Int
  comp : Bool
abbrev spL (x : Sp) : List Value := [.string x.nm, .int .i64 x.parts, .int .i64 x.age, .int .i64 x.size, .bool x.comp]
abbrev spV (x : Sp) : Value := .agg #[.string x.nm, .int .i64 x.parts, .int .i64 x.age, .int .i64 x.size, .bool x.comp]
/-- May a topic be (22.1)? -/
def Sp.ok (x : Sp) : Prop := nameB x.nm = true ∧ (1 ≤ x.parts ∧ x.parts ≤ 4) ∧ (0 ≤ x.age ∧ x.age ≤ 1099511627776) ∧ (0 ≤ x.size ∧ x.size ≤ 1099511627776)
instance (x : Sp) : Decidable x.ok := by unfold Sp.ok; infer_instance
def Sp.may (x : Sp) : Bool := decide x.ok
theorem letB_ways (b : Nat) : (97 ≤ b ∧ b ≤ 122 ∧ letB b = true) ∨ (97 ≤ b ∧ 122 < b ∧ letB b = false) ∨ (48 ≤ b ∧ b ≤ 57 ∧ letB b = true) ∨ (57 < b ∧ b < 97 ∧ letB b = false) ∨ (b = 45 ∧ letB b = true) ∨ (b < 48 ∧ b ≠ 45 ∧ letB b = false) := by
  unfold letB
  by_cases a : 97 ≤ b
  · by_cases c : b ≤ 122
    · exact .inl ⟨a, c, by simp [a, c]⟩
    · exact .inr (.inl ⟨a, by omega, by simp; omega⟩)
  · by_cases d : 48 ≤ b
    · by_cases e : b ≤ 57
      · exact .inr (.inr (.inl ⟨d, e, by simp [d, e]⟩))
      · exact .inr (.inr (.inr (.inl ⟨by omega, by omega, by simp; omega⟩)))
    · by_cases f : b = 45
      · exact .inr (.inr (.inr (.inr (.inl ⟨f, by simp [f]⟩))))
      · exact .inr (.inr (.inr (.inr (.inr ⟨by omega, f, by simp; omega⟩))))
theorem isLetter_any (b : Nat) (hb : b < 256) (w : World) :
    Calls Try.prog 38 #[.int .u8 (b : Int)] w fun e w' => e = .returned (.bool (letB b)) ∧ w = w' := by
  rcases letB_ways b with ⟨h1, h2, hl⟩ | ⟨h1, h2, hl⟩ | ⟨h1, h2, hl⟩ | ⟨h1, h2, hl⟩ | ⟨h1, hl⟩ | ⟨h1, h2, hl⟩
  · have i1 : (97 : Int) ≤ (b : Int) := by omega
    have i2 : (b : Int) ≤ 122 := by omega
    rw [hl]
    skip
    go_enter Try.func38, Try.ntmps38
    go_wp2_with fail
    go_ret
    exact ⟨rfl, rfl⟩
  · have i1 : (97 : Int) ≤ (b : Int) := by omega
    have i2 : (122 : Int) < (b : Int) := by omega
    have i8 : decide ((b : Int) ≤ 122) = false := decide_eq_false (by omega)
    have i3 : (48 : Int) ≤ (b : Int) := by omega
    have i4 : (57 : Int) < (b : Int) := by omega
    have i9 : decide ((b : Int) ≤ 57) = false := decide_eq_false (by omega)
    have i5 : ((b : Int) == 45) = false := by simp; omega
    have i6 : ¬ (b : Int) = 45 := by omega
    have i7 : ¬ b = 45 := by omega
    rw [hl]
    skip
    go_enter Try.func38, Try.ntmps38
    go_wp2_with fail
    go_ret
    exact ⟨rfl, rfl⟩
  · have i1 : (b : Int) < 97 := by omega
    have i3 : (48 : Int) ≤ (b : Int) := by omega
    have i4 : (b : Int) ≤ 57 := by omega
    rw [hl]
    skip
    go_enter Try.func38, Try.ntmps38
    go_wp2_with fail
    go_ret
    exact ⟨rfl, rfl⟩
  · have i1 : (b : Int) < 97 := by omega
    have i3 : (48 : Int) ≤ (b : Int) := by omega
    have i4 : (57 : Int) < (b : Int) := by omega
    have i9 : decide ((b : Int) ≤ 57) = false := decide_eq_false (by omega)
    have i5 : ((b : Int) == 45) = false := by simp; omega
    have i6 : ¬ (b : Int) = 45 := by omega
    have i7 : ¬ b = 45 := by omega
    rw [hl]
    skip
    go_enter Try.func38, Try.ntmps38
    go_wp2_with fail
    go_ret
    exact ⟨rfl, rfl⟩
  · have i1 : (b : Int) < 97 := by omega
    have i3 : (b : Int) < 48 := by omega
    have i5 : ((b : Int) == 45) = true := by simp; omega
    have i6 : (b : Int) = 45 := by omega
    rw [hl]
    subst h1
    go_enter Try.func38, Try.ntmps38
    go_wp2_with fail
    go_ret
    exact ⟨rfl, rfl⟩
  · have i1 : (b : Int) < 97 := by omega
    have i3 : (b : Int) < 48 := by omega
    have i5 : ((b : Int) == 45) = false := by simp; omega
    have i6 : ¬ (b : Int) = 45 := by omega
    have i7 : ¬ b = 45 := by omega
    rw [hl]
    skip
    go_enter Try.func38, Try.ntmps38
    go_wp2_with fail
    go_ret
    exact ⟨rfl, rfl⟩
theorem nameB_at {l : List UInt8} {k : Nat} (h : k < l.length) : (l.drop k).all (fun c => letB c.toNat) = (letB (bt l k) && (l.drop (k + 1)).all fun c => letB c.toNat) := by
  rw [List.drop_eq_getElem_cons h, List.all_cons, bt_get l k _ (List.getElem?_eq_getElem h)]
set_option maxRecDepth 100000 in
set_option maxHeartbeats 4000000 in
theorem name22_any (s : ByteArray) (w : World) :
    Calls Try.prog 21 #[.string s] w fun e w' => e = .returned (.bool (nameB s)) ∧ w = w' := by
  obtain ⟨R, hR⟩ : ∃ R, Hid (nameB s = R) := ⟨_, Lib.hid rfl⟩
  rw [hR.out]
  by_cases h1 : s.size < 1
  · have hRf : R = false := by rw [← hR.out]; unfold nameB; rw [decide_eq_false (by omega)]; rfl
    have h1i : (s.size : Int) < 1 := by omega
    subst hRf
    go_enter Try.func21, Try.ntmps21
    go_wp2_with fail
    go_ret
    exact ⟨rfl, rfl⟩
  · have h1i : (1 : Int) ≤ (s.size : Int) := by omega
    by_cases h2 : 12 < s.size
    · have hRf : R = false := by rw [← hR.out]; unfold nameB; rw [decide_eq_false (by omega)]; rfl
      have h2i : (12 : Int) < (s.size : Int) := by omega
      subst hRf
      go_enter Try.func21, Try.ntmps21
      go_wp2_with fail
      go_ret
      exact ⟨rfl, rfl⟩
    · have h2i : (s.size : Int) ≤ 12 := by omega
      have hR2 : Hid (s.data.toList.all (fun c => letB c.toNat) = R) := Lib.hid (by rw [← hR.out]; unfold nameB; rw [decide_eq_true (by omega)]; rfl)
      have hsl : s.data.toList.length = s.size := by simp
      have hat : Hid (∀ k, k < s.size → (s.data.toList.drop k).all (fun c => letB c.toNat) = (letB (bt s.data.toList k) && (s.data.toList.drop (k + 1)).all fun c => letB c.toNat)) := Lib.hid (fun k hk => nameB_at (by omega))
      have hend : Hid (s.data.toList.drop s.size = []) := Lib.hid (by rw [← hsl, List.drop_length])
      have hlt := Lib.hid (fun (b : Nat) (hb : b < 256) W => isLetter_any b hb W)
      replace hsl := Lib.hid hsl
      obtain ⟨N, hN⟩ : ∃ N, Hid (s.size = N) := ⟨_, Lib.hid rfl⟩
      have hidx := Lib.hid (fun k (hk : k < s.size) wx => idx_nat (P := Try.prog) 9 Try.underlying9 s .i64 k hk wx)
      rw [hN.out] at hat hend hidx
      have hNs : N ≤ 12 := by have := hN.out; omega
      clear h1 h2 hR
      go_enter Try.func21, Try.ntmps21
      go_wp2_with fail
      rw [hN.out]
      clear h1i h2i
      go_loopg [14] N (fun ga i wr => ∃ k : Nat, k ≤ N ∧ N ≤ k + ga ∧ i = .int .i64 (k : Int) ∧ Hid ((s.data.toList.drop k).all (fun c => letB c.toNat) = R ∧ w = wr))
      case atStart => exact ⟨0, by omega, by omega, rfl, Lib.hid ⟨by rw [List.drop_zero]; exact hR2.out, rfl⟩⟩
      case round =>
        clear hR2
        obtain ⟨k, hk, hg, rfl, hrel⟩ := hrel
        obtain ⟨e1, rfl⟩ := hrel.out
        clear hrel
        by_cases hlt2 : k < N
        · have hix := hidx.out k hlt2
          rw [hat.out k hlt2] at e1
          have hki : (k : Int) < (N : Int) := by omega
          have hc := fun W => hlt.out (bt s.data.toList k) (bt_lt _ _) W
          obtain ⟨b, hb⟩ : ∃ b, Hid (bt s.data.toList k = b) := ⟨_, Lib.hid rfl⟩
          rw [hb.out] at hix hc e1
          replace hc := Lib.hid hc
          cases hl : letB b with
          | true =>
            rw [hl] at e1 hc
            have hfin := Lib.hid (show (s.data.toList.drop (k + 1)).all (fun c => letB c.toNat) = R from e1)
            clear e1 hl
            go_wp2_with fail
            refine (hc.out _).mono ?_
            rintro _ w1 ⟨rfl, rfl⟩
            go_wp2_with fail
            go_roundg (gk - 1)
            case measure => omega
            case rel => exact ⟨k + 1, by omega, by omega, by go_num, Lib.hid ⟨hfin.out, rfl⟩⟩
          | false =>
            rw [hl] at e1 hc
            have hRf : R = false := by rw [← e1]; rfl
            subst hRf
            clear e1 hl
            go_wp2_with fail
            refine (hc.out _).mono ?_
            rintro _ w1 ⟨rfl, rfl⟩
            go_wp2_with fail
            go_ret
            exact ⟨rfl, rfl⟩
        · obtain rfl : k = N := by omega
          rw [hend.out] at e1
          have hRt : R = true := by rw [← e1]; rfl
          subst hRt
          go_wp2_with fail
          go_ret
          exact ⟨rfl, rfl⟩
theorem nameB_split {s : ByteArray} (h : nameB s = true) : 1 ≤ s.size ∧ s.size ≤ 12 := by
  unfold nameB at h
  rw [Bool.and_eq_true] at h
  exact of_decide_eq_true h.1
set_option maxRecDepth 100000 in
set_option maxHeartbeats 8000000 in
theorem rname_any (s : ByteArray) (w : World) (hs : s.size ≤ 100000) :
    Calls Try.prog 22 #[.string s] w fun e w' => e = .returned (.bool (nameB s)) ∧ w = w' := by
  obtain ⟨R, hR⟩ : ∃ R, Hid (nameB s = R) := ⟨_, Lib.hid rfl⟩
  rw [hR.out]
  obtain ⟨A, hA⟩ : ∃ A, Hid (s.data.toList.all (fun c => letB c.toNat) = A) := ⟨_, Lib.hid rfl⟩
  have hRA : Hid ((decide (1 ≤ s.size ∧ s.size ≤ 12) && A) = R) := Lib.hid (by rw [← hR.out, ← hA.out]; rfl)
  have hsl : s.data.toList.length = s.size := by simp
  have hat : Hid (∀ k, k < s.size → (s.data.toList.drop k).all (fun c => letB c.toNat) = (letB (bt s.data.toList k) && (s.data.toList.drop (k + 1)).all fun c => letB c.toNat)) := Lib.hid (fun k hk => nameB_at (by omega))
  have hend : Hid (s.data.toList.drop s.size = []) := Lib.hid (by rw [← hsl, List.drop_length])
  replace hsl := Lib.hid hsl
  obtain ⟨N, hN⟩ : ∃ N, Hid (s.size = N) := ⟨_, Lib.hid rfl⟩
  have hidx := Lib.hid (fun k (hk : k < s.size) wx => idx_nat (P := Try.prog) 9 Try.underlying9 s .i64 k hk wx)
  rw [hN.out] at hat hend hidx hs hRA
  clear hR
  go_enter Try.func22, Try.ntmps22
  go_wp2_with fail
  rw [hN.out]
  go_loopg [7] N (fun ga i wr => ∃ k : Nat, k ≤ N ∧ N ≤ k + ga ∧ i = .int .i64 (k : Int) ∧ Hid ((s.data.toList.drop k).all (fun c => letB c.toNat) = A ∧ w = wr))
  case atStart => exact ⟨0, by omega, by omega, rfl, Lib.hid ⟨by rw [List.drop_zero]; exact hA.out, rfl⟩⟩
  case round =>
    clear hA
    obtain ⟨k, hk, hg, rfl, hrel⟩ := hrel
    obtain ⟨e1, rfl⟩ := hrel.out
    clear hrel
    by_cases hlt2 : k < N
    · have hix := hidx.out k hlt2
      rw [hat.out k hlt2] at e1
      have hki : (k : Int) < (N : Int) := by omega
      have hb2 := bt_lt s.data.toList k
      obtain ⟨b, hb⟩ : ∃ b, Hid (bt s.data.toList k = b) := ⟨_, Lib.hid rfl⟩
      rw [hb.out] at hix e1 hb2
      rcases letB_ways b with ⟨h1, h2, hl⟩ | ⟨h1, h2, hl⟩ | ⟨h1, h2, hl⟩ | ⟨h1, h2, hl⟩ | ⟨h1, hl⟩ | ⟨h1, h2, hl⟩
      · have i1 : (97 : Int) ≤ (b : Int) := by omega
        have i2 : (b : Int) ≤ 122 := by omega
        rw [hl] at e1
        have hfin := Lib.hid (show (s.data.toList.drop (k + 1)).all (fun c => letB c.toNat) = A from e1)
        clear e1 hl
        go_wp2_with fail
        go_roundg (gk - 1)
        case measure => omega
        case rel => exact ⟨k + 1, by omega, by omega, by go_num, Lib.hid ⟨hfin.out, rfl⟩⟩
      · have i1 : (97 : Int) ≤ (b : Int) := by omega
        have i2 : (122 : Int) < (b : Int) := by omega
        have i8 : decide ((b : Int) ≤ 122) = false := decide_eq_false (by omega)
        have i3 : (48 : Int) ≤ (b : Int) := by omega
        have i4 : (57 : Int) < (b : Int) := by omega
        have i9 : decide ((b : Int) ≤ 57) = false := decide_eq_false (by omega)
        have i5 : ((b : Int) == 45) = false := by simp; omega
        have i6 : ¬ (b : Int) = 45 := by omega
        have i7 : ¬ b = 45 := by omega
        rw [hl] at e1
        have hRf : R = false := by rw [← hRA.out, ← e1]; simp
        subst hRf
        clear e1 hl
        go_wp2_with fail
        go_ret
        exact ⟨rfl, rfl⟩
      · have i1 : (b : Int) < 97 := by omega
        have i3 : (48 : Int) ≤ (b : Int) := by omega
        have i4 : (b : Int) ≤ 57 := by omega
        rw [hl] at e1
        have hfin := Lib.hid (show (s.data.toList.drop (k + 1)).all (fun c => letB c.toNat) = A from e1)
        clear e1 hl
        go_wp2_with fail
        go_roundg (gk - 1)
        case measure => omega
        case rel => exact ⟨k + 1, by omega, by omega, by go_num, Lib.hid ⟨hfin.out, rfl⟩⟩
      · have i1 : (b : Int) < 97 := by omega
        have i3 : (48 : Int) ≤ (b : Int) := by omega
        have i4 : (57 : Int) < (b : Int) := by omega
        have i9 : decide ((b : Int) ≤ 57) = false := decide_eq_false (by omega)
        have i5 : ((b : Int) == 45) = false := by simp; omega
        have i6 : ¬ (b : Int) = 45 := by omega
        have i7 : ¬ b = 45 := by omega
        rw [hl] at e1
        have hRf : R = false := by rw [← hRA.out, ← e1]; simp
        subst hRf
        clear e1 hl
        go_wp2_with fail
        go_ret
        exact ⟨rfl, rfl⟩
      · have i1 : (b : Int) < 97 := by omega
        have i3 : (b : Int) < 48 := by omega
        have i5 : ((b : Int) == 45) = true := by simp; omega
        have i6 : (b : Int) = 45 := by omega
        rw [hl] at e1
        replace hb := Lib.hid hb
        subst h1
        have hfin := Lib.hid (show (s.data.toList.drop (k + 1)).all (fun c => letB c.toNat) = A from e1)
        clear e1 hl
        go_wp2_with fail
        go_roundg (gk - 1)
        case measure => omega
        case rel => exact ⟨k + 1, by omega, by omega, by go_num, Lib.hid ⟨hfin.out, rfl⟩⟩
      · have i1 : (b : Int) < 97 := by omega
        have i3 : (b : Int) < 48 := by omega
        have i5 : ((b : Int) == 45) = false := by simp; omega
        have i6 : ¬ (b : Int) = 45 := by omega
        have i7 : ¬ b = 45 := by omega
        rw [hl] at e1
        have hRf : R = false := by rw [← hRA.out, ← e1]; simp
        subst hRf
        clear e1 hl
        go_wp2_with fail
        go_ret
        exact ⟨rfl, rfl⟩
    · obtain rfl : k = N := by omega
      rw [hend.out] at e1
      have hAt : A = true := by rw [← e1]; rfl
      rw [hAt, Bool.and_true] at hRA
      by_cases c1 : k < 1
      · have hRf : R = false := by rw [← hRA.out]; exact decide_eq_false (by omega)
        have c1i : (s.size : Int) < 1 := by have := hN.out; omega
        subst hRf
        clear e1
        go_wp2_with fail
        go_ret
        exact ⟨rfl, rfl⟩
      · have c1i : (1 : Int) ≤ (s.size : Int) := by have := hN.out; omega
        by_cases c2 : 12 < k
        · have hRf : R = false := by rw [← hRA.out]; exact decide_eq_false (by omega)
          have c2i : decide ((s.size : Int) ≤ 12) = false := decide_eq_false (by have := hN.out; omega)
          subst hRf
          clear e1
          go_wp2_with fail
          go_ret
          exact ⟨rfl, rfl⟩
        · have hRt : R = true := by rw [← hRA.out]; exact decide_eq_true (by omega)
          have c2i : (s.size : Int) ≤ 12 := by have := hN.out; omega
          subst hRt
          clear e1
          go_wp2_with fail
          go_ret
          exact ⟨rfl, rfl⟩
end Go.Proofs.Ytpfnpfbimadjkaa.W
