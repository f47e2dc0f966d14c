/- Layer 22: which topics may be. Layer 22: Right of both. Layer 22, plain: topics as bytes. Layer 22: Encode of both. -/
import Derived.Test.YtnekiiahgidkoaaRtA
import Derived.Test.YtnekiiahgidkoaaUntexts
import Derived.Test.YtnekiiahgidkoaaCells
import Derived.Test.YtnekiiahgidkoaaRecM
import Derived.Test.YtnekiiahgidkoaaChains
import Derived.LoopN
section
namespace Go.Proofs.Ytnekiiahgidkoaa.W
open Go.RowKit Go.Sort
open Go.Proofs.Ytnekiiahgidkoaa.M Go.Proofs.Ytnekiiahgidkoaa.D Go.Proofs.Ytnekiiahgidkoaa.Z
set_option linter.unusedVariables false
set_option linter.unusedSimpArgs false

/-- May a name have a byte? -/
def letB (b : Nat) : Bool := decide (97 ≤ b ∧ b ≤ 122) || decide (48 ≤ b ∧ b ≤ 57) || decide (b = 45)
def nameB (s : ByteArray) : Bool := decide (1 ≤ s.size ∧ s.size ≤ 12) && s.data.toList.all fun c => letB c.toNat
/-- A topic. -/
structure Sp where
  nm : ByteArray
  parts : Int
  age : Int
  size : Int
  comp : Bool
abbrev spL (x : Sp) : List Value := [.string x.nm, .int .i64 x.parts, .int .i64 x.age, .int .i64 x.size, .bool x.comp]
abbrev spV (x : Sp) : Value := .agg #[.string x.nm, .int .i64 x.parts, .int .i64 x.age, .int .i64 x.size, .bool x.comp]
/-- May a topic be (22.1)? -/
def Sp.ok (x : Sp) : Prop := nameB x.nm = true ∧ (1 ≤ x.parts ∧ x.parts ≤ 4) ∧ (0 ≤ x.age ∧ x.age ≤ 1099511627776) ∧ (0 ≤ x.size ∧ x.size ≤ 1099511627776)
instance (x : Sp) : Decidable x.ok := by unfold Sp.ok; infer_instance
def Sp.may (x : Sp) : Bool := decide x.ok
theorem letB_ways (b : Nat) : (97 ≤ b ∧ b ≤ 122 ∧ letB b = true) ∨ (97 ≤ b ∧ 122 < b ∧ letB b = false) ∨ (48 ≤ b ∧ b ≤ 57 ∧ letB b = true) ∨ (57 < b ∧ b < 97 ∧ letB b = false) ∨ (b = 45 ∧ letB b = true) ∨ (b < 48 ∧ b ≠ 45 ∧ letB b = false) := by
  unfold letB
  by_cases a : 97 ≤ b
  · by_cases c : b ≤ 122
    · exact .inl ⟨a, c, by simp [a, c]⟩
    · exact .inr (.inl ⟨a, by omega, by simp; omega⟩)
  · by_cases d : 48 ≤ b
    · by_cases e : b ≤ 57
      · exact .inr (.inr (.inl ⟨d, e, by simp [d, e]⟩))
      · exact .inr (.inr (.inr (.inl ⟨by omega, by omega, by simp; omega⟩)))
    · by_cases f : b = 45
      · exact .inr (.inr (.inr (.inr (.inl ⟨f, by simp [f]⟩))))
      · exact .inr (.inr (.inr (.inr (.inr ⟨by omega, f, by simp; omega⟩))))
theorem isLetter_any (b : Nat) (hb : b < 256) (w : World) :
    Calls Try.prog 27 #[.int .u8 (b : Int)] w fun e w' => e = .returned (.bool (letB b)) ∧ w = w' := by
  rcases letB_ways b with ⟨h1, h2, hl⟩ | ⟨h1, h2, hl⟩ | ⟨h1, h2, hl⟩ | ⟨h1, h2, hl⟩ | ⟨h1, hl⟩ | ⟨h1, h2, hl⟩
  · have i1 : (97 : Int) ≤ (b : Int) := by omega
    have i2 : (b : Int) ≤ 122 := by omega
    rw [hl]
    skip
    go_enter Try.func27, Try.ntmps27
    go_wp2_with fail
    go_ret
    exact ⟨rfl, rfl⟩
  · have i1 : (97 : Int) ≤ (b : Int) := by omega
    have i2 : (122 : Int) < (b : Int) := by omega
    have i8 : decide ((b : Int) ≤ 122) = false := decide_eq_false (by omega)
    have i3 : (48 : Int) ≤ (b : Int) := by omega
    have i4 : (57 : Int) < (b : Int) := by omega
    have i9 : decide ((b : Int) ≤ 57) = false := decide_eq_false (by omega)
    have i5 : ((b : Int) == 45) = false := by simp; omega
    have i6 : ¬ (b : Int) = 45 := by omega
    have i7 : ¬ b = 45 := by omega
    rw [hl]
    skip
    go_enter Try.func27, Try.ntmps27
    go_wp2_with fail
    go_ret
    exact ⟨rfl, rfl⟩
  · have i1 : (b : Int) < 97 := by omega
    have i3 : (48 : Int) ≤ (b : Int) := by omega
    have i4 : (b : Int) ≤ 57 := by omega
    rw [hl]
    skip
    go_enter Try.func27, Try.ntmps27
    go_wp2_with fail
    go_ret
    exact ⟨rfl, rfl⟩
  · have i1 : (b : Int) < 97 := by omega
    have i3 : (48 : Int) ≤ (b : Int) := by omega
    have i4 : (57 : Int) < (b : Int) := by omega
    have i9 : decide ((b : Int) ≤ 57) = false := decide_eq_false (by omega)
    have i5 : ((b : Int) == 45) = false := by simp; omega
    have i6 : ¬ (b : Int) = 45 := by omega
    have i7 : ¬ b = 45 := by omega
    rw [hl]
    skip
    go_enter Try.func27, Try.ntmps27
    go_wp2_with fail
    go_ret
    exact ⟨rfl, rfl⟩
  · have i1 : (b : Int) < 97 := by omega
    have i3 : (b : Int) < 48 := by omega
    have i5 : ((b : Int) == 45) = true := by simp; omega
    have i6 : (b : Int) = 45 := by omega
    rw [hl]
    subst h1
    go_enter Try.func27, Try.ntmps27
    go_wp2_with fail
    go_ret
    exact ⟨rfl, rfl⟩
  · have i1 : (b : Int) < 97 := by omega
    have i3 : (b : Int) < 48 := by omega
    have i5 : ((b : Int) == 45) = false := by simp; omega
    have i6 : ¬ (b : Int) = 45 := by omega
    have i7 : ¬ b = 45 := by omega
    rw [hl]
    skip
    go_enter Try.func27, Try.ntmps27
    go_wp2_with fail
    go_ret
    exact ⟨rfl, rfl⟩
theorem nameB_at {l : List UInt8} {k : Nat} (h : k < l.length) : (l.drop k).all (fun c => letB c.toNat) = (letB (bt l k) && (l.drop (k + 1)).all fun c => letB c.toNat) := by
  rw [List.drop_eq_getElem_cons h, List.all_cons, bt_get l k _ (List.getElem?_eq_getElem h)]
set_option maxRecDepth 100000 in
set_option maxHeartbeats 4000000 in
theorem name22_any (s : ByteArray) (w : World) :
    Calls Try.prog 19 #[.string s] w fun e w' => e = .returned (.bool (nameB s)) ∧ w = w' := by
  obtain ⟨R, hR⟩ : ∃ R, Hid (nameB s = R) := ⟨_, Lib.hid rfl⟩
  rw [hR.out]
  by_cases h1 : s.size < 1
  · have hRf : R = false := by rw [← hR.out]; unfold nameB; rw [decide_eq_false (by omega)]; rfl
    have h1i : (s.size : Int) < 1 := by omega
    subst hRf
    go_enter Try.func19, Try.ntmps19
    go_wp2_with fail
    go_ret
    exact ⟨rfl, rfl⟩
  · have h1i : (1 : Int) ≤ (s.size : Int) := by omega
    by_cases h2 : 12 < s.size
    · have hRf : R = false := by rw [← hR.out]; unfold nameB; rw [decide_eq_false (by omega)]; rfl
      have h2i : (12 : Int) < (s.size : Int) := by omega
      subst hRf
      go_enter Try.func19, Try.ntmps19
      go_wp2_with fail
      go_ret
      exact ⟨rfl, rfl⟩
    · have h2i : (s.size : Int) ≤ 12 := by omega
      have hR2 : Hid (s.data.toList.all (fun c => letB c.toNat) = R) := Lib.hid (by rw [← hR.out]; unfold nameB; rw [decide_eq_true (by omega)]; rfl)
      have hsl : s.data.toList.length = s.size := by simp
      have hat : Hid (∀ k, k < s.size → (s.data.toList.drop k).all (fun c => letB c.toNat) = (letB (bt s.data.toList k) && (s.data.toList.drop (k + 1)).all fun c => letB c.toNat)) := Lib.hid (fun k hk => nameB_at (by omega))
      have hend : Hid (s.data.toList.drop s.size = []) := Lib.hid (by rw [← hsl, List.drop_length])
      have hlt := Lib.hid (fun (b : Nat) (hb : b < 256) W => isLetter_any b hb W)
      replace hsl := Lib.hid hsl
      obtain ⟨N, hN⟩ : ∃ N, Hid (s.size = N) := ⟨_, Lib.hid rfl⟩
      have hidx := Lib.hid (fun k (hk : k < s.size) wx => idx_nat (P := Try.prog) 9 Try.underlying9 s .i64 k hk wx)
      rw [hN.out] at hat hend hidx
      have hNs : N ≤ 12 := by have := hN.out; omega
      clear h1 h2 hR
      go_enter Try.func19, Try.ntmps19
      go_wp2_with fail
      rw [hN.out]
      clear h1i h2i
      go_loopg [14] N (fun ga i wr => ∃ k : Nat, k ≤ N ∧ N ≤ k + ga ∧ i = .int .i64 (k : Int) ∧ Hid ((s.data.toList.drop k).all (fun c => letB c.toNat) = R ∧ w = wr))
      case atStart => exact ⟨0, by omega, by omega, rfl, Lib.hid ⟨by rw [List.drop_zero]; exact hR2.out, rfl⟩⟩
      case round =>
        clear hR2
        obtain ⟨k, hk, hg, rfl, hrel⟩ := hrel
        obtain ⟨e1, rfl⟩ := hrel.out
        clear hrel
        by_cases hlt2 : k < N
        · have hix := hidx.out k hlt2
          rw [hat.out k hlt2] at e1
          have hki : (k : Int) < (N : Int) := by omega
          have hc := fun W => hlt.out (bt s.data.toList k) (bt_lt _ _) W
          obtain ⟨b, hb⟩ : ∃ b, Hid (bt s.data.toList k = b) := ⟨_, Lib.hid rfl⟩
          rw [hb.out] at hix hc e1
          replace hc := Lib.hid hc
          cases hl : letB b with
          | true =>
            rw [hl] at e1 hc
            have hfin := Lib.hid (show (s.data.toList.drop (k + 1)).all (fun c => letB c.toNat) = R from e1)
            clear e1 hl
            go_wp2_with fail
            refine (hc.out _).mono ?_
            rintro _ w1 ⟨rfl, rfl⟩
            go_wp2_with fail
            go_roundg (gk - 1)
            case measure => omega
            case rel => exact ⟨k + 1, by omega, by omega, by go_num, Lib.hid ⟨hfin.out, rfl⟩⟩
          | false =>
            rw [hl] at e1 hc
            have hRf : R = false := by rw [← e1]; rfl
            subst hRf
            clear e1 hl
            go_wp2_with fail
            refine (hc.out _).mono ?_
            rintro _ w1 ⟨rfl, rfl⟩
            go_wp2_with fail
            go_ret
            exact ⟨rfl, rfl⟩
        · obtain rfl : k = N := by omega
          rw [hend.out] at e1
          have hRt : R = true := by rw [← e1]; rfl
          subst hRt
          go_wp2_with fail
          go_ret
          exact ⟨rfl, rfl⟩
theorem nameB_split {s : ByteArray} (h : nameB s = true) : 1 ≤ s.size ∧ s.size ≤ 12 := by
  unfold nameB at h
  rw [Bool.and_eq_true] at h
  exact of_decide_eq_true h.1
set_option maxRecDepth 100000 in
set_option maxHeartbeats 8000000 in
theorem rname_any (s : ByteArray) (w : World) (hs : s.size ≤ 100000) :
    Calls Try.prog 25 #[.string s] w fun e w' => e = .returned (.bool (nameB s)) ∧ w = w' := by
  obtain ⟨R, hR⟩ : ∃ R, Hid (nameB s = R) := ⟨_, Lib.hid rfl⟩
  rw [hR.out]
  obtain ⟨A, hA⟩ : ∃ A, Hid (s.data.toList.all (fun c => letB c.toNat) = A) := ⟨_, Lib.hid rfl⟩
  have hRA : Hid ((decide (1 ≤ s.size ∧ s.size ≤ 12) && A) = R) := Lib.hid (by rw [← hR.out, ← hA.out]; rfl)
  have hsl : s.data.toList.length = s.size := by simp
  have hat : Hid (∀ k, k < s.size → (s.data.toList.drop k).all (fun c => letB c.toNat) = (letB (bt s.data.toList k) && (s.data.toList.drop (k + 1)).all fun c => letB c.toNat)) := Lib.hid (fun k hk => nameB_at (by omega))
  have hend : Hid (s.data.toList.drop s.size = []) := Lib.hid (by rw [← hsl, List.drop_length])
  replace hsl := Lib.hid hsl
  obtain ⟨N, hN⟩ : ∃ N, Hid (s.size = N) := ⟨_, Lib.hid rfl⟩
  have hidx := Lib.hid (fun k (hk : k < s.size) wx => idx_nat (P := Try.prog) 9 Try.underlying9 s .i64 k hk wx)
  rw [hN.out] at hat hend hidx hs hRA
  clear hR
  go_enter Try.func25, Try.ntmps25
  go_wp2_with fail
  rw [hN.out]
  go_loopg [7] N (fun ga i wr => ∃ k : Nat, k ≤ N ∧ N ≤ k + ga ∧ i = .int .i64 (k : Int) ∧ Hid ((s.data.toList.drop k).all (fun c => letB c.toNat) = A ∧ w = wr))
  case atStart => exact ⟨0, by omega, by omega, rfl, Lib.hid ⟨by rw [List.drop_zero]; exact hA.out, rfl⟩⟩
  case round =>
    clear hA
    obtain ⟨k, hk, hg, rfl, hrel⟩ := hrel
    obtain ⟨e1, rfl⟩ := hrel.out
    clear hrel
    by_cases hlt2 : k < N
    · have hix := hidx.out k hlt2
      rw [hat.out k hlt2] at e1
      have hki : (k : Int) < (N : Int) := by omega
      have hb2 := bt_lt s.data.toList k
      obtain ⟨b, hb⟩ : ∃ b, Hid (bt s.data.toList k = b) := ⟨_, Lib.hid rfl⟩
      rw [hb.out] at hix e1 hb2
      rcases letB_ways b with ⟨h1, h2, hl⟩ | ⟨h1, h2, hl⟩ | ⟨h1, h2, hl⟩ | ⟨h1, h2, hl⟩ | ⟨h1, hl⟩ | ⟨h1, h2, hl⟩
      · have i1 : (97 : Int) ≤ (b : Int) := by omega
        have i2 : (b : Int) ≤ 122 := by omega
        rw [hl] at e1
        have hfin := Lib.hid (show (s.data.toList.drop (k + 1)).all (fun c => letB c.toNat) = A from e1)
        clear e1 hl
        go_wp2_with fail
        go_roundg (gk - 1)
        case measure => omega
        case rel => exact ⟨k + 1, by omega, by omega, by go_num, Lib.hid ⟨hfin.out, rfl⟩⟩
      · have i1 : (97 : Int) ≤ (b : Int) := by omega
        have i2 : (122 : Int) < (b : Int) := by omega
        have i8 : decide ((b : Int) ≤ 122) = false := decide_eq_false (by omega)
        have i3 : (48 : Int) ≤ (b : Int) := by omega
        have i4 : (57 : Int) < (b : Int) := by omega
        have i9 : decide ((b : Int) ≤ 57) = false := decide_eq_false (by omega)
        have i5 : ((b : Int) == 45) = false := by simp; omega
        have i6 : ¬ (b : Int) = 45 := by omega
        have i7 : ¬ b = 45 := by omega
        rw [hl] at e1
        have hRf : R = false := by rw [← hRA.out, ← e1]; simp
        subst hRf
        clear e1 hl
        go_wp2_with fail
        go_ret
        exact ⟨rfl, rfl⟩
      · have i1 : (b : Int) < 97 := by omega
        have i3 : (48 : Int) ≤ (b : Int) := by omega
        have i4 : (b : Int) ≤ 57 := by omega
        rw [hl] at e1
        have hfin := Lib.hid (show (s.data.toList.drop (k + 1)).all (fun c => letB c.toNat) = A from e1)
        clear e1 hl
        go_wp2_with fail
        go_roundg (gk - 1)
        case measure => omega
        case rel => exact ⟨k + 1, by omega, by omega, by go_num, Lib.hid ⟨hfin.out, rfl⟩⟩
      · have i1 : (b : Int) < 97 := by omega
        have i3 : (48 : Int) ≤ (b : Int) := by omega
        have i4 : (57 : Int) < (b : Int) := by omega
        have i9 : decide ((b : Int) ≤ 57) = false := decide_eq_false (by omega)
        have i5 : ((b : Int) == 45) = false := by simp; omega
        have i6 : ¬ (b : Int) = 45 := by omega
        have i7 : ¬ b = 45 := by omega
        rw [hl] at e1
        have hRf : R = false := by rw [← hRA.out, ← e1]; simp
        subst hRf
        clear e1 hl
        go_wp2_with fail
        go_ret
        exact ⟨rfl, rfl⟩
      · have i1 : (b : Int) < 97 := by omega
        have i3 : (b : Int) < 48 := by omega
        have i5 : ((b : Int) == 45) = true := by simp; omega
        have i6 : (b : Int) = 45 := by omega
        rw [hl] at e1
        replace hb := Lib.hid hb
        subst h1
        have hfin := Lib.hid (show (s.data.toList.drop (k + 1)).all (fun c => letB c.toNat) = A from e1)
        clear e1 hl
        go_wp2_with fail
        go_roundg (gk - 1)
        case measure => omega
        case rel => exact ⟨k + 1, by omega, by omega, by go_num, Lib.hid ⟨hfin.out, rfl⟩⟩
      · have i1 : (b : Int) < 97 := by omega
        have i3 : (b : Int) < 48 := by omega
        have i5 : ((b : Int) == 45) = false := by simp; omega
        have i6 : ¬ (b : Int) = 45 := by omega
        have i7 : ¬ b = 45 := by omega
        rw [hl] at e1
        have hRf : R = false := by rw [← hRA.out, ← e1]; simp
        subst hRf
        clear e1 hl
        go_wp2_with fail
        go_ret
        exact ⟨rfl, rfl⟩
    · obtain rfl : k = N := by omega
      rw [hend.out] at e1
      have hAt : A = true := by rw [← e1]; rfl
      rw [hAt, Bool.and_true] at hRA
      by_cases c1 : k < 1
      · have hRf : R = false := by rw [← hRA.out]; exact decide_eq_false (by omega)
        have c1i : (s.size : Int) < 1 := by have := hN.out; omega
        subst hRf
        clear e1
        go_wp2_with fail
        go_ret
        exact ⟨rfl, rfl⟩
      · have c1i : (1 : Int) ≤ (s.size : Int) := by have := hN.out; omega
        by_cases c2 : 12 < k
        · have hRf : R = false := by rw [← hRA.out]; exact decide_eq_false (by omega)
          have c2i : decide ((s.size : Int) ≤ 12) = false := decide_eq_false (by have := hN.out; omega)
          subst hRf
          clear e1
          go_wp2_with fail
          go_ret
          exact ⟨rfl, rfl⟩
        · have hRt : R = true := by rw [← hRA.out]; exact decide_eq_true (by omega)
          have c2i : (s.size : Int) ≤ 12 := by have := hN.out; omega
          subst hRt
          clear e1
          go_wp2_with fail
          go_ret
          exact ⟨rfl, rfl⟩
end Go.Proofs.Ytnekiiahgidkoaa.W
end
section
namespace Go.Proofs.Ytnekiiahgidkoaa.W
open Go.RowKit Go.Sort
open Go.Proofs.Ytnekiiahgidkoaa.M Go.Proofs.Ytnekiiahgidkoaa.D Go.Proofs.Ytnekiiahgidkoaa.Z
set_option linter.unusedVariables false
set_option linter.unusedSimpArgs false

theorem clampI_is (n : Int) : n = clampI n ↔ 0 ≤ n ∧ n ≤ 1099511627776 := by unfold clampI; split <;> (try split) <;> omega
theorem may_of (nm : ByteArray) (pa ag sz : Int) (cp : Bool) (B : Bool) (h : B = true ↔ nameB nm = true ∧ (1 ≤ pa ∧ pa ≤ 4) ∧ (0 ≤ ag ∧ ag ≤ 1099511627776) ∧ (0 ≤ sz ∧ sz ≤ 1099511627776)) : Sp.may ⟨nm, pa, ag, sz, cp⟩ = B := by
  rw [Bool.eq_iff_iff, h]
  unfold Sp.may
  rw [decide_eq_true_iff]
  rfl
end Go.Proofs.Ytnekiiahgidkoaa.W
end
section
namespace Go.Proofs.Ytnekiiahgidkoaa.W
open Go.RowKit Go.Sort
open Go.Proofs.Ytnekiiahgidkoaa.M Go.Proofs.Ytnekiiahgidkoaa.D Go.Proofs.Ytnekiiahgidkoaa.Z
set_option linter.unusedVariables false
set_option linter.unusedSimpArgs false

def flagI (b : Bool) : Int := if b then 1 else 0
/-- A topic as bytes. -/
def encT (x : Sp) : List UInt8 := textL x.nm.data.toList ++ (chain x.parts ++ (chain x.age ++ (chain x.size ++ [UInt8.ofNat (flagI x.comp).toNat])))
/-- The last byte. -/
def flagAt (l : List UInt8) (p : Nat) : Option Nat := match l[p]? with
  | some f => if f.toNat ≤ 1 then some f.toNat else none
  | none => none
/-- The topic with which bytes begin, and how many bytes it has (22.1). -/
def decTp (s : ByteArray) : Option (Sp × Nat) :=
  (txAt s 0).bind fun a => (chAt s.data.toList a.2).bind fun b => (chAt s.data.toList b.2).bind fun c => (chAt s.data.toList c.2).bind fun d => (flagAt s.data.toList d.2).bind fun f =>
  if Sp.may ⟨a.1, b.1, c.1, d.1, decide (f = 1)⟩ then some (⟨a.1, b.1, c.1, d.1, decide (f = 1)⟩, d.2 + 1) else none
theorem chain_small {v : Int} (h0 : 0 ≤ v) (h1 : v < 128) : chain v = [UInt8.ofNat v.toNat] := by
  unfold chain chF
  rw [if_pos h1]
theorem ofNat_small {f : UInt8} (h : f.toNat ≤ 1) : UInt8.ofNat ((f.toNat : Int)).toNat = f := by simp
theorem flag_chain {l : List UInt8} {p f : Nat} (h : flagAt l p = some f) : chAt l p = some ((f : Int), p + 1) ∧ f ≤ 1 := by
  unfold flagAt at h
  cases hl : l[p]? with
  | none => rw [hl] at h; cases h
  | some x =>
    rw [hl] at h
    dsimp only at h
    by_cases hx : x.toNat ≤ 1
    · rw [if_pos hx] at h
      cases h
      have hd : l.drop p = chain (x.toNat : Int) ++ l.drop (p + 1) := by
        obtain ⟨hp, rfl⟩ := List.getElem?_eq_some_iff.1 hl
        rw [chain_small (by omega) (by omega), ofNat_small hx, List.drop_eq_getElem_cons hp]; rfl
      have := chAt_chain hd (by omega) (by omega)
      rw [chain_small (by omega) (by omega)] at this
      exact ⟨this, hx⟩
    · rw [if_neg hx] at h; cases h
theorem chain_flag {l : List UInt8} {p q : Nat} {v : Int} (h : chAt l p = some (v, q)) (hp : p ≤ l.length) (hv : v ≤ 1) : flagAt l p = some v.toNat ∧ q = p + 1 := by
  obtain ⟨h1, h2, h3, h4, h5⟩ := chAt_back h hp
  have h6 := chAt_chain h5 h3 h4
  rw [h] at h6
  rw [chain_small h3 (by omega)] at h5 h6
  simp only [Option.some.injEq, Prod.mk.injEq] at h6
  have hl : l[p]? = some (UInt8.ofNat v.toNat) := by
    have : (l.drop p)[0]? = some (UInt8.ofNat v.toNat) := by rw [h5]; rfl
    rw [List.getElem?_drop] at this
    simpa using this
  refine ⟨?_, by simpa using h6.2⟩
  unfold flagAt
  rw [hl]
  have e : (UInt8.ofNat v.toNat).toNat = v.toNat := by rw [UInt8.toNat_ofNat']; omega
  dsimp only
  rw [e, if_pos (by omega)]
theorem dec_enc {x : Sp} (hx : x.may = true) {s : ByteArray} {t : List UInt8} (h : s.data.toList = encT x ++ t) : decTp s = some (x, (encT x).length) := by
  have hok : x.ok := of_decide_eq_true hx
  obtain ⟨hn, ⟨p0, p1⟩, ⟨a0, a1⟩, ⟨z0, z1⟩⟩ := hok
  have hnm := nameB_split hn
  unfold encT at h
  have h0 : s.data.toList.drop 0 = textL x.nm.data.toList ++ (chain x.parts ++ (chain x.age ++ (chain x.size ++ ([UInt8.ofNat (flagI x.comp).toNat] ++ t)))) := by
    rw [List.drop_zero, h]; simp [List.append_assoc]
  have d1 := drop_end h0
  have d2 := drop_end d1
  have d3 := drop_end d2
  have d4 := drop_end d3
  have hfl : flagAt s.data.toList (0 + (textL x.nm.data.toList).length + (chain x.parts).length + (chain x.age).length + (chain x.size).length) = some (flagI x.comp).toNat := by
    have hg : s.data.toList[0 + (textL x.nm.data.toList).length + (chain x.parts).length + (chain x.age).length + (chain x.size).length]? = some (UInt8.ofNat (flagI x.comp).toNat) := by
      have e9 := List.getElem?_drop (xs := s.data.toList) (i := 0 + (textL x.nm.data.toList).length + (chain x.parts).length + (chain x.age).length + (chain x.size).length) (j := 0)
      rw [d4, Nat.add_zero] at e9
      rw [← e9]; rfl
    unfold flagAt
    rw [hg]
    cases x.comp <;> rfl
  unfold decTp
  rw [txAt_text h0 (by omega), Option.bind_some]
  dsimp only
  rw [chAt_chain d1 (by omega) (by omega), Option.bind_some]
  dsimp only
  rw [chAt_chain d2 a0 (by omega), Option.bind_some]
  dsimp only
  rw [chAt_chain d3 z0 (by omega), Option.bind_some]
  dsimp only
  rw [hfl, Option.bind_some]
  have hc : decide ((flagI x.comp).toNat = 1) = x.comp := by cases x.comp <;> rfl
  rw [hc, if_pos hx]
  unfold encT
  simp only [List.length_append, List.length_singleton, Option.some.injEq, Prod.mk.injEq, true_and]
  omega
theorem encT_len {x : Sp} (hx : x.may = true) : (encT x).length ≤ 100 := by
  have hok : x.ok := of_decide_eq_true hx
  obtain ⟨hn, _, _, _⟩ := hok
  have hnm := nameB_split hn
  have h1 := (chF_length 9 x.parts).2
  have h2 := (chF_length 9 x.age).2
  have h3 := (chF_length 9 x.size).2
  have h4 := (chF_length 9 (x.nm.data.toList.length : Int)).2
  have h5 : x.nm.data.toList.length = x.nm.size := by simp
  have e1 : (chain x.parts).length ≤ 10 := h1
  have e2 : (chain x.age).length ≤ 10 := h2
  have e3 : (chain x.size).length ≤ 10 := h3
  have e4 : (chain (x.nm.data.toList.length : Int)).length ≤ 10 := h4
  unfold encT textL
  simp only [List.length_append, List.length_singleton]
  omega
theorem chAt_yes {l : List UInt8} {p q : Nat} {v : Int} (hn : chAt l p = some (v, q)) (hp : p ≤ l.length) : ∃ n : Nat, unch (l.drop p) = (v, (n : Int), 0) ∧ q = p + n ∧ p + n ≤ l.length ∧ 0 ≤ v ∧ v < 18446744073709551616 := by
  obtain ⟨a1, a2, a3, a4, _⟩ := chAt_back hn hp
  unfold chAt at hn
  obtain ⟨f0, f1, hf⟩ := unch_facts (l.drop p)
  obtain ⟨a, n, e, hU⟩ : ∃ v n x, unch (l.drop p) = (v, n, x) := ⟨_, _, _, rfl⟩
  rw [hU] at hn hf ⊢
  dsimp only at hn hf
  by_cases he : e = 0
  · subst he
    rw [if_pos rfl] at hn
    simp only [Option.some.injEq, Prod.mk.injEq] at hn
    obtain ⟨rfl, rfl⟩ := hn
    rcases hf with ⟨_, hn1, _⟩ | ⟨hx, _⟩
    · exact ⟨n.toNat, by rw [Int.toNat_of_nonneg (by omega)], rfl, by omega, a3, a4⟩
    · exact absurd rfl hx
  · rw [if_neg he] at hn; cases hn
theorem chAt_no {l : List UInt8} {p : Nat} (hn : chAt l p = none) : ∃ e : Int, unch (l.drop p) = (0, 0, e) ∧ e ≠ 0 := by
  unfold chAt at hn
  obtain ⟨f0, f1, hf⟩ := unch_facts (l.drop p)
  obtain ⟨a, n, e, hU⟩ : ∃ v n x, unch (l.drop p) = (v, n, x) := ⟨_, _, _, rfl⟩
  rw [hU] at hn hf ⊢
  dsimp only at hn hf
  by_cases he : e = 0
  · rw [if_pos he] at hn; cases hn
  · rcases hf with ⟨h, _⟩ | ⟨_, h1, h2, _⟩
    · exact absurd h he
    · exact ⟨e, by rw [h1, h2], he⟩
theorem txAt_yes {s x : ByteArray} {q : Nat} (hn : txAt s 0 = some (x, q)) : untx (s.extract 0 s.size) = (x, (q : Int), 0) ∧ q ≤ s.size := by
  obtain ⟨a1, a2, _⟩ := txAt_back hn (Nat.zero_le _)
  unfold txAt at hn
  obtain ⟨a, n, e, hU⟩ : ∃ v n x, untx (s.extract 0 s.size) = (v, n, x) := ⟨_, _, _, rfl⟩
  rw [hU] at hn ⊢
  dsimp only at hn
  by_cases he : e = 0
  · subst he
    rw [if_pos rfl] at hn
    simp only [Option.some.injEq, Prod.mk.injEq, Nat.zero_add] at hn
    obtain ⟨rfl, rfl⟩ := hn
    obtain ⟨h1, h2, h3⟩ := untx_back _ _ _ hU
    exact ⟨by rw [Int.toNat_of_nonneg (by omega)], a2⟩
  · rw [if_neg he] at hn; cases hn
theorem txAt_no {s : ByteArray} (hn : txAt s 0 = none) : ∃ (x : ByteArray) (n e : Int), untx (s.extract 0 s.size) = (x, n, e) ∧ e ≠ 0 := by
  unfold txAt at hn
  obtain ⟨a, n, e, hU⟩ : ∃ v n x, untx (s.extract 0 s.size) = (v, n, x) := ⟨_, _, _, rfl⟩
  rw [hU] at hn
  dsimp only at hn
  by_cases he : e = 0
  · rw [if_pos he] at hn; cases hn
  · exact ⟨a, n, e, hU, he⟩
theorem ext_all (s : ByteArray) : s.extract 0 s.size = s := ByteArray.extract_zero_size
end Go.Proofs.Ytnekiiahgidkoaa.W
end
section
namespace Go.Proofs.Ytnekiiahgidkoaa.W
open Go.RowKit Go.Sort
open Go.Proofs.Ytnekiiahgidkoaa.M Go.Proofs.Ytnekiiahgidkoaa.D Go.Proofs.Ytnekiiahgidkoaa.Z
set_option linter.unusedVariables false
set_option linter.unusedSimpArgs false

theorem cat_enc (nm : ByteArray) (pa ag sz : Int) (b : UInt8) : B (textL nm.data.toList) ++ B (chain pa) ++ B (chain ag) ++ B (chain sz) ++ B [b] = B (textL nm.data.toList ++ (chain pa ++ (chain ag ++ (chain sz ++ [b])))) := by
  simp only [B_append, List.append_assoc]
theorem small_B {nm : ByteArray} {pa ag sz : Int} (hnm : nm.size ≤ 12) : (B (textL nm.data.toList)).size ≤ 30 ∧ (B (chain pa)).size ≤ 10 ∧ (B (chain ag)).size ≤ 10 ∧ (B (chain sz)).size ≤ 10 := by
  have h4 : (chain (nm.data.toList.length : Int)).length ≤ 10 := (chF_length 9 _).2
  have h5 : nm.data.toList.length = nm.size := by simp
  refine ⟨?_, chF_size 9 _, chF_size 9 _, chF_size 9 _⟩
  rw [B_size]
  unfold textL
  rw [List.length_append]
  omega
end Go.Proofs.Ytnekiiahgidkoaa.W
end
