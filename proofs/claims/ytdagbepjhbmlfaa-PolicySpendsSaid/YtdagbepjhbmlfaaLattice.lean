/- The lattice: what its object is in memory, and the walks of its small methods. -/
import Derived.Test.YtdagbepjhbmlfaaProg
import Derived.Test.YtdagbepjhbmlfaaLatMath
import Derived.Deep.LoopGhost
import Derived.ProofKit
import Derived.OpenShut
import Derived.Below
import Derived.Outline
import Derived.Lib.Hide
import Derived.WalkSpells
import Derived.WalkLawsBesides
import Derived.Deep.RegionWith
namespace Go.Proofs.Ytdagbepjhbmlfaa.L
open Go.RowKit
set_option linter.unusedVariables false

/-- Does the object at block p tell the table F of n labels? -/
structure Lat (w : World) (p n : Nat) (F : Nat → Nat → Bool) : Prop where
  small : n ≤ 6
  size : w.cell? ⟨p, 0, none⟩ = some (.int .i64 n)
  flows : ∀ a b, a < n → b < n → w.cell? ⟨p, 1 + a * 6 + b, none⟩ = some (.bool (F a b))
def hasB (n : Nat) (a : Int) : Bool := decide (0 ≤ a) && decide (a < n)
def flowsB (n : Nat) (F : Nat → Nat → Bool) (a b : Int) : Bool := hasB n a && (hasB n b && F a.toNat b.toNat)

theorem size_any (p n : Nat) (F : Nat → Nat → Bool) (w : World) (h : Lat w p n F) :
    Calls Try.prog 91 #[.pointer (some ⟨p, 0, none⟩)] w fun e w' => e = .returned (.int .i64 n) ∧ w = w' := by
  have h0 := h.size
  have hs := h.small
  clear h
  go_enter Try.func91, Try.ntmps91
  go_wp2
  go_ret
  exact ⟨rfl, rfl⟩
theorem size_nil (w : World) :
    Calls Try.prog 91 #[.pointer none] w fun e w' => e = .returned (.int .i64 0) ∧ w = w' := by
  go_enter Try.func91, Try.ntmps91
  go_wp2
  go_ret
  exact ⟨rfl, rfl⟩

theorem has_yes (p n : Nat) (F : Nat → Nat → Bool) (a : Int) (w : World) (h : Lat w p n F) (h0 : 0 ≤ a) (h1 : a < n) :
    Calls Try.prog 87 #[.pointer (some ⟨p, 0, none⟩), .int .i64 a] w fun e w' => e = .returned (.bool true) ∧ w = w' := by
  have hs := h.small
  go_enter Try.func87, Try.ntmps87
  go_wp2_with (go_at_call 91; refine (size_any p n F _ h).mono ?_; rintro e w1 ⟨rfl, rfl⟩)
  go_ret
  exact ⟨rfl, rfl⟩
theorem has_no (p n : Nat) (F : Nat → Nat → Bool) (a : Int) (w : World) (h : Lat w p n F) (h0 : a < 0 ∨ n ≤ a) :
    Calls Try.prog 87 #[.pointer (some ⟨p, 0, none⟩), .int .i64 a] w fun e w' => e = .returned (.bool false) ∧ w = w' := by
  have hs := h.small
  by_cases h1 : a < 0
  · go_enter Try.func87, Try.ntmps87
    go_wp2_with (go_at_call 91; refine (size_any p n F _ h).mono ?_; rintro e w1 ⟨rfl, rfl⟩)
    go_ret
    exact ⟨rfl, rfl⟩
  · have h2 : 0 ≤ a := by omega
    have h3 : n ≤ a := by omega
    have hd : decide (a < (n : Int)) = false := by simp; omega
    clear h0 h3
    go_enter Try.func87, Try.ntmps87
    go_wp2_with (go_at_call 91; refine (size_any p n F _ h).mono ?_; rintro e w1 ⟨rfl, rfl⟩)
    go_ret
    exact ⟨rfl, rfl⟩
theorem has_any (p n : Nat) (F : Nat → Nat → Bool) (a : Int) (w : World) (h : Lat w p n F) :
    Calls Try.prog 87 #[.pointer (some ⟨p, 0, none⟩), .int .i64 a] w fun e w' => e = .returned (.bool (hasB n a)) ∧ w = w' := by
  by_cases h0 : 0 ≤ a ∧ a < n
  · have : hasB n a = true := by simp [hasB, h0]
    rw [this]; exact has_yes p n F a w h h0.1 h0.2
  · have : hasB n a = false := by simp [hasB]; omega
    rw [this]; exact has_no p n F a w h (by omega)
theorem has_nil (a : Int) (w : World) :
    Calls Try.prog 87 #[.pointer none, .int .i64 a] w fun e w' => e = .returned (.bool false) ∧ w = w' := by
  by_cases h1 : a < 0
  · go_enter Try.func87, Try.ntmps87
    go_wp2_with (go_at_call 91; refine (size_nil _).mono ?_; rintro e w1 ⟨rfl, rfl⟩)
    go_ret
    exact ⟨rfl, rfl⟩
  · have h2 : 0 ≤ a := by omega
    have hd : decide (a < 0) = false := by simp; omega
    go_enter Try.func87, Try.ntmps87
    go_wp2_with (go_at_call 91; refine (size_nil _).mono ?_; rintro e w1 ⟨rfl, rfl⟩)
    go_ret
    exact ⟨rfl, rfl⟩

theorem flows_in (p n a b : Nat) (F : Nat → Nat → Bool) (w : World) (h : Lat w p n F) (ha : a < n) (hb : b < n) :
    Calls Try.prog 74 #[.pointer (some ⟨p, 0, none⟩), .int .i64 a, .int .i64 b] w fun e w' => e = .returned (.bool (F a b)) ∧ w = w' := by
  have hs := h.small
  have hc := h.flows a b (by omega) (by omega)
  go_enter Try.func74, Try.ntmps74
  go_wp2_with fail
  refine (has_yes p n F a _ h (by omega) (by omega)).mono ?_
  rintro e w1 ⟨rfl, rfl⟩
  go_wp2_with fail
  refine (has_yes p n F b _ h (by omega) (by omega)).mono ?_
  rintro e w1 ⟨rfl, rfl⟩
  go_wp2_with fail
  go_ret
  exact ⟨rfl, rfl⟩
theorem ret_bool {a b : Bool} (h : a = b) : Ending.returned (.bool a) = .returned (.bool b) := by rw [h]
theorem ret_i64 {a b : Int} (h : a = b) : Ending.returned (.int .i64 a) = .returned (.int .i64 b) := by rw [h]

theorem flows_any (p n : Nat) (a b : Int) (F : Nat → Nat → Bool) (w : World) (h : Lat w p n F) :
    Calls Try.prog 74 #[.pointer (some ⟨p, 0, none⟩), .int .i64 a, .int .i64 b] w fun e w' => e = .returned (.bool (flowsB n F a b)) ∧ w = w' := by
  cases ha : hasB n a
  · rw [show flowsB n F a b = false by simp [flowsB, ha]]
    have ha' : a < 0 ∨ n ≤ a := by simp [hasB] at ha; omega
    clear ha
    go_enter Try.func74, Try.ntmps74
    go_wp2_with fail
    refine (has_no p n F a _ h ha').mono ?_
    rintro e w1 ⟨rfl, rfl⟩
    go_wp2_with fail
    go_ret
    exact ⟨rfl, rfl⟩
  · have ha' : 0 ≤ a ∧ a < n := by simpa [hasB] using ha
    obtain ⟨a, rfl⟩ := Int.eq_ofNat_of_zero_le ha'.1
    cases hb : hasB n b
    · rw [show flowsB n F a b = false by simp [flowsB, hb]]
      have hb' : b < 0 ∨ n ≤ b := by simp [hasB] at hb; omega
      have ha1 : a < n := by omega
      clear hb ha ha'
      go_enter Try.func74, Try.ntmps74
      go_wp2_with fail
      refine (has_yes p n F a _ h (by omega) (by omega)).mono ?_
      rintro e w1 ⟨rfl, rfl⟩
      go_wp2_with fail
      refine (has_no p n F b _ h hb').mono ?_
      rintro e w1 ⟨rfl, rfl⟩
      go_wp2_with fail
      go_ret
      exact ⟨rfl, rfl⟩
    · have hb' : 0 ≤ b ∧ b < n := by simpa [hasB] using hb
      obtain ⟨b, rfl⟩ := Int.eq_ofNat_of_zero_le hb'.1
      rw [show flowsB n F a b = F a b by simp [flowsB, ha, hb]]
      exact flows_in p n a b F w h (by omega) (by omega)
theorem flows_nil (a b : Int) (w : World) :
    Calls Try.prog 74 #[.pointer none, .int .i64 a, .int .i64 b] w fun e w' => e = .returned (.bool false) ∧ w = w' := by
  go_enter Try.func74, Try.ntmps74
  go_wp2_with fail
  refine (has_nil a _).mono ?_
  rintro e w1 ⟨rfl, rfl⟩
  go_wp2_with fail
  go_ret
  exact ⟨rfl, rfl⟩
theorem comes_in (p n a b : Nat) (F : Nat → Nat → Bool) (w : World) (h : Lat w p n F) (ha : a < n) (hb : b < n) :
    Calls Try.prog 75 #[.pointer (some ⟨p, 0, none⟩), .int .i64 a, .int .i64 b] w fun e w' => e = .returned (.bool (F b a)) ∧ w = w' := by
  go_enter Try.func75, Try.ntmps75
  go_wp2_with fail
  refine (flows_in p n b a F _ h hb ha).mono ?_
  rintro e w1 ⟨rfl, rfl⟩
  go_wp2_with fail
  go_ret
  exact ⟨rfl, rfl⟩
theorem comes_any (p n : Nat) (a b : Int) (F : Nat → Nat → Bool) (w : World) (h : Lat w p n F) :
    Calls Try.prog 75 #[.pointer (some ⟨p, 0, none⟩), .int .i64 a, .int .i64 b] w fun e w' => e = .returned (.bool (flowsB n F b a)) ∧ w = w' := by
  go_enter Try.func75, Try.ntmps75
  go_wp2_with fail
  refine (flows_any p n b a F _ h).mono ?_
  rintro e w1 ⟨rfl, rfl⟩
  go_wp2_with fail
  go_ret
  exact ⟨rfl, rfl⟩

theorem pass_any (p n a b : Nat) (F : Nat → Nat → Bool) (w : World) (h : Lat w p n F) (ha : a < n) (hb : b < n) :
    Calls Try.prog 85 #[.pointer (some ⟨p, 0, none⟩), .int .i64 a, .int .i64 b] w fun e w' => e = .returned (.bool (passB n F a b)) ∧ w = w' := by
  have hs := h.small
  have h0 := h.size
  go_enter Try.func85, Try.ntmps85
  go_wp2_with fail
  go_loopg [12] n (fun g i wr => ∃ k : Nat, k ≤ n ∧ n ≤ k + g ∧ i = .int .i64 k ∧ Hid (∀ j, j < k → (!(F b j) || F a j) = true) ∧ w = wr)
  case atStart => exact ⟨0, by omega, by omega, rfl, fun j hj => by omega, rfl⟩
  case round =>
    obtain ⟨k, hk, hg, rfl, hj, rfl⟩ := hrel
    by_cases hkn : k < n
    · have hc1 := h.flows b k (by omega) (by omega)
      have hc2 := h.flows a k (by omega) (by omega)
      cases h1 : F b k <;> rw [h1] at hc1 <;> replace h1 := Lib.hid h1
      · go_wp2_with fail
        go_roundg (gk - 1)
        case measure => omega
        case rel => exact ⟨k + 1, by omega, by omega, by go_num, upto hj.out (by rw [h1.out]; rfl), rfl⟩
      · cases h2 : F a k <;> rw [h2] at hc2 <;> replace h2 := Lib.hid h2
        · have hfin := Lib.hid (show passB n F a b = false from allB_false hkn (by rw [h1.out, h2.out]; rfl))
          go_wp2_with fail
          go_ret
          exact ⟨ret_bool hfin.out.symm, rfl⟩
        · go_wp2_with fail
          go_roundg (gk - 1)
          case measure => omega
          case rel => exact ⟨k + 1, by omega, by omega, by go_num, upto hj.out (by rw [h1.out, h2.out]; rfl), rfl⟩
    · obtain rfl : k = n := by omega
      have hfin := Lib.hid (show passB k F a b = true from allB_true hj.out)
      go_wp2_with fail
      go_ret
      exact ⟨ret_bool hfin.out.symm, rfl⟩

theorem order_any (p n : Nat) (F : Nat → Nat → Bool) (w : World) (h : Lat w p n F) :
    Calls Try.prog 72 #[.pointer (some ⟨p, 0, none⟩)] w fun e w' => e = .returned (.bool (orderB n F)) ∧ w = w' := by
  have hs := h.small
  have h0 := h.size
  go_enter Try.func72, Try.ntmps72
  go_wp2_with fail
  go_loopg [9] n (fun g i wr => ∃ k : Nat, k ≤ n ∧ n ≤ k + g ∧ i = .int .i64 k ∧ Hid (∀ j, j < k → (F j j && allB n (rowB n F j)) = true) ∧ w = wr)
  case atStart => exact ⟨0, by omega, by omega, rfl, fun j hj => by omega, rfl⟩
  case round =>
    obtain ⟨k, hk, hg, rfl, hj, rfl⟩ := hrel
    by_cases hkn : k < n
    · generalize gk = gout at *
      have hc1 := h.flows k k (by omega) (by omega)
      cases h1 : F k k <;> rw [h1] at hc1 <;> replace h1 := Lib.hid h1
      · have hfin := Lib.hid (show orderB n F = false from allB_false hkn (by rw [h1.out]; rfl))
        go_wp2_with fail
        go_ret
        exact ⟨ret_bool hfin.out.symm, rfl⟩
      · go_wp2_with fail
        go_loopg [25] n (fun g i wr => ∃ l : Nat, l ≤ n ∧ n ≤ l + g ∧ i = .int .i64 l ∧ Hid (∀ j, j < l → rowB n F k j = true) ∧ w = wr)
        case atStart => exact ⟨0, by omega, by omega, rfl, fun j hj => by omega, rfl⟩
        case round =>
          obtain ⟨l, hl, hgl, rfl, hjl, rfl⟩ := hrel
          by_cases hln : l < n
          · have hno : rowB n F k l = false → Hid (orderB n F = false) := fun hr => Lib.hid (allB_false hkn (by rw [h1.out, allB_false hln hr]; rfl))
            have hd1 := h.flows k l (by omega) (by omega)
            have hd2 := h.flows l k (by omega) (by omega)
            by_cases hkl : k = l
            · obtain rfl := hkl
              go_wp2_with fail
              go_roundg (gk - 1)
              case measure => omega
              case rel => exact ⟨k + 1, by omega, by omega, by go_num, upto hjl.out (by simp [rowB]), rfl⟩
            · have hne : ((k : Int) != (l : Int)) = true := by rw [bne_iff_ne]; omega
              have hkl2 : (k == l) = false := by simp [hkl]
              replace hkl2 := Lib.hid hkl2
              clear hkl
              cases h2 : F k l <;> rw [h2] at hd1 <;> replace h2 := Lib.hid h2
              · go_wp2_with fail
                go_roundg (gk - 1)
                case measure => omega
                case rel => exact ⟨l + 1, by omega, by omega, by go_num, upto hjl.out (by unfold rowB; rw [h2.out, hkl2.out]; rfl), rfl⟩
              · cases h3 : F l k <;> rw [h3] at hd2 <;> replace h3 := Lib.hid h3
                · go_wp2_with fail
                  refine (pass_any p n k l F _ h hkn hln).mono ?_
                  rintro e w1 ⟨rfl, rfl⟩
                  cases h4 : passB n F k l <;> replace h4 := Lib.hid h4
                  · have hfin := hno (by unfold rowB; rw [h2.out, h3.out, h4.out, hkl2.out]; rfl)
                    go_wp2_with fail
                    go_ret
                    exact ⟨ret_bool hfin.out.symm, rfl⟩
                  · go_wp2_with fail
                    go_roundg (gk - 1)
                    case measure => omega
                    case rel => exact ⟨l + 1, by omega, by omega, by go_num, upto hjl.out (by unfold rowB; rw [h2.out, h3.out, h4.out, hkl2.out]; rfl), rfl⟩
                · have hfin := hno (by unfold rowB; rw [h2.out, h3.out, hkl2.out]; rfl)
                  go_wp2_with fail
                  go_ret
                  exact ⟨ret_bool hfin.out.symm, rfl⟩
          · obtain rfl : l = n := by omega
            go_wp2_with fail
            go_roundg (gout - 1)
            case measure => omega
            case rel => exact ⟨k + 1, by omega, by omega, by go_num, upto hj.out (by rw [h1.out, allB_true hjl.out]; rfl), rfl⟩
    · obtain rfl : k = n := by omega
      have hfin := Lib.hid (show orderB k F = true from allB_true hj.out)
      go_wp2_with fail
      go_ret
      exact ⟨ret_bool hfin.out.symm, rfl⟩

end Go.Proofs.Ytdagbepjhbmlfaa.L
