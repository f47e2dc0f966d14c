/- What a lattice that was made tells: joins, meets, labels above and below, the top and the bottom. -/
import Derived.Test.YtbhbiejaneencaaProg
import Derived.Test.YtbhbiejaneencaaMade
namespace Go.Proofs.Ytbhbiejaneencaa.L
open Go.RowKit
set_option linter.unusedVariables false

theorem Full.below {w w' : World} {p n : Nat} {F : Nat → Nat → Bool} (h : Full w p n F) (hb : Below w.heap.size w w') : Full w' p n F :=
  ⟨h.lat.below hb h.lat.lt, let ⟨J, D, h1, h2, h3⟩ := h.joins; ⟨J, D, keepCell hb h1, h2.kept (grownOf hb none) (by simp), h3⟩, let ⟨J, D, h1, h2, h3⟩ := h.meets; ⟨J, D, keepCell hb h1, h2.kept (grownOf hb none) (by simp), h3⟩⟩

theorem numD_inj {c : Nat} {c' : Int} (h : numD c = .lit (.int .i64 c')) : c' = c := by
  injection h with h
  injection h with _ h
  exact h.symm
section
variable (p n a b c : Nat) (F : Nat → Nat → Bool) (w : World)
theorem join_in (h : Full w p n F) (ha : a < n) (hb : b < n) (hc : near n F a b = some c) :
    Calls Try.prog 38 #[.pointer (some ⟨p, 0, none⟩), .int .i64 a, .int .i64 b] w fun e w' => e = .returned (.tuple #[.int .i64 c, .int .i64 0]) ∧ w = w' := by
  have hs := h.lat.small
  obtain ⟨J, D, hcell, hown, htold⟩ := h.joins
  have hat := Lib.hid (htold.tells a b c ha hb (by have := Nat.mul_le_mul_right n (show a + 1 ≤ n from ha); rw [Nat.succ_mul] at this; omega) hc (.lit (.int .i64 0)))
  have hkey := kl_of (a := a) (b := b) (by omega) (by omega)
  unfold pairV at hkey
  replace hkey := Lib.hid hkey
  clear hc htold
  go_enter Try.func38, Try.ntmps38
  go_wp2_with fail
  refine (pair_in p n a b F _ h.lat ha hb).mono ?_
  rintro e w1 ⟨rfl, rfl⟩
  go_wp2_with (at_lookup; refine stopHere ?_)
  refine Lib.hid ?_
  refine wpList_lookup_own_int _ rfl _ _ 101 rfl 107 3 .i64 pairLaw Try.underlying101 Try.underlying3 (zeroInt _) J (n * n) D rfl hown _ _ rfl hkey.out ?_
  intro c' hat' hwf
  rw [hat.out] at hat'
  obtain rfl := numD_inj hat'
  clear hat' hat
  go_wp2_with fail
  go_ret2
  exact ⟨rfl, rfl⟩
theorem meet_in (h : Full w p n F) (ha : a < n) (hb : b < n) (hc : near n (turn F) a b = some c) :
    Calls Try.prog 39 #[.pointer (some ⟨p, 0, none⟩), .int .i64 a, .int .i64 b] w fun e w' => e = .returned (.tuple #[.int .i64 c, .int .i64 0]) ∧ w = w' := by
  have hs := h.lat.small
  obtain ⟨J, D, hcell, hown, htold⟩ := h.meets
  have hat := Lib.hid (htold.tells a b c ha hb (by have := Nat.mul_le_mul_right n (show a + 1 ≤ n from ha); rw [Nat.succ_mul] at this; omega) hc (.lit (.int .i64 0)))
  have hkey := kl_of (a := a) (b := b) (by omega) (by omega)
  unfold pairV at hkey
  replace hkey := Lib.hid hkey
  clear hc htold
  go_enter Try.func39, Try.ntmps39
  go_wp2_with fail
  refine (pair_in p n a b F _ h.lat ha hb).mono ?_
  rintro e w1 ⟨rfl, rfl⟩
  go_wp2_with (at_lookup; refine stopHere ?_)
  refine Lib.hid ?_
  refine wpList_lookup_own_int _ rfl _ _ 101 rfl 107 3 .i64 pairLaw Try.underlying101 Try.underlying3 (zeroInt _) J (n * n) D rfl hown _ _ rfl hkey.out ?_
  intro c' hat' hwf
  rw [hat.out] at hat'
  obtain rfl := numD_inj hat'
  clear hat' hat
  go_wp2_with fail
  go_ret2
  exact ⟨rfl, rfl⟩
end
section
variable (p n : Nat) (a b : Int) (F : Nat → Nat → Bool) (w : World)
theorem join_out (h : Lat w p n F) (ho : a < 0 ∨ n ≤ a ∨ b < 0 ∨ n ≤ b) :
    Calls Try.prog 38 #[.pointer (some ⟨p, 0, none⟩), .int .i64 a, .int .i64 b] w fun e w' => e = .returned (.tuple #[.int .i64 0, .int .i64 1]) ∧ w = w' := by
  replace ho := Lib.hid ho
  go_enter Try.func38, Try.ntmps38
  go_wp2_with fail
  refine (pair_out p n a b F _ h ho.out).mono ?_
  rintro e w1 ⟨rfl, rfl⟩
  go_wp2_with fail
  go_ret2
  exact ⟨rfl, rfl⟩
theorem meet_out (h : Lat w p n F) (ho : a < 0 ∨ n ≤ a ∨ b < 0 ∨ n ≤ b) :
    Calls Try.prog 39 #[.pointer (some ⟨p, 0, none⟩), .int .i64 a, .int .i64 b] w fun e w' => e = .returned (.tuple #[.int .i64 0, .int .i64 1]) ∧ w = w' := by
  replace ho := Lib.hid ho
  go_enter Try.func39, Try.ntmps39
  go_wp2_with fail
  refine (pair_out p n a b F _ h ho.out).mono ?_
  rintro e w1 ⟨rfl, rfl⟩
  go_wp2_with fail
  go_ret2
  exact ⟨rfl, rfl⟩
theorem join_nil : Calls Try.prog 38 #[.pointer none, .int .i64 a, .int .i64 b] w fun e w' => e = .returned (.tuple #[.int .i64 0, .int .i64 7]) ∧ w = w' := by
  go_enter Try.func38, Try.ntmps38
  go_wp2_with fail
  refine (pair_nil a b _).mono ?_
  rintro e w1 ⟨rfl, rfl⟩
  go_wp2_with fail
  go_ret2
  exact ⟨rfl, rfl⟩
theorem meet_nil : Calls Try.prog 39 #[.pointer none, .int .i64 a, .int .i64 b] w fun e w' => e = .returned (.tuple #[.int .i64 0, .int .i64 7]) ∧ w = w' := by
  go_enter Try.func39, Try.ntmps39
  go_wp2_with fail
  refine (pair_nil a b _).mono ?_
  rintro e w1 ⟨rfl, rfl⟩
  go_wp2_with fail
  go_ret2
  exact ⟨rfl, rfl⟩
end

theorem beside_in (g p n a : Nat) (F R : Nat → Nat → Bool) (w : World) (hB : Beyond g p n F R) (h : Lat w p n F) (ha : a < n) :
    Calls Try.prog 71 #[.pointer (some ⟨p, 0, none⟩), .int .i64 a, .func (.func g) #[.pointer (some ⟨p, 0, none⟩)] #[]] w (Told_ w (pick n (R a))) := by
  have hs := h.small
  have hp := h.lt
  have eg := hB.enter
  have ht := Lib.hid hB.tells
  obtain ⟨i0, hi0, hz0, hz1, hz2⟩ := info_parts infoInt
  go_enter Try.func71, Try.ntmps71
  go_wp2_with fail
  refine (size_any p n F _ h).mono ?_
  rintro e w1 ⟨rfl, rfl⟩
  go_wp2_with fail
  go_loopg [7, 11] n (fun g v i wr => ∃ k : Nat, k ≤ n ∧ n ≤ k + g ∧ i = .int .i64 k ∧ wr.ownsRow w.heap.size 3 1 v (pick k (R a)).length ((pick k (R a)).map iv) ∧ Below w.heap.size w wr)
  case atStart => exact ⟨0, by omega, by omega, rfl, World.ownsRow_nil _ _ _ _, Below.refl _ _⟩
  case round =>
    obtain ⟨k, hk, hg, rfl, hown, hbel⟩ := hrel
    by_cases hlt : k < n
    · have hL := h.below hbel hp
      have hlen := pick_len k (R a)
      have hsz := hbel.size
      replace hown := Lib.hid hown
      go_wp2_with fail
      refine (ht.out a k _ ha hlt hL).mono ?_
      rintro e w1 ⟨rfl, rfl⟩
      cases g1 : R a k
      · have hp := Lib.hid (show pick (k + 1) (R a) = pick k (R a) by rw [pick_succ, g1]; simp)
        replace g1 := Lib.hid g1
        go_wp2_with fail
        go_roundg (gk - 1)
        case measure => omega
        case rel => exact ⟨k + 1, by omega, by omega, by go_num, by rw [hp.out]; exact hown.out, hbel⟩
      · have hp := Lib.hid (show pick (k + 1) (R a) = pick k (R a) ++ [k] by rw [pick_succ, g1]; simp)
        replace g1 := Lib.hid g1
        go_wp2_with (at_builtin; refine stopHere' ?_)
        refine Lib.hid ?_
        refine wpList_append_own _ rfl _ _ 70 rfl w.heap.size 3 i0 (.int .i64 0) 1 8 Try.underlying70 hi0 hz0 hz1 hz2 rfl (by decide) _ _ _ rfl (hown.out.alloc _) ⟨wr.heap.size, 0, none⟩ 1 1 [iv k] rfl rfl (cell_one_new _ _ _) (fun x hx => by simp at hx; subst hx; rfl) (by unfold maxLen; omega) (by omega) (by simp; omega) ?_
        intro v' w1 hown1 hgrow1 _
        have hbel1 := (hbel.alloc hbel.size (.cells #[iv k] 3)).grown hgrow1 (by simp; omega) (fun j hj => (hown.out.lt j hj).1)
        replace hown1 := Lib.hid hown1
        clear hgrow1
        go_wp2_with fail
        go_roundg (gk - 1)
        case measure => omega
        case rel => exact ⟨k + 1, by omega, by omega, by go_num, by rw [hp.out]; simpa using hown1.out, hbel1⟩
    · obtain rfl : k = n := by omega
      go_wp2_with fail
      go_ret
      obtain ⟨A, c, rfl, hints⟩ := Ints.of_own hown
      exact ⟨A, c, rfl, hints, hbel⟩
theorem above_in (p n a : Nat) (F : Nat → Nat → Bool) (w : World) (h : Lat w p n F) (ha : a < n) :
    Calls Try.prog 44 #[.pointer (some ⟨p, 0, none⟩), .int .i64 a] w (Told_ w (pick n (F a))) := by
  go_enter Try.func44, Try.ntmps44
  go_wp2_with fail
  refine (beside_in _ p n a F F _ (beyond_flows _ _ _) h ha).mono ?_
  rintro e w1 ⟨A, c, rfl, hi, hb⟩
  go_wp2_with fail
  go_ret
  exact ⟨A, c, rfl, hi, hb⟩
theorem below_in (p n a : Nat) (F : Nat → Nat → Bool) (w : World) (h : Lat w p n F) (ha : a < n) :
    Calls Try.prog 46 #[.pointer (some ⟨p, 0, none⟩), .int .i64 a] w (Told_ w (pick n (turn F a))) := by
  go_enter Try.func46, Try.ntmps46
  go_wp2_with fail
  refine (beside_in _ p n a F (turn F) _ (beyond_comes _ _ _) h ha).mono ?_
  rintro e w1 ⟨A, c, rfl, hi, hb⟩
  go_wp2_with fail
  go_ret
  exact ⟨A, c, rfl, hi, hb⟩
end Go.Proofs.Ytbhbiejaneencaa.L
