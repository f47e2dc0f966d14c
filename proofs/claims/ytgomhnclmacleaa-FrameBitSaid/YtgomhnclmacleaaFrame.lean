/- The walks of package frame. -/
import Derived.Test.YtgomhnclmacleaaProg
import Derived.Test.YtgomhnclmacleaaFrameM
import Derived.Test.YtgomhnclmacleaaFixed
import Derived.Test.YtgomhnclmacleaaSumObj
import Derived.Test.YtgomhnclmacleaaWorld
import Derived.Test.YtgomhnclmacleaaOpen
import Derived.ProofKit
import Derived.OpenShut
import Derived.Below
import Derived.Outline
import Derived.Lib.Hide
import Derived.Deep.RegionHeld3
namespace Go.Proofs.Ytgomhnclmacleaa.W
open Go.RowKit
open Go.Proofs.Ytgomhnclmacleaa.M
set_option linter.unusedVariables false

theorem frFixed_any (a n : Int) (w : World) (h0 : 0 ≤ a) (h1 : a < 18446744073709551616) (hf : fitsB a n = true) :
    Calls Try.prog 71 #[.int .u64 a, .int .i64 n] w fun e w' => e = .returned (.string (B (fx a n.toNat))) ∧ Below w.heap.size w w' := by
  replace hf := Lib.hid hf
  go_enter Try.func71, Try.ntmps71
  go_wp2_with (go_at_call 82; refine (fixed_yes a n _ h0 h1 hf.out).mono ?_; rintro e w' ⟨rfl, hb⟩)
  go_ret
  exact ⟨rfl, hb⟩

theorem isPlace_any (a : Int) (w : World) :
    Calls Try.prog 70 #[.int .i64 a] w fun e w' => e = .returned (.bool (decide (1 ≤ a) && decide (a < 16))) ∧ w = w' := by
  by_cases h : 1 ≤ a
  · by_cases h2 : a < 16
    · go_enter Try.func70, Try.ntmps70
      go_wp2
      go_ret
      exact ⟨ret_bool (by rw [Bool.eq_iff_iff]; simp; omega), rfl⟩
    · go_enter Try.func70, Try.ntmps70
      go_wp2
      go_ret
      exact ⟨ret_bool (by rw [Bool.eq_iff_iff]; simp; omega), rfl⟩
  · go_enter Try.func70, Try.ntmps70
    go_wp2
    go_ret
    exact ⟨ret_bool (by rw [Bool.eq_iff_iff]; simp; omega), rfl⟩

theorem summed_any (b : Nat) (ss : List ByteArray) (w : World) (hcell : ∀ k, k < 4 → w.cell? ⟨b, k, none⟩ = some (.string (ss.getD k ByteArray.empty))) (hsz : ∀ k, k < 4 → (ss.getD k ByteArray.empty).size ≤ 1000000) :
    Calls Try.prog 83 #[.slice (some ⟨b, 0, none⟩) 4 4] w fun e w' => e = .returned (.int .u32 (crc 0 (cats ss 4) : Nat)) ∧ Below w.heap.size w w' := by
  have hcells : ∀ k, k < 4 → ∀ c : Nat, (w.alloc (.cells #[.int .u32 (c : Int)] 146)).cell? ⟨b, k, none⟩ = some (.string (ss.getD k ByteArray.empty)) := by
    intro k hk c
    rw [World.cell?_alloc_lt _ _ _ (cell_lt (hcell k hk))]; exact hcell k hk
  replace hcells := Lib.hid hcells
  replace hsz := Lib.hid hsz
  clear hcell
  have hz0 := Lib.hid (show 0 = crc 0 (cats ss 0) from (crc_nil 0 (by omega)).symm)
  go_enter Try.func83, Try.ntmps83
  go_wp2_with (go_at_call 88; refine (sumNew_any 0 _).mono ?_; rintro e w1 ⟨rfl, rfl⟩)
  go_loopw [9] (fun i wr => ∃ k : Nat, k ≤ 4 ∧ i = .int .i64 k ∧ wr = w.alloc (.cells #[.int .u32 (crc 0 (cats ss k) : Nat)] 146)) (fun i _ => 4 - (intOf i).toNat)
  case atStart => exact ⟨0, by omega, rfl, by rw [← hz0.out]; rfl⟩
  case round =>
    obtain ⟨k, hk, rfl, rfl⟩ := hrel
    have hcl := crc_lt 0 (cats ss k)
    obtain ⟨c, hc⟩ : ∃ c, Hid (crc 0 (cats ss k) = c) := ⟨_, Lib.hid rfl⟩
    have happ := Lib.hid (crc_append 0 (by omega) (cats ss k) (ss.getD k ByteArray.empty).data.toList)
    rw [hc.out] at hcl ⊢
    by_cases hlt : k < 4
    · have hcell := hcells.out k hlt c
      have hs1 := hsz.out k hlt
      have hnew := Lib.hid (show crc 0 (cats ss (k + 1)) = crc c (ss.getD k ByteArray.empty).data.toList from by rw [← hc.out, ← happ.out]; rfl)
      obtain ⟨s, hs⟩ : ∃ s, Hid (ss.getD k ByteArray.empty = s) := ⟨_, Lib.hid rfl⟩
      rw [hs.out] at hcell hs1 hnew
      go_wp2_with fail
      refine (sumAdd_any c hcl s (by omega) w).mono ?_
      rintro e w1 ⟨rfl, rfl⟩
      go_wp2_with fail
      go_roundw
      case rel => exact ⟨k + 1, by omega, by go_num, by rw [hnew.out]⟩
      case measure => simp [intOf]; omega
    · obtain rfl : k = 4 := by omega
      go_wp2_with fail
      refine (sumValue_any c w).mono ?_
      rintro e w1 ⟨rfl, rfl⟩
      go_wp2_with fail
      go_ret
      exact ⟨ret_int (by rw [hc.out]), (Below.refl _ _).alloc (Nat.le_refl _) _⟩

theorem frSize_any (k : Int) (p : ByteArray) (w : World) (hp : p.size ≤ 1000000) :
    Calls Try.prog 42 #[.agg #[.int .i64 k, .string p]] w fun e w' => e = .returned (.int .i64 ((p.size : Int) + 7)) ∧ Below w.heap.size w w' := by
  go_enter Try.func42, Try.ntmps42
  go_wp2
  go_ret
  exact ⟨rfl, (Below.refl _ _).alloc (Nat.le_refl _) _⟩

theorem sumOf_any (st pl : Int) (cnt body : ByteArray) (w : World) (h0 : 0 ≤ st) (h1 : st < 4294967296) (p0 : 1 ≤ pl) (p1 : pl < 16) (hc : cnt.size ≤ 100) (hb : body.size ≤ 100000) :
    Calls Try.prog 72 #[.int .u32 st, .int .i64 pl, .string cnt, .string body] w fun e w' => e = .returned (.string (B (sumF st pl cnt.data.toList body.data.toList))) ∧ Below w.heap.size w w' := by
  have f1 := Lib.hid (fits_small st 4 (by show st / 4294967296 = 0; omega) (by omega) (by omega))
  have f2 := Lib.hid (fits_small pl 2 (by show pl / 65536 = 0; omega) (by omega) (by omega))
  have z1 := fx_size st 4
  have z2 := fx_size pl 2
  have hcl := crc_lt 0 (sumB st pl cnt.data.toList body.data.toList)
  have f3 := Lib.hid (fits_small (crc 0 (sumB st pl cnt.data.toList body.data.toList) : Nat) 4 (by show _ / 4294967296 = 0; omega) (by omega) (by omega))
  have hcat := Lib.hid (show cats [B (fx st 4), B (fx pl 2), cnt, body] 4 = sumB st pl cnt.data.toList body.data.toList from by simp [cats, sumB, B_data])
  go_enter Try.func72, Try.ntmps72
  go_wp2_with fail
  refine (frFixed_any st 4 _ h0 (by omega) f1.out).mono ?_
  rintro e w1 ⟨rfl, hb1⟩
  go_wp2_with fail
  refine (frFixed_any pl 2 _ (by omega) (by omega) f2.out).mono ?_
  rintro e w2 ⟨rfl, hb2⟩
  go_wp2_with fail
  refine (summed_any w2.heap.size [B (fx st 4), B (fx pl 2), cnt, body] _ ?_ ?_).mono ?_
  · intro k hk
    rw [World.cell?_alloc_new]
    match k, hk with
    | 0, _ => rfl
    | 1, _ => rfl
    | 2, _ => rfl
    | 3, _ => rfl
  · intro k hk
    match k, hk with
    | 0, _ => show (B (fx st 4)).size ≤ _; omega
    | 1, _ => show (B (fx pl 2)).size ≤ _; omega
    | 2, _ => show cnt.size ≤ _; omega
    | 3, _ => show body.size ≤ _; omega
  rintro e w3 ⟨rfl, hb3⟩
  rw [hcat.out]
  go_wp2_with fail
  refine (frFixed_any _ 4 _ (by omega) (by omega) f3.out).mono ?_
  rintro e w4 ⟨rfl, hb4⟩
  go_wp2_with fail
  go_ret
  exact ⟨rfl, grew (grew (grewAlloc (grew hb1 hb2) _) hb3) hb4⟩
end Go.Proofs.Ytgomhnclmacleaa.W
