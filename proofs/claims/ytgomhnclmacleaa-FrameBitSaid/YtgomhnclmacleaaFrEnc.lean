/- The walk of frame.Encode. -/
import Derived.Test.YtgomhnclmacleaaProg
import Derived.Test.YtgomhnclmacleaaFrame
namespace Go.Proofs.Ytgomhnclmacleaa.W
open Go.RowKit
open Go.Proofs.Ytgomhnclmacleaa.M
set_option linter.unusedVariables false

theorem keepB {w w' : World} (h : Below w.heap.size w w') {a : Addr} {v : Value} (hc : w.cell? a = some v) : w'.cell? a = some v := by
  rw [h.cell (cell_lt hc)]; exact hc

theorem encode_no (st pl k : Int) (p : ByteArray) (w : World) (hp : p.size ≤ 1000000) (hw : wrongF pl k p.size ≠ 0) :
    Calls Try.prog 41 #[.int .u32 st, .int .i64 pl, .agg #[.int .i64 k, .string p]] w fun e w' => e = .returned (.tuple #[.string ⟨#[]⟩, .int .i64 (wrongF pl k p.size)]) ∧ Below w.heap.size w w' := by
  by_cases h1 : k < 1
  · rw [wrongF_arg (.inl h1)]
    clear hw
    go_enter Try.func41, Try.ntmps41
    go_wp2
    go_ret2
    exact ⟨rfl, (Below.refl _ _).alloc (Nat.le_refl _) _⟩
  · have k1 : 1 ≤ k := by omega
    by_cases h2 : 255 < k
    · rw [wrongF_arg (.inr (.inl h2))]
      clear hw
      go_enter Try.func41, Try.ntmps41
      go_wp2
      go_ret2
      exact ⟨rfl, (Below.refl _ _).alloc (Nat.le_refl _) _⟩
    · have k2 : k ≤ 255 := by omega
      by_cases h3 : 1 ≤ pl ∧ pl < 16
      · have h4 : ¬ (k < 1 ∨ 255 < k ∨ ¬ (1 ≤ pl ∧ pl < 16)) := by omega
        by_cases h5 : 773 < p.size
        · rw [wrongF_long h4 h5]
          have hpl := Lib.hid (place_yes h3)
          clear hw h3 h4
          go_enter Try.func41, Try.ntmps41
          go_wp2_with fail
          refine (isPlace_any pl _).mono ?_
          rintro e w1 ⟨rfl, rfl⟩
          rw [hpl.out]
          go_wp2_with fail
          go_ret2
          exact ⟨rfl, (Below.refl _ _).alloc (Nat.le_refl _) _⟩
        · exact absurd (wrongF_no h4 h5) hw
      · rw [wrongF_arg (.inr (.inr h3))]
        have hpl := Lib.hid (place_no h3)
        clear hw h3
        go_enter Try.func41, Try.ntmps41
        go_wp2_with fail
        refine (isPlace_any pl _).mono ?_
        rintro e w1 ⟨rfl, rfl⟩
        rw [hpl.out]
        go_wp2_with fail
        go_ret2
        exact ⟨rfl, (Below.refl _ _).alloc (Nat.le_refl _) _⟩

theorem encode_yes (st pl k : Int) (p : ByteArray) (w : World) (s0 : 0 ≤ st) (s1 : st < 4294967296) (k1 : 1 ≤ k) (k2 : k ≤ 255) (h3 : 1 ≤ pl ∧ pl < 16) (hp : p.size ≤ 773) :
    Calls Try.prog 41 #[.int .u32 st, .int .i64 pl, .agg #[.int .i64 k, .string p]] w fun e w' => e = .returned (.tuple #[.string (B (encF st pl k p.data.toList)), .int .i64 0]) ∧ Below w.heap.size w w' := by
  have hpl := Lib.hid (place_yes h3)
  obtain ⟨p0, p1⟩ := h3
  have f1 := Lib.hid (fits_small k 1 (by show k / 256 = 0; omega) (by omega) (by omega))
  have hlen : p.data.toList.length = p.size := by simp
  have hbz : (B (bodyF k p.data.toList)).size = 1 + p.size := by rw [B_size, bodyF_len, hlen]
  have f2 := Lib.hid (fits_small (((1 + p.size : Nat)) : Int) 2 (by show _ / 65536 = 0; omega) (by omega) (by omega))
  have z1 := fx_size k 1
  have hbody := Lib.hid (show B (fx k 1) ++ p = B (bodyF k p.data.toList) from by
    show B (fx k 1) ++ B p.data.toList = _
    rw [B_append]; rfl)
  have hcz : (B (cntF p.data.toList)).size = 2 := by rw [B_size, cntF_len]
  have hsz : (B (sumF st pl (cntF p.data.toList) (bodyF k p.data.toList))).size = 4 := by rw [B_size, sumF_len]
  have hcnt := Lib.hid (show fx (((1 + p.size : Nat)) : Int) 2 = cntF p.data.toList from by unfold cntF; rw [hlen, Nat.add_comm])
  have henc := Lib.hid (show B (cntF p.data.toList) ++ B (sumF st pl (cntF p.data.toList) (bodyF k p.data.toList)) ++ B (bodyF k p.data.toList) = B (encF st pl k p.data.toList) from by rw [B_append, B_append]; rfl)
  clear hlen
  go_enter Try.func41, Try.ntmps41
  go_wp2_with fail
  refine (isPlace_any pl _).mono ?_
  rintro e w1 ⟨rfl, rfl⟩
  rw [hpl.out]
  go_wp2_with fail
  have x0 : (w.alloc (.cells #[.int .i64 k, .string p] 72)).drew.cell? ⟨w.heap.size, 0, none⟩ = some (.int .i64 k) := by show (w.alloc _).cell? _ = _; simp
  have x1 : (w.alloc (.cells #[.int .i64 k, .string p] 72)).drew.cell? ⟨w.heap.size, 1, none⟩ = some (.string p) := by show (w.alloc _).cell? _ = _; simp
  have hbA : Below w.heap.size w (w.alloc (.cells #[.int .i64 k, .string p] 72)).drew := ((Below.refl _ w).alloc (Nat.le_refl _) _).drew
  have hfx : ∀ W : World, Calls Try.prog 71 #[.int .u64 (IntKind.u64.wrap k), .int .i64 1] W fun e w' => e = .returned (.string (B (fx k 1))) ∧ Below W.heap.size W w' := fun W => by
    rw [wrap_low k (by omega) (by omega)]
    exact frFixed_any k 1 W (by omega) (by omega) f1.out
  replace hfx := Lib.hid hfx
  have hsm : ¬ 9223372036854775807 < 1 + p.size := by omega
  replace hbA := Lib.hid hbA
  go_region_held3 (fun w' => w'.cell? ⟨w.heap.size, 0, none⟩ = some (.int .i64 k) ∧ w'.cell? ⟨w.heap.size, 1, none⟩ = some (.string p)) (go_keep) (first
    | (go_at_call 71; (with_reducible refine (hfx.out _).mono ?_); rintro e w5 ⟨rfl, hb5⟩; have y0 := keepB hb5 x0; have y1 := keepB hb5 x1))
  rw [hbody.out]
  have hb6 := Lib.hid (hbA.out.trans (hb5.mono hbA.out.size))
  clear x0 x1 y0 y1 hb5 hbA hfx hsm
  go_wp2_with fail
  refine (frFixed_any _ 2 _ (by omega) (by omega) f2.out).mono ?_
  rintro e w7 ⟨rfl, hb7⟩
  rw [show (2 : Int).toNat = 2 from rfl, hcnt.out]
  go_wp2_with fail
  refine (sumOf_any st pl _ _ _ s0 s1 p0 p1 (by omega) (by omega)).mono ?_
  rintro e w8 ⟨rfl, hb8⟩
  rw [B_data, B_data]
  go_wp2_with fail
  go_ret2
  exact ⟨ret_two (val_str henc.out) rfl, grew (grew hb6.out hb7) hb8⟩
end Go.Proofs.Ytgomhnclmacleaa.W
