/- The walks of package frame. The walk of frame.Encode. The walk of frame.Decode. The walk of the small case that each law of layer 8 asks. -/
import Derived.Test.YtgogackkeodciabGreatDoorProg
import Derived.Test.YtgogackkeodciabGreatDoorFrameM
import Derived.Test.YtgogackkeodciabGreatDoorFixed
import Derived.Test.YtgogackkeodciabGreatDoorCrc
import Derived.Test.YtgogackkeodciabGreatDoorWorld
import Derived.Test.YtgogackkeodciabGreatDoorOpen
import Derived.ProofKit
import Derived.OpenShut
import Derived.Below
import Derived.Outline
import Derived.Lib.Hide
import Derived.Deep.RegionHeld3
import Derived.Test.YtgogackkeodciabGreatDoorFlat
import Derived.Test.YtgogackkeodciabGreatDoorStops
import Derived.Test.YtgogackkeodciabGreatDoorShelf
import Derived.Deep.QuietTactic
import Derived.BigQuiet
section
namespace Go.Proofs.YtgogackkeodciabGreatDoor.W
open Go.RowKit
open Go.Proofs.YtgogackkeodciabGreatDoor.M
set_option linter.unusedVariables false

theorem frFixed_any (a n : Int) (w : World) (h0 : 0 ≤ a) (h1 : a < 18446744073709551616) (hf : fitsB a n = true) :
    Calls Tryz.prog 102 #[.int .u64 a, .int .i64 n] w fun e w' => e = .returned (.string (B (fx a n.toNat))) ∧ Below w.heap.size w w' := by
  replace hf := Lib.hid hf
  go_enter Tryz.func102, Tryz.ntmps102
  go_wp2_with (go_at_call 97; refine (fixed_yes a n _ h0 h1 hf.out).mono ?_; rintro e w' ⟨rfl, hb⟩)
  go_ret
  exact ⟨rfl, hb⟩

theorem isPlace_any (a : Int) (w : World) :
    Calls Tryz.prog 101 #[.int .i64 a] w fun e w' => e = .returned (.bool (decide (1 ≤ a) && decide (a < 16))) ∧ w = w' := by
  by_cases h : 1 ≤ a
  · by_cases h2 : a < 16
    · go_enter Tryz.func101, Tryz.ntmps101
      go_wp2
      go_ret
      exact ⟨ret_bool (by rw [Bool.eq_iff_iff]; simp; omega), rfl⟩
    · go_enter Tryz.func101, Tryz.ntmps101
      go_wp2
      go_ret
      exact ⟨ret_bool (by rw [Bool.eq_iff_iff]; simp; omega), rfl⟩
  · go_enter Tryz.func101, Tryz.ntmps101
    go_wp2
    go_ret
    exact ⟨ret_bool (by rw [Bool.eq_iff_iff]; simp; omega), rfl⟩

theorem summed_any (b : Nat) (ss : List ByteArray) (w : World) (hcell : ∀ k, k < 4 → w.cell? ⟨b, k, none⟩ = some (.string (ss.getD k ByteArray.empty))) (hsz : ∀ k, k < 4 → (ss.getD k ByteArray.empty).size ≤ 1000000) :
    Calls Tryz.prog 118 #[.slice (some ⟨b, 0, none⟩) 4 4] w fun e w' => e = .returned (.int .u32 (crc 0 (cats ss 4) : Nat)) ∧ Below w.heap.size w w' := by
  have hcells : ∀ k, k < 4 → ∀ c : Nat, (w.alloc (.cells #[.int .u32 (c : Int)] 175)).cell? ⟨b, k, none⟩ = some (.string (ss.getD k ByteArray.empty)) := by
    intro k hk c
    rw [World.cell?_alloc_lt _ _ _ (cell_lt (hcell k hk))]; exact hcell k hk
  replace hcells := Lib.hid hcells
  replace hsz := Lib.hid hsz
  clear hcell
  have hz0 := Lib.hid (show 0 = crc 0 (cats ss 0) from (crc_nil 0 (by omega)).symm)
  go_enter Tryz.func118, Tryz.ntmps118
  go_wp2_with (go_at_call 127; refine (sumNew_any 0 _).mono ?_; rintro e w1 ⟨rfl, rfl⟩)
  go_loopw [9] (fun i wr => ∃ k : Nat, k ≤ 4 ∧ i = .int .i64 k ∧ wr = w.alloc (.cells #[.int .u32 (crc 0 (cats ss k) : Nat)] 175)) (fun i _ => 4 - (intOf i).toNat)
  case atStart => exact ⟨0, by omega, rfl, by rw [← hz0.out]; rfl⟩
  case round =>
    obtain ⟨k, hk, rfl, rfl⟩ := hrel
    have hcl := crc_lt 0 (cats ss k)
    obtain ⟨c, hc⟩ : ∃ c, Hid (crc 0 (cats ss k) = c) := ⟨_, Lib.hid rfl⟩
    have happ := Lib.hid (crc_append 0 (by omega) (cats ss k) (ss.getD k ByteArray.empty).data.toList)
    rw [hc.out] at hcl ⊢
    by_cases hlt : k < 4
    · have hcell := hcells.out k hlt c
      have hs1 := hsz.out k hlt
      have hnew := Lib.hid (show crc 0 (cats ss (k + 1)) = crc c (ss.getD k ByteArray.empty).data.toList from by rw [← hc.out, ← happ.out]; rfl)
      obtain ⟨s, hs⟩ : ∃ s, Hid (ss.getD k ByteArray.empty = s) := ⟨_, Lib.hid rfl⟩
      rw [hs.out] at hcell hs1 hnew
      go_wp2_with fail
      refine (sumAdd_any c hcl s (by omega) w).mono ?_
      rintro e w1 ⟨rfl, rfl⟩
      go_wp2_with fail
      go_roundw
      case rel => exact ⟨k + 1, by omega, by go_num, by rw [hnew.out]⟩
      case measure => simp [intOf]; omega
    · obtain rfl : k = 4 := by omega
      go_wp2_with fail
      refine (sumValue_any c w).mono ?_
      rintro e w1 ⟨rfl, rfl⟩
      go_wp2_with fail
      go_ret
      exact ⟨ret_int (by rw [hc.out]), (Below.refl _ _).alloc (Nat.le_refl _) _⟩

theorem frSize_any (k : Int) (p : ByteArray) (w : World) (hp : p.size ≤ 1000000) :
    Calls Tryz.prog 66 #[.agg #[.int .i64 k, .string p]] w fun e w' => e = .returned (.int .i64 ((p.size : Int) + 7)) ∧ Below w.heap.size w w' := by
  go_enter Tryz.func66, Tryz.ntmps66
  go_wp2
  go_ret
  exact ⟨rfl, (Below.refl _ _).alloc (Nat.le_refl _) _⟩

theorem sumOf_any (st pl : Int) (cnt body : ByteArray) (w : World) (h0 : 0 ≤ st) (h1 : st < 4294967296) (p0 : 1 ≤ pl) (p1 : pl < 16) (hc : cnt.size ≤ 100) (hb : body.size ≤ 100000) :
    Calls Tryz.prog 103 #[.int .u32 st, .int .i64 pl, .string cnt, .string body] w fun e w' => e = .returned (.string (B (sumF st pl cnt.data.toList body.data.toList))) ∧ Below w.heap.size w w' := by
  have f1 := Lib.hid (fits_small st 4 (by show st / 4294967296 = 0; omega) (by omega) (by omega))
  have f2 := Lib.hid (fits_small pl 2 (by show pl / 65536 = 0; omega) (by omega) (by omega))
  have z1 := fx_size st 4
  have z2 := fx_size pl 2
  have hcl := crc_lt 0 (sumB st pl cnt.data.toList body.data.toList)
  have f3 := Lib.hid (fits_small (crc 0 (sumB st pl cnt.data.toList body.data.toList) : Nat) 4 (by show _ / 4294967296 = 0; omega) (by omega) (by omega))
  have hcat := Lib.hid (show cats [B (fx st 4), B (fx pl 2), cnt, body] 4 = sumB st pl cnt.data.toList body.data.toList from by simp [cats, sumB, B_data])
  go_enter Tryz.func103, Tryz.ntmps103
  go_wp2_with fail
  refine (frFixed_any st 4 _ h0 (by omega) f1.out).mono ?_
  rintro e w1 ⟨rfl, hb1⟩
  go_wp2_with fail
  refine (frFixed_any pl 2 _ (by omega) (by omega) f2.out).mono ?_
  rintro e w2 ⟨rfl, hb2⟩
  go_wp2_with fail
  refine (summed_any w2.heap.size [B (fx st 4), B (fx pl 2), cnt, body] _ ?_ ?_).mono ?_
  · intro k hk
    rw [World.cell?_alloc_new]
    match k, hk with
    | 0, _ => rfl
    | 1, _ => rfl
    | 2, _ => rfl
    | 3, _ => rfl
  · intro k hk
    match k, hk with
    | 0, _ => show (B (fx st 4)).size ≤ _; omega
    | 1, _ => show (B (fx pl 2)).size ≤ _; omega
    | 2, _ => show cnt.size ≤ _; omega
    | 3, _ => show body.size ≤ _; omega
  rintro e w3 ⟨rfl, hb3⟩
  rw [hcat.out]
  go_wp2_with fail
  refine (frFixed_any _ 4 _ (by omega) (by omega) f3.out).mono ?_
  rintro e w4 ⟨rfl, hb4⟩
  go_wp2_with fail
  go_ret
  exact ⟨rfl, grew (grew (grewAlloc (grew hb1 hb2) _) hb3) hb4⟩
end Go.Proofs.YtgogackkeodciabGreatDoor.W
end
section
namespace Go.Proofs.YtgogackkeodciabGreatDoor.W
open Go.RowKit
open Go.Proofs.YtgogackkeodciabGreatDoor.M
set_option linter.unusedVariables false

theorem keepB {w w' : World} (h : Below w.heap.size w w') {a : Addr} {v : Value} (hc : w.cell? a = some v) : w'.cell? a = some v := by
  rw [h.cell (cell_lt hc)]; exact hc

theorem encode_no (st pl k : Int) (p : ByteArray) (w : World) (hp : p.size ≤ 1000000) (hw : wrongF pl k p.size ≠ 0) :
    Calls Tryz.prog 88 #[.int .u32 st, .int .i64 pl, .agg #[.int .i64 k, .string p]] w fun e w' => e = .returned (.tuple #[.string ⟨#[]⟩, .int .i64 (wrongF pl k p.size)]) ∧ Below w.heap.size w w' := by
  by_cases h1 : k < 1
  · rw [wrongF_arg (.inl h1)]
    clear hw
    go_enter Tryz.func88, Tryz.ntmps88
    go_wp2
    go_ret2
    exact ⟨rfl, (Below.refl _ _).alloc (Nat.le_refl _) _⟩
  · have k1 : 1 ≤ k := by omega
    by_cases h2 : 255 < k
    · rw [wrongF_arg (.inr (.inl h2))]
      clear hw
      go_enter Tryz.func88, Tryz.ntmps88
      go_wp2
      go_ret2
      exact ⟨rfl, (Below.refl _ _).alloc (Nat.le_refl _) _⟩
    · have k2 : k ≤ 255 := by omega
      by_cases h3 : 1 ≤ pl ∧ pl < 16
      · have h4 : ¬ (k < 1 ∨ 255 < k ∨ ¬ (1 ≤ pl ∧ pl < 16)) := by omega
        by_cases h5 : 773 < p.size
        · rw [wrongF_long h4 h5]
          have hpl := Lib.hid (place_yes h3)
          clear hw h3 h4
          go_enter Tryz.func88, Tryz.ntmps88
          go_wp2_with fail
          refine (isPlace_any pl _).mono ?_
          rintro e w1 ⟨rfl, rfl⟩
          rw [hpl.out]
          go_wp2_with fail
          go_ret2
          exact ⟨rfl, (Below.refl _ _).alloc (Nat.le_refl _) _⟩
        · exact absurd (wrongF_no h4 h5) hw
      · rw [wrongF_arg (.inr (.inr h3))]
        have hpl := Lib.hid (place_no h3)
        clear hw h3
        go_enter Tryz.func88, Tryz.ntmps88
        go_wp2_with fail
        refine (isPlace_any pl _).mono ?_
        rintro e w1 ⟨rfl, rfl⟩
        rw [hpl.out]
        go_wp2_with fail
        go_ret2
        exact ⟨rfl, (Below.refl _ _).alloc (Nat.le_refl _) _⟩

theorem encode_yes (st pl k : Int) (p : ByteArray) (w : World) (s0 : 0 ≤ st) (s1 : st < 4294967296) (k1 : 1 ≤ k) (k2 : k ≤ 255) (h3 : 1 ≤ pl ∧ pl < 16) (hp : p.size ≤ 773) :
    Calls Tryz.prog 88 #[.int .u32 st, .int .i64 pl, .agg #[.int .i64 k, .string p]] w fun e w' => e = .returned (.tuple #[.string (B (encF st pl k p.data.toList)), .int .i64 0]) ∧ Below w.heap.size w w' := by
  have hpl := Lib.hid (place_yes h3)
  obtain ⟨p0, p1⟩ := h3
  have f1 := Lib.hid (fits_small k 1 (by show k / 256 = 0; omega) (by omega) (by omega))
  have hlen : p.data.toList.length = p.size := by simp
  have hbz : (B (bodyF k p.data.toList)).size = 1 + p.size := by rw [B_size, bodyF_len, hlen]
  have f2 := Lib.hid (fits_small (((1 + p.size : Nat)) : Int) 2 (by show _ / 65536 = 0; omega) (by omega) (by omega))
  have z1 := fx_size k 1
  have hbody := Lib.hid (show B (fx k 1) ++ p = B (bodyF k p.data.toList) from by
    show B (fx k 1) ++ B p.data.toList = _
    rw [B_append]; rfl)
  have hcz : (B (cntF p.data.toList)).size = 2 := by rw [B_size, cntF_len]
  have hsz : (B (sumF st pl (cntF p.data.toList) (bodyF k p.data.toList))).size = 4 := by rw [B_size, sumF_len]
  have hcnt := Lib.hid (show fx (((1 + p.size : Nat)) : Int) 2 = cntF p.data.toList from by unfold cntF; rw [hlen, Nat.add_comm])
  have henc := Lib.hid (show B (cntF p.data.toList) ++ B (sumF st pl (cntF p.data.toList) (bodyF k p.data.toList)) ++ B (bodyF k p.data.toList) = B (encF st pl k p.data.toList) from by rw [B_append, B_append]; rfl)
  clear hlen
  go_enter Tryz.func88, Tryz.ntmps88
  go_wp2_with fail
  refine (isPlace_any pl _).mono ?_
  rintro e w1 ⟨rfl, rfl⟩
  rw [hpl.out]
  go_wp2_with fail
  have x0 : (w.alloc (.cells #[.int .i64 k, .string p] 36)).drew.cell? ⟨w.heap.size, 0, none⟩ = some (.int .i64 k) := by show (w.alloc _).cell? _ = _; simp
  have x1 : (w.alloc (.cells #[.int .i64 k, .string p] 36)).drew.cell? ⟨w.heap.size, 1, none⟩ = some (.string p) := by show (w.alloc _).cell? _ = _; simp
  have hbA : Below w.heap.size w (w.alloc (.cells #[.int .i64 k, .string p] 36)).drew := ((Below.refl _ w).alloc (Nat.le_refl _) _).drew
  have hfx : ∀ W : World, Calls Tryz.prog 102 #[.int .u64 (IntKind.u64.wrap k), .int .i64 1] W fun e w' => e = .returned (.string (B (fx k 1))) ∧ Below W.heap.size W w' := fun W => by
    rw [wrap_low k (by omega) (by omega)]
    exact frFixed_any k 1 W (by omega) (by omega) f1.out
  replace hfx := Lib.hid hfx
  have hsm : ¬ 9223372036854775807 < 1 + p.size := by omega
  replace hbA := Lib.hid hbA
  go_region_held3 (fun w' => w'.cell? ⟨w.heap.size, 0, none⟩ = some (.int .i64 k) ∧ w'.cell? ⟨w.heap.size, 1, none⟩ = some (.string p)) (go_keep) (first
    | (go_at_call 102; (with_reducible refine (hfx.out _).mono ?_); rintro e w5 ⟨rfl, hb5⟩; have y0 := keepB hb5 x0; have y1 := keepB hb5 x1))
  rw [hbody.out]
  have hb6 := Lib.hid (hbA.out.trans (hb5.mono hbA.out.size))
  clear x0 x1 y0 y1 hb5 hbA hfx hsm
  go_wp2_with fail
  refine (frFixed_any _ 2 _ (by omega) (by omega) f2.out).mono ?_
  rintro e w7 ⟨rfl, hb7⟩
  rw [show (2 : Int).toNat = 2 from rfl, hcnt.out]
  go_wp2_with fail
  refine (sumOf_any st pl _ _ _ s0 s1 p0 p1 (by omega) (by omega)).mono ?_
  rintro e w8 ⟨rfl, hb8⟩
  rw [B_data, B_data]
  go_wp2_with fail
  go_ret2
  exact ⟨ret_two (val_str henc.out) rfl, grew (grew hb6.out hb7) hb8⟩
end Go.Proofs.YtgogackkeodciabGreatDoor.W
end
section
namespace Go.Proofs.YtgogackkeodciabGreatDoor.W
open Go.RowKit
open Go.Proofs.YtgogackkeodciabGreatDoor.M
open Go.Proofs.YtgogackkeodciabGreatDoor.D
open Go.Proofs.YtgogackkeodciabGreatDoor.Z
set_option linter.unusedVariables false

theorem clone_any (s : ByteArray) (w : World) (hs : s.size ≤ 281474976710656) :
    Calls Tryz.prog 92 #[.string s] w fun e w' => e = .returned (.string s) ∧ Below w.heap.size w w' := by
  go_enter Tryz.func92, Tryz.ntmps92
  go_wp2_with (go_at_call 106; refine (Tryz.stringslite_Clone _ _ hs).mono ?_; rintro e w' ⟨rfl, hb⟩)
  go_ret
  exact ⟨rfl, hb⟩

/-- What Decode tells. -/
abbrev decV (st pl : Int) (s : ByteArray) : Value := .tuple #[.agg #[.int .i64 (decK st pl s), .string (decP st pl s)], .int .i64 (decN st pl s), .int .i64 (decWhy st pl s)]

/-- What Decode tells if there is none. -/
abbrev noV (x : Int) : Value := .tuple #[.agg #[.int .i64 0, .string ⟨#[]⟩], .int .i64 0, .int .i64 x]
theorem decV_no {st pl : Int} {s : ByteArray} {x : Int} (h : decWhy st pl s = x) (hx : x ≠ 0) : decV st pl s = noV x := by
  obtain ⟨e1, e2, e3⟩ := decNo h hx
  unfold decV noV
  rw [e1, e2, e3, h]
theorem decV_yes {st pl : Int} {s : ByteArray} (h : decWhy st pl s = 0) : decV st pl s = .tuple #[.agg #[.int .i64 (bt s.data.toList 6 : Nat), .string (s.extract 7 (6 + toldF s))], .int .i64 ((6 + toldF s : Nat) : Int), .int .i64 0] := by
  obtain ⟨e1, e2, e3⟩ := decYes h
  unfold decV
  rw [e1, e2, e3, h]

theorem drewB' {B : Nat} {a w : World} (h : Below B a w) (n : Nat) : Below B a (w.drewN n) := ⟨h.os, h.tape, h.output, h.size, h.block⟩
theorem far_store {w W : World} {b : Nat} (hb : Below w.heap.size w W) (hB : w.heap.size ≤ b) (vs : List Value) : Below w.heap.size w (W.setCells b 0 vs) :=
  hb.trans (((Kept.refl (fun q => q = b) W).setCells (c := b) (.inl rfl) 0 vs).below hb.size (fun q hq => by omega))

end Go.Proofs.YtgogackkeodciabGreatDoor.W
end
section
namespace Go.Proofs.YtgogackkeodciabGreatDoor.W
open Go.RowKit
open Go.Proofs.YtgogackkeodciabGreatDoor.M
open Go.Proofs.YtgogackkeodciabGreatDoor.D
open Go.Proofs.YtgogackkeodciabGreatDoor.Z
set_option linter.unusedVariables false

/-- How many pieces so many bytes have. -/
def manyI (n : Int) : Int := if n < 1 then 0 else (n - 1) / 52 + 1
theorem many_any (n : Int) (w : World) (h0 : -9223372036854775808 ≤ n) (h1 : n ≤ 9223372036854775807) :
    Calls Tryz.prog 65 #[.int .i64 n] w fun e w' => e = .returned (.int .i64 (manyI n)) ∧ w = w' := by
  by_cases h : n < 1
  · have hm := Lib.hid (show manyI n = 0 from by unfold manyI; rw [if_pos h])
    go_enter Tryz.func65, Tryz.ntmps65
    go_wp2
    go_ret
    exact ⟨ret_int hm.out.symm, rfl⟩
  · have hm := Lib.hid (show manyI n = (n - 1) / 52 + 1 from by unfold manyI; rw [if_neg h])
    go_enter Tryz.func65, Tryz.ntmps65
    go_wp2
    go_ret
    exact ⟨ret_int hm.out.symm, rfl⟩

/-- The frame of the small case. -/
def bareS : ByteArray := ⟨#[0, 1, 135, 165, 138, 47, 1]⟩
set_option maxRecDepth 100000 in
theorem bareS_enc : B (encF 7 3 1 (⟨#[]⟩ : ByteArray).data.toList) = bareS := by decide +kernel
set_option maxRecDepth 100000 in
theorem bare_dec1 : decV 7 3 (bareS ++ ⟨#[120]⟩) = .tuple #[.agg #[.int .i64 1, .string ⟨#[]⟩], .int .i64 7, .int .i64 0] := by
  unfold decV
  rw [show decK 7 3 (bareS ++ ⟨#[120]⟩) = 1 from by decide +kernel, show decP 7 3 (bareS ++ ⟨#[120]⟩) = ⟨#[]⟩ from by decide +kernel, show decN 7 3 (bareS ++ ⟨#[120]⟩) = 7 from by decide +kernel, show decWhy 7 3 (bareS ++ ⟨#[120]⟩) = 0 from by decide +kernel]
set_option maxRecDepth 100000 in
theorem bare_dec2 : decV 8 3 bareS = noV 4 := decV_no (by decide +kernel) (by decide)
set_option maxRecDepth 100000 in
theorem bare_dec3 : decV 7 4 bareS = noV 4 := decV_no (by decide +kernel) (by decide)

end Go.Proofs.YtgogackkeodciabGreatDoor.W
end
