/- The walks of package header's lay and read. The walk of package header's read. The walks of package header's Encode and Decode. The walks of package header's Decode. -/
import Derived.Test.YtgogackkeodciabGreatDoorHdA
import Derived.Test.YtgogackkeodciabGreatDoorCopyStr
import Derived.Test.YtgogackkeodciabGreatDoorCrc
import Derived.Test.YtgogackkeodciabGreatDoorStops
import Derived.Test.YtgogackkeodciabGreatDoorPut
import Derived.Test.YtgogackkeodciabGreatDoorCrash
import Derived.Test.YtgogackkeodciabGreatDoorQuietB
import Derived.Deep.LoopGhost
import Derived.Deep.RegionHeld3
section
namespace Go.Proofs.YtgogackkeodciabGreatDoor.W
open Go.RowKit
open Go.Proofs.YtgogackkeodciabGreatDoor.M Go.Proofs.YtgogackkeodciabGreatDoor.D Go.Proofs.YtgogackkeodciabGreatDoor.Z
set_option linter.unusedVariables false

/-- The widths lie where the program lays them. -/
def Wide (W : World) : Prop := ∀ i : Nat, i < 4 → W.cell? ⟨0, i, none⟩ = some (.int .i64 (wdH i : Nat))
theorem Wide.below {w w' : World} (h : Wide w) (hb : Below w.heap.size w w') : Wide w' := fun i hi => (hb.cell (World.block_lt_of_cell? w _ (h i hi))).trans (h i hi)
abbrev u64s (a b c d : Int) : List Value := [.int .u64 a, .int .u64 b, .int .u64 c, .int .u64 d]
theorem u64s_one (a b c d : Int) : ∀ v ∈ u64s a b c d, v.oneCell' = true := by intro v hv; simp at hv; rcases hv with h | h | h | h <;> rw [h] <;> rfl
theorem sizeN4 : (Tryz.prog.info? 108).map (·.size) = some 4 := by kernel_rfl
theorem sizeW4 : (Tryz.prog.info? 121).map (·.size) = some 4 := by kernel_rfl
theorem sizeL32 : (Tryz.prog.info? 105).map (·.size) = some 32 := by kernel_rfl
theorem lenL32 : Tryz.prog.arrayLen 105 = 32 := by kernel_rfl
theorem elemL32 : Tryz.prog.elem 105 = 5 := by kernel_rfl
theorem laidH_from (b p : Nat) (hp : p < 32) (w : World) :
    (Instr.sliceAt 105 (.pointer (some ⟨b, 0, none⟩)) (some (.int .i64 (p : Int))) none none).run Tryz.prog w = .ok (.slice (some ⟨b, p, none⟩) (32 - p) (32 - p)) w := by
  rw [run_sliceAt_array_l w 105 ⟨b, 0, none⟩ (by rw [lenL32, elemL32]; exact Tryz.underlying105) .i64 (p : Int) (by omega) (by rw [lenL32]; omega), elemL32, sizeOf1, lenL32]
  have hne : ¬ 32 = p := by omega
  simp [slicedAt, Result.andThen, Addr.add_mid, hne]
theorem laidH_to (b p : Nat) (hp : p ≤ 32) (w : World) :
    (Instr.sliceAt 105 (.pointer (some ⟨b, 0, none⟩)) none (some (.int .i64 (p : Int))) none).run Tryz.prog w = .ok (.slice (some ⟨b, 0, none⟩) p 32) w := by
  rw [run_sliceAt_array_h w 105 ⟨b, 0, none⟩ (by rw [lenL32, elemL32]; exact Tryz.underlying105) .i64 (p : Int) (by omega) (by rw [lenL32]; omega), elemL32, sizeOf1, lenL32]
  simp [slicedAt, Result.andThen, Addr.add_mid]
theorem sizeU64' : ∀ w, (Go.sizeOf 106).run Tryz.prog w = .ok 1 w := fun w => by kernel_rfl
theorem aggU64 : ∀ w, (isAgg 106).run Tryz.prog w = .ok false w := fun w => by kernel_rfl
theorem sizeI64' : ∀ w, (Go.sizeOf 3).run Tryz.prog w = .ok 1 w := fun w => by kernel_rfl
theorem aggI64 : ∀ w, (isAgg 3).run Tryz.prog w = .ok false w := fun w => by kernel_rfl
theorem index4 (t : TypeId) (el : TypeId) (ht : Tryz.prog.underlying t = some (.array 4 el)) (hel : ∀ w, (Go.sizeOf el).run Tryz.prog w = .ok 1 w) (hag : ∀ w, (isAgg el).run Tryz.prog w = .ok false w) (q : IntKind) (a b c d : Nat) (k : Nat) (hk : k < 4) (w : World) :
    (Instr.index t (.agg #[.int q a, .int q b, .int q c, .int q d]) (.int .i64 (k : Int))).run Tryz.prog w = .ok (.int q (nh a b c d k : Nat)) w := by
  match k, hk with
  | 0, _ => simp [Instr.index, run_underlying ht, asIntOf, hel, hag, nh, go_sem]
  | 1, _ => simp [Instr.index, run_underlying ht, asIntOf, hel, hag, nh, go_sem]
  | 2, _ => simp [Instr.index, run_underlying ht, asIntOf, hel, hag, nh, go_sem]
  | 3, _ => simp [Instr.index, run_underlying ht, asIntOf, hel, hag, nh, go_sem]
theorem nh_wd (k : Nat) : nh 2 4 4 8 k = wdH k := by
  match k with
  | 0 => rfl
  | 1 => rfl
  | 2 => rfl
  | k + 3 => rfl
theorem fits_wd (f : Nat → Nat) (k : Nat) (hk : k < 4) (h : f k < 256 ^ wdH k) : fitsB (f k : Int) (wdH k : Nat) = true := by
  have hw := ofH_le k hk
  refine fits_small _ _ ?_ (by omega) (by omega)
  rw [Int.toNat_natCast]
  have h0 := Nat.div_eq_of_lt h
  generalize wdH k = q at *
  rw [show (256 : Int) ^ q = ((256 ^ q : Nat) : Int) from (Int.natCast_pow 256 q).symm, ← Int.natCast_ediv, h0]
  rfl
set_option maxRecDepth 100000 in
set_option maxHeartbeats 4000000 in
theorem layH_any (a b c d : Nat) (w : World) (hT : Wide w) (ha : a < 65536) (hb : b < 4294967296) (hc : c < 4294967296) (hd : d < 18446744073709551616) :
    Calls Tryz.prog 69 #[.agg #[.int .u64 a, .int .u64 b, .int .u64 c, .int .u64 d]] w fun x w' => x = .returned (.agg (bytesV (headerL a b c d)).toArray) ∧ Below w.heap.size w w' := by
  have hnl := fun k => nh_lt ha hb hc hd k
  have hn64 := fun k => nh_lt64 ha hb hc hd k
  have hlen := preH_len (nh a b c d)
  have hfit := fits_wd (nh a b c d)
  have hhead := padH_head a b c d
  have hix := index4 108 106 Tryz.underlying108 sizeU64' aggU64 .u64 a b c d
  have hdat := padH_all a b c d
  have hdl : Hid ((bytesV (headerL a b c d)).length = 32) := Lib.hid (by rw [bytesV_len, headerL_len])
  have hd1 : Hid (∀ v ∈ bytesV (headerL a b c d), v.oneCell' = true) := Lib.hid (bytesV_one _)
  obtain ⟨D, hD⟩ : ∃ D, Hid (bytesV (headerL a b c d) = D) := ⟨_, Lib.hid rfl⟩
  rw [hD.out] at hdat hdl hd1 ⊢
  obtain ⟨f, hf⟩ : ∃ f, Hid (nh a b c d = f) := ⟨_, Lib.hid rfl⟩
  rw [hf.out] at hnl hn64 hlen hhead hix hfit
  obtain ⟨W, hW, hX, hR, hN, hB⟩ := three_boxes w 108 105 105 (u64s a b c d) (List.replicate 32 (.int .u8 0)) (List.replicate 32 (.int .u8 0))
  rw [← padH_zero] at hN
  subst hW
  replace hT := Lib.hid hT
  replace hnl := Lib.hid hnl
  replace hn64 := Lib.hid hn64
  replace hlen := Lib.hid hlen
  replace hfit := Lib.hid hfit
  replace hhead := Lib.hid hhead
  replace hix := Lib.hid hix
  replace hdat := Lib.hid hdat
  replace hX := Lib.hid hX
  replace hR := Lib.hid hR
  replace hN := Lib.hid hN
  replace hB := Lib.hid hB
  go_enter Tryz.func69, Tryz.ntmps69
  go_wp2_with (with_reducible refine zCopy _ _ _ _ rfl ?_)
  refine Lib.hid ?_
  refine wpList_copy_text rfl _ _ rfl (w.heap.size + 1 + 1) 0 32 32 rfl ⟨#[0x57, 0x53]⟩ rfl (by decide) 105 _ hN.out (by rw [padH_len _ (by simp)]; decide) ?_
  intro W2 hN2 hk2 hsz2
  replace hk2 := hk2 (fun q => q = w.heap.size + 1 + 1) _ (.inl rfl) (Kept.refl _ _)
  have hX2 := Lib.hid (hX.out.of_kept hk2 (by omega))
  have hR2 := Lib.hid (hR.out.of_kept hk2 (by omega))
  have hB2 := Lib.hid (hB.out.trans (hk2.below hB.out.size (fun k e => by omega)))
  have hN3 : Hid (Whole W2 (w.heap.size + 1 + 1) 105 (padH (preH f 0))) := Lib.hid (by
    have e := padH_more [] [0x57, 0x53] (by simp)
    rw [List.nil_append] at e
    exact e ▸ hN2)
  clear hX hR hN hB hN2 hk2 hsz2
  go_wp2_with (with_reducible refine zLoad 108 _ rfl ?_)
  refine Lib.hid ?_
  refine wpList_load_mid rfl 108 _ rfl w.heap.size 0 rfl (u64s a b c d) _ hX2.out.range Tryz.underlying108 rfl sizeN4 ?_
  go_wp2_with fail
  clear hX2
  go_loopg [4, 11] 4 (fun ga p i wr => ∃ k : Nat, k ≤ 4 ∧ 4 ≤ k + ga ∧ p = .int .i64 ((ofH k : Nat) : Int) ∧ i = .int .i64 k ∧ Hid (Whole wr (w.heap.size + 1 + 1) 105 (padH (preH f k)) ∧ Whole wr (w.heap.size + 1) 105 (List.replicate 32 (.int .u8 0)) ∧ Below w.heap.size w wr))
  case atStart => exact ⟨0, by omega, by omega, rfl, rfl, Lib.hid ⟨hN3.out, hR2.out, hB2.out⟩⟩
  case round =>
    clear hN3 hR2 hB2
    obtain ⟨k, hk, hg, rfl, rfl, hrow⟩ := hrel
    by_cases hlt : k < 4
    · obtain ⟨hw1, hw2, hw3, hw4⟩ := ofH_le k hlt
      have hnx := Lib.hid (ofH_next k hlt)
      have hlk := Lib.hid (hlen.out k hk)
      have hi := hix.out k hlt
      have hfk := hfit.out k hlt (hnl.out k)
      have hvl := hn64.out k
      have c0 := hT.out.below hrow.out.2.2 k hlt
      have c1 : wr.drew.cell? ⟨0, k, none⟩ = some (.int .i64 (wdH k : Nat)) := c0
      have hgne : Hid (0 ≠ w.heap.size + 1 + 1) := Lib.hid (by
        have h : 0 < w.heap.size := World.block_lt_of_cell? w _ (hT.out k hlt)
        omega)
      have hmore := padH_more (preH f k) (fx (f k : Int) (wdH k)) (by rw [hlk.out, fx_length]; omega)
      have hpre : preH f (k + 1) = preH f k ++ fx (f k : Int) (wdH k) := rfl
      rw [hlk.out, ← hpre] at hmore
      clear hpre
      have hpl := padH_len (preH f k) (by rw [hlk.out]; omega)
      obtain ⟨p, hp⟩ : ∃ p : Nat, Hid (ofH k = p) := ⟨_, Lib.hid rfl⟩
      obtain ⟨n, hn⟩ : ∃ n : Nat, Hid (wdH k = n) := ⟨_, Lib.hid rfl⟩
      obtain ⟨v, hv⟩ : ∃ v : Nat, Hid (f k = v) := ⟨_, Lib.hid rfl⟩
      rw [hv.out] at hvl hi hfk hmore
      rw [hp.out] at hmore hw1 hw4 ⊢
      rw [hn.out] at c0 c1 hw1 hw2 hw3 hfk hmore
      rw [hp.out, hn.out] at hnx
      have hfx := Lib.hid (fun W => hFixed_any (v : Int) (n : Nat) W (by omega) (by omega) hfk)
      rw [Int.toNat_natCast] at hfx
      have hfz : (B (fx (v : Int) n)).size = n := fx_size _ _
      have hFd := B_data (fx (v : Int) n)
      obtain ⟨F, hF⟩ : ∃ F, Hid (B (fx (v : Int) n) = F) := ⟨_, Lib.hid rfl⟩
      rw [hF.out] at hfx hfz hFd
      rw [← hFd] at hmore
      have hsl := laidH_from (w.heap.size + 1 + 1) p (by omega)
      have hm : Hid (Nat.min F.size (32 - p) = n) := Lib.hid (by rw [hfz]; exact Nat.min_eq_left (by omega))
      have hth : Hid (wr.there (w.heap.size + 1 + 1) p n) := Lib.hid (hrow.out.1.there p n (by rw [hpl]; omega))
      have hFl : F.data.toList.length = n := by simpa using hfz
      have hF4 : Hid (F.data.toList.take n = F.data.toList) := Lib.hid (List.take_of_length_le (by omega))
      have hps : IntKind.i64.wrap ((p : Int) + (n : Int)) = (p : Int) + (n : Int) := IntWalk.i64_in _ (by omega)
      have hp4 : Hid (((ofH (k + 1) : Nat) : Int) = (p : Int) + (n : Int)) := Lib.hid (by rw [hnx.out]; omega)
      replace hmore := Lib.hid hmore
      replace hpl := Lib.hid hpl
      replace hFl := Lib.hid hFl
      clear hp hn hv hfk hFd hF
      go_wp2_with fail
      go_region_held3 (fun w' => w'.cell? ⟨0, k, none⟩ = some (.int .i64 (n : Nat))) (first | exact c0 | exact c1 | exact c5 | exact c6) (first
        | (go_at_call 82; (with_reducible refine (hfx.out _).mono ?_); rintro e w5 ⟨rfl, hb5⟩; have hb5 : Below wr.heap.size wr w5 := ⟨hb5.os, hb5.tape, hb5.output, hb5.size, hb5.block⟩; have hN5 := Lib.hid (hrow.out.1.below hb5 hrow.out.1.lt); have hth5 : Hid (w5.there (w.heap.size + 1 + 1) p n) := Lib.hid (hN5.out.there p n (by rw [hpl.out]; omega)); have c5 := keepZ hb5 c0; have c6 : (w5.setCells (w.heap.size + 1 + 1) p (bytesV (F.data.toList.take n))).cell? ⟨0, k, none⟩ = some (.int .i64 (n : Nat)) := (cell_far hgne.out).trans c5)
        | (refine step_copy_str (by rfl) _ _ _ _ (by rfl) 5 Tryz.underlying71 sizeU8' (w.heap.size + 1 + 1) p (32 - p) (32 - p) (by rfl) F (by rfl) n hm.out hth5.out ?_))
      rw [hF4.out]
      have hN6 : Hid (Whole (w5.setCells (w.heap.size + 1 + 1) p (bytesV F.data.toList)) (w.heap.size + 1 + 1) 105 (padH (preH f (k + 1)))) := Lib.hid (by
        have h := hN5.out.store p (bytesV F.data.toList) (by rw [bytesV_len, hFl.out, hpl.out]; omega)
        rw [hmore.out] at h
        exact h)
      have hR6 := Lib.hid ((hrow.out.2.1.below hb5 hrow.out.2.1.lt).far (c := w.heap.size + 1 + 1) (by omega) p (bytesV F.data.toList))
      have hB6 := Lib.hid (below_store (grew hrow.out.2.2 hb5) (c := w.heap.size + 1 + 1) (by omega) (Nat.le_refl _) p (bytesV F.data.toList))
      clear hN5 hth5 hb5 c0 c1 c5 c6
      generalize w5.setCells (w.heap.size + 1 + 1) p (bytesV F.data.toList) = W6 at *
      go_wp2_with fail
      go_roundg (gk - 1)
      case measure => omega
      case rel => exact ⟨k + 1, by omega, by omega, by rw [hp4.out], by go_num, Lib.hid ⟨hN6.out, hR6.out, hB6.out⟩⟩
    · obtain rfl : k = 4 := by omega
      rw [show ((ofH 4 : Nat) : Int) = 20 from rfl, show ((4 : Nat) : Int) = 4 from rfl]
      rw [hhead.out] at hrow
      have hhl := headH_len a b c d
      have hH : (B (headH a b c d)).size = 28 := by rw [B_size, hhl]
      have hcr := fun W => crc_any 0 (B (headH a b c d)) W (by omega) (by omega)
      rw [B_data] at hcr
      have hcl := crc_lt 0 (headH a b c d)
      have hcv : (convert 71 9 (.slice (some ⟨w.heap.size + 1 + 1, 0, none⟩) 28 32)).run Tryz.prog wr = .ok (.string (B (headH a b c d))) wr := by
        have h := run_convert_bytes_back (P := Tryz.prog) wr 71 9 5 ⟨w.heap.size + 1 + 1, 0, none⟩ 32 (headH a b c d) Tryz.underlying71 Tryz.underlying5 Tryz.underlying9 (fun j hj => by
          rw [show (⟨w.heap.size + 1 + 1, 0, none⟩ : Addr).add j = ⟨w.heap.size + 1 + 1, j, none⟩ from by simp [Addr.add]; try omega]
          rw [hrow.out.1.cell]
          exact padH_row _ _ hj)
        rw [hhl] at h
        exact h
      have hto : ∀ W : World, (Instr.sliceAt 105 (.pointer (some ⟨w.heap.size + 1 + 1, 0, none⟩)) none (some (.int .i64 28)) none).run Tryz.prog W = .ok (.slice (some ⟨w.heap.size + 1 + 1, 0, none⟩) 28 32) W := fun W => laidH_to (w.heap.size + 1 + 1) 28 (by omega) W
      have hsl : ∀ W : World, (Instr.sliceAt 105 (.pointer (some ⟨w.heap.size + 1 + 1, 0, none⟩)) (some (.int .i64 28)) none none).run Tryz.prog W = .ok (.slice (some ⟨w.heap.size + 1 + 1, 28, none⟩) 4 4) W := fun W => laidH_from (w.heap.size + 1 + 1) 28 (by omega) W
      have hNz : Hid ((padH (headH a b c d)).length = 32) := Lib.hid (padH_len _ (by omega))
      obtain ⟨C, hC⟩ : ∃ C : Nat, Hid (crc 0 (headH a b c d) = C) := ⟨_, Lib.hid rfl⟩
      rw [hC.out] at hcl hcr hdat
      have hfx : Hid (∀ W : World, Calls Tryz.prog 82 #[.int .u64 (C : Nat), .int .i64 4] W fun e w' => e = .returned (.string (B (fx (C : Nat) 4))) ∧ Below W.heap.size W w') := Lib.hid (fun W => hFixed_any (C : Int) 4 W (by omega) (by omega) (fits_small _ 4 (by show (C : Int) / 4294967296 = 0; omega) (by omega) (by omega)))
      have hfz : (B (fx (C : Int) 4)).size = 4 := fx_size _ _
      have hFd := B_data (fx (C : Int) 4)
      obtain ⟨F, hF⟩ : ∃ F, Hid (B (fx (C : Int) 4) = F) := ⟨_, Lib.hid rfl⟩
      rw [hF.out] at hfx hfz hFd
      have hsp := hdat.out
      rw [← hFd] at hsp
      replace hsp := Lib.hid hsp
      have hFl : F.data.toList.length = 4 := by simpa using hfz
      have hm : Hid (Nat.min F.size 4 = 4) := Lib.hid (by rw [hfz]; rfl)
      have hF4 : Hid (F.data.toList.take 4 = F.data.toList) := Lib.hid (List.take_of_length_le (by omega))
      obtain ⟨H, hHH⟩ : ∃ H, Hid (B (headH a b c d) = H) := ⟨_, Lib.hid rfl⟩
      rw [hHH.out] at hcv hcr hH
      replace hcr : ∀ W : World, Calls Tryz.prog 83 #[.int .u32 0, .string H] W fun e w' => e = .returned (.int .u32 (C : Nat)) ∧ W = w' := fun W => hcr W
      replace hcr := Lib.hid hcr
      have hcu : IntKind.u64.wrap ((C : Nat) : Int) = (C : Nat) := IntWalk.u64_in _ (by omega)
      generalize padH (headH a b c d) = PH at *
      clear hhl hdat hix hnl hhead hlen hfit hn64 hFd hF
      go_wp2_with fail
      refine (hcr.out _).mono ?_
      rintro e w4 ⟨rfl, rfl⟩
      go_wp2_with fail
      go_region_held3 (fun w' => True) (trivial) (first
        | (go_at_call 82; (with_reducible refine (hfx.out _).mono ?_); rintro e w5 ⟨rfl, hb5⟩; have hb5 : Below wr.heap.size wr w5 := ⟨hb5.os, hb5.tape, hb5.output, hb5.size, hb5.block⟩; have hN5 := Lib.hid (hrow.out.1.below hb5 hrow.out.1.lt); have hth5 : Hid (w5.there (w.heap.size + 1 + 1) 28 4) := Lib.hid (hN5.out.there 28 4 (by rw [hNz.out]; omega)))
        | (refine step_copy_str (by rfl) _ _ _ _ (by rfl) 5 Tryz.underlying71 sizeU8' (w.heap.size + 1 + 1) 28 4 4 (by rfl) F (by rfl) 4 hm.out hth5.out ?_))
      rw [hF4.out]
      have hN6 : Hid (Whole (w5.setCells (w.heap.size + 1 + 1) 28 (bytesV F.data.toList)) (w.heap.size + 1 + 1) 105 D) := Lib.hid (by
        have h := hN5.out.store 28 (bytesV F.data.toList) (by rw [bytesV_len, hFl, hNz.out]; omega)
        rw [hsp.out] at h
        exact h)
      have hR6 := Lib.hid ((hrow.out.2.1.below hb5 hrow.out.2.1.lt).far (c := w.heap.size + 1 + 1) (by omega) 28 (bytesV F.data.toList))
      have hB6 := Lib.hid (below_store (grew hrow.out.2.2 hb5) (c := w.heap.size + 1 + 1) (by omega) (Nat.le_refl _) 28 (bytesV F.data.toList))
      clear hN5 hth5 hb5 hcv hsl hto hcr
      generalize w5.setCells (w.heap.size + 1 + 1) 28 (bytesV F.data.toList) = W6 at *
      go_wp2_with (with_reducible refine zLoad 105 _ rfl ?_)
      refine Lib.hid ?_
      refine wpList_load_mid rfl 105 _ rfl (w.heap.size + 1 + 1) 0 rfl D _ hN6.out.range Tryz.underlying105 rfl (by rw [hdl.out]; exact sizeL32) ?_
      go_wp2_with (with_reducible refine zStore 105 _ _ rfl ?_)
      refine Lib.hid ?_
      refine wpList_store_mid rfl 105 _ _ rfl (w.heap.size + 1) 0 D.toArray rfl rfl (hR6.out.there 0 D.toArray.size (by simp [hdl.out])) (by rw [List.size_toArray, hdl.out]; exact sizeL32) (all_oneCell_toArray hd1.out) ?_
      go_wp2_with fail
      have hfin := whole_all hR6.out (vs := D) (by rw [hdl.out]; rfl)
      exact bodyPost_ret (result_cell Tryz.results69 rfl hfin.range Tryz.underlying105 rfl (by rw [hdl.out]; exact sizeL32)) rfl ⟨rfl, below_store hB6.out (by omega) (Nat.le_refl _) 0 _⟩
end Go.Proofs.YtgogackkeodciabGreatDoor.W
end
section
section
namespace Go.Proofs.YtgogackkeodciabGreatDoor.W
open Go.RowKit
open Go.Proofs.YtgogackkeodciabGreatDoor.M Go.Proofs.YtgogackkeodciabGreatDoor.D Go.Proofs.YtgogackkeodciabGreatDoor.Z
set_option linter.unusedVariables false

theorem laidH_part (b p n : Nat) (hn : p + n ≤ 32) (hp : p < 32) (w : World) :
    (Instr.sliceAt 105 (.pointer (some ⟨b, 0, none⟩)) (some (.int .i64 (p : Int))) (some (.int .i64 ((p : Int) + (n : Int)))) none).run Tryz.prog w = .ok (.slice (some ⟨b, p, none⟩) n (32 - p)) w := by
  rw [run_sliceAt_array_lh w 105 ⟨b, 0, none⟩ (by rw [lenL32, elemL32]; exact Tryz.underlying105) .i64 .i64 (p : Int) ((p : Int) + (n : Int)) (by omega) (by omega) (by rw [lenL32]; omega), elemL32, sizeOf1, lenL32]
  have hne : ¬ 32 = p := by omega
  have e1 : ((p : Int) + (n : Int)).toNat = p + n := by omega
  simp [slicedAt, Result.andThen, Addr.add_mid, hne, e1]
theorem set_one (cur : List Value) (j : Nat) (v : Value) (h : j < cur.length) : splice cur j [v] = cur.set j v := by
  unfold splice
  rw [List.set_eq_take_append_cons_drop, if_pos h]
  rfl
end Go.Proofs.YtgogackkeodciabGreatDoor.W
end
section
namespace Go.Proofs.YtgogackkeodciabGreatDoor.W
open Go.RowKit Go.Sort
open Go.Proofs.YtgogackkeodciabGreatDoor.M Go.Proofs.YtgogackkeodciabGreatDoor.D Go.Proofs.YtgogackkeodciabGreatDoor.Z
set_option linter.unusedVariables false

/-- A text that may be longer than what it is copied into. -/
theorem wpList_copy_long {w : World} {ops : Array Oper} {rest : List Oper} {o : Oper} {a : Act} {Q : Exit → Act → World → Prop} (hgd : o.guard = none) (d x : Operand)
    (ho : o.op = .call { callee := .builtin .copy, args := #[d, x], argTypes := #[71, 9] }) (b off dLen dCap : Nat) (hd : a.eval d = .slice (some ⟨b, off, none⟩) dLen dCap) (s : ByteArray) (hx : a.eval x = .string s) (m : Nat) (hm : Nat.min s.size dLen = m)
    (t : TypeId) (cs : List Value) (hW : Whole w b t cs) (hl : off + m ≤ cs.length) (hml : m ≤ s.size)
    (h : ∀ w2, Whole w2 b t (splice cs off (bytesV (s.data.toList.take m))) → (∀ own : Nat → Prop, ∀ w0, (own b ∨ w0.heap.size ≤ b) → Kept own w0 w → Kept own w0 w2) → w2.heap.size = w.heap.size → wpList Tryz.prog ops Q rest (a.put o.dst (goInt m)) w2) :
    wpList Tryz.prog ops Q (o :: rest) a w := by
  refine wpList_plain hgd fun K hK => ?_
  have hth := hW.there off m hl
  have hrun := run_copy_str (P := Tryz.prog) w 71 9 o.type 5 b off dLen dCap s m Tryz.underlying71 sizeU8' hm (fun j hj => (hth j hj).1) (fun j hj => (hth j hj).2)
  unfold Oper.wp
  simp [execOp, ho, resolve, invoke, builtin, hd, hx, hrun, Result.andThen]
  have hsz : (bytesV (s.data.toList.take m)).length = m := by
    rw [bytesV_len, List.length_take, Array.length_toList]
    exact Nat.min_eq_left hml
  have h2 := h _ (hW.store off (bytesV (s.data.toList.take m)) (by rw [hsz]; exact hl)) (fun own w0 hb hk => hk.setCells hb _ _) (size_setCells _ _ _ _)
  exact hK _ _ h2
theorem sizeH4 : (Tryz.prog.info? 80).map (·.size) = some 4 := by kernel_rfl
abbrev hdr (a g s b : Int) : List Value := [.int .i64 a, .int .u32 g, .int .u32 s, .int .i64 b]
theorem hdr_one (a g s b : Int) : ∀ v ∈ hdr a g s b, v.oneCell' = true := by intro v hv; simp at hv; rcases hv with h | h | h | h <;> rw [h] <;> rfl
theorem okH_yes (a b : Nat) (h0 : 1 ≤ a) (h1 : a < 65536) (h2 : b ≤ 1099511627776) : okH (a : Int) (b : Int) = true := by
  unfold okH; simp; omega
set_option maxRecDepth 100000 in
set_option maxHeartbeats 4000000 in
theorem encH_yes (a g s b : Nat) (w : World) (hT : Wide w) (h0 : 1 ≤ a) (ha : a < 65536) (hg : g < 4294967296) (hs : s < 4294967296) (hb : b ≤ 1099511627776) :
    Calls Tryz.prog 40 #[.agg #[.int .i64 (a : Int), .int .u32 (g : Int), .int .u32 (s : Int), .int .i64 (b : Int)]] w fun x w' => x = .returned (.tuple #[.string (B (headerL a g s b)), .int .i64 0]) ∧ Below w.heap.size w w' := by
  have hm : ∀ W : World, Calls Tryz.prog 67 #[.agg #[.int .i64 (a : Int), .int .u32 (g : Int), .int .u32 (s : Int), .int .i64 (b : Int)]] W fun x w' => x = .returned (.bool true) ∧ Below W.heap.size W w' := fun W => by
    have h := mayBe_any a g s b W
    rw [okH_yes a b h0 ha hb] at h
    exact h
  have hn := Lib.hid (fun W => numbersOfH_any a g s b W ha hg hs hb)
  have hl := fun W hW => layH_any a g s b W hW ha hg hs (by omega)
  have hdl := headerL_len a g s b
  obtain ⟨D, hD⟩ : ∃ D, Hid (headerL a g s b = D) := ⟨_, Lib.hid rfl⟩
  rw [hD.out] at hl hdl ⊢
  have hvl : Hid ((bytesV D).length = 32) := Lib.hid (by rw [bytesV_len, hdl])
  replace hm := Lib.hid hm
  replace hl := Lib.hid hl
  replace hT := Lib.hid hT
  replace hdl := Lib.hid hdl
  clear h0 ha hg hs hb
  go_enter Tryz.func40, Tryz.ntmps40
  go_wp2_with fail
  have hX := Whole.new w 80 (hdr a g s b)
  have hB := (Below.refl w.heap.size w).alloc (Nat.le_refl _) (.cells (hdr a g s b).toArray 80)
  refine (hm.out _).mono ?_
  rintro ee w1 ⟨rfl, hb1⟩
  replace hX := hX.below hb1 hX.lt
  replace hB := grew hB hb1
  clear hb1
  have q0 := hX.cell 0
  have q1 := hX.cell 1
  have q2 := hX.cell 2
  have q3 := hX.cell 3
  simp at q0 q1 q2 q3
  go_wp2_with fail
  refine (hn.out _).mono ?_
  rintro ee w2 ⟨rfl, hb2⟩
  replace hB := grew hB hb2
  clear hb2 hX q0 q1 q2 q3
  go_wp2_with fail
  refine (hl.out _ (hT.out.below hB)).mono ?_
  rintro ee w3 ⟨rfl, hb3⟩
  replace hB := grew hB hb3
  clear hb3
  go_wp2_with (with_reducible refine zStore 105 _ _ rfl ?_)
  refine Lib.hid ?_
  refine wpList_fresh rfl 105 _ _ rfl w3.heap.size rfl (bytesV D) rfl w3 _ rfl rfl (by rw [hvl.out]; rfl) (by rw [hvl.out]; exact sizeL32) (bytesV_one D) ?_
  intro w4 hN hb4 hsz4
  replace hB := grew hB hb4
  clear hb4 hsz4
  have hcv : (convert 71 9 (.slice (some ⟨w3.heap.size, 0, none⟩) 32 32)).run Tryz.prog w4 = .ok (.string (B D)) w4 := by
    have h := (rowOf hN).back (P := Tryz.prog) 71 9 5 32 32 hdl.out.symm Tryz.underlying71 Tryz.underlying5 Tryz.underlying9
    exact h
  replace hB := Lib.hid hB
  clear hN
  go_wp2_with fail
  go_ret2
  exact ⟨rfl, hB.out⟩
theorem encH_no (a g s b : Int) (w : World) (h : okH a b = false) :
    Calls Tryz.prog 40 #[.agg #[.int .i64 a, .int .u32 g, .int .u32 s, .int .i64 b]] w fun x w' => x = .returned (.tuple #[.string ⟨#[]⟩, .int .i64 1]) ∧ Below w.heap.size w w' := by
  have hm : Hid (∀ W : World, Calls Tryz.prog 67 #[.agg #[.int .i64 a, .int .u32 g, .int .u32 s, .int .i64 b]] W fun x w' => x = .returned (.bool false) ∧ Below W.heap.size W w') := Lib.hid (fun W => by
    have h' := mayBe_any a g s b W
    rw [h] at h'
    exact h')
  have hB := Lib.hid ((Below.refl w.heap.size w).alloc (Nat.le_refl _) (.cells (hdr a g s b).toArray 80))
  go_enter Tryz.func40, Tryz.ntmps40
  go_wp2_with fail
  refine (hm.out _).mono ?_
  rintro ee w1 ⟨rfl, hb1⟩
  replace hB := Lib.hid (grew hB.out hb1)
  clear hb1
  go_wp2_with fail
  go_ret2
  exact ⟨rfl, hB.out⟩
end Go.Proofs.YtgogackkeodciabGreatDoor.W
end
section
namespace Go.Proofs.YtgogackkeodciabGreatDoor.W
open Go.RowKit Go.Sort
open Go.Proofs.YtgogackkeodciabGreatDoor.M Go.Proofs.YtgogackkeodciabGreatDoor.D Go.Proofs.YtgogackkeodciabGreatDoor.Z
set_option linter.unusedVariables false

end Go.Proofs.YtgogackkeodciabGreatDoor.W
end
end
