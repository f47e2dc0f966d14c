/- The walks of package header's lay and read. The walk of package header's read. The walks of package header's Encode and Decode. The walks of package header's Decode. -/
import Derived.Test.YtbbhnbdekblghaaGreatDoorHdA
import Derived.Test.YtbbhnbdekblghaaGreatDoorCopyStr
import Derived.Test.YtbbhnbdekblghaaGreatDoorCrc
import Derived.Test.YtbbhnbdekblghaaGreatDoorStops
import Derived.Test.YtbbhnbdekblghaaGreatDoorPut
import Derived.Test.YtbbhnbdekblghaaGreatDoorCrash
import Derived.Test.YtbbhnbdekblghaaGreatDoorQuietB
import Derived.Deep.LoopGhost
import Derived.Deep.RegionHeld3
section
namespace Go.Proofs.YtbbhnbdekblghaaGreatDoor.W
open Go.RowKit
open Go.Proofs.YtbbhnbdekblghaaGreatDoor.M Go.Proofs.YtbbhnbdekblghaaGreatDoor.D Go.Proofs.YtbbhnbdekblghaaGreatDoor.Z
set_option linter.unusedVariables false

/-- The widths lie where the program lays them. -/
def Wide (W : World) : Prop := ∀ i : Nat, i < 4 → W.cell? ⟨0, i, none⟩ = some (.int .i64 (wdH i : Nat))
theorem Wide.below {w w' : World} (h : Wide w) (hb : Below w.heap.size w w') : Wide w' := fun i hi => (hb.cell (World.block_lt_of_cell? w _ (h i hi))).trans (h i hi)
abbrev u64s (a b c d : Int) : List Value := [.int .u64 a, .int .u64 b, .int .u64 c, .int .u64 d]
theorem u64s_one (a b c d : Int) : ∀ v ∈ u64s a b c d, v.oneCell' = true := by intro v hv; simp at hv; rcases hv with h | h | h | h <;> rw [h] <;> rfl
theorem sizeN4 : (Tryz.prog.info? 156).map (·.size) = some 4 := by kernel_rfl
theorem sizeW4 : (Tryz.prog.info? 191).map (·.size) = some 4 := by kernel_rfl
theorem sizeL32 : (Tryz.prog.info? 153).map (·.size) = some 32 := by kernel_rfl
theorem lenL32 : Tryz.prog.arrayLen 153 = 32 := by kernel_rfl
theorem elemL32 : Tryz.prog.elem 153 = 5 := by kernel_rfl
theorem laidH_from (b p : Nat) (hp : p < 32) (w : World) :
    (Instr.sliceAt 153 (.pointer (some ⟨b, 0, none⟩)) (some (.int .i64 (p : Int))) none none).run Tryz.prog w = .ok (.slice (some ⟨b, p, none⟩) (32 - p) (32 - p)) w := by
  rw [run_sliceAt_array_l w 153 ⟨b, 0, none⟩ (by rw [lenL32, elemL32]; exact Tryz.underlying153) .i64 (p : Int) (by omega) (by rw [lenL32]; omega), elemL32, sizeOf1, lenL32]
  have hne : ¬ 32 = p := by omega
  simp [slicedAt, Result.andThen, Addr.add_mid, hne]
theorem laidH_to (b p : Nat) (hp : p ≤ 32) (w : World) :
    (Instr.sliceAt 153 (.pointer (some ⟨b, 0, none⟩)) none (some (.int .i64 (p : Int))) none).run Tryz.prog w = .ok (.slice (some ⟨b, 0, none⟩) p 32) w := by
  rw [run_sliceAt_array_h w 153 ⟨b, 0, none⟩ (by rw [lenL32, elemL32]; exact Tryz.underlying153) .i64 (p : Int) (by omega) (by rw [lenL32]; omega), elemL32, sizeOf1, lenL32]
  simp [slicedAt, Result.andThen, Addr.add_mid]
theorem sizeU64' : ∀ w, (Go.sizeOf 154).run Tryz.prog w = .ok 1 w := fun w => by kernel_rfl
theorem aggU64 : ∀ w, (isAgg 154).run Tryz.prog w = .ok false w := fun w => by kernel_rfl
theorem sizeI64' : ∀ w, (Go.sizeOf 3).run Tryz.prog w = .ok 1 w := fun w => by kernel_rfl
theorem aggI64 : ∀ w, (isAgg 3).run Tryz.prog w = .ok false w := fun w => by kernel_rfl
theorem index4 (t : TypeId) (el : TypeId) (ht : Tryz.prog.underlying t = some (.array 4 el)) (hel : ∀ w, (Go.sizeOf el).run Tryz.prog w = .ok 1 w) (hag : ∀ w, (isAgg el).run Tryz.prog w = .ok false w) (q : IntKind) (a b c d : Nat) (k : Nat) (hk : k < 4) (w : World) :
    (Instr.index t (.agg #[.int q a, .int q b, .int q c, .int q d]) (.int .i64 (k : Int))).run Tryz.prog w = .ok (.int q (nh a b c d k : Nat)) w := by
  match k, hk with
  | 0, _ => simp [Instr.index, run_underlying ht, asIntOf, hel, hag, nh, go_sem]
  | 1, _ => simp [Instr.index, run_underlying ht, asIntOf, hel, hag, nh, go_sem]
  | 2, _ => simp [Instr.index, run_underlying ht, asIntOf, hel, hag, nh, go_sem]
  | 3, _ => simp [Instr.index, run_underlying ht, asIntOf, hel, hag, nh, go_sem]
theorem nh_wd (k : Nat) : nh 2 4 4 8 k = wdH k := by
  match k with
  | 0 => rfl
  | 1 => rfl
  | 2 => rfl
  | k + 3 => rfl
theorem fits_wd (f : Nat → Nat) (k : Nat) (hk : k < 4) (h : f k < 256 ^ wdH k) : fitsB (f k : Int) (wdH k : Nat) = true := by
  have hw := ofH_le k hk
  refine fits_small _ _ ?_ (by omega) (by omega)
  rw [Int.toNat_natCast]
  have h0 := Nat.div_eq_of_lt h
  generalize wdH k = q at *
  rw [show (256 : Int) ^ q = ((256 ^ q : Nat) : Int) from (Int.natCast_pow 256 q).symm, ← Int.natCast_ediv, h0]
  rfl
set_option maxRecDepth 100000 in
set_option maxHeartbeats 4000000 in
theorem layH_any (a b c d : Nat) (w : World) (hT : Wide w) (ha : a < 65536) (hb : b < 4294967296) (hc : c < 4294967296) (hd : d < 18446744073709551616) :
    Calls Tryz.prog 102 #[.agg #[.int .u64 a, .int .u64 b, .int .u64 c, .int .u64 d]] w fun x w' => x = .returned (.agg (bytesV (headerL a b c d)).toArray) ∧ Below w.heap.size w w' := by
  have hnl := fun k => nh_lt ha hb hc hd k
  have hn64 := fun k => nh_lt64 ha hb hc hd k
  have hlen := preH_len (nh a b c d)
  have hfit := fits_wd (nh a b c d)
  have hhead := padH_head a b c d
  have hix := index4 156 154 Tryz.underlying156 sizeU64' aggU64 .u64 a b c d
  have hdat := padH_all a b c d
  have hdl : Hid ((bytesV (headerL a b c d)).length = 32) := Lib.hid (by rw [bytesV_len, headerL_len])
  have hd1 : Hid (∀ v ∈ bytesV (headerL a b c d), v.oneCell' = true) := Lib.hid (bytesV_one _)
  obtain ⟨D, hD⟩ : ∃ D, Hid (bytesV (headerL a b c d) = D) := ⟨_, Lib.hid rfl⟩
  rw [hD.out] at hdat hdl hd1 ⊢
  obtain ⟨f, hf⟩ : ∃ f, Hid (nh a b c d = f) := ⟨_, Lib.hid rfl⟩
  rw [hf.out] at hnl hn64 hlen hhead hix hfit
  obtain ⟨W, hW, hX, hR, hN, hB⟩ := three_boxes w 156 153 153 (u64s a b c d) (List.replicate 32 (.int .u8 0)) (List.replicate 32 (.int .u8 0))
  rw [← padH_zero] at hN
  subst hW
  replace hT := Lib.hid hT
  replace hnl := Lib.hid hnl
  replace hn64 := Lib.hid hn64
  replace hlen := Lib.hid hlen
  replace hfit := Lib.hid hfit
  replace hhead := Lib.hid hhead
  replace hix := Lib.hid hix
  replace hdat := Lib.hid hdat
  replace hX := Lib.hid hX
  replace hR := Lib.hid hR
  replace hN := Lib.hid hN
  replace hB := Lib.hid hB
  go_enter Tryz.func102, Tryz.ntmps102
  go_wp2_with (with_reducible refine zCopy _ _ _ _ rfl ?_)
  refine Lib.hid ?_
  refine wpList_copy_text rfl _ _ rfl (w.heap.size + 1 + 1) 0 32 32 rfl ⟨#[0x57, 0x53]⟩ rfl (by decide) 153 _ hN.out (by rw [padH_len _ (by simp)]; decide) ?_
  intro W2 hN2 hk2 hsz2
  replace hk2 := hk2 (fun q => q = w.heap.size + 1 + 1) _ (.inl rfl) (Kept.refl _ _)
  have hX2 := Lib.hid (hX.out.of_kept hk2 (by omega))
  have hR2 := Lib.hid (hR.out.of_kept hk2 (by omega))
  have hB2 := Lib.hid (hB.out.trans (hk2.below hB.out.size (fun k e => by omega)))
  have hN3 : Hid (Whole W2 (w.heap.size + 1 + 1) 153 (padH (preH f 0))) := Lib.hid (by
    have e := padH_more [] [0x57, 0x53] (by simp)
    rw [List.nil_append] at e
    exact e ▸ hN2)
  clear hX hR hN hB hN2 hk2 hsz2
  go_wp2_with (with_reducible refine zLoad 156 _ rfl ?_)
  refine Lib.hid ?_
  refine wpList_load_mid rfl 156 _ rfl w.heap.size 0 rfl (u64s a b c d) _ hX2.out.range Tryz.underlying156 rfl sizeN4 ?_
  go_wp2_with fail
  clear hX2
  go_loopg [4, 11] 4 (fun ga p i wr => ∃ k : Nat, k ≤ 4 ∧ 4 ≤ k + ga ∧ p = .int .i64 ((ofH k : Nat) : Int) ∧ i = .int .i64 k ∧ Hid (Whole wr (w.heap.size + 1 + 1) 153 (padH (preH f k)) ∧ Whole wr (w.heap.size + 1) 153 (List.replicate 32 (.int .u8 0)) ∧ Below w.heap.size w wr))
  case atStart => exact ⟨0, by omega, by omega, rfl, rfl, Lib.hid ⟨hN3.out, hR2.out, hB2.out⟩⟩
  case round =>
    clear hN3 hR2 hB2
    obtain ⟨k, hk, hg, rfl, rfl, hrow⟩ := hrel
    by_cases hlt : k < 4
    · obtain ⟨hw1, hw2, hw3, hw4⟩ := ofH_le k hlt
      have hnx := Lib.hid (ofH_next k hlt)
      have hlk := Lib.hid (hlen.out k hk)
      have hi := hix.out k hlt
      have hfk := hfit.out k hlt (hnl.out k)
      have hvl := hn64.out k
      have c0 := hT.out.below hrow.out.2.2 k hlt
      have c1 : wr.drew.cell? ⟨0, k, none⟩ = some (.int .i64 (wdH k : Nat)) := c0
      have hgne : Hid (0 ≠ w.heap.size + 1 + 1) := Lib.hid (by
        have h : 0 < w.heap.size := World.block_lt_of_cell? w _ (hT.out k hlt)
        omega)
      have hmore := padH_more (preH f k) (fx (f k : Int) (wdH k)) (by rw [hlk.out, fx_length]; omega)
      have hpre : preH f (k + 1) = preH f k ++ fx (f k : Int) (wdH k) := rfl
      rw [hlk.out, ← hpre] at hmore
      clear hpre
      have hpl := padH_len (preH f k) (by rw [hlk.out]; omega)
      obtain ⟨p, hp⟩ : ∃ p : Nat, Hid (ofH k = p) := ⟨_, Lib.hid rfl⟩
      obtain ⟨n, hn⟩ : ∃ n : Nat, Hid (wdH k = n) := ⟨_, Lib.hid rfl⟩
      obtain ⟨v, hv⟩ : ∃ v : Nat, Hid (f k = v) := ⟨_, Lib.hid rfl⟩
      rw [hv.out] at hvl hi hfk hmore
      rw [hp.out] at hmore hw1 hw4 ⊢
      rw [hn.out] at c0 c1 hw1 hw2 hw3 hfk hmore
      rw [hp.out, hn.out] at hnx
      have hfx := Lib.hid (fun W => hFixed_any (v : Int) (n : Nat) W (by omega) (by omega) hfk)
      rw [Int.toNat_natCast] at hfx
      have hfz : (B (fx (v : Int) n)).size = n := fx_size _ _
      have hFd := B_data (fx (v : Int) n)
      obtain ⟨F, hF⟩ : ∃ F, Hid (B (fx (v : Int) n) = F) := ⟨_, Lib.hid rfl⟩
      rw [hF.out] at hfx hfz hFd
      rw [← hFd] at hmore
      have hsl := laidH_from (w.heap.size + 1 + 1) p (by omega)
      have hm : Hid (Nat.min F.size (32 - p) = n) := Lib.hid (by rw [hfz]; exact Nat.min_eq_left (by omega))
      have hth : Hid (wr.there (w.heap.size + 1 + 1) p n) := Lib.hid (hrow.out.1.there p n (by rw [hpl]; omega))
      have hFl : F.data.toList.length = n := by simpa using hfz
      have hF4 : Hid (F.data.toList.take n = F.data.toList) := Lib.hid (List.take_of_length_le (by omega))
      have hps : IntKind.i64.wrap ((p : Int) + (n : Int)) = (p : Int) + (n : Int) := IntWalk.i64_in _ (by omega)
      have hp4 : Hid (((ofH (k + 1) : Nat) : Int) = (p : Int) + (n : Int)) := Lib.hid (by rw [hnx.out]; omega)
      replace hmore := Lib.hid hmore
      replace hpl := Lib.hid hpl
      replace hFl := Lib.hid hFl
      clear hp hn hv hfk hFd hF
      go_wp2_with fail
      go_region_held3 (fun w' => w'.cell? ⟨0, k, none⟩ = some (.int .i64 (n : Nat))) (first | exact c0 | exact c1 | exact c5 | exact c6) (first
        | (go_at_call 136; (with_reducible refine (hfx.out _).mono ?_); rintro e w5 ⟨rfl, hb5⟩; have hb5 : Below wr.heap.size wr w5 := ⟨hb5.os, hb5.tape, hb5.output, hb5.size, hb5.block⟩; have hN5 := Lib.hid (hrow.out.1.below hb5 hrow.out.1.lt); have hth5 : Hid (w5.there (w.heap.size + 1 + 1) p n) := Lib.hid (hN5.out.there p n (by rw [hpl.out]; omega)); have c5 := keepZ hb5 c0; have c6 : (w5.setCells (w.heap.size + 1 + 1) p (bytesV (F.data.toList.take n))).cell? ⟨0, k, none⟩ = some (.int .i64 (n : Nat)) := (cell_far hgne.out).trans c5)
        | (refine step_copy_str (by rfl) _ _ _ _ (by rfl) 5 Tryz.underlying148 sizeU8' (w.heap.size + 1 + 1) p (32 - p) (32 - p) (by rfl) F (by rfl) n hm.out hth5.out ?_))
      rw [hF4.out]
      have hN6 : Hid (Whole (w5.setCells (w.heap.size + 1 + 1) p (bytesV F.data.toList)) (w.heap.size + 1 + 1) 153 (padH (preH f (k + 1)))) := Lib.hid (by
        have h := hN5.out.store p (bytesV F.data.toList) (by rw [bytesV_len, hFl.out, hpl.out]; omega)
        rw [hmore.out] at h
        exact h)
      have hR6 := Lib.hid ((hrow.out.2.1.below hb5 hrow.out.2.1.lt).far (c := w.heap.size + 1 + 1) (by omega) p (bytesV F.data.toList))
      have hB6 := Lib.hid (below_store (grew hrow.out.2.2 hb5) (c := w.heap.size + 1 + 1) (by omega) (Nat.le_refl _) p (bytesV F.data.toList))
      clear hN5 hth5 hb5 c0 c1 c5 c6
      generalize w5.setCells (w.heap.size + 1 + 1) p (bytesV F.data.toList) = W6 at *
      go_wp2_with fail
      go_roundg (gk - 1)
      case measure => omega
      case rel => exact ⟨k + 1, by omega, by omega, by rw [hp4.out], by go_num, Lib.hid ⟨hN6.out, hR6.out, hB6.out⟩⟩
    · obtain rfl : k = 4 := by omega
      rw [show ((ofH 4 : Nat) : Int) = 20 from rfl, show ((4 : Nat) : Int) = 4 from rfl]
      rw [hhead.out] at hrow
      have hhl := headH_len a b c d
      have hH : (B (headH a b c d)).size = 28 := by rw [B_size, hhl]
      have hcr := fun W => crc_any 0 (B (headH a b c d)) W (by omega) (by omega)
      rw [B_data] at hcr
      have hcl := crc_lt 0 (headH a b c d)
      have hcv : (convert 148 9 (.slice (some ⟨w.heap.size + 1 + 1, 0, none⟩) 28 32)).run Tryz.prog wr = .ok (.string (B (headH a b c d))) wr := by
        have h := run_convert_bytes_back (P := Tryz.prog) wr 148 9 5 ⟨w.heap.size + 1 + 1, 0, none⟩ 32 (headH a b c d) Tryz.underlying148 Tryz.underlying5 Tryz.underlying9 (fun j hj => by
          rw [show (⟨w.heap.size + 1 + 1, 0, none⟩ : Addr).add j = ⟨w.heap.size + 1 + 1, j, none⟩ from by simp [Addr.add]; try omega]
          rw [hrow.out.1.cell]
          exact padH_row _ _ hj)
        rw [hhl] at h
        exact h
      have hto : ∀ W : World, (Instr.sliceAt 153 (.pointer (some ⟨w.heap.size + 1 + 1, 0, none⟩)) none (some (.int .i64 28)) none).run Tryz.prog W = .ok (.slice (some ⟨w.heap.size + 1 + 1, 0, none⟩) 28 32) W := fun W => laidH_to (w.heap.size + 1 + 1) 28 (by omega) W
      have hsl : ∀ W : World, (Instr.sliceAt 153 (.pointer (some ⟨w.heap.size + 1 + 1, 0, none⟩)) (some (.int .i64 28)) none none).run Tryz.prog W = .ok (.slice (some ⟨w.heap.size + 1 + 1, 28, none⟩) 4 4) W := fun W => laidH_from (w.heap.size + 1 + 1) 28 (by omega) W
      have hNz : Hid ((padH (headH a b c d)).length = 32) := Lib.hid (padH_len _ (by omega))
      obtain ⟨C, hC⟩ : ∃ C : Nat, Hid (crc 0 (headH a b c d) = C) := ⟨_, Lib.hid rfl⟩
      rw [hC.out] at hcl hcr hdat
      have hfx : Hid (∀ W : World, Calls Tryz.prog 136 #[.int .u64 (C : Nat), .int .i64 4] W fun e w' => e = .returned (.string (B (fx (C : Nat) 4))) ∧ Below W.heap.size W w') := Lib.hid (fun W => hFixed_any (C : Int) 4 W (by omega) (by omega) (fits_small _ 4 (by show (C : Int) / 4294967296 = 0; omega) (by omega) (by omega)))
      have hfz : (B (fx (C : Int) 4)).size = 4 := fx_size _ _
      have hFd := B_data (fx (C : Int) 4)
      obtain ⟨F, hF⟩ : ∃ F, Hid (B (fx (C : Int) 4) = F) := ⟨_, Lib.hid rfl⟩
      rw [hF.out] at hfx hfz hFd
      have hsp := hdat.out
      rw [← hFd] at hsp
      replace hsp := Lib.hid hsp
      have hFl : F.data.toList.length = 4 := by simpa using hfz
      have hm : Hid (Nat.min F.size 4 = 4) := Lib.hid (by rw [hfz]; rfl)
      have hF4 : Hid (F.data.toList.take 4 = F.data.toList) := Lib.hid (List.take_of_length_le (by omega))
      obtain ⟨H, hHH⟩ : ∃ H, Hid (B (headH a b c d) = H) := ⟨_, Lib.hid rfl⟩
      rw [hHH.out] at hcv hcr hH
      replace hcr : ∀ W : World, Calls Tryz.prog 137 #[.int .u32 0, .string H] W fun e w' => e = .returned (.int .u32 (C : Nat)) ∧ W = w' := fun W => hcr W
      replace hcr := Lib.hid hcr
      have hcu : IntKind.u64.wrap ((C : Nat) : Int) = (C : Nat) := IntWalk.u64_in _ (by omega)
      generalize padH (headH a b c d) = PH at *
      clear hhl hdat hix hnl hhead hlen hfit hn64 hFd hF
      go_wp2_with fail
      refine (hcr.out _).mono ?_
      rintro e w4 ⟨rfl, rfl⟩
      go_wp2_with fail
      go_region_held3 (fun w' => True) (trivial) (first
        | (go_at_call 136; (with_reducible refine (hfx.out _).mono ?_); rintro e w5 ⟨rfl, hb5⟩; have hb5 : Below wr.heap.size wr w5 := ⟨hb5.os, hb5.tape, hb5.output, hb5.size, hb5.block⟩; have hN5 := Lib.hid (hrow.out.1.below hb5 hrow.out.1.lt); have hth5 : Hid (w5.there (w.heap.size + 1 + 1) 28 4) := Lib.hid (hN5.out.there 28 4 (by rw [hNz.out]; omega)))
        | (refine step_copy_str (by rfl) _ _ _ _ (by rfl) 5 Tryz.underlying148 sizeU8' (w.heap.size + 1 + 1) 28 4 4 (by rfl) F (by rfl) 4 hm.out hth5.out ?_))
      rw [hF4.out]
      have hN6 : Hid (Whole (w5.setCells (w.heap.size + 1 + 1) 28 (bytesV F.data.toList)) (w.heap.size + 1 + 1) 153 D) := Lib.hid (by
        have h := hN5.out.store 28 (bytesV F.data.toList) (by rw [bytesV_len, hFl, hNz.out]; omega)
        rw [hsp.out] at h
        exact h)
      have hR6 := Lib.hid ((hrow.out.2.1.below hb5 hrow.out.2.1.lt).far (c := w.heap.size + 1 + 1) (by omega) 28 (bytesV F.data.toList))
      have hB6 := Lib.hid (below_store (grew hrow.out.2.2 hb5) (c := w.heap.size + 1 + 1) (by omega) (Nat.le_refl _) 28 (bytesV F.data.toList))
      clear hN5 hth5 hb5 hcv hsl hto hcr
      generalize w5.setCells (w.heap.size + 1 + 1) 28 (bytesV F.data.toList) = W6 at *
      go_wp2_with (with_reducible refine zLoad 153 _ rfl ?_)
      refine Lib.hid ?_
      refine wpList_load_mid rfl 153 _ rfl (w.heap.size + 1 + 1) 0 rfl D _ hN6.out.range Tryz.underlying153 rfl (by rw [hdl.out]; exact sizeL32) ?_
      go_wp2_with (with_reducible refine zStore 153 _ _ rfl ?_)
      refine Lib.hid ?_
      refine wpList_store_mid rfl 153 _ _ rfl (w.heap.size + 1) 0 D.toArray rfl rfl (hR6.out.there 0 D.toArray.size (by simp [hdl.out])) (by rw [List.size_toArray, hdl.out]; exact sizeL32) (all_oneCell_toArray hd1.out) ?_
      go_wp2_with fail
      have hfin := whole_all hR6.out (vs := D) (by rw [hdl.out]; rfl)
      exact bodyPost_ret (result_cell Tryz.results102 rfl hfin.range Tryz.underlying153 rfl (by rw [hdl.out]; exact sizeL32)) rfl ⟨rfl, below_store hB6.out (by omega) (Nat.le_refl _) 0 _⟩
end Go.Proofs.YtbbhnbdekblghaaGreatDoor.W
end
section
section
namespace Go.Proofs.YtbbhnbdekblghaaGreatDoor.W
open Go.RowKit
open Go.Proofs.YtbbhnbdekblghaaGreatDoor.M Go.Proofs.YtbbhnbdekblghaaGreatDoor.D Go.Proofs.YtbbhnbdekblghaaGreatDoor.Z
set_option linter.unusedVariables false

theorem laidH_part (b p n : Nat) (hn : p + n ≤ 32) (hp : p < 32) (w : World) :
    (Instr.sliceAt 153 (.pointer (some ⟨b, 0, none⟩)) (some (.int .i64 (p : Int))) (some (.int .i64 ((p : Int) + (n : Int)))) none).run Tryz.prog w = .ok (.slice (some ⟨b, p, none⟩) n (32 - p)) w := by
  rw [run_sliceAt_array_lh w 153 ⟨b, 0, none⟩ (by rw [lenL32, elemL32]; exact Tryz.underlying153) .i64 .i64 (p : Int) ((p : Int) + (n : Int)) (by omega) (by omega) (by rw [lenL32]; omega), elemL32, sizeOf1, lenL32]
  have hne : ¬ 32 = p := by omega
  have e1 : ((p : Int) + (n : Int)).toNat = p + n := by omega
  simp [slicedAt, Result.andThen, Addr.add_mid, hne, e1]
theorem set_one (cur : List Value) (j : Nat) (v : Value) (h : j < cur.length) : splice cur j [v] = cur.set j v := by
  unfold splice
  rw [List.set_eq_take_append_cons_drop, if_pos h]
  rfl
set_option maxRecDepth 100000 in
set_option maxHeartbeats 4000000 in
theorem readH_any (x : ByteArray) (w : World) (hT : Wide w) (hx : x.size = 32) :
    Calls Tryz.prog 167 #[.agg (bytesV x.data.toList).toArray] w fun e w' => e = .returned (.agg #[.int .u64 (numH x 0 : Nat), .int .u64 (numH x 1 : Nat), .int .u64 (numH x 2 : Nat), .int .u64 (numH x 3 : Nat)]) ∧ Below w.heap.size w w' := by
  have hxl : (bytesV x.data.toList).length = 32 := by rw [bytesV_len]; simpa using hx
  have hfin : Hid (toldH x 4 = u64s (numH x 0 : Nat) (numH x 1 : Nat) (numH x 2 : Nat) (numH x 3 : Nat)) := Lib.hid rfl
  have hnl := Lib.hid (numH_lt x)
  have hnd : Hid (∀ i, M.rd (x.extract (ofH i) (ofH i + wdH i)).data.toList = numH x i) := Lib.hid fun i => rfl
  have hix := index4 191 3 Tryz.underlying191 sizeI64' aggI64 .i64 2 4 4 8
  replace hix : Hid (∀ k : Nat, k < 4 → ∀ W : World, (Instr.index 191 (.agg #[.int .i64 2, .int .i64 4, .int .i64 4, .int .i64 8]) (.int .i64 (k : Int))).run Tryz.prog W = .ok (.int .i64 (wdH k : Nat)) W) := Lib.hid (fun k hk W => by
    have h := hix k hk W
    rw [nh_wd] at h
    exact h)
  obtain ⟨f, hf⟩ : ∃ f, Hid (numH x = f) := ⟨_, Lib.hid rfl⟩
  rw [hf.out] at hfin hnl hnd ⊢
  obtain ⟨a, e0⟩ : ∃ a, Hid (f 0 = a) := ⟨_, Lib.hid rfl⟩
  obtain ⟨b, e1⟩ : ∃ a, Hid (f 1 = a) := ⟨_, Lib.hid rfl⟩
  obtain ⟨c, e2⟩ : ∃ a, Hid (f 2 = a) := ⟨_, Lib.hid rfl⟩
  obtain ⟨d, e3⟩ : ∃ a, Hid (f 3 = a) := ⟨_, Lib.hid rfl⟩
  rw [e0.out, e1.out, e2.out, e3.out] at hfin ⊢
  have hset := Lib.hid (toldH_set x)
  rw [hf.out] at hset
  have hat := Lib.hid (toldH_at x)
  obtain ⟨X, hXX⟩ : ∃ X, Hid (bytesV x.data.toList = X) := ⟨_, Lib.hid rfl⟩
  rw [hXX.out] at hxl ⊢
  obtain ⟨W, hW, hX, hR, hN, hB⟩ := three_boxes w 153 156 156 X (u64s 0 0 0 0) (u64s 0 0 0 0)
  have hTW := hT.below hB
  have d0 : W.cell? ⟨0, 0, none⟩ = some (.int .i64 2) := hTW 0 (by decide)
  have d1 : W.cell? ⟨0, 1, none⟩ = some (.int .i64 4) := hTW 1 (by decide)
  have d2 : W.cell? ⟨0, 2, none⟩ = some (.int .i64 4) := hTW 2 (by decide)
  have d3 : W.cell? ⟨0, 3, none⟩ = some (.int .i64 8) := hTW 3 (by decide)
  subst hW
  replace hX := Lib.hid hX
  replace hR := Lib.hid hR
  replace hN := Lib.hid hN
  replace hB := Lib.hid hB
  clear hTW hT
  go_enter Tryz.func167, Tryz.ntmps167
  go_wp2_with fail
  go_loopg [4, 8] 4 (fun ga p i wr => ∃ k : Nat, k ≤ 4 ∧ 4 ≤ k + ga ∧ p = .int .i64 ((ofH k : Nat) : Int) ∧ i = .int .i64 k ∧ Hid (Whole wr (w.heap.size + 1 + 1) 156 (toldH x k) ∧ Whole wr (w.heap.size + 1) 156 (u64s 0 0 0 0) ∧ Whole wr w.heap.size 153 X ∧ Below w.heap.size w wr))
  case atStart => exact ⟨0, by omega, by omega, rfl, rfl, Lib.hid ⟨hN.out, hR.out, hX.out, hB.out⟩⟩
  case round =>
    clear hN hR hX hB d0 d1 d2 d3
    obtain ⟨k, hk, hg, rfl, rfl, hrow⟩ := hrel
    by_cases hlt : k < 4
    · obtain ⟨hw1, hw2, hw3, hw4⟩ := ofH_le k hlt
      have hnx := Lib.hid (ofH_next k hlt)
      have hi := hix.out k hlt
      have hc : wr.cell? ⟨w.heap.size + 1 + 1, k, none⟩ = some (.int .u64 0) := (hrow.out.1.cell k).trans (hat.out k hlt)
      have hfr := hrow.out.1.frozen k
      have hnd5 := Lib.hid (hnd.out k)
      obtain ⟨v, hv⟩ : ∃ v : Nat, Hid (f k = v) := ⟨_, Lib.hid rfl⟩
      obtain ⟨p, hp⟩ : ∃ p : Nat, Hid (ofH k = p) := ⟨_, Lib.hid rfl⟩
      obtain ⟨n, hn⟩ : ∃ n : Nat, Hid (wdH k = n) := ⟨_, Lib.hid rfl⟩
      rw [hp.out] at hw1 hw4 hnd5 ⊢
      rw [hn.out] at hw1 hw2 hw3 hnd5 hi
      rw [hp.out, hn.out] at hnx
      rw [hv.out] at hnd5
      have hsl := laidH_part w.heap.size p n (by omega) (by omega)
      have hez : (x.extract p (p + n)).size = n := by simp; omega
      have hcv : (convert 148 9 (.slice (some ⟨w.heap.size, p, none⟩) n (32 - p))).run Tryz.prog wr = .ok (.string (x.extract p (p + n))) wr := by
        have hel : (x.extract p (p + n)).data.toList.length = n := by rw [Array.length_toList]; exact hez
        have h := run_convert_bytes_back (P := Tryz.prog) wr 148 9 5 ⟨w.heap.size, p, none⟩ (32 - p) (x.extract p (p + n)).data.toList Tryz.underlying148 Tryz.underlying5 Tryz.underlying9 (fun j hj => by
          rw [show (⟨w.heap.size, p, none⟩ : Addr).add j = ⟨w.heap.size, p + j, none⟩ from by simp [Addr.add]; try omega]
          rw [hrow.out.2.2.1.cell, ← hXX.out]
          rw [hel] at hj
          have hl : x.data.toList.length = 32 := by simpa using hx
          have e : (x.extract p (p + n)).data.toList = (x.data.toList.drop p).take n := by rw [ext_list]; congr 1; omega
          have e2 : (x.extract p (p + n)).data.toList[j]? = x.data.toList[p + j]? := by rw [e, List.getElem?_take, if_pos hj, List.getElem?_drop]
          unfold bytesV
          rw [List.getElem?_map, ← e2, List.getElem?_eq_getElem (by rw [hel]; exact hj)]
          rfl)
        rw [hel] at h
        have h' : (convert 148 9 (.slice (some ⟨w.heap.size, p, none⟩) n (32 - p))).run Tryz.prog wr = .ok (.string (B (x.extract p (p + n)).data.toList)) wr := h
        rw [B_of] at h'
        exact h'
      obtain ⟨Q, hQ⟩ : ∃ Q, Hid (x.extract p (p + n) = Q) := ⟨_, Lib.hid rfl⟩
      rw [hQ.out] at hez hcv hnd5
      have hst : Hid (Whole (wr.setCell ⟨w.heap.size + 1 + 1, k, none⟩ (.int .u64 (v : Nat))) (w.heap.size + 1 + 1) 156 (toldH x (k + 1))) := Lib.hid (by
        have h := hrow.out.1.store k [.int .u64 (v : Nat)] (by rw [toldH_len]; simp; omega)
        rw [set_one _ _ _ (by rw [toldH_len]; exact hlt)] at h
        have e := hset.out k
        rw [hv.out] at e
        rw [e] at h
        exact h)
      have hR2 : Hid (Whole (wr.setCell ⟨w.heap.size + 1 + 1, k, none⟩ (.int .u64 (v : Nat))) (w.heap.size + 1) 156 (u64s 0 0 0 0)) := Lib.hid (hrow.out.2.1.far (c := w.heap.size + 1 + 1) (by omega) k [.int .u64 (v : Nat)])
      have hX2 : Hid (Whole (wr.setCell ⟨w.heap.size + 1 + 1, k, none⟩ (.int .u64 (v : Nat))) w.heap.size 153 X) := Lib.hid (hrow.out.2.2.1.far (c := w.heap.size + 1 + 1) (by omega) k [.int .u64 (v : Nat)])
      have hB2 : Hid (Below w.heap.size w (wr.setCell ⟨w.heap.size + 1 + 1, k, none⟩ (.int .u64 (v : Nat)))) := Lib.hid (below_store hrow.out.2.2.2 (c := w.heap.size + 1 + 1) (by omega) (Nat.le_refl _) k [.int .u64 (v : Nat)])
      have hps : IntKind.i64.wrap ((p : Int) + (n : Int)) = (p : Int) + (n : Int) := IntWalk.i64_in _ (by omega)
      have hp4 : Hid (((ofH (k + 1) : Nat) : Int) = (p : Int) + (n : Int)) := Lib.hid (by rw [hnx.out]; omega)
      clear hp hn hv hQ
      go_wp2_with fail
      refine (read_any _ _ (by omega) (by omega)).mono ?_
      rintro ee w5 ⟨rfl, rfl⟩
      rw [hnd5.out]
      go_wp2_with fail
      go_roundg (gk - 1)
      case measure => omega
      case rel => exact ⟨k + 1, by omega, by omega, by rw [hp4.out], by go_num, Lib.hid ⟨hst.out, hR2.out, hX2.out, hB2.out⟩⟩
    · obtain rfl : k = 4 := by omega
      rw [hfin.out] at hrow
      rw [show ((ofH 4 : Nat) : Int) = 20 from rfl, show ((4 : Nat) : Int) = 4 from rfl]
      clear hat hset hnd hnl hfin
      go_wp2_with (with_reducible refine zLoad 156 _ rfl ?_)
      refine Lib.hid ?_
      refine wpList_load_mid rfl 156 _ rfl (w.heap.size + 1 + 1) 0 rfl (u64s a b c d) _ hrow.out.1.range Tryz.underlying156 rfl sizeN4 ?_
      go_wp2_with (with_reducible refine zStore 156 _ _ rfl ?_)
      refine Lib.hid ?_
      refine wpList_store_mid rfl 156 _ _ rfl (w.heap.size + 1) 0 (u64s a b c d).toArray rfl rfl (hrow.out.2.1.there 0 4 (by simp)) sizeN4 (all_oneCell_toArray (u64s_one a b c d)) ?_
      go_wp2_with fail
      have hend := whole_all hrow.out.2.1 (vs := u64s a b c d) rfl
      exact bodyPost_ret (result_cell Tryz.results167 rfl hend.range Tryz.underlying156 rfl sizeN4) rfl ⟨rfl, below_store hrow.out.2.2.2 (by omega) (Nat.le_refl _) 0 _⟩
end Go.Proofs.YtbbhnbdekblghaaGreatDoor.W
end
section
namespace Go.Proofs.YtbbhnbdekblghaaGreatDoor.W
open Go.RowKit Go.Sort
open Go.Proofs.YtbbhnbdekblghaaGreatDoor.M Go.Proofs.YtbbhnbdekblghaaGreatDoor.D Go.Proofs.YtbbhnbdekblghaaGreatDoor.Z
set_option linter.unusedVariables false

/-- A text that may be longer than what it is copied into. -/
theorem wpList_copy_long {w : World} {ops : Array Oper} {rest : List Oper} {o : Oper} {a : Act} {Q : Exit → Act → World → Prop} (hgd : o.guard = none) (d x : Operand)
    (ho : o.op = .call { callee := .builtin .copy, args := #[d, x], argTypes := #[148, 9] }) (b off dLen dCap : Nat) (hd : a.eval d = .slice (some ⟨b, off, none⟩) dLen dCap) (s : ByteArray) (hx : a.eval x = .string s) (m : Nat) (hm : Nat.min s.size dLen = m)
    (t : TypeId) (cs : List Value) (hW : Whole w b t cs) (hl : off + m ≤ cs.length) (hml : m ≤ s.size)
    (h : ∀ w2, Whole w2 b t (splice cs off (bytesV (s.data.toList.take m))) → (∀ own : Nat → Prop, ∀ w0, (own b ∨ w0.heap.size ≤ b) → Kept own w0 w → Kept own w0 w2) → w2.heap.size = w.heap.size → wpList Tryz.prog ops Q rest (a.put o.dst (goInt m)) w2) :
    wpList Tryz.prog ops Q (o :: rest) a w := by
  refine wpList_plain hgd fun K hK => ?_
  have hth := hW.there off m hl
  have hrun := run_copy_str (P := Tryz.prog) w 148 9 o.type 5 b off dLen dCap s m Tryz.underlying148 sizeU8' hm (fun j hj => (hth j hj).1) (fun j hj => (hth j hj).2)
  unfold Oper.wp
  simp [execOp, ho, resolve, invoke, builtin, hd, hx, hrun, Result.andThen]
  have hsz : (bytesV (s.data.toList.take m)).length = m := by
    rw [bytesV_len, List.length_take, Array.length_toList]
    exact Nat.min_eq_left hml
  have h2 := h _ (hW.store off (bytesV (s.data.toList.take m)) (by rw [hsz]; exact hl)) (fun own w0 hb hk => hk.setCells hb _ _) (size_setCells _ _ _ _)
  exact hK _ _ h2
theorem sizeH4 : (Tryz.prog.info? 79).map (·.size) = some 4 := by kernel_rfl
abbrev hdr (a g s b : Int) : List Value := [.int .i64 a, .int .u32 g, .int .u32 s, .int .i64 b]
theorem hdr_one (a g s b : Int) : ∀ v ∈ hdr a g s b, v.oneCell' = true := by intro v hv; simp at hv; rcases hv with h | h | h | h <;> rw [h] <;> rfl
theorem okH_yes (a b : Nat) (h0 : 1 ≤ a) (h1 : a < 65536) (h2 : b ≤ 1099511627776) : okH (a : Int) (b : Int) = true := by
  unfold okH; simp; omega
set_option maxRecDepth 100000 in
set_option maxHeartbeats 4000000 in
theorem encH_yes (a g s b : Nat) (w : World) (hT : Wide w) (h0 : 1 ≤ a) (ha : a < 65536) (hg : g < 4294967296) (hs : s < 4294967296) (hb : b ≤ 1099511627776) :
    Calls Tryz.prog 53 #[.agg #[.int .i64 (a : Int), .int .u32 (g : Int), .int .u32 (s : Int), .int .i64 (b : Int)]] w fun x w' => x = .returned (.tuple #[.string (B (headerL a g s b)), .int .i64 0]) ∧ Below w.heap.size w w' := by
  have hm : ∀ W : World, Calls Tryz.prog 100 #[.agg #[.int .i64 (a : Int), .int .u32 (g : Int), .int .u32 (s : Int), .int .i64 (b : Int)]] W fun x w' => x = .returned (.bool true) ∧ Below W.heap.size W w' := fun W => by
    have h := mayBe_any a g s b W
    rw [okH_yes a b h0 ha hb] at h
    exact h
  have hn := Lib.hid (fun W => numbersOfH_any a g s b W ha hg hs hb)
  have hl := fun W hW => layH_any a g s b W hW ha hg hs (by omega)
  have hdl := headerL_len a g s b
  obtain ⟨D, hD⟩ : ∃ D, Hid (headerL a g s b = D) := ⟨_, Lib.hid rfl⟩
  rw [hD.out] at hl hdl ⊢
  have hvl : Hid ((bytesV D).length = 32) := Lib.hid (by rw [bytesV_len, hdl])
  replace hm := Lib.hid hm
  replace hl := Lib.hid hl
  replace hT := Lib.hid hT
  replace hdl := Lib.hid hdl
  clear h0 ha hg hs hb
  go_enter Tryz.func53, Tryz.ntmps53
  go_wp2_with fail
  have hX := Whole.new w 79 (hdr a g s b)
  have hB := (Below.refl w.heap.size w).alloc (Nat.le_refl _) (.cells (hdr a g s b).toArray 79)
  refine (hm.out _).mono ?_
  rintro ee w1 ⟨rfl, hb1⟩
  replace hX := hX.below hb1 hX.lt
  replace hB := grew hB hb1
  clear hb1
  have q0 := hX.cell 0
  have q1 := hX.cell 1
  have q2 := hX.cell 2
  have q3 := hX.cell 3
  simp at q0 q1 q2 q3
  go_wp2_with fail
  refine (hn.out _).mono ?_
  rintro ee w2 ⟨rfl, hb2⟩
  replace hB := grew hB hb2
  clear hb2 hX q0 q1 q2 q3
  go_wp2_with fail
  refine (hl.out _ (hT.out.below hB)).mono ?_
  rintro ee w3 ⟨rfl, hb3⟩
  replace hB := grew hB hb3
  clear hb3
  go_wp2_with (with_reducible refine zStore 153 _ _ rfl ?_)
  refine Lib.hid ?_
  refine wpList_fresh rfl 153 _ _ rfl w3.heap.size rfl (bytesV D) rfl w3 _ rfl rfl (by rw [hvl.out]; rfl) (by rw [hvl.out]; exact sizeL32) (bytesV_one D) ?_
  intro w4 hN hb4 hsz4
  replace hB := grew hB hb4
  clear hb4 hsz4
  have hcv : (convert 148 9 (.slice (some ⟨w3.heap.size, 0, none⟩) 32 32)).run Tryz.prog w4 = .ok (.string (B D)) w4 := by
    have h := (rowOf hN).back (P := Tryz.prog) 148 9 5 32 32 hdl.out.symm Tryz.underlying148 Tryz.underlying5 Tryz.underlying9
    exact h
  replace hB := Lib.hid hB
  clear hN
  go_wp2_with fail
  go_ret2
  exact ⟨rfl, hB.out⟩
theorem encH_no (a g s b : Int) (w : World) (h : okH a b = false) :
    Calls Tryz.prog 53 #[.agg #[.int .i64 a, .int .u32 g, .int .u32 s, .int .i64 b]] w fun x w' => x = .returned (.tuple #[.string ⟨#[]⟩, .int .i64 1]) ∧ Below w.heap.size w w' := by
  have hm : Hid (∀ W : World, Calls Tryz.prog 100 #[.agg #[.int .i64 a, .int .u32 g, .int .u32 s, .int .i64 b]] W fun x w' => x = .returned (.bool false) ∧ Below W.heap.size W w') := Lib.hid (fun W => by
    have h' := mayBe_any a g s b W
    rw [h] at h'
    exact h')
  have hB := Lib.hid ((Below.refl w.heap.size w).alloc (Nat.le_refl _) (.cells (hdr a g s b).toArray 79))
  go_enter Tryz.func53, Tryz.ntmps53
  go_wp2_with fail
  refine (hm.out _).mono ?_
  rintro ee w1 ⟨rfl, hb1⟩
  replace hB := Lib.hid (grew hB.out hb1)
  clear hb1
  go_wp2_with fail
  go_ret2
  exact ⟨rfl, hB.out⟩
set_option maxRecDepth 100000 in
set_option maxHeartbeats 4000000 in
theorem decH_short (s : ByteArray) (w : World) (hs : s.size < 32) :
    Calls Tryz.prog 142 #[.string s] w fun x w' => x = .returned (.tuple #[.agg #[.int .i64 0, .int .u32 0, .int .u32 0, .int .i64 0], .int .i64 3]) ∧ Below w.heap.size w w' := by
  have hR := Whole.new w 79 (hdr 0 0 0 0)
  have hB := (Below.refl w.heap.size w).alloc (Nat.le_refl _) (.cells (hdr 0 0 0 0).toArray 79)
  obtain ⟨W, hW⟩ : ∃ W, Hid (W = w.alloc (.cells (hdr 0 0 0 0).toArray 79)) := ⟨_, Lib.hid rfl⟩
  rw [← hW.out] at hR hB
  have hz1 : (s.size : Int) < 32 := by omega
  replace hR := Lib.hid hR
  replace hB := Lib.hid hB
  go_enter Tryz.func142, Tryz.ntmps142
  go_wp2_with (with_reducible refine zStore 79 _ _ rfl ?_)
  rw [← hW.out]
  clear hW
  refine Lib.hid ?_
  refine wpList_store_mid rfl 79 _ _ rfl w.heap.size 0 (hdr 0 0 0 0).toArray rfl rfl (hR.out.there 0 4 (by simp)) sizeH4 (all_oneCell_toArray (hdr_one 0 0 0 0)) ?_
  go_wp2_with fail
  have hfin := whole_all hR.out (vs := hdr 0 0 0 0) rfl
  exact bodyPost_ret (result_cell_tmp Tryz.results142 rfl rfl hfin.range Tryz.underlying79 rfl sizeH4) rfl ⟨rfl, below_store hB.out (Nat.le_refl _) (Nat.le_refl _) 0 _⟩
end Go.Proofs.YtbbhnbdekblghaaGreatDoor.W
end
section
namespace Go.Proofs.YtbbhnbdekblghaaGreatDoor.W
open Go.RowKit Go.Sort
open Go.Proofs.YtbbhnbdekblghaaGreatDoor.M Go.Proofs.YtbbhnbdekblghaaGreatDoor.D Go.Proofs.YtbbhnbdekblghaaGreatDoor.Z
set_option linter.unusedVariables false

set_option maxRecDepth 100000 in
set_option maxHeartbeats 4000000 in
theorem decH_yes (s X : ByteArray) (w : World) (hT : Wide w) (hs : 32 ≤ s.size) (hX : s.extract 0 32 = X) (hk : okH (numH X 0 : Nat) (wrap64 (numH X 3 : Nat)) = true) (h1 : X.data.toList = headerL (numH X 0) (numH X 1) (numH X 2) (numH X 3)) :
    Calls Tryz.prog 142 #[.string s] w fun x w' => x = .returned (.tuple #[.agg #[.int .i64 (numH X 0 : Nat), .int .u32 (numH X 1 : Nat), .int .u32 (numH X 2 : Nat), .int .i64 (wrap64 (numH X 3 : Nat))], .int .i64 0]) ∧ Below w.heap.size w w' := by
  have hxz : X.size = 32 := by rw [← hX]; simp; omega
  have hxl : X.data.toList.length = 32 := by rw [Array.length_toList]; exact hxz
  have hrd := fun W hW => readH_any X W hW hxz
  have hnl := numH_lt X
  have hly := fun W hW => layH_any (numH X 0) (numH X 1) (numH X 2) (numH X 3) W hW (hnl 0) (hnl 1) (hnl 2) (hnl 3)
  have hho := fun W => headerOf_any (numH X 0) (numH X 1) (numH X 2) (numH X 3) W (hnl 0) (hnl 1) (hnl 2) (hnl 3)
  have hdl := headerL_len (numH X 0) (numH X 1) (numH X 2) (numH X 3)
  have heq := equal_bytes 153 32 Tryz.underlying153 X.data.toList (headerL (numH X 0) (numH X 1) (numH X 2) (numH X 3)) hxl hdl
  have htk : s.data.toList.take 32 = X.data.toList := by rw [← hX, ext_list]; rfl
  obtain ⟨E, hE⟩ : ∃ E, Hid (headerL (numH X 0) (numH X 1) (numH X 2) (numH X 3) = E) := ⟨_, Lib.hid rfl⟩
  rw [hE.out] at hly hdl heq h1
  obtain ⟨a, e0⟩ : ∃ a, Hid (numH X 0 = a) := ⟨_, Lib.hid rfl⟩
  obtain ⟨b, e1⟩ : ∃ a, Hid (numH X 1 = a) := ⟨_, Lib.hid rfl⟩
  obtain ⟨c, e2⟩ : ∃ a, Hid (numH X 2 = a) := ⟨_, Lib.hid rfl⟩
  obtain ⟨d, e3⟩ : ∃ a, Hid (numH X 3 = a) := ⟨_, Lib.hid rfl⟩
  rw [e0.out, e1.out, e2.out, e3.out] at hrd hly hho ⊢
  rw [e0.out, e3.out] at hk
  obtain ⟨z, hz⟩ : ∃ z : Int, Hid (wrap64 (d : Nat) = z) := ⟨_, Lib.hid rfl⟩
  rw [hz.out] at hho hk ⊢
  have hma : ∀ W : World, Calls Tryz.prog 100 #[.agg #[.int .i64 (a : Int), .int .u32 (b : Int), .int .u32 (c : Int), .int .i64 z]] W fun x w' => x = .returned (.bool true) ∧ Below W.heap.size W w' := fun W => by
    have h := mayBe_any a b c z W
    rw [hk] at h
    exact h
  rw [show decide (X.data.toList = E) = true from by simp [h1]] at heq
  obtain ⟨D1, hD1⟩ : ∃ x, Hid (bytesV X.data.toList = x) := ⟨_, Lib.hid rfl⟩
  obtain ⟨D2, hD2⟩ : ∃ x, Hid (bytesV E = x) := ⟨_, Lib.hid rfl⟩
  have hl1 : Hid (D1.length = 32) := Lib.hid (by rw [← hD1.out, bytesV_len, hxl])
  have hsp : Hid (splice (List.replicate 32 (Value.int .u8 0)) 0 D1 = D1) := Lib.hid (by unfold splice; rw [List.take_zero, List.nil_append, Nat.zero_add, hl1.out, List.drop_replicate]; simp)
  rw [hD1.out, hD2.out] at heq
  rw [hD1.out] at hrd
  rw [hD2.out] at hly
  have hsn : ¬ (s.size : Int) < 32 := by omega
  have hsg : (32 : Int) ≤ (s.size : Int) := by omega
  have hmin : Hid (Nat.min s.size 32 = 32) := Lib.hid (Nat.min_eq_right hs)
  replace htk := Lib.hid htk
  clear hnl hdl hxl hX hk h1
  replace hT := Lib.hid hT
  replace hrd := Lib.hid hrd
  replace hly := Lib.hid hly
  replace hho := Lib.hid hho
  replace hma := Lib.hid hma
  replace hxz := Lib.hid hxz
  have hR := (Whole.new w 79 (hdr 0 0 0 0)).alloc (.cells (List.replicate 32 (Value.int .u8 0)).toArray 153)
  have hL := Whole.new (w.alloc (.cells (hdr 0 0 0 0).toArray 79)) 153 (List.replicate 32 (Value.int .u8 0))
  rw [show (w.alloc (.cells (hdr 0 0 0 0).toArray 79)).heap.size = w.heap.size + 1 from by simp] at hL
  have hB := grewAlloc ((Below.refl w.heap.size w).alloc (Nat.le_refl _) (.cells (hdr 0 0 0 0).toArray 79)) (.cells (List.replicate 32 (Value.int .u8 0)).toArray 153)
  obtain ⟨W, hW⟩ : ∃ W, Hid (W = (w.alloc (.cells (hdr 0 0 0 0).toArray 79)).alloc (.cells (List.replicate 32 (Value.int .u8 0)).toArray 153)) := ⟨_, Lib.hid rfl⟩
  rw [← hW.out] at hR hL hB
  replace hR := Lib.hid hR
  replace hL := Lib.hid hL
  replace hB := Lib.hid hB
  go_enter Tryz.func142, Tryz.ntmps142
  go_wp2_with (with_reducible refine zCopy _ _ _ _ rfl ?_)
  refine Lib.hid ?_
  refine wpList_copy_long rfl _ _ rfl (w.heap.size + 1) 0 32 32 rfl s rfl 32 hmin.out 153 _ (by have h := hL.out; rw [hW.out] at h; exact h) (by simp) hs ?_
  intro w4 hL4 hk4 hsz4
  replace hk4 := hk4 (fun q => q = w.heap.size + 1) W (.inl rfl) (by rw [hW.out]; exact Kept.refl _ _)
  rw [htk.out, hD1.out, hsp.out] at hL4
  have hR4 := hR.out.of_kept hk4 (by omega)
  have hB4 := hB.out.trans (hk4.below hB.out.size (fun q hq => by omega))
  clear hW hL hk4 hsz4 hR hB
  go_wp2_with (with_reducible refine zLoad 153 _ rfl ?_)
  refine Lib.hid ?_
  refine wpList_load_mid rfl 153 _ rfl (w.heap.size + 1) 0 rfl D1 _ hL4.range Tryz.underlying153 rfl (by rw [hl1.out]; exact sizeL32) ?_
  go_wp2_with fail
  refine (hrd.out _ (hT.out.below hB4)).mono ?_
  rintro ee w5 ⟨rfl, hb5⟩
  have hN := Whole.new w5 156 (u64s a b c d)
  replace hR4 := (hR4.below hb5 hR4.lt).alloc (.cells (u64s a b c d).toArray 156)
  replace hL4 := (hL4.below hb5 hL4.lt).alloc (.cells (u64s a b c d).toArray 156)
  replace hB4 := grewAlloc (grew hB4 hb5) (.cells (u64s a b c d).toArray 156)
  clear hb5
  go_wp2_with fail
  refine (hho.out _).mono ?_
  rintro ee w6 ⟨rfl, hb6⟩
  have hS := Whole.new w6 79 (hdr a b c z)
  replace hR4 := (hR4.below hb6 hR4.lt).alloc (.cells (hdr a b c z).toArray 79)
  replace hL4 := (hL4.below hb6 hL4.lt).alloc (.cells (hdr a b c z).toArray 79)
  replace hN := (hN.below hb6 hN.lt).alloc (.cells (hdr a b c z).toArray 79)
  replace hB4 := grewAlloc (grew hB4 hb6) (.cells (hdr a b c z).toArray 79)
  clear hb6
  go_wp2_with fail
  generalize w5.heap.size = nb at *
  generalize w6.heap.size = sb at *
  obtain ⟨V, hV⟩ : ∃ V, Hid (V = w6.alloc (.cells (hdr a b c z).toArray 79)) := ⟨_, Lib.hid rfl⟩
  rw [← hV.out] at hR4 hL4 hN hS hB4
  rw [show w6.alloc (.cells #[.int .i64 (a : Int), .int .u32 (b : Int), .int .u32 (c : Int), .int .i64 z] 79) = V from hV.out.symm]
  clear hV
  have hrs : Hid (∀ w', (∃ p : Regrown, w' = grow (redrawn V p.d) p.os) → w'.rangeAt sb 0 (hdr a b c z)) := Lib.hid (by rintro _ ⟨p, rfl⟩; exact (hS.below (below_regrown V p.d p.os) hS.lt).range)
  have hrn : Hid (∀ w', (∃ p : Regrown, w' = grow (redrawn V p.d) p.os) → w'.rangeAt nb 0 (u64s a b c d)) := Lib.hid (by rintro _ ⟨p, rfl⟩; exact (hN.below (below_regrown V p.d p.os) hN.lt).range)
  have hrt : Hid (∀ w', (∃ p : Regrown, w' = grow (redrawn V p.d) p.os) → w'.rangeAt (w.heap.size + 1) 0 D1) := Lib.hid (by rintro _ ⟨p, rfl⟩; exact (hL4.below (below_regrown V p.d p.os) hL4.lt).range)
  have hi0 : Hid ((Tryz.prog.info? 79).map (·.size) = some (hdr a b c z).length) := Lib.hid sizeH4
  have hi1 : Hid ((Tryz.prog.info? 153).map (·.size) = some D1.length) := Lib.hid (by rw [hl1.out]; exact sizeL32)
  have hi2 : Hid ((Tryz.prog.info? 156).map (·.size) = some (u64s a b c d).length) := Lib.hid sizeN4
  have cm := Lib.hid (regrown_any hma.out V)
  have cl := Lib.hid (regrown_if hly.out V (fun w' hb => (hT.out.below hB4).below hb))
  replace hR4 := Lib.hid hR4
  replace hS := Lib.hid hS
  replace hB4 := Lib.hid hB4
  clear hN hL4
  refine wp_region_quiet_below (by kernel_rfl) (by kernel_rfl) ?_
  repeat (first
    | ((with_reducible refine quiet_load 79 _ sb (hdr a b c z) ?_ hrs.out Tryz.underlying79 ?_ hi0.out ?_ ?_); (· rfl); (· rfl); (· rfl); simp only [Act.put, List.setIfInBounds_toArray, List.set_cons_zero, List.set_cons_succ])
    | ((with_reducible refine quiet_load 153 _ (w.heap.size + 1) D1 ?_ hrt.out Tryz.underlying153 ?_ hi1.out ?_ ?_); (· rfl); (· rfl); (· rfl); simp only [Act.put, List.setIfInBounds_toArray, List.set_cons_zero, List.set_cons_succ])
    | ((with_reducible refine quiet_load 156 _ nb (u64s a b c d) ?_ hrn.out Tryz.underlying156 ?_ hi2.out ?_ ?_); (· rfl); (· rfl); (· rfl); simp only [Act.put, List.setIfInBounds_toArray, List.set_cons_zero, List.set_cons_succ])
    | go_big_quiet_step (first | exact cm.out _ _ | exact cl.out _ _))
  refine wpQuiet_nil ?_
  intro _ hw'
  obtain ⟨⟨dq, osq⟩, hw''⟩ := hw'
  subst hw''
  have hR5 := Lib.hid (hR4.out.below (below_regrown V dq osq) hR4.out.lt)
  have hS5 := Lib.hid (hS.out.below (below_regrown V dq osq) hS.out.lt)
  have hB5 := Lib.hid (grew hB4.out (below_regrown V dq osq))
  clear hrs hrn hrt hi0 hi1 hi2 cl cm heq hR4 hS hB4
  generalize grow (redrawn V dq) osq = w7 at *
  go_wp2_with (with_reducible refine zLoad 79 _ rfl ?_)
  refine Lib.hid ?_
  refine wpList_load_mid rfl 79 _ rfl sb 0 rfl (hdr a b c z) _ hS5.out.range Tryz.underlying79 rfl sizeH4 ?_
  go_wp2_with (with_reducible refine zStore 79 _ _ rfl ?_)
  refine Lib.hid ?_
  refine wpList_store_mid rfl 79 _ _ rfl w.heap.size 0 (hdr a b c z).toArray rfl rfl (hR5.out.there 0 4 (by simp)) sizeH4 (all_oneCell_toArray (hdr_one a b c z)) ?_
  go_wp2_with fail
  have hfin := whole_all hR5.out (vs := hdr a b c z) rfl
  exact bodyPost_ret (result_cell_tmp Tryz.results142 rfl rfl hfin.range Tryz.underlying79 rfl sizeH4) rfl ⟨rfl, below_store hB5.out (Nat.le_refl _) (Nat.le_refl _) 0 _⟩
set_option maxRecDepth 100000 in
set_option maxHeartbeats 4000000 in
theorem decH_data (s X : ByteArray) (w : World) (hT : Wide w) (hs : 32 ≤ s.size) (hX : s.extract 0 32 = X) (hk : okH (numH X 0 : Nat) (wrap64 (numH X 3 : Nat)) = true) (h1 : ¬ X.data.toList = headerL (numH X 0) (numH X 1) (numH X 2) (numH X 3)) :
    Calls Tryz.prog 142 #[.string s] w fun x w' => x = .returned (.tuple #[.agg #[.int .i64 0, .int .u32 0, .int .u32 0, .int .i64 0], .int .i64 4]) ∧ Below w.heap.size w w' := by
  have hxz : X.size = 32 := by rw [← hX]; simp; omega
  have hxl : X.data.toList.length = 32 := by rw [Array.length_toList]; exact hxz
  have hrd := fun W hW => readH_any X W hW hxz
  have hnl := numH_lt X
  have hly := fun W hW => layH_any (numH X 0) (numH X 1) (numH X 2) (numH X 3) W hW (hnl 0) (hnl 1) (hnl 2) (hnl 3)
  have hho := fun W => headerOf_any (numH X 0) (numH X 1) (numH X 2) (numH X 3) W (hnl 0) (hnl 1) (hnl 2) (hnl 3)
  have hdl := headerL_len (numH X 0) (numH X 1) (numH X 2) (numH X 3)
  have heq := equal_bytes 153 32 Tryz.underlying153 X.data.toList (headerL (numH X 0) (numH X 1) (numH X 2) (numH X 3)) hxl hdl
  have htk : s.data.toList.take 32 = X.data.toList := by rw [← hX, ext_list]; rfl
  obtain ⟨E, hE⟩ : ∃ E, Hid (headerL (numH X 0) (numH X 1) (numH X 2) (numH X 3) = E) := ⟨_, Lib.hid rfl⟩
  rw [hE.out] at hly hdl heq h1
  obtain ⟨a, e0⟩ : ∃ a, Hid (numH X 0 = a) := ⟨_, Lib.hid rfl⟩
  obtain ⟨b, e1⟩ : ∃ a, Hid (numH X 1 = a) := ⟨_, Lib.hid rfl⟩
  obtain ⟨c, e2⟩ : ∃ a, Hid (numH X 2 = a) := ⟨_, Lib.hid rfl⟩
  obtain ⟨d, e3⟩ : ∃ a, Hid (numH X 3 = a) := ⟨_, Lib.hid rfl⟩
  rw [e0.out, e1.out, e2.out, e3.out] at hrd hly hho
  rw [e0.out, e3.out] at hk
  obtain ⟨z, hz⟩ : ∃ z : Int, Hid (wrap64 (d : Nat) = z) := ⟨_, Lib.hid rfl⟩
  rw [hz.out] at hho hk
  have hma : ∀ W : World, Calls Tryz.prog 100 #[.agg #[.int .i64 (a : Int), .int .u32 (b : Int), .int .u32 (c : Int), .int .i64 z]] W fun x w' => x = .returned (.bool true) ∧ Below W.heap.size W w' := fun W => by
    have h := mayBe_any a b c z W
    rw [hk] at h
    exact h
  rw [show decide (X.data.toList = E) = false from by simp [h1]] at heq
  obtain ⟨D1, hD1⟩ : ∃ x, Hid (bytesV X.data.toList = x) := ⟨_, Lib.hid rfl⟩
  obtain ⟨D2, hD2⟩ : ∃ x, Hid (bytesV E = x) := ⟨_, Lib.hid rfl⟩
  have hl1 : Hid (D1.length = 32) := Lib.hid (by rw [← hD1.out, bytesV_len, hxl])
  have hsp : Hid (splice (List.replicate 32 (Value.int .u8 0)) 0 D1 = D1) := Lib.hid (by unfold splice; rw [List.take_zero, List.nil_append, Nat.zero_add, hl1.out, List.drop_replicate]; simp)
  rw [hD1.out, hD2.out] at heq
  rw [hD1.out] at hrd
  rw [hD2.out] at hly
  have hsn : ¬ (s.size : Int) < 32 := by omega
  have hsg : (32 : Int) ≤ (s.size : Int) := by omega
  have hmin : Hid (Nat.min s.size 32 = 32) := Lib.hid (Nat.min_eq_right hs)
  replace htk := Lib.hid htk
  clear hnl hdl hxl hX hk h1
  replace hT := Lib.hid hT
  replace hrd := Lib.hid hrd
  replace hly := Lib.hid hly
  replace hho := Lib.hid hho
  replace hma := Lib.hid hma
  replace hxz := Lib.hid hxz
  have hR := (Whole.new w 79 (hdr 0 0 0 0)).alloc (.cells (List.replicate 32 (Value.int .u8 0)).toArray 153)
  have hL := Whole.new (w.alloc (.cells (hdr 0 0 0 0).toArray 79)) 153 (List.replicate 32 (Value.int .u8 0))
  rw [show (w.alloc (.cells (hdr 0 0 0 0).toArray 79)).heap.size = w.heap.size + 1 from by simp] at hL
  have hB := grewAlloc ((Below.refl w.heap.size w).alloc (Nat.le_refl _) (.cells (hdr 0 0 0 0).toArray 79)) (.cells (List.replicate 32 (Value.int .u8 0)).toArray 153)
  obtain ⟨W, hW⟩ : ∃ W, Hid (W = (w.alloc (.cells (hdr 0 0 0 0).toArray 79)).alloc (.cells (List.replicate 32 (Value.int .u8 0)).toArray 153)) := ⟨_, Lib.hid rfl⟩
  rw [← hW.out] at hR hL hB
  replace hR := Lib.hid hR
  replace hL := Lib.hid hL
  replace hB := Lib.hid hB
  go_enter Tryz.func142, Tryz.ntmps142
  go_wp2_with (with_reducible refine zCopy _ _ _ _ rfl ?_)
  refine Lib.hid ?_
  refine wpList_copy_long rfl _ _ rfl (w.heap.size + 1) 0 32 32 rfl s rfl 32 hmin.out 153 _ (by have h := hL.out; rw [hW.out] at h; exact h) (by simp) hs ?_
  intro w4 hL4 hk4 hsz4
  replace hk4 := hk4 (fun q => q = w.heap.size + 1) W (.inl rfl) (by rw [hW.out]; exact Kept.refl _ _)
  rw [htk.out, hD1.out, hsp.out] at hL4
  have hR4 := hR.out.of_kept hk4 (by omega)
  have hB4 := hB.out.trans (hk4.below hB.out.size (fun q hq => by omega))
  clear hW hL hk4 hsz4 hR hB
  go_wp2_with (with_reducible refine zLoad 153 _ rfl ?_)
  refine Lib.hid ?_
  refine wpList_load_mid rfl 153 _ rfl (w.heap.size + 1) 0 rfl D1 _ hL4.range Tryz.underlying153 rfl (by rw [hl1.out]; exact sizeL32) ?_
  go_wp2_with fail
  refine (hrd.out _ (hT.out.below hB4)).mono ?_
  rintro ee w5 ⟨rfl, hb5⟩
  have hN := Whole.new w5 156 (u64s a b c d)
  replace hR4 := (hR4.below hb5 hR4.lt).alloc (.cells (u64s a b c d).toArray 156)
  replace hL4 := (hL4.below hb5 hL4.lt).alloc (.cells (u64s a b c d).toArray 156)
  replace hB4 := grewAlloc (grew hB4 hb5) (.cells (u64s a b c d).toArray 156)
  clear hb5
  go_wp2_with fail
  refine (hho.out _).mono ?_
  rintro ee w6 ⟨rfl, hb6⟩
  have hS := Whole.new w6 79 (hdr a b c z)
  replace hR4 := (hR4.below hb6 hR4.lt).alloc (.cells (hdr a b c z).toArray 79)
  replace hL4 := (hL4.below hb6 hL4.lt).alloc (.cells (hdr a b c z).toArray 79)
  replace hN := (hN.below hb6 hN.lt).alloc (.cells (hdr a b c z).toArray 79)
  replace hB4 := grewAlloc (grew hB4 hb6) (.cells (hdr a b c z).toArray 79)
  clear hb6
  go_wp2_with fail
  generalize w5.heap.size = nb at *
  generalize w6.heap.size = sb at *
  obtain ⟨V, hV⟩ : ∃ V, Hid (V = w6.alloc (.cells (hdr a b c z).toArray 79)) := ⟨_, Lib.hid rfl⟩
  rw [← hV.out] at hR4 hL4 hN hS hB4
  rw [show w6.alloc (.cells #[.int .i64 (a : Int), .int .u32 (b : Int), .int .u32 (c : Int), .int .i64 z] 79) = V from hV.out.symm]
  clear hV
  have hrs : Hid (∀ w', (∃ p : Regrown, w' = grow (redrawn V p.d) p.os) → w'.rangeAt sb 0 (hdr a b c z)) := Lib.hid (by rintro _ ⟨p, rfl⟩; exact (hS.below (below_regrown V p.d p.os) hS.lt).range)
  have hrn : Hid (∀ w', (∃ p : Regrown, w' = grow (redrawn V p.d) p.os) → w'.rangeAt nb 0 (u64s a b c d)) := Lib.hid (by rintro _ ⟨p, rfl⟩; exact (hN.below (below_regrown V p.d p.os) hN.lt).range)
  have hrt : Hid (∀ w', (∃ p : Regrown, w' = grow (redrawn V p.d) p.os) → w'.rangeAt (w.heap.size + 1) 0 D1) := Lib.hid (by rintro _ ⟨p, rfl⟩; exact (hL4.below (below_regrown V p.d p.os) hL4.lt).range)
  have hi0 : Hid ((Tryz.prog.info? 79).map (·.size) = some (hdr a b c z).length) := Lib.hid sizeH4
  have hi1 : Hid ((Tryz.prog.info? 153).map (·.size) = some D1.length) := Lib.hid (by rw [hl1.out]; exact sizeL32)
  have hi2 : Hid ((Tryz.prog.info? 156).map (·.size) = some (u64s a b c d).length) := Lib.hid sizeN4
  have cm := Lib.hid (regrown_any hma.out V)
  have cl := Lib.hid (regrown_if hly.out V (fun w' hb => (hT.out.below hB4).below hb))
  replace hR4 := Lib.hid hR4
  replace hS := Lib.hid hS
  replace hB4 := Lib.hid hB4
  clear hN hL4
  refine wp_region_quiet_below (by kernel_rfl) (by kernel_rfl) ?_
  repeat (first
    | ((with_reducible refine quiet_load 79 _ sb (hdr a b c z) ?_ hrs.out Tryz.underlying79 ?_ hi0.out ?_ ?_); (· rfl); (· rfl); (· rfl); simp only [Act.put, List.setIfInBounds_toArray, List.set_cons_zero, List.set_cons_succ])
    | ((with_reducible refine quiet_load 153 _ (w.heap.size + 1) D1 ?_ hrt.out Tryz.underlying153 ?_ hi1.out ?_ ?_); (· rfl); (· rfl); (· rfl); simp only [Act.put, List.setIfInBounds_toArray, List.set_cons_zero, List.set_cons_succ])
    | ((with_reducible refine quiet_load 156 _ nb (u64s a b c d) ?_ hrn.out Tryz.underlying156 ?_ hi2.out ?_ ?_); (· rfl); (· rfl); (· rfl); simp only [Act.put, List.setIfInBounds_toArray, List.set_cons_zero, List.set_cons_succ])
    | go_big_quiet_step (first | exact cm.out _ _ | exact cl.out _ _))
  refine wpQuiet_nil ?_
  intro _ hw'
  obtain ⟨⟨dq, osq⟩, hw''⟩ := hw'
  subst hw''
  have hR5 := Lib.hid (hR4.out.below (below_regrown V dq osq) hR4.out.lt)
  have hS5 := Lib.hid (hS.out.below (below_regrown V dq osq) hS.out.lt)
  have hB5 := Lib.hid (grew hB4.out (below_regrown V dq osq))
  clear hrs hrn hrt hi0 hi1 hi2 cl cm heq hR4 hS hB4
  generalize grow (redrawn V dq) osq = w7 at *
  go_wp2_with (with_reducible refine zStore 79 _ _ rfl ?_)
  refine Lib.hid ?_
  refine wpList_store_mid rfl 79 _ _ rfl w.heap.size 0 (hdr 0 0 0 0).toArray rfl rfl (hR5.out.there 0 4 (by simp)) sizeH4 (all_oneCell_toArray (hdr_one 0 0 0 0)) ?_
  go_wp2_with fail
  have hfin := whole_all hR5.out (vs := hdr 0 0 0 0) rfl
  exact bodyPost_ret (result_cell_tmp Tryz.results142 rfl rfl hfin.range Tryz.underlying79 rfl sizeH4) rfl ⟨rfl, below_store hB5.out (Nat.le_refl _) (Nat.le_refl _) 0 _⟩
set_option maxRecDepth 100000 in
set_option maxHeartbeats 4000000 in
theorem decH_may (s X : ByteArray) (w : World) (hT : Wide w) (hs : 32 ≤ s.size) (hX : s.extract 0 32 = X) (hk : okH (numH X 0 : Nat) (wrap64 (numH X 3 : Nat)) = false) :
    Calls Tryz.prog 142 #[.string s] w fun x w' => x = .returned (.tuple #[.agg #[.int .i64 0, .int .u32 0, .int .u32 0, .int .i64 0], .int .i64 4]) ∧ Below w.heap.size w w' := by
  have hxz : X.size = 32 := by rw [← hX]; simp; omega
  have hxl : X.data.toList.length = 32 := by rw [Array.length_toList]; exact hxz
  have hrd := fun W hW => readH_any X W hW hxz
  have hnl := numH_lt X
  have hly := fun W hW => layH_any (numH X 0) (numH X 1) (numH X 2) (numH X 3) W hW (hnl 0) (hnl 1) (hnl 2) (hnl 3)
  have hho := fun W => headerOf_any (numH X 0) (numH X 1) (numH X 2) (numH X 3) W (hnl 0) (hnl 1) (hnl 2) (hnl 3)
  have hdl := headerL_len (numH X 0) (numH X 1) (numH X 2) (numH X 3)
  have heq := equal_bytes 153 32 Tryz.underlying153 X.data.toList (headerL (numH X 0) (numH X 1) (numH X 2) (numH X 3)) hxl hdl
  have htk : s.data.toList.take 32 = X.data.toList := by rw [← hX, ext_list]; rfl
  obtain ⟨E, hE⟩ : ∃ E, Hid (headerL (numH X 0) (numH X 1) (numH X 2) (numH X 3) = E) := ⟨_, Lib.hid rfl⟩
  rw [hE.out] at hly hdl heq
  obtain ⟨a, e0⟩ : ∃ a, Hid (numH X 0 = a) := ⟨_, Lib.hid rfl⟩
  obtain ⟨b, e1⟩ : ∃ a, Hid (numH X 1 = a) := ⟨_, Lib.hid rfl⟩
  obtain ⟨c, e2⟩ : ∃ a, Hid (numH X 2 = a) := ⟨_, Lib.hid rfl⟩
  obtain ⟨d, e3⟩ : ∃ a, Hid (numH X 3 = a) := ⟨_, Lib.hid rfl⟩
  rw [e0.out, e1.out, e2.out, e3.out] at hrd hly hho
  rw [e0.out, e3.out] at hk
  obtain ⟨z, hz⟩ : ∃ z : Int, Hid (wrap64 (d : Nat) = z) := ⟨_, Lib.hid rfl⟩
  rw [hz.out] at hho hk
  have hma : ∀ W : World, Calls Tryz.prog 100 #[.agg #[.int .i64 (a : Int), .int .u32 (b : Int), .int .u32 (c : Int), .int .i64 z]] W fun x w' => x = .returned (.bool false) ∧ Below W.heap.size W w' := fun W => by
    have h := mayBe_any a b c z W
    rw [hk] at h
    exact h
  obtain ⟨D1, hD1⟩ : ∃ x, Hid (bytesV X.data.toList = x) := ⟨_, Lib.hid rfl⟩
  obtain ⟨D2, hD2⟩ : ∃ x, Hid (bytesV E = x) := ⟨_, Lib.hid rfl⟩
  have hl1 : Hid (D1.length = 32) := Lib.hid (by rw [← hD1.out, bytesV_len, hxl])
  have hsp : Hid (splice (List.replicate 32 (Value.int .u8 0)) 0 D1 = D1) := Lib.hid (by unfold splice; rw [List.take_zero, List.nil_append, Nat.zero_add, hl1.out, List.drop_replicate]; simp)
  rw [hD1.out, hD2.out] at heq
  rw [hD1.out] at hrd
  rw [hD2.out] at hly
  have hsn : ¬ (s.size : Int) < 32 := by omega
  have hsg : (32 : Int) ≤ (s.size : Int) := by omega
  have hmin : Hid (Nat.min s.size 32 = 32) := Lib.hid (Nat.min_eq_right hs)
  replace htk := Lib.hid htk
  clear hnl hdl hxl hX hk
  replace hT := Lib.hid hT
  replace hrd := Lib.hid hrd
  replace hly := Lib.hid hly
  replace hho := Lib.hid hho
  replace hma := Lib.hid hma
  replace hxz := Lib.hid hxz
  have hR := (Whole.new w 79 (hdr 0 0 0 0)).alloc (.cells (List.replicate 32 (Value.int .u8 0)).toArray 153)
  have hL := Whole.new (w.alloc (.cells (hdr 0 0 0 0).toArray 79)) 153 (List.replicate 32 (Value.int .u8 0))
  rw [show (w.alloc (.cells (hdr 0 0 0 0).toArray 79)).heap.size = w.heap.size + 1 from by simp] at hL
  have hB := grewAlloc ((Below.refl w.heap.size w).alloc (Nat.le_refl _) (.cells (hdr 0 0 0 0).toArray 79)) (.cells (List.replicate 32 (Value.int .u8 0)).toArray 153)
  obtain ⟨W, hW⟩ : ∃ W, Hid (W = (w.alloc (.cells (hdr 0 0 0 0).toArray 79)).alloc (.cells (List.replicate 32 (Value.int .u8 0)).toArray 153)) := ⟨_, Lib.hid rfl⟩
  rw [← hW.out] at hR hL hB
  replace hR := Lib.hid hR
  replace hL := Lib.hid hL
  replace hB := Lib.hid hB
  go_enter Tryz.func142, Tryz.ntmps142
  go_wp2_with (with_reducible refine zCopy _ _ _ _ rfl ?_)
  refine Lib.hid ?_
  refine wpList_copy_long rfl _ _ rfl (w.heap.size + 1) 0 32 32 rfl s rfl 32 hmin.out 153 _ (by have h := hL.out; rw [hW.out] at h; exact h) (by simp) hs ?_
  intro w4 hL4 hk4 hsz4
  replace hk4 := hk4 (fun q => q = w.heap.size + 1) W (.inl rfl) (by rw [hW.out]; exact Kept.refl _ _)
  rw [htk.out, hD1.out, hsp.out] at hL4
  have hR4 := hR.out.of_kept hk4 (by omega)
  have hB4 := hB.out.trans (hk4.below hB.out.size (fun q hq => by omega))
  clear hW hL hk4 hsz4 hR hB
  go_wp2_with (with_reducible refine zLoad 153 _ rfl ?_)
  refine Lib.hid ?_
  refine wpList_load_mid rfl 153 _ rfl (w.heap.size + 1) 0 rfl D1 _ hL4.range Tryz.underlying153 rfl (by rw [hl1.out]; exact sizeL32) ?_
  go_wp2_with fail
  refine (hrd.out _ (hT.out.below hB4)).mono ?_
  rintro ee w5 ⟨rfl, hb5⟩
  have hN := Whole.new w5 156 (u64s a b c d)
  replace hR4 := (hR4.below hb5 hR4.lt).alloc (.cells (u64s a b c d).toArray 156)
  replace hL4 := (hL4.below hb5 hL4.lt).alloc (.cells (u64s a b c d).toArray 156)
  replace hB4 := grewAlloc (grew hB4 hb5) (.cells (u64s a b c d).toArray 156)
  clear hb5
  go_wp2_with fail
  refine (hho.out _).mono ?_
  rintro ee w6 ⟨rfl, hb6⟩
  have hS := Whole.new w6 79 (hdr a b c z)
  replace hR4 := (hR4.below hb6 hR4.lt).alloc (.cells (hdr a b c z).toArray 79)
  replace hL4 := (hL4.below hb6 hL4.lt).alloc (.cells (hdr a b c z).toArray 79)
  replace hN := (hN.below hb6 hN.lt).alloc (.cells (hdr a b c z).toArray 79)
  replace hB4 := grewAlloc (grew hB4 hb6) (.cells (hdr a b c z).toArray 79)
  clear hb6
  go_wp2_with fail
  generalize w5.heap.size = nb at *
  generalize w6.heap.size = sb at *
  obtain ⟨V, hV⟩ : ∃ V, Hid (V = w6.alloc (.cells (hdr a b c z).toArray 79)) := ⟨_, Lib.hid rfl⟩
  rw [← hV.out] at hR4 hL4 hN hS hB4
  rw [show w6.alloc (.cells #[.int .i64 (a : Int), .int .u32 (b : Int), .int .u32 (c : Int), .int .i64 z] 79) = V from hV.out.symm]
  clear hV
  have hrs : Hid (∀ w', (∃ p : Regrown, w' = grow (redrawn V p.d) p.os) → w'.rangeAt sb 0 (hdr a b c z)) := Lib.hid (by rintro _ ⟨p, rfl⟩; exact (hS.below (below_regrown V p.d p.os) hS.lt).range)
  have hrn : Hid (∀ w', (∃ p : Regrown, w' = grow (redrawn V p.d) p.os) → w'.rangeAt nb 0 (u64s a b c d)) := Lib.hid (by rintro _ ⟨p, rfl⟩; exact (hN.below (below_regrown V p.d p.os) hN.lt).range)
  have hrt : Hid (∀ w', (∃ p : Regrown, w' = grow (redrawn V p.d) p.os) → w'.rangeAt (w.heap.size + 1) 0 D1) := Lib.hid (by rintro _ ⟨p, rfl⟩; exact (hL4.below (below_regrown V p.d p.os) hL4.lt).range)
  have hi0 : Hid ((Tryz.prog.info? 79).map (·.size) = some (hdr a b c z).length) := Lib.hid sizeH4
  have hi1 : Hid ((Tryz.prog.info? 153).map (·.size) = some D1.length) := Lib.hid (by rw [hl1.out]; exact sizeL32)
  have hi2 : Hid ((Tryz.prog.info? 156).map (·.size) = some (u64s a b c d).length) := Lib.hid sizeN4
  have cm := Lib.hid (regrown_any hma.out V)
  have cl := Lib.hid (regrown_if hly.out V (fun w' hb => (hT.out.below hB4).below hb))
  replace hR4 := Lib.hid hR4
  replace hS := Lib.hid hS
  replace hB4 := Lib.hid hB4
  clear hN hL4
  refine wp_region_quiet_below (by kernel_rfl) (by kernel_rfl) ?_
  repeat (first
    | ((with_reducible refine quiet_load 79 _ sb (hdr a b c z) ?_ hrs.out Tryz.underlying79 ?_ hi0.out ?_ ?_); (· rfl); (· rfl); (· rfl); simp only [Act.put, List.setIfInBounds_toArray, List.set_cons_zero, List.set_cons_succ])
    | ((with_reducible refine quiet_load 153 _ (w.heap.size + 1) D1 ?_ hrt.out Tryz.underlying153 ?_ hi1.out ?_ ?_); (· rfl); (· rfl); (· rfl); simp only [Act.put, List.setIfInBounds_toArray, List.set_cons_zero, List.set_cons_succ])
    | ((with_reducible refine quiet_load 156 _ nb (u64s a b c d) ?_ hrn.out Tryz.underlying156 ?_ hi2.out ?_ ?_); (· rfl); (· rfl); (· rfl); simp only [Act.put, List.setIfInBounds_toArray, List.set_cons_zero, List.set_cons_succ])
    | go_big_quiet_step (first | exact cm.out _ _ | exact cl.out _ _))
  refine wpQuiet_nil ?_
  intro _ hw'
  obtain ⟨⟨dq, osq⟩, hw''⟩ := hw'
  subst hw''
  have hR5 := Lib.hid (hR4.out.below (below_regrown V dq osq) hR4.out.lt)
  have hS5 := Lib.hid (hS.out.below (below_regrown V dq osq) hS.out.lt)
  have hB5 := Lib.hid (grew hB4.out (below_regrown V dq osq))
  clear hrs hrn hrt hi0 hi1 hi2 cl cm heq hR4 hS hB4
  generalize grow (redrawn V dq) osq = w7 at *
  go_wp2_with (with_reducible refine zStore 79 _ _ rfl ?_)
  refine Lib.hid ?_
  refine wpList_store_mid rfl 79 _ _ rfl w.heap.size 0 (hdr 0 0 0 0).toArray rfl rfl (hR5.out.there 0 4 (by simp)) sizeH4 (all_oneCell_toArray (hdr_one 0 0 0 0)) ?_
  go_wp2_with fail
  have hfin := whole_all hR5.out (vs := hdr 0 0 0 0) rfl
  exact bodyPost_ret (result_cell_tmp Tryz.results142 rfl rfl hfin.range Tryz.underlying79 rfl sizeH4) rfl ⟨rfl, below_store hB5.out (Nat.le_refl _) (Nat.le_refl _) 0 _⟩
end Go.Proofs.YtbbhnbdekblghaaGreatDoor.W
end
end
