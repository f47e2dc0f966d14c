/- Bytes that come piece by piece, and the frame with which they begin; nothing of the program. The walks of package segment's Create and Wipe. The walks of package segment's reader: what the sectors tell. The walks of package segment's reader: the header. -/
import Derived.WalkKit
import Derived.Test.YtgogackkeodciabGreatDoorFrameM
import Derived.Test.YtgogackkeodciabGreatDoorSgA
import Derived.Test.YtgogackkeodciabGreatDoorHdAll
import Derived.Deep.Cut
import Derived.Test.YtgogackkeodciabGreatDoorSegLoop
section
namespace Go.Proofs.YtgogackkeodciabGreatDoor.M
open Go.RowKit
set_option linter.unusedVariables false

theorem ext_app (D m : ByteArray) (i j : Nat) (hj : j ≤ D.size) : (D ++ m).extract i j = D.extract i j := by
  rw [← B_of ((D ++ m).extract i j), ← B_of (D.extract i j), ext_list, ext_list]
  have e : (D ++ m).data.toList = D.data.toList ++ m.data.toList := by simp
  have hl : D.data.toList.length = D.size := by simp
  rw [e]
  congr 1
  by_cases h : i ≤ j
  · rw [List.drop_append, List.take_append_of_le_length (by rw [List.length_drop, hl]; omega)]
  · rw [show j - i = 0 from by omega, List.take_zero, List.take_zero]
theorem told_ext (D m : ByteArray) (h : 2 ≤ D.size) : toldF (D ++ m) = toldF D := by unfold toldF; rw [ext_app _ _ _ _ h]
theorem size_app (D m : ByteArray) : (D ++ m).size = D.size + m.size := ByteArray.size_append
theorem bt_app (D m : ByteArray) (i : Nat) (h : i < D.size) : bt (D ++ m).data.toList i = bt D.data.toList i := by
  have e : (D ++ m).data.toList = D.data.toList ++ m.data.toList := by simp
  have hl : D.data.toList.length = D.size := by simp
  unfold bt
  rw [e]
  simp [List.getElem?_append_left, hl, h]
/-- What is told of bytes that are not too short is told of longer ones. -/
theorem dec_ext (st pl : Int) (D m : ByteArray) (h2 : 2 ≤ D.size) (h : decWhy st pl D ≠ 3) : decWhy st pl (D ++ m) = decWhy st pl D := by
  have hs := size_app D m
  unfold decWhy at h ⊢
  rw [told_ext D m h2]
  have e1 : bodyS (D ++ m) = bodyS D ∨ D.size < 6 + toldF D := by
    by_cases h5 : D.size < 6 + toldF D
    · exact .inr h5
    · left; unfold bodyS; rw [told_ext D m h2, ext_app _ _ _ _ (by omega)]
  have a1 : ¬ D.size < 2 := by omega
  have a2 : ¬ (D ++ m).size < 2 := by omega
  by_cases h0 : ¬ (1 ≤ pl ∧ pl < 16)
  · simp only [if_pos h0]
  simp only [if_neg h0, if_neg a1, if_neg a2] at h ⊢
  by_cases h3 : toldF D = 0
  · simp only [if_pos h3]
  simp only [if_neg h3] at h ⊢
  by_cases h4 : 774 < toldF D
  · simp only [if_pos h4]
  simp only [if_neg h4] at h ⊢
  by_cases h5 : D.size < 6 + toldF D
  · rw [if_pos h5] at h; exact absurd rfl h
  have a5 : ¬ (D ++ m).size < 6 + toldF D := by omega
  rw [if_neg h5, if_neg a5]
  rw [e1.resolve_right h5, ext_app _ _ _ _ (by omega), ext_app _ _ _ _ (by omega), bt_app _ _ _ (by omega)]
theorem dec_short (st pl : Int) (D : ByteArray) (h2 : 2 ≤ D.size) (h : decWhy st pl D = 3) : D.size < 6 + toldF D := by
  unfold decWhy at h
  split at h
  · cases h
  split at h
  · omega
  split at h
  · cases h
  split at h
  · cases h
  split at h
  · assumption
  · split at h <;> cases h
theorem dec_size (st pl : Int) (D : ByteArray) (h : decWhy st pl D = 0) : 2 ≤ D.size ∧ 6 + toldF D ≤ D.size ∧ 1 ≤ toldF D ∧ toldF D ≤ 774 ∧ 1 ≤ pl ∧ pl < 16 := by
  unfold decWhy at h
  split at h
  · cases h
  split at h
  · cases h
  split at h
  · cases h
  split at h
  · cases h
  split at h
  · cases h
  · refine ⟨by omega, by omega, by omega, by omega, ?_, ?_⟩ <;> omega
theorem dec_nil (st pl : Int) : decWhy st pl ⟨#[]⟩ ≠ 0 := by
  intro h
  have := (dec_size _ _ _ h).1
  exact absurd this (by decide)
/-- How many pieces: bytes of so many whole pieces that were too short, and are not with one more. -/
theorem pieces_of (st pl : Int) (D E : ByteArray) (j : Nat) (hD : D.size = 52 * j) (hE : E.size = 52) (hs : j = 0 ∨ decWhy st pl D = 3) (h : decWhy st pl (D ++ E) = 0) : (6 + toldF (D ++ E) + 51) / 52 = j + 1 := by
  obtain ⟨_, h1, h2, _⟩ := dec_size _ _ _ h
  rw [size_app] at h1
  rcases hs with rfl | hs
  · omega
  · by_cases h0 : j = 0
    · subst h0; omega
    have h3 := dec_short st pl D (by omega) hs
    rw [← told_ext D E (by omega)] at h3
    omega
end Go.Proofs.YtgogackkeodciabGreatDoor.M
end
section
namespace Go.Proofs.YtgogackkeodciabGreatDoor.W
open Go.RowKit
open Go.Proofs.YtgogackkeodciabGreatDoor.M Go.Proofs.YtgogackkeodciabGreatDoor.D Go.Proofs.YtgogackkeodciabGreatDoor.Z
set_option linter.unusedVariables false

theorem create_nil (n a g s b : Int) (w : World) :
    Calls Tryz.prog 87 #[.pointer none, .int .i64 n, .agg #[.int .i64 a, .int .u32 g, .int .u32 s, .int .i64 b]] w fun e w' => e = .returned (.tuple #[.pointer none, .int .i64 7]) ∧ Below w.heap.size w w' := by
  have hB := Lib.hid (allocBelow w (.cells (hdr a g s b).toArray 80))
  go_enter Tryz.func87, Tryz.ntmps87
  go_wp2_with fail
  refine (find_nil n _).mono ?_
  rintro _ w1 ⟨rfl, rfl⟩
  go_wp2_with fail
  go_ret2
  exact ⟨rfl, hB.out⟩
section
variable {w : World} {vb d g' : Nat} {v : Value} {lie : List (List UInt8)} {ws : List (Nat × List UInt8)} {from_ m : Nat} {fuse steps : Int} {gone : Bool}
theorem create_out (n a g s b : Int) (q : Nat) (h : Vw w vb d g' v lie ws from_ m fuse steps gone) (hm : m = q + 2) (hq : q ≤ 1000000) (hn : ¬ (0 ≤ n ∧ n < ((q / 16 : Nat) : Int))) :
    Calls Tryz.prog 87 #[.pointer (some ⟨vb, 0, none⟩), .int .i64 n, .agg #[.int .i64 a, .int .u32 g, .int .u32 s, .int .i64 b]] w fun e w' => e = .returned (.tuple #[.pointer none, .int .i64 20]) ∧ Below w.heap.size w w' := by
  have hB := Lib.hid (allocBelow w (.cells (hdr a g s b).toArray 80))
  have hf := Lib.hid (find_out n q (h.below hB.out) hm hq hn)
  clear h
  go_enter Tryz.func87, Tryz.ntmps87
  go_wp2_with fail
  refine hf.out.mono ?_
  rintro _ w1 ⟨rfl, rfl⟩
  go_wp2_with fail
  go_ret2
  exact ⟨rfl, hB.out⟩
theorem create_arg (n q : Nat) (a g s b : Int) (h : Vw w vb d g' v lie ws from_ m fuse steps gone) (hm : m = q + 2) (hq : q ≤ 1000000) (hn : n < q / 16) (hk : okH a b = false) :
    Calls Tryz.prog 87 #[.pointer (some ⟨vb, 0, none⟩), .int .i64 (n : Int), .agg #[.int .i64 a, .int .u32 g, .int .u32 s, .int .i64 b]] w fun e w' => e = .returned (.tuple #[.pointer none, .int .i64 1]) ∧ Below w.heap.size w w' := by
  obtain ⟨W, hW⟩ : ∃ W, Hid (W = w.alloc (.cells (hdr a g s b).toArray 80)) := ⟨_, Lib.hid rfl⟩
  have hB : Below w.heap.size w W := by rw [hW.out]; exact allocBelow w _
  have hH : Whole W w.heap.size 80 (hdr a g s b) := by rw [hW.out]; exact Whole.new w _ _
  have hf := Lib.hid (find_in n q (h.below hB) hm hq hn)
  have hen := Lib.hid (fun W => encH_no a g s b W hk)
  clear h
  go_enter Tryz.func87, Tryz.ntmps87
  go_upto_region 1 with fail
  rw [← show W = _ from hW.out]
  clear hW
  go_wp2_with fail
  refine hf.out.mono ?_
  rintro _ w1 ⟨rfl, _, hb1⟩
  have hH1 := hH.below hb1 hH.lt
  have c0 := hH1.cell 0
  have c1 := hH1.cell 1
  have c2 := hH1.cell 2
  have c3 := hH1.cell 3
  simp only [List.getElem?_cons_zero, List.getElem?_cons_succ] at c0 c1 c2 c3
  replace hB := Lib.hid (grew hB hb1)
  clear hH hH1 hb1
  go_wp2_with fail
  refine (hen.out _).mono ?_
  rintro _ w2 ⟨rfl, hb2⟩
  go_wp2_with fail
  go_ret2
  exact ⟨rfl, grew hB.out hb2⟩
/-- What a Create comes to. -/
def Created (sb vb n a g s b : Nat) (r : Int) (V : Nat → World → Prop) (e : Ending) (w' : World) : Prop :=
  (r ≠ 0 ∧ e = .returned (.tuple #[.pointer none, .int .i64 r]) ∧ V 1 w') ∨
  (r = 0 ∧ e = .returned (.tuple #[.pointer (some ⟨sb, 0, none⟩), .int .i64 0]) ∧ V 1 w' ∧ Sg w' sb vb n a g s b none 0 [] 1 false)
set_option maxRecDepth 100000 in
set_option maxHeartbeats 8000000 in
theorem create_by (n q a g s b : Nat) (r : Int) (V : Nat → World → Prop) (h : Vw w vb d g' v lie ws from_ m fuse steps gone) (hm : m = q + 2) (hq : q ≤ 1000) (hn : n < q / 16) (hT : Wide w) (ha1 : 1 ≤ a) (ha : a < 65536) (hg : g < 4294967296) (hs : s < 4294967296) (hb : b ≤ 1099511627776)
    (hV0 : V 0 w) (hVb : ∀ j W W', V j W → Below W.heap.size W W' → V j W')
    (hVk : ∀ j W W' sb cs, V j W → Whole W sb 112 cs → w.heap.size ≤ sb → Kept (fun q => q = sb) W W' → V j W')
    (hWr : ∀ W, V 0 W → Calls Tryz.prog 94 #[.pointer (some ⟨vb, 0, none⟩), .int .i64 ((2 + 16 * n + (0 + 0) : Nat) : Int), .string (B (sealL s 1 (pcL (headerL a g s b) 0)))] W fun e w' => e = .returned (.int .i64 r) ∧ V 1 w' ∧ TK W w') :
    Calls Tryz.prog 87 #[.pointer (some ⟨vb, 0, none⟩), .int .i64 (n : Int), .agg #[.int .i64 (a : Int), .int .u32 (g : Int), .int .u32 (s : Int), .int .i64 (b : Int)]] w fun e w' => Created (w.heap.size + 1) vb n a g s b r V e w' := by
  obtain ⟨W, hW⟩ : ∃ W, Hid (W = w.alloc (.cells (hdr a g s b).toArray 80)) := ⟨_, Lib.hid rfl⟩
  have hB : Below w.heap.size w W := by rw [hW.out]; exact allocBelow w _
  have hH : Whole W w.heap.size 80 (hdr a g s b) := by rw [hW.out]; exact Whole.new w _ _
  have hsz : W.heap.size = w.heap.size + 1 := by rw [hW.out]; simp
  have hf := find_in n q (h.below hB) hm (by omega) hn
  rw [hsz] at hf
  replace hf := Lib.hid hf
  have hen := Lib.hid (fun W hW => encH_yes a g s b W hW ha1 ha hg hs hb)
  have hVW := Lib.hid (hVb _ _ _ hV0 hB)
  have hTw := Lib.hid (fun W' (hb : Below w.heap.size w W') => hT.below hb)
  obtain ⟨sb, hsb⟩ : ∃ sb, Hid (w.heap.size + 1 = sb) := ⟨_, Lib.hid rfl⟩
  rw [hsb.out] at hf ⊢
  have hLz : (B (headerL a g s b)).size = 32 := by rw [B_size, headerL_len]
  obtain ⟨T, hTT⟩ : ∃ T, Hid (B (headerL a g s b) = T) := ⟨_, Lib.hid rfl⟩
  have hTd : headerL a g s b = T.data.toList := by rw [← hTT.out, B_data]
  rw [hTT.out] at hen hLz
  simp only [hTd] at hWr
  have hlay : ∀ W', V 0 W' → Whole W' sb 112 (sgL vb n a g s b (.slice none 0 0) 1 false) →
      Calls Tryz.prog 89 #[.pointer (some ⟨sb, 0, none⟩), .int .i64 0, .int .i64 1, .string T] W' fun e w' => e = .returned (.int .i64 r) ∧ V 1 w' ∧ Whole w' sb 112 (sgL vb n a g s b (.slice none 0 0) 1 false) := fun W' hV' hS' => by
    have hw0 : ∀ W, (V 0 W ∧ Whole W sb 112 (sgL vb n a g s b (.slice none 0 0) 1 false)) → Calls Tryz.prog 94 #[.pointer (some ⟨vb, 0, none⟩), .int .i64 ((2 + 16 * n + (0 + 0) : Nat) : Int), .string (B (sealL s 1 (pcL T.data.toList 0)))] W fun e w' => e = .returned (.int .i64 r) ∧ (V 1 w' ∧ Whole w' sb 112 (sgL vb n a g s b (.slice none 0 0) 1 false)) ∧ TK W w' := fun W h => by
      refine (hWr W h.1).mono ?_
      rintro e w' ⟨h1, h2, h3⟩
      exact ⟨h1, ⟨h2, h3.2 _ _ _ h.2 (by decide) (by decide) (by decide) (by decide)⟩, h3⟩
    have hl := lay_any vb sb n 0 s 1 1 (if r = 0 then 1 else 0) 1 0 r (sgL vb n a g s b (.slice none 0 0) 1 false) T (fun j W => V j W ∧ Whole W sb 112 (sgL vb n a g s b (.slice none 0 0) 1 false)) W' rfl rfl rfl (by omega) (by rw [hLz]) (by omega) (by omega) hs (by omega) (by omega) ⟨hV', hS'⟩
      (fun j W1 W2 h1 h2 => ⟨hVb _ _ _ h1.1 h2, h1.2.below h2 h1.2.lt⟩) (fun j W h => h.2)
      (fun j hj W h => by
        have h0 : r = 0 := by by_cases e : r = 0; exact e; rw [if_neg e] at hj; omega
        rw [if_pos h0] at hj
        obtain rfl : j = 0 := by omega
        have e := hw0 W h
        rw [h0] at e
        exact e)
      (by split <;> omega)
      (by
        by_cases e : r = 0
        · left; rw [if_pos e]; exact ⟨rfl, e, rfl⟩
        · right; rw [if_neg e]; exact ⟨by omega, e, rfl, fun W h => hw0 W h⟩)
    refine hl.mono ?_
    rintro e w' ⟨h1, h2, h3⟩
    exact ⟨h1, h2.1, h2.2⟩
  replace hlay := Lib.hid hlay
  replace hVb := Lib.hid hVb
  replace hVk := Lib.hid hVk
  clear h hWr hTT hTd hLz hV0 hT
  go_enter Tryz.func87, Tryz.ntmps87
  go_upto_region 1 with fail
  rw [← show W = _ from hW.out]
  clear hW
  go_wp2_with fail
  refine hf.out.mono ?_
  rintro _ w1 ⟨rfl, hS1, hb1⟩
  have hb1' : Below W.heap.size W w1 := by rw [hsz, hsb.out]; exact hb1
  have hH1 := hH.below hb1' hH.lt
  have hV1 := Lib.hid (hVb.out _ _ _ hVW.out hb1')
  have c0 := hH1.cell 0
  have c1 := hH1.cell 1
  have c2 := hH1.cell 2
  have c3 := hH1.cell 3
  simp only [List.getElem?_cons_zero, List.getElem?_cons_succ] at c0 c1 c2 c3
  have hB1 := Lib.hid (grew hB hb1')
  replace hS1 := Lib.hid hS1
  replace hH1 := Lib.hid hH1
  clear hH hb1 hb1' hB hVW
  go_wp2_with fail
  refine (hen.out _ (hTw.out _ hB1.out)).mono ?_
  rintro _ w2 ⟨rfl, hb2⟩
  have hV2 := Lib.hid (hVb.out _ _ _ hV1.out hb2)
  have hS2 := hS1.out.below hb2 hS1.out.lt
  have hH2 := hH1.out.below hb2 hH1.out.lt
  clear c0 c1 c2 c3
  have c0 := hH2.cell 0
  have c1 := hH2.cell 1
  have c2 := hH2.cell 2
  have c3 := hH2.cell 3
  simp only [List.getElem?_cons_zero, List.getElem?_cons_succ] at c0 c1 c2 c3
  have s2 := hS2.cell 2
  have s3 := hS2.cell 3
  have s4 := hS2.cell 4
  have s5 := hS2.cell 5
  simp only [List.getElem?_cons_zero, List.getElem?_cons_succ] at s2 s3 s4 s5
  have f2 := hS2.frozen 2
  have f3 := hS2.frozen 3
  have f4 := hS2.frozen 4
  have f5 := hS2.frozen 5
  have hS3 : Hid (Whole (w2.setCells sb 2 (hdr a g s b)) sb 112 (sgL vb n a g s b (.slice none 0 0) 1 false)) := Lib.hid (hS2.store 2 (hdr a g s b) (by simp))
  have hV3 : Hid (V 0 (w2.setCells sb 2 (hdr a g s b))) := Lib.hid (hVk.out 0 w2 _ sb _ hV2.out hS2 (by have := hsb.out; omega) ((Kept.refl (fun q => q = sb) w2).setCells (c := sb) (.inl rfl) 2 _))
  clear hS2 hH2 hb2 hS1 hH1 hB1 hV2 hV1
  go_upto_region 8 with fail
  rw [show (((w2.setCell ⟨sb, 2, none⟩ (.int .i64 (a : Int))).setCell ⟨sb, 3, none⟩ (.int .u32 (g : Int))).setCell ⟨sb, 4, none⟩ (.int .u32 (s : Int))).setCell ⟨sb, 5, none⟩ (.int .i64 (b : Int)) = w2.setCells sb 2 (hdr a g s b) from rfl]
  generalize w2.setCells sb 2 (hdr a g s b) = w3 at hS3 hV3 ⊢
  clear c0 c1 c2 c3 s2 s3 s4 s5 f2 f3 f4 f5
  go_wp2_with fail
  refine (hlay.out _ hV3.out hS3.out).mono ?_
  rintro _ w4 ⟨rfl, hV4, hS4⟩
  by_cases hr : r = 0
  · subst hr
    have hfin : Hid (Created sb vb n a g s b 0 V (.returned (.tuple #[.pointer (some ⟨sb, 0, none⟩), .int .i64 0])) w4) := Lib.hid (.inr ⟨rfl, rfl, hV4, ⟨hS4, own_nil, fun _ => rfl⟩⟩)
    clear hV4 hS4
    go_wp2_with fail
    go_ret2
    exact hfin.out
  · have hrb : (r != 0) = true := by simp [hr]
    have hfin : Hid (Created sb vb n a g s b r V (.returned (.tuple #[.pointer none, .int .i64 r])) w4) := Lib.hid (.inl ⟨hr, rfl, hV4⟩)
    clear hV4 hS4
    go_wp2_with fail
    go_ret2
    exact hfin.out
end
end Go.Proofs.YtgogackkeodciabGreatDoor.W
end
section
namespace Go.Proofs.YtgogackkeodciabGreatDoor.W
open Go.RowKit
open Go.Proofs.YtgogackkeodciabGreatDoor.M Go.Proofs.YtgogackkeodciabGreatDoor.D Go.Proofs.YtgogackkeodciabGreatDoor.Z
set_option linter.unusedVariables false

section
variable {w : World} {sb vb n : Nat}
end
end Go.Proofs.YtgogackkeodciabGreatDoor.W
end
section
namespace Go.Proofs.YtgogackkeodciabGreatDoor.W
open Go.RowKit
open Go.Proofs.YtgogackkeodciabGreatDoor.M Go.Proofs.YtgogackkeodciabGreatDoor.D Go.Proofs.YtgogackkeodciabGreatDoor.Z
set_option linter.unusedVariables false

section
variable {w : World} {sb vb n : Nat}
end
end Go.Proofs.YtgogackkeodciabGreatDoor.W
end
