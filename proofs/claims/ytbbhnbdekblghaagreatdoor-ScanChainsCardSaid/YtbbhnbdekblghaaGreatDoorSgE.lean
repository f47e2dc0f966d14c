/- Bytes that come piece by piece, and the frame with which they begin; nothing of the program. The walks of package segment's Create and Wipe. The walks of package segment's reader: what the sectors tell. The walks of package segment's reader: the header. -/
import Derived.WalkKit
import Derived.Test.YtbbhnbdekblghaaGreatDoorFrameM
import Derived.Test.YtbbhnbdekblghaaGreatDoorSgA
import Derived.Test.YtbbhnbdekblghaaGreatDoorHdAll
import Derived.Deep.Cut
import Derived.Test.YtbbhnbdekblghaaGreatDoorSegLoop
section
namespace Go.Proofs.YtbbhnbdekblghaaGreatDoor.M
open Go.RowKit
set_option linter.unusedVariables false

theorem ext_app (D m : ByteArray) (i j : Nat) (hj : j ≤ D.size) : (D ++ m).extract i j = D.extract i j := by
  rw [← B_of ((D ++ m).extract i j), ← B_of (D.extract i j), ext_list, ext_list]
  have e : (D ++ m).data.toList = D.data.toList ++ m.data.toList := by simp
  have hl : D.data.toList.length = D.size := by simp
  rw [e]
  congr 1
  by_cases h : i ≤ j
  · rw [List.drop_append, List.take_append_of_le_length (by rw [List.length_drop, hl]; omega)]
  · rw [show j - i = 0 from by omega, List.take_zero, List.take_zero]
theorem told_ext (D m : ByteArray) (h : 2 ≤ D.size) : toldF (D ++ m) = toldF D := by unfold toldF; rw [ext_app _ _ _ _ h]
theorem size_app (D m : ByteArray) : (D ++ m).size = D.size + m.size := ByteArray.size_append
theorem bt_app (D m : ByteArray) (i : Nat) (h : i < D.size) : bt (D ++ m).data.toList i = bt D.data.toList i := by
  have e : (D ++ m).data.toList = D.data.toList ++ m.data.toList := by simp
  have hl : D.data.toList.length = D.size := by simp
  unfold bt
  rw [e]
  simp [List.getElem?_append_left, hl, h]
/-- What is told of bytes that are not too short is told of longer ones. -/
theorem dec_ext (st pl : Int) (D m : ByteArray) (h2 : 2 ≤ D.size) (h : decWhy st pl D ≠ 3) : decWhy st pl (D ++ m) = decWhy st pl D := by
  have hs := size_app D m
  unfold decWhy at h ⊢
  rw [told_ext D m h2]
  have e1 : bodyS (D ++ m) = bodyS D ∨ D.size < 6 + toldF D := by
    by_cases h5 : D.size < 6 + toldF D
    · exact .inr h5
    · left; unfold bodyS; rw [told_ext D m h2, ext_app _ _ _ _ (by omega)]
  have a1 : ¬ D.size < 2 := by omega
  have a2 : ¬ (D ++ m).size < 2 := by omega
  by_cases h0 : ¬ (1 ≤ pl ∧ pl < 16)
  · simp only [if_pos h0]
  simp only [if_neg h0, if_neg a1, if_neg a2] at h ⊢
  by_cases h3 : toldF D = 0
  · simp only [if_pos h3]
  simp only [if_neg h3] at h ⊢
  by_cases h4 : 774 < toldF D
  · simp only [if_pos h4]
  simp only [if_neg h4] at h ⊢
  by_cases h5 : D.size < 6 + toldF D
  · rw [if_pos h5] at h; exact absurd rfl h
  have a5 : ¬ (D ++ m).size < 6 + toldF D := by omega
  rw [if_neg h5, if_neg a5]
  rw [e1.resolve_right h5, ext_app _ _ _ _ (by omega), ext_app _ _ _ _ (by omega), bt_app _ _ _ (by omega)]
theorem dec_short (st pl : Int) (D : ByteArray) (h2 : 2 ≤ D.size) (h : decWhy st pl D = 3) : D.size < 6 + toldF D := by
  unfold decWhy at h
  split at h
  · cases h
  split at h
  · omega
  split at h
  · cases h
  split at h
  · cases h
  split at h
  · assumption
  · split at h <;> cases h
theorem dec_size (st pl : Int) (D : ByteArray) (h : decWhy st pl D = 0) : 2 ≤ D.size ∧ 6 + toldF D ≤ D.size ∧ 1 ≤ toldF D ∧ toldF D ≤ 774 ∧ 1 ≤ pl ∧ pl < 16 := by
  unfold decWhy at h
  split at h
  · cases h
  split at h
  · cases h
  split at h
  · cases h
  split at h
  · cases h
  split at h
  · cases h
  · refine ⟨by omega, by omega, by omega, by omega, ?_, ?_⟩ <;> omega
theorem dec_nil (st pl : Int) : decWhy st pl ⟨#[]⟩ ≠ 0 := by
  intro h
  have := (dec_size _ _ _ h).1
  exact absurd this (by decide)
/-- How many pieces: bytes of so many whole pieces that were too short, and are not with one more. -/
theorem pieces_of (st pl : Int) (D E : ByteArray) (j : Nat) (hD : D.size = 52 * j) (hE : E.size = 52) (hs : j = 0 ∨ decWhy st pl D = 3) (h : decWhy st pl (D ++ E) = 0) : (6 + toldF (D ++ E) + 51) / 52 = j + 1 := by
  obtain ⟨_, h1, h2, _⟩ := dec_size _ _ _ h
  rw [size_app] at h1
  rcases hs with rfl | hs
  · omega
  · by_cases h0 : j = 0
    · subst h0; omega
    have h3 := dec_short st pl D (by omega) hs
    rw [← told_ext D E (by omega)] at h3
    omega
end Go.Proofs.YtbbhnbdekblghaaGreatDoor.M
end
section
namespace Go.Proofs.YtbbhnbdekblghaaGreatDoor.W
open Go.RowKit
open Go.Proofs.YtbbhnbdekblghaaGreatDoor.M Go.Proofs.YtbbhnbdekblghaaGreatDoor.D Go.Proofs.YtbbhnbdekblghaaGreatDoor.Z
set_option linter.unusedVariables false

theorem create_nil (n a g s b : Int) (w : World) :
    Calls Tryz.prog 77 #[.pointer none, .int .i64 n, .agg #[.int .i64 a, .int .u32 g, .int .u32 s, .int .i64 b]] w fun e w' => e = .returned (.tuple #[.pointer none, .int .i64 7]) ∧ Below w.heap.size w w' := by
  have hB := Lib.hid (allocBelow w (.cells (hdr a g s b).toArray 79))
  go_enter Tryz.func77, Tryz.ntmps77
  go_wp2_with fail
  refine (find_nil n _).mono ?_
  rintro _ w1 ⟨rfl, rfl⟩
  go_wp2_with fail
  go_ret2
  exact ⟨rfl, hB.out⟩
section
variable {w : World} {vb d g' : Nat} {v : Value} {lie : List (List UInt8)} {ws : List (Nat × List UInt8)} {from_ m : Nat} {fuse steps : Int} {gone : Bool}
theorem create_out (n a g s b : Int) (q : Nat) (h : Vw w vb d g' v lie ws from_ m fuse steps gone) (hm : m = q + 2) (hq : q ≤ 1000000) (hn : ¬ (0 ≤ n ∧ n < ((q / 16 : Nat) : Int))) :
    Calls Tryz.prog 77 #[.pointer (some ⟨vb, 0, none⟩), .int .i64 n, .agg #[.int .i64 a, .int .u32 g, .int .u32 s, .int .i64 b]] w fun e w' => e = .returned (.tuple #[.pointer none, .int .i64 20]) ∧ Below w.heap.size w w' := by
  have hB := Lib.hid (allocBelow w (.cells (hdr a g s b).toArray 79))
  have hf := Lib.hid (find_out n q (h.below hB.out) hm hq hn)
  clear h
  go_enter Tryz.func77, Tryz.ntmps77
  go_wp2_with fail
  refine hf.out.mono ?_
  rintro _ w1 ⟨rfl, rfl⟩
  go_wp2_with fail
  go_ret2
  exact ⟨rfl, hB.out⟩
theorem create_arg (n q : Nat) (a g s b : Int) (h : Vw w vb d g' v lie ws from_ m fuse steps gone) (hm : m = q + 2) (hq : q ≤ 1000000) (hn : n < q / 16) (hk : okH a b = false) :
    Calls Tryz.prog 77 #[.pointer (some ⟨vb, 0, none⟩), .int .i64 (n : Int), .agg #[.int .i64 a, .int .u32 g, .int .u32 s, .int .i64 b]] w fun e w' => e = .returned (.tuple #[.pointer none, .int .i64 1]) ∧ Below w.heap.size w w' := by
  obtain ⟨W, hW⟩ : ∃ W, Hid (W = w.alloc (.cells (hdr a g s b).toArray 79)) := ⟨_, Lib.hid rfl⟩
  have hB : Below w.heap.size w W := by rw [hW.out]; exact allocBelow w _
  have hH : Whole W w.heap.size 79 (hdr a g s b) := by rw [hW.out]; exact Whole.new w _ _
  have hf := Lib.hid (find_in n q (h.below hB) hm hq hn)
  have hen := Lib.hid (fun W => encH_no a g s b W hk)
  clear h
  go_enter Tryz.func77, Tryz.ntmps77
  go_upto_region 1 with fail
  rw [← show W = _ from hW.out]
  clear hW
  go_wp2_with fail
  refine hf.out.mono ?_
  rintro _ w1 ⟨rfl, _, hb1⟩
  have hH1 := hH.below hb1 hH.lt
  have c0 := hH1.cell 0
  have c1 := hH1.cell 1
  have c2 := hH1.cell 2
  have c3 := hH1.cell 3
  simp only [List.getElem?_cons_zero, List.getElem?_cons_succ] at c0 c1 c2 c3
  replace hB := Lib.hid (grew hB hb1)
  clear hH hH1 hb1
  go_wp2_with fail
  refine (hen.out _).mono ?_
  rintro _ w2 ⟨rfl, hb2⟩
  go_wp2_with fail
  go_ret2
  exact ⟨rfl, grew hB.out hb2⟩
/-- What a Create comes to. -/
def Created (sb vb n a g s b : Nat) (r : Int) (V : Nat → World → Prop) (e : Ending) (w' : World) : Prop :=
  (r ≠ 0 ∧ e = .returned (.tuple #[.pointer none, .int .i64 r]) ∧ V 1 w') ∨
  (r = 0 ∧ e = .returned (.tuple #[.pointer (some ⟨sb, 0, none⟩), .int .i64 0]) ∧ V 1 w' ∧ Sg w' sb vb n a g s b none 0 [] 1 false)
set_option maxRecDepth 100000 in
set_option maxHeartbeats 8000000 in
theorem create_by (n q a g s b : Nat) (r : Int) (V : Nat → World → Prop) (h : Vw w vb d g' v lie ws from_ m fuse steps gone) (hm : m = q + 2) (hq : q ≤ 1000) (hn : n < q / 16) (hT : Wide w) (ha1 : 1 ≤ a) (ha : a < 65536) (hg : g < 4294967296) (hs : s < 4294967296) (hb : b ≤ 1099511627776)
    (hV0 : V 0 w) (hVb : ∀ j W W', V j W → Below W.heap.size W W' → V j W')
    (hVk : ∀ j W W' sb cs, V j W → Whole W sb 160 cs → w.heap.size ≤ sb → Kept (fun q => q = sb) W W' → V j W')
    (hWr : ∀ W, V 0 W → Calls Tryz.prog 125 #[.pointer (some ⟨vb, 0, none⟩), .int .i64 ((2 + 16 * n + (0 + 0) : Nat) : Int), .string (B (sealL s 1 (pcL (headerL a g s b) 0)))] W fun e w' => e = .returned (.int .i64 r) ∧ V 1 w' ∧ TK W w') :
    Calls Tryz.prog 77 #[.pointer (some ⟨vb, 0, none⟩), .int .i64 (n : Int), .agg #[.int .i64 (a : Int), .int .u32 (g : Int), .int .u32 (s : Int), .int .i64 (b : Int)]] w fun e w' => Created (w.heap.size + 1) vb n a g s b r V e w' := by
  obtain ⟨W, hW⟩ : ∃ W, Hid (W = w.alloc (.cells (hdr a g s b).toArray 79)) := ⟨_, Lib.hid rfl⟩
  have hB : Below w.heap.size w W := by rw [hW.out]; exact allocBelow w _
  have hH : Whole W w.heap.size 79 (hdr a g s b) := by rw [hW.out]; exact Whole.new w _ _
  have hsz : W.heap.size = w.heap.size + 1 := by rw [hW.out]; simp
  have hf := find_in n q (h.below hB) hm (by omega) hn
  rw [hsz] at hf
  replace hf := Lib.hid hf
  have hen := Lib.hid (fun W hW => encH_yes a g s b W hW ha1 ha hg hs hb)
  have hVW := Lib.hid (hVb _ _ _ hV0 hB)
  have hTw := Lib.hid (fun W' (hb : Below w.heap.size w W') => hT.below hb)
  obtain ⟨sb, hsb⟩ : ∃ sb, Hid (w.heap.size + 1 = sb) := ⟨_, Lib.hid rfl⟩
  rw [hsb.out] at hf ⊢
  have hLz : (B (headerL a g s b)).size = 32 := by rw [B_size, headerL_len]
  obtain ⟨T, hTT⟩ : ∃ T, Hid (B (headerL a g s b) = T) := ⟨_, Lib.hid rfl⟩
  have hTd : headerL a g s b = T.data.toList := by rw [← hTT.out, B_data]
  rw [hTT.out] at hen hLz
  simp only [hTd] at hWr
  have hlay : ∀ W', V 0 W' → Whole W' sb 160 (sgL vb n a g s b (.slice none 0 0) 1 false) →
      Calls Tryz.prog 114 #[.pointer (some ⟨sb, 0, none⟩), .int .i64 0, .int .i64 1, .string T] W' fun e w' => e = .returned (.int .i64 r) ∧ V 1 w' ∧ Whole w' sb 160 (sgL vb n a g s b (.slice none 0 0) 1 false) := fun W' hV' hS' => by
    have hw0 : ∀ W, (V 0 W ∧ Whole W sb 160 (sgL vb n a g s b (.slice none 0 0) 1 false)) → Calls Tryz.prog 125 #[.pointer (some ⟨vb, 0, none⟩), .int .i64 ((2 + 16 * n + (0 + 0) : Nat) : Int), .string (B (sealL s 1 (pcL T.data.toList 0)))] W fun e w' => e = .returned (.int .i64 r) ∧ (V 1 w' ∧ Whole w' sb 160 (sgL vb n a g s b (.slice none 0 0) 1 false)) ∧ TK W w' := fun W h => by
      refine (hWr W h.1).mono ?_
      rintro e w' ⟨h1, h2, h3⟩
      exact ⟨h1, ⟨h2, h3.2 _ _ _ h.2 (by decide) (by decide) (by decide) (by decide)⟩, h3⟩
    have hl := lay_any vb sb n 0 s 1 1 (if r = 0 then 1 else 0) 1 0 r (sgL vb n a g s b (.slice none 0 0) 1 false) T (fun j W => V j W ∧ Whole W sb 160 (sgL vb n a g s b (.slice none 0 0) 1 false)) W' rfl rfl rfl (by omega) (by rw [hLz]) (by omega) (by omega) hs (by omega) (by omega) ⟨hV', hS'⟩
      (fun j W1 W2 h1 h2 => ⟨hVb _ _ _ h1.1 h2, h1.2.below h2 h1.2.lt⟩) (fun j W h => h.2)
      (fun j hj W h => by
        have h0 : r = 0 := by by_cases e : r = 0; exact e; rw [if_neg e] at hj; omega
        rw [if_pos h0] at hj
        obtain rfl : j = 0 := by omega
        have e := hw0 W h
        rw [h0] at e
        exact e)
      (by split <;> omega)
      (by
        by_cases e : r = 0
        · left; rw [if_pos e]; exact ⟨rfl, e, rfl⟩
        · right; rw [if_neg e]; exact ⟨by omega, e, rfl, fun W h => hw0 W h⟩)
    refine hl.mono ?_
    rintro e w' ⟨h1, h2, h3⟩
    exact ⟨h1, h2.1, h2.2⟩
  replace hlay := Lib.hid hlay
  replace hVb := Lib.hid hVb
  replace hVk := Lib.hid hVk
  clear h hWr hTT hTd hLz hV0 hT
  go_enter Tryz.func77, Tryz.ntmps77
  go_upto_region 1 with fail
  rw [← show W = _ from hW.out]
  clear hW
  go_wp2_with fail
  refine hf.out.mono ?_
  rintro _ w1 ⟨rfl, hS1, hb1⟩
  have hb1' : Below W.heap.size W w1 := by rw [hsz, hsb.out]; exact hb1
  have hH1 := hH.below hb1' hH.lt
  have hV1 := Lib.hid (hVb.out _ _ _ hVW.out hb1')
  have c0 := hH1.cell 0
  have c1 := hH1.cell 1
  have c2 := hH1.cell 2
  have c3 := hH1.cell 3
  simp only [List.getElem?_cons_zero, List.getElem?_cons_succ] at c0 c1 c2 c3
  have hB1 := Lib.hid (grew hB hb1')
  replace hS1 := Lib.hid hS1
  replace hH1 := Lib.hid hH1
  clear hH hb1 hb1' hB hVW
  go_wp2_with fail
  refine (hen.out _ (hTw.out _ hB1.out)).mono ?_
  rintro _ w2 ⟨rfl, hb2⟩
  have hV2 := Lib.hid (hVb.out _ _ _ hV1.out hb2)
  have hS2 := hS1.out.below hb2 hS1.out.lt
  have hH2 := hH1.out.below hb2 hH1.out.lt
  clear c0 c1 c2 c3
  have c0 := hH2.cell 0
  have c1 := hH2.cell 1
  have c2 := hH2.cell 2
  have c3 := hH2.cell 3
  simp only [List.getElem?_cons_zero, List.getElem?_cons_succ] at c0 c1 c2 c3
  have s2 := hS2.cell 2
  have s3 := hS2.cell 3
  have s4 := hS2.cell 4
  have s5 := hS2.cell 5
  simp only [List.getElem?_cons_zero, List.getElem?_cons_succ] at s2 s3 s4 s5
  have f2 := hS2.frozen 2
  have f3 := hS2.frozen 3
  have f4 := hS2.frozen 4
  have f5 := hS2.frozen 5
  have hS3 : Hid (Whole (w2.setCells sb 2 (hdr a g s b)) sb 160 (sgL vb n a g s b (.slice none 0 0) 1 false)) := Lib.hid (hS2.store 2 (hdr a g s b) (by simp))
  have hV3 : Hid (V 0 (w2.setCells sb 2 (hdr a g s b))) := Lib.hid (hVk.out 0 w2 _ sb _ hV2.out hS2 (by have := hsb.out; omega) ((Kept.refl (fun q => q = sb) w2).setCells (c := sb) (.inl rfl) 2 _))
  clear hS2 hH2 hb2 hS1 hH1 hB1 hV2 hV1
  go_upto_region 8 with fail
  rw [show (((w2.setCell ⟨sb, 2, none⟩ (.int .i64 (a : Int))).setCell ⟨sb, 3, none⟩ (.int .u32 (g : Int))).setCell ⟨sb, 4, none⟩ (.int .u32 (s : Int))).setCell ⟨sb, 5, none⟩ (.int .i64 (b : Int)) = w2.setCells sb 2 (hdr a g s b) from rfl]
  generalize w2.setCells sb 2 (hdr a g s b) = w3 at hS3 hV3 ⊢
  clear c0 c1 c2 c3 s2 s3 s4 s5 f2 f3 f4 f5
  go_wp2_with fail
  refine (hlay.out _ hV3.out hS3.out).mono ?_
  rintro _ w4 ⟨rfl, hV4, hS4⟩
  by_cases hr : r = 0
  · subst hr
    have hfin : Hid (Created sb vb n a g s b 0 V (.returned (.tuple #[.pointer (some ⟨sb, 0, none⟩), .int .i64 0])) w4) := Lib.hid (.inr ⟨rfl, rfl, hV4, ⟨hS4, own_nil, fun _ => rfl⟩⟩)
    clear hV4 hS4
    go_wp2_with fail
    go_ret2
    exact hfin.out
  · have hrb : (r != 0) = true := by simp [hr]
    have hfin : Hid (Created sb vb n a g s b r V (.returned (.tuple #[.pointer none, .int .i64 r])) w4) := Lib.hid (.inl ⟨hr, rfl, hV4⟩)
    clear hV4 hS4
    go_wp2_with fail
    go_ret2
    exact hfin.out
end
end Go.Proofs.YtbbhnbdekblghaaGreatDoor.W
end
section
namespace Go.Proofs.YtbbhnbdekblghaaGreatDoor.W
open Go.RowKit
open Go.Proofs.YtbbhnbdekblghaaGreatDoor.M Go.Proofs.YtbbhnbdekblghaaGreatDoor.D Go.Proofs.YtbbhnbdekblghaaGreatDoor.Z
set_option linter.unusedVariables false

section
variable {w : World} {sb vb n : Nat}
set_option maxRecDepth 100000 in
set_option maxHeartbeats 4000000 in
theorem ropenS_by (p A : Nat) (cc st c : Int) (x D : ByteArray) (er : Int) (hn : n ≤ 1000) (hp : p ≤ 1000) (hA : 2 + 16 * n + p = A) (c0 : w.cell? ⟨sb, 0, none⟩ = some (.pointer (some ⟨vb, 0, none⟩))) (c1 : w.cell? ⟨sb, 1, none⟩ = some (.int .i64 (n : Int)))
    (hrd : ∀ W, Below w.heap.size w W → Calls Tryz.prog 165 #[.pointer (some ⟨vb, 0, none⟩), .int .i64 (A : Int)] W fun e w' => e = .returned (.tuple #[.string x, .int .i64 0]) ∧ Below W.heap.size W w')
    (hop : ∀ W, Calls Tryz.prog 166 #[.string x] W fun e w' => e = .returned (.tuple #[.int .u32 st, .int .i64 c, .string D, .int .i64 er]) ∧ Below W.heap.size W w') (r : Bool) (hr : (er = 0 ∧ c = cc ∧ r = true) ∨ ((er ≠ 0 ∨ c ≠ cc) ∧ r = false)) :
    Calls Tryz.prog 141 #[.agg #[.pointer (some ⟨sb, 0, none⟩)], .int .i64 (p : Int), .int .i64 cc] w fun e w' => e = .returned (if r then .tuple #[.int .u32 st, .string D, .int .i64 0] else .tuple #[.int .u32 0, .string ⟨#[]⟩, .int .i64 4]) ∧ Below w.heap.size w w' := by
  have hsec : Hid (∀ W : World, W.cell? ⟨sb, 1, none⟩ = some (.int .i64 (n : Int)) → Calls Tryz.prog 126 #[.pointer (some ⟨sb, 0, none⟩), .int .i64 (p : Int)] W fun e w' => e = .returned (.int .i64 (A : Int)) ∧ W = w') := Lib.hid (fun W hc => by
    have h := sectorAt_any sb n p W (by omega) (by omega) hc
    rw [hA] at h
    exact h)
  obtain ⟨W, hW⟩ : ∃ W, Hid (W = w.alloc (.cells #[.pointer (some ⟨sb, 0, none⟩)] 163)) := ⟨_, Lib.hid rfl⟩
  have hbW : Below w.heap.size w W := by rw [hW.out]; exact allocBelow w _
  have hbox : Whole W w.heap.size 163 [.pointer (some ⟨sb, 0, none⟩)] := by rw [hW.out]; exact Whole.new w _ _
  have d0 : W.drew.cell? ⟨w.heap.size, 0, none⟩ = some (.pointer (some ⟨sb, 0, none⟩)) := hbox.cell 0
  have e0 : W.drew.cell? ⟨sb, 0, none⟩ = some (.pointer (some ⟨vb, 0, none⟩)) := (show W.cell? ⟨sb, 0, none⟩ = _ from keepCell hbW c0)
  have e1 : W.drew.cell? ⟨sb, 1, none⟩ = some (.int .i64 (n : Int)) := (show W.cell? ⟨sb, 1, none⟩ = _ from keepCell hbW c1)
  have hbD := Lib.hid (show Below w.heap.size w W.drew from hbW.trans ((drewBelow W).mono hbW.size))
  replace hrd := Lib.hid hrd
  replace hop := Lib.hid hop
  replace hr := Lib.hid hr
  clear c0 c1 hbox hbW hA
  go_enter Tryz.func141, Tryz.ntmps141
  go_upto_region 1 with fail
  rw [← show W = _ from hW.out]
  clear hW
  go_wp2_with fail
  go_region_held3 (fun w' => w'.cell? ⟨w.heap.size, 0, none⟩ = some (.pointer (some ⟨sb, 0, none⟩)) ∧ w'.cell? ⟨sb, 0, none⟩ = some (.pointer (some ⟨vb, 0, none⟩)) ∧ w'.cell? ⟨sb, 1, none⟩ = some (.int .i64 (n : Int))) (go_keep) (first
    | (go_at_call 126; (with_reducible refine (hsec.out _ e1).mono ?_); rintro _ w6 ⟨rfl, rfl⟩)
    | (go_at_call 165; (with_reducible refine (hrd.out _ hbD.out).mono ?_); rintro _ w7 ⟨rfl, hb7⟩; have g0 := keepCell hb7 d0; have g1 := keepCell hb7 e0; have g2 := keepCell hb7 e1))
  have hB7 := Lib.hid (hbD.out.trans (hb7.mono hbD.out.size))
  clear d0 e0 e1 g0 g1 g2 hb7 hbD
  go_wp2_with fail
  refine (hop.out _).mono ?_
  rintro _ w8 ⟨rfl, hb8⟩
  replace hB7 := Lib.hid (grew hB7.out hb8)
  clear hb8
  rcases hr.out with ⟨rfl, rfl, rfl⟩ | ⟨he, rfl⟩
  · have hcc : (c != c) = false := by simp
    clear hr
    go_wp2_with fail
    exact bodyPost_ret (v := .tuple #[.int .u32 st, .string D, .int .i64 0]) (by simp [results, Tryz.results141, go_sem]) rfl ⟨rfl, hB7.out⟩
  · by_cases h0 : er = 0
    · subst h0
      have hcc : (c != cc) = true := by simpa using he
      clear hr he
      go_wp2_with fail
      exact bodyPost_ret (v := .tuple #[.int .u32 0, .string ⟨#[]⟩, .int .i64 4]) (by simp [results, Tryz.results141, go_sem]) rfl ⟨rfl, hB7.out⟩
    · have hcc : (er != 0) = true := by simp [h0]
      clear hr he h0
      go_wp2_with fail
      exact bodyPost_ret (v := .tuple #[.int .u32 0, .string ⟨#[]⟩, .int .i64 4]) (by simp [results, Tryz.results141, go_sem]) rfl ⟨rfl, hB7.out⟩
theorem openS_yes (p A : Nat) (x : ByteArray) (hn : n ≤ 1000) (hp : p ≤ 1000) (hA : 2 + 16 * n + p = A) (c0 : w.cell? ⟨sb, 0, none⟩ = some (.pointer (some ⟨vb, 0, none⟩))) (c1 : w.cell? ⟨sb, 1, none⟩ = some (.int .i64 (n : Int)))
    (hrd : ∀ W, Below w.heap.size w W → Calls Tryz.prog 165 #[.pointer (some ⟨vb, 0, none⟩), .int .i64 (A : Int)] W fun e w' => e = .returned (.tuple #[.string x, .int .i64 0]) ∧ Below W.heap.size W w')
    (c : Nat) (ho : opensS x) (hc : countS x = c) :
    Calls Tryz.prog 141 #[.agg #[.pointer (some ⟨sb, 0, none⟩)], .int .i64 (p : Int), .int .i64 (c : Int)] w fun e w' => e = .returned (.tuple #[.int .u32 (stampS x : Nat), .string (x.extract 6 58), .int .i64 0]) ∧ Below w.heap.size w w' :=
  ropenS_by p A _ _ _ x _ 0 hn hp hA c0 c1 hrd (fun W => open_yes x W ho) true (.inl ⟨rfl, by omega, rfl⟩)
theorem openS_no (p A : Nat) (x : ByteArray) (hn : n ≤ 1000) (hp : p ≤ 1000) (hA : 2 + 16 * n + p = A) (c0 : w.cell? ⟨sb, 0, none⟩ = some (.pointer (some ⟨vb, 0, none⟩))) (c1 : w.cell? ⟨sb, 1, none⟩ = some (.int .i64 (n : Int)))
    (hrd : ∀ W, Below w.heap.size w W → Calls Tryz.prog 165 #[.pointer (some ⟨vb, 0, none⟩), .int .i64 (A : Int)] W fun e w' => e = .returned (.tuple #[.string x, .int .i64 0]) ∧ Below W.heap.size W w')
    (c : Nat) (hx : x.size ≤ 1000000) (ho : ¬ (opensS x ∧ countS x = c)) :
    Calls Tryz.prog 141 #[.agg #[.pointer (some ⟨sb, 0, none⟩)], .int .i64 (p : Int), .int .i64 (c : Int)] w fun e w' => e = .returned (.tuple #[.int .u32 0, .string ⟨#[]⟩, .int .i64 4]) ∧ Below w.heap.size w w' := by
  by_cases h : opensS x
  · exact ropenS_by p A _ _ _ x _ 0 hn hp hA c0 c1 hrd (fun W => open_yes x W h) false (.inr ⟨.inr (fun e => ho ⟨h, by omega⟩), rfl⟩)
  · exact ropenS_by p A _ _ _ x _ 4 hn hp hA c0 c1 hrd (fun W => open_no x W hx h) false (.inr ⟨.inl (by decide), rfl⟩)
end
end Go.Proofs.YtbbhnbdekblghaaGreatDoor.W
end
section
namespace Go.Proofs.YtbbhnbdekblghaaGreatDoor.W
open Go.RowKit
open Go.Proofs.YtbbhnbdekblghaaGreatDoor.M Go.Proofs.YtbbhnbdekblghaaGreatDoor.D Go.Proofs.YtbbhnbdekblghaaGreatDoor.Z
set_option linter.unusedVariables false

section
variable {w : World} {sb vb n : Nat}
set_option maxRecDepth 100000 in
set_option maxHeartbeats 4000000 in
theorem readHeader_yes (A : Nat) (x : ByteArray) (a0 g0 s0 b0 E : Nat) (fv : Value) (sl : Bool) (hn : n ≤ 1000) (hA : 2 + 16 * n + 0 = A) (hS : Whole w sb 160 (sgL vb n a0 g0 s0 b0 fv E sl)) (hT : Wide w)
    (hrd : ∀ W, Below w.heap.size w W → Calls Tryz.prog 165 #[.pointer (some ⟨vb, 0, none⟩), .int .i64 (A : Int)] W fun e w' => e = .returned (.tuple #[.string x, .int .i64 0]) ∧ Below W.heap.size W w') (hh : headS x) :
    Calls Tryz.prog 106 #[.agg #[.pointer (some ⟨sb, 0, none⟩)]] w fun e w' => e = .returned (.int .i64 0) ∧ Whole w' sb 160 (sgL vb n (logH (x.extract 6 58)) (genH (x.extract 6 58)) (stampS x) (baseH (x.extract 6 58)) fv E sl) ∧ Kept (fun q => q = sb) w w' := by
  obtain ⟨ho, hc, hi, hs⟩ := hh
  obtain ⟨W, hW⟩ : ∃ W, Hid (W = w.alloc (.cells #[.pointer (some ⟨sb, 0, none⟩)] 163)) := ⟨_, Lib.hid rfl⟩
  have hbW : Below w.heap.size w W := by rw [hW.out]; exact allocBelow w _
  have hbox : Whole W w.heap.size 163 [.pointer (some ⟨sb, 0, none⟩)] := by rw [hW.out]; exact Whole.new w _ _
  have hSW := hS.below hbW hS.lt
  have hop := openS_yes 0 A x hn (by omega) hA (hSW.cell 0) (hSW.cell 1) (fun W' hb => hrd W' (hbW.trans (hb.mono hbW.size))) 1 ho hc
  have hz : 32 ≤ (x.extract 6 58).size := by have := ho.1; simp; omega
  have hde := fun W hW => decH_isH (x.extract 6 58) W hW hz hi
  rw [hs] at hde
  obtain ⟨D, hD⟩ : ∃ D, Hid (x.extract 6 58 = D) := ⟨_, Lib.hid rfl⟩
  rw [hD.out] at hop hde ⊢
  obtain ⟨st, hst⟩ : ∃ st, Hid (stampS x = st) := ⟨_, Lib.hid rfl⟩
  rw [hst.out] at hop hde ⊢
  obtain ⟨la, hla⟩ : ∃ st, Hid (logH D = st) := ⟨_, Lib.hid rfl⟩
  obtain ⟨lg, hlg⟩ : ∃ st, Hid (genH D = st) := ⟨_, Lib.hid rfl⟩
  obtain ⟨lb, hlb⟩ : ∃ st, Hid (baseH D = st) := ⟨_, Lib.hid rfl⟩
  rw [hla.out, hlg.out, hlb.out] at hde ⊢
  have d0 : W.cell? ⟨w.heap.size, 0, none⟩ = some (.pointer (some ⟨sb, 0, none⟩)) := hbox.cell 0
  have hTw := Lib.hid (fun W' (hb : Below w.heap.size w W') => hT.below hb)
  replace hop := Lib.hid hop
  replace hde := Lib.hid hde
  clear hi hs hz hc ho hA hrd hT
  go_enter Tryz.func106, Tryz.ntmps106
  go_upto_region 1 with fail
  rw [← show W = _ from hW.out]
  clear hW
  go_wp2_with fail
  refine hop.out.mono ?_
  rintro _ w1 ⟨rfl, hb1⟩
  have hB1 := grew hbW hb1
  have hbox1 := hbox.below hb1 hbox.lt
  clear d0 hb1
  go_wp2_with fail
  refine (hde.out _ (hTw.out _ hB1)).mono ?_
  rintro _ w2 ⟨rfl, hb2⟩
  have hB2 := grew hB1 hb2
  obtain ⟨w3, hw3⟩ : ∃ w3, Hid (w3 = w2.alloc (.cells (hdr la lg st lb).toArray 79)) := ⟨_, Lib.hid rfl⟩
  have hb3 : Below w2.heap.size w2 w3 := by rw [hw3.out]; exact allocBelow w2 _
  have hB3 := grew hB2 hb3
  have hH3 : Whole w3 w2.heap.size 79 (hdr la lg st lb) := by rw [hw3.out]; exact Whole.new w2 _ _
  have hS3 := hS.below hB3 hS.lt
  have d0 : w3.cell? ⟨w.heap.size, 0, none⟩ = some (.pointer (some ⟨sb, 0, none⟩)) := (hbox1.below (grew hb2 hb3) hbox1.lt).cell 0
  have c0 := hH3.cell 0
  have c1 := hH3.cell 1
  have c2 := hH3.cell 2
  have c3 := hH3.cell 3
  have s2 := hS3.cell 2
  have s3 := hS3.cell 3
  have s4 := hS3.cell 4
  have s5 := hS3.cell 5
  simp only [List.getElem?_cons_zero, List.getElem?_cons_succ] at c0 c1 c2 c3 s2 s3 s4 s5
  have f2 := hS3.frozen 2
  have f3 := hS3.frozen 3
  have f4 := hS3.frozen 4
  have f5 := hS3.frozen 5
  have hcc : ((st : Int) != (st : Int)) = false := by simp
  have hfin : Hid (Whole (w3.setCells sb 2 (hdr la lg st lb)) sb 160 (sgL vb n la lg st lb fv E sl) ∧ Kept (fun q => q = sb) w (w3.setCells sb 2 (hdr la lg st lb))) :=
    Lib.hid ⟨hS3.store 2 (hdr la lg st lb) (by simp), (Kept.of_below (own := fun q => q = sb) hB3).setCells (c := sb) (.inl rfl) 2 _⟩
  clear hS hSW hS3 hH3 hbox hbox1 hB1 hB2 hB3 hb2 hb3 hbW
  go_upto_region 5 with fail
  rw [← show w3 = _ from hw3.out]
  clear hw3
  go_upto_region 8 with fail
  rw [show (((w3.setCell ⟨sb, 2, none⟩ (.int .i64 (la : Int))).setCell ⟨sb, 3, none⟩ (.int .u32 (lg : Int))).setCell ⟨sb, 4, none⟩ (.int .u32 (st : Int))).setCell ⟨sb, 5, none⟩ (.int .i64 (lb : Int)) = w3.setCells sb 2 (hdr la lg st lb) from rfl]
  generalize w3.setCells sb 2 (hdr la lg st lb) = w4 at hfin ⊢
  clear c0 c1 c2 c3 s2 s3 s4 s5 f2 f3 f4 f5 d0
  go_wp2_with fail
  go_ret
  exact ⟨rfl, hfin.out⟩
set_option maxRecDepth 100000 in
set_option maxHeartbeats 4000000 in
theorem readHeader_no (A : Nat) (x : ByteArray) (cs : List Value) (hn : n ≤ 1000) (hA : 2 + 16 * n + 0 = A) (hS : Whole w sb 160 cs) (k0 : cs[0]? = some (.pointer (some ⟨vb, 0, none⟩))) (k1 : cs[1]? = some (.int .i64 (n : Int))) (hT : Wide w) (hxs : x.size ≤ 1000000)
    (hrd : ∀ W, Below w.heap.size w W → Calls Tryz.prog 165 #[.pointer (some ⟨vb, 0, none⟩), .int .i64 (A : Int)] W fun e w' => e = .returned (.tuple #[.string x, .int .i64 0]) ∧ Below W.heap.size W w') (hh : ¬ headS x) :
    Calls Tryz.prog 106 #[.agg #[.pointer (some ⟨sb, 0, none⟩)]] w fun e w' => e = .returned (.int .i64 4) ∧ Below w.heap.size w w' := by
  obtain ⟨W, hW⟩ : ∃ W, Hid (W = w.alloc (.cells #[.pointer (some ⟨sb, 0, none⟩)] 163)) := ⟨_, Lib.hid rfl⟩
  have hbW : Below w.heap.size w W := by rw [hW.out]; exact allocBelow w _
  have hbox : Whole W w.heap.size 163 [.pointer (some ⟨sb, 0, none⟩)] := by rw [hW.out]; exact Whole.new w _ _
  have hSW := hS.below hbW hS.lt
  have d0 : W.cell? ⟨w.heap.size, 0, none⟩ = some (.pointer (some ⟨sb, 0, none⟩)) := hbox.cell 0
  have hTw := Lib.hid (fun W' (hb : Below w.heap.size w W') => hT.below hb)
  by_cases ho : opensS x ∧ countS x = 1
  · have hop := openS_yes 0 A x hn (by omega) hA ((hSW.cell 0).trans k0) ((hSW.cell 1).trans k1) (fun W' hb => hrd W' (hbW.trans (hb.mono hbW.size))) 1 ho.1 ho.2
    have hz : 32 ≤ (x.extract 6 58).size := by have := ho.1.1; simp; omega
    obtain ⟨er, la, lg, ls, lb, hde, hbad⟩ : ∃ (er : Int) (la lg ls lb : Int), (∀ W, Wide W → Calls Tryz.prog 142 #[.string (x.extract 6 58)] W fun x w' => x = .returned (.tuple #[.agg #[.int .i64 la, .int .u32 lg, .int .u32 ls, .int .i64 lb], .int .i64 er]) ∧ Below W.heap.size W w') ∧ (er ≠ 0 ∨ (er = 0 ∧ ls ≠ (stampS x : Int))) := by
      by_cases hi : isH (x.extract 6 58)
      · exact ⟨0, _, _, _, _, fun W hW => decH_isH (x.extract 6 58) W hW hz hi, .inr ⟨rfl, fun e => hh ⟨ho.1, ho.2, hi, by omega⟩⟩⟩
      · exact ⟨4, _, _, _, _, fun W hW => decH_notH (x.extract 6 58) W hW hz hi, .inl (by decide)⟩
    obtain ⟨D, hD⟩ : ∃ D, Hid (x.extract 6 58 = D) := ⟨_, Lib.hid rfl⟩
    rw [hD.out] at hop hde
    obtain ⟨st, hst⟩ : ∃ st : Int, Hid ((stampS x : Int) = st) := ⟨_, Lib.hid rfl⟩
    rw [hst.out] at hop hbad
    replace hop := Lib.hid hop
    replace hde := Lib.hid hde
    replace hbad := Lib.hid hbad
    clear hz ho hA hrd hT hh hS hSW k0 k1 hD hst
    go_enter Tryz.func106, Tryz.ntmps106
    go_upto_region 1 with fail
    rw [← show W = _ from hW.out]
    clear hW
    go_wp2_with fail
    refine hop.out.mono ?_
    rintro _ w1 ⟨rfl, hb1⟩
    have hB1 := grew hbW hb1
    clear d0 hb1
    go_wp2_with fail
    refine (hde.out _ (hTw.out _ hB1)).mono ?_
    rintro _ w2 ⟨rfl, hb2⟩
    have hB3 := Lib.hid (grewAlloc (grew hB1 hb2) (.cells #[.int .i64 la, .int .u32 lg, .int .u32 ls, .int .i64 lb] 79))
    clear hbox hB1 hb2 hbW
    rcases hbad.out with h | ⟨rfl, h⟩
    · have hcc : (er != 0) = true := by simp [h]
      clear hbad h
      go_wp2_with fail
      go_ret
      exact ⟨rfl, hB3.out⟩
    · have hcc : (ls != st) = true := by simp [h]
      clear hbad h
      go_wp2_with fail
      go_ret
      exact ⟨rfl, hB3.out⟩
  · have hop := Lib.hid (openS_no 0 A x hn (by omega) hA ((hSW.cell 0).trans k0) ((hSW.cell 1).trans k1) (fun W' hb => hrd W' (hbW.trans (hb.mono hbW.size))) 1 hxs ho)
    clear ho hA hrd hT hh hS hSW k0 k1
    go_enter Tryz.func106, Tryz.ntmps106
    go_upto_region 1 with fail
    rw [← show W = _ from hW.out]
    clear hW
    go_wp2_with fail
    refine hop.out.mono ?_
    rintro _ w1 ⟨rfl, hb1⟩
    have hB1 := Lib.hid (grew hbW hb1)
    clear d0 hb1
    go_wp2_with fail
    go_ret
    exact ⟨rfl, hB1.out⟩
end
end Go.Proofs.YtbbhnbdekblghaaGreatDoor.W
end
