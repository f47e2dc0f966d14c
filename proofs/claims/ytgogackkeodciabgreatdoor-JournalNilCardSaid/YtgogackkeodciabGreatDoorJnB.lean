/- Package journal: its small calls, of a nil journal and of one; New, Append. Package journal: a journal into which eight frames of two pieces go, whatever lies beside it; a second one behind it. -/
import Derived.Test.YtgogackkeodciabGreatDoorEig
import Derived.Test.YtgogackkeodciabGreatDoorLgN
section
namespace Go.Proofs.YtgogackkeodciabGreatDoor.W
open Go.RowKit Go.Sort
open Go.Proofs.YtgogackkeodciabGreatDoor.M Go.Proofs.YtgogackkeodciabGreatDoor.D Go.Proofs.YtgogackkeodciabGreatDoor.Z
set_option linter.unusedVariables false

/-- A journal's cells. -/
def jnL (vb pb lb : Nat) : List Value := [.pointer (some ⟨vb, 0, none⟩), .pointer (some ⟨pb, 0, none⟩), .pointer (some ⟨lb, 0, none⟩)]
theorem jown_nil (w : World) : Calls Tryz.prog 26 #[.pointer none] w fun e w' => e = .returned (.pointer none) ∧ w = w' := by
  go_enter Tryz.func26, Tryz.ntmps26
  go_wp2_with fail
  go_ret
  exact ⟨rfl, rfl⟩
theorem jown_any (jb vb pb lb : Nat) (w : World) (hJ : Whole w jb 53 (jnL vb pb lb)) : Calls Tryz.prog 26 #[.pointer (some ⟨jb, 0, none⟩)] w fun e w' => e = .returned (.pointer (some ⟨lb, 0, none⟩)) ∧ w = w' := by
  have c2 : w.cell? ⟨jb, 2, none⟩ = some (.pointer (some ⟨lb, 0, none⟩)) := hJ.cell 2
  clear hJ
  go_enter Tryz.func26, Tryz.ntmps26
  go_wp2_with fail
  go_ret
  exact ⟨rfl, rfl⟩
theorem jnew_nil (id g : Int) (w : World) : Calls Tryz.prog 6 #[.pointer none, .pointer none, .int .i64 id, .int .u32 g] w fun e w' => e = .returned (.tuple #[.pointer none, .int .i64 7]) ∧ w = w' := by
  have h := Lib.hid (lnew_nil id g 0 w)
  go_enter Tryz.func6, Tryz.ntmps6
  go_wp2_with fail
  refine h.out.mono ?_
  rintro _ w1 ⟨rfl, rfl⟩
  go_wp2_with fail
  go_ret2
  exact ⟨rfl, rfl⟩
theorem jnew_yes (vb pb id gen : Nat) (W : World) (hT : Wide W) (hid1 : 1 ≤ id) (hid : id < 65536) (hgen : gen < 4294967296) :
    Calls Tryz.prog 6 #[.pointer (some ⟨vb, 0, none⟩), .pointer (some ⟨pb, 0, none⟩), .int .i64 (id : Int), .int .u32 (gen : Int)] W fun e w' => ∃ jb lb, e = .returned (.tuple #[.pointer (some ⟨jb, 0, none⟩), .int .i64 0]) ∧
      ∃ w1, W.heap.size ≤ lb ∧ Whole w1 lb 82 (lgL vb pb id gen none 0 0 0) ∧ Below W.heap.size W w1 ∧ w1.heap.size ≤ jb ∧ Whole w' jb 53 (jnL vb pb lb) ∧ Below w1.heap.size w1 w' := by
  have h := Lib.hid (log_new_yes (vb := vb) pb id gen 0 W hT hid1 hid hgen (by decide))
  go_enter Tryz.func6, Tryz.ntmps6
  go_wp2_with fail
  refine h.out.mono ?_
  rintro _ w1 ⟨lb, rfl, h1, h2, h3⟩
  have hN := Lib.hid (Whole.new w1 53 (jnL vb pb lb))
  have hB := Lib.hid (allocBelow w1 (.cells (jnL vb pb lb).toArray 53))
  replace h1 := Lib.hid h1
  replace h2 := Lib.hid h2
  replace h3 := Lib.hid h3
  go_wp2_with fail
  go_ret2
  exact ⟨_, lb, rfl, w1, h1.out, h2.out, h3.out, Nat.le_refl _, hN.out, hB.out⟩
theorem jopen_nil (id g : Int) (w : World) : Calls Tryz.prog 7 #[.pointer none, .pointer none, .int .i64 id, .int .u32 g, .slice none 0 0] w fun e w' => e = .returned (.tuple #[.pointer none, .slice none 0 0, .int .i64 7]) ∧ w = w' := by
  have h := Lib.hid (jnew_nil id g w)
  go_enter Tryz.func7, Tryz.ntmps7
  go_wp2_with fail
  refine h.out.mono ?_
  rintro _ w1 ⟨rfl, rfl⟩
  go_wp2_with fail
  exact bodyPost_ret (v := .tuple #[.pointer none, .slice none 0 0, .int .i64 7]) (by simp [results, Tryz.results7, go_sem]) rfl ⟨rfl, rfl⟩
theorem janew_nil (A : Option Addr) (n c : Nat) (w : World) : Calls Tryz.prog 8 #[.pointer none, .slice A n c] w fun e w' => e = .returned (.tuple #[.pointer none, .int .i64 7]) ∧ w = w' := by
  go_enter Tryz.func8, Tryz.ntmps8
  go_wp2_with fail
  go_ret2
  exact ⟨rfl, rfl⟩
theorem jappend_nil (k : Int) (p : ByteArray) (w : World) : Calls Tryz.prog 9 #[.pointer none, .agg #[.int .i64 k, .string p]] w fun e w' => e = .returned (.int .i64 7) ∧ Below w.heap.size w w' := by
  have h1 := Lib.hid jown_nil
  have h2 := Lib.hid (lappend_nil k p)
  have hB := allocBelow w (.cells #[.int .i64 k, .string p] 36)
  have hX := Whole.new w 36 [.int .i64 k, .string p]
  go_enter Tryz.func9, Tryz.ntmps9
  go_upto_region 1 with fail
  obtain ⟨w1, hw1⟩ : ∃ w1, w.alloc (.cells #[.int .i64 k, .string p] 36) = w1 := ⟨_, rfl⟩
  rw [hw1] at hB hX ⊢
  obtain ⟨xb, hxb⟩ : ∃ xb, Hid (w.heap.size = xb) := ⟨_, Lib.hid rfl⟩
  rw [hxb.out] at hX ⊢
  have x0 : ∀ W, Below w1.heap.size w1 W → W.cell? ⟨xb, 0, none⟩ = some (.int .i64 k) := fun W h => (hX.below h hX.lt).cell 0
  have x1 : ∀ W, Below w1.heap.size w1 W → W.cell? ⟨xb, 1, none⟩ = some (.string p) := fun W h => (hX.below h hX.lt).cell 1
  have hV0 : Below w1.heap.size w1 w1 := Below.refl _ _
  have hV1 : Below w1.heap.size w1 w1.drew := (Below.refl _ _).drew
  have hfin := Lib.hid (fun W (h : Below w1.heap.size w1 W) => grew hB h)
  clear hB hX hw1
  go_region_held3 (fun w' => Below w1.heap.size w1 w') (first | assumption | (go_keep)) (first
    | (go_at_call 26; (with_reducible refine (h1.out _).mono ?_); rintro _ w21 ⟨rfl, rfl⟩)
    | (go_at_call 27; (with_reducible refine (h2.out _).mono ?_); rintro _ w22 ⟨rfl, hb22⟩; have hk22 : Below w1.heap.size w1 w22 := grew (by assumption) hb22))
  all_goals
    go_wp2_with fail
    go_ret
    exact ⟨rfl, hfin.out _ (by assumption)⟩
theorem jfree_nil (w : World) : Calls Tryz.prog 10 #[.pointer none] w fun e w' => e = .returned (.int .i64 7) ∧ w = w' := by
  have h1 := Lib.hid jown_nil
  have h2 := Lib.hid lfree_nil
  go_enter Tryz.func10, Tryz.ntmps10
  go_wp2_with fail
  refine (h1.out _).mono ?_
  rintro _ w1 ⟨rfl, rfl⟩
  go_wp2_with fail
  refine (h2.out _).mono ?_
  rintro _ w2 ⟨rfl, rfl⟩
  go_wp2_with fail
  go_ret
  exact ⟨rfl, rfl⟩
theorem jgen_nil (w : World) : Calls Tryz.prog 12 #[.pointer none] w fun e w' => e = .returned (.int .u32 0) ∧ w = w' := by
  have h1 := Lib.hid jown_nil
  have h2 := Lib.hid lgen_nil
  go_enter Tryz.func12, Tryz.ntmps12
  go_wp2_with fail
  refine (h1.out _).mono ?_
  rintro _ w1 ⟨rfl, rfl⟩
  go_wp2_with fail
  refine (h2.out _).mono ?_
  rintro _ w2 ⟨rfl, rfl⟩
  go_wp2_with fail
  go_ret
  exact ⟨rfl, rfl⟩
theorem jsegs_nil (w : World) : Calls Tryz.prog 13 #[.pointer none] w fun e w' => e = .returned (.int .i64 0) ∧ w = w' := by
  have h1 := Lib.hid jown_nil
  have h2 := Lib.hid lsegs_nil
  go_enter Tryz.func13, Tryz.ntmps13
  go_wp2_with fail
  refine (h1.out _).mono ?_
  rintro _ w1 ⟨rfl, rfl⟩
  go_wp2_with fail
  refine (h2.out _).mono ?_
  rintro _ w2 ⟨rfl, rfl⟩
  go_wp2_with fail
  go_ret
  exact ⟨rfl, rfl⟩
theorem jgrown_nil (w : World) : Calls Tryz.prog 14 #[.pointer none] w fun e w' => e = .returned (.bool false) ∧ w = w' := by
  have h1 := Lib.hid jsegs_nil
  go_enter Tryz.func14, Tryz.ntmps14
  go_wp2_with fail
  refine (h1.out _).mono ?_
  rintro _ w1 ⟨rfl, rfl⟩
  go_wp2_with fail
  go_ret
  exact ⟨rfl, rfl⟩
theorem jfits_nil (k : Int) (p : ByteArray) (w : World) : Calls Tryz.prog 15 #[.pointer none, .agg #[.int .i64 k, .string p]] w fun e w' => e = .returned (.bool false) ∧ Below w.heap.size w w' := by
  have h1 := Lib.hid jown_nil
  have h2 := Lib.hid (lfits_nil k p)
  have hB := allocBelow w (.cells #[.int .i64 k, .string p] 36)
  have hX := Whole.new w 36 [.int .i64 k, .string p]
  go_enter Tryz.func15, Tryz.ntmps15
  go_upto_region 1 with fail
  obtain ⟨w1, hw1⟩ : ∃ w1, w.alloc (.cells #[.int .i64 k, .string p] 36) = w1 := ⟨_, rfl⟩
  rw [hw1] at hB hX ⊢
  obtain ⟨xb, hxb⟩ : ∃ xb, Hid (w.heap.size = xb) := ⟨_, Lib.hid rfl⟩
  rw [hxb.out] at hX ⊢
  have x0 : ∀ W, Below w1.heap.size w1 W → W.cell? ⟨xb, 0, none⟩ = some (.int .i64 k) := fun W h => (hX.below h hX.lt).cell 0
  have x1 : ∀ W, Below w1.heap.size w1 W → W.cell? ⟨xb, 1, none⟩ = some (.string p) := fun W h => (hX.below h hX.lt).cell 1
  have hV0 : Below w1.heap.size w1 w1 := Below.refl _ _
  have hV1 : Below w1.heap.size w1 w1.drew := (Below.refl _ _).drew
  have hfin := Lib.hid (fun W (h : Below w1.heap.size w1 W) => grew hB h)
  clear hB hX hw1
  go_region_held3 (fun w' => Below w1.heap.size w1 w') (first | assumption | (go_keep)) (first
    | (go_at_call 26; (with_reducible refine (h1.out _).mono ?_); rintro _ w21 ⟨rfl, rfl⟩)
    | (go_at_call 33; (with_reducible refine (h2.out _).mono ?_); rintro _ w22 ⟨rfl, hb22⟩; have hk22 : Below w1.heap.size w1 w22 := grew (by assumption) hb22))
  all_goals
    go_wp2_with fail
    go_ret
    exact ⟨rfl, hfin.out _ (by assumption)⟩
theorem jframes_nil (w : World) : Calls Tryz.prog 11 #[.pointer none] w fun e w' => e = .returned (.slice none 0 0) ∧ w = w' := by
  have h1 := Lib.hid jown_nil
  have h2 := Lib.hid lbase_nil
  have h3 := Lib.hid lnext_nil
  have h4 := Lib.hid (lfrom_nil 0 0)
  go_enter Tryz.func11, Tryz.ntmps11
  go_wp2_with fail
  refine (h1.out _).mono ?_
  rintro _ w1 ⟨rfl, rfl⟩
  go_wp2_with fail
  refine (h2.out _).mono ?_
  rintro _ w2 ⟨rfl, rfl⟩
  go_wp2_with fail
  refine (h3.out _).mono ?_
  rintro _ w2 ⟨rfl, rfl⟩
  go_wp2_with fail
  refine (h2.out _).mono ?_
  rintro _ w2 ⟨rfl, rfl⟩
  go_wp2_with fail
  refine (h4.out _).mono ?_
  rintro _ w2 ⟨rfl, rfl⟩
  go_wp2_with fail
  go_ret
  exact ⟨rfl, rfl⟩
theorem jappend_by (Q : World → Prop) (k : Int) (p : ByteArray) (jb vb pb lb : Nat) (n e : Int) (w : World) (hJ : Whole w jb 53 (jnL vb pb lb)) (hc : ∀ V, Below w.heap.size w V → Calls Tryz.prog 27 #[.pointer (some ⟨lb, 0, none⟩), .agg #[.int .i64 k, .string p]] V fun x w' => x = .returned (.tuple #[.int .i64 n, .int .i64 e]) ∧ Q w') :
    Calls Tryz.prog 9 #[.pointer (some ⟨jb, 0, none⟩), .agg #[.int .i64 k, .string p]] w fun x w' => x = .returned (.int .i64 e) ∧ Q w' := by
  have hB := allocBelow w (.cells #[.int .i64 k, .string p] 36)
  have hX := Whole.new w 36 [.int .i64 k, .string p]
  go_enter Tryz.func9, Tryz.ntmps9
  go_upto_region 1 with fail
  obtain ⟨w1, hw1⟩ : ∃ w1, w.alloc (.cells #[.int .i64 k, .string p] 36) = w1 := ⟨_, rfl⟩
  rw [hw1] at hB hX ⊢
  have h1 := Lib.hid (fun W (h : Below w1.heap.size w1 W) => jown_any jb vb pb lb W ((hJ.below (grew hB h) hJ.lt)))
  have h2 := Lib.hid (fun W (h : Below w1.heap.size w1 W) => (hc W (grew hB h)).mono (R' := fun x w' => x = .returned (.tuple #[.int .i64 n, .int .i64 e]) ∧ Hid (Q w')) (fun x w' h => ⟨h.1, Lib.hid h.2⟩))
  obtain ⟨xb, hxb⟩ : ∃ xb, Hid (w.heap.size = xb) := ⟨_, Lib.hid rfl⟩
  rw [hxb.out] at hX ⊢
  have x0 : w1.cell? ⟨xb, 0, none⟩ = some (.int .i64 k) := hX.cell 0
  have x1 : w1.cell? ⟨xb, 1, none⟩ = some (.string p) := hX.cell 1
  clear hB hX hw1 hJ hc
  go_region_law (first
    | (go_simp; go_at_call 26; (with_reducible refine (h1.out _ (by repeat (first | exact Below.refl _ _ | apply Below.drew))).mono ?_); rintro _ w21 ⟨rfl, rfl⟩)
    | (go_simp; go_at_call 27; (with_reducible refine (h2.out _ (by repeat (first | exact Below.refl _ _ | apply Below.drew))).mono ?_); rintro _ w22 ⟨rfl, hq22⟩))
  all_goals
    go_wp2_with fail
    go_ret
    exact ⟨rfl, Hid.out (by assumption)⟩
theorem jgen_any (jb vb pb lb id gen nx c : Nat) (segs : List Sr) (A : Option Addr) (w : World) (hJ : Whole w jb 53 (jnL vb pb lb)) (h : LogAt w vb lb pb id gen nx segs A c) : Calls Tryz.prog 12 #[.pointer (some ⟨jb, 0, none⟩)] w fun e w' => e = .returned (.int .u32 (gen : Int)) ∧ w = w' := by
  have h1 := Lib.hid (jown_any jb vb pb lb w hJ)
  have h2 := Lib.hid (gen_any lb _ w (h.obj.cell 3))
  clear hJ h
  go_enter Tryz.func12, Tryz.ntmps12
  go_wp2_with fail
  refine h1.out.mono ?_
  rintro _ w1 ⟨rfl, rfl⟩
  go_wp2_with fail
  refine h2.out.mono ?_
  rintro _ w2 ⟨rfl, rfl⟩
  go_wp2_with fail
  go_ret
  exact ⟨rfl, rfl⟩
theorem jsegs_any (jb vb pb lb id gen nx c : Nat) (segs : List Sr) (A : Option Addr) (w : World) (hJ : Whole w jb 53 (jnL vb pb lb)) (h : LogAt w vb lb pb id gen nx segs A c) (h64 : segs.length ≤ 64) : Calls Tryz.prog 13 #[.pointer (some ⟨jb, 0, none⟩)] w fun e w' => e = .returned (.int .i64 ((segs.length : Nat) : Int)) ∧ Below w.heap.size w w' := by
  have h1 := Lib.hid (jown_any jb vb pb lb w hJ)
  have h2 := Lib.hid (segments_any h h64)
  obtain ⟨N, hN⟩ : ∃ N, Hid (segs.length = N) := ⟨_, Lib.hid rfl⟩
  rw [hN.out] at h2 ⊢
  clear hJ h
  go_enter Tryz.func13, Tryz.ntmps13
  go_wp2_with fail
  refine h1.out.mono ?_
  rintro _ w1 ⟨rfl, rfl⟩
  go_wp2_with fail
  refine h2.out.mono ?_
  rintro _ w2 ⟨g, rfl, _, _, hb2⟩
  replace hb2 := Lib.hid hb2
  go_wp2_with fail
  go_ret
  exact ⟨rfl, hb2.out⟩
theorem jgrown_any (jb vb pb lb id gen nx c : Nat) (segs : List Sr) (A : Option Addr) (w : World) (hJ : Whole w jb 53 (jnL vb pb lb)) (h : LogAt w vb lb pb id gen nx segs A c) (h64 : segs.length ≤ 64) : Calls Tryz.prog 14 #[.pointer (some ⟨jb, 0, none⟩)] w fun e w' => e = .returned (.bool (decide (2 < segs.length))) ∧ Below w.heap.size w w' := by
  have h1 := Lib.hid (jsegs_any jb vb pb lb id gen nx c segs A w hJ h h64)
  obtain ⟨N, hN⟩ : ∃ N, Hid (segs.length = N) := ⟨_, Lib.hid rfl⟩
  rw [hN.out] at h1 ⊢
  obtain ⟨R, hR⟩ : ∃ R, Hid (decide (2 < N) = R) := ⟨_, Lib.hid rfl⟩
  rw [hR.out]
  clear hJ h
  go_enter Tryz.func14, Tryz.ntmps14
  go_wp2_with fail
  refine h1.out.mono ?_
  rintro _ w1 ⟨rfl, hb1⟩
  replace hb1 := Lib.hid hb1
  go_wp2_with fail
  go_ret
  refine ⟨?_, hb1.out⟩
  rw [← hR.out]
  congr 2
  simp
  omega
set_option maxRecDepth 100000 in
theorem jframes_any (jb vb pb lb id gen nx c : Nat) (segs : List Sr) (A : Option Addr) (w : World) (hJ : Whole w jb 53 (jnL vb pb lb)) (h : LogAt w vb lb pb id gen nx segs A c) (hne : baseOf segs nx < nx) : Calls Tryz.prog 11 #[.pointer (some ⟨jb, 0, none⟩)] w fun e w' => ∃ A', e = .returned (.slice A' (allF segs).length (allF segs).length) ∧ FrAt w' A' (allF segs) ∧ Below w.heap.size w w' := by
  have htop := h.top
  have hl := allF_len h.chain
  have h1 := Lib.hid (jown_any jb vb pb lb w hJ)
  have h2 := Lib.hid (fun W (hb : Below w.heap.size w W) => lbase_any (h.below hb))
  have h3 := Lib.hid (fun W (hb : Below w.heap.size w W) => next_any lb _ W ((h.below hb).obj.cell 5))
  have h4 := Lib.hid (fun W (hb : Below w.heap.size w W) => from_yes (h.below hb) (baseOf segs nx) (nx - baseOf segs nx) (Nat.le_refl _) hne (by omega) (by omega))
  obtain ⟨b, hb⟩ : ∃ b, Hid (baseOf segs nx = b) := ⟨_, Lib.hid rfl⟩
  have hL : ((allF segs).drop (baseOf segs nx - baseOf segs nx)).take (nx - baseOf segs nx) = allF segs := by
    rw [Nat.sub_self, List.drop_zero, List.take_of_length_le (by omega)]
  rw [hL] at h4
  rw [hb.out] at h2 h4 hl hne
  have hs : ((nx : Int) - (b : Int)) = ((nx - b : Nat) : Int) := by omega
  obtain ⟨m, hm⟩ : ∃ m, Hid (nx - b = m) := ⟨_, Lib.hid rfl⟩
  rw [hm.out] at h4 hs
  obtain ⟨LL, hLL⟩ : ∃ l, Hid (allF segs = l) := ⟨_, Lib.hid rfl⟩
  rw [hLL.out] at h4 ⊢
  clear hJ h hl hL
  go_enter Tryz.func11, Tryz.ntmps11
  go_wp2_with fail
  refine h1.out.mono ?_
  rintro _ w1 ⟨rfl, rfl⟩
  go_wp2_with fail
  refine (h2.out _ (Below.refl _ _)).mono ?_
  rintro _ w2 ⟨rfl, hb2⟩
  go_wp2_with fail
  refine (h3.out _ hb2).mono ?_
  rintro _ w3 ⟨rfl, rfl⟩
  go_wp2_with fail
  refine (h2.out _ hb2).mono ?_
  rintro _ w4 ⟨rfl, hb4⟩
  have hb5 := grew hb2 hb4
  clear hb2 hb4
  go_wp2_with fail
  refine (h4.out _ hb5).mono ?_
  rintro _ w6 ⟨A', L, rfl, rfl, h6, h7⟩
  have hfin := Lib.hid (And.intro h6 (grew hb5 h7))
  clear h6 h7 hb5
  go_wp2_with fail
  go_ret
  exact ⟨A', rfl, hfin.out⟩
end Go.Proofs.YtgogackkeodciabGreatDoor.W
end
section
namespace Go.Proofs.YtgogackkeodciabGreatDoor.W
open Go.RowKit Go.Sort
open Go.Proofs.YtgogackkeodciabGreatDoor.M Go.Proofs.YtgogackkeodciabGreatDoor.D Go.Proofs.YtgogackkeodciabGreatDoor.Z
set_option linter.unusedVariables false

theorem jnSv {w0 w1 W : World} {vb d g' from_ m : Nat} {lie : List (List UInt8)} {ws : List (Nat × List UInt8)} {fuse steps : Int} {gone : Bool} (h : SV w1 vb d g' lie ws from_ m fuse steps gone W) (hb : Below w0.heap.size w0 w1) : SV w0 vb d g' lie ws from_ m fuse steps gone W := by
  obtain ⟨v, k1, k2, k3⟩ := h
  have hs := hb.size
  exact ⟨v, k1, fun k hk => Nat.le_trans hs (k2 k hk), hb.trans (k3.mono hs)⟩
theorem plainJn : plainT 53 := by decide
theorem plainFr : plainT 36 := by decide
theorem plainLog : plainT 82 := by decide
/-- A frame of two pieces. -/
def Fj : Int × ByteArray := (3, zerosB 46)
theorem Fj_ok : FrOk Fj := ⟨by decide, by decide, by show (zerosB 46).size ≤ 773; rw [zerosB_size]; decide⟩
theorem Fj_pcs : pcsN Fj.2.size = 2 := by show pcsN (zerosB 46).size = 2; rw [zerosB_size]; rfl
theorem plc_repJ (k : Nat) : plc (List.replicate k Fj) = 1 + 2 * k := by
  unfold plc
  rw [List.map_replicate, Fj_pcs]
  congr 1
  induction k with
  | zero => rfl
  | succ k ih => rw [List.replicate_succ, List.sum_cons, ih]; omega
theorem roomJ (n : Nat) (h : n < 6) : Room 0 98 n := ⟨96, rfl, by omega, h⟩
/-- The pool's owners, and the segments, behind k frames. -/
def ShpJ (s0 s1 ct0 : Nat) (l0 : List Int) (k : Nat) (l : List Int) (ct : Nat) (segs : List Sr) : Prop :=
  (k = 0 ∧ l = l0 ∧ ct = ct0 ∧ segs = []) ∨
  (1 ≤ k ∧ k ≤ 7 ∧ l = l0.set s0 2 ∧ ct = ct0 + 1 ∧ ∃ r, segs = [r] ∧ r.sl = false ∧ r.fs = List.replicate k Fj) ∨
  (k = 8 ∧ l = (l0.set s0 2).set s1 2 ∧ ct = ct0 + 2 ∧ ∃ r s, segs = [r, s] ∧ r.fs = List.replicate 7 Fj ∧ s.fs = [Fj])
/-- Where a journal's segments go. -/
structure Spot (l0 : List Int) (s0 s1 ct0 : Nat) : Prop where
  l64 : l0.length ≤ 64
  a0 : FirstAt l0 s0
  a1 : FirstAt (l0.set s0 2) s1
  r0 : s0 < 6
  r1 : s1 < 6
  ct : ct0 ≤ 100
/-- The journal behind k frames. -/
def J8 (w0 : World) (vb d g' pb pa jb lb gen s0 s1 ct0 n0 : Nat) (st0 : Int) (l0 : List Int) (K : List Bk) (k : Nat) (W : World) : Prop :=
  ∃ ws steps l ct segs A c pk, LgV w0 vb d g' (zeros 98) ws 0 98 steps pb pa l 1 ct lb 2 gen k segs A c pk K W ∧ 0 ≤ steps ∧ steps ≤ st0 + 10 * (k : Int) ∧ ws.length ≤ n0 + 10 * k ∧ ShpJ s0 s1 ct0 l0 k l ct segs ∧ (jb, 53, jnL vb pb lb) ∈ K
section
variable {w0 W W' : World} {vb d g' pb pa jb lb gen s0 s1 ct0 n0 k : Nat} {st0 : Int} {l0 : List Int} {K : List Bk}
theorem J8.below (h : J8 w0 vb d g' pb pa jb lb gen s0 s1 ct0 n0 st0 l0 K k W) (hb : Below W.heap.size W W') : J8 w0 vb d g' pb pa jb lb gen s0 s1 ct0 n0 st0 l0 K k W' := by
  obtain ⟨ws, steps, l, ct, segs, A, c, pk, h1, h2⟩ := h
  exact ⟨ws, steps, l, ct, segs, A, c, pk, h1.below hb, h2⟩
theorem J8.since (h : J8 w0 vb d g' pb pa jb lb gen s0 s1 ct0 n0 st0 l0 K k W) : Below w0.heap.size w0 W := by
  obtain ⟨ws, steps, l, ct, segs, A, c, pk, h1, h2⟩ := h
  exact h1.vb_.since
theorem J8.got (h : J8 w0 vb d g' pb pa jb lb gen s0 s1 ct0 n0 st0 l0 K k W) {x : Bk} (hx : x ∈ K) : Whole W x.1 x.2.1 x.2.2 := by
  obtain ⟨ws, steps, l, ct, segs, A, c, pk, h1, h2⟩ := h
  exact h1.vb_.got (List.mem_append_right _ (List.mem_cons_of_mem _ (List.mem_append_right _ (List.mem_append_right _ hx))))
theorem J8.more {q : Nat} {t : TypeId} {cs : List Value} (h : J8 w0 vb d g' pb pa jb lb gen s0 s1 ct0 n0 st0 l0 K k W) (hb : Below W.heap.size W W') (hW : Whole W' q t cs) (hq : W.heap.size ≤ q) (ht : plainT t) : J8 w0 vb d g' pb pa jb lb gen s0 s1 ct0 n0 st0 l0 ((q, t, cs) :: K) k W' := by
  obtain ⟨ws, steps, l, ct, segs, A, c, pk, h1, h2, h3, h4, h5, h6⟩ := h
  refine ⟨ws, steps, l, ct, segs, A, c, pk, ⟨?_, h1.row, h1.fine, h1.small, h1.chain, h1.top⟩, h2, h3, h4, h5, List.mem_cons_of_mem _ h6⟩
  exact (h1.vb_.new hb hW hq ht).perm (perm_by fun a => by simp only [List.count_append, List.count_cons]; omega)
set_option maxRecDepth 100000 in
theorem J8.step (h : J8 w0 vb d g' pb pa jb lb gen s0 s1 ct0 n0 st0 l0 K k W) (hk : k < 8) (hT : Wide w0) (hS : Spot l0 s0 s1 ct0) (hg : gen < 4294967296) (hn0 : n0 ≤ 1000) (hst : st0 ≤ 1000) :
    Calls Tryz.prog 9 #[.pointer (some ⟨jb, 0, none⟩), .agg #[.int .i64 3, .string (zerosB 46)]] W fun e w' => e = .returned (.int .i64 0) ∧ J8 w0 vb d g' pb pa jb lb gen s0 s1 ct0 n0 st0 l0 K (k + 1) w' := by
  have hJ := h.got (show (jb, 53, jnL vb pb lb) ∈ K from by obtain ⟨ws, steps, l, ct, segs, A, c, pk, h1, h2, h3, h4, h5, h6⟩ := h; exact h6)
  obtain ⟨ws, steps, l, ct, segs, A, c, pk, h1, h2, h3, h4, h5, h6⟩ := h
  have hps : pcsN (zerosB 46).size = 2 := Fj_pcs
  have hct := hS.ct
  refine jappend_by _ 3 (zerosB 46) jb vb pb lb (k : Int) 0 W hJ (fun V hb => ?_)
  replace h1 := h1.below hb
  clear hJ
  rcases h5 with ⟨rfl, rfl, rfl, rfl⟩ | ⟨hk1, hk7, rfl, rfl, r, rfl, hsl, hfs⟩ | ⟨rfl, _⟩
  · refine (log_append_new 3 (zerosB 46) s0 h1 (fun init r e => by simp at e) Fj_ok (by simp) hS.l64 (by decide) (by omega) hS.a0 (by decide) (by decide) hg hT (roomJ s0 hS.r0) (by decide) h2 (by omega) (by omega)).mono ?_
    rintro e w' ⟨r1, sb, la', lc', rk', A', c', pk', h7⟩
    rw [hps] at h7
    refine ⟨r1, _, _, _, _, _, A', c', pk', h7, by omega, by omega, ?_, .inr (.inl ⟨by decide, by decide, rfl, rfl, _, rfl, rfl, rfl⟩), h6⟩
    rw [List.length_append, List.length_append, putW_len, putW_len]
    omega
  · by_cases hk6 : k ≤ 6
    · refine (log_append_in (init := []) 3 (zerosB 46) h1 hsl Fj_ok (by rw [hfs, plc_repJ, hps]; omega) (by omega) h2 (by omega) (by omega)).mono ?_
      rintro e w' ⟨r1, la', lc', rk', h7⟩
      rw [hps] at h7
      refine ⟨r1, _, _, _, _, _, _, _, _, h7, by omega, by omega, ?_, .inr (.inl ⟨by omega, by omega, rfl, rfl, _, rfl, hsl, ?_⟩), h6⟩
      · rw [List.length_append, putW_len]; omega
      · show r.fs ++ [Fj] = _
        rw [hfs, List.replicate_succ']
    · obtain rfl : k = 7 := by omega
      refine (log_append_new 3 (zerosB 46) s1 h1 (fun init s e => ?_) Fj_ok (by simp) (by rw [List.length_set]; exact hS.l64) (by decide) (by omega) hS.a1 (by decide) (by decide) hg hT (roomJ s1 hS.r1) (by decide) h2 (by omega) (by omega)).mono ?_
      · have e2 : s = r := by
          cases init with
          | nil => simpa using e.symm
          | cons a b => simp at e
        rw [e2, hfs, plc_repJ, hps]
        exact .inr (by decide)
      · rintro e w' ⟨r1, sb, la', lc', rk', A', c', pk', h7⟩
        rw [hps] at h7
        refine ⟨r1, _, _, _, _, _, A', c', pk', h7, by omega, by omega, ?_, .inr (.inr ⟨rfl, rfl, rfl, r, _, rfl, hfs, rfl⟩), h6⟩
        rw [List.length_append, List.length_append, putW_len, putW_len]
        omega
  · omega
/-- Behind eight frames. -/
theorem J8.end_ (h : J8 w0 vb d g' pb pa jb lb gen s0 s1 ct0 n0 st0 l0 K 8 W) :
    ∃ ws steps segs A c pk, LgV w0 vb d g' (zeros 98) ws 0 98 steps pb pa ((l0.set s0 2).set s1 2) 1 (ct0 + 2) lb 2 gen 8 segs A c pk K W ∧ 0 ≤ steps ∧ steps ≤ st0 + 80 ∧ ws.length ≤ n0 + 80 ∧ segs.length = 2 ∧ allF segs = List.replicate 8 Fj ∧ baseOf segs 8 = 0 ∧ (jb, 53, jnL vb pb lb) ∈ K := by
  obtain ⟨ws, steps, l, ct, segs, A, c, pk, h1, h2, h3, h4, h5, h6⟩ := h
  rcases h5 with ⟨e, _⟩ | ⟨_, e, _⟩ | ⟨_, rfl, rfl, r, s, rfl, hf, hg⟩
  · omega
  · omega
  · have hF : allF [r, s] = List.replicate 8 Fj := by rw [allF_cons, allF_cons, hf, hg]; rfl
    have hl := allF_len h1.chain
    rw [hF, List.length_replicate] at hl
    exact ⟨ws, steps, [r, s], A, c, pk, h1, h2, by omega, by omega, rfl, hF, by omega, h6⟩
/-- A log beside another one. -/
theorem LgV.other {lie : List (List UInt8)} {ws ws2 : List (Nat × List UInt8)} {from_ m : Nat} {steps steps2 : Int} {l l2 : List Int} {ep ct ct2 id nx c : Nat} {segs : List Sr} {A : Option Addr} {pk X K2 : List Bk} (h1 : LgV w0 vb d g' lie ws from_ m steps pb pa l ep ct lb id gen nx segs A c pk K W)
    (h2 : VB w0 vb d g' lie ws2 from_ m steps2 (plK pb pa l2 ep ct2 ++ K2) W') (hp : K2.Perm (X ++ ((lb, 82, lgL vb pb id gen A segs.length c nx) :: (pk ++ (segs.flatMap (Sr.K vb) ++ K))))) : LgV w0 vb d g' lie ws2 from_ m steps2 pb pa l2 ep ct2 lb id gen nx segs A c pk (X ++ K) W' := by
  refine ⟨h2.perm ((hp.append_left _).trans (perm_by fun a => by simp only [List.count_append, List.count_cons]; omega)), h1.row, h1.fine, h1.small, h1.chain, h1.top⟩
/-- A second journal, still without frames. -/
theorem J8.second {w1 : World} {jb2 lb2 gen2 s2 s3 : Nat} {ws : List (Nat × List UInt8)} {steps : Int} {l : List Int} {ct nx id c : Nat} {segs : List Sr} {A : Option Addr} {pk : List Bk}
    (h1 : LgV w0 vb d g' (zeros 98) ws 0 98 steps pb pa l 1 ct lb id gen nx segs A c pk K W) (h0 : 0 ≤ steps)
    (hlb : W.heap.size ≤ lb2) (hL : Whole w1 lb2 82 (lgL vb pb 2 gen2 none 0 0 0)) (hb1 : Below W.heap.size W w1) (hjb : w1.heap.size ≤ jb2) (hJ : Whole W' jb2 53 (jnL vb pb lb2)) (hb2 : Below w1.heap.size w1 W') :
    J8 w0 vb d g' pb pa jb2 lb2 gen2 s2 s3 ct ws.length steps l ((jb2, 53, jnL vb pb lb2) :: ((lb, 82, lgL vb pb id gen A segs.length c nx) :: (pk ++ (segs.flatMap (Sr.K vb) ++ K)))) 0 W' := by
  have h2 := (h1.vb_.new hb1 hL hlb plainLog).new hb2 hJ hjb plainJn
  refine ⟨ws, steps, l, ct, [], none, 0, [], ⟨h2.perm (perm_by fun a => by simp only [List.flatMap_nil, List.length_nil, List.count_append, List.count_cons, List.count_nil]; omega), .inl ⟨rfl, rfl, rfl, rfl⟩, fun r hr => by simp at hr, by decide, rfl, by decide⟩, h0, by omega, by omega, .inl ⟨rfl, rfl, rfl, rfl⟩, List.mem_cons_self⟩
end
/-- The law's first journal, still without frames. -/
theorem J8.start {w w1 w2 w3 w4 : World} {vb d g' pb pa lb jb : Nat} (hp : Pl w1 pb pa (List.replicate 6 0) 1 0) (hb1 : Below w.heap.size w w1) (h1 : w.heap.size ≤ pb) (h2 : w.heap.size ≤ pa) (hv : SV w1 vb d g' (zeros 98) [] 0 98 (-1) 0 false w2) (hl : w2.heap.size ≤ lb)
    (hL : Whole w3 lb 82 (lgL vb pb 2 5 none 0 0 0)) (hb3 : Below w2.heap.size w2 w3) (hjb : w3.heap.size ≤ jb) (hJ : Whole w4 jb 53 (jnL vb pb lb)) (hb4 : Below w3.heap.size w3 w4) :
    J8 w vb d g' pb pa jb lb 5 0 1 0 0 0 (List.replicate 6 0) [(jb, 53, jnL vb pb lb)] 0 w4 := by
  have hb2 : Below w1.heap.size w1 w2 := hv.since
  have hp3 := (hp.grow hb2).grow hb3
  have e1 := hp.box.lt
  have e2 := hp.row.lt
  have e3 := hb2.size
  have h0 : VB w vb d g' (zeros 98) [] 0 98 0 (plK pb pa (List.replicate 6 0) 1 0 ++ [(lb, 82, lgL vb pb 2 5 none 0 0 0)]) w3 := by
    refine ⟨(jnSv hv hb1).below hb3, fun x hx => ?_, ?_⟩
    · rcases List.mem_cons.1 hx with rfl | hx
      · exact ⟨hp3.box, by show plainT 63; decide, h1⟩
      · rcases List.mem_cons.1 hx with rfl | hx
        · exact ⟨hp3.row, by show plainT 3; decide, h2⟩
        · obtain rfl := List.mem_singleton.1 hx
          exact ⟨hL, by show plainT 82; decide, by have := hb1.size; show w.heap.size ≤ lb; omega⟩
    · show ([pb, pa, lb] : List Nat).Nodup
      have := hp.ne
      simp
      omega
  have h5 := h0.new hb4 hJ hjb plainJn
  refine ⟨[], 0, _, 0, [], none, 0, [], ⟨h5.perm (perm_by fun a => by simp only [List.flatMap_nil, List.length_nil, List.count_append, List.count_cons, List.count_nil]; omega), .inl ⟨rfl, rfl, rfl, rfl⟩, fun r hr => by simp at hr, by decide, rfl, by decide⟩, by decide, by decide, by decide, .inl ⟨rfl, rfl, rfl, rfl⟩, List.mem_cons_self⟩
theorem spot1 : Spot (List.replicate 6 0) 0 1 0 := ⟨by decide, ⟨by decide, fun j hj => by omega⟩, ⟨by decide, fun j hj => by
  have : j = 0 := by omega
  subst this
  decide⟩, by decide, by decide, by decide⟩
theorem spot2 : Spot (((List.replicate 6 (0 : Int)).set 0 2).set 1 2) 2 3 2 := ⟨by decide, ⟨by decide, fun j hj => by
  have : j = 0 ∨ j = 1 := by omega
  rcases this with rfl | rfl <;> decide⟩, ⟨by decide, fun j hj => by
  have : j = 0 ∨ j = 1 ∨ j = 2 := by omega
  rcases this with rfl | rfl | rfl <;> decide⟩, by decide, by decide, by decide⟩
end Go.Proofs.YtgogackkeodciabGreatDoor.W
end
