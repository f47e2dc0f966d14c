/- For every header, every list of frames and every number the law SegmentPuts returns true: what any frames, one behind the other, make of a segment. The package variable header.widths starts as the program's text lays it (the card ties it). No other condition. -/
import Derived.Test.YtlgoepbfdldgnaaDoorCards
import Derived.Test.YtlgoepbfdldgnaaDoorTie
import Derived.Test.YtlgoepbfdldgnaaDoorSegP
import Derived.Test.YtlgoepbfdldgnaaDoorOpenBytes
import Derived.WalkKit
import Derived.ProofKit
import Derived.OpenShut
import Derived.ChangeOld
import Derived.Deep.DeepHandedRow
import Derived.Deep.Cut
import Derived.Deep.CutRange
import Derived.Lib.LaidTab
section
namespace Go.Proofs.YtlgoepbfdldgnaaDoor.W
open Go.RowKit Go.Sort
open Go.Proofs.YtlgoepbfdldgnaaDoor.M Go.Proofs.YtlgoepbfdldgnaaDoor.D Go.Proofs.YtlgoepbfdldgnaaDoor.Z
set_option linter.unusedVariables false
theorem SegO.lay {w0 W : World} {vb d g' sb n a g s b : Nat} {fs : List (Int × ByteArray)} {X : List ByteArray} {K : List (Nat × TypeId × List Value)} (h : SegO w0 vb d g' sb n a g s b fs X K W) : LayB X s fs := by
  obtain ⟨fa, ⟨ws, fc, h1, h2, h2', h3, h4, h5, h6⟩, h7⟩ := h
  exact h5
theorem SegO.reads {w0 W : World} {vb d g' sb n a g s b : Nat} {fs : List (Int × ByteArray)} {X : List ByteArray} {K : List (Nat × TypeId × List Value)} (h : SegO w0 vb d g' sb n a g s b fs X K W) (hn : n < 2) : Reads W vb n X := by
  obtain ⟨fa, ⟨ws, fc, h1, h2, h2', h3, h4, h5, h6⟩, h7⟩ := h
  have := h5.fits
  rw [← h4]
  exact sv_reads h1 (by omega) (by omega)
theorem SegO.sizes {w0 W : World} {vb d g' sb n a g s b : Nat} {fs : List (Int × ByteArray)} {X : List ByteArray} {K : List (Nat × TypeId × List Value)} (h : SegO w0 vb d g' sb n a g s b fs X K W) (hn : n < 2) : ∀ y ∈ X, y.size ≤ maxLen := by
  obtain ⟨fa, ⟨ws, fc, h1, h2, h2', h3, h4, h5, h6⟩, h7⟩ := h
  intro y hy
  rw [← h4] at hy
  obtain ⟨k, hk, e⟩ := List.mem_iff_getElem.1 hy
  have := h1.sec64 (n := n) (by omega) k y (by rw [List.getElem?_eq_getElem hk, e])
  unfold maxLen
  omega
theorem SegO.obj {w0 W : World} {vb d g' sb n a g s b : Nat} {fs : List (Int × ByteArray)} {X : List ByteArray} {K : List (Nat × TypeId × List Value)} (h : SegO w0 vb d g' sb n a g s b fs X K W) : ∃ fa fc, Sg W sb vb n a g s b fa fc fs (plc fs) false := by
  obtain ⟨fa, ⟨ws, fc, h1, h2, h3⟩, h7⟩ := h
  exact ⟨_, _, h2⟩
theorem SegO.sealed {w0 W : World} {vb d g' sb n a g s b : Nat} {fs : List (Int × ByteArray)} {X : List ByteArray} {K : List (Nat × TypeId × List Value)} (h : SegO w0 vb d g' sb n a g s b fs X K W) :
    Calls Tryd.prog 22 #[.pointer (some ⟨sb, 0, none⟩)] W fun e w' => e = .returned (.tuple #[]) ∧ (∃ fa fc, Sg w' sb vb n a g s b fa fc fs (plc fs) true) ∧ (∀ x ∈ K, Whole w' x.1 x.2.1 x.2.2) ∧ Below w0.heap.size w0 w' := by
  have hS := h.since
  obtain ⟨fa, ⟨ws, fc, h1, h2, h2', h3⟩, h7⟩ := h
  refine (doSeal_any sb vb n a g s b (plc fs) (.slice fa fs.length fc) false W h2.obj).mono ?_
  rintro e w' ⟨r1, r2, r3⟩
  refine ⟨r1, ⟨fa, fc, ⟨r2, own_of_kept h2.own r3 (own_ne h2.own h2.obj (by decide)), h2.none_⟩⟩, fun x hx => ?_, hS.trans (r3.below hS.size (fun q e => by rw [e]; exact h2' sb (.inl rfl)))⟩
  obtain ⟨k1, k2, k3⟩ := h7 x hx
  exact k1.of_kept r3 (fun e => k2 (.inl e))
theorem appL_22 (M : List Value) (c d : Int) (h : M.length = 22) : (appL M c d)[22]? = some (.int .i64 c) := by
  unfold appL
  rw [List.getElem?_append_right (by omega), h]
  rfl
theorem appL_23 (M : List Value) (c d : Int) (h : M.length = 22) : (appL M c d)[23]? = some (.int .i64 d) := by
  unfold appL
  rw [List.getElem?_append_right (by omega), h]
  rfl
theorem appL_range {W : World} {q : Nat} {t : TypeId} (M : List Value) (c d : Int) (h : Whole W q t (appL M c d)) : W.rangeAt q 0 M := fun j v hv => by
  rw [Nat.zero_add, h.cell j]
  unfold appL
  rw [List.getElem?_append_left (List.getElem?_eq_some_iff.1 hv).1]
  exact hv
theorem made_range {W : World} {q a g s b : Nat} {la : Option Addr} {n lc E : Nat} {X : List Value} (hX : X.length = 16) (h : Whole W q 41 (mkM a g s b la n lc E X)) : W.rangeAt q 6 X := by
  have e : ((mkM a g s b la n lc E X).drop 6).take 16 = X := by
    show (X.take 16) = X
    exact List.take_of_length_le (Nat.le_of_eq hX)
  have := h.part 6 16
  rwa [e] at this
/-- Nothing appended. -/
theorem newMade {u w' : World} (hb : Below (u.alloc (.cells noMade.toArray 41)).heap.size (u.alloc (.cells noMade.toArray 41)) w') : Whole w' u.heap.size 41 noMade := (Whole.new u _ _).below hb (Whole.new u _ _).lt
theorem newMadeD {u w' : World} (hb : Below (u.alloc (.cells noMade.toArray 41)).drew.heap.size (u.alloc (.cells noMade.toArray 41)).drew w') : Whole w' u.heap.size 41 noMade := (Whole.new u 41 noMade).below (w' := w') ((drewBelow _).trans hb) (Whole.new u _ _).lt
theorem keepN {V0 w : World} (h : Below V0.heap.size V0 w) (o : Obj) : Below V0.heap.size V0 (w.alloc o) := grewAlloc h o
theorem keepLaid {V0 w : World} {q : Nat} (h : Below V0.heap.size V0 w) (hq : V0.heap.size ≤ q) (vs : List Value) : Below V0.heap.size V0 (laidAt w (.pointer (some ⟨q, 0, none⟩)) vs) := below_store h hq (Nat.le_refl _) 0 vs
theorem room22 {w : World} {q : Nat} (h : Whole w q 41 noMade) : roomAt w (.pointer (some ⟨q, 0, none⟩)) 22 := ⟨_, _, rfl, h.there 0 22 (Nat.le_refl _)⟩
theorem roomNew (w : World) : roomAt (w.alloc (.cells noMade.toArray 41)) (.pointer (some ⟨w.heap.size, 0, none⟩)) 22 := room22 (Whole.new w _ _)
theorem laidWhole {W : World} {q : Nat} {t : TypeId} {cs vs : List Value} (h : Whole W q t cs) (hl : vs.length = cs.length) : Whole (laidAt W (.pointer (some ⟨q, 0, none⟩)) vs) q t vs := whole_all h hl
end Go.Proofs.YtlgoepbfdldgnaaDoor.W
end
namespace Go.Proofs.YtlgoepbfdldgnaaDoor.segmentPuts
open Go.ChangeShapes Go.WideShapes Go.ChangeAt Go.RowKit Go.Sort
open Go.Proofs.YtlgoepbfdldgnaaDoor.M Go.Proofs.YtlgoepbfdldgnaaDoor.Z
open Go.Proofs.YtlgoepbfdldgnaaDoor.W Go.Proofs.YtlgoepbfdldgnaaDoor.D
set_option linter.unusedVariables false

attribute [local go_sem ↓] store_madeC load_secS in
set_option maxRecDepth 100000 in
set_option maxHeartbeats 4000000 in
/-- Of what is gone through. -/
theorem walkIn (a g s b n : Nat) (va : Option Addr) (len cap : Nat) (xs : List (Int × ByteArray)) (w : World) (hT : Wide w) (ha1 : 1 ≤ a) (ha : a < 65536) (hg : g < 4294967296) (hs : s < 4294967296) (hb : b ≤ 1099511627776) (hn : n < 2) (hx : FrIn w va len xs) (hbig : bigF xs = false) :
    Calls Tryd.prog 3 #[.agg #[.int .i64 (a : Int), .int .u32 (g : Int), .int .u32 (s : Int), .int .i64 (b : Int)], .slice va len cap, .int .i64 (n : Int)] w fun e w' => e = .returned (.bool true) ∧ Below w.heap.size w w' := by
  obtain ⟨W, hW⟩ : ∃ W, Hid (W = w.alloc (.cells (hdr a g s b).toArray 24)) := ⟨_, Lib.hid rfl⟩
  have hbW : Below w.heap.size w W := by rw [hW.out]; exact allocBelow w _
  have hH : Whole W w.heap.size 24 (hdr a g s b) := by rw [hW.out]; exact Whole.new w _ _
  have hok : okH (a : Int) (b : Int) = true := okH_yes a b ha1 ha hb
  have hmay := fun W => rmayH_any (a : Int) g s b W
  rw [hok] at hmay
  have hla := fun (W' : World) (hb : Below w.heap.size w W') => large13_any va len cap xs W' ⟨hx.len, hx.at_.below hb, hx.ok⟩
  rw [hbig] at hla
  obtain ⟨hl40, hsz⟩ := bigF_no hbig
  have hHk : Hid (∀ W', Below W.heap.size W W' → Whole W' w.heap.size 24 (hdr a g s b)) := Lib.hid (fun W' hb => hH.below hb hH.lt)
  have hput := Lib.hid (fun W' (hb : Below w.heap.size w W') => put13_any W' (hT.below hb))
  have hat := Lib.hid (fun W' (hb : Below w.heap.size w W') => hx.at_.below hb)
  have hlen := hx.len
  have hTw := Lib.hid (fun W' (hb : Below w.heap.size w W') => hT.below hb)
  have hkok := Lib.hid hx.ok
  replace hmay := Lib.hid hmay
  replace hla := Lib.hid hla
  replace hsz := Lib.hid hsz
  replace hbW := Lib.hid hbW
  have hsh := fun W => same_hd (a : Int) g s b (wf_i64 (by omega) (by omega)) (wf_u32 (by omega) (by omega)) (wf_u32 (by omega) (by omega)) (wf_i64 (by omega) (by omega)) W
  have hn1 : ((n : Int) < 0) = False := by simp
  have hn2 : (1 < (n : Int)) = False := by simp; omega
  have hn3 : ¬ ((n : Int) < 0) := by omega
  have hn4 : ¬ (1 < (n : Int)) := by omega
  clear hH hx hT hok hbig
  go_enter Tryd.func3, Tryd.ntmps3
  go_upto_region 1 with fail
  rw [← show W = _ from hW.out]
  clear hW
  go_wp2_with fail
  refine (hla.out _ hbW.out).mono ?_
  rintro _ w1 ⟨rfl, hb1⟩
  replace hb1 := Lib.hid hb1
  go_wp2_with fail
  refine (fresh13_any _).mono ?_
  rintro _ w2 ⟨vb, d, g', rfl, h2⟩
  have hB1 := Lib.hid (grew hbW.out hb1.out)
  have hHw : Hid (∀ W', Below w1.heap.size w1 W' → Whole W' w.heap.size 24 (hdr a g s b)) := Lib.hid (fun W' hb => hHk.out W' (hb1.out.trans (hb.mono hb1.out.size)))
  have hH2 := Lib.hid (hHw.out _ h2.since)
  have a0 := hH2.out.cell 0
  have a1 := hH2.out.cell 1
  have a2 := hH2.out.cell 2
  have a3 := hH2.out.cell 3
  simp only [List.getElem?_cons_zero, List.getElem?_cons_succ] at a0 a1 a2 a3
  have hcr := Lib.hid (seg_made h2 hn (hTw.out _ hB1.out) ha1 ha hg hs hb)
  clear h2 hH2 hHk hb1
  go_wp2_with fail
  refine hcr.out.mono ?_
  rintro _ w3 ⟨sb, rfl, h3⟩
  clear a0 a1 a2 a3 hcr
  have hH3 := Lib.hid (hHw.out _ h3.since)
  have a0 := hH3.out.cell 0
  have a1 := hH3.out.cell 1
  have a2 := hH3.out.cell 2
  have a3 := hH3.out.cell 3
  simp only [List.getElem?_cons_zero, List.getElem?_cons_succ] at a0 a1 a2 a3
  replace h3 := Lib.hid h3
  go_wp2_with fail
  refine (ref13_any (a : Int) g s b _).mono ?_
  rintro _ w4 ⟨rfl, hb4⟩
  go_wp2_with fail
  refine (hmay.out _).mono ?_
  rintro _ w5 ⟨rfl, hb5⟩
  have h5 := Lib.hid (h3.out.below (grew hb4 hb5))
  clear a0 a1 a2 a3 hH3 hb4 hb5 h3
  have hX0l := h5.out
  obtain ⟨X0, hX0⟩ : ∃ X0, Hid (putP blankS s 1 0 (fun i => B (pcL (headerL a g s b) i)) 1 = X0) := ⟨_, Lib.hid rfl⟩
  rw [hX0.out] at h5 hX0l
  have hX16 : X0.length = 16 := by obtain ⟨_, _, _, _, _, h, _⟩ := hX0l; exact h.len
  have hbk := Lib.hid (fun W => rblank_any W)
  have hrc : Hid (∀ W, Calls Tryd.prog 15 #[.agg (rowS blankS).toArray, .agg #[.int .i64 (a : Int), .int .u32 (g : Int), .int .u32 (s : Int), .int .i64 (b : Int)]] W fun e w' => e = .returned (.agg (mkM a g s b none 0 0 1 (rowS X0)).toArray) ∧ Below W.heap.size W w') := Lib.hid (fun W => by rw [← hX0.out]; exact rcreate_any blankS a g s b W rfl ha hg hs hb)
  obtain ⟨M0, hM0⟩ : ∃ M0, Hid (mkM a g s b none 0 0 1 (rowS X0) = M0) := ⟨_, Lib.hid rfl⟩
  have hM22 : M0.length = 22 := by rw [← hM0.out]; exact mkM_len _ _ _ _ _ _ _ _ _ (by rw [rowS_len, hX16])
  have hMone : oneCells (.agg M0.toArray) 22 := ⟨by simpa [Value.cells] using hM22, rfl, all_oneCell_toArray (by rw [← hM0.out]; exact mkM_one _ _ _ _ _ _ _ _ _ (rowS_one X0))⟩
  obtain ⟨BL, hBL⟩ : ∃ BL, Hid (rowS blankS = BL) := ⟨_, Lib.hid rfl⟩
  rw [hBL.out] at hbk hrc
  rw [hM0.out] at hrc
  have hV0 : Below w5.heap.size w5 w5 := Below.refl _ _
  have hV1 : Below w5.heap.size w5 w5.drew := (Below.refl _ _).drew
  have hs15 := hX0l.since
  have hHW : ∀ W, Below w5.heap.size w5 W → Whole W w.heap.size 24 (hdr a g s b) := fun W hb => hHw.out W (hs15.trans (hb.mono hs15.size))
  have r0 : ∀ W, Below w5.heap.size w5 W → W.cell? ⟨w.heap.size, 0, none⟩ = some (.int .i64 (a : Int)) := fun W hb => (hHW W hb).cell 0
  have r1 : ∀ W, Below w5.heap.size w5 W → W.cell? ⟨w.heap.size, 1, none⟩ = some (.int .u32 (g : Int)) := fun W hb => (hHW W hb).cell 1
  have r2 : ∀ W, Below w5.heap.size w5 W → W.cell? ⟨w.heap.size, 2, none⟩ = some (.int .u32 (s : Int)) := fun W hb => (hHW W hb).cell 2
  have r3 : ∀ W, Below w5.heap.size w5 W → W.cell? ⟨w.heap.size, 3, none⟩ = some (.int .i64 (b : Int)) := fun W hb => (hHW W hb).cell 3
  have hrf := Lib.hid (fun W => ref13_any (a : Int) g s b W)
  have hrn := roomNew
  clear hX0l hs15 hHW hX0 hBL
  go_upto_region 9 with fail
  go_cut [10] from 58 to 61 (fun c wx => ∃ yb, c = .pointer (some ⟨yb, 0, none⟩) ∧ Hid (Whole wx yb 41 M0 ∧ Below w5.heap.size w5 wx ∧ w5.heap.size ≤ yb))
  case first =>
    go_region_held3 (fun w' => Below w5.heap.size w5 w') (first | assumption | exact keepN (by assumption) _ | exact keepLaid (by first | assumption | exact keepN (by assumption) _) (by first | exact Nat.le_refl _ | exact Below.size (by assumption)) _ | (go_keep)) (first
      | (go_at_call 16; (with_reducible refine (hbk.out _).mono ?_); rintro _ w6 ⟨rfl, hb6⟩; have hk6 : Below w5.heap.size w5 w6 := grew (by assumption) hb6; (try (first | (have hn6 := hn7.below hb6 hn7.lt) | (have hn6 := newMade hb6) | (have hn6 := newMadeD hb6))))
      | (go_at_call 14; (with_reducible refine (hrf.out _).mono ?_); rintro _ w7 ⟨rfl, hb7⟩; have hk7 : Below w5.heap.size w5 w7 := grew (by assumption) hb7; (try (first | (have hn7 := hn6.below hb7 hn6.lt) | (have hn7 := newMade hb7) | (have hn7 := newMadeD hb7))))
      | (go_at_call 15; (with_reducible refine (hrc.out _).mono ?_); rintro _ w8 ⟨rfl, hb8⟩; have hk8 : Below w5.heap.size w5 w8 := grew (by assumption) hb8; (try (first | (have hn8 := hn7.below hb8 hn7.lt) | (have hn8 := hn6.below hb8 hn6.lt) | (have hn8 := newMade hb8))); (try have hr8 := room22 hn8)))
    all_goals go_wp2_with fail
    all_goals go_meet
    all_goals first
      | exact ⟨_, rfl, Lib.hid ⟨laidWhole hn8 hM22, keepLaid hk8 (by first | exact Nat.le_refl _ | exact hk6.size | exact hk7.size) _, by first | exact Nat.le_refl _ | exact hk6.size | exact hk7.size⟩⟩
      | exact ⟨_, rfl, Lib.hid ⟨laidWhole (Whole.new w8 _ noMade) hM22, keepLaid (keepN hk8 _) hk8.size _, hk8.size⟩⟩
  case rest =>
    obtain ⟨yb, rfl, hc9⟩ := hcut
    have hwy : w1.heap.size ≤ yb := Nat.le_trans h5.out.since.size hc9.out.2.2
    have hS0 : Hid (RowB none 0 ([] : List (Int × ByteArray)) [] ∧ SegO w1 vb d g' sb n a g s b [] X0 ((yb, 41, mkM a g s b none ([] : List (Int × ByteArray)).length 0 (plc ([] : List (Int × ByteArray))) (rowS X0)) :: []) wc) := Lib.hid ⟨.inl ⟨rfl, rfl, rfl, rfl⟩, by
      have h := (h5.out.open_).more (W' := wc) (N := [(yb, 41, M0)]) hc9.out.2.1 (fun x hx => by
        obtain rfl := List.mem_singleton.1 hx
        exact ⟨hc9.out.1, .inr hc9.out.2.2, by show plainT 41; decide⟩)
      rw [← hM0.out] at h
      rw [plc_nil]
      exact h⟩
    clear h5 hc9 hV0 hV1 r0 r1 r2 r3 hrf hrn hbk hrc hMone hM22 hM0
    go_wp2_with fail
    go_loopg [64] len (fun ga i wr => ∃ k : Nat, ∃ fs X la lc K, k ≤ len ∧ len ≤ k + ga ∧ i = .int .i64 k ∧ Hid (RowB la lc fs K ∧ SegO w1 vb d g' sb n a g s b fs X ((yb, 41, mkM a g s b la fs.length lc (plc fs) (rowS X)) :: K) wr))
    case atStart => exact ⟨0, [], X0, none, 0, [], by omega, by omega, rfl, hS0⟩
    case round =>
      clear hS0
      obtain ⟨k, fs, X, la, lc, K, hk, hgk, rfl, hrow⟩ := hrel
      generalize wr = wo at *
      have hBo := Lib.hid (hB1.out.trans (hrow.out.2.since.mono hB1.out.size))
      by_cases hlt : k < len
      · obtain ⟨⟨fk, fp⟩, hf⟩ : ∃ f, xs[k]? = some f := ⟨_, List.getElem?_eq_getElem (by omega)⟩
        obtain ⟨b1, o1, rfl, l1, c0, c1⟩ := hat.out _ hBo.out k _ hf
        have hp900 : fp.size ≤ 900 := hsz.out _ (List.mem_of_getElem? hf)
        obtain ⟨V, hV⟩ : ∃ V, Hid (V = wo.alloc (.cells #[.int .i64 fk, .string fp] 45)) := ⟨_, Lib.hid rfl⟩
        have hbV : Below wo.heap.size wo V := by rw [hV.out]; exact allocBelow wo _
        have hXV : Whole V wo.heap.size 45 [.int .i64 fk, .string fp] := by rw [hV.out]; exact Whole.new wo _ _
        obtain ⟨ML, hML⟩ : ∃ ML, Hid (mkM a g s b la fs.length lc (plc fs) (rowS X) = ML) := ⟨_, Lib.hid rfl⟩
        have hL := hrow.out.2.lay
        have hM22 : ML.length = 22 := by rw [← hML.out]; exact mkM_len _ _ _ _ _ _ _ _ _ (by rw [rowS_len, hL.len])
        have h1 := hrow.out.2.more (W' := V) (N := [(wo.heap.size, 45, [.int .i64 fk, .string fp])]) hbV (fun x hx => by
          obtain rfl := List.mem_singleton.1 hx
          exact ⟨hXV, .inr (Nat.le_refl _), by show plainT 45; decide⟩)
        rw [hML.out] at h1
        have hR := Lib.hid hrow.out.1
        have hwo : w1.heap.size ≤ wo.heap.size := hrow.out.2.since.size
        have hap0 := SegO.step fk fp h1 hn hs (by omega)
        have hra0 := fun (W : World) (hK : ∀ x ∈ K, Whole W x.1 x.2.1 x.2.2) => rapd_any a g s b la lc fs X fk fp K W hL (by omega) hs hR.out hK
        rw [hML.out] at hra0
        obtain ⟨fs', hfs⟩ : ∃ x, Hid ((apd fs (fk, fp)).1 = x) := ⟨_, Lib.hid rfl⟩
        obtain ⟨p1, hp1⟩ : ∃ x, Hid ((apd fs (fk, fp)).2.1 = x) := ⟨_, Lib.hid rfl⟩
        obtain ⟨p2, hp2⟩ : ∃ x, Hid ((apd fs (fk, fp)).2.2 = x) := ⟨_, Lib.hid rfl⟩
        obtain ⟨X', hX'⟩ : ∃ x, Hid (apdX X s fs (fk, fp) = x) := ⟨_, Lib.hid rfl⟩
        rw [hfs.out, hp1.out, hp2.out, hX'.out] at hra0
        rw [hfs.out, hp1.out, hp2.out, hX'.out] at hap0
        have hap := Lib.hid hap0
        have hra := Lib.hid hra0
        have d0 : V.cell? ⟨wo.heap.size, 0, none⟩ = some (.int .i64 fk) := hXV.cell 0
        have d1 : V.cell? ⟨wo.heap.size, 1, none⟩ = some (.string fp) := hXV.cell 1
        clear hXV hbV hf l1 hrow hBo h1 hap0 hra0 hfs hp1 hp2 hX' hML hL
        go_upto_region 13 with fail
        rw [← show V = _ from hV.out]
        clear hV c0 c1
        go_wp2_with fail
        refine hap.out.mono ?_
        rintro _ w6 ⟨rfl, h6⟩
        have hF6 := h6.got (List.mem_cons_self)
        have hM6 := Lib.hid (h6.got (List.mem_cons_of_mem _ List.mem_cons_self))
        have hK6 : ∀ x ∈ K, Whole w6 x.1 x.2.1 x.2.2 := fun x hx => h6.got (List.mem_cons_of_mem _ (List.mem_cons_of_mem _ hx))
        have hr6 := Lib.hid (hra.out w6 hK6)
        have e0 : w6.cell? ⟨wo.heap.size, 0, none⟩ = some (.int .i64 fk) := hF6.cell 0
        have e1 : w6.cell? ⟨wo.heap.size, 1, none⟩ = some (.string fp) := hF6.cell 1
        replace h6 := Lib.hid h6
        clear hap d0 d1 hra hF6 hK6
        go_wp2_with (with_reducible refine zLoad 41 _ rfl ?_)
        refine Lib.hid ?_
        refine wpList_load_mid rfl 41 _ rfl yb 0 rfl ML _ hM6.out.range Tryd.underlying41 rfl (by rw [hM22]; exact sizeMade) ?_
        go_wp2_with fail
        refine hr6.out.mono ?_
        rintro _ w7 ⟨la', lc', K', rfl, hR', hK', hb7⟩
        obtain ⟨ML', hML'⟩ : ∃ x, Hid (mkM a g s b la' fs'.length lc' (plc fs') (rowS X') = x) := ⟨_, Lib.hid rfl⟩
        have hL' := h6.out.lay
        have hX'l : (rowS X').length = 16 := by rw [rowS_len, hL'.len]
        have hM22' : ML'.length = 22 := by rw [← hML'.out]; exact mkM_len _ _ _ _ _ _ _ _ _ hX'l
        have hM1' : ∀ v ∈ ML', v.oneCell' = true := by rw [← hML'.out]; exact mkM_one _ _ _ _ _ _ _ _ _ (rowS_one X')
        rw [hML'.out]
        obtain ⟨AL, hAL⟩ : ∃ x, Hid (appL ML' p1 p2 = x) := ⟨_, Lib.hid rfl⟩
        have hA24 : AL.length = 24 := by rw [← hAL.out]; exact appL_len _ _ _ hM22'
        have hA1 : ∀ v ∈ AL, v.oneCell' = true := by rw [← hAL.out]; exact appL_one _ _ _ hM1'
        rw [hAL.out]
        obtain ⟨W7, hW7⟩ : ∃ W7, Hid (W7 = w7.alloc (.cells noApp.toArray 49)) := ⟨_, Lib.hid rfl⟩
        have hA7 : Whole W7 w7.heap.size 49 noApp := by rw [hW7.out]; exact Whole.new w7 _ _
        have hb7' : Below w6.heap.size w6 W7 := by rw [hW7.out]; exact grewAlloc hb7 _
        have hsz7 := hb7.size
        have hM7 : Whole W7 yb 41 ML := hM6.out.below hb7' hM6.out.lt
        have hK7 : ∀ x ∈ K', Whole W7 x.1 x.2.1 x.2.2 ∧ (x ∈ K ∨ w6.heap.size ≤ x.1) ∧ plainT x.2.1 := fun x hx => by
          obtain ⟨q1, q2, q3⟩ := hK' x hx
          rw [hW7.out]
          exact ⟨q1.alloc _, q2, q3⟩
        replace hb7' := Lib.hid hb7'
        replace hA7 := Lib.hid hA7
        replace hM7 := Lib.hid hM7
        replace hK7 := Lib.hid hK7
        replace hA1 := Lib.hid hA1
        replace hM1' := Lib.hid hM1'
        replace hR' := Lib.hid hR'
        replace hL' := Lib.hid hL'
        clear hK' hb7 e0 e1 hr6
        go_wp2_with (with_reducible refine zStore 49 _ _ rfl ?_)
        rw [← show W7 = _ from hW7.out]
        clear hW7
        refine Lib.hid ?_
        refine wpList_store_mid rfl 49 _ _ rfl w7.heap.size 0 AL.toArray rfl rfl (hA7.out.there 0 AL.toArray.size (by rw [List.size_toArray, hA24]; exact Nat.le_refl 24)) (by rw [List.size_toArray, hA24]; exact sizeApp) (all_oneCell_toArray hA1.out) ?_
        have hA8 : Whole (W7.setCells w7.heap.size 0 AL.toArray.toList) w7.heap.size 49 AL := whole_all hA7.out (vs := AL) hA24
        have hb8 : Below w6.heap.size w6 (W7.setCells w7.heap.size 0 AL.toArray.toList) := below_store hb7'.out hsz7 (Nat.le_refl _) 0 _
        have hk8 : Kept (fun q => q = w7.heap.size) W7 (W7.setCells w7.heap.size 0 AL.toArray.toList) := (Kept.refl (fun q => q = w7.heap.size) W7).setCells (c := w7.heap.size) (.inl rfl) 0 _
        have hK8 : ∀ x ∈ K', Whole (W7.setCells w7.heap.size 0 AL.toArray.toList) x.1 x.2.1 x.2.2 ∧ (x ∈ K ∨ w6.heap.size ≤ x.1) ∧ plainT x.2.1 := fun x hx => by
          obtain ⟨q1, q2, q3⟩ := hK7.out x hx
          refine ⟨q1.of_kept hk8 (q1.ne hA7.out (by rw [hR'.out.types x hx]; decide)), q2, q3⟩
        have hM8 : Whole (W7.setCells w7.heap.size 0 AL.toArray.toList) yb 41 ML := hM7.out.of_kept hk8 (hM7.out.ne hA7.out (by decide))
        generalize W7.setCells w7.heap.size 0 AL.toArray.toList = W8 at *
        have h8 := (h6.out.more (W' := W8) (N := (yb, 41, ML) :: K') hb8 (fun x hx => by
          rcases List.mem_cons.1 hx with rfl | hx
          · exact ⟨hM8, .inl (List.mem_cons_of_mem _ List.mem_cons_self), by show plainT 41; decide⟩
          · obtain ⟨q1, q2, q3⟩ := hK8 x hx
            exact ⟨q1, q2.imp (fun e => List.mem_cons_of_mem _ (List.mem_cons_of_mem _ e)) id, q3⟩)).less (K' := (yb, 41, ML) :: K') (fun x hx => List.mem_append_left _ hx)
        have q22 : W8.cell? ⟨w7.heap.size, 22, none⟩ = some (.int .i64 p1) := by rw [hA8.cell 22, ← hAL.out]; exact appL_22 _ _ _ hM22'
        have q23 : W8.cell? ⟨w7.heap.size, 23, none⟩ = some (.int .i64 p2) := by rw [hA8.cell 23, ← hAL.out]; exact appL_23 _ _ _ hM22'
        have hra8 : W8.rangeAt w7.heap.size 0 ML' := by
          have h := hA8
          rw [← hAL.out] at h
          exact appL_range _ _ _ h
        have hne8 : ∀ x ∈ K', x.1 ≠ yb := fun x hx => (hK8 x hx).1.ne hM8 (by rw [hR'.out.types x hx]; decide)
        have hmt : W8.there yb 0 22 := hM8.there 0 22 (by omega)
        have hpp1 : (p1 != p1) = false := by simp
        have hpp2 : (p2 != p2) = false := by simp
        replace hra8 := Lib.hid hra8
        replace h8 := Lib.hid h8
        replace hne8 := Lib.hid hne8
        replace hM8 := Lib.hid hM8
        replace hmt := Lib.hid hmt
        clear h6 hM6 hb7' hA7 hM7 hK7 hA8 hk8 hK8 hb8 hA1
        go_wp2_with (with_reducible refine zLoad 41 _ rfl ?_)
        refine Lib.hid ?_
        refine wpList_load_mid rfl 41 _ rfl w7.heap.size 0 rfl ML' _ hra8.out Tryd.underlying41 rfl (by rw [hM22']; exact sizeMade) ?_
        go_wp2_with (with_reducible refine zStore 41 _ _ rfl ?_)
        refine Lib.hid ?_
        refine wpList_store_mid rfl 41 _ _ rfl yb 0 ML'.toArray rfl rfl (by rw [List.size_toArray, hM22']; exact hmt.out) (by rw [List.size_toArray, hM22']; exact sizeMade) (all_oneCell_toArray hM1'.out) ?_
        have h9 := h8.out.set (W' := W8.setCells yb 0 ML'.toArray.toList) hwy hne8.out ((Kept.refl (fun q => q = yb) W8).setCells (c := yb) (.inl rfl) 0 _) (whole_all hM8.out (vs := ML') (by omega))
        generalize W8.setCells yb 0 ML'.toArray.toList = W9 at *
        have hr9 := Lib.hid (read13_any vb n X' W9 hL'.out.len (by omega) (h9.reads hn))
        replace h9 := Lib.hid h9
        clear h8 q22 q23 hra8 hmt hM8 hne8
        go_wp2_with fail
        refine hr9.out.mono ?_
        rintro _ w10 ⟨rfl, hb10⟩
        obtain ⟨W10, hW10⟩ : ∃ W10, Hid (W10 = w10.alloc (.cells cells17.toArray 52)) := ⟨_, Lib.hid rfl⟩
        have hX10 : Whole W10 w10.heap.size 52 cells17 := by rw [hW10.out]; exact Whole.new w10 _ _
        have hb10' : Below W9.heap.size W9 W10 := by rw [hW10.out]; exact grewAlloc hb10 _
        have hsz10 := hb10.size
        have hXl17 : (secL (rowS X') true).length = 17 := by rw [List.length_append, List.length_singleton, hX'l]
        have hXone : ∀ v ∈ secL (rowS X') true, v.oneCell' = true := secL_one _ _ (rowS_one X')
        obtain ⟨SL, hSL⟩ : ∃ x, Hid (secL (rowS X') true = x) := ⟨_, Lib.hid rfl⟩
        rw [hSL.out] at hXl17 hXone ⊢
        replace hXone := Lib.hid hXone
        replace hX10 := Lib.hid hX10
        replace hb10' := Lib.hid hb10'
        clear hb10 hr9
        go_wp2_with (with_reducible refine zStore 52 _ _ rfl ?_)
        rw [← show W10 = _ from hW10.out]
        clear hW10
        refine Lib.hid ?_
        refine wpList_store_mid rfl 52 _ _ rfl w10.heap.size 0 SL.toArray rfl rfl (hX10.out.there 0 SL.toArray.size (by rw [List.size_toArray, hXl17]; exact Nat.le_refl 17)) (by rw [List.size_toArray, hXl17]; exact sizeSecs) (all_oneCell_toArray hXone.out) ?_
        have hXs : Whole (W10.setCells w10.heap.size 0 SL.toArray.toList) w10.heap.size 52 SL := whole_all hX10.out (vs := SL) hXl17
        have hb11 : Below W9.heap.size W9 (W10.setCells w10.heap.size 0 SL.toArray.toList) := below_store hb10'.out hsz10 (Nat.le_refl _) 0 _
        generalize W10.setCells w10.heap.size 0 SL.toArray.toList = W11 at *
        have h11 := h9.out.below hb11
        have hM11 : Whole W11 yb 41 ML' := h11.got (List.mem_cons_self)
        rw [← hML'.out] at hM11 h11
        obtain ⟨fa, fc, hsg⟩ := h11.obj
        have hfl := plc_len fs'
        have hV0 : Below W11.heap.size W11 W11 := Below.refl _ _
        have hV1 : Below W11.heap.size W11 W11.drew := (Below.refl _ _).drew
        have hy16 : ∀ y ∈ X', y.size ≤ maxLen := h9.out.sizes hn
        have hss := same_secs X' hL'.out.len hy16
        obtain ⟨RX, hRX⟩ : ∃ x, Hid (rowS X' = x) := ⟨_, Lib.hid rfl⟩
        have hXr : W11.rangeAt w10.heap.size 0 RX := fun j v hv => by
          rw [Nat.zero_add, hXs.cell j, ← hSL.out, List.getElem?_append_left (by rw [hRX.out]; exact (List.getElem?_eq_some_iff.1 hv).1), hRX.out]
          exact hv
        have hXt : W11.cell? ⟨w10.heap.size, 16, none⟩ = some (.bool true) := by
          rw [hXs.cell 16, ← hSL.out, List.getElem?_append_right (by omega), hX'l]
          rfl
        have hYr : W11.rangeAt yb 6 RX := by rw [← hRX.out]; exact made_range hX'l hM11
        obtain ⟨P, hP⟩ : ∃ P, Hid (plc fs' = P) := ⟨_, Lib.hid rfl⟩
        obtain ⟨nf, hnf⟩ : ∃ nf, Hid (fs'.length = nf) := ⟨_, Lib.hid rfl⟩
        have hy4 : W11.cell? ⟨yb, 4, none⟩ = some (.slice la' nf lc') := by rw [hM11.cell 4, ← hnf.out]; rfl
        have hy5 : W11.cell? ⟨yb, 5, none⟩ = some (.int .i64 (P : Int)) := by rw [hM11.cell 5, ← hP.out]; rfl
        have hEn : Hid (∀ W, Below W11.heap.size W11 W → Calls Tryd.prog 20 #[.pointer (some ⟨sb, 0, none⟩)] W fun e w' => e = .returned (.int .i64 (P : Int)) ∧ W = w') := Lib.hid (fun W hb => end_any sb P W (by rw [← hP.out]; exact (hsg.below hb).obj.cell 7))
        have hLn : Hid (∀ W, Below W11.heap.size W11 W → Calls Tryd.prog 21 #[.pointer (some ⟨sb, 0, none⟩)] W fun e w' => e = .returned (.int .i64 (nf : Int)) ∧ W = w') := Lib.hid (fun W hb => by rw [← hnf.out]; exact len_any sb fa fs'.length fc W ((hsg.below hb).obj.cell 6))
        have k4 : ∀ W, Below W11.heap.size W11 W → W.cell? ⟨yb, 4, none⟩ = some (.slice la' nf lc') := fun W hb => keepCell hb hy4
        have k5 : ∀ W, Below W11.heap.size W11 W → W.cell? ⟨yb, 5, none⟩ = some (.int .i64 (P : Int)) := fun W hb => keepCell hb hy5
        have k16 : ∀ W, Below W11.heap.size W11 W → W.cell? ⟨w10.heap.size, 16, none⟩ = some (.bool true) := fun W hb => keepCell hb hXt
        rw [hRX.out] at hss hX'l
        have kh1 : ∀ W, Below W11.heap.size W11 W → hasAt W (.pointer (some ⟨w10.heap.size, 0, none⟩)) 16 := fun W hb => has_of (fun j v hv => keepCell hb (hXr j v hv)) hX'l
        have kr1 : ∀ W, Below W11.heap.size W11 W → readAt W (.pointer (some ⟨w10.heap.size, 0, none⟩)) 16 = RX := fun W hb => read_of (fun j v hv => keepCell hb (hXr j v hv)) hX'l
        have kh2 : ∀ W, Below W11.heap.size W11 W → hasAt W (.pointer (some ⟨yb, 6, none⟩)) 16 := fun W hb => has_of (fun j v hv => keepCell hb (hYr j v hv)) hX'l
        have kr2 : ∀ W, Below W11.heap.size W11 W → readAt W (.pointer (some ⟨yb, 6, none⟩)) 16 = RX := fun W hb => read_of (fun j v hv => keepCell hb (hYr j v hv)) hX'l
        have hPP : ((P : Int) != (P : Int)) = false := by simp
        have hnn : ((nf : Int) != (nf : Int)) = false := by simp
        replace h11 := Lib.hid h11
        clear hXs hb11 hM11 hsg h9 hX10 hb10' hXr hXt hYr hy4 hy5 hXone hfl
        go_wp2_with fail
        go_region_held3 (fun w' => Below W11.heap.size W11 w') (first | assumption | (go_keep)) (first
          | (go_at_call 20; (with_reducible refine (hEn.out _ (by assumption)).mono ?_); rintro _ w12 ⟨rfl, rfl⟩)
          | (go_at_call 21; (with_reducible refine (hLn.out _ (by assumption)).mono ?_); rintro _ w13 ⟨rfl, rfl⟩))
        clear k4 k5 k16 kh1 kr1 kh2 kr2 hV0 hV1
        go_wp2_with fail
        go_roundg (gk - 1)
        case measure => omega
        case rel => exact ⟨k + 1, fs', X', la', lc', K', by omega, by omega, by go_num, Lib.hid ⟨hR'.out, h11.out.below (drewBelow _)⟩⟩
      · obtain rfl : k = len := by omega
        obtain ⟨nf, hnf⟩ : ∃ nf, Hid (fs.length = nf) := ⟨_, Lib.hid rfl⟩
        have hse := Lib.hid (hrow.out.2.sealed)
        have hL := hrow.out.2.lay
        have hfl := plc_len fs
        have hfit := hL.fits
        have hfok : ∀ f ∈ fs, (Lit.int .i64 f.1).wf = true ∧ f.2.size ≤ maxLen := fun f hf => wf_frame (hL.ok f hf)
        go_wp2_with fail
        refine hse.out.mono ?_
        rintro _ w6 ⟨rfl, ⟨fa, fc, t6⟩, hK6, hb6⟩
        have hM6 := hK6 _ (List.mem_cons_self)
        have hK6' : ∀ x ∈ K, Whole w6 x.1 x.2.1 x.2.2 := fun x hx => hK6 x (List.mem_cons_of_mem _ hx)
        have hap := Lib.hid (append_sealed 1 ⟨#[]⟩ t6)
        clear hse
        replace t6 := Lib.hid t6
        go_wp2_with fail
        refine hap.out.mono ?_
        rintro _ w7 ⟨rfl, hb7⟩
        have t7 := t6.out.below hb7
        have hM7 : Whole w7 yb 41 (mkM a g s b la fs.length lc (plc fs) (rowS X)) := hM6.below hb7 hM6.lt
        have hK7 : ∀ x ∈ K, Whole w7 x.1 x.2.1 x.2.2 := fun x hx => (hK6' x hx).below hb7 (hK6' x hx).lt
        have hy4 : w7.cell? ⟨yb, 4, none⟩ = some (.slice la nf lc) := by rw [hM7.cell 4, ← hnf.out]; rfl
        have hrl := frAt_own (hrow.out.1.own hK7) rfl
        have hB7 : Below w1.heap.size w1 w7 := hb6.trans (hb7.mono hb6.size)
        have hV0 : Below w7.heap.size w7 w7 := Below.refl _ _
        have hV1 : Below w7.heap.size w7 w7.drew := (Below.refl _ _).drew
        have hFs : Hid (∀ W, Below w7.heap.size w7 W → Calls Tryd.prog 25 #[.pointer (some ⟨sb, 0, none⟩)] W fun e w' => ∃ va' c', e = .returned (.slice va' nf c') ∧ FrAt w' va' fs ∧ Below W.heap.size W w') := Lib.hid (fun W hb => by
          refine (frames_any (t7.below hb) (by omega)).mono ?_
          rintro e w' ⟨va', c', q1, q2, q3⟩
          rw [hnf.out] at q1
          exact ⟨va', c', q1, frAt_own q2 rfl, q3⟩)
        have hSm : Hid (∀ (v1 : Option Addr) (c1 : Nat) (W : World), Below w7.heap.size w7 W → FrAt W v1 fs → Calls Tryd.prog 24 #[.slice v1 nf c1, .slice la nf lc] W fun e w' => e = .returned (.bool true) ∧ Below W.heap.size W w') := Lib.hid (fun v1 c1 W hb q1 => same_frames v1 la nf c1 lc fs W q1 (hrl.below hb) hnf.out (by have := hnf.out; omega) hfok)
        have hHt : Hid (∀ W, Below w7.heap.size w7 W → Calls Tryd.prog 26 #[.pointer (some ⟨sb, 0, none⟩)] W fun e w' => e = .returned (.agg #[.int .i64 (a : Int), .int .u32 (g : Int), .int .u32 (s : Int), .int .i64 (b : Int)]) ∧ Below W.heap.size W w') := Lib.hid (fun W hb => header_any (t7.below hb).obj)
        have hSd : Hid (∀ W, Below w7.heap.size w7 W → Calls Tryd.prog 23 #[.pointer (some ⟨sb, 0, none⟩)] W fun e w' => e = .returned (.bool true) ∧ W = w') := Lib.hid (fun W hb => sealed_any sb true W ((t7.below hb).obj.cell 8))
        have hNm : Hid (∀ W, Below w7.heap.size w7 W → Calls Tryd.prog 27 #[.pointer (some ⟨sb, 0, none⟩)] W fun e w' => e = .returned (.int .i64 (n : Int)) ∧ W = w') := Lib.hid (fun W hb => number_any sb n W ((t7.below hb).obj.cell 1))
        have hpt : Hid (∀ W, Below w7.heap.size w7 W → Calls Tryd.prog 10 #[] W fun e w' => e = .returned (.bool true) ∧ Below W.heap.size W w') := Lib.hid (fun W hb => hput.out W (hB1.out.trans ((hB7.trans (hb.mono hB7.size)).mono hB1.out.size)))
        have hHW : ∀ W, Below w7.heap.size w7 W → Whole W w.heap.size 24 (hdr a g s b) := fun W hb => hHw.out W (hB7.trans (hb.mono hB7.size))
        have r0 : ∀ W, Below w7.heap.size w7 W → W.cell? ⟨w.heap.size, 0, none⟩ = some (.int .i64 (a : Int)) := fun W hb => (hHW W hb).cell 0
        have r1 : ∀ W, Below w7.heap.size w7 W → W.cell? ⟨w.heap.size, 1, none⟩ = some (.int .u32 (g : Int)) := fun W hb => (hHW W hb).cell 1
        have r2 : ∀ W, Below w7.heap.size w7 W → W.cell? ⟨w.heap.size, 2, none⟩ = some (.int .u32 (s : Int)) := fun W hb => (hHW W hb).cell 2
        have r3 : ∀ W, Below w7.heap.size w7 W → W.cell? ⟨w.heap.size, 3, none⟩ = some (.int .i64 (b : Int)) := fun W hb => (hHW W hb).cell 3
        have k4 : ∀ W, Below w7.heap.size w7 W → W.cell? ⟨yb, 4, none⟩ = some (.slice la nf lc) := fun W hb => keepCell hb hy4
        have hfin : Hid (∀ W, Below w7.heap.size w7 W → Below w.heap.size w W) := Lib.hid (fun W hb => hB1.out.trans ((hB7.trans (hb.mono hB7.size)).mono hB1.out.size))
        have hnq : ((n : Int) == (n : Int)) = true := by simp
        clear hrow hBo t7 hM6 hK6 hK6' hM7 hK7 hy4 hrl hb7 hb6 hfok hL hfit hfl hB7 hHW hap t6
        go_wp2_with fail
        go_region_held3 (fun w' => Below w7.heap.size w7 w') (first | assumption | (go_keep)) (first
          | (go_at_call 23; (with_reducible refine (hSd.out _ (by assumption)).mono ?_); rintro _ w8 ⟨rfl, rfl⟩)
          | (go_at_call 25; (with_reducible refine (hFs.out _ (by assumption)).mono ?_); rintro _ w9 ⟨va9, c9, rfl, hf9, hb9⟩; have hk9 : Below w7.heap.size w7 w9 := grew (by assumption) hb9)
          | (go_at_call 24; (with_reducible refine (hSm.out _ _ _ (by assumption) hf9).mono ?_); rintro _ w10 ⟨rfl, hb10⟩; have hk10 : Below w7.heap.size w7 w10 := grew (by assumption) hb10)
          | (go_at_call 26; (with_reducible refine (hHt.out _ (by assumption)).mono ?_); rintro _ w11 ⟨rfl, hb11⟩; have hk11 : Below w7.heap.size w7 w11 := grew (by assumption) hb11)
          | (go_at_call 27; (with_reducible refine (hNm.out _ (by assumption)).mono ?_); rintro _ w12 ⟨rfl, rfl⟩)
          | (go_at_call 10; (with_reducible refine (hpt.out _ (by assumption)).mono ?_); rintro _ w13 ⟨rfl, hb13⟩; have hk13 : Below w7.heap.size w7 w13 := grew (by assumption) hb13))
        all_goals
          go_wp2_with fail
          go_ret
          exact ⟨rfl, hfin.out _ (by assumption)⟩
set_option maxRecDepth 100000 in
set_option maxHeartbeats 4000000 in
/-- Of what is not gone through. -/
theorem walkOut (a g s b n : Int) (va : Option Addr) (len cap : Nat) (xs : List (Int × ByteArray)) (w : World) (hT : Wide w) (hx : FrIn w va len xs) (hno : bigF xs = true ∨ (bigF xs = false ∧ (¬ (0 ≤ n ∧ n ≤ 1) ∨ ((0 ≤ n ∧ n ≤ 1) ∧ okH a b = false)))) :
    Calls Tryd.prog 3 #[.agg #[.int .i64 a, .int .u32 g, .int .u32 s, .int .i64 b], .slice va len cap, .int .i64 n] w fun e w' => e = .returned (.bool true) ∧ Below w.heap.size w w' := by
  obtain ⟨W, hW⟩ : ∃ W, Hid (W = w.alloc (.cells (hdr a g s b).toArray 24)) := ⟨_, Lib.hid rfl⟩
  have hbW : Below w.heap.size w W := by rw [hW.out]; exact allocBelow w _
  have hH : Whole W w.heap.size 24 (hdr a g s b) := by rw [hW.out]; exact Whole.new w _ _
  have hla := fun (W' : World) (hb : Below w.heap.size w W') => large13_any va len cap xs W' ⟨hx.len, hx.at_.below hb, hx.ok⟩
  have hput := Lib.hid (fun W' (hb : Below w.heap.size w W') => put13_any W' (hT.below hb))
  have hTw := Lib.hid (fun W' (hb : Below w.heap.size w W') => hT.below hb)
  have hmay := fun W => rmayH_any a g s b W
  replace hbW := Lib.hid hbW
  have hsz := hbW.out.size
  rcases hno with h | ⟨h, h2⟩
  · rw [h] at hla
    replace hla := Lib.hid hla
    clear hx hH hmay
    go_enter Tryd.func3, Tryd.ntmps3
    go_upto_region 1 with fail
    rw [← show W = _ from hW.out]
    clear hW
    go_wp2_with fail
    refine (hla.out _ hbW.out).mono ?_
    rintro _ w1 ⟨rfl, hb1⟩
    have hB1 := Lib.hid (grew hbW.out hb1)
    go_wp2_with fail
    refine (hput.out _ hB1.out).mono ?_
    rintro _ w2 ⟨rfl, hb2⟩
    go_wp2_with fail
    go_ret
    exact ⟨rfl, grew hB1.out hb2⟩
  · rw [h] at hla
    replace hla := Lib.hid hla
    clear hx
    have hcr : Hid (∀ (vb d g' : Nat) (w0 W' : World), SV w0 vb d g' (zeros 36) [] 1 34 (-1) 0 false W' → Below w.heap.size w W' → Calls Tryd.prog 12 #[.pointer (some ⟨vb, 0, none⟩), .int .i64 n, .agg #[.int .i64 a, .int .u32 g, .int .u32 s, .int .i64 b]] W' fun e w' => e = .returned (.tuple #[.pointer none, .int .i64 (if 0 ≤ n ∧ n ≤ 1 then 1 else 20)]) ∧ Below W'.heap.size W' w') := Lib.hid (fun vb d g' w0 W' hv hb => by
      obtain ⟨v, k1, k2, k3⟩ := hv
      rcases h2 with h2 | ⟨h2, h3⟩
      · rw [if_neg h2]
        exact create_out n a g s b 32 k1 rfl (by decide) (by omega)
      · rw [if_pos h2]
        obtain ⟨n', rfl⟩ := lit_nat h2.1
        exact create_arg n' 32 a g s b k1 rfl (by decide) (by omega) h3)
    go_enter Tryd.func3, Tryd.ntmps3
    go_upto_region 1 with fail
    rw [← show W = _ from hW.out]
    clear hW
    go_wp2_with fail
    refine (hla.out _ hbW.out).mono ?_
    rintro _ w1 ⟨rfl, hb1⟩
    have hB1 := Lib.hid (grew hbW.out hb1)
    have hH1 := Lib.hid (hH.below hb1 hH.lt)
    clear hH hb1
    go_wp2_with fail
    refine (fresh13_any _).mono ?_
    rintro _ w2 ⟨vb, d, g', rfl, h2'⟩
    have hH2 := hH1.out.below h2'.since hH1.out.lt
    have a0 := hH2.cell 0
    have a1 := hH2.cell 1
    have a2 := hH2.cell 2
    have a3 := hH2.cell 3
    simp only [List.getElem?_cons_zero, List.getElem?_cons_succ] at a0 a1 a2 a3
    have hB2 := Lib.hid (hB1.out.trans (h2'.since.mono hB1.out.size))
    have hc := Lib.hid (hcr.out vb d g' w1 w2 h2' hB2.out)
    replace hH2 := Lib.hid hH2
    clear h2' hcr hH1
    go_wp2_with fail
    refine hc.out.mono ?_
    rintro _ w3 ⟨rfl, hb3⟩
    have hB3 := Lib.hid (grew hB2.out hb3)
    have hH3 := hH2.out.below hb3 hH2.out.lt
    clear hc a0 a1 a2 a3 hb3 hH2
    rcases h2 with h2 | ⟨h2, h3⟩
    · rw [if_neg h2]
      clear hH3 hmay
      by_cases hn0 : n < 0
      · clear h2
        go_wp2_with fail
        refine (hput.out _ hB3.out).mono ?_
        rintro _ w4 ⟨rfl, hb4⟩
        go_wp2_with fail
        go_ret
        exact ⟨rfl, grew hB3.out hb4⟩
      · have hn1 : 1 < n := by omega
        clear h2
        go_wp2_with fail
        refine (hput.out _ hB3.out).mono ?_
        rintro _ w4 ⟨rfl, hb4⟩
        go_wp2_with fail
        go_ret
        exact ⟨rfl, grew hB3.out hb4⟩
    · rw [if_pos h2]
      rw [h3] at hmay
      replace hmay := Lib.hid hmay
      have a0 := hH3.cell 0
      have a1 := hH3.cell 1
      have a2 := hH3.cell 2
      have a3 := hH3.cell 3
      simp only [List.getElem?_cons_zero, List.getElem?_cons_succ] at a0 a1 a2 a3
      have hn0 : ¬ n < 0 := by omega
      have hn1 : ¬ 1 < n := by omega
      clear h2 hH3
      go_wp2_with fail
      refine (ref13_any a g s b _).mono ?_
      rintro _ w4 ⟨rfl, hb4⟩
      have hB4 := Lib.hid (grew hB3.out hb4)
      clear a0 a1 a2 a3 hb4
      go_wp2_with fail
      refine (hmay.out _).mono ?_
      rintro _ w5 ⟨rfl, hb5⟩
      have hB5 := Lib.hid (grew hB4.out hb5)
      go_wp2_with fail
      refine (hput.out _ hB5.out).mono ?_
      rintro _ w6 ⟨rfl, hb6⟩
      go_wp2_with fail
      go_ret
      exact ⟨rfl, grew hB5.out hb6⟩
theorem walk (a g s b : Int) (va : Option Addr) (len cap : Nat) (xs : List (Int × ByteArray)) (n : Int) (w : World) (hT : Wide w) (_ : (Lit.int .i64 a).wf = true) (hg : (Lit.int .u32 g).wf = true) (hs : (Lit.int .u32 s).wf = true) (_ : (Lit.int .i64 b).wf = true) (hx : FrIn w va len xs) (_ : (Lit.int .i64 n).wf = true) :
    Calls Tryd.prog 3 #[.agg #[.int .i64 a, .int .u32 g, .int .u32 s, .int .i64 b], .slice va len cap, .int .i64 n] w fun e w' => e = .returned (.bool true) ∧ Below w.heap.size w w' := by
  cases hbig : bigF xs with
  | true => exact walkOut a g s b n va len cap xs w hT hx (.inl hbig)
  | false =>
    by_cases hn : 0 ≤ n ∧ n ≤ 1
    · cases hok : okH a b with
      | false => exact walkOut a g s b n va len cap xs w hT hx (.inr ⟨hbig, .inr ⟨hn, hok⟩⟩)
      | true =>
        obtain ⟨h1, h2, h3, h4⟩ := okH_true hok
        obtain ⟨g1, g2⟩ := lit_u32 hg
        obtain ⟨s1, s2⟩ := lit_u32 hs
        obtain ⟨a', rfl⟩ := lit_nat (a := a) (by omega)
        obtain ⟨b', rfl⟩ := lit_nat h3
        obtain ⟨g', rfl⟩ := lit_nat g1
        obtain ⟨s', rfl⟩ := lit_nat s1
        obtain ⟨n', rfl⟩ := lit_nat hn.1
        exact walkIn a' g' s' b' n' va len cap xs w hT (by omega) (by omega) (by omega) (by omega) (by omega) (by omega) hx hbig
    · exact walkOut a g s b n va len cap xs w hT hx (.inr ⟨hbig, .inl hn⟩)

theorem own : ownKnob Tryd.prog.godebug = none := by kernel_rfl
theorem laidOut : laidOutB Tryd.prog = true := by kernel_rfl
theorem gW : Tryd.prog.globalNamed "weighlock/header.widths" = some 0 := by kernel_rfl
theorem gWType : (Tryd.prog.globals[0]?).map (·.type) = some 200 := by kernel_rfl
theorem cellsW4 : Tryd.prog.cellsOf 200 = 4 := by kernel_rfl
theorem cellsW1 : Tryd.prog.cellsOf 3 = 1 := by kernel_rfl
/-- What the row's list gives: the table's numbers. -/
theorem table {W : World} (h : laidMetH Tryd.prog Rows.segmentPutsRow.laid W) : Lib.TabIs Tryd.prog W "weighlock/header.widths" .i64 [2, 4, 4, 8] :=
  Lib.tabIs_of_head (rest := []) gW gWType Tryd.underlying200 Tryd.underlying3 cellsW1 cellsW4 h

set_option maxRecDepth 100000 in
theorem contract (H : Type) (enc : TypeId × Value → H) (W : World) (base : Nat) (args : Array Value) (ds gs : List (DataW H)) (before : List MemPlace)
    (hval : ∀ (j : Nat) t v, Tryd.f3.params[j]? = some t → args[j]? = some v → Value.okWide Tryd.prog W .any base t v)
    (hW : DataW.Whole enc Tryd.prog Tryd.f3.params.toList Rows.segmentPutsSpec.vars false W args.toList ds gs before) (hL : laidMetH Tryd.prog Rows.segmentPutsRow.laid W) :
    Calls Tryd.prog 3 args W fun e W' => ∃ v, e = .returned v ∧ Rows.segmentPutsSpec.post enc Tryd.prog Tryd.f3 false true false false W args v W' := by
  have hTb : Wide W := fun i hi => by
    match i, hi with
    | 0, _ => exact (table hL).cell gW 0 (by decide)
    | 1, _ => exact (table hL).cell gW 1 (by decide)
    | 2, _ => exact (table hL).cell gW 2 (by decide)
    | 3, _ => exact (table hL).cell gW 3 (by decide)
  have hW' := hW
  obtain ⟨p, q, hA0, hV, rfl, hfz, hnd⟩ := hW
  have hA : DataW.TrodAll enc Tryd.prog W 0 (fun _ => true) true Tryd.f3.params.toList args.toList ds p := hA0
  rw [Tryd.params3] at hA hval
  obtain ⟨v0, vs0, d0, ds0, p0, q0, hargs, rfl, rfl, h0, r0⟩ := trodAll_cons hA
  obtain ⟨v1, vs1, d1, ds1, p1, q1, rfl, rfl, rfl, h1, r1⟩ := trodAll_cons r0
  obtain ⟨v2, vs2, d2, ds2, p2, q2, rfl, rfl, rfl, h2, r2⟩ := trodAll_cons r1
  obtain ⟨rfl, rfl, rfl⟩ := trodAll_nil r2
  obtain rfl : args = #[v0, v1, v2] := by cases args; simp_all
  obtain ⟨rfl, rfl⟩ := trodVars_none hV
  have k0 := h0
  have lt0 : ∀ x ∈ p0, x.block < W.heap.size := by obtain ⟨m, hm⟩ := k0; exact DataW.trod_lt m _ _ _ hm
  obtain ⟨ha0, hg0, hs0, hb0, rfl, wha0, whg0, whs0, whb0⟩ := M.open_hd4 (hval 0 24 v0 rfl rfl) h0
  obtain ⟨a1, len1, cap1, rfl⟩ := okWide_slice Tryd.underlying25 (hval 1 25 v1 rfl rfl)
  have k1 := h1
  have lt1 : ∀ x ∈ p1, x.block < W.heap.size := by obtain ⟨m, hm⟩ := k1; exact DataW.trod_lt m _ _ _ hm
  obtain ⟨fu1, hf1⟩ := h1
  obtain ⟨z1, w1⟩ := open_frames (show DataW.trod enc Tryd.prog W 0 (fun _ => true) true fu1 25 [.slice a1 len1 cap1] = some _ from hf1)
  obtain ⟨a2, rfl, rfl, rfl, w2⟩ := open_int Tryd.underlying3 (hval 2 3 v2 rfl rfl) h2
  clear hA0
  refine (walk ha0 hg0 hs0 hb0 a1 len1 cap1 z1 a2 W hTb wha0 whg0 whs0 whb0 w1 w2).mono fun e W' ⟨he, bel⟩ => ?_
  subst he
  exact ⟨_, rfl, _, _, _, [], _, [], hW', trodAll_mk1 (shut_bool Tryd.underlying4 _), (trodAll_cons_mk (Below.trod laidOut (by kernel_rfl) (of_decide_eq_true (by kernel_rfl)) k0 bel lt0) (trodAll_cons_mk (Below.trod laidOut (by kernel_rfl) (of_decide_eq_true (by kernel_rfl)) k1 bel lt1) (trodAll_cons_mk (shut_int Tryd.underlying3 w2) trodAll_mk0))), rfl, bel.frame _, fun h => by cases h⟩

/-- A world for the witness: the settled one, the table as its initialiser lays it. -/
noncomputable def laidWorld (os : Os) : World :=
  { World.holding Tryd.prog os ⟨#[], #[], []⟩ with heap := (World.holding Tryd.prog os ⟨#[], #[], []⟩).heap.modify 0 fun
      | .cells _ t frozen => .cells #[.int .i64 2, .int .i64 4, .int .i64 4, .int .i64 8] t frozen
      | o => o }
theorem laid_met (os : Os) : laidMet Tryd.prog Rows.segmentPutsRow.laid ((laidWorld os).forCall (fun _ _ => 0) ⟨#[], #[.agg #[.int .i64 0, .int .u32 0, .int .u32 0, .int .i64 0], .slice none 0 0, .int .i64 0], []⟩).memory :=
  laidMet_of_run' 8 (by kernel_rfl) (by kernel_rfl)
theorem reads (os : Os) {H : Type} (enc : TypeId × Value → H) : ∃ places, DataW.whole enc Tryd.prog ((laidWorld os).forCall (fun _ _ => 0) ⟨#[], #[.agg #[.int .i64 0, .int .u32 0, .int .u32 0, .int .i64 0], .slice none 0 0, .int .i64 0], []⟩).memory Tryd.f3.params.toList Rows.segmentPutsSpec.vars false (#[.agg #[.int .i64 0, .int .u32 0, .int .u32 0, .int .i64 0], .slice none 0 0, .int .i64 0] : Array Value).toList 8 = some ([.agg [.lit (.int .i64 0), .lit (.int .u32 0), .lit (.int .u32 0), .lit (.int .i64 0)], .nil, .lit (.int .i64 0)], [], places) :=
  ⟨[], by kernel_rfl⟩
set_option maxRecDepth 100000 in
theorem lifted (os : Os) (started : os.Started) (H : Type) (enc : TypeId × Value → H) (F : Stop.Interp) :
    ReturnsInHanded {} Tryd.checked os 3 .any ((OpenSpec.ofChange Rows.segmentPutsSpec).preRow enc Tryd.prog Tryd.f3 Rows.segmentPutsRow.domain false Rows.segmentPutsRow.laid) (((OpenSpec.ofChange Rows.segmentPutsSpec).at F).post enc Tryd.prog Tryd.f3 false true false false) := by
  obtain ⟨places, hx⟩ := reads os enc
  refine returnsInHanded_of_row (C := Tryd.checked) (s := OpenSpec.ofChange Rows.segmentPutsSpec) own started (by kernel_rfl) Tryd.func3
    (witness_row_at (enc := enc) (C := Tryd.checked) false (laidWorld os) #[.agg #[.int .i64 0, .int .u32 0, .int .u32 0, .int .i64 0], .slice none 0 0, .int .i64 0] rfl (by kernel_rfl) (by kernel_rfl) (by kernel_rfl)
      (OpenSpec.preRow_of_cond 8 hx (by kernel_rfl) (fun k hk => by cases hk) (by kernel_rfl) (laid_met os))) ?_
  intro W base args ds gs before hval hW _ _ _ hL _ _
  exact contract H enc W base args ds gs before hval hW hL
theorem over : Rows.segmentPutsRow.holds Tryd.pinned (OpenSpec.ofChange Rows.segmentPutsSpec) :=
  OpenClaim.holds_of_cond 3 Tryd.f3 rfl rfl rfl rfl rfl rfl rfl ⟨rfl, rfl, rfl, rfl, rfl⟩ rfl rfl rfl rfl rfl (by kernel_rfl) Tryd.func3 (by kernel_rfl)
    (of_decide_eq_true (by kernel_rfl)) (by unfold Func.isWrapper; first | (rw [if_pos (by decide +kernel)]; kernel_rfl) | (rw [if_neg (by decide +kernel)]; exact ⟨rfl, rfl⟩))
    (fun os started H enc _ F => by rw [OpenClaim.pre_eq_preRow]; exact lifted os started H enc F)
theorem allPlain : (Tryd.f3.params.toList.all fun u => !(Tryd.prog.wantsStandIn u)) = true := by kernel_rfl
/-- No parameter wants a stand-in; the program's own looks are off. -/
theorem plain (f : FuncId) (fn : Func) (hf : Tryd.pinned.checked.prog.funcNamed "weighlock/weighlocklaw13.SegmentPuts" = some f) (hfn : Tryd.pinned.checked.prog.funcs[f]? = some fn) :
    false = Tryd.pinned.checked.prog.looks [] ∧ ∀ (j : Nat) t, fn.params[j]? = some t → Tryd.pinned.checked.prog.wantsStandIn t = false := by
  obtain rfl : f = 3 := Option.some.inj ((show Tryd.prog.funcNamed "weighlock/weighlocklaw13.SegmentPuts" = some 3 by kernel_rfl).symm.trans hf) |>.symm
  obtain rfl : fn = Tryd.f3 := (Option.some.inj (Tryd.func3.symm.trans hfn)).symm
  refine ⟨by kernel_rfl, fun j t ht => ?_⟩
  have h := List.all_eq_true.1 allPlain t (Array.mem_toList_iff.2 (Array.mem_of_getElem? ht))
  have h2 : Tryd.prog.wantsStandIn t = false := by simpa using h
  exact h2

/-- The statement: the tied card. -/
theorem proved : Rows.SegmentPutsCardSaid :=
  Claim7.holds_tied_plain_at .later [] _ _ _ _ over (fun _ h => by cases h) (by kernel_rfl) (fun _ h => by cases h) segmentPuts_row_tie rfl ⟨rfl, rfl⟩ (by kernel_rfl) rfl plain (by kernel_rfl)
#print axioms proved

end Go.Proofs.YtlgoepbfdldgnaaDoor.segmentPuts
