/- For every header and every list of frames the law SegmentBack returns true: what was put is loaded, header and frames; a segment that was wiped is none. The package variable header.widths starts as the program's text lays it (the card ties it). No other condition. -/
import Derived.Test.YtlgoepbfdldgnaaDoorCards
import Derived.Test.YtlgoepbfdldgnaaDoorTie
import Derived.Test.YtlgoepbfdldgnaaDoorSgT
import Derived.Test.YtlgoepbfdldgnaaDoorOpenBytes
import Derived.WalkKit
import Derived.ProofKit
import Derived.OpenShut
import Derived.ChangeOld
import Derived.Deep.DeepHandedRow
import Derived.Lib.LaidTab
namespace Go.Proofs.YtlgoepbfdldgnaaDoor.segmentBack
open Go.ChangeShapes Go.WideShapes Go.ChangeAt Go.RowKit
open Go.Proofs.YtlgoepbfdldgnaaDoor.M
open Go.Proofs.YtlgoepbfdldgnaaDoor.W Go.Proofs.YtlgoepbfdldgnaaDoor.D
set_option linter.unusedVariables false

set_option maxRecDepth 100000 in
set_option maxHeartbeats 4000000 in
/-- Of what is gone through. -/
theorem walkIn (a g s b : Nat) (va : Option Addr) (len cap : Nat) (xs : List (Int × ByteArray)) (w : World) (hT : Wide w) (ha1 : 1 ≤ a) (ha : a < 65536) (hg : g < 4294967296) (hs : s < 4294967296) (hb : b ≤ 1099511627776) (hx : FrIn w va len xs) (hbig : bigF xs = false) :
    Calls Tryd.prog 6 #[.agg #[.int .i64 (a : Int), .int .u32 (g : Int), .int .u32 (s : Int), .int .i64 (b : Int)], .slice va len cap] w fun e w' => e = .returned (.bool true) ∧ Below w.heap.size w w' := by
  obtain ⟨W, hW⟩ : ∃ W, Hid (W = w.alloc (.cells (hdr a g s b).toArray 24)) := ⟨_, Lib.hid rfl⟩
  have hbW : Below w.heap.size w W := by rw [hW.out]; exact allocBelow w _
  have hH : Whole W w.heap.size 24 (hdr a g s b) := by rw [hW.out]; exact Whole.new w _ _
  have hok : okH (a : Int) (b : Int) = true := okH_yes a b ha1 ha hb
  have hmay := fun W => rmayH_any (a : Int) g s b W
  rw [hok] at hmay
  have hla := fun (W' : World) (hb : Below w.heap.size w W') => large13_any va len cap xs W' ⟨hx.len, hx.at_.below hb, hx.ok⟩
  rw [hbig] at hla
  obtain ⟨hl40, hsz⟩ := bigF_no hbig
  have hHk : Hid (∀ W', Below W.heap.size W W' → Whole W' w.heap.size 24 (hdr a g s b)) := Lib.hid (fun W' hb => hH.below hb hH.lt)
  have hput := Lib.hid (fun W' (hb : Below w.heap.size w W') => put13_any W' (hT.below hb))
  have hat := Lib.hid (fun W' (hb : Below w.heap.size w W') => hx.at_.below hb)
  have hlen := hx.len
  have hTw := Lib.hid (fun W' (hb : Below w.heap.size w W') => hT.below hb)
  have hkok := Lib.hid hx.ok
  replace hmay := Lib.hid hmay
  replace hla := Lib.hid hla
  replace hsz := Lib.hid hsz
  replace hbW := Lib.hid hbW
  have hsh := fun W => same_hd (a : Int) g s b (wf_i64 (by omega) (by omega)) (wf_u32 (by omega) (by omega)) (wf_u32 (by omega) (by omega)) (wf_i64 (by omega) (by omega)) W
  have hB0 := Lib.hid (hHk.out W (Below.refl _ _))
  have a0 := hB0.out.cell 0
  have a1 := hB0.out.cell 1
  have a2 := hB0.out.cell 2
  have a3 := hB0.out.cell 3
  simp only [List.getElem?_cons_zero, List.getElem?_cons_succ] at a0 a1 a2 a3
  clear hH hx hT hok hbig hB0
  go_enter Tryd.func6, Tryd.ntmps6
  go_upto_region 1 with fail
  rw [← show W = _ from hW.out]
  clear hW
  go_wp2_with fail
  refine (hla.out _ hbW.out).mono ?_
  rintro _ w1 ⟨rfl, hb1⟩
  have hH1 := hHk.out _ hb1
  clear a0 a1 a2 a3
  have a0 := hH1.cell 0
  have a1 := hH1.cell 1
  have a2 := hH1.cell 2
  have a3 := hH1.cell 3
  simp only [List.getElem?_cons_zero, List.getElem?_cons_succ] at a0 a1 a2 a3
  replace hH1 := Lib.hid hH1
  replace hb1 := Lib.hid hb1
  go_wp2_with fail
  refine (ref13_any (a : Int) g s b _).mono ?_
  rintro _ w2 ⟨rfl, hb2⟩
  replace hb2 := Lib.hid (grew hb1.out hb2)
  clear hb1 a0 a1 a2 a3 hH1
  go_wp2_with fail
  refine (hmay.out _).mono ?_
  rintro _ w3 ⟨rfl, hb3⟩
  have hb3w := Lib.hid (grew hb2.out hb3)
  have hB3 := Lib.hid (grew hbW.out hb3w.out)
  have hH3 := Lib.hid (hHk.out _ hb3w.out)
  clear hb2 hb3
  go_wp2_with fail
  refine (fresh13_any _).mono ?_
  rintro _ w4 ⟨vb, d, g', rfl, h4⟩
  have a0 := (hH3.out.below h4.since hH3.out.lt).cell 0
  have a1 := (hH3.out.below h4.since hH3.out.lt).cell 1
  have a2 := (hH3.out.below h4.since hH3.out.lt).cell 2
  have a3 := (hH3.out.below h4.since hH3.out.lt).cell 3
  simp only [List.getElem?_cons_zero, List.getElem?_cons_succ] at a0 a1 a2 a3
  have hcr : Hid (Calls Tryd.prog 12 #[.pointer (some ⟨vb, 0, none⟩), .int .i64 1, .agg #[.int .i64 (a : Int), .int .u32 (g : Int), .int .u32 (s : Int), .int .i64 (b : Int)]] w4 fun e w' => ∃ sb, e = .returned (.tuple #[.pointer (some ⟨sb, 0, none⟩), .int .i64 0]) ∧
      SegM w3 vb d g' sb 1 a g s b [] (putP blankS s 1 0 (fun i => B (pcL (headerL a g s b) i)) 1) w') := Lib.hid (seg_made h4 (by decide) (hTw.out _ hB3.out) ha1 ha hg hs hb)
  clear h4
  go_wp2_with fail
  refine hcr.out.mono ?_
  rintro _ w5 ⟨sb, rfl, h5⟩
  clear a0 a1 a2 a3 hcr
  replace h5 := Lib.hid h5
  have hstep : Hid (∀ (k : Int) (p : ByteArray) (fs : List (Int × ByteArray)) (X : List ByteArray) (W : World), SegM w3 vb d g' sb 1 a g s b fs X W → p.size ≤ 1000 → Calls Tryd.prog 17 #[.pointer (some ⟨sb, 0, none⟩), .agg #[.int .i64 k, .string p]] W fun e w' => ∃ p1 p2 fs' X', e = .returned (.tuple #[.int .i64 p1, .int .i64 p2]) ∧ SegM w3 vb d g' sb 1 a g s b fs' X' w') := Lib.hid (fun k p fs X W h hp => by
    refine (seg_step k p h (by decide) hs hp).mono ?_
    rintro e w' ⟨r1, r2⟩
    exact ⟨_, _, _, _, r1, r2⟩)
  go_wp2_with fail
  go_loopg [33] len (fun ga i wr => ∃ k : Nat, ∃ fs X, k ≤ len ∧ len ≤ k + ga ∧ i = .int .i64 k ∧ Hid (SegM w3 vb d g' sb 1 a g s b fs X wr))
  case atStart => exact ⟨0, _, _, by omega, by omega, rfl, h5⟩
  case round =>
    clear h5
    obtain ⟨k, fs, X, hk, hgk, rfl, hrow⟩ := hrel
    generalize wr = wo at *
    have hBo := Lib.hid (hB3.out.trans (hrow.out.since.mono hB3.out.size))
    by_cases hlt : k < len
    · obtain ⟨⟨fk, fp⟩, hf⟩ : ∃ f, xs[k]? = some f := ⟨_, List.getElem?_eq_getElem (by omega)⟩
      obtain ⟨b1, o1, rfl, l1, c0, c1⟩ := hat.out _ hBo.out k _ hf
      have hp900 := hsz.out _ (List.mem_of_getElem? hf)
      obtain ⟨V, hV⟩ : ∃ V, Hid (V = wo.alloc (.cells #[.int .i64 fk, .string fp] 45)) := ⟨_, Lib.hid rfl⟩
      have hbV : Below wo.heap.size wo V := by rw [hV.out]; exact allocBelow wo _
      have hXV : Whole V wo.heap.size 45 [.int .i64 fk, .string fp] := by rw [hV.out]; exact Whole.new wo _ _
      have hap := Lib.hid (hstep.out fk fp fs X V (hrow.out.below hbV) (by simp only at hp900; omega))
      have d0 : V.cell? ⟨wo.heap.size, 0, none⟩ = some (.int .i64 fk) := hXV.cell 0
      have d1 : V.cell? ⟨wo.heap.size, 1, none⟩ = some (.string fp) := hXV.cell 1
      clear hXV hbV hf l1 hrow hBo
      go_upto_region 8 with fail
      rw [← show V = _ from hV.out]
      clear hV c0 c1
      go_wp2_with fail
      refine hap.out.mono ?_
      rintro _ w6 ⟨p1, p2, fs', X', rfl, h6⟩
      replace h6 := Lib.hid h6
      clear hap d0 d1
      go_wp2_with fail
      go_roundg (gk - 1)
      case measure => omega
      case rel => exact ⟨k + 1, fs', X', by omega, by omega, by go_num, h6⟩
    · obtain rfl : k = len := by omega
      have hld : Hid (Calls Tryd.prog 30 #[.pointer (some ⟨vb, 0, none⟩), .int .i64 1] wo fun e w' => ∃ tb, e = .returned (.tuple #[.pointer (some ⟨tb, 0, none⟩), .int .i64 0]) ∧ Below wo.heap.size wo w' ∧ SgV wo tb vb 1 a g s b fs (plc fs) true w') := Lib.hid (seg_load hrow.out (by decide) (hTw.out _ hB3.out) ha1 ha hg hs hb)
      go_wp2_with fail
      refine hld.out.mono ?_
      rintro _ w6 ⟨tb, rfl, hb6, t6⟩
      have h6 := hrow.out.below hb6
      obtain ⟨ws, v1, s1, v3, v4, v5, v6⟩ := id h6
      have hfl := plc_len fs
      have hfit := v5.fits
      have hfok : ∀ f ∈ fs, (Lit.int .i64 f.1).wf = true ∧ f.2.size ≤ maxLen := fun f hf => wf_frame (v5.ok f hf)
      obtain ⟨fa, fc, s6, _⟩ := s1
      obtain ⟨ta, tc, t6, _⟩ := t6
      obtain ⟨P, hP⟩ : ∃ P, Hid (plc fs = P) := ⟨_, Lib.hid rfl⟩
      rw [hP.out] at s6 t6
      obtain ⟨nf, hnf⟩ : ∃ nf, Hid (fs.length = nf) := ⟨_, Lib.hid rfl⟩
      have hD : Below w6.heap.size w6 w6.drew := drewBelow w6
      have hFs : Hid (∀ W, Below w6.heap.size w6 W → Calls Tryd.prog 25 #[.pointer (some ⟨sb, 0, none⟩)] W fun e w' => ∃ va' c', e = .returned (.slice va' nf c') ∧ FrAt w' va' fs ∧ Below W.heap.size W w') := Lib.hid (fun W hb => by
        refine (frames_any (s6.below hb) (by omega)).mono ?_
        rintro e w' ⟨va', c', q1, q2, q3⟩
        rw [hnf.out] at q1
        exact ⟨va', c', q1, frAt_own q2 rfl, q3⟩)
      have hFt : Hid (∀ W, Below w6.heap.size w6 W → Calls Tryd.prog 25 #[.pointer (some ⟨tb, 0, none⟩)] W fun e w' => ∃ va' c', e = .returned (.slice va' nf c') ∧ FrAt w' va' fs ∧ Below W.heap.size W w') := Lib.hid (fun W hb => by
        refine (frames_any (t6.below hb) (by omega)).mono ?_
        rintro e w' ⟨va', c', q1, q2, q3⟩
        rw [hnf.out] at q1
        exact ⟨va', c', q1, frAt_own q2 rfl, q3⟩)
      have hSm : Hid (∀ (v1 v2 : Option Addr) (c1 c2 : Nat) (W : World), FrAt W v1 fs → FrAt W v2 fs → Calls Tryd.prog 24 #[.slice v1 nf c1, .slice v2 nf c2] W fun e w' => e = .returned (.bool true) ∧ Below W.heap.size W w') := Lib.hid (fun v1 v2 c1 c2 W q1 q2 => same_frames v1 v2 nf c1 c2 fs W q1 q2 hnf.out (by have := hnf.out; omega) hfok)
      have hHt : Hid (∀ W, Below w6.heap.size w6 W → Calls Tryd.prog 26 #[.pointer (some ⟨tb, 0, none⟩)] W fun e w' => e = .returned (.agg #[.int .i64 (a : Int), .int .u32 (g : Int), .int .u32 (s : Int), .int .i64 (b : Int)]) ∧ Below W.heap.size W w') := Lib.hid (fun W hb => header_any (t6.below hb).obj)
      have hEs : Hid (∀ W, Below w6.heap.size w6 W → Calls Tryd.prog 20 #[.pointer (some ⟨sb, 0, none⟩)] W fun e w' => e = .returned (.int .i64 (P : Int)) ∧ W = w') := Lib.hid (fun W hb => end_any sb P W ((s6.below hb).obj.cell 7))
      have hEt : Hid (∀ W, Below w6.heap.size w6 W → Calls Tryd.prog 20 #[.pointer (some ⟨tb, 0, none⟩)] W fun e w' => e = .returned (.int .i64 (P : Int)) ∧ W = w') := Lib.hid (fun W hb => end_any tb P W ((t6.below hb).obj.cell 7))
      have hB6 : Below w3.heap.size w3 w6 := h6.since
      have hHW : ∀ W, Below w6.heap.size w6 W → Whole W w.heap.size 24 (hdr a g s b) := fun W hb => hHk.out W (hb3w.out.trans ((hB6.trans (hb.mono hB6.size)).mono hb3w.out.size))
      have r0 : ∀ W, Below w6.heap.size w6 W → W.cell? ⟨w.heap.size, 0, none⟩ = some (.int .i64 (a : Int)) := fun W hb => (hHW W hb).cell 0
      have r1 : ∀ W, Below w6.heap.size w6 W → W.cell? ⟨w.heap.size, 1, none⟩ = some (.int .u32 (g : Int)) := fun W hb => (hHW W hb).cell 1
      have r2 : ∀ W, Below w6.heap.size w6 W → W.cell? ⟨w.heap.size, 2, none⟩ = some (.int .u32 (s : Int)) := fun W hb => (hHW W hb).cell 2
      have r3 : ∀ W, Below w6.heap.size w6 W → W.cell? ⟨w.heap.size, 3, none⟩ = some (.int .i64 (b : Int)) := fun W hb => (hHW W hb).cell 3
      replace h6 := Lib.hid h6
      have hPP : ((P : Int) != (P : Int)) = false := by simp
      clear hrow hBo v1 v3 v4 v5 v6 s6 t6 hld hfok hb6 hHW hB6
      go_wp2_with fail
      go_region_held3 (fun w' => Below w6.heap.size w6 w') (first | assumption | (go_keep)) (first
        | (go_at_call 25; (with_reducible refine (hFs.out _ (by assumption)).mono ?_); rintro _ w7 ⟨va7, c7, rfl, hf7, hb7⟩; have hk7 : Below w6.heap.size w6 w7 := grew (by assumption) hb7; (try have hf8' := hf8.below hb7))
        | (go_at_call 25; (with_reducible refine (hFt.out _ (by assumption)).mono ?_); rintro _ w8 ⟨va8, c8, rfl, hf8, hb8⟩; have hk8 : Below w6.heap.size w6 w8 := grew (by assumption) hb8; (try have hf7' := hf7.below hb8))
        | (go_at_call 24; (with_reducible refine (hSm.out _ _ _ _ _ (by first | exact hf7' | exact hf7) (by first | exact hf8' | exact hf8)).mono ?_); rintro _ w9 ⟨rfl, hb9⟩; have hk9 : Below w6.heap.size w6 w9 := grew (by assumption) hb9)
        | (go_at_call 26; (with_reducible refine (hHt.out _ (by assumption)).mono ?_); rintro _ w10 ⟨rfl, hb10⟩; have hk10 : Below w6.heap.size w6 w10 := grew (by assumption) hb10)
        | (go_at_call 20; (with_reducible refine (hEs.out _ (by assumption)).mono ?_); rintro _ w11 ⟨rfl, rfl⟩)
        | (go_at_call 20; (with_reducible refine (hEt.out _ (by assumption)).mono ?_); rintro _ w11 ⟨rfl, rfl⟩))
      all_goals
        have h10 := h6.out.below hk10
        have hwi : Hid (Calls Tryd.prog 35 #[.pointer (some ⟨vb, 0, none⟩), .int .i64 1] w10 fun e w' => e = .returned (.int .i64 0) ∧ WipedM w3 vb d g' 1 w') := Lib.hid (seg_wipe h10 (by decide))
        clear h10 r0 r1 r2 r3
        go_wp2_with fail
        refine hwi.out.mono ?_
        rintro _ w12 ⟨rfl, h12⟩
        have hwl : Hid (Calls Tryd.prog 30 #[.pointer (some ⟨vb, 0, none⟩), .int .i64 1] w12 fun e w' => e = .returned (.tuple #[.pointer none, .int .i64 4]) ∧ Below w12.heap.size w12 w') := Lib.hid (wiped_load h12 (by decide) (hTw.out _ hB3.out))
        replace h12 := Lib.hid h12
        go_wp2_with fail
        refine hwl.out.mono ?_
        rintro _ w13 ⟨rfl, hb13⟩
        have h13 := h12.out.below hb13
        have hwo := Lib.hid (wiped_out h13 2 (by decide))
        have hB13 := Lib.hid (hB3.out.trans (h13.since.mono hB3.out.size))
        clear h13 hb13 h12 hwl hwi
        go_wp2_with fail
        refine hwo.out.mono ?_
        rintro _ w14 ⟨rfl, rfl⟩
        go_wp2_with fail
        refine (hput.out _ hB13.out).mono ?_
        rintro _ w15 ⟨rfl, hb15⟩
        go_wp2_with fail
        go_ret
        exact ⟨rfl, grew hB13.out hb15⟩
set_option maxRecDepth 100000 in
set_option maxHeartbeats 4000000 in
/-- Of what is not gone through. -/
theorem walkOut (a g s b : Int) (va : Option Addr) (len cap : Nat) (xs : List (Int × ByteArray)) (w : World) (hT : Wide w) (hx : FrIn w va len xs) (hno : bigF xs = true ∨ (bigF xs = false ∧ okH a b = false)) :
    Calls Tryd.prog 6 #[.agg #[.int .i64 a, .int .u32 g, .int .u32 s, .int .i64 b], .slice va len cap] w fun e w' => e = .returned (.bool true) ∧ Below w.heap.size w w' := by
  obtain ⟨W, hW⟩ : ∃ W, Hid (W = w.alloc (.cells (hdr a g s b).toArray 24)) := ⟨_, Lib.hid rfl⟩
  have hbW : Below w.heap.size w W := by rw [hW.out]; exact allocBelow w _
  have hH : Whole W w.heap.size 24 (hdr a g s b) := by rw [hW.out]; exact Whole.new w _ _
  have hla := fun (W' : World) (hb : Below w.heap.size w W') => large13_any va len cap xs W' ⟨hx.len, hx.at_.below hb, hx.ok⟩
  have hput := Lib.hid (fun W' (hb : Below w.heap.size w W') => put13_any W' (hT.below hb))
  have hmay := fun W => rmayH_any a g s b W
  replace hbW := Lib.hid hbW
  rcases hno with h | ⟨h, h2⟩
  · rw [h] at hla
    replace hla := Lib.hid hla
    clear hx hH hmay
    go_enter Tryd.func6, Tryd.ntmps6
    go_upto_region 1 with fail
    rw [← show W = _ from hW.out]
    clear hW
    go_wp2_with fail
    refine (hla.out _ hbW.out).mono ?_
    rintro _ w1 ⟨rfl, hb1⟩
    have hB1 := Lib.hid (grew hbW.out hb1)
    go_wp2_with fail
    refine (hput.out _ hB1.out).mono ?_
    rintro _ w2 ⟨rfl, hb2⟩
    go_wp2_with fail
    go_ret
    exact ⟨rfl, grew hB1.out hb2⟩
  · rw [h] at hla
    rw [h2] at hmay
    replace hla := Lib.hid hla
    replace hmay := Lib.hid hmay
    clear hx
    go_enter Tryd.func6, Tryd.ntmps6
    go_upto_region 1 with fail
    rw [← show W = _ from hW.out]
    clear hW
    go_wp2_with fail
    refine (hla.out _ hbW.out).mono ?_
    rintro _ w1 ⟨rfl, hb1⟩
    have hH1 := hH.below hb1 hH.lt
    have a0 := hH1.cell 0
    have a1 := hH1.cell 1
    have a2 := hH1.cell 2
    have a3 := hH1.cell 3
    simp only [List.getElem?_cons_zero, List.getElem?_cons_succ] at a0 a1 a2 a3
    have hB1 := Lib.hid (grew hbW.out hb1)
    clear hH hH1 hb1
    go_wp2_with fail
    refine (ref13_any a g s b _).mono ?_
    rintro _ w2 ⟨rfl, hb2⟩
    have hB2 := Lib.hid (grew hB1.out hb2)
    clear a0 a1 a2 a3 hb2 hB1
    go_wp2_with fail
    refine (hmay.out _).mono ?_
    rintro _ w3 ⟨rfl, hb3⟩
    have hB3 := Lib.hid (grew hB2.out hb3)
    go_wp2_with fail
    refine (hput.out _ hB3.out).mono ?_
    rintro _ w4 ⟨rfl, hb4⟩
    go_wp2_with fail
    go_ret
    exact ⟨rfl, grew hB3.out hb4⟩
theorem walk (a g s b : Int) (va : Option Addr) (len cap : Nat) (xs : List (Int × ByteArray)) (w : World) (hT : Wide w) (_ : (Lit.int .i64 a).wf = true) (hg : (Lit.int .u32 g).wf = true) (hs : (Lit.int .u32 s).wf = true) (_ : (Lit.int .i64 b).wf = true) (hx : FrIn w va len xs) :
    Calls Tryd.prog 6 #[.agg #[.int .i64 a, .int .u32 g, .int .u32 s, .int .i64 b], .slice va len cap] w fun e w' => e = .returned (.bool true) ∧ Below w.heap.size w w' := by
  cases hbig : bigF xs with
  | true => exact walkOut a g s b va len cap xs w hT hx (.inl hbig)
  | false =>
    cases hok : okH a b with
    | false => exact walkOut a g s b va len cap xs w hT hx (.inr ⟨hbig, hok⟩)
    | true =>
      obtain ⟨h1, h2, h3, h4⟩ := okH_true hok
      obtain ⟨g1, g2⟩ := lit_u32 hg
      obtain ⟨s1, s2⟩ := lit_u32 hs
      obtain ⟨a', rfl⟩ := lit_nat (a := a) (by omega)
      obtain ⟨b', rfl⟩ := lit_nat h3
      obtain ⟨g', rfl⟩ := lit_nat g1
      obtain ⟨s', rfl⟩ := lit_nat s1
      exact walkIn a' g' s' b' va len cap xs w hT (by omega) (by omega) (by omega) (by omega) (by omega) hx hbig

theorem own : ownKnob Tryd.prog.godebug = none := by kernel_rfl
theorem laidOut : laidOutB Tryd.prog = true := by kernel_rfl
theorem gW : Tryd.prog.globalNamed "weighlock/header.widths" = some 0 := by kernel_rfl
theorem gWType : (Tryd.prog.globals[0]?).map (·.type) = some 200 := by kernel_rfl
theorem cellsW4 : Tryd.prog.cellsOf 200 = 4 := by kernel_rfl
theorem cellsW1 : Tryd.prog.cellsOf 3 = 1 := by kernel_rfl
/-- What the row's list gives: the table's numbers. -/
theorem table {W : World} (h : laidMetH Tryd.prog Rows.segmentBackRow.laid W) : Lib.TabIs Tryd.prog W "weighlock/header.widths" .i64 [2, 4, 4, 8] :=
  Lib.tabIs_of_head (rest := []) gW gWType Tryd.underlying200 Tryd.underlying3 cellsW1 cellsW4 h

set_option maxRecDepth 100000 in
theorem contract (H : Type) (enc : TypeId × Value → H) (W : World) (base : Nat) (args : Array Value) (ds gs : List (DataW H)) (before : List MemPlace)
    (hval : ∀ (j : Nat) t v, Tryd.f6.params[j]? = some t → args[j]? = some v → Value.okWide Tryd.prog W .any base t v)
    (hW : DataW.Whole enc Tryd.prog Tryd.f6.params.toList Rows.segmentBackSpec.vars false W args.toList ds gs before) (hL : laidMetH Tryd.prog Rows.segmentBackRow.laid W) :
    Calls Tryd.prog 6 args W fun e W' => ∃ v, e = .returned v ∧ Rows.segmentBackSpec.post enc Tryd.prog Tryd.f6 false true false false W args v W' := by
  have hTb : Wide W := fun i hi => by
    match i, hi with
    | 0, _ => exact (table hL).cell gW 0 (by decide)
    | 1, _ => exact (table hL).cell gW 1 (by decide)
    | 2, _ => exact (table hL).cell gW 2 (by decide)
    | 3, _ => exact (table hL).cell gW 3 (by decide)
  have hW' := hW
  obtain ⟨p, q, hA0, hV, rfl, hfz, hnd⟩ := hW
  have hA : DataW.TrodAll enc Tryd.prog W 0 (fun _ => true) true Tryd.f6.params.toList args.toList ds p := hA0
  rw [Tryd.params6] at hA hval
  obtain ⟨v0, vs0, d0, ds0, p0, q0, hargs, rfl, rfl, h0, r0⟩ := trodAll_cons hA
  obtain ⟨v1, vs1, d1, ds1, p1, q1, rfl, rfl, rfl, h1, r1⟩ := trodAll_cons r0
  obtain ⟨rfl, rfl, rfl⟩ := trodAll_nil r1
  obtain rfl : args = #[v0, v1] := by cases args; simp_all
  obtain ⟨rfl, rfl⟩ := trodVars_none hV
  have k0 := h0
  have lt0 : ∀ x ∈ p0, x.block < W.heap.size := by obtain ⟨m, hm⟩ := k0; exact DataW.trod_lt m _ _ _ hm
  obtain ⟨ha0, hg0, hs0, hb0, rfl, wha0, whg0, whs0, whb0⟩ := M.open_hd4 (hval 0 24 v0 rfl rfl) h0
  obtain ⟨a1, len1, cap1, rfl⟩ := okWide_slice Tryd.underlying25 (hval 1 25 v1 rfl rfl)
  have k1 := h1
  have lt1 : ∀ x ∈ p1, x.block < W.heap.size := by obtain ⟨m, hm⟩ := k1; exact DataW.trod_lt m _ _ _ hm
  obtain ⟨fu1, hf1⟩ := h1
  obtain ⟨z1, w1⟩ := open_frames (show DataW.trod enc Tryd.prog W 0 (fun _ => true) true fu1 25 [.slice a1 len1 cap1] = some _ from hf1)
  clear hA0
  refine (walk ha0 hg0 hs0 hb0 a1 len1 cap1 z1 W hTb wha0 whg0 whs0 whb0 w1).mono fun e W' ⟨he, bel⟩ => ?_
  subst he
  exact ⟨_, rfl, _, _, _, [], _, [], hW', trodAll_mk1 (shut_bool Tryd.underlying4 _), (trodAll_cons_mk (Below.trod laidOut (by kernel_rfl) (of_decide_eq_true (by kernel_rfl)) k0 bel lt0) (trodAll_cons_mk (Below.trod laidOut (by kernel_rfl) (of_decide_eq_true (by kernel_rfl)) k1 bel lt1) trodAll_mk0)), rfl, bel.frame _, fun h => by cases h⟩

/-- A world for the witness: the settled one, the table as its initialiser lays it. -/
noncomputable def laidWorld (os : Os) : World :=
  { World.holding Tryd.prog os ⟨#[], #[], []⟩ with heap := (World.holding Tryd.prog os ⟨#[], #[], []⟩).heap.modify 0 fun
      | .cells _ t frozen => .cells #[.int .i64 2, .int .i64 4, .int .i64 4, .int .i64 8] t frozen
      | o => o }
theorem laid_met (os : Os) : laidMet Tryd.prog Rows.segmentBackRow.laid ((laidWorld os).forCall (fun _ _ => 0) ⟨#[], #[.agg #[.int .i64 0, .int .u32 0, .int .u32 0, .int .i64 0], .slice none 0 0], []⟩).memory :=
  laidMet_of_run' 8 (by kernel_rfl) (by kernel_rfl)
theorem reads (os : Os) {H : Type} (enc : TypeId × Value → H) : ∃ places, DataW.whole enc Tryd.prog ((laidWorld os).forCall (fun _ _ => 0) ⟨#[], #[.agg #[.int .i64 0, .int .u32 0, .int .u32 0, .int .i64 0], .slice none 0 0], []⟩).memory Tryd.f6.params.toList Rows.segmentBackSpec.vars false (#[.agg #[.int .i64 0, .int .u32 0, .int .u32 0, .int .i64 0], .slice none 0 0] : Array Value).toList 8 = some ([.agg [.lit (.int .i64 0), .lit (.int .u32 0), .lit (.int .u32 0), .lit (.int .i64 0)], .nil], [], places) :=
  ⟨[], by kernel_rfl⟩
set_option maxRecDepth 100000 in
theorem lifted (os : Os) (started : os.Started) (H : Type) (enc : TypeId × Value → H) (F : Stop.Interp) :
    ReturnsInHanded {} Tryd.checked os 6 .any ((OpenSpec.ofChange Rows.segmentBackSpec).preRow enc Tryd.prog Tryd.f6 Rows.segmentBackRow.domain false Rows.segmentBackRow.laid) (((OpenSpec.ofChange Rows.segmentBackSpec).at F).post enc Tryd.prog Tryd.f6 false true false false) := by
  obtain ⟨places, hx⟩ := reads os enc
  refine returnsInHanded_of_row (C := Tryd.checked) (s := OpenSpec.ofChange Rows.segmentBackSpec) own started (by kernel_rfl) Tryd.func6
    (witness_row_at (enc := enc) (C := Tryd.checked) false (laidWorld os) #[.agg #[.int .i64 0, .int .u32 0, .int .u32 0, .int .i64 0], .slice none 0 0] rfl (by kernel_rfl) (by kernel_rfl) (by kernel_rfl)
      (OpenSpec.preRow_of_cond 8 hx (by kernel_rfl) (fun k hk => by cases hk) (by kernel_rfl) (laid_met os))) ?_
  intro W base args ds gs before hval hW _ _ _ hL _ _
  exact contract H enc W base args ds gs before hval hW hL
theorem over : Rows.segmentBackRow.holds Tryd.pinned (OpenSpec.ofChange Rows.segmentBackSpec) :=
  OpenClaim.holds_of_cond 6 Tryd.f6 rfl rfl rfl rfl rfl rfl rfl ⟨rfl, rfl, rfl, rfl, rfl⟩ rfl rfl rfl rfl rfl (by kernel_rfl) Tryd.func6 (by kernel_rfl)
    (of_decide_eq_true (by kernel_rfl)) (by unfold Func.isWrapper; first | (rw [if_pos (by decide +kernel)]; kernel_rfl) | (rw [if_neg (by decide +kernel)]; exact ⟨rfl, rfl⟩))
    (fun os started H enc _ F => by rw [OpenClaim.pre_eq_preRow]; exact lifted os started H enc F)
theorem allPlain : (Tryd.f6.params.toList.all fun u => !(Tryd.prog.wantsStandIn u)) = true := by kernel_rfl
/-- No parameter wants a stand-in; the program's own looks are off. -/
theorem plain (f : FuncId) (fn : Func) (hf : Tryd.pinned.checked.prog.funcNamed "weighlock/weighlocklaw13.SegmentBack" = some f) (hfn : Tryd.pinned.checked.prog.funcs[f]? = some fn) :
    false = Tryd.pinned.checked.prog.looks [] ∧ ∀ (j : Nat) t, fn.params[j]? = some t → Tryd.pinned.checked.prog.wantsStandIn t = false := by
  obtain rfl : f = 6 := Option.some.inj ((show Tryd.prog.funcNamed "weighlock/weighlocklaw13.SegmentBack" = some 6 by kernel_rfl).symm.trans hf) |>.symm
  obtain rfl : fn = Tryd.f6 := (Option.some.inj (Tryd.func6.symm.trans hfn)).symm
  refine ⟨by kernel_rfl, fun j t ht => ?_⟩
  have h := List.all_eq_true.1 allPlain t (Array.mem_toList_iff.2 (Array.mem_of_getElem? ht))
  have h2 : Tryd.prog.wantsStandIn t = false := by simpa using h
  exact h2

/-- The statement: the tied card. -/
theorem proved : Rows.SegmentBackCardSaid :=
  Claim7.holds_tied_plain_at .later [] _ _ _ _ over (fun _ h => by cases h) (by kernel_rfl) (fun _ h => by cases h) segmentBack_row_tie rfl ⟨rfl, rfl⟩ (by kernel_rfl) rfl plain (by kernel_rfl)
#print axioms proved

end Go.Proofs.YtlgoepbfdldgnaaDoor.segmentBack
