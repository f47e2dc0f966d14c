/- For every header, every list of frames and every list of turns the law SegmentLoads returns true: what is loaded of any sectors, those of a segment some of which are turned. The package variable header.widths starts as the program's text lays it (the card ties it). No other condition. -/
import Derived.Test.YtlgoepbfdldgnaaDoorCards
import Derived.Test.YtlgoepbfdldgnaaDoorTie
import Derived.Test.YtlgoepbfdldgnaaDoorLdB
import Derived.Test.YtlgoepbfdldgnaaDoorSegLoop
import Derived.Test.YtlgoepbfdldgnaaDoorSegQ
import Derived.WalkKit
import Derived.ProofKit
import Derived.OpenShut
import Derived.ChangeOld
import Derived.Deep.DeepHandedRow
import Derived.Deep.Cut
import Derived.Deep.CutRange
import Derived.Lib.LaidTab
namespace Go.Proofs.YtlgoepbfdldgnaaDoor.segmentLoads
open Go.ChangeShapes Go.WideShapes Go.ChangeAt Go.RowKit Go.Sort
open Go.Proofs.YtlgoepbfdldgnaaDoor.M Go.Proofs.YtlgoepbfdldgnaaDoor.Z
open Go.Proofs.YtlgoepbfdldgnaaDoor.W Go.Proofs.YtlgoepbfdldgnaaDoor.D
set_option linter.unusedVariables false

/-- The definition's segment, made of frames, in its variable. -/
def LdM (w0 : World) (yb a g s b : Nat) (fs : List (Int × ByteArray)) (X : List ByteArray) (la : Option Addr) (lc : Nat) (K : List (Nat × TypeId × List Value)) (W : World) : Prop :=
  RowB la lc fs K ∧ LayB X s fs ∧ Sec64 X ∧ Whole W yb 41 (mkM a g s b la fs.length lc (plc fs) (rowS X)) ∧ (∀ x ∈ K, Whole W x.1 x.2.1 x.2.2) ∧ Below w0.heap.size w0 W
theorem LdM.below {w0 W W' : World} {yb a g s b : Nat} {fs : List (Int × ByteArray)} {X : List ByteArray} {la : Option Addr} {lc : Nat} {K : List (Nat × TypeId × List Value)} (h : LdM w0 yb a g s b fs X la lc K W) (hb : Below W.heap.size W W') : LdM w0 yb a g s b fs X la lc K W' := by
  obtain ⟨h1, h2, h3, h4, h5, h6⟩ := h
  exact ⟨h1, h2, h3, h4.below hb h4.lt, fun x hx => (h5 x hx).below hb (h5 x hx).lt, grew h6 hb⟩
theorem LdM.lay {w0 W : World} {yb a g s b : Nat} {fs : List (Int × ByteArray)} {X : List ByteArray} {la : Option Addr} {lc : Nat} {K : List (Nat × TypeId × List Value)} (h : LdM w0 yb a g s b fs X la lc K W) : LayB X s fs := h.2.1
theorem apd_lay {X : List ByteArray} {s : Nat} {fs : List (Int × ByteArray)} {f : Int × ByteArray} (h : LayB X s fs) : LayB (apdX X s fs f) s (apd fs f).1 := by
  unfold apd apdX
  split
  · exact h
  · split
    · exact h
    · rename_i h1 h2
      obtain ⟨z1, z2, z3, z4, z5⟩ := wrong_zero (Classical.byContradiction h1)
      exact h.add ⟨z1, z2, z5⟩ (by omega)
theorem frF_ok (d : ByteArray) : (Lit.int .i64 (frF d).1).wf = true ∧ (frF d).2.size ≤ maxLen := by
  have h1 := bt_lt d.data.toList 6
  have h2 := toldF_lt d
  refine ⟨wf_i64 (by unfold frF; simp only; omega) (by unfold frF; simp only; omega), ?_⟩
  unfold frF maxLen
  simp
  omega
theorem loadF_ok (x : List ByteArray) (st : Nat) : ∀ (f e : Nat) (l : List (Int × ByteArray)), (∀ q ∈ l, (Lit.int .i64 q.1).wf = true ∧ q.2.size ≤ maxLen) → (∀ q ∈ (loadF x st f e l).1, (Lit.int .i64 q.1).wf = true ∧ q.2.size ≤ maxLen) ∧ (loadF x st f e l).1.length ≤ l.length + f
  | 0, e, l, h => ⟨h, Nat.le_refl _⟩
  | f + 1, e, l, h => by
    unfold loadF
    split
    · obtain ⟨h1, h2⟩ := loadF_ok x st f (e + (6 + toldF (runS x st (l.length + 2) e) + 51) / 52) (l ++ [frF (runS x st (l.length + 2) e)]) (fun q hq => by
        rcases List.mem_append.1 hq with k | k
        · exact h q k
        · obtain rfl := List.mem_singleton.1 k
          exact frF_ok _)
      refine ⟨h1, ?_⟩
      rw [List.length_append, List.length_singleton] at h2
      omega
    · exact ⟨h, Nat.le_add_right _ _⟩
theorem own_slice {W : World} {B n : Nat} {e : TypeId} {sz : Nat} {v : Value} {xs : List Value} (h : W.ownsRow B e sz v n xs) : ∃ la lc, v = .slice la n lc := by
  rcases h.2 with ⟨e1, h1⟩ | ⟨q, cap, cur, e1, _⟩
  · exact ⟨none, 0, by rw [e1, h1]⟩
  · exact ⟨_, _, e1⟩
attribute [local go_sem ↓] store_madeC in
set_option maxRecDepth 100000 in
set_option maxHeartbeats 4000000 in
/-- Of what is gone through. -/
theorem walkIn (a g s b : Nat) (va : Option Addr) (len cap : Nat) (xs : List (Int × ByteArray)) (vt : Option Addr) (nt ct : Nat) (w : World) (hT : Wide w) (ha1 : 1 ≤ a) (ha : a < 65536) (hg : g < 4294967296) (hs : s < 4294967296) (hb : b ≤ 1099511627776) (hx : FrIn w va len xs) (hbig : bigF xs = false) (ht : TurnIn w vt nt) (hnt : nt ≤ 30) :
    Calls Tryd.prog 4 #[.agg #[.int .i64 (a : Int), .int .u32 (g : Int), .int .u32 (s : Int), .int .i64 (b : Int)], .slice va len cap, .slice vt nt ct] w fun e w' => e = .returned (.bool true) ∧ Below w.heap.size w w' := by
  obtain ⟨W, hW⟩ : ∃ W, Hid (W = w.alloc (.cells (hdr a g s b).toArray 24)) := ⟨_, Lib.hid rfl⟩
  have hbW : Below w.heap.size w W := by rw [hW.out]; exact allocBelow w _
  have hH : Whole W w.heap.size 24 (hdr a g s b) := by rw [hW.out]; exact Whole.new w _ _
  have hok : okH (a : Int) (b : Int) = true := okH_yes a b ha1 ha hb
  have hmay := fun W => rmayH_any (a : Int) g s b W
  rw [hok] at hmay
  have hla := fun (W' : World) (hb : Below w.heap.size w W') => large13_any va len cap xs W' ⟨hx.len, hx.at_.below hb, hx.ok⟩
  rw [hbig] at hla
  obtain ⟨hl40, hsz⟩ := bigF_no hbig
  have hHk : Hid (∀ W', Below W.heap.size W W' → Whole W' w.heap.size 24 (hdr a g s b)) := Lib.hid (fun W' hb => hH.below hb hH.lt)
  have hput := Lib.hid (fun W' (hb : Below w.heap.size w W') => put13_any W' (hT.below hb))
  have hat := Lib.hid (fun W' (hb : Below w.heap.size w W') => hx.at_.below hb)
  have htn := Lib.hid (fun W' (hb : Below w.heap.size w W') => ht.below hb)
  have hlen := hx.len
  have hTw := Lib.hid (fun W' (hb : Below w.heap.size w W') => hT.below hb)
  replace hmay := Lib.hid hmay
  replace hla := Lib.hid hla
  replace hsz := Lib.hid hsz
  replace hbW := Lib.hid hbW
  have hB0 := Lib.hid (hHk.out W (Below.refl _ _))
  have a0 := hB0.out.cell 0
  have a1 := hB0.out.cell 1
  have a2 := hB0.out.cell 2
  have a3 := hB0.out.cell 3
  simp only [List.getElem?_cons_zero, List.getElem?_cons_succ] at a0 a1 a2 a3
  have hnt2 : ((nt : Nat) : Int) ≤ 30 := by omega
  clear hH hx hT hok hbig hB0 ht
  go_enter Tryd.func4, Tryd.ntmps4
  go_upto_region 1 with fail
  rw [← show W = _ from hW.out]
  clear hW
  go_wp2_with fail
  refine (hla.out _ hbW.out).mono ?_
  rintro _ w1 ⟨rfl, hb1⟩
  have hH1 := hHk.out _ hb1
  clear a0 a1 a2 a3
  have a0 := hH1.cell 0
  have a1 := hH1.cell 1
  have a2 := hH1.cell 2
  have a3 := hH1.cell 3
  simp only [List.getElem?_cons_zero, List.getElem?_cons_succ] at a0 a1 a2 a3
  replace hH1 := Lib.hid hH1
  replace hb1 := Lib.hid hb1
  go_wp2_with fail
  refine (ref13_any (a : Int) g s b _).mono ?_
  rintro _ w2 ⟨rfl, hb2⟩
  replace hb2 := Lib.hid (grew hb1.out hb2)
  clear hb1 a0 a1 a2 a3 hH1
  go_wp2_with fail
  refine (hmay.out _).mono ?_
  rintro _ w5 ⟨rfl, hb3⟩
  have hb3w := Lib.hid (grew hb2.out hb3)
  have hB5 := Lib.hid (grew hbW.out hb3w.out)
  clear hb2 hb3
  obtain ⟨X0, hX0⟩ : ∃ X0, Hid (putP blankS s 1 0 (fun i => B (pcL (headerL a g s b) i)) 1 = X0) := ⟨_, Lib.hid rfl⟩
  have hL0 : LayB X0 s [] := by rw [← hX0.out]; exact LayB.zero s a g b
  have h640 : Sec64 X0 := by rw [← hX0.out]; exact Sec64.made a g s b
  have hX16 := hL0.len
  have hbk := Lib.hid (fun W => rblank_any W)
  have hrc : Hid (∀ W, Calls Tryd.prog 15 #[.agg (rowS blankS).toArray, .agg #[.int .i64 (a : Int), .int .u32 (g : Int), .int .u32 (s : Int), .int .i64 (b : Int)]] W fun e w' => e = .returned (.agg (mkM a g s b none 0 0 1 (rowS X0)).toArray) ∧ Below W.heap.size W w') := Lib.hid (fun W => by rw [← hX0.out]; exact rcreate_any blankS a g s b W rfl ha hg hs hb)
  obtain ⟨M0, hM0⟩ : ∃ M0, Hid (mkM a g s b none 0 0 1 (rowS X0) = M0) := ⟨_, Lib.hid rfl⟩
  have hM22 : M0.length = 22 := by rw [← hM0.out]; exact mkM_len _ _ _ _ _ _ _ _ _ (by rw [rowS_len, hX16])
  have hMone : oneCells (.agg M0.toArray) 22 := ⟨by simpa [Value.cells] using hM22, rfl, all_oneCell_toArray (by rw [← hM0.out]; exact mkM_one _ _ _ _ _ _ _ _ _ (rowS_one X0))⟩
  obtain ⟨BL, hBL⟩ : ∃ BL, Hid (rowS blankS = BL) := ⟨_, Lib.hid rfl⟩
  rw [hBL.out] at hbk hrc
  rw [hM0.out] at hrc
  have hV0 : Below w5.heap.size w5 w5 := Below.refl _ _
  have hV1 : Below w5.heap.size w5 w5.drew := (Below.refl _ _).drew
  have hHW : ∀ W, Below w5.heap.size w5 W → Whole W w.heap.size 24 (hdr a g s b) := fun W hb => hHk.out W (grew hb3w.out hb)
  have r0 : ∀ W, Below w5.heap.size w5 W → W.cell? ⟨w.heap.size, 0, none⟩ = some (.int .i64 (a : Int)) := fun W hb => (hHW W hb).cell 0
  have r1 : ∀ W, Below w5.heap.size w5 W → W.cell? ⟨w.heap.size, 1, none⟩ = some (.int .u32 (g : Int)) := fun W hb => (hHW W hb).cell 1
  have r2 : ∀ W, Below w5.heap.size w5 W → W.cell? ⟨w.heap.size, 2, none⟩ = some (.int .u32 (s : Int)) := fun W hb => (hHW W hb).cell 2
  have r3 : ∀ W, Below w5.heap.size w5 W → W.cell? ⟨w.heap.size, 3, none⟩ = some (.int .i64 (b : Int)) := fun W hb => (hHW W hb).cell 3
  have hrf := Lib.hid (fun W => ref13_any (a : Int) g s b W)
  have hrn := roomNew
  replace h640 := Lib.hid h640
  replace hL0 := Lib.hid hL0
  clear hHW hX0 hBL
  go_upto_region 3 with fail
  go_cut [7] from 34 to 37 (fun c wx => ∃ yb, c = .pointer (some ⟨yb, 0, none⟩) ∧ Hid (Whole wx yb 41 M0 ∧ Below w5.heap.size w5 wx ∧ w5.heap.size ≤ yb))
  case first =>
    go_region_held3 (fun w' => Below w5.heap.size w5 w') (first | assumption | exact keepN (by assumption) _ | exact keepLaid (by first | assumption | exact keepN (by assumption) _) (by first | exact Nat.le_refl _ | exact Below.size (by assumption)) _ | (go_keep)) (first
      | (go_at_call 16; (with_reducible refine (hbk.out _).mono ?_); rintro _ w6 ⟨rfl, hb6⟩; have hk6 : Below w5.heap.size w5 w6 := grew (by assumption) hb6; (try (first | (have hn6 := hn7.below hb6 hn7.lt) | (have hn6 := newMade hb6) | (have hn6 := newMadeD hb6))))
      | (go_at_call 14; (with_reducible refine (hrf.out _).mono ?_); rintro _ w7 ⟨rfl, hb7⟩; have hk7 : Below w5.heap.size w5 w7 := grew (by assumption) hb7; (try (first | (have hn7 := hn6.below hb7 hn6.lt) | (have hn7 := newMade hb7) | (have hn7 := newMadeD hb7))))
      | (go_at_call 15; (with_reducible refine (hrc.out _).mono ?_); rintro _ w8 ⟨rfl, hb8⟩; have hk8 : Below w5.heap.size w5 w8 := grew (by assumption) hb8; (try (first | (have hn8 := hn7.below hb8 hn7.lt) | (have hn8 := hn6.below hb8 hn6.lt) | (have hn8 := newMade hb8))); (try have hr8 := room22 hn8)))
    all_goals go_wp2_with fail
    all_goals go_meet
    all_goals first
      | exact ⟨_, rfl, Lib.hid ⟨laidWhole hn8 hM22, keepLaid hk8 (by first | exact Nat.le_refl _ | exact hk6.size | exact hk7.size) _, by first | exact Nat.le_refl _ | exact hk6.size | exact hk7.size⟩⟩
      | exact ⟨_, rfl, Lib.hid ⟨laidWhole (Whole.new w8 _ noMade) hM22, keepLaid (keepN hk8 _) hk8.size _, hk8.size⟩⟩
  case rest =>
    obtain ⟨yb, rfl, hc9⟩ := hcut
    have hwy := hc9.out.2.2
    have hS0 : Hid (LdM w5 yb a g s b ([] : List (Int × ByteArray)) X0 none 0 [] wc) := Lib.hid ⟨.inl ⟨rfl, rfl, rfl, rfl⟩, hL0.out, h640.out, by
      have h := hc9.out.1
      rw [← hM0.out] at h
      rw [plc_nil]
      exact h, fun x hx => by simp at hx, hc9.out.2.1⟩
    clear hc9 hV0 hV1 r0 r1 r2 r3 hrf hrn hbk hrc hMone hM22 hM0 hL0 h640
    go_wp2_with fail
    go_loopg [40] len (fun ga i wr => ∃ k : Nat, ∃ fs X la lc K, k ≤ len ∧ len ≤ k + ga ∧ i = .int .i64 k ∧ Hid (LdM w5 yb a g s b fs X la lc K wr))
    case atStart => exact ⟨0, [], X0, none, 0, [], by omega, by omega, rfl, hS0⟩
    case round =>
      clear hS0
      obtain ⟨k, fs, X, la, lc, K, hk, hgk, rfl, hrow⟩ := hrel
      generalize wr = wo at *
      have hBo := Lib.hid (grew hB5.out (hrow.out.2.2.2.2.2))
      by_cases hlt : k < len
      · obtain ⟨⟨fk, fp⟩, hf⟩ : ∃ f, xs[k]? = some f := ⟨_, List.getElem?_eq_getElem (by omega)⟩
        obtain ⟨b1, o1, rfl, l1, c0, c1⟩ := hat.out _ hBo.out k _ hf
        have hp900 : fp.size ≤ 900 := hsz.out _ (List.mem_of_getElem? hf)
        obtain ⟨V, hV⟩ : ∃ V, Hid (V = wo.alloc (.cells #[.int .i64 fk, .string fp] 45)) := ⟨_, Lib.hid rfl⟩
        have hbV : Below wo.heap.size wo V := by rw [hV.out]; exact allocBelow wo _
        have hXV : Whole V wo.heap.size 45 [.int .i64 fk, .string fp] := by rw [hV.out]; exact Whole.new wo _ _
        obtain ⟨ML, hML⟩ : ∃ ML, Hid (mkM a g s b la fs.length lc (plc fs) (rowS X) = ML) := ⟨_, Lib.hid rfl⟩
        obtain ⟨hR, hL, h64, hM, hK, hbo⟩ := hrow.out.below hbV
        have hM22 : ML.length = 22 := by rw [← hML.out]; exact mkM_len _ _ _ _ _ _ _ _ _ (by rw [rowS_len, hL.len])
        have hra0 := rapd_any a g s b la lc fs X fk fp K V hL (by omega) hs hR hK
        have hL' := apd_lay (f := (fk, fp)) hL
        have h64' := h64.apd (s := s) (fs := fs) (f := (fk, fp))
        rw [hML.out] at hra0 hM
        obtain ⟨fs', hfs⟩ : ∃ x, Hid ((apd fs (fk, fp)).1 = x) := ⟨_, Lib.hid rfl⟩
        obtain ⟨p1, hp1⟩ : ∃ x, Hid ((apd fs (fk, fp)).2.1 = x) := ⟨_, Lib.hid rfl⟩
        obtain ⟨p2, hp2⟩ : ∃ x, Hid ((apd fs (fk, fp)).2.2 = x) := ⟨_, Lib.hid rfl⟩
        obtain ⟨X', hX'⟩ : ∃ x, Hid (apdX X s fs (fk, fp) = x) := ⟨_, Lib.hid rfl⟩
        rw [hfs.out, hp1.out, hp2.out, hX'.out] at hra0
        rw [hfs.out, hX'.out] at hL'
        rw [hX'.out] at h64'
        have hra := Lib.hid hra0
        have d0 : V.cell? ⟨wo.heap.size, 0, none⟩ = some (.int .i64 fk) := hXV.cell 0
        have d1 : V.cell? ⟨wo.heap.size, 1, none⟩ = some (.string fp) := hXV.cell 1
        have hX'l : (rowS X').length = 16 := by rw [rowS_len, hL'.len]
        replace hM := Lib.hid hM
        replace hL' := Lib.hid hL'
        replace h64' := Lib.hid h64'
        replace hK := Lib.hid hK
        replace hR := Lib.hid hR
        replace hbo := Lib.hid hbo
        clear hXV hbV hf l1 hrow hBo hra0 hfs hp1 hp2 hX' hML hL h64
        go_upto_region 7 with fail
        rw [← show V = _ from hV.out]
        clear hV c0 c1
        go_wp2_with (with_reducible refine zLoad 41 _ rfl ?_)
        refine Lib.hid ?_
        refine wpList_load_mid rfl 41 _ rfl yb 0 rfl ML _ hM.out.range Tryd.underlying41 rfl (by rw [hM22]; exact sizeMade) ?_
        go_wp2_with fail
        refine hra.out.mono ?_
        rintro _ w7 ⟨la', lc', K', rfl, hR', hK', hb7⟩
        obtain ⟨ML', hML'⟩ : ∃ x, Hid (mkM a g s b la' fs'.length lc' (plc fs') (rowS X') = x) := ⟨_, Lib.hid rfl⟩
        have hM22' : ML'.length = 22 := by rw [← hML'.out]; exact mkM_len _ _ _ _ _ _ _ _ _ hX'l
        have hM1' : ∀ v ∈ ML', v.oneCell' = true := by rw [← hML'.out]; exact mkM_one _ _ _ _ _ _ _ _ _ (rowS_one X')
        rw [hML'.out]
        have hM7 := hM.out.below hb7 hM.out.lt
        have hbo7 := Lib.hid (grew hbo.out hb7)
        have hfld := fun W => field_app ML' p1 p2 hM22' W
        replace hM7 := Lib.hid hM7
        replace hM1' := Lib.hid hM1'
        replace hR' := Lib.hid hR'
        replace hK' := Lib.hid hK'
        clear d0 d1 hra hb7
        go_wp2_with (with_reducible refine zStore 41 _ _ rfl ?_)
        refine Lib.hid ?_
        refine wpList_store_mid rfl 41 _ _ rfl yb 0 ML'.toArray rfl rfl (by rw [List.size_toArray, hM22']; exact hM7.out.there 0 22 (by omega)) (by rw [List.size_toArray, hM22']; exact sizeMade) (all_oneCell_toArray hM1'.out) ?_
        have hM8 : Whole (w7.setCells yb 0 ML'.toArray.toList) yb 41 ML' := whole_all hM7.out (vs := ML') (by omega)
        have hbo8 : Below w5.heap.size w5 (w7.setCells yb 0 ML'.toArray.toList) := below_store hbo7.out hwy (Nat.le_refl _) 0 _
        have hk8 : Kept (fun q => q = yb) w7 (w7.setCells yb 0 ML'.toArray.toList) := (Kept.refl (fun q => q = yb) w7).setCells (c := yb) (.inl rfl) 0 _
        have hK8 : ∀ x ∈ K', Whole (w7.setCells yb 0 ML'.toArray.toList) x.1 x.2.1 x.2.2 := fun x hx => ((hK'.out x hx).1).of_kept hk8 ((hK'.out x hx).1.ne hM7.out (by rw [hR'.out.types x hx]; decide))
        generalize w7.setCells yb 0 ML'.toArray.toList = w8 at *
        rw [← hML'.out] at hM8
        have hend : Hid (LdM w5 yb a g s b fs' X' la' lc' K' w8) := Lib.hid ⟨hR'.out, hL'.out, h64'.out, hM8, hK8, hbo8⟩
        clear hM8 hbo8 hk8 hK8 hM7 hbo7 hfld hM
        go_wp2_with fail
        go_roundg (gk - 1)
        case measure => omega
        case rel => exact ⟨k + 1, fs', X', la', lc', K', by omega, by omega, by go_num, hend⟩
      · obtain rfl : k = len := by omega
        obtain ⟨hR, hL, h64, hM, hK, hbo⟩ := hrow.out
        have hXl : (rowS X).length = 16 := by rw [rowS_len, hL.len]
        have hr6 := made_range hXl hM
        obtain ⟨W7, hW7⟩ : ∃ W7, Hid (W7 = wo.alloc (.cells cells16.toArray 39)) := ⟨_, Lib.hid rfl⟩
        have hX7 : Whole W7 wo.heap.size 39 cells16 := by rw [hW7.out]; exact Whole.new wo _ _
        have hb7 : Below wo.heap.size wo W7 := by rw [hW7.out]; exact allocBelow wo _
        have hwx : w5.heap.size ≤ wo.heap.size := hbo.size
        have hbo7 : Below w5.heap.size w5 W7 := grew hbo hb7
        have hXone := rowS_one X
        obtain ⟨RX, hRX⟩ : ∃ x, Hid (rowS X = x) := ⟨_, Lib.hid rfl⟩
        rw [hRX.out] at hXl hr6 hXone
        have hRs : RX.toArray.size = 16 := by rw [List.size_toArray, hXl]
        replace hr6 := Lib.hid hr6
        replace hX7 := Lib.hid hX7
        replace hbo7 := Lib.hid hbo7
        replace hXone := Lib.hid hXone
        replace h64 := Lib.hid h64
        clear hR hL hM hK hbo hrow hb7
        go_wp2_with (with_reducible refine zLoad 39 _ rfl ?_)
        refine Lib.hid ?_
        refine wpList_load_mid rfl 39 _ rfl yb 6 rfl RX _ hr6.out Tryd.underlying39 rfl (by rw [hXl]; exact sizeSec) ?_
        go_wp2_with (with_reducible refine zStore 39 _ _ rfl ?_)
        rw [← show W7 = _ from hW7.out]
        clear hW7
        refine Lib.hid ?_
        refine wpList_store_mid rfl 39 _ _ rfl wo.heap.size 0 RX.toArray rfl rfl (by rw [hRs]; exact hX7.out.there 0 16 (Nat.le_refl 16)) (by rw [hRs]; exact sizeSec) (all_oneCell_toArray hXone.out) ?_
        have hX8 : Whole (W7.setCells wo.heap.size 0 RX.toArray.toList) wo.heap.size 39 RX := whole_all hX7.out (vs := RX) hXl
        have hbo8 : Below w5.heap.size w5 (W7.setCells wo.heap.size 0 RX.toArray.toList) := below_store hbo7.out hwx (Nat.le_refl _) 0 _
        generalize W7.setCells wo.heap.size 0 RX.toArray.toList = w8 at *
        obtain ⟨xb, hxb⟩ : ∃ x, Hid (wo.heap.size = x) := ⟨_, Lib.hid rfl⟩
        rw [hxb.out] at hX8 hwx ⊢
        rw [← hRX.out] at hX8
        have hS1 : Hid (Sec64 X ∧ Whole w8 xb 39 (rowS X) ∧ Below w5.heap.size w5 w8) := Lib.hid ⟨h64.out, hX8, hbo8⟩
        clear hX7 hbo7 hX8 hbo8 hXone hr6 hXl hRX h64 hxb
        go_wp2_with fail
        go_loopg [53] nt (fun ga i wr => ∃ k : Nat, ∃ X, k ≤ nt ∧ nt ≤ k + ga ∧ i = .int .i64 k ∧ Hid (Sec64 X ∧ Whole wr xb 39 (rowS X) ∧ Below w5.heap.size w5 wr))
        case atStart => exact ⟨0, X, by omega, by omega, rfl, hS1⟩
        case round =>
          clear hS1
          obtain ⟨k, X, hk, hgk, rfl, hrow⟩ := hrel
          generalize wr = wp at *
          generalize gk = gj at *
          obtain ⟨h64, hX, hbo⟩ := hrow.out
          have hBo := Lib.hid (grew hB5.out hbo)
          by_cases hlt : k < nt
          · obtain ⟨b1, o1, rfl, l1, ta, tf, st, tc, tb, hst, c0, c1, c2, c3, c4⟩ := (htn.out _ hBo.out).at_ k hlt
            rw [← Nat.add_assoc] at c1 c2 c3 c4
            obtain ⟨V, hV⟩ : ∃ V, Hid (V = wp.alloc (.cells #[.int .i64 ta, .int .i64 tf, .int .u32 (st : Int), .int .i64 tc, .int .i64 tb] 61)) := ⟨_, Lib.hid rfl⟩
            have hbV : Below wp.heap.size wp V := by rw [hV.out]; exact allocBelow wp _
            have hTV : Whole V wp.heap.size 61 [.int .i64 ta, .int .i64 tf, .int .u32 (st : Int), .int .i64 tc, .int .i64 tb] := by rw [hV.out]; exact Whole.new wp _ _
            have d0 := hTV.cell 0
            have d1 := hTV.cell 1
            have d2 := hTV.cell 2
            have d3 := hTV.cell 3
            have d4 := hTV.cell 4
            simp only [List.getElem?_cons_zero, List.getElem?_cons_succ] at d0 d1 d2 d3 d4
            have hXV := Lib.hid (hX.below hbV hX.lt)
            have hboV := Lib.hid (grew hbo hbV)
            have htu := Lib.hid (turned_any st ta tf tc tb X V h64 hst)
            have hXl : (rowS X).length = 16 := by rw [rowS_len, h64.len]
            obtain ⟨RX, hRX⟩ : ∃ x, Hid (rowS X = x) := ⟨_, Lib.hid rfl⟩
            rw [hRX.out] at hXl hXV htu
            clear hTV hbV hX hbo h64 hrow hBo l1
            go_upto_region 13 with fail
            rw [← show V = _ from hV.out]
            clear hV c0 c1 c2 c3 c4
            go_wp2_with (with_reducible refine zLoad 39 _ rfl ?_)
            refine Lib.hid ?_
            refine wpList_load_mid rfl 39 _ rfl xb 0 rfl RX _ hXV.out.range Tryd.underlying39 rfl (by rw [hXl]; exact sizeSec) ?_
            go_wp2_with fail
            refine htu.out.mono ?_
            rintro _ w9 ⟨X', rfl, h64', hb9⟩
            have hX9 := Lib.hid (hXV.out.below hb9 hXV.out.lt)
            have hbo9 := Lib.hid (grew hboV.out hb9)
            have hXl' : (rowS X').length = 16 := by rw [rowS_len, h64'.len]
            have hXone := Lib.hid (rowS_one X')
            obtain ⟨RY, hRY⟩ : ∃ x, Hid (rowS X' = x) := ⟨_, Lib.hid rfl⟩
            rw [hRY.out] at hXl' hXone ⊢
            replace h64' := Lib.hid h64'
            clear htu d0 d1 d2 d3 d4 hb9 hXV hboV
            go_wp2_with (with_reducible refine zStore 39 _ _ rfl ?_)
            refine Lib.hid ?_
            refine wpList_store_mid rfl 39 _ _ rfl xb 0 RY.toArray rfl rfl (by rw [List.size_toArray, hXl']; exact hX9.out.there 0 16 (by omega)) (by rw [List.size_toArray, hXl']; exact sizeSec) (all_oneCell_toArray hXone.out) ?_
            have hXa : Whole (w9.setCells xb 0 RY.toArray.toList) xb 39 RY := whole_all hX9.out (vs := RY) (by omega)
            have hboa : Below w5.heap.size w5 (w9.setCells xb 0 RY.toArray.toList) := below_store hbo9.out hwx (Nat.le_refl _) 0 _
            generalize w9.setCells xb 0 RY.toArray.toList = w10 at *
            rw [← hRY.out] at hXa
            have hend : Hid (Sec64 X' ∧ Whole w10 xb 39 (rowS X') ∧ Below w5.heap.size w5 w10) := Lib.hid ⟨h64'.out, hXa, hboa⟩
            clear hXa hboa hX9 hbo9 hXone
            go_wp2_with fail
            go_roundg (gj - 1)
            case measure => omega
            case rel => exact ⟨k + 1, X', by omega, by omega, by go_num, hend⟩
          · obtain rfl : k = nt := by omega
            clear hrow
            go_wp2_with fail
            refine (fresh13_any _).mono ?_
            rintro _ w8 ⟨vb, d, g', rfl, h8⟩
            have hS2 : Hid (HalfS wp vb d g' X 0 w8) := Lib.hid (HalfS.zero h8)
            have hXk : Hid (∀ W, Below wp.heap.size wp W → Whole W xb 39 (rowS X)) := Lib.hid (fun W hb => hX.below hb hX.lt)
            replace h64 := Lib.hid h64
            clear h8 hX hbo
            go_wp2_with fail
            go_loopg [62] 16 (fun ga i wr => ∃ k : Nat, k ≤ 16 ∧ 16 ≤ k + ga ∧ i = .int .i64 k ∧ Hid (HalfS wp vb d g' X k wr))
            case atStart => exact ⟨0, by omega, by omega, rfl, hS2⟩
            case round =>
              clear hS2
              obtain ⟨k, hk, hgk, rfl, hrow⟩ := hrel
              generalize wr = wq at *
              generalize gk = gi at *
              by_cases hlt : k < 16
              · obtain ⟨y, hy⟩ : ∃ y, X[k]? = some y := ⟨_, List.getElem?_eq_getElem (by rw [h64.out.len]; omega)⟩
                have hwr := Lib.hid (hrow.out.write h64.out hlt hy)
                obtain ⟨A, hA⟩ : ∃ A : Nat, Hid (2 + k = A) := ⟨_, Lib.hid rfl⟩
                rw [hA.out] at hwr
                have hw2 : IntKind.i64.wrap (2 + (k : Int)) = (A : Int) := by rw [IntWalk.i64_in _ (by omega), ← hA.out]; omega
                have cx : wq.cell? ⟨xb, k, none⟩ = some (.string y) := ((hXk.out wq hrow.out.since).cell k).trans (rowS_at hy)
                have hk16 : (k : Int) < 16 := by omega
                clear hy hrow
                go_wp2_with fail
                refine hwr.out.mono ?_
                rintro _ w11 ⟨rfl, h11⟩
                replace h11 := Lib.hid h11
                clear hwr cx
                go_wp2_with fail
                go_roundg (gi - 1)
                case measure => omega
                case rel => exact ⟨k + 1, by omega, by omega, by go_num, h11⟩
              · obtain rfl : k = 16 := by omega
                obtain ⟨ws, h1, h2, h3⟩ := hrow.out.done h64.out
                have hbw := hrow.out.since
                have hB := grew hBo.out hbw
                have hTq : Wide wq := hTw.out _ hB
                obtain ⟨y, hy⟩ : ∃ y, X[0]? = some y := ⟨_, List.getElem?_eq_getElem (by rw [h64.out.len]; decide)⟩
                have hyz := h64.out.at_ hy
                have hX64 : ∀ (k : Nat) (s : ByteArray), X[k]? = some s → s.size ≤ 1000000 := fun k s hs => by have := h64.out.at_ hs; omega
                have hX := hXk.out wq hbw
                have hXl : (rowS X).length = 16 := by rw [rowS_len, h64.out.len]
                by_cases hh : headS y
                · have hld0 := la_load_yes y h1 (room13 0 (by decide)) hTq (by omega) (by rw [h3]; exact hy) hh
                  rw [h3] at hld0
                  have hrl0 := fun W => rload_head X y W h64.out.len hy hX64 hh
                  obtain ⟨hok, hfl⟩ := loadF_ok X (stampS y) 16 1 [] (fun q hq => by simp at hq)
                  obtain ⟨fs, hfs⟩ : ∃ x, Hid ((loadF X (stampS y) 16 1 []).1 = x) := ⟨_, Lib.hid rfl⟩
                  obtain ⟨P, hP⟩ : ∃ x, Hid ((loadF X (stampS y) 16 1 []).2 = x) := ⟨_, Lib.hid rfl⟩
                  rw [hfs.out, hP.out] at hld0 hrl0
                  rw [hfs.out] at hok hfl
                  have hfl2 : fs.length ≤ 16 := by simpa using hfl
                  have hbh := hh.2.2.1.2.1
                  have l0 := logH_lt (y.extract 6 58)
                  have l1 := genH_lt (y.extract 6 58)
                  have l2 := stampS_lt y
                  have hsh := fun W => same_rhd (logH (y.extract 6 58) : Int) (genH (y.extract 6 58) : Int) (stampS y : Int) (baseH (y.extract 6 58) : Int) (wf_i64 (by omega) (by omega)) (wf_u32 (by omega) (by omega)) (wf_u32 (by omega) (by omega)) (wf_i64 (by omega) (by omega)) W
                  obtain ⟨ya, hya⟩ : ∃ x, Hid (logH (y.extract 6 58) = x) := ⟨_, Lib.hid rfl⟩
                  obtain ⟨yg, hyg⟩ : ∃ x, Hid (genH (y.extract 6 58) = x) := ⟨_, Lib.hid rfl⟩
                  obtain ⟨ys, hys⟩ : ∃ x, Hid (stampS y = x) := ⟨_, Lib.hid rfl⟩
                  obtain ⟨yc, hyc⟩ : ∃ x, Hid (baseH (y.extract 6 58) = x) := ⟨_, Lib.hid rfl⟩
                  rw [hya.out, hyg.out, hys.out, hyc.out] at hld0 hrl0 hsh
                  have hld : Hid (Calls Tryd.prog 30 #[.pointer (some ⟨vb, 0, none⟩), .int .i64 0] wq fun e w' => ∃ sb, e = .returned (.tuple #[.pointer (some ⟨sb, 0, none⟩), .int .i64 0]) ∧ Below wq.heap.size wq w' ∧ SgV wq sb vb 0 ya yg ys yc fs P true w') := Lib.hid hld0
                  obtain ⟨nf, hnf⟩ : ∃ nf, Hid (fs.length = nf) := ⟨_, Lib.hid rfl⟩
                  rw [hnf.out] at hfl2
                  have hrl := Lib.hid hrl0
                  obtain ⟨RX, hRX⟩ : ∃ x, Hid (rowS X = x) := ⟨_, Lib.hid rfl⟩
                  rw [hRX.out] at hXl hX hrl
                  replace hX := Lib.hid hX
                  replace hB := Lib.hid hB
                  replace hok := Lib.hid hok
                  clear hld0 hrl0 hfl hbh l0 l1 l2 hy hyz hX64 h1 h2 h3 hbw hTq hh hrow
                  go_wp2_with fail
                  refine hld.out.mono ?_
                  rintro _ w12 ⟨tb, rfl, hb12, fa, fc, t12, _⟩
                  have hX12 := Lib.hid (hX.out.below hb12 hX.out.lt)
                  have hB12 := Lib.hid (grew hB.out hb12)
                  replace t12 := Lib.hid t12
                  clear hb12 hld
                  go_wp2_with (with_reducible refine zLoad 39 _ rfl ?_)
                  refine Lib.hid ?_
                  refine wpList_load_mid rfl 39 _ rfl xb 0 rfl RX _ hX12.out.range Tryd.underlying39 rfl (by rw [hXl]; exact sizeSec) ?_
                  go_wp2_with fail
                  refine (hrl.out _).mono ?_
                  rintro _ w13 ⟨v, n', rfl, hn', hown, hb13⟩
                  rw [hnf.out] at hn'
                  subst hn'
                  obtain ⟨la', lc', rfl⟩ := own_slice hown
                  have hL14 := Whole.new w13 66 (ldL ya yg ys yc (.slice la' n' lc') P)
                  have hfr14 : FrAt (w13.alloc (.cells (ldL ya yg ys yc (.slice la' n' lc') P).toArray 66)) la' fs := (frAt_own hown hnf.out).below (allocBelow w13 _)
                  have hB14 := Lib.hid (grewAlloc (grew hB12.out hb13) (.cells (ldL ya yg ys yc (.slice la' n' lc') P).toArray 66))
                  have t14 := t12.out.below (grewAlloc hb13 (.cells (ldL ya yg ys yc (.slice la' n' lc') P).toArray 66))
                  have hap := Lib.hid (append_sealed 1 ⟨#[]⟩ t14)
                  replace hL14 := Lib.hid hL14
                  replace hfr14 := Lib.hid hfr14
                  replace t14 := Lib.hid t14
                  clear hb13 hown
                  go_wp2_with fail
                  refine hap.out.mono ?_
                  rintro _ w7 ⟨rfl, hb7⟩
                  have t7 := t14.out.below hb7
                  have hL7 := hL14.out.below hb7 hL14.out.lt
                  have hrl7 := hfr14.out.below hb7
                  have hB7 := Lib.hid (grew hB14.out hb7)
                  have hV0 : Below w7.heap.size w7 w7 := Below.refl _ _
                  have hV1 : Below w7.heap.size w7 w7.drew := (Below.refl _ _).drew
                  have hFs : Hid (∀ W, Below w7.heap.size w7 W → Calls Tryd.prog 25 #[.pointer (some ⟨tb, 0, none⟩)] W fun e w' => ∃ va' c', e = .returned (.slice va' n' c') ∧ FrAt w' va' fs ∧ Below W.heap.size W w') := Lib.hid (fun W hb => by
                    refine (frames_any (t7.below hb) (by have := hnf.out; omega)).mono ?_
                    rintro e w' ⟨va', c', q1, q2, q3⟩
                    rw [hnf.out] at q1
                    exact ⟨va', c', q1, frAt_own q2 rfl, q3⟩)
                  have hSm : Hid (∀ (v1 : Option Addr) (c1 : Nat) (W : World), Below w7.heap.size w7 W → FrAt W v1 fs → Calls Tryd.prog 24 #[.slice v1 n' c1, .slice la' n' lc'] W fun e w' => e = .returned (.bool true) ∧ Below W.heap.size W w') := Lib.hid (fun v1 c1 W hb q1 => same_frames v1 la' n' c1 lc' fs W q1 (hrl7.below hb) hnf.out (by omega) hok.out)
                  have hHt : Hid (∀ W, Below w7.heap.size w7 W → Calls Tryd.prog 26 #[.pointer (some ⟨tb, 0, none⟩)] W fun e w' => e = .returned (.agg #[.int .i64 (ya : Int), .int .u32 (yg : Int), .int .u32 (ys : Int), .int .i64 (yc : Int)]) ∧ Below W.heap.size W w') := Lib.hid (fun W hb => header_any (t7.below hb).obj)
                  have hrf := Lib.hid (fun W => ref13_any (ya : Int) yg ys yc W)
                  have hSd : Hid (∀ W, Below w7.heap.size w7 W → Calls Tryd.prog 23 #[.pointer (some ⟨tb, 0, none⟩)] W fun e w' => e = .returned (.bool true) ∧ W = w') := Lib.hid (fun W hb => sealed_any tb true W ((t7.below hb).obj.cell 8))
                  have hEn : Hid (∀ W, Below w7.heap.size w7 W → Calls Tryd.prog 20 #[.pointer (some ⟨tb, 0, none⟩)] W fun e w' => e = .returned (.int .i64 (P : Int)) ∧ W = w') := Lib.hid (fun W hb => end_any tb P W ((t7.below hb).obj.cell 7))
                  have hLn : Hid (∀ W, Below w7.heap.size w7 W → Calls Tryd.prog 21 #[.pointer (some ⟨tb, 0, none⟩)] W fun e w' => e = .returned (.int .i64 (n' : Int)) ∧ W = w') := Lib.hid (fun W hb => by
                    have h := len_any tb fa fs.length fc W ((t7.below hb).obj.cell 6)
                    rwa [hnf.out] at h)
                  have hpt : Hid (∀ W, Below w7.heap.size w7 W → Calls Tryd.prog 10 #[] W fun e w' => e = .returned (.bool true) ∧ Below W.heap.size W w') := Lib.hid (fun W hb => hput.out W (grew hB7.out hb))
                  have r0 : ∀ W, Below w7.heap.size w7 W → W.cell? ⟨w13.heap.size, 0, none⟩ = some (.int .i64 (ya : Int)) := fun W hb => (hL7.below hb hL7.lt).cell 0
                  have r1 : ∀ W, Below w7.heap.size w7 W → W.cell? ⟨w13.heap.size, 1, none⟩ = some (.int .u32 (yg : Int)) := fun W hb => (hL7.below hb hL7.lt).cell 1
                  have r2 : ∀ W, Below w7.heap.size w7 W → W.cell? ⟨w13.heap.size, 2, none⟩ = some (.int .u32 (ys : Int)) := fun W hb => (hL7.below hb hL7.lt).cell 2
                  have r3 : ∀ W, Below w7.heap.size w7 W → W.cell? ⟨w13.heap.size, 3, none⟩ = some (.int .i64 (yc : Int)) := fun W hb => (hL7.below hb hL7.lt).cell 3
                  have r4 : ∀ W, Below w7.heap.size w7 W → W.cell? ⟨w13.heap.size, 4, none⟩ = some (.slice la' n' lc') := fun W hb => (hL7.below hb hL7.lt).cell 4
                  have r5 : ∀ W, Below w7.heap.size w7 W → W.cell? ⟨w13.heap.size, 5, none⟩ = some (.int .i64 (P : Int)) := fun W hb => (hL7.below hb hL7.lt).cell 5
                  have hfin : Hid (∀ W, Below w7.heap.size w7 W → Below w.heap.size w W) := Lib.hid (fun W hb => grew hB7.out hb)
                  have hnq : ((n' : Int) == (n' : Int)) = true := by simp
                  have hPq : ((P : Int) == (P : Int)) = true := by simp
                  clear t7 hL7 hrl7 hb7 hap t14 t12 hL14 hfr14 hB14
                  go_wp2_with fail
                  go_region_held3 (fun w' => Below w7.heap.size w7 w') (first | assumption | (go_keep)) (first
                    | (go_at_call 26; (with_reducible refine (hHt.out _ (by assumption)).mono ?_); rintro _ w21 ⟨rfl, hb21⟩; have hk21 : Below w7.heap.size w7 w21 := grew (by assumption) hb21)
                    | (go_at_call 14; (with_reducible refine (hrf.out _).mono ?_); rintro _ w22 ⟨rfl, hb22⟩; have hk22 : Below w7.heap.size w7 w22 := grew (by assumption) hb22)
                    | (go_at_call 25; (with_reducible refine (hFs.out _ (by assumption)).mono ?_); rintro _ w23 ⟨va23, c23, rfl, hf23, hb23⟩; have hk23 : Below w7.heap.size w7 w23 := grew (by assumption) hb23)
                    | (go_at_call 24; (with_reducible refine (hSm.out _ _ _ (by assumption) hf23).mono ?_); rintro _ w24 ⟨rfl, hb24⟩; have hk24 : Below w7.heap.size w7 w24 := grew (by assumption) hb24)
                    | (go_at_call 20; (with_reducible refine (hEn.out _ (by assumption)).mono ?_); rintro _ w25 ⟨rfl, rfl⟩)
                    | (go_at_call 21; (with_reducible refine (hLn.out _ (by assumption)).mono ?_); rintro _ w26 ⟨rfl, rfl⟩)
                    | (go_at_call 23; (with_reducible refine (hSd.out _ (by assumption)).mono ?_); rintro _ w27 ⟨rfl, rfl⟩)
                    | (go_at_call 10; (with_reducible refine (hpt.out _ (by assumption)).mono ?_); rintro _ w28 ⟨rfl, hb28⟩; have hk28 : Below w7.heap.size w7 w28 := grew (by assumption) hb28))
                  all_goals
                    go_wp2_with fail
                    go_ret
                    exact ⟨rfl, hfin.out _ (by assumption)⟩
                · have hld : Hid (Calls Tryd.prog 30 #[.pointer (some ⟨vb, 0, none⟩), .int .i64 0] wq fun e w' => e = .returned (.tuple #[.pointer none, .int .i64 4]) ∧ Below wq.heap.size wq w') := Lib.hid (la_load_no y h1 (room13 0 (by decide)) hTq (by omega) (by rw [h3]; exact hy) hh)
                  have hrl := Lib.hid (fun W => rload_no X y W h64.out.len hy (by omega) hh)
                  obtain ⟨RX, hRX⟩ : ∃ x, Hid (rowS X = x) := ⟨_, Lib.hid rfl⟩
                  rw [hRX.out] at hXl hX hrl
                  clear hy hyz hX64 h1 h2 h3 hbw hTq hh hrow
                  replace hX := Lib.hid hX
                  replace hB := Lib.hid hB
                  go_wp2_with fail
                  refine hld.out.mono ?_
                  rintro _ w12 ⟨rfl, hb12⟩
                  have hX12 := Lib.hid (hX.out.below hb12 hX.out.lt)
                  have hB12 := Lib.hid (grew hB.out hb12)
                  clear hb12 hld
                  go_wp2_with (with_reducible refine zLoad 39 _ rfl ?_)
                  refine Lib.hid ?_
                  refine wpList_load_mid rfl 39 _ rfl xb 0 rfl RX _ hX12.out.range Tryd.underlying39 rfl (by rw [hXl]; exact sizeSec) ?_
                  go_wp2_with fail
                  refine (hrl.out _).mono ?_
                  rintro _ w13 ⟨rfl, hb13⟩
                  have hB14 := Lib.hid (grewAlloc (grew hB12.out hb13) (.cells #[.int .i64 0, .int .u32 0, .int .u32 0, .int .i64 0, .slice none 0 0, .int .i64 0, .bool false] 66))
                  clear hb13
                  go_wp2_with fail
                  refine (hput.out _ hB14.out).mono ?_
                  rintro _ w14 ⟨rfl, hb14⟩
                  go_wp2_with fail
                  go_ret
                  exact ⟨rfl, grew hB14.out hb14⟩
set_option maxRecDepth 100000 in
set_option maxHeartbeats 4000000 in
/-- Of what is not gone through. -/
theorem walkOut (a g s b : Int) (va : Option Addr) (len cap : Nat) (xs : List (Int × ByteArray)) (vt : Option Addr) (nt ct : Nat) (w : World) (hT : Wide w) (hx : FrIn w va len xs) (hno : bigF xs = true ∨ (bigF xs = false ∧ (okH a b = false ∨ (okH a b = true ∧ 30 < nt)))) :
    Calls Tryd.prog 4 #[.agg #[.int .i64 a, .int .u32 g, .int .u32 s, .int .i64 b], .slice va len cap, .slice vt nt ct] w fun e w' => e = .returned (.bool true) ∧ Below w.heap.size w w' := by
  obtain ⟨W, hW⟩ : ∃ W, Hid (W = w.alloc (.cells (hdr a g s b).toArray 24)) := ⟨_, Lib.hid rfl⟩
  have hbW : Below w.heap.size w W := by rw [hW.out]; exact allocBelow w _
  have hH : Whole W w.heap.size 24 (hdr a g s b) := by rw [hW.out]; exact Whole.new w _ _
  have hla := fun (W' : World) (hb : Below w.heap.size w W') => large13_any va len cap xs W' ⟨hx.len, hx.at_.below hb, hx.ok⟩
  have hput := Lib.hid (fun W' (hb : Below w.heap.size w W') => put13_any W' (hT.below hb))
  have hmay := fun W => rmayH_any a g s b W
  replace hbW := Lib.hid hbW
  rcases hno with h | ⟨h, h2⟩
  · rw [h] at hla
    replace hla := Lib.hid hla
    clear hx hH hmay
    go_enter Tryd.func4, Tryd.ntmps4
    go_upto_region 1 with fail
    rw [← show W = _ from hW.out]
    clear hW
    go_wp2_with fail
    refine (hla.out _ hbW.out).mono ?_
    rintro _ w1 ⟨rfl, hb1⟩
    have hB1 := Lib.hid (grew hbW.out hb1)
    go_wp2_with fail
    refine (hput.out _ hB1.out).mono ?_
    rintro _ w2 ⟨rfl, hb2⟩
    go_wp2_with fail
    go_ret
    exact ⟨rfl, grew hB1.out hb2⟩
  · rw [h] at hla
    replace hla := Lib.hid hla
    clear hx
    rcases h2 with h2 | ⟨h2, h3⟩
    · rw [h2] at hmay
      replace hmay := Lib.hid hmay
      go_enter Tryd.func4, Tryd.ntmps4
      go_upto_region 1 with fail
      rw [← show W = _ from hW.out]
      clear hW
      go_wp2_with fail
      refine (hla.out _ hbW.out).mono ?_
      rintro _ w1 ⟨rfl, hb1⟩
      have hH1 := hH.below hb1 hH.lt
      have a0 := hH1.cell 0
      have a1 := hH1.cell 1
      have a2 := hH1.cell 2
      have a3 := hH1.cell 3
      simp only [List.getElem?_cons_zero, List.getElem?_cons_succ] at a0 a1 a2 a3
      have hB1 := Lib.hid (grew hbW.out hb1)
      clear hH hH1 hb1
      go_wp2_with fail
      refine (ref13_any a g s b _).mono ?_
      rintro _ w2 ⟨rfl, hb2⟩
      have hB2 := Lib.hid (grew hB1.out hb2)
      clear a0 a1 a2 a3 hb2 hB1
      go_wp2_with fail
      refine (hmay.out _).mono ?_
      rintro _ w3 ⟨rfl, hb3⟩
      have hB3 := Lib.hid (grew hB2.out hb3)
      go_wp2_with fail
      refine (hput.out _ hB3.out).mono ?_
      rintro _ w4 ⟨rfl, hb4⟩
      go_wp2_with fail
      go_ret
      exact ⟨rfl, grew hB3.out hb4⟩
    · rw [h2] at hmay
      replace hmay := Lib.hid hmay
      have hnt : (30 : Int) < (nt : Int) := by omega
      go_enter Tryd.func4, Tryd.ntmps4
      go_upto_region 1 with fail
      rw [← show W = _ from hW.out]
      clear hW
      go_wp2_with fail
      refine (hla.out _ hbW.out).mono ?_
      rintro _ w1 ⟨rfl, hb1⟩
      have hH1 := hH.below hb1 hH.lt
      have a0 := hH1.cell 0
      have a1 := hH1.cell 1
      have a2 := hH1.cell 2
      have a3 := hH1.cell 3
      simp only [List.getElem?_cons_zero, List.getElem?_cons_succ] at a0 a1 a2 a3
      have hB1 := Lib.hid (grew hbW.out hb1)
      clear hH hH1 hb1
      go_wp2_with fail
      refine (ref13_any a g s b _).mono ?_
      rintro _ w2 ⟨rfl, hb2⟩
      have hB2 := Lib.hid (grew hB1.out hb2)
      clear a0 a1 a2 a3 hb2 hB1
      go_wp2_with fail
      refine (hmay.out _).mono ?_
      rintro _ w3 ⟨rfl, hb3⟩
      have hB3 := Lib.hid (grew hB2.out hb3)
      go_wp2_with fail
      refine (hput.out _ hB3.out).mono ?_
      rintro _ w4 ⟨rfl, hb4⟩
      go_wp2_with fail
      go_ret
      exact ⟨rfl, grew hB3.out hb4⟩
theorem walk (a g s b : Int) (va : Option Addr) (len cap : Nat) (xs : List (Int × ByteArray)) (vt : Option Addr) (nt ct : Nat) (_ : Unit) (w : World) (hT : Wide w) (_ : (Lit.int .i64 a).wf = true) (hg : (Lit.int .u32 g).wf = true) (hs : (Lit.int .u32 s).wf = true) (_ : (Lit.int .i64 b).wf = true) (hx : FrIn w va len xs) (ht : TurnIn w vt nt) :
    Calls Tryd.prog 4 #[.agg #[.int .i64 a, .int .u32 g, .int .u32 s, .int .i64 b], .slice va len cap, .slice vt nt ct] w fun e w' => e = .returned (.bool true) ∧ Below w.heap.size w w' := by
  cases hbig : bigF xs with
  | true => exact walkOut a g s b va len cap xs vt nt ct w hT hx (.inl hbig)
  | false =>
    cases hok : okH a b with
    | false => exact walkOut a g s b va len cap xs vt nt ct w hT hx (.inr ⟨hbig, .inl hok⟩)
    | true =>
      by_cases hn : nt ≤ 30
      · obtain ⟨h1, h2, h3, h4⟩ := okH_true hok
        obtain ⟨g1, g2⟩ := lit_u32 hg
        obtain ⟨s1, s2⟩ := lit_u32 hs
        obtain ⟨a', rfl⟩ := lit_nat (a := a) (by omega)
        obtain ⟨b', rfl⟩ := lit_nat h3
        obtain ⟨g', rfl⟩ := lit_nat g1
        obtain ⟨s', rfl⟩ := lit_nat s1
        exact walkIn a' g' s' b' va len cap xs vt nt ct w hT (by omega) (by omega) (by omega) (by omega) (by omega) hx hbig ht hn
      · exact walkOut a g s b va len cap xs vt nt ct w hT hx (.inr ⟨hbig, .inr ⟨hok, by omega⟩⟩)

theorem own : ownKnob Tryd.prog.godebug = none := by kernel_rfl
theorem laidOut : laidOutB Tryd.prog = true := by kernel_rfl
theorem gW : Tryd.prog.globalNamed "weighlock/header.widths" = some 0 := by kernel_rfl
theorem gWType : (Tryd.prog.globals[0]?).map (·.type) = some 200 := by kernel_rfl
theorem cellsW4 : Tryd.prog.cellsOf 200 = 4 := by kernel_rfl
theorem cellsW1 : Tryd.prog.cellsOf 3 = 1 := by kernel_rfl
/-- What the row's list gives: the table's numbers. -/
theorem table {W : World} (h : laidMetH Tryd.prog Rows.segmentLoadsRow.laid W) : Lib.TabIs Tryd.prog W "weighlock/header.widths" .i64 [2, 4, 4, 8] :=
  Lib.tabIs_of_head (rest := []) gW gWType Tryd.underlying200 Tryd.underlying3 cellsW1 cellsW4 h

set_option maxRecDepth 100000 in
theorem contract (H : Type) (enc : TypeId × Value → H) (W : World) (base : Nat) (args : Array Value) (ds gs : List (DataW H)) (before : List MemPlace)
    (hval : ∀ (j : Nat) t v, Tryd.f4.params[j]? = some t → args[j]? = some v → Value.okWide Tryd.prog W .any base t v)
    (hW : DataW.Whole enc Tryd.prog Tryd.f4.params.toList Rows.segmentLoadsSpec.vars false W args.toList ds gs before) (hL : laidMetH Tryd.prog Rows.segmentLoadsRow.laid W) :
    Calls Tryd.prog 4 args W fun e W' => ∃ v, e = .returned v ∧ Rows.segmentLoadsSpec.post enc Tryd.prog Tryd.f4 false true false false W args v W' := by
  have hTb : Wide W := fun i hi => by
    match i, hi with
    | 0, _ => exact (table hL).cell gW 0 (by decide)
    | 1, _ => exact (table hL).cell gW 1 (by decide)
    | 2, _ => exact (table hL).cell gW 2 (by decide)
    | 3, _ => exact (table hL).cell gW 3 (by decide)
  have hW' := hW
  obtain ⟨p, q, hA0, hV, rfl, hfz, hnd⟩ := hW
  have hA : DataW.TrodAll enc Tryd.prog W 0 (fun _ => true) true Tryd.f4.params.toList args.toList ds p := hA0
  rw [Tryd.params4] at hA hval
  obtain ⟨v0, vs0, d0, ds0, p0, q0, hargs, rfl, rfl, h0, r0⟩ := trodAll_cons hA
  obtain ⟨v1, vs1, d1, ds1, p1, q1, rfl, rfl, rfl, h1, r1⟩ := trodAll_cons r0
  obtain ⟨v2, vs2, d2, ds2, p2, q2, rfl, rfl, rfl, h2, r2⟩ := trodAll_cons r1
  obtain ⟨rfl, rfl, rfl⟩ := trodAll_nil r2
  obtain rfl : args = #[v0, v1, v2] := by cases args; simp_all
  obtain ⟨rfl, rfl⟩ := trodVars_none hV
  have k0 := h0
  have lt0 : ∀ x ∈ p0, x.block < W.heap.size := by obtain ⟨m, hm⟩ := k0; exact DataW.trod_lt m _ _ _ hm
  obtain ⟨ha0, hg0, hs0, hb0, rfl, wha0, whg0, whs0, whb0⟩ := M.open_hd4 (hval 0 24 v0 rfl rfl) h0
  obtain ⟨a1, len1, cap1, rfl⟩ := okWide_slice Tryd.underlying25 (hval 1 25 v1 rfl rfl)
  have k1 := h1
  have lt1 : ∀ x ∈ p1, x.block < W.heap.size := by obtain ⟨m, hm⟩ := k1; exact DataW.trod_lt m _ _ _ hm
  obtain ⟨fu1, hf1⟩ := h1
  obtain ⟨z1, w1⟩ := open_frames (show DataW.trod enc Tryd.prog W 0 (fun _ => true) true fu1 25 [.slice a1 len1 cap1] = some _ from hf1)
  obtain ⟨a2, len2, cap2, rfl⟩ := okWide_slice Tryd.underlying59 (hval 2 59 v2 rfl rfl)
  have k2 := h2
  have lt2 : ∀ x ∈ p2, x.block < W.heap.size := by obtain ⟨m, hm⟩ := k2; exact DataW.trod_lt m _ _ _ hm
  obtain ⟨fu2, hf2⟩ := h2
  obtain ⟨z2, w2⟩ := open_turns13 (show DataW.trod enc Tryd.prog W 0 (fun _ => true) true fu2 59 [.slice a2 len2 cap2] = some _ from hf2)
  clear hA0
  refine (walk ha0 hg0 hs0 hb0 a1 len1 cap1 z1 a2 len2 cap2 z2 W hTb wha0 whg0 whs0 whb0 w1 w2).mono fun e W' ⟨he, bel⟩ => ?_
  subst he
  exact ⟨_, rfl, _, _, _, [], _, [], hW', trodAll_mk1 (shut_bool Tryd.underlying4 _), (trodAll_cons_mk (Below.trod laidOut (by kernel_rfl) (of_decide_eq_true (by kernel_rfl)) k0 bel lt0) (trodAll_cons_mk (Below.trod laidOut (by kernel_rfl) (of_decide_eq_true (by kernel_rfl)) k1 bel lt1) (trodAll_cons_mk (Below.trod laidOut (by kernel_rfl) (of_decide_eq_true (by kernel_rfl)) k2 bel lt2) trodAll_mk0))), rfl, bel.frame _, fun h => by cases h⟩

/-- A world for the witness: the settled one, the table as its initialiser lays it. -/
noncomputable def laidWorld (os : Os) : World :=
  { World.holding Tryd.prog os ⟨#[], #[], []⟩ with heap := (World.holding Tryd.prog os ⟨#[], #[], []⟩).heap.modify 0 fun
      | .cells _ t frozen => .cells #[.int .i64 2, .int .i64 4, .int .i64 4, .int .i64 8] t frozen
      | o => o }
theorem laid_met (os : Os) : laidMet Tryd.prog Rows.segmentLoadsRow.laid ((laidWorld os).forCall (fun _ _ => 0) ⟨#[], #[.agg #[.int .i64 0, .int .u32 0, .int .u32 0, .int .i64 0], .slice none 0 0, .slice none 0 0], []⟩).memory :=
  laidMet_of_run' 8 (by kernel_rfl) (by kernel_rfl)
theorem reads (os : Os) {H : Type} (enc : TypeId × Value → H) : ∃ places, DataW.whole enc Tryd.prog ((laidWorld os).forCall (fun _ _ => 0) ⟨#[], #[.agg #[.int .i64 0, .int .u32 0, .int .u32 0, .int .i64 0], .slice none 0 0, .slice none 0 0], []⟩).memory Tryd.f4.params.toList Rows.segmentLoadsSpec.vars false (#[.agg #[.int .i64 0, .int .u32 0, .int .u32 0, .int .i64 0], .slice none 0 0, .slice none 0 0] : Array Value).toList 8 = some ([.agg [.lit (.int .i64 0), .lit (.int .u32 0), .lit (.int .u32 0), .lit (.int .i64 0)], .nil, .nil], [], places) :=
  ⟨[], by kernel_rfl⟩
set_option maxRecDepth 100000 in
theorem lifted (os : Os) (started : os.Started) (H : Type) (enc : TypeId × Value → H) (F : Stop.Interp) :
    ReturnsInHanded {} Tryd.checked os 4 .any ((OpenSpec.ofChange Rows.segmentLoadsSpec).preRow enc Tryd.prog Tryd.f4 Rows.segmentLoadsRow.domain false Rows.segmentLoadsRow.laid) (((OpenSpec.ofChange Rows.segmentLoadsSpec).at F).post enc Tryd.prog Tryd.f4 false true false false) := by
  obtain ⟨places, hx⟩ := reads os enc
  refine returnsInHanded_of_row (C := Tryd.checked) (s := OpenSpec.ofChange Rows.segmentLoadsSpec) own started (by kernel_rfl) Tryd.func4
    (witness_row_at (enc := enc) (C := Tryd.checked) false (laidWorld os) #[.agg #[.int .i64 0, .int .u32 0, .int .u32 0, .int .i64 0], .slice none 0 0, .slice none 0 0] rfl (by kernel_rfl) (by kernel_rfl) (by kernel_rfl)
      (OpenSpec.preRow_of_cond 8 hx (by kernel_rfl) (fun k hk => by cases hk) (by kernel_rfl) (laid_met os))) ?_
  intro W base args ds gs before hval hW _ _ _ hL _ _
  exact contract H enc W base args ds gs before hval hW hL
theorem over : Rows.segmentLoadsRow.holds Tryd.pinned (OpenSpec.ofChange Rows.segmentLoadsSpec) :=
  OpenClaim.holds_of_cond 4 Tryd.f4 rfl rfl rfl rfl rfl rfl rfl ⟨rfl, rfl, rfl, rfl, rfl⟩ rfl rfl rfl rfl rfl (by kernel_rfl) Tryd.func4 (by kernel_rfl)
    (of_decide_eq_true (by kernel_rfl)) (by unfold Func.isWrapper; first | (rw [if_pos (by decide +kernel)]; kernel_rfl) | (rw [if_neg (by decide +kernel)]; exact ⟨rfl, rfl⟩))
    (fun os started H enc _ F => by rw [OpenClaim.pre_eq_preRow]; exact lifted os started H enc F)
theorem allPlain : (Tryd.f4.params.toList.all fun u => !(Tryd.prog.wantsStandIn u)) = true := by kernel_rfl
/-- No parameter wants a stand-in; the program's own looks are off. -/
theorem plain (f : FuncId) (fn : Func) (hf : Tryd.pinned.checked.prog.funcNamed "weighlock/weighlocklaw13.SegmentLoads" = some f) (hfn : Tryd.pinned.checked.prog.funcs[f]? = some fn) :
    false = Tryd.pinned.checked.prog.looks [] ∧ ∀ (j : Nat) t, fn.params[j]? = some t → Tryd.pinned.checked.prog.wantsStandIn t = false := by
  obtain rfl : f = 4 := Option.some.inj ((show Tryd.prog.funcNamed "weighlock/weighlocklaw13.SegmentLoads" = some 4 by kernel_rfl).symm.trans hf) |>.symm
  obtain rfl : fn = Tryd.f4 := (Option.some.inj (Tryd.func4.symm.trans hfn)).symm
  refine ⟨by kernel_rfl, fun j t ht => ?_⟩
  have h := List.all_eq_true.1 allPlain t (Array.mem_toList_iff.2 (Array.mem_of_getElem? ht))
  have h2 : Tryd.prog.wantsStandIn t = false := by simpa using h
  exact h2

/-- The statement: the tied card. -/
theorem proved : Rows.SegmentLoadsCardSaid :=
  Claim7.holds_tied_plain_at .later [] _ _ _ _ over (fun _ h => by cases h) (by kernel_rfl) (fun _ h => by cases h) segmentLoads_row_tie rfl ⟨rfl, rfl⟩ (by kernel_rfl) rfl plain (by kernel_rfl)
#print axioms proved

end Go.Proofs.YtlgoepbfdldgnaaDoor.segmentLoads
