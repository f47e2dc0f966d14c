/- For all frames and every number the law SeglogWrong returns true: segments that a log may not adopt, and those that it may. The package variable header.widths starts as the program's text lays it (the card ties it). No other condition. -/
import Derived.Test.YtahljbjgenepaaaGreatDoorCards
import Derived.Test.YtahljbjgenepaaaGreatDoorTie
import Derived.Test.YtahljbjgenepaaaGreatDoorWrA
import Derived.Test.YtahljbjgenepaaaGreatDoorOpenBytes
import Derived.WalkKit
import Derived.ProofKit
import Derived.OpenShut
import Derived.ChangeOld
import Derived.Deep.DeepHandedRow
import Derived.Deep.Cut
import Derived.Lib.LaidTab
namespace Go.Proofs.YtahljbjgenepaaaGreatDoor.seglogWrong
open Go.ChangeShapes Go.WideShapes Go.ChangeAt Go.RowKit Go.Sort
open Go.Proofs.YtahljbjgenepaaaGreatDoor.M Go.Proofs.YtahljbjgenepaaaGreatDoor.Z
open Go.Proofs.YtahljbjgenepaaaGreatDoor.W Go.Proofs.YtahljbjgenepaaaGreatDoor.D
set_option linter.unusedVariables false
set_option linter.unusedSimpArgs false

set_option maxRecDepth 100000 in
set_option maxHeartbeats 8000000 in
theorem walk (va : Option Addr) (len cap : Nat) (xs : List (Int × ByteArray)) (n : Int) (w : World) (hT : Wide w) (hx : FrIn w va len xs) (hnw : (Lit.int .i64 n).wf = true) :
    Calls Tryz.prog 5 #[.slice va len cap, .int .i64 n] w fun e w' => e = .returned (.bool true) ∧ Below w.heap.size w w' := by
  have heig := Lib.hid (fun W (hb : Below w.heap.size w W) => eight_any W (hT.below hb))
  by_cases hl : 40 < len
  · have hli : (40 : Int) < (len : Int) := by omega
    have h8 := Lib.hid (heig.out w (Below.refl _ _))
    clear hx heig hnw
    go_enter Tryz.func5, Tryz.ntmps5
    go_wp2_with fail
    refine h8.out.mono ?_
    rintro _ w2 ⟨rfl, hb2⟩
    replace hb2 := Lib.hid hb2
    go_wp2_with fail
    go_ret
    exact ⟨rfl, hb2.out⟩
  have hli : (len : Int) ≤ 40 := by omega
  have hl40 : len ≤ 40 := by omega
  have hst := Lib.hid (start14_any w hT)
  have hat := Lib.hid (fun W' (hb : Below w.heap.size w W') => hx.at_.below hb)
  have hxl := Lib.hid hx.len
  have hTw := Lib.hid hT
  clear hx hT hl hnw
  go_enter Tryz.func5, Tryz.ntmps5
  go_wp2_with fail
  refine hst.out.mono ?_
  rintro _ w2 ⟨vb, d, g', pb, pa, la, lb, rfl, hS2⟩
  obtain ⟨W3, hW3⟩ : ∃ W3, Hid (W3 = w2.alloc (.cells #[.pointer (some ⟨vb, 0, none⟩), .pointer (some ⟨pb, 0, none⟩), .pointer (some ⟨la, 0, none⟩), .pointer (some ⟨lb, 0, none⟩)] 30)) := ⟨_, Lib.hid rfl⟩
  have hb3 : Below w2.heap.size w2 W3 := by rw [hW3.out]; exact allocBelow w2 _
  have hX3 : Whole W3 w2.heap.size 30 [.pointer (some ⟨vb, 0, none⟩), .pointer (some ⟨pb, 0, none⟩), .pointer (some ⟨la, 0, none⟩), .pointer (some ⟨lb, 0, none⟩)] := by rw [hW3.out]; exact Whole.new w2 _ _
  have hS3 := hS2.more hb3 hX3 (Nat.le_refl _) plainW
  obtain ⟨bx, hbx⟩ : ∃ bx, Hid (w2.heap.size = bx) := ⟨_, Lib.hid rfl⟩
  rw [hbx.out] at hS3
  replace hS3 := Lib.hid hS3
  clear hst hS2 hb3 hX3
  go_upto_region 4 with fail
  rw [← show W3 = _ from hW3.out, hbx.out]
  clear hW3 hbx
  go_wp2_with fail
  go_loopg [25] len (fun ga i wr => ∃ k : Nat, k ≤ len ∧ len ≤ k + ga ∧ i = .int .i64 (k : Int) ∧ Hid (LS w vb d g' pb pa lb 2 7 50 k [(bx, 30, [.pointer (some ⟨vb, 0, none⟩), .pointer (some ⟨pb, 0, none⟩), .pointer (some ⟨la, 0, none⟩), .pointer (some ⟨lb, 0, none⟩)]), (la, 119, lgL vb pb 1 7 none 0 0 0)] wr))
  case atStart => exact ⟨0, by omega, by omega, rfl, hS3⟩
  case round =>
    clear hS3
    obtain ⟨k, hk, hg, rfl, hrel⟩ := hrel
    generalize wr = wo at *
    by_cases hlt : k < len
    · obtain ⟨⟨fk, fp⟩, hf⟩ : ∃ f, xs[k]? = some f := ⟨_, List.getElem?_eq_getElem (by have := hxl.out; omega)⟩
      have hBo := hrel.out.since
      obtain ⟨b1, o1, rfl, l1, c0, c1⟩ := hat.out _ hBo k _ hf
      obtain ⟨V, hV⟩ : ∃ V, Hid (V = wo.alloc (.cells #[.int .i64 fk, .string fp] 43)) := ⟨_, Lib.hid rfl⟩
      have hbV : Below wo.heap.size wo V := by rw [hV.out]; exact allocBelow wo _
      have hXV : Whole V wo.heap.size 43 [.int .i64 fk, .string fp] := by rw [hV.out]; exact Whole.new wo _ _
      obtain ⟨fb, hfb⟩ : ∃ fb, Hid (wo.heap.size = fb) := ⟨_, Lib.hid rfl⟩
      rw [hfb.out] at hXV
      have d0 : V.cell? ⟨fb, 0, none⟩ = some (.int .i64 fk) := hXV.cell 0
      have d1 : V.cell? ⟨fb, 1, none⟩ = some (.string fp) := hXV.cell 1
      have hSV := hrel.out.below hbV
      have p3 : V.cell? ⟨bx, 3, none⟩ = some (.pointer (some ⟨lb, 0, none⟩)) := (hSV.got List.mem_cons_self).cell 3
      have hki : (k : Int) < (len : Int) := by omega
      have h8 := Lib.hid (heig.out V hSV.since)
      have hB8 := Lib.hid hSV.since
      replace hSV := Lib.hid hSV
      clear hrel hBo l1 hbV hXV hf
      go_upto_region 7 with fail
      rw [← show V = _ from hV.out, hfb.out]
      clear hV hfb c0 c1
      by_cases h9 : 900 < fp.size
      · have h9i : (900 : Int) < (fp.size : Int) := by omega
        clear hSV
        go_wp2_with fail
        refine h8.out.mono ?_
        rintro _ w5 ⟨rfl, hb5⟩
        have hfin := Lib.hid (grew hB8.out hb5)
        go_wp2_with fail
        go_ret
        exact ⟨rfl, hfin.out⟩
      · have h9i : (fp.size : Int) ≤ 900 := by omega
        have hap := Lib.hid (hSV.out.step fk fp (by omega) (by omega) (by decide) (by decide) (by decide) (by decide) hTw.out)
        clear h8 hB8 hSV
        go_wp2_with fail
        refine hap.out.mono ?_
        rintro _ w5 ⟨⟨u, v, rfl⟩, hS5⟩
        replace hS5 := Lib.hid hS5
        clear hap d0 d1 p3
        go_wp2_with fail
        go_roundg (gk - 1)
        case measure => omega
        case rel => exact ⟨k + 1, by omega, by omega, by go_num, hS5⟩
    · obtain rfl : k = len := by omega
      obtain ⟨ws, steps, l, ct, nx, segs, A, c, pk, h1, h2, h3, h4, h5, h6, h7, h8, h9, h10⟩ := hrel.out
      have hpn : Hid (Calls Tryz.prog 13 #[.int .i64 6, .int .i64 2] wo fun x w' => ∃ pb pa, x = .returned (.tuple #[.pointer (some ⟨pb, 0, none⟩), .int .i64 0]) ∧ Pl w' pb pa (List.replicate 6 0) 2 0 ∧ wo.heap.size ≤ pb ∧ wo.heap.size ≤ pa ∧ Below wo.heap.size wo w') := Lib.hid ((pnew_yes 6 2 wo (by decide) (by decide) (by decide)).mono fun e w' ⟨r1, r2, r3⟩ => ⟨_, _, r1, r2, Nat.le_succ _, Nat.le_refl _, r3⟩)
      have hs64 : segs.length ≤ 64 := by omega
      replace h1 := Lib.hid h1
      replace h10 := Lib.hid h10
      replace h9 := Lib.hid h9
      clear hrel hxl hat
      go_wp2_with fail
      refine hpn.out.mono ?_
      rintro _ w4 ⟨p2, a2, rfl, hp4, hpb, hpa, hb4⟩
      obtain ⟨KR, hKR⟩ : ∃ KR : List Bk, Hid (plK pb pa l 1 ct ++ ((lb, 119, lgL vb pb 2 7 A segs.length c nx) :: (pk ++ (segs.flatMap (Sr.K vb) ++ [(bx, 30, [.pointer (some ⟨vb, 0, none⟩), .pointer (some ⟨pb, 0, none⟩), .pointer (some ⟨la, 0, none⟩), .pointer (some ⟨lb, 0, none⟩)]), (la, 119, lgL vb pb 1 7 none 0 0 0)]))) = KR) := ⟨_, Lib.hid rfl⟩
      obtain ⟨KB, hKB⟩ : ∃ KB : List Bk, Hid (plK p2 a2 (List.replicate 6 0) 2 0 ++ KR = KB) := ⟨_, Lib.hid rfl⟩
      have hv4 := h1.out.vb_.newPool hb4 hp4 hpb hpa
      rw [hKR.out, hKB.out] at hv4
      have hmem : (bx, 30, [Value.pointer (some ⟨vb, 0, none⟩), .pointer (some ⟨pb, 0, none⟩), .pointer (some ⟨la, 0, none⟩), .pointer (some ⟨lb, 0, none⟩)]) ∈ KB := by rw [← hKB.out, ← hKR.out]; simp
      have hD := (Below.refl w4.heap.size w4).drew
      have hv4d := hv4.below hD
      have hlog := h1.out.at_.below (hb4.trans (hD.mono hb4.size))
      obtain ⟨N, hN⟩ : ∃ N, Hid (segs.length = N) := ⟨_, Lib.hid rfl⟩
      have hseg : Hid (Calls Tryz.prog 18 #[.pointer (some ⟨lb, 0, none⟩)] w4.drew fun e w' => ∃ g, e = .returned (.slice (some ⟨g, 0, none⟩) N N) ∧ VB w vb d g' (zeros 98) ws 0 98 steps ((g, 3, rowP (segs.map fun r => (r.n : Int))) :: KB) w') := Lib.hid ((segments_any hlog hs64).mono (by
        rintro e w' ⟨g, r1, r2, r3, r4⟩
        rw [hN.out] at r1
        exact ⟨g, r1, hv4d.new r4 r2 r3 (by decide)⟩))
      have hld : Hid (∀ (g : Nat) (V : World), VB w vb d g' (zeros 98) ws 0 98 steps ((g, 3, rowP (segs.map fun r => (r.n : Int))) :: KB) V → Calls Tryz.prog 17 #[.pointer (some ⟨vb, 0, none⟩), .slice (some ⟨g, 0, none⟩) N N] V fun e w' => ∃ rs A c pk, e = .returned (.slice A N c) ∧ (Again rs segs ∧ RowPt A c (rs.map Sr.sb) pk ∧ VB w vb d g' (zeros 98) ws 0 98 steps (pk ++ (rs.flatMap (Sr.K vb) ++ ((g, 3, rowP (segs.map fun r => (r.n : Int))) :: KB))) w')) := Lib.hid (fun g V hv => by
        have := loaded14_any segs g hv hs64 (fun r hr => by
          obtain ⟨k1, k2, k3, k4, k5⟩ := h10.out.hd r hr
          exact ⟨room14 r.n k4, ⟨by show 1 ≤ r.a; omega, by show r.a < 65536; omega, by show r.g < 4294967296; omega, (h1.out.fine r hr).st, k3⟩, h10.out.lay r hr, h10.out.head r hr⟩) hTw.out (by omega)
        rw [hN.out] at this
        refine this.mono ?_
        rintro e w' ⟨rs, A, c, pk, r1, r2, r3, r4⟩
        rw [r2.len, hN.out] at r1
        exact ⟨rs, A, c, pk, r1, r2, r3, r4⟩)
      have hLd : Hid (∀ rs, Again rs segs → Ld rs 2 7 50 nx) := Lib.hid (fun rs ha => by
        have := ld_of h1.out h10.out ha hs64
        rwa [h9.out] at this)
      have hB4 := Lib.hid hv4.since
      have y0 : w4.cell? ⟨bx, 0, none⟩ = some (.pointer (some ⟨vb, 0, none⟩)) := (hv4.got hmem).cell 0
      have y3 : w4.cell? ⟨bx, 3, none⟩ = some (.pointer (some ⟨lb, 0, none⟩)) := (hv4.got hmem).cell 3
      have hnx8 : Hid (nx ≤ 1099511628776) := Lib.hid h1.out.top
      have hpl4 : Hid (∀ K1 V, VB w vb d g' (zeros 98) ws 0 98 steps (K1 ++ KB) V → Pl V p2 a2 (List.replicate 6 0) 2 0) := Lib.hid (fun K1 V hv => ⟨hv.got (List.mem_append_right _ (by rw [← hKB.out]; exact List.mem_append_left _ List.mem_cons_self)), hv.got (List.mem_append_right _ (by rw [← hKB.out]; exact List.mem_append_left _ (List.mem_cons_of_mem _ List.mem_cons_self)))⟩)
      have hcell : Hid (∀ K1 V, VB w vb d g' (zeros 98) ws 0 98 steps (K1 ++ KB) V → V.cell? ⟨bx, 0, none⟩ = some (.pointer (some ⟨vb, 0, none⟩)) ∧ V.cell? ⟨bx, 3, none⟩ = some (.pointer (some ⟨lb, 0, none⟩))) := Lib.hid (fun K1 V hv => ⟨(hv.got (List.mem_append_right _ hmem)).cell 0, (hv.got (List.mem_append_right _ hmem)).cell 3⟩)
      clear h1 h10 h9 hpn hp4 hpb hpa hb4 hv4 hv4d hlog hD h2 h3 h4 h5 h6 h7 h8
      go_upto_region 15 with fail
      go_region_held3 (fun w' => w'.cell? ⟨bx, 0, none⟩ = some (.pointer (some ⟨vb, 0, none⟩)) ∧ w'.cell? ⟨bx, 3, none⟩ = some (.pointer (some ⟨lb, 0, none⟩))) (first | assumption | exact ⟨by assumption, by assumption⟩ | (go_keep)) (first
        | (go_at_call 18; (with_reducible refine hseg.out.mono ?_); rintro _ w5 ⟨g, rfl, hv5⟩; obtain ⟨f0, f3⟩ := hcell.out [_] w5 hv5; replace hv5 := Lib.hid hv5)
        | (go_at_call 17; (with_reducible refine (hld.out g w5 hv5.out).mono ?_); rintro _ w6 ⟨rs, A2, c2, pk2, rfl, hpost⟩; obtain ⟨q0, q3⟩ := hcell.out (pk2 ++ (rs.flatMap (Sr.K vb) ++ [(g, 3, rowP (segs.map fun r => (r.n : Int)))])) w6 (by have h1 := hpost.2.2; simp only [List.append_assoc, List.cons_append, List.nil_append] at h1 ⊢; exact h1); replace hpost := Lib.hid hpost))
      all_goals
        clear y0 y3 f0 f3 hseg hld hv5
        obtain ⟨r1, r2, r3⟩ := hpost.out
        have hlds := hLd.out rs r1
        have hrl : Hid (rs.length = N) := Lib.hid (by rw [r1.len, hN.out])
        have hpl6 := Lib.hid (hpl4.out (pk2 ++ (rs.flatMap (Sr.K vb) ++ [(g, 3, rowP (segs.map fun r => (r.n : Int)))])) w6 (by simp only [List.append_assoc, List.cons_append, List.nil_append]; exact r3))
        have hB6 := Lib.hid r3.since
        replace r3 := Lib.hid r3
        replace r2 := Lib.hid r2
        replace hlds := Lib.hid hlds
        clear r1 hpost hLd
        -- WAYS
        have hN64 : N ≤ 64 := by rw [← hrl.out]; exact hlds.out.len
        rcases Nat.eq_zero_or_pos N with hN0 | hNp
        · subst hN0
          have h8 := Lib.hid (heig.out w6 hB6.out)
          clear q0 q3
          go_wp2_with fail
          refine h8.out.mono ?_
          rintro _ w7 ⟨rfl, hb7⟩
          have hfin := Lib.hid (grew hB6.out hb7)
          go_wp2_with fail
          go_ret
          exact ⟨rfl, hfin.out⟩
        · have hn1 : ((N : Int) == 0) = false := by simp; omega
          have hn2 : ¬ N = 0 := by omega
          have hn3 : (0 : Int) < (N : Int) := by omega
          by_cases e0 : n = 0
          · subst e0
            have hos := os_of r3.out r2.out hlds.out
            have hcur := Lib.hid (And.intro hos (And.intro hpl6.out hB6.out))
            have hx0 := q0
            clear hos
            have hnw := Lib.hid (log_new_yes (vb := vb) p2 3 7 50 w6 (hTw.out.below hcur.out.2.2) (by decide) (by decide) (by decide) (by decide))
            go_wp2_with fail
            refine hnw.out.mono ?_
            rintro _ w8 ⟨l2, rfl, hl2, hL8, hb8⟩
            have hown := isOwn_any vb l2 p2 3 7 50 0 c2 N none A2 (rs.map some) w8 hL8 (hcur.out.1.below hb8) (by rw [List.length_map, hrl.out]) (by omega) (by decide)
            have hadn := Lib.hid (adopt_no l2 0 none (.slice A2 N c2) w8 (hL8.cell 4) (hown.mono (by
              rintro e w' ⟨⟨R, rfl, hR⟩, hb⟩
              cases R with
              | false => exact ⟨rfl, hb⟩
              | true =>
                obtain ⟨r, e1, e2, _⟩ := hR.1 rfl 0 hNp
                rw [List.getElem?_map] at e1
                cases hr : rs[0]? with
                | none => rw [hr] at e1; cases e1
                | some r' =>
                  rw [hr] at e1; cases e1
                  have := (hlds.out.fix r (List.mem_of_getElem? hr)).1
                  omega
            )))
            have hB8 := Lib.hid (grew hcur.out.2.2 hb8)
            have hpl8 := Lib.hid (hcur.out.2.1.grow hb8)
            replace hL8 := Lib.hid hL8
            clear hown hb8 hnw hl2 hx0 hcur q0 q3
            go_wp2_with fail
            refine hadn.out.mono ?_
            rintro _ w9 ⟨rfl, hb9⟩
            have hB9 := Lib.hid (grew hB8.out hb9)
            have hpl9 := hpl8.out.grow hb9
            have hL9 := Lib.hid (hL8.out.below hb9 hL8.out.lt)
            have hfr := pfree_any hpl9 (by decide)
            rw [show freeN (List.replicate 6 0) = 6 from by decide] at hfr
            replace hfr := Lib.hid hfr
            clear hadn hB8 hpl8 hL8 hb9 hpl9
            go_wp2_with fail
            refine hfr.out.mono ?_
            rintro _ w10 ⟨rfl, hb10⟩
            have hB10 := Lib.hid (grew hB9.out hb10)
            have hL10 := Lib.hid (hL9.out.below hb10 hL9.out.lt)
            have hsn := Lib.hid (segments_any (noSegs (vb := vb) hL10.out (by decide)) (by decide))
            clear hfr hB9 hL9 hb10
            go_wp2_with fail
            refine hsn.out.mono ?_
            rintro _ w11 ⟨gs, rfl, _, _, hb11⟩
            have hB11 := Lib.hid (grew hB10.out hb11)
            have hnx := Lib.hid (next_any l2 (.int .i64 ((50 : Nat) : Int)) w11 ((hL10.out.below hb11 hL10.out.lt).cell 5))
            clear hsn hB10 hL10 hb11
            go_wp2_with fail
            refine hnx.out.mono ?_
            rintro _ _ ⟨rfl, rfl⟩
            have h8 := Lib.hid (heig.out w11 hB11.out)
            clear hnx
            go_wp2_with fail
            refine h8.out.mono ?_
            rintro _ w12 ⟨rfl, hb12⟩
            have hfin := Lib.hid (grew hB11.out hb12)
            go_wp2_with fail
            go_ret
            exact ⟨rfl, hfin.out⟩
          by_cases e1 : n = 1
          · subst e1
            have hos := os_of r3.out r2.out hlds.out
            have hcur := Lib.hid (And.intro hos (And.intro hpl6.out hB6.out))
            have hx0 := q0
            clear hos
            have hnw := Lib.hid (log_new_yes (vb := vb) p2 2 8 50 w6 (hTw.out.below hcur.out.2.2) (by decide) (by decide) (by decide) (by decide))
            go_wp2_with fail
            refine hnw.out.mono ?_
            rintro _ w8 ⟨l2, rfl, hl2, hL8, hb8⟩
            have hown := isOwn_any vb l2 p2 2 8 50 0 c2 N none A2 (rs.map some) w8 hL8 (hcur.out.1.below hb8) (by rw [List.length_map, hrl.out]) (by omega) (by decide)
            have hadn := Lib.hid (adopt_no l2 0 none (.slice A2 N c2) w8 (hL8.cell 4) (hown.mono (by
              rintro e w' ⟨⟨R, rfl, hR⟩, hb⟩
              cases R with
              | false => exact ⟨rfl, hb⟩
              | true =>
                obtain ⟨r, e1, _, e2, _⟩ := hR.1 rfl 0 hNp
                rw [List.getElem?_map] at e1
                cases hr : rs[0]? with
                | none => rw [hr] at e1; cases e1
                | some r' =>
                  rw [hr] at e1; cases e1
                  have := (hlds.out.fix r (List.mem_of_getElem? hr)).2.1
                  omega
            )))
            have hB8 := Lib.hid (grew hcur.out.2.2 hb8)
            have hpl8 := Lib.hid (hcur.out.2.1.grow hb8)
            replace hL8 := Lib.hid hL8
            clear hown hb8 hnw hl2 hx0 hcur q0 q3
            go_wp2_with fail
            refine hadn.out.mono ?_
            rintro _ w9 ⟨rfl, hb9⟩
            have hB9 := Lib.hid (grew hB8.out hb9)
            have hpl9 := hpl8.out.grow hb9
            have hL9 := Lib.hid (hL8.out.below hb9 hL8.out.lt)
            have hfr := pfree_any hpl9 (by decide)
            rw [show freeN (List.replicate 6 0) = 6 from by decide] at hfr
            replace hfr := Lib.hid hfr
            clear hadn hB8 hpl8 hL8 hb9 hpl9
            go_wp2_with fail
            refine hfr.out.mono ?_
            rintro _ w10 ⟨rfl, hb10⟩
            have hB10 := Lib.hid (grew hB9.out hb10)
            have hL10 := Lib.hid (hL9.out.below hb10 hL9.out.lt)
            have hsn := Lib.hid (segments_any (noSegs (vb := vb) hL10.out (by decide)) (by decide))
            clear hfr hB9 hL9 hb10
            go_wp2_with fail
            refine hsn.out.mono ?_
            rintro _ w11 ⟨gs, rfl, _, _, hb11⟩
            have hB11 := Lib.hid (grew hB10.out hb11)
            have hnx := Lib.hid (next_any l2 (.int .i64 ((50 : Nat) : Int)) w11 ((hL10.out.below hb11 hL10.out.lt).cell 5))
            clear hsn hB10 hL10 hb11
            go_wp2_with fail
            refine hnx.out.mono ?_
            rintro _ _ ⟨rfl, rfl⟩
            have h8 := Lib.hid (heig.out w11 hB11.out)
            clear hnx
            go_wp2_with fail
            refine h8.out.mono ?_
            rintro _ w12 ⟨rfl, hb12⟩
            have hfin := Lib.hid (grew hB11.out hb12)
            go_wp2_with fail
            go_ret
            exact ⟨rfl, hfin.out⟩
          by_cases e2 : n = 2
          · subst e2
            have hos := os_of r3.out r2.out hlds.out
            have hcur := Lib.hid (And.intro hos (And.intro hpl6.out hB6.out))
            have hx0 := q0
            clear hos
            have hnw := Lib.hid (log_new_yes (vb := vb) p2 2 7 49 w6 (hTw.out.below hcur.out.2.2) (by decide) (by decide) (by decide) (by decide))
            go_wp2_with fail
            refine hnw.out.mono ?_
            rintro _ w8 ⟨l2, rfl, hl2, hL8, hb8⟩
            have hown := isOwn_any vb l2 p2 2 7 49 0 c2 N none A2 (rs.map some) w8 hL8 (hcur.out.1.below hb8) (by rw [List.length_map, hrl.out]) (by omega) (by decide)
            have hadn := Lib.hid (adopt_no l2 0 none (.slice A2 N c2) w8 (hL8.cell 4) (hown.mono (by
              rintro e w' ⟨⟨R, rfl, hR⟩, hb⟩
              cases R with
              | false => exact ⟨rfl, hb⟩
              | true =>
                obtain ⟨r, e1, _, _, e2, _⟩ := hR.1 rfl 0 hNp
                rw [List.getElem?_map] at e1
                cases hr : rs[0]? with
                | none => rw [hr] at e1; cases e1
                | some r' =>
                  rw [hr] at e1; cases e1
                  have h1 := hlds.out.head r hr
                  have h2 := e2 rfl
                  omega
            )))
            have hB8 := Lib.hid (grew hcur.out.2.2 hb8)
            have hpl8 := Lib.hid (hcur.out.2.1.grow hb8)
            replace hL8 := Lib.hid hL8
            clear hown hb8 hnw hl2 hx0 hcur q0 q3
            go_wp2_with fail
            refine hadn.out.mono ?_
            rintro _ w9 ⟨rfl, hb9⟩
            have hB9 := Lib.hid (grew hB8.out hb9)
            have hpl9 := hpl8.out.grow hb9
            have hL9 := Lib.hid (hL8.out.below hb9 hL8.out.lt)
            have hfr := pfree_any hpl9 (by decide)
            rw [show freeN (List.replicate 6 0) = 6 from by decide] at hfr
            replace hfr := Lib.hid hfr
            clear hadn hB8 hpl8 hL8 hb9 hpl9
            go_wp2_with fail
            refine hfr.out.mono ?_
            rintro _ w10 ⟨rfl, hb10⟩
            have hB10 := Lib.hid (grew hB9.out hb10)
            have hL10 := Lib.hid (hL9.out.below hb10 hL9.out.lt)
            have hsn := Lib.hid (segments_any (noSegs (vb := vb) hL10.out (by decide)) (by decide))
            clear hfr hB9 hL9 hb10
            go_wp2_with fail
            refine hsn.out.mono ?_
            rintro _ w11 ⟨gs, rfl, _, _, hb11⟩
            have hB11 := Lib.hid (grew hB10.out hb11)
            have hnx := Lib.hid (next_any l2 (.int .i64 ((49 : Nat) : Int)) w11 ((hL10.out.below hb11 hL10.out.lt).cell 5))
            clear hsn hB10 hL10 hb11
            go_wp2_with fail
            refine hnx.out.mono ?_
            rintro _ _ ⟨rfl, rfl⟩
            have h8 := Lib.hid (heig.out w11 hB11.out)
            clear hnx
            go_wp2_with fail
            refine h8.out.mono ?_
            rintro _ w12 ⟨rfl, hb12⟩
            have hfin := Lib.hid (grew hB11.out hb12)
            go_wp2_with fail
            go_ret
            exact ⟨rfl, hfin.out⟩
          by_cases e3 : n = 3
          · subst e3
            have hown6 := r2.out.own (fun x hx => r3.out.got (List.mem_append_left _ hx))
            rw [List.length_map, hrl.out] at hown6
            obtain ⟨i0, hi0, hz0, hz1, hz2⟩ := info_parts infoPt
            replace hown6 := Lib.hid hown6
            go_wp2_with (with_reducible refine zAppend _ _ _ rfl ?_)
            refine Lib.hid ?_
            refine wpList_append_lies _ rfl _ _ 58 rfl 0 77 i0 _ 1 8 Tryz.underlying58 hi0 hz0 hz1 hz2 rfl (by omega) (.slice A2 N c2) N ((rs.map Sr.sb).map ptV) rfl (hown6.out.alloc _) _ 1 1 [.pointer none] rfl rfl (World.news_of_block (heap_alloc_new _ _)) (by simp [Value.oneCell']) (by omega) (by unfold maxLen; omega) (by omega) (Nat.zero_le _) (w6.heap.size + 1) (by simp) ?_
            intro gg cap7 w7 hown7 hgrow7 hat7 hlt7
            rw [← hrl.out] at hown7 hgrow7
            obtain ⟨hos, hv7⟩ := os_more (o := none) r3.out r2.out hlds.out hgrow7 hown7 (fun r e => by cases e)
            obtain ⟨hx0, _⟩ := hcell.out (rs.flatMap (Sr.K vb) ++ [(g, 3, rowP (segs.map fun r => (r.n : Int)))]) w7 (by simp only [List.append_assoc, List.cons_append, List.nil_append]; exact hv7)
            have hcur := Lib.hid (And.intro hos (And.intro (hpl4.out (rs.flatMap (Sr.K vb) ++ [(g, 3, rowP (segs.map fun r => (r.n : Int)))]) w7 (by simp only [List.append_assoc, List.cons_append, List.nil_append]; exact hv7)) hv7.since))
            clear hown7 hgrow7 hat7 hlt7 hos hv7 hown6 hi0 hz0 hz1 hz2 q0 q3
            have hnw := Lib.hid (log_new_yes (vb := vb) p2 2 7 50 w7 (hTw.out.below hcur.out.2.2) (by decide) (by decide) (by decide) (by decide))
            go_wp2_with fail
            refine hnw.out.mono ?_
            rintro _ w8 ⟨l2, rfl, hl2, hL8, hb8⟩
            have hown := isOwn_any vb l2 p2 2 7 50 0 cap7 (N + 1) none (some ⟨gg, 0, none⟩) (rs.map some ++ [none]) w8 hL8 (hcur.out.1.below hb8) (by rw [List.length_append, List.length_map, hrl.out]; rfl) (by omega) (by decide)
            have hadn := Lib.hid (adopt_no l2 0 none (.slice (some ⟨gg, 0, none⟩) (N + 1) cap7) w8 (hL8.cell 4) (hown.mono (by
              rintro e w' ⟨⟨R, rfl, hR⟩, hb⟩
              cases R with
              | false => exact ⟨rfl, hb⟩
              | true =>
                obtain ⟨r, e1, _⟩ := hR.1 rfl N (Nat.lt_succ_self _)
                rw [List.getElem?_append_right (by rw [List.length_map, hrl.out]; exact Nat.le_refl _), List.length_map, hrl.out, Nat.sub_self] at e1
                cases e1
            )))
            have hB8 := Lib.hid (grew hcur.out.2.2 hb8)
            have hpl8 := Lib.hid (hcur.out.2.1.grow hb8)
            replace hL8 := Lib.hid hL8
            clear hown hb8 hnw hl2 hx0 hcur
            go_wp2_with fail
            refine hadn.out.mono ?_
            rintro _ w9 ⟨rfl, hb9⟩
            have hB9 := Lib.hid (grew hB8.out hb9)
            have hpl9 := hpl8.out.grow hb9
            have hL9 := Lib.hid (hL8.out.below hb9 hL8.out.lt)
            have hfr := pfree_any hpl9 (by decide)
            rw [show freeN (List.replicate 6 0) = 6 from by decide] at hfr
            replace hfr := Lib.hid hfr
            clear hadn hB8 hpl8 hL8 hb9 hpl9
            go_wp2_with fail
            refine hfr.out.mono ?_
            rintro _ w10 ⟨rfl, hb10⟩
            have hB10 := Lib.hid (grew hB9.out hb10)
            have hL10 := Lib.hid (hL9.out.below hb10 hL9.out.lt)
            have hsn := Lib.hid (segments_any (noSegs (vb := vb) hL10.out (by decide)) (by decide))
            clear hfr hB9 hL9 hb10
            go_wp2_with fail
            refine hsn.out.mono ?_
            rintro _ w11 ⟨gs, rfl, _, _, hb11⟩
            have hB11 := Lib.hid (grew hB10.out hb11)
            have hnx := Lib.hid (next_any l2 (.int .i64 ((50 : Nat) : Int)) w11 ((hL10.out.below hb11 hL10.out.lt).cell 5))
            clear hsn hB10 hL10 hb11
            go_wp2_with fail
            refine hnx.out.mono ?_
            rintro _ _ ⟨rfl, rfl⟩
            have h8 := Lib.hid (heig.out w11 hB11.out)
            clear hnx
            go_wp2_with fail
            refine h8.out.mono ?_
            rintro _ w12 ⟨rfl, hb12⟩
            have hfin := Lib.hid (grew hB11.out hb12)
            go_wp2_with fail
            go_ret
            exact ⟨rfl, hfin.out⟩
          by_cases e4 : n = 4
          · subst e4
            obtain ⟨r0, hr0⟩ : ∃ r, rs[0]? = some r := ⟨_, List.getElem?_eq_getElem (by have := hrl.out; omega)⟩
            obtain ⟨qa, rfl, hca⟩ := (os_of r3.out r2.out hlds.out).row 0 (some r0) (by rw [List.getElem?_map, hr0]; rfl)
            have hca2 : w6.cell? ⟨qa, 0, none⟩ = some (ptV r0.sb) := hca
            replace hr0 := Lib.hid hr0
            clear hca
            have hown6 := r2.out.own (fun x hx => r3.out.got (List.mem_append_left _ hx))
            rw [List.length_map, hrl.out] at hown6
            obtain ⟨i0, hi0, hz0, hz1, hz2⟩ := info_parts infoPt
            replace hown6 := Lib.hid hown6
            go_wp2_with (with_reducible refine zAppend _ _ _ rfl ?_)
            refine Lib.hid ?_
            refine wpList_append_lies _ rfl _ _ 58 rfl 0 77 i0 _ 1 8 Tryz.underlying58 hi0 hz0 hz1 hz2 rfl (by omega) (.slice (some ⟨qa, 0, none⟩) N c2) N ((rs.map Sr.sb).map ptV) rfl (hown6.out.alloc _) _ 1 1 [ptV r0.sb] rfl rfl (World.news_of_block (heap_alloc_new _ _)) (by simp [Value.oneCell']) (by omega) (by unfold maxLen; omega) (by omega) (Nat.zero_le _) (w6.heap.size + 1) (by simp) ?_
            intro gg cap7 w7 hown7 hgrow7 hat7 hlt7
            rw [← hrl.out] at hown7 hgrow7
            obtain ⟨hos, hv7⟩ := os_more (o := (some r0)) r3.out r2.out hlds.out hgrow7 hown7 (fun r e => by cases e; exact List.mem_of_getElem? hr0.out)
            obtain ⟨hx0, _⟩ := hcell.out (rs.flatMap (Sr.K vb) ++ [(g, 3, rowP (segs.map fun r => (r.n : Int)))]) w7 (by simp only [List.append_assoc, List.cons_append, List.nil_append]; exact hv7)
            have hcur := Lib.hid (And.intro hos (And.intro (hpl4.out (rs.flatMap (Sr.K vb) ++ [(g, 3, rowP (segs.map fun r => (r.n : Int)))]) w7 (by simp only [List.append_assoc, List.cons_append, List.nil_append]; exact hv7)) hv7.since))
            clear hown7 hgrow7 hat7 hlt7 hos hv7 hown6 hi0 hz0 hz1 hz2 q0 q3 hca2
            have hnw := Lib.hid (log_new_yes (vb := vb) p2 2 7 50 w7 (hTw.out.below hcur.out.2.2) (by decide) (by decide) (by decide) (by decide))
            go_wp2_with fail
            refine hnw.out.mono ?_
            rintro _ w8 ⟨l2, rfl, hl2, hL8, hb8⟩
            have hown := isOwn_any vb l2 p2 2 7 50 0 cap7 (N + 1) none (some ⟨gg, 0, none⟩) (rs.map some ++ [(some r0)]) w8 hL8 (hcur.out.1.below hb8) (by rw [List.length_append, List.length_map, hrl.out]; rfl) (by omega) (by decide)
            have hadn := Lib.hid (adopt_no l2 0 none (.slice (some ⟨gg, 0, none⟩) (N + 1) cap7) w8 (hL8.cell 4) (hown.mono (by
              rintro e w' ⟨⟨R, rfl, hR⟩, hb⟩
              cases R with
              | false => exact ⟨rfl, hb⟩
              | true =>
                obtain ⟨r, e1, _, _, _, e2⟩ := hR.1 rfl N (Nat.lt_succ_self _)
                rw [List.getElem?_append_right (by rw [List.length_map, hrl.out]; exact Nat.le_refl _), List.length_map, hrl.out, Nat.sub_self] at e1
                cases e1
                obtain ⟨j, hj⟩ : ∃ j, N = j + 1 := ⟨N - 1, by omega⟩
                obtain ⟨p, e3, e4⟩ := e2 j hj
                rw [List.getElem?_append_left (by rw [List.length_map, hrl.out]; omega), List.getElem?_map] at e3
                cases hp : rs[j]? with
                | none => rw [hp] at e3; cases e3
                | some p' =>
                  rw [hp] at e3; cases e3
                  have h1 := hlds.out.head r0 hr0.out
                  have h2 := hlds.out.low p (List.mem_of_getElem? hp)
                  have h3 := List.length_pos_iff.2 (hlds.out.fix p (List.mem_of_getElem? hp)).2.2.2.2.1
                  omega
            )))
            have hB8 := Lib.hid (grew hcur.out.2.2 hb8)
            have hpl8 := Lib.hid (hcur.out.2.1.grow hb8)
            replace hL8 := Lib.hid hL8
            clear hown hb8 hnw hl2 hx0 hcur
            go_wp2_with fail
            refine hadn.out.mono ?_
            rintro _ w9 ⟨rfl, hb9⟩
            have hB9 := Lib.hid (grew hB8.out hb9)
            have hpl9 := hpl8.out.grow hb9
            have hL9 := Lib.hid (hL8.out.below hb9 hL8.out.lt)
            have hfr := pfree_any hpl9 (by decide)
            rw [show freeN (List.replicate 6 0) = 6 from by decide] at hfr
            replace hfr := Lib.hid hfr
            clear hadn hB8 hpl8 hL8 hb9 hpl9
            go_wp2_with fail
            refine hfr.out.mono ?_
            rintro _ w10 ⟨rfl, hb10⟩
            have hB10 := Lib.hid (grew hB9.out hb10)
            have hL10 := Lib.hid (hL9.out.below hb10 hL9.out.lt)
            have hsn := Lib.hid (segments_any (noSegs (vb := vb) hL10.out (by decide)) (by decide))
            clear hfr hB9 hL9 hb10
            go_wp2_with fail
            refine hsn.out.mono ?_
            rintro _ w11 ⟨gs, rfl, _, _, hb11⟩
            have hB11 := Lib.hid (grew hB10.out hb11)
            have hnx := Lib.hid (next_any l2 (.int .i64 ((50 : Nat) : Int)) w11 ((hL10.out.below hb11 hL10.out.lt).cell 5))
            clear hsn hB10 hL10 hb11
            go_wp2_with fail
            refine hnx.out.mono ?_
            rintro _ _ ⟨rfl, rfl⟩
            have h8 := Lib.hid (heig.out w11 hB11.out)
            clear hnx
            go_wp2_with fail
            refine h8.out.mono ?_
            rintro _ w12 ⟨rfl, hb12⟩
            have hfin := Lib.hid (grew hB11.out hb12)
            go_wp2_with fail
            go_ret
            exact ⟨rfl, hfin.out⟩
          have b0 : (n == 0) = false := by simpa using e0
          have b1 : (n == 1) = false := by simpa using e1
          have b2 : (n == 2) = false := by simpa using e2
          have b3 : (n == 3) = false := by simpa using e3
          have b4 : (n == 4) = false := by simpa using e4
          clear e0 e1 e2 e3 e4
          have hos := os_of r3.out r2.out hlds.out
          have hnw := Lib.hid (log_new_yes (vb := vb) p2 2 7 50 w6 (hTw.out.below hB6.out) (by decide) (by decide) (by decide) (by decide))
          go_wp2_with fail
          refine hnw.out.mono ?_
          rintro _ w8 ⟨l2, rfl, hl2, hL8, hb8⟩
          have hown := isOwn_any vb l2 p2 2 7 50 0 c2 N none A2 (rs.map some) w8 hL8 (hos.below hb8) (by rw [List.length_map, hrl.out]) (by omega) (by decide)
          have hown2 : Calls Tryz.prog 56 #[.pointer (some ⟨l2, 0, none⟩), .slice A2 rs.length c2] w8 fun e w' => e = .returned (.bool true) ∧ Below w8.heap.size w8 w' := by
            rw [hrl.out]
            refine hown.mono ?_
            rintro e w' ⟨⟨R, rfl, hR⟩, hb⟩
            have hall : ∀ i, i < N → OwnAt 2 7 50 (rs.map some) i := fun i hi => hlds.out.own i (by rw [hrl.out]; exact hi) (rs.map some) (fun j hj => by
              rw [List.getElem?_map]
              rw [List.getElem?_eq_getElem hj]; rfl)
            rw [hR.2 hall]
            exact ⟨rfl, hb⟩
          have hv8 := r3.out.new hb8 hL8 hl2 plainLg
          rw [← hKB.out] at hv8
          have hv9 := hv8.perm (K' := plK p2 a2 (List.replicate 6 0) 2 0 ++ ((l2, 119, lgL vb p2 2 7 none 0 0 50) :: (pk2 ++ (rs.flatMap (Sr.K vb) ++ ((g, 3, rowP (segs.map fun r => (r.n : Int))) :: KR))))) (perm_by fun a => by simp only [List.count_append, List.count_cons]; omega)
          have hz6 : ∀ r ∈ rs, r.n < (List.replicate 6 (0 : Int)).length ∧ (List.replicate 6 (0 : Int))[r.n]? = some 0 := fun r hr => by
            have h6 := (hlds.out.fix r hr).2.2.2.2.2.1
            exact ⟨by rw [List.length_replicate]; exact h6, by rw [List.getElem?_replicate, if_pos h6]⟩
          have had := adopt_yes p2 a2 l2 2 7 50 c2 2 0 A2 (List.replicate 6 0) rs pk2 hv9 r2.out hlds.out.len (by decide) (by decide) hz6 hlds.out.apart (fun r hr => (hlds.out.fix r hr).2.2.2.2.2.2) (fun r hr => ⟨(hlds.out.fix r hr).2.2.1, (hlds.out.fix r hr).2.2.2.1⟩) hown2
          have hfn := freeN_clm 2 (by decide) rs (List.replicate 6 0) hlds.out.apart hz6
          rw [show freeN (List.replicate 6 0) = 6 from by decide, hrl.out] at hfn
          rw [hrl.out] at had
          obtain ⟨F, hF⟩ : ∃ F : Nat, Hid (freeN (clm 2 (List.replicate 6 0) rs) = F) := ⟨_, Lib.hid rfl⟩
          rw [hF.out] at hfn
          have hw6 : IntKind.i64.wrap (6 - (N : Int)) = (F : Int) := by rw [IntWalk.i64_in _ (by omega)]; omega
          have hFF : ((F : Int) == (F : Int)) = true := by simp
          replace had := Lib.hid had
          clear hown hown2 hv8 hv9 hos hL8 hl2 hb8 hnw q0 q3 hz6
          go_wp2_with fail
          refine had.out.mono ?_
          rintro _ w9 ⟨rfl, A9, c9, nx9, pk9, hv9⟩
          have hL9 := hv9.got (x := (l2, 119, lgL vb p2 2 7 A9 N c9 nx9)) (List.mem_append_right _ List.mem_cons_self)
          have hag := Lib.hid (adopt_again l2 N c9 A9 (.slice none 0 0) w9 (hL9.cell 4) hNp)
          have hfr := pfree_any hv9.pool (by rw [clm_len]; decide)
          rw [hF.out] at hfr
          replace hfr := Lib.hid hfr
          have hB9 := Lib.hid hv9.since
          clear hv9 hL9 had
          go_wp2_with fail
          refine hag.out.mono ?_
          rintro _ _ ⟨rfl, rfl⟩
          clear hag
          go_wp2_with fail
          refine hfr.out.mono ?_
          rintro _ w10 ⟨rfl, hb10⟩
          have hB10 := Lib.hid (grew hB9.out hb10)
          have h8 := Lib.hid (heig.out w10 hB10.out)
          clear hfr hB9 hb10
          go_wp2_with fail
          refine h8.out.mono ?_
          rintro _ w12 ⟨rfl, hb12⟩
          have hfin := Lib.hid (grew hB10.out hb12)
          go_wp2_with fail
          go_ret
          exact ⟨rfl, hfin.out⟩

theorem own : ownKnob Tryz.prog.godebug = none := by kernel_rfl
theorem laidOut : laidOutB Tryz.prog = true := by kernel_rfl
theorem gW : Tryz.prog.globalNamed "weighlock/header.widths" = some 0 := by kernel_rfl
theorem gWType : (Tryz.prog.globals[0]?).map (·.type) = some 192 := by kernel_rfl
theorem cellsW4 : Tryz.prog.cellsOf 192 = 4 := by kernel_rfl
theorem cellsW1 : Tryz.prog.cellsOf 3 = 1 := by kernel_rfl
/-- What the row's list gives: the table's numbers. -/
theorem table {W : World} (h : laidMetH Tryz.prog Rows.seglogWrongRow.laid W) : Lib.TabIs Tryz.prog W "weighlock/header.widths" .i64 [2, 4, 4, 8] :=
  Lib.tabIs_of_head (rest := []) gW gWType Tryz.underlying192 Tryz.underlying3 cellsW1 cellsW4 h

set_option maxRecDepth 100000 in
theorem contract (H : Type) (enc : TypeId × Value → H) (W : World) (base : Nat) (args : Array Value) (ds gs : List (DataW H)) (before : List MemPlace)
    (hval : ∀ (j : Nat) t v, Tryz.f5.params[j]? = some t → args[j]? = some v → Value.okWide Tryz.prog W .any base t v)
    (hW : DataW.Whole enc Tryz.prog Tryz.f5.params.toList Rows.seglogWrongSpec.vars false W args.toList ds gs before) (hL : laidMetH Tryz.prog Rows.seglogWrongRow.laid W) :
    Calls Tryz.prog 5 args W fun e W' => ∃ v, e = .returned v ∧ Rows.seglogWrongSpec.post enc Tryz.prog Tryz.f5 false true false false W args v W' := by
  have hTb : Wide W := fun i hi => by
    match i, hi with
    | 0, _ => exact (table hL).cell gW 0 (by decide)
    | 1, _ => exact (table hL).cell gW 1 (by decide)
    | 2, _ => exact (table hL).cell gW 2 (by decide)
    | 3, _ => exact (table hL).cell gW 3 (by decide)
  have hW' := hW
  obtain ⟨p, q, hA0, hV, rfl, hfz, hnd⟩ := hW
  have hA : DataW.TrodAll enc Tryz.prog W 0 (fun _ => true) true Tryz.f5.params.toList args.toList ds p := hA0
  rw [Tryz.params5] at hA hval
  obtain ⟨v0, vs0, d0, ds0, p0, q0, hargs, rfl, rfl, h0, r0⟩ := trodAll_cons hA
  obtain ⟨v1, vs1, d1, ds1, p1, q1, rfl, rfl, rfl, h1, r1⟩ := trodAll_cons r0
  obtain ⟨rfl, rfl, rfl⟩ := trodAll_nil r1
  obtain rfl : args = #[v0, v1] := by cases args; simp_all
  obtain ⟨rfl, rfl⟩ := trodVars_none hV
  obtain ⟨a0, len0, cap0, rfl⟩ := okWide_slice Tryz.underlying49 (hval 0 49 v0 rfl rfl)
  have k0 := h0
  have lt0 : ∀ x ∈ p0, x.block < W.heap.size := by obtain ⟨m, hm⟩ := k0; exact DataW.trod_lt m _ _ _ hm
  obtain ⟨fu0, hf0⟩ := h0
  obtain ⟨z0, w0⟩ := open_frames (show DataW.trod enc Tryz.prog W 0 (fun _ => true) true fu0 49 [.slice a0 len0 cap0] = some _ from hf0)
  obtain ⟨a1, rfl, rfl, rfl, w1⟩ := open_int Tryz.underlying3 (hval 1 3 v1 rfl rfl) h1
  clear hA0
  refine (walk a0 len0 cap0 z0 a1 W hTb w0 w1).mono fun e W' ⟨he, bel⟩ => ?_
  subst he
  exact ⟨_, rfl, _, _, _, [], _, [], hW', trodAll_mk1 (shut_bool Tryz.underlying4 _), (trodAll_cons_mk (Below.trod laidOut (by kernel_rfl) (of_decide_eq_true (by kernel_rfl)) k0 bel lt0) (trodAll_cons_mk (shut_int Tryz.underlying3 w1) trodAll_mk0)), rfl, bel.frame _, fun h => by cases h⟩

/-- A world for the witness: the settled one, the table as its initialiser lays it. -/
noncomputable def laidWorld (os : Os) : World :=
  { World.holding Tryz.prog os ⟨#[], #[], []⟩ with heap := (World.holding Tryz.prog os ⟨#[], #[], []⟩).heap.modify 0 fun
      | .cells _ t frozen => .cells #[.int .i64 2, .int .i64 4, .int .i64 4, .int .i64 8] t frozen
      | o => o }
theorem laid_met (os : Os) : laidMet Tryz.prog Rows.seglogWrongRow.laid ((laidWorld os).forCall (fun _ _ => 0) ⟨#[], #[.slice none 0 0, .int .i64 0], []⟩).memory :=
  laidMet_of_run' 8 (by kernel_rfl) (by kernel_rfl)
theorem reads (os : Os) {H : Type} (enc : TypeId × Value → H) : ∃ places, DataW.whole enc Tryz.prog ((laidWorld os).forCall (fun _ _ => 0) ⟨#[], #[.slice none 0 0, .int .i64 0], []⟩).memory Tryz.f5.params.toList Rows.seglogWrongSpec.vars false (#[.slice none 0 0, .int .i64 0] : Array Value).toList 8 = some ([.nil, .lit (.int .i64 0)], [], places) :=
  ⟨[], by kernel_rfl⟩
set_option maxRecDepth 100000 in
theorem lifted (os : Os) (started : os.Started) (H : Type) (enc : TypeId × Value → H) (F : Stop.Interp) :
    ReturnsInHanded {} Tryz.checked os 5 .any ((OpenSpec.ofChange Rows.seglogWrongSpec).preRow enc Tryz.prog Tryz.f5 Rows.seglogWrongRow.domain false Rows.seglogWrongRow.laid) (((OpenSpec.ofChange Rows.seglogWrongSpec).at F).post enc Tryz.prog Tryz.f5 false true false false) := by
  obtain ⟨places, hx⟩ := reads os enc
  refine returnsInHanded_of_row (C := Tryz.checked) (s := OpenSpec.ofChange Rows.seglogWrongSpec) own started (by kernel_rfl) Tryz.func5
    (witness_row_at (enc := enc) (C := Tryz.checked) false (laidWorld os) #[.slice none 0 0, .int .i64 0] rfl (by kernel_rfl) (by kernel_rfl) (by kernel_rfl)
      (OpenSpec.preRow_of_cond 8 hx (by kernel_rfl) (fun k hk => by cases hk) (by kernel_rfl) (laid_met os))) ?_
  intro W base args ds gs before hval hW _ _ _ hL _ _
  exact contract H enc W base args ds gs before hval hW hL
theorem over : Rows.seglogWrongRow.holds Tryz.pinned (OpenSpec.ofChange Rows.seglogWrongSpec) :=
  OpenClaim.holds_of_cond 5 Tryz.f5 rfl rfl rfl rfl rfl rfl rfl ⟨rfl, rfl, rfl, rfl, rfl⟩ rfl rfl rfl rfl rfl (by kernel_rfl) Tryz.func5 (by kernel_rfl)
    (of_decide_eq_true (by kernel_rfl)) (by unfold Func.isWrapper; first | (rw [if_pos (by decide +kernel)]; kernel_rfl) | (rw [if_neg (by decide +kernel)]; exact ⟨rfl, rfl⟩))
    (fun os started H enc _ F => by rw [OpenClaim.pre_eq_preRow]; exact lifted os started H enc F)
theorem allPlain : (Tryz.f5.params.toList.all fun u => !(Tryz.prog.wantsStandIn u)) = true := by kernel_rfl
/-- No parameter wants a stand-in; the program's own looks are off. -/
theorem plain (f : FuncId) (fn : Func) (hf : Tryz.pinned.checked.prog.funcNamed "weighlock/weighlocklaw14.SeglogWrong" = some f) (hfn : Tryz.pinned.checked.prog.funcs[f]? = some fn) :
    false = Tryz.pinned.checked.prog.looks [] ∧ ∀ (j : Nat) t, fn.params[j]? = some t → Tryz.pinned.checked.prog.wantsStandIn t = false := by
  obtain rfl : f = 5 := Option.some.inj ((show Tryz.prog.funcNamed "weighlock/weighlocklaw14.SeglogWrong" = some 5 by kernel_rfl).symm.trans hf) |>.symm
  obtain rfl : fn = Tryz.f5 := (Option.some.inj (Tryz.func5.symm.trans hfn)).symm
  refine ⟨by kernel_rfl, fun j t ht => ?_⟩
  have h := List.all_eq_true.1 allPlain t (Array.mem_toList_iff.2 (Array.mem_of_getElem? ht))
  have h2 : Tryz.prog.wantsStandIn t = false := by simpa using h
  exact h2

/-- The statement: the tied card. -/
theorem proved : Rows.SeglogWrongCardSaid :=
  Claim7.holds_tied_plain_at .later [] _ _ _ _ over (fun _ h => by cases h) (by kernel_rfl) (fun _ h => by cases h) seglogWrong_row_tie rfl ⟨rfl, rfl⟩ (by kernel_rfl) rfl plain (by kernel_rfl)
#print axioms proved

end Go.Proofs.YtahljbjgenepaaaGreatDoor.seglogWrong
