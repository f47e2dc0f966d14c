/- For all calls, one behind the other, and every number, the law PartGoes returns true: who fetches from the start on, again and again from where to go on, is told each record below the mark once, in order, and comes to the mark. No condition. -/
import Derived.Test.YtahljbjgenepaaaRows
import Derived.Test.YtahljbjgenepaaaPgA
import Derived.Test.YtahljbjgenepaaaOpenA19
import Derived.ChangeOld
import Derived.ShutString
import Derived.Deep.Cut
import Derived.Deep.LoopGhost
import Derived.Deep.RegionHeld3
namespace Go.Proofs.Ytahljbjgenepaaa.partGoes
open Go.ChangeShapes Go.WideShapes Go.ChangeAt Go.RowKit Go.Sort
open Go.ChangeMaps (open_string shut_string)
open Go.Proofs.Ytahljbjgenepaaa.M Go.Proofs.Ytahljbjgenepaaa.W Go.Proofs.Ytahljbjgenepaaa.D Go.Proofs.Ytahljbjgenepaaa.Z
set_option linter.unusedVariables false
set_option linter.unusedSimpArgs false

theorem sizeP4 : (Try.prog.info? 29).map (·.size) = some 4 := by kernel_rfl
theorem field_did (a b c d e : Value) (W : World) : (Instr.field 36 (.agg #[a, b, c, d, e]) 0).run Try.prog W = .ok (.agg #[a, b, c, d]) W := by kernel_rfl
attribute [local go_sem ↓] field_did in
set_option maxRecDepth 100000 in
set_option maxHeartbeats 8000000 in
theorem walk (a0 : Option Addr) (n c : Nat) (xs : List A19) (most : Int) (w : World) (w0 : As19 w a0 n xs) (hmw : (Lit.int .i64 most).wf = true) :
    Calls Try.prog 4 #[.slice a0 n c, .int .i64 most] w fun e w' => e = .returned (.bool true) ∧ Below w.heap.size w w' := by
  have hla := Lib.hid (large19_any a0 n c xs w w0)
  have hnw := Lib.hid (fun W => pnew_any W)
  replace w0 := Lib.hid w0
  go_enter Try.func4, Try.ntmps4
  go_wp2_with fail
  refine hla.out.mono ?_
  rintro _ w1 ⟨B, rfl, hB, hb1⟩
  replace hb1 := Lib.hid hb1
  clear hla
  have hmx := (wf_i64p hmw).2
  cases B with
  | true =>
    clear hB hnw w0
    go_wp2_with fail
    refine (gap_any _).mono ?_
    rintro _ w2 ⟨rfl, hb2⟩
    have hfin := Lib.hid (grew hb1.out hb2)
    go_wp2_with fail
    go_ret
    exact ⟨rfl, hfin.out⟩
  | false =>
    by_cases hm : most < 1
    · clear hB hnw w0
      go_wp2_with fail
      refine (gap_any _).mono ?_
      rintro _ w2 ⟨rfl, hb2⟩
      have hfin := Lib.hid (grew hb1.out hb2)
      go_wp2_with fail
      go_ret
      exact ⟨rfl, hfin.out⟩
    have hm1 : 1 ≤ most := by omega
    clear hm
    obtain ⟨hl40, hl30⟩ := hB rfl
    have hxl : n ≤ 40 := by rw [← w0.out.len]; exact hl40
    replace hl30 := Lib.hid hl30
    clear hB hl40
    go_wp2_with fail
    refine (hnw.out _).mono ?_
    rintro _ w2 ⟨pb, rfl, hp2, hlo2, hb2⟩
    obtain ⟨V, hV⟩ : ∃ V, Hid (V = w2.alloc (.cells #[.slice none 0 0, .int .i64 0, .int .i64 0, .int .i64 0] 29)) := ⟨_, Lib.hid rfl⟩
    have hbV : Below w2.heap.size w2 V := by rw [hV.out]; exact grewAlloc (Below.refl _ _) _
    have hPV : Whole V w2.heap.size 29 [.slice none 0 0, .int .i64 0, .int .i64 0, .int .i64 0] := by rw [hV.out]; exact Whole.new w2 _ _
    have h0 : Hid (QS w pb w2.heap.size ⟨0, 0, 0, []⟩ none 0 none 0 V) := Lib.hid ⟨⟨hp2.below hbV, Nat.le_trans hb1.out.size hlo2, (fun q ⟨o, e⟩ => by cases e), grew (grew hb1.out hb2) hbV⟩, hPV, grew hb1.out hb2 |>.size, (fun i r hr => by simp at hr), (fun e => absurd rfl e), fun e => by
      rcases e with e | ⟨o, e⟩
      · have := hp2.obj.lt; omega
      · cases e⟩
    obtain ⟨bx, hbx⟩ : ∃ q, Hid (w2.heap.size = q) := ⟨_, Lib.hid rfl⟩
    rw [hbx.out] at h0
    clear hp2 hlo2 hb2 hbV hPV hnw
    go_upto_region 5 with fail
    rw [← show V = _ from hV.out, hbx.out]
    clear hV hbx
    go_wp2_with fail
    go_loopg [28] n (fun ga i wr => ∃ k : Nat, k ≤ n ∧ n ≤ k + ga ∧ i = .int .i64 (k : Int) ∧ Hid (∃ d va c vr cr, QS w pb bx d va c vr cr wr ∧ d.ok ∧ d.rs.length ≤ 30 * k))
    case atStart => exact ⟨0, by omega, by omega, rfl, Lib.hid ⟨_, _, _, _, _, h0.out, (by refine ⟨?_, ?_, ?_, ?_, ?_, ?_⟩ <;> first | (intro r hr; simp at hr; done) | trivial | decide), by simp⟩⟩
    case round =>
      clear h0
      obtain ⟨k, hk, hg, rfl, hrel⟩ := hrel
      generalize wr = wo at *
      obtain ⟨d, va, c1, vr, cr, hQ, hok, hdl⟩ := hrel.out
      clear hrel
      by_cases hlt : k < n
      · obtain ⟨x, hx⟩ : ∃ x, xs[k]? = some x := ⟨_, List.getElem?_eq_getElem (by have := w0.out.len; omega)⟩
        have hxm := List.mem_of_getElem? hx
        have hxin := Lib.hid (w0.out.wf x hxm)
        have hx30 := hl30.out x hxm
        obtain ⟨ab, ao, rfl, e0, e1, e2, e3⟩ := w0.out.get hQ.ps.since hx
        have hso := step_ok hok x
        have hxr : x.rs.length = x.ln := hxin.out.l.len
        obtain ⟨W1, hW1⟩ : ∃ V, Hid (V = wo.alloc (.cells #[.int .i64 x.k, .int .i64 x.n, .int .i64 x.m, .slice x.la x.ln x.lc] 31)) := ⟨_, Lib.hid rfl⟩
        have hb1' : Below wo.heap.size wo W1 := by rw [hW1.out]; exact grewAlloc (Below.refl _ _) _
        have hA1 : Whole W1 wo.heap.size 31 [.int .i64 x.k, .int .i64 x.n, .int .i64 x.m, .slice x.la x.ln x.lc] := by rw [hW1.out]; exact Whole.new wo _ _
        have hQ1 := hQ.below hb1'
        have hnm : ¬ mineP pb va wo.heap.size := fun e => by have := hQ.ps.lt _ e; omega
        have hne : wo.heap.size ≠ bx := by have := hQ.box.lt; omega
        obtain ⟨qb, hqb⟩ : ∃ q, Hid (wo.heap.size = q) := ⟨_, Lib.hid rfl⟩
        rw [hqb.out] at hA1 hnm hne
        obtain ⟨a0', a1, a2, a3⟩ := cells4 hA1
        have hbox := hQ1.box
        have hdn := Lib.hid (done19_any pb va c1 vr cr d x W1 w hQ1.ps hok hQ1.row hxin.out (by omega) (by omega))
        have hac := Lib.hid (fun W (h1 : RcAt W vr d.rs) (h2 : Below w.heap.size w W) => act19_any vr cr d x W w hok h1 hxin.out h2 (by omega) (by omega))
        obtain ⟨N, hN⟩ : ∃ N, Hid (d.rs.length = N) := ⟨_, Lib.hid rfl⟩
        rw [hN.out] at hdn hac hbox
        obtain ⟨p0, p1, p2, p3⟩ := cells4 hbox
        obtain ⟨E, hE⟩ : ∃ E, Hid ((d.step x).1 = E) := ⟨_, Lib.hid rfl⟩
        obtain ⟨D, hD⟩ : ∃ D, Hid ((d.step x).2 = D) := ⟨_, Lib.hid rfl⟩
        rw [hE.out, hD.out] at hdn hac
        rw [hD.out] at hso
        have hEE : (E != E) = false := by simp
        have hki : (k : Int) < (n : Int) := by omega
        replace hso := Lib.hid hso
        replace hQ1 := Lib.hid hQ1
        replace hA1 := Lib.hid hA1
        replace hx := Lib.hid hx
        clear hQ hbox hb1' hxm
        go_upto_region 8 with fail
        rw [← show W1 = _ from hW1.out, hqb.out]
        clear hW1 hqb e0 e1 e2 e3
        go_wp2_with fail
        refine hdn.out.mono ?_
        rintro _ w3 ⟨rfl, hl3⟩
        obtain ⟨va2, c2, hP3, hbox3, hrow3, hk3, hq3⟩ := hQ1.out.left hl3
        have hA3 := hA1.out.of_kept hk3 hnm
        obtain ⟨b0, b1, b2, b3⟩ := cells4 hA3
        have hac3 := Lib.hid (hac.out w3 hrow3 hP3.since)
        have hbox3' := hbox3
        rw [hN.out] at hbox3'
        obtain ⟨o0, o1, o2, o3⟩ := cells4 hbox3'
        replace hP3 := Lib.hid hP3
        replace hk3 := Lib.hid hk3
        replace hq3 := Lib.hid hq3
        replace hbox3 := Lib.hid hbox3
        clear hl3 hdn hac hbox3' hA3 hrow3 a0' a1 a2 a3 p0 p1 p2 p3 hA1 hnm
        go_wp2_with fail
        refine hac3.out.mono ?_
        rintro _ w4 ⟨vr', cr', rfl, hr4, hcl, hb4⟩
        obtain ⟨M, hM⟩ : ∃ M, Hid (D.rs.length = M) := ⟨_, Lib.hid rfl⟩
        rw [hM.out]
        have hbox5 := hbox3.out.below hb4 hbox3.out.lt
        have hnx := hQ1.out.next (cr' := cr') hP3.out hk3.out hq3.out hb4 hbox5 hxin.out.l.at_ hr4 hcl
        rw [hM.out] at hnx
        rw [hN.out] at hbox5
        replace hbox5 := Lib.hid hbox5
        obtain ⟨W6, hW6⟩ : ∃ V, Hid (w4.setCells bx 0 [.slice vr' M cr', .int .i64 D.st, .int .i64 D.nx, .int .i64 D.sn] = V) := ⟨_, Lib.hid rfl⟩
        rw [hW6.out] at hnx
        replace hnx := Lib.hid hnx
        clear hac3 hb4 hcl hr4 hQ1 hP3 hk3 hq3 hbox3 o0 o1 o2 o3 b0 b1 b2 b3
        go_wp2_with (with_reducible refine zStore 29 _ _ rfl ?_)
        refine Lib.hid ?_
        refine wpList_store_mid rfl 29 _ _ rfl bx 0 #[.slice vr' M cr', .int .i64 D.st, .int .i64 D.nx, .int .i64 D.sn] rfl rfl (hbox5.out.there 0 4 (by simp)) sizeP4 (by simp [Value.oneCell']) ?_
        rw [show w4.setCells bx 0 (#[Value.slice vr' M cr', .int .i64 D.st, .int .i64 D.nx, .int .i64 D.sn] : Array Value).toList = W6 from hW6.out]
        clear hbox5 hW6
        go_wp2_with fail
        go_roundg (gk - 1)
        case measure => omega
        case rel => exact ⟨k + 1, by omega, by omega, by go_num, Lib.hid ⟨_, _, _, _, _, hnx.out, hso.out.1, by have := hso.out.2; omega⟩⟩
      · obtain rfl : k = n := by omega
        have hd12 : d.rs.length ≤ 1200 := by omega
        obtain ⟨N, hN⟩ : ∃ N, Hid (d.rs.length = N) := ⟨_, Lib.hid rfl⟩
        have hbox := hQ.box
        rw [hN.out] at hbox
        obtain ⟨p0, p1, p2, p3⟩ := cells4 hbox
        have hN12 : N ≤ 1200 := by rw [← hN.out]; exact hd12
        have hrow := Lib.hid hQ.row
        have hbx := Lib.hid hbox
        obtain ⟨i0, hi0, hz0, hz1, hz2⟩ := info_parts infoRp
        replace hQ := Lib.hid hQ
        replace hok := Lib.hid hok
        clear hbox hdl hk hg hlt hl30 w0 hxl
        go_wp2_with fail
        clear p0 p1 p2 p3
        go_loopg [9, 44] N (fun ga lw i wr => ∃ (k a cc : Nat) (A : Option Addr), k ≤ N ∧ N ≤ k + ga ∧ i = .int .i64 (k : Int) ∧ lw = .slice A a cc ∧ a ≤ k ∧ Hid ((inL d.st d.sn (d.rs.take k)).length = a ∧ wr.ownsRow wo.heap.size 40 8 (.slice A a cc) a (rcRows (inL d.st d.sn (d.rs.take k))) ∧ Kept (fun b => False) wo wr))
        case atStart => exact ⟨0, 0, 0, none, by omega, by omega, rfl, rfl, by omega, Lib.hid ⟨by simp [inL], by simp [inL, rcRows]; exact own_nilP, Kept.refl _ _⟩⟩
        case round =>
          obtain ⟨k, a, cc, A, hk, hg, rfl, rfl, hak, hrel⟩ := hrel
          generalize wr = wi at *
          obtain ⟨l1, l2, l3⟩ := hrel.out
          have hbw : Below wo.heap.size wo wi := l3.below (Nat.le_refl _) (fun _ e => e.elim)
          by_cases hlt : k < N
          · obtain ⟨r, hr⟩ : ∃ r, d.rs[k]? = some r := ⟨_, List.getElem?_eq_getElem (by have := hN.out; omega)⟩
            obtain ⟨b, o, rfl, c0, c1, c2, c3, c4, c5, c6, c7⟩ := (hrow.out.below hbw).get hr
            have hst := (hok.out.2.2.2.2.1 r (List.mem_of_getElem? hr)).2.1
            have htk := Lib.hid (inL_take (a := d.st) (b := d.sn) hr)
            obtain ⟨W2, hW2⟩ : ∃ W2, Hid (W2 = wi.alloc (.cells #[.int .i64 r.off, .int .i64 r.tick, .string r.key, .string r.val, .bool r.gone, .int .i64 r.prod, .int .i64 r.seq, .int .i64 r.frm] 40)) := ⟨_, Lib.hid rfl⟩
            have hb2 : Below wi.heap.size wi W2 := by rw [hW2.out]; exact grewAlloc (Below.refl _ _) _
            have hX2 : Whole W2 wi.heap.size 40 (rcL r) := by rw [hW2.out]; exact Whole.new wi _ _
            have how2 : Hid (W2.ownsRow wo.heap.size 40 8 (.slice A a cc) a (rcRows (inL d.st d.sn (d.rs.take k)))) := Lib.hid (own_of_kept (own := fun _ => False) l2 (Kept.of_below hb2) (fun _ _ e => e))
            have hK2 := Lib.hid (l3.trans (Kept.of_below hb2))
            obtain ⟨xb, hxb⟩ : ∃ xb, Hid (wi.heap.size = xb) := ⟨_, Lib.hid rfl⟩
            rw [hxb.out] at hX2
            obtain ⟨x0, x1, x2, x3, x4, x5, x6, x7⟩ := recCells hX2
            have hbx2 := hbx.out.below (grew hbw hb2) hbx.out.lt
            have q3 : W2.cell? ⟨bx, 3, none⟩ = some (.int .i64 d.sn) := hbx2.cell 3
            have hki : (k : Int) < (N : Int) := by omega
            replace hr := Lib.hid hr
            clear hrel l2 l3 hbw hb2 hX2 hbx2
            go_upto_region 15 with fail
            rw [← show W2 = _ from hW2.out, hxb.out]
            clear hW2 hxb c0 c1 c2 c3 c4 c5 c6 c7
            by_cases hin : r.off < d.sn
            · have hyes : Hid (inL d.st d.sn (d.rs.take (k + 1)) = inL d.st d.sn (d.rs.take k) ++ [r]) := Lib.hid (by rw [htk.out, if_pos ⟨hst, hin⟩])
              go_wp2_with (with_reducible refine zAppend _ _ _ rfl ?_)
              refine Lib.hid ?_
              refine wpList_append_lies _ rfl _ _ 27 rfl wo.heap.size 40 i0 _ 8 80 Try.underlying27 hi0 hz0 hz1 hz2 rfl (by omega) _ _ _ rfl (how2.out.alloc _) _ 1 1 (rcL r) rfl rfl (World.news_of_block (heap_alloc_new _ _)) (by simp [Value.oneCell']) (by omega) (by unfold maxLen; omega) (by omega) (by have := hK2.out.size; simp; omega) (W2.heap.size + 1) (by simp) ?_
              intro gg cap2 w5 hown5 hgrow5 hat5 hlt5
              have hfar : ∀ j, (Value.slice A a cc).ownBlock = some j → wo.heap.size ≤ j := fun j hj => ownFar how2.out j hj
              have hk5 : Kept (fun b => False) wo w5 := (hK2.out.alloc _).grown hgrow5 (fun j hj => .inr (hfar j hj))
              have hfin : Hid ((inL d.st d.sn (d.rs.take (k + 1))).length = a + 1 ∧ w5.ownsRow wo.heap.size 40 8 (.slice (some ⟨gg, 0, none⟩) (a + 1) cap2) (a + 1) (rcRows (inL d.st d.sn (d.rs.take (k + 1)))) ∧ Kept (fun b => False) wo w5) := Lib.hid (by
                rw [hyes.out]
                refine ⟨by rw [List.length_append, l1]; rfl, ?_, hk5⟩
                rw [rcRows_append, show rcRows [r] = rcL r from by simp [rcRows]]
                exact hown5)
              clear hown5 hgrow5 hat5 hfar hk5 x0 x1 x2 x3 x4 x5 x6 x7 q3
              go_wp2_with fail
              go_roundg (gk - 1)
              case measure => omega
              case rel => exact ⟨k + 1, a + 1, cap2, some ⟨gg, 0, none⟩, by omega, by omega, by go_num, rfl, by omega, hfin⟩
            · have hno : Hid (inL d.st d.sn (d.rs.take (k + 1)) = inL d.st d.sn (d.rs.take k)) := Lib.hid (by rw [htk.out, if_neg (fun e => hin e.2), List.append_nil])
              have hfin : Hid ((inL d.st d.sn (d.rs.take (k + 1))).length = a ∧ W2.ownsRow wo.heap.size 40 8 (.slice A a cc) a (rcRows (inL d.st d.sn (d.rs.take (k + 1)))) ∧ Kept (fun b => False) wo W2) := Lib.hid (by
                rw [hno.out]; exact ⟨l1, how2.out, hK2.out⟩)
              go_wp2_with fail
              go_roundg (gk - 1)
              case measure => omega
              case rel => exact ⟨k + 1, a, cc, A, by omega, by omega, by go_num, rfl, by omega, hfin⟩
          · obtain rfl : k = N := by omega
            obtain ⟨hrw, hqw⟩ := RowO.of_own l2 l1
            rw [show d.rs.take k = d.rs from by rw [← hN.out, List.take_length]] at hrw l1
            have hQi := hQ.out.below hbw
            have hst := Lib.hid (pstart_any wi _ hQi.ps.at_.cells.1)
            have hbxi := hbx.out.below hbw hbx.out.lt
            replace hbxi := Lib.hid hbxi
            replace hrw := Lib.hid hrw
            have h0 : Hid (d.st ≤ d.st ∧ d.st ≤ d.sn ∧ ([] : List Rc) ++ inL d.st d.sn d.rs = inL d.st d.sn d.rs ∧ RowO wi none 0 [] ∧ (∀ q, ownB none q → wi.heap.size ≤ q) ∧ Below wi.heap.size wi wi ∧ 0 + leftN d d.st ≤ 1201) := Lib.hid ⟨Int.le_refl _, hok.out.2.1, rfl, .inl ⟨rfl, rfl, rfl⟩, (fun q ⟨o, e⟩ => by cases e), Below.refl _ _, by have := leftN_le d d.st; omega⟩
            replace hQi := Lib.hid hQi
            replace l1 := Lib.hid l1
            clear hrel l2 l3 hbw hqw hrow hbx hQ hg hak hlt
            go_wp2_with fail
            refine hst.out.mono ?_
            rintro _ _ ⟨rfl, rfl⟩
            clear hst
            go_wp2_with fail
            go_loopg [12, 13, 60] 2000 (fun ga lg lat i wr => ∃ (k : Nat) (at_ : Int) (G : List Rc) (B : Option Addr) (gc : Nat), 2000 ≤ k + ga ∧ i = .int .i64 (k : Int) ∧ lat = .int .i64 at_ ∧ lg = .slice B G.length gc ∧ Hid (d.st ≤ at_ ∧ at_ ≤ d.sn ∧ G ++ inL at_ d.sn d.rs = inL d.st d.sn d.rs ∧ RowO wr B gc G ∧ (∀ q, ownB B q → wi.heap.size ≤ q) ∧ Below wi.heap.size wi wr ∧ k + leftN d at_ ≤ 1201))
            case atStart => exact ⟨0, d.st, [], none, 0, by omega, rfl, rfl, rfl, h0⟩
            case round =>
              clear h0
              obtain ⟨kk, at_, G, B, gc, hg, rfl, rfl, rfl, hrel⟩ := hrel
              generalize wr = wt at *
              obtain ⟨g1, g2, g3, g4, g5, g6, g7⟩ := hrel.out
              have hQt := hQi.out.below g6
              have hk2 : (kk : Int) < 2000 := by omega
              have hcs := hQt.ps.at_.cells
              have hse := Lib.hid (pseen_any wt _ hcs.2.2.1)
              by_cases he : at_ = d.sn
              · subst he
                have hno : inL d.sn d.sn d.rs = [] := inL_none fun r _ => by omega
                rw [hno, List.append_nil] at g3
                have hee : (d.sn == d.sn) = true := by simp
                have hbxt := hbxi.out.below g6 hbxi.out.lt
                have q3 : wt.cell? ⟨bx, 3, none⟩ = some (.int .i64 d.sn) := hbxt.cell 3
                have hGl : G.length = a := by rw [g3, l1.out]
                have hwl : ∀ r ∈ G, r.ok := fun r hr => by
                  rw [g3] at hr
                  exact (hok.out.2.2.2.2.1 r (List.mem_filter.1 hr).1).1
                have hwA : RcAt wt A G := by rw [g3]; exact (hrw.out.below g6).at_
                have hsm := same_recs B A a gc cc G wt g4.at_ hwA hGl (by have := l1.out; have := inL_len d.st d.sn d.rs; omega) (fun r hr => ok_wf (hwl r hr))
                have hB := Lib.hid hQt.ps.since
                rw [hGl]
                replace hsm := Lib.hid hsm
                clear hrel g1 g2 g3 g4 g5 g6 g7 hQt hcs hno hbxt hGl hwl hwA
                go_wp2_with fail
                refine hse.out.mono ?_
                rintro _ _ ⟨rfl, rfl⟩
                clear hse
                go_wp2_with fail
                refine hsm.out.mono ?_
                rintro _ w8 ⟨rfl, hb8⟩
                have hB8 := Lib.hid (grew hB.out hb8)
                clear hsm hb8 hB q3
                go_wp2_with fail
                refine (gap_any _).mono ?_
                rintro _ w9 ⟨rfl, hb9⟩
                have hfin := Lib.hid (grew hB8.out hb9)
                go_wp2_with fail
                go_ret
                exact ⟨rfl, hfin.out⟩
              · obtain ⟨f0, f1, f2, f3, f4, f5, f6⟩ := fetch_step hok.out g1 g2 he hm1
                have hft := pfetch_any hQt.ps.at_ at_ most (by omega) hok.out.2.2.2.2.2 (fun r hr => (hok.out.2.2.2.2.1 r hr).1) hmx
                rw [f0] at hft
                have hGl : G.length ≤ 1200 := by
                  have h5 := congrArg List.length g3
                  rw [List.length_append] at h5
                  have := inL_len d.st d.sn d.rs
                  omega
                obtain ⟨F, hF⟩ : ∃ F, Hid (fetchL d at_ most = F) := ⟨_, Lib.hid rfl⟩
                obtain ⟨on, hon⟩ : ∃ on, Hid (fetchN d at_ most = on) := ⟨_, Lib.hid rfl⟩
                rw [hF.out, hon.out] at hft f5
                rw [hF.out] at f3 f4
                rw [hon.out] at f1 f2 f6
                obtain ⟨L, hL⟩ : ∃ L, Hid (F.length = L) := ⟨_, Lib.hid rfl⟩
                rw [hL.out] at hft f3 f4
                have f4' : (L : Int) ≤ 16 := by omega
                have f7 : ¬ on ≤ at_ := by omega
                have f8 : (at_ == d.sn) = false := by simpa using he
                have hnew : Hid (d.st ≤ on ∧ on ≤ d.sn ∧ (G ++ F) ++ inL on d.sn d.rs = inL d.st d.sn d.rs ∧ (kk + 1) + leftN d on ≤ 1201) := Lib.hid ⟨by omega, f2, by rw [List.append_assoc, f5, g3], by omega⟩
                replace hft := Lib.hid hft
                replace g4 := Lib.hid g4
                replace g5 := Lib.hid g5
                replace g6 := Lib.hid g6
                obtain ⟨gl, hgl⟩ : ∃ gl, Hid (G.length = gl) := ⟨_, Lib.hid rfl⟩
                rw [hgl.out]
                clear hrel g1 g2 g3 g7 hQt hcs f0 f2 f5 f6 hF hon he
                go_wp2_with fail
                refine hse.out.mono ?_
                rintro _ _ ⟨rfl, rfl⟩
                clear hse
                go_wp2_with fail
                refine hft.out.mono ?_
                rintro _ w5 ⟨A5, c5, rfl, hr5, hb5⟩
                obtain ⟨va', c', w6, r1, r2, r3, r4⟩ := row_row (g4.out.below hb5) hr5 (by have := hL.out; omega) 27
                rw [hgl.out, hL.out] at r1
                have hb6 : Below wi.heap.size wi w6 := (grew g6.out hb5).trans (r3.below (Nat.le_trans g6.out.size hb5.size) g5.out)
                have hq6 : ∀ q, ownB va' q → wi.heap.size ≤ q := fun q hq => (r4 q hq).elim (g5.out q) (fun e => Nat.le_trans (Nat.le_trans g6.out.size hb5.size) e)
                replace r1 := Lib.hid r1
                replace hb6 := Lib.hid hb6
                replace hq6 := Lib.hid hq6
                replace r2 := Lib.hid r2
                clear hft g4 g5 g6 hr5 hb5 r3 r4
                go_wp2_with (with_reducible refine zAppend _ _ _ rfl ?_)
                refine Lib.hid ?_
                refine wpList_append_by rfl _ _ 27 rfl _ _ _ rfl rfl r1.out ?_
                go_wp2_with fail
                go_roundg (gk - 1)
                case measure => omega
                case rel => exact ⟨kk + 1, on, G ++ F, va', c', by omega, by go_num, rfl, by rw [hgl.out, hL.out, List.length_append, hgl.out, hL.out], Lib.hid ⟨hnew.out.1, hnew.out.2.1, hnew.out.2.2.1, r2.out, hq6.out, hb6.out, hnew.out.2.2.2⟩⟩

theorem own : ownKnob Try.prog.godebug = none := by kernel_rfl
theorem laidOut : laidOutB Try.prog = true := by kernel_rfl

set_option maxRecDepth 100000 in
theorem lifted (os : Os) (started : os.Started) (H : Type) (enc : TypeId × Value → H) :
    ReturnsInHanded {} Try.checked os 4 .any (Rows.partGoesSpec.pre6 enc Try.prog Try.f4 Rows.partGoesRow.domain false) (Rows.partGoesSpec.post enc Try.prog Try.f4 false true false false) := by
  refine returnsInHanded_of_change (C := Try.checked) own started (by kernel_rfl) Try.func4
    (ChangeSpec.witness6 (enc := enc) (C := Try.checked) false ⟨#[], #[.slice none 0 0, .int .i64 0], []⟩ 8 (by kernel_rfl) (by kernel_rfl) (by kernel_rfl) (by kernel_rfl)) ?_
  intro W base args ds gs before hval0 hW hcnd _
  have hval : ∀ (j : Nat) t v, Try.f4.params[j]? = some t → args[j]? = some v → Value.okWide Try.prog W .any base t v := hval0
  have hW' := hW
  obtain ⟨p, q, hA0, hV, rfl, hfz, hnd⟩ := hW
  have hA : DataW.TrodAll enc Try.prog W 0 (fun _ => true) true Try.f4.params.toList args.toList ds p := hA0
  rw [Try.params4] at hA hval
  obtain ⟨v0, vs0, d0, ds0, p0, q0, hargs, rfl, rfl, h0, r0⟩ := trodAll_cons hA
  obtain ⟨v1, vs1, d1, ds1, p1, q1, rfl, rfl, rfl, h1, r1⟩ := trodAll_cons r0
  obtain ⟨rfl, rfl, rfl⟩ := trodAll_nil r1
  obtain rfl : args = #[v0, v1] := by cases args; simp_all
  obtain ⟨rfl, rfl⟩ := trodVars_none hV
  obtain ⟨a0, len0, cap0, rfl⟩ := okWide_slice Try.underlying22 (hval 0 22 v0 rfl rfl)
  have k0 := h0
  have lt0 : ∀ x ∈ p0, x.block < W.heap.size := by obtain ⟨m, hm⟩ := k0; exact DataW.trod_lt m _ _ _ hm
  obtain ⟨fu0, hf0⟩ := h0
  obtain ⟨z0, w0⟩ := Go.Proofs.Ytahljbjgenepaaa.W.open_acts19 (show DataW.trod enc Try.prog W 0 (fun _ => true) true fu0 22 [.slice a0 len0 cap0] = some _ from hf0)
  obtain ⟨a1, rfl, rfl, rfl, w1⟩ := open_int Try.underlying3 (hval 1 3 v1 rfl rfl) h1
  clear hA0 hval0
  refine (walk a0 len0 cap0 z0 a1 W w0 w1).mono fun e W' ⟨he, bel⟩ => ?_
  subst he
  exact ⟨_, rfl, _, _, _, [], _, [], hW', trodAll_mk1 (shut_bool Try.underlying4 _), (trodAll_cons_mk (Below.trod laidOut (by kernel_rfl) (of_decide_eq_true (by kernel_rfl)) k0 bel lt0) (trodAll_cons_mk (shut_int Try.underlying3 w1) trodAll_mk0)), rfl, bel.frame _, fun h => by cases h⟩

theorem over : Rows.partGoesRow.holds Try.pinned (OpenSpec.ofChange Rows.partGoesSpec) :=
  OpenClaim.holds_of_wide 4 Try.f4 rfl rfl rfl rfl rfl rfl rfl ⟨rfl, rfl, rfl, rfl, rfl⟩ rfl rfl rfl rfl rfl (by kernel_rfl) Try.func4 (by kernel_rfl)
    (of_decide_eq_true (by kernel_rfl)) (by unfold Func.isWrapper; first | (rw [if_pos (by decide +kernel)]; kernel_rfl) | (rw [if_neg (by decide +kernel)]; exact ⟨rfl, rfl⟩))
    (fun os started H enc _ => lifted os started H enc)

/-- The statement. -/
theorem proved : Rows.PartGoesSaid := over
#print axioms proved

end Go.Proofs.Ytahljbjgenepaaa.partGoes
