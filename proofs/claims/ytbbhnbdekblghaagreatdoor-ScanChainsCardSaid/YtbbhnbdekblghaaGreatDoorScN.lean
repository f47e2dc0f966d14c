/- Package scan's Clean of a view of the law's own. Package scan's Clean of a view of the law's own. Stage 15's law: its fresh, its laid. Two rows of numbers held against one another (as in Eig, without the small case of layer 14). A view whose power is gone: package segment's Load, package scan's All and Clean tell so. The law's small case: three segments, two of them a chain. -/
import Derived.Test.YtbbhnbdekblghaaGreatDoorScF
import Derived.Test.YtbbhnbdekblghaaGreatDoorFallA
import Derived.Test.YtbbhnbdekblghaaGreatDoorFallM
import Derived.Deep.Cut
import Derived.Deep.DrawnRows
import Derived.Deep.Quiet
import Derived.Deep.QuietTactic
import Derived.Laws.EntriesVeiled
section
section
namespace Go.Proofs.YtbbhnbdekblghaaGreatDoor.W
open Go.RowKit Go.Sort
open Go.Proofs.YtbbhnbdekblghaaGreatDoor.M Go.Proofs.YtbbhnbdekblghaaGreatDoor.D Go.Proofs.YtbbhnbdekblghaaGreatDoor.Z
set_option linter.unusedVariables false
set_option linter.unusedSimpArgs false

/-- What lies when a segment is wiped. -/
theorem lies_wiped (lie : List (List UInt8)) (ws : List (Nat × List UInt8)) (f n : Nat) : Lies lie (ws ++ [(f + (2 + 16 * n + 0), List.replicate 64 0)]) f n none := by
  refine ⟨B (List.replicate 64 0), ?_, fun e => zero_shut e.1⟩
  rw [sec_one _ _ _ _ _ _ (by omega), List.getElem?_set_self (by rw [sec_len]; omega)]
theorem sec_far1 (lie : List (List UInt8)) (ws : List (Nat × List UInt8)) (f n m k : Nat) (t : List UInt8) (h : k < 16) (hne : n ≠ m) : secOf lie (ws ++ [(f + (2 + 16 * n + k), t)]) f m = secOf lie ws f m := by
  unfold secOf
  apply List.map_congr_left
  intro i hi
  have hi2 : i < 16 := List.mem_range.1 hi
  rw [rd_snoc, if_neg]
  show ¬ f + (2 + 16 * n + k) = f + (2 + 16 * m + i)
  omega
theorem Lies.of_sec {lie lie' : List (List UInt8)} {ws ws' : List (Nat × List UInt8)} {f n : Nat} {x : Option Hd} (h : Lies lie ws f n x) (e : secOf lie' ws' f n = secOf lie ws f n) : Lies lie' ws' f n x := by
  cases x with
  | none => unfold Lies at h ⊢; rw [e]; exact h
  | some x => unfold Lies at h ⊢; rw [e]; exact h
def numL (rs : List Sr) : List Int := rs.map fun r => (r.n : Int)
/-- The numbers that are wiped. -/
def goneL (ls ks : List Sr) : List Int := (numL ls).filter fun x => !(numL ks).contains x
section
variable {w0 W W1 : World} {vb d g' from_ m n : Nat} {lie : List (List UInt8)} {ws : List (Nat × List UInt8)} {steps : Int} {K : List Bk}
theorem VB.flush (h : VB w0 vb d g' lie ws from_ m steps K W) (h0 : 0 ≤ steps) (h1 : steps ≤ 900000) (hw : ws.length ≤ 90000) :
    Calls Tryz.prog 93 #[.pointer (some ⟨vb, 0, none⟩)] W fun e w' => e = .returned (.int .i64 0) ∧ VB w0 vb d g' (laid lie (ws.filter (spanB from_ m))) (ws.filter (D.keepB from_ m)) from_ m (steps + 1) K w' := by
  refine (sv_flushF h.view (by decide) h0 (by omega) (by decide) (by decide) (by omega)).mono ?_
  rintro e w' ⟨r1, r2, r3⟩
  rw [if_neg (by decide)] at r2
  exact ⟨r1, r2, h.blk.tk r3⟩
theorem VB.lies_flush {x : Option Hd} (h : VB w0 vb d g' lie ws from_ m steps K W) (hr : Room from_ m n) (hl : Lies lie ws from_ n x) : Lies (laid lie (ws.filter (spanB from_ m))) (ws.filter (D.keepB from_ m)) from_ n x := by
  obtain ⟨_, _, h3⟩ := h.view.sizes
  exact hl.of_sec (sec_flush lie ws from_ m n h3 hr.fits.1)
/-- A new row of numbers, whatever it has. -/
theorem VB.own_row {A : Option Addr} {c : Nat} {xs : List Int} (h : VB w0 vb d g' lie ws from_ m steps K W) (hb : Below W.heap.size W W1) (ho : W1.ownsRow W.heap.size 3 1 (.slice A xs.length c) xs.length (rowP xs)) :
    ∃ pk, InRow pk A xs ∧ VB w0 vb d g' lie ws from_ m steps (pk ++ K) W1 := by
  rcases h.own_new hb ho with ⟨rfl, _, _, h1⟩ | ⟨q, cur, rfl, h1, h2, h3, h4, h5⟩
  · exact ⟨[], fun j x hx => by simp at hx, h1⟩
  · exact ⟨[(q, 3, cur)], row_in h4 List.mem_cons_self, h5⟩
theorem VB.beside {q : Nat} {t : TypeId} {cs : List Value} (h : VB w0 vb d g' lie ws from_ m steps ((q, t, cs) :: K) W) (hk : Kept (fun r => r = q) W W1) : VB w0 vb d g' lie ws from_ m steps K W1 := by
  obtain ⟨k1, k2, k3⟩ := h.blk.all _ List.mem_cons_self
  exact ⟨SV.plain h.view hk (fun r hr => by rw [hr]; exact ⟨k3, .inl ⟨_, _, k1, k2⟩⟩), h.blk.tail.keep hk (fun x hx e => h.blk.ne hx e)⟩
theorem VB.stay {cb c : Nat} {A : Option Addr} {ys : List Int} {K1 pk : List Bk} (h : VB w0 vb d g' lie ws from_ m steps (K1 ++ ((cb, 36, [.slice A ys.length c]) :: (pk ++ K))) W) (hr : InRow pk A ys) : StayAt W cb ys := by
  refine ⟨A, c, (h.got (x := (cb, 36, [.slice A ys.length c])) (List.mem_append_right _ List.mem_cons_self)).cell 0, fun j x hx => ?_⟩
  exact h.in_row (hr.more fun y hy => List.mem_append_right _ (List.mem_cons_of_mem _ (List.mem_append_left _ hy))) hx
set_option maxRecDepth 100000 in
theorem ndelete_vb {A : Option Addr} {c : Nat} (xs ys : List Int) (cb : Nat) (h : VB w0 vb d g' lie ws from_ m steps K W) (hb : Below W.heap.size W W1) (ho : W1.ownsRow W.heap.size 3 1 (.slice A xs.length c) xs.length (rowP xs)) (hst : ∀ V, VB w0 vb d g' lie ws from_ m steps K V → StayAt V cb ys) (hn : xs.length ≤ 1000) (hm : ys.length ≤ 1000) :
    Calls Tryz.prog 88 #[.slice A xs.length c, .func (.func 89) #[] #[.pointer (some ⟨cb, 0, none⟩)]] W1 fun e w' => ∃ (A5 : Option Addr) (c5 : Nat) (pk5 : List Bk), e = .returned (.slice A5 (xs.filter fun x => !ys.contains x).length c5) ∧ InRow pk5 A5 (xs.filter fun x => !ys.contains x) ∧ VB w0 vb d g' lie ws from_ m steps (pk5 ++ K) w' := by
  rcases h.own_new hb ho with ⟨rfl, rfl, rfl, h1⟩ | ⟨q, cur, rfl, h1, h2, h3, h4, h5⟩
  · refine (ndelete_nil _ W1).mono ?_
    rintro e w' ⟨rfl, rfl⟩
    exact ⟨none, 0, [], rfl, fun j x hx => by simp at hx, h1⟩
  · refine (ndelete_any (fun x => ys.contains x) 89 cb q c xs cur W1 hn h1 h2 (h5.got List.mem_cons_self) (by omega) h4 (fun _ _ => by kernel_rfl) (fun V hk x => goes_any cb ys x V (hst V (h5.beside hk)) hm)).mono ?_
    rintro e w' ⟨r1, ⟨cur', r2, r3, r4⟩, r5⟩
    exact ⟨_, c, [(q, 3, cur')], r1, row_in r4 List.mem_cons_self, h5.set r5 r2⟩
end
end Go.Proofs.YtbbhnbdekblghaaGreatDoor.W
end
section
namespace Go.Proofs.YtbbhnbdekblghaaGreatDoor.W
open Go.RowKit Go.Sort
open Go.Proofs.YtbbhnbdekblghaaGreatDoor.M Go.Proofs.YtbbhnbdekblghaaGreatDoor.D Go.Proofs.YtbbhnbdekblghaaGreatDoor.Z
set_option linter.unusedVariables false
set_option linter.unusedSimpArgs false

section
variable {w0 W W1 : World} {vb d g' from_ m n : Nat} {lie : List (List UInt8)} {ws : List (Nat × List UInt8)} {steps : Int} {K : List Bk}
theorem gone_in {ls ks : List Sr} {x : Int} (h : x ∈ goneL ls ks) : ∃ r ∈ ls, x = (r.n : Int) := by
  obtain ⟨r, h1, h2⟩ := List.mem_map.1 (List.mem_filter.1 h).1
  exact ⟨r, h1, h2.symm⟩
theorem gone_len (ls ks : List Sr) : (goneL ls ks).length ≤ ls.length := by
  refine Nat.le_trans (List.length_filter_le _ _) ?_
  simp [numL]
set_option maxRecDepth 100000 in
set_option maxHeartbeats 4000000 in
theorem sclean_any {Al Ak : Option Addr} {cl ck : Nat} (ls ks : List Sr) (os : List (Option Hd)) (h : VB w0 vb d g' lie ws from_ m steps K W)
    (hrl : ∀ j r, ls[j]? = some r → ∃ q, Al = some ⟨q, 0, none⟩ ∧ W.cell? ⟨q, j, none⟩ = some (ptV r.sb)) (hol : ∀ r ∈ ls, W.cell? ⟨r.sb, 1, none⟩ = some (.int .i64 (r.n : Int)))
    (hrk : ∀ j r, ks[j]? = some r → ∃ q, Ak = some ⟨q, 0, none⟩ ∧ W.cell? ⟨q, j, none⟩ = some (ptV r.sb)) (hok : ∀ r ∈ ks, W.cell? ⟨r.sb, 1, none⟩ = some (.int .i64 (r.n : Int)))
    (hn1 : ls.length ≤ 100) (hn2 : ks.length ≤ 100) (hlies : ∀ i x, os[i]? = some x → Lies lie ws from_ i x) (hin : ∀ r ∈ ls, r.n < os.length) (hroom : ∀ i, i < os.length → Room from_ m i)
    (hT : Wide w0) (hw : ws.length ≤ 80000) (h0 : 0 ≤ steps) (h1 : steps ≤ 800000) :
    Calls Tryz.prog 38 #[.pointer (some ⟨vb, 0, none⟩), .slice Al ls.length cl, .slice Ak ks.length ck] W fun e w' => e = .returned (.int .i64 0) ∧ ∃ (lie' : List (List UInt8)) (ws' : List (Nat × List UInt8)) (steps' : Int),
      VB w0 vb d g' lie' ws' from_ m steps' K w' ∧ ws'.length ≤ ws.length + 100 ∧ 0 ≤ steps' ∧ steps' ≤ steps + 101 ∧ ∀ i x, os[i]? = some x → Lies lie' ws' from_ i (if (i : Int) ∈ goneL ls ks then none else x) := by
  have e1 : (numL ks).length = ks.length := by simp [numL]
  have e2 : (numL ls).length = ls.length := by simp [numL]
  have hnk := Lib.hid (snumbers_any (rs := ks) (c := ck) (by omega) hrk hok)
  have hnl : Hid (∀ V, Below W.heap.size W V → Calls Tryz.prog 87 #[.slice Al ls.length cl] V fun e w' => ∃ (A2 : Option Addr) (c2 : Nat), e = .returned (.slice A2 ls.length c2) ∧ w'.ownsRow V.heap.size 3 1 (.slice A2 ls.length c2) ls.length (rowP (numL ls)) ∧ Below V.heap.size V w') := Lib.hid (fun V hb => snumbers_any (rs := ls) (c := cl) (by omega) (fun j r hj => by
    obtain ⟨q, e, hc⟩ := hrl j r hj
    exact ⟨q, e, keepCell hb hc⟩) (fun r hr => keepCell hb (hol r hr)))
  have hGl := gone_len ls ks
  have hGx : ∀ x ∈ goneL ls ks, ∃ i : Nat, x = (i : Int) ∧ i < os.length := fun x hx => by
    obtain ⟨r, h2, h3⟩ := gone_in hx
    exact ⟨r.n, h3, hin r h2⟩
  obtain ⟨G, hG⟩ : ∃ G, Hid (goneL ls ks = G) := ⟨_, Lib.hid rfl⟩
  rw [hG.out] at hGl hGx ⊢
  have hck : Hid (∀ x ∈ G, ∃ (i : Nat) (o : Option Hd), x = (i : Int) ∧ Room from_ m i ∧ Lies lie ws from_ i o) := Lib.hid (fun x hx => by
    obtain ⟨i, h2, h3⟩ := hGx x hx
    exact ⟨i, _, h2, hroom i h3, hlies i _ (List.getElem?_eq_getElem h3)⟩)
  replace hGx := Lib.hid hGx
  replace hroom := Lib.hid hroom
  replace hlies := Lib.hid hlies
  replace h := Lib.hid h
  clear hrl hol hrk hok hin
  go_enter Tryz.func38, Tryz.ntmps38
  go_wp2_with fail
  refine hnk.out.mono ?_
  rintro _ w1 ⟨A3, c3, rfl, ho3, hb1⟩
  obtain ⟨pk3, hin3, hv3⟩ := h.out.own_row (xs := numL ks) hb1 (by rw [e1]; exact ho3)
  have hv4 := hv3.new (q := w1.heap.size) (t := 36) (cs := [.slice A3 ks.length c3]) (allocBelow w1 (.cells #[.slice A3 ks.length c3] 36)) (Whole.new w1 _ _) (Nat.le_refl _) (by show plainT 36; decide)
  have hbW := grewAlloc hb1 (.cells #[.slice A3 ks.length c3] 36)
  obtain ⟨W2, hW2⟩ : ∃ W2, Hid (W2 = w1.alloc (.cells #[.slice A3 ks.length c3] 36)) := ⟨_, Lib.hid rfl⟩
  obtain ⟨cb, hcb⟩ : ∃ cb, Hid (w1.heap.size = cb) := ⟨_, Lib.hid rfl⟩
  rw [← hW2.out] at hv4 hbW
  rw [hcb.out] at hv4
  have hst : Hid (∀ V, VB w0 vb d g' lie ws from_ m steps ((cb, 36, [.slice A3 ks.length c3]) :: (pk3 ++ K)) V → StayAt V cb (numL ks)) := Lib.hid (fun V hV => VB.stay (K1 := []) (c := c3) (by rw [e1]; exact hV) hin3)
  have hnl2 := Lib.hid (hnl.out W2 hbW)
  replace hv4 := Lib.hid hv4
  clear ho3 hb1 hin3 hv3 hbW hnk hnl
  go_upto_region 4 with fail
  rw [← show W2 = _ from hW2.out, hcb.out]
  clear hW2 hcb
  go_wp2_with fail
  refine hnl2.out.mono ?_
  rintro _ w3 ⟨A4, c4, rfl, ho4, hb3⟩
  have hdel : Hid (Calls Tryz.prog 88 #[.slice A4 ls.length c4, .func (.func 89) #[] #[.pointer (some ⟨cb, 0, none⟩)]] w3 fun e w' => ∃ (A5 : Option Addr) (c5 : Nat) (pk5 : List Bk), e = .returned (.slice A5 G.length c5) ∧ InRow pk5 A5 G ∧ VB w0 vb d g' lie ws from_ m steps (pk5 ++ ((cb, 36, [.slice A3 ks.length c3]) :: (pk3 ++ K))) w') := Lib.hid (by
    have h9 := ndelete_vb (A := A4) (c := c4) (numL ls) (numL ks) cb hv4.out hb3 (by rw [e2]; exact ho4) hst.out (by omega) (by omega)
    rw [e2] at h9
    rw [← hG.out]
    exact h9)
  clear ho4 hb3 hnl2 hst hv4
  go_wp2_with fail
  refine hdel.out.mono ?_
  rintro _ w5 ⟨A5, c5, pk5, rfl, hin5, hv5⟩
  have hinr : Hid (InRow (pk5 ++ ((cb, 36, [.slice A3 ks.length c3]) :: (pk3 ++ K))) A5 G) := Lib.hid (hin5.more fun x hx => List.mem_append_left _ hx)
  have hsub : Hid (List.Sublist K (pk5 ++ ((cb, 36, [.slice A3 ks.length c3]) :: (pk3 ++ K)))) := Lib.hid (List.Sublist.trans (List.sublist_append_right pk3 K) (List.Sublist.trans (List.sublist_cons_self _ _) (List.sublist_append_right _ _)))
  obtain ⟨KK, hKK⟩ : ∃ KK, Hid (pk5 ++ ((cb, 36, [.slice A3 ks.length c3]) :: (pk3 ++ K)) = KK) := ⟨_, Lib.hid rfl⟩
  rw [hKK.out] at hv5 hinr hsub
  have hchk := Lib.hid (scheck_any (c := c5) G hv5 hinr.out (by omega) hck.out hT (by omega))
  clear hdel hin5 hv5 hck hKK
  obtain ⟨N, hN⟩ : ∃ N, Hid (G.length = N) := ⟨_, Lib.hid rfl⟩
  rw [hN.out] at hchk hGl ⊢
  go_wp2_with fail
  refine hchk.out.mono ?_
  rintro _ w6 ⟨rfl, hv6⟩
  have hst0 : Hid (VB w0 vb d g' lie ws from_ m steps KK w6 ∧ ws.length ≤ ws.length + 0 ∧ 0 ≤ steps ∧ steps ≤ steps + ((0 : Nat) : Int) ∧ ∀ i x, os[i]? = some x → Lies lie ws from_ i (if (i : Int) ∈ G.take 0 then none else x)) := Lib.hid ⟨hv6, by omega, h0, by omega, fun i x hx => by rw [List.take_zero, if_neg (by simp)]; exact hlies.out i x hx⟩
  clear hchk hv6 hlies h
  go_wp2_with fail
  go_loopg [29] N (fun ga ix wr => ∃ (k : Nat) (wsk : List (Nat × List UInt8)) (stk : Int), k ≤ N ∧ N ≤ k + ga ∧ ix = .int .i64 k ∧ Hid (VB w0 vb d g' lie wsk from_ m stk KK wr ∧ wsk.length ≤ ws.length + k ∧ 0 ≤ stk ∧ stk ≤ steps + (k : Int) ∧ ∀ i x, os[i]? = some x → Lies lie wsk from_ i (if (i : Int) ∈ G.take k then none else x)))
  case atStart => exact ⟨0, ws, steps, by omega, by omega, rfl, hst0⟩
  case round =>
    clear hst0
    obtain ⟨k, wsk, stk, hk, hg, rfl, hrel⟩ := hrel
    generalize wr = wo at *
    obtain ⟨s1, s2, s3, s4, s5⟩ := hrel.out
    by_cases hlt : k < N
    · obtain ⟨x, hx⟩ : ∃ x, G[k]? = some x := ⟨_, List.getElem?_eq_getElem (by have := hN.out; omega)⟩
      obtain ⟨i, rfl, hi⟩ := hGx.out x (List.mem_of_getElem? hx)
      obtain ⟨q, rfl, cq⟩ := s1.in_row hinr.out hx
      have hwp := Lib.hid (s1.wipe i (hroom.out i hi) s3 (by omega) (by omega))
      have hlk : Hid ((wsk ++ [(from_ + (2 + 16 * i + 0), List.replicate 64 0)]).length ≤ ws.length + (k + 1) ∧ 0 ≤ stk + 1 ∧ stk + 1 ≤ steps + ((k + 1 : Nat) : Int) ∧ ∀ j y, os[j]? = some y → Lies lie (wsk ++ [(from_ + (2 + 16 * i + 0), List.replicate 64 0)]) from_ j (if (j : Int) ∈ G.take (k + 1) then none else y)) := Lib.hid ⟨by rw [List.length_append, List.length_singleton]; omega, by omega, by omega, fun j y hy => by
        have et : G.take (k + 1) = G.take k ++ [(i : Int)] := by rw [List.take_add_one, hx]; rfl
        by_cases hji : j = i
        · subst hji
          rw [if_pos (by rw [et]; simp)]
          exact lies_wiped _ _ _ _
        · have hm : ((j : Int) ∈ G.take (k + 1)) = ((j : Int) ∈ G.take k) := by
            rw [et, List.mem_append, List.mem_singleton]
            exact propext ⟨fun h => h.resolve_right (by omega), .inl⟩
          have h8 := (s5 j y hy).of_sec (sec_far1 lie wsk from_ i j 0 (List.replicate 64 0) (by omega) (fun e => hji e.symm))
          simp only [hm]
          exact h8⟩
      clear hx hrel s1 s2 s3 s4 s5 hi
      go_wp2_with fail
      refine hwp.out.mono ?_
      rintro _ w7 ⟨rfl, hv7⟩
      have hnew : Hid (VB w0 vb d g' lie (wsk ++ [(from_ + (2 + 16 * i + 0), List.replicate 64 0)]) from_ m (stk + 1) KK w7 ∧ (wsk ++ [(from_ + (2 + 16 * i + 0), List.replicate 64 0)]).length ≤ ws.length + (k + 1) ∧ 0 ≤ stk + 1 ∧ stk + 1 ≤ steps + ((k + 1 : Nat) : Int) ∧ ∀ j y, os[j]? = some y → Lies lie (wsk ++ [(from_ + (2 + 16 * i + 0), List.replicate 64 0)]) from_ j (if (j : Int) ∈ G.take (k + 1) then none else y)) := Lib.hid ⟨hv7, hlk.out⟩
      clear hv7 hlk hwp
      go_wp2_with fail
      go_roundg (gk - 1)
      case measure => omega
      case rel => exact ⟨k + 1, _, _, by omega, by omega, by go_num, hnew⟩
    · obtain rfl : k = N := by omega
      have hfl := Lib.hid (s1.flush s3 (by omega) (by omega))
      have hall : Hid (G.take k = G) := Lib.hid (List.take_of_length_le (Nat.le_of_eq hN.out))
      have hres : Hid (∀ i x, os[i]? = some x → Lies (laid lie (wsk.filter (spanB from_ m))) (wsk.filter (D.keepB from_ m)) from_ i (if (i : Int) ∈ G then none else x)) := Lib.hid (fun i x hx => by
        have h8 := s1.lies_flush (hroom.out i (List.getElem?_eq_some_iff.1 hx).1) (s5 i x hx)
        rw [hall.out] at h8
        exact h8)
      have hlen : (wsk.filter (D.keepB from_ m)).length ≤ ws.length + 100 := Nat.le_trans (List.length_filter_le _ _) (by omega)
      have hst1 : 0 ≤ stk + 1 ∧ stk + 1 ≤ steps + 101 := ⟨by omega, by omega⟩
      replace hlen := Lib.hid hlen
      replace hst1 := Lib.hid hst1
      clear hrel s1 s2 s3 s4 s5 hall
      go_wp2_with fail
      refine hfl.out.mono ?_
      rintro _ w8 ⟨rfl, hv8⟩
      replace hv8 := Lib.hid hv8
      go_wp2_with fail
      go_ret
      exact ⟨rfl, _, _, _, hv8.out.sub hsub.out, hlen.out, hst1.out.1, hst1.out.2, hres.out⟩
end
end Go.Proofs.YtbbhnbdekblghaaGreatDoor.W
end
end
section
section
namespace Go.Proofs.YtbbhnbdekblghaaGreatDoor.W
open Go.RowKit Go.Sort
open Go.Proofs.YtbbhnbdekblghaaGreatDoor.M Go.Proofs.YtbbhnbdekblghaaGreatDoor.D Go.Proofs.YtbbhnbdekblghaaGreatDoor.Z
set_option linter.unusedVariables false
set_option linter.unusedSimpArgs false

theorem fresh15_any (w : World) : Calls Tryz.prog 31 #[] w fun e w' => ∃ vb d g, e = .returned (.pointer (some ⟨vb, 0, none⟩)) ∧ VB w vb d g (zeros 98) [] 0 98 0 [] w' := by
  go_enter Tryz.func31, Tryz.ntmps31
  go_wp2_with fail
  refine (new_in 98 w (by decide) (by decide)).mono ?_
  rintro _ w4 ⟨rfl, hD4, hb4⟩
  go_wp2_with fail
  refine (vnew_in (from_ := 0) (n := 98) w4 hD4 (by decide) (by decide)).mono ?_
  rintro _ w5 ⟨rfl, hv5, hb5⟩
  have h5 := Lib.hid (sv_new 98 0 98 w w4 w5 hb4 hv5 hb5)
  go_wp2_with fail
  go_ret
  exact ⟨_, _, _, rfl, h5.out, Blk.nil _ _⟩
theorem room15 (n : Nat) (h : n < 6) : Room 0 98 n := ⟨96, rfl, by omega, h⟩
/-- So many frames without payload. -/
def frs (k : Nat) : List (Int × ByteArray) := (List.range k).map fun i => (((1 + i : Nat) : Int), (⟨#[]⟩ : ByteArray))
theorem frs_succ (k : Nat) : frs (k + 1) = frs k ++ [(((1 + k : Nat) : Int), ⟨#[]⟩)] := by unfold frs; rw [List.range_succ, List.map_append]; rfl
theorem frs_len (k : Nat) : (frs k).length = k := by simp [frs]
theorem plc_frs (k : Nat) : plc (frs k) = 1 + k := by
  induction k with
  | zero => rfl
  | succ k ih =>
    have h1 : pcsN 0 = 1 := by decide
    rw [frs_succ, plc_snoc, ih]
    show 1 + k + pcsN 0 = 1 + (k + 1)
    omega
theorem LayB.create {X : List ByteArray} {s a g b : Nat} (hX : X.length = 16) (hno : ∀ k c, 1 ≤ k → k < 16 → ¬ okS X s c k) : LayB (putP X s 1 0 (fun i => B (pcL (headerL a g s b) i)) 1) s [] := by
  refine ⟨by rw [putP_len, hX], fun f hf => by simp at hf, by decide, fun i f hf => by simp at hf, ?_⟩
  intro k c hk hk2
  rw [plc_nil] at hk
  rintro ⟨y, h1, h2, h3, h4⟩
  rw [putP_at _ _ _ _ _ _ _ (by rw [hX]; decide), if_neg (by omega)] at h1
  exact hno k c hk hk2 ⟨y, h1, h2, h3, h4⟩
/-- What pieces under one stamp leave of another one's. -/
theorem okS_put {X : List ByteArray} {st c0 at_ k : Nat} {L : List UInt8} {s' c j : Nat} (hs : st < 4294967296) (hc1 : 1 ≤ c0) (hc2 : c0 < 65536) (hl : at_ + k ≤ X.length) (hne : s' ≠ st) (h : okS (putP X st c0 at_ (fun i => B (pcL L i)) k) s' c j) : okS X s' c j := by
  obtain ⟨y, h1, h2, h3, h4⟩ := h
  rw [putP_at _ _ _ _ _ _ _ hl] at h1
  split at h1
  · obtain rfl := Option.some.inj h1
    exact absurd (h3.symm.trans (open_sealP st c0 _ hs hc1 hc2 (pcL_len _ _)).2.1) hne
  · exact ⟨y, h1, h2, h3, h4⟩
section
variable {w0 W W1 : World} {vb d g' from_ m : Nat} {lie : List (List UInt8)} {ws : List (Nat × List UInt8)} {steps : Int} {K : List Bk}
/-- What laid leaves. -/
def LaidS (w0 : World) (vb d g' : Nat) (lie : List (List UInt8)) (ws : List (Nat × List UInt8)) (from_ m n a g s b k : Nat) (steps : Int) (K : List Bk) (sb : Nat) (wr : World) : Prop :=
  ∃ (r : Sr) (wsk : List (Nat × List UInt8)), r.Ok ∧ r.sl = false ∧ r.n = n ∧ r.s = s ∧ r.fs = frs k ∧ r.sb = sb ∧ VB w0 vb d g' lie wsk from_ m (steps + 1 + (k : Int)) (r.K vb ++ K) wr ∧ LayB (secOf lie wsk from_ n) s (frs k) ∧ (secOf lie wsk from_ n)[0]? = some (sealP s 1 (B (pcL (headerL a g s b) 0))) ∧ (∀ i, i ≠ n → secOf lie wsk from_ i = secOf lie ws from_ i) ∧ wsk.length = ws.length + 1 + k ∧ ∀ s' c j, s' ≠ s → okS (secOf lie wsk from_ n) s' c j → okS (secOf lie ws from_ n) s' c j
theorem laid_next {n a g s b k sb : Nat} (h : LaidS w0 vb d g' lie ws from_ m n a g s b k steps K sb W) (hr : Room from_ m n) (hs : s < 4294967296) (hk : k < 9) (h0 : 0 ≤ steps) (h1 : steps ≤ 800000) (hw : ws.length ≤ 80000) :
    Calls Tryz.prog 78 #[.pointer (some ⟨sb, 0, none⟩), .agg #[.int .i64 ((1 + k : Nat) : Int), .string ⟨#[]⟩]] W fun e w' => e = .returned (.tuple #[.int .i64 ((1 + k : Nat) : Int), .int .i64 0]) ∧ LaidS w0 vb d g' lie ws from_ m n a g s b (k + 1) steps K sb w' := by
  obtain ⟨r, wsk, q1, q2, rfl, rfl, q5, rfl, q7, q8, q9, q10, q11, q12⟩ := h
  have hf : FrOk (((1 + k : Nat) : Int), (⟨#[]⟩ : ByteArray)) := ⟨by show (1 : Int) ≤ ((1 + k : Nat) : Int); omega, by show ((1 + k : Nat) : Int) ≤ 255; omega, by show (0 : Nat) ≤ 773; decide⟩
  have hp1 : pcsN (⟨#[]⟩ : ByteArray).size = 1 := by decide
  have hpl : plc r.fs = 1 + k := by rw [q5, plc_frs]
  refine (q7.append ((1 + k : Nat) : Int) ⟨#[]⟩ q1 q2 hr hs hf (by rw [hpl, hp1]; omega) (by omega) (by omega) (by omega)).mono ?_
  rintro e w' ⟨r1, la', lc', rk', r2, r3⟩
  rw [hp1] at r3
  have hsec := sec_put lie wsk from_ r.n r.s (r.fs.length + 2) (plc r.fs) (encF (r.s : Int) (plc r.fs : Int) ((1 + k : Nat) : Int) (⟨#[]⟩ : ByteArray).data.toList) 1 (by rw [hpl]; omega)
  have hadd := q8.add (f := (((1 + k : Nat) : Int), (⟨#[]⟩ : ByteArray))) hf (by rw [plc_frs, hp1]; omega)
  unfold moreX at hadd
  simp only [hp1] at hadd
  refine ⟨by rw [r1, hpl], _, wsk ++ putW from_ r.n r.s (r.fs.length + 2) (plc r.fs) (encF (r.s : Int) (plc r.fs : Int) ((1 + k : Nat) : Int) (⟨#[]⟩ : ByteArray).data.toList) 1, r2, q2, rfl, rfl, by show r.fs ++ _ = _; rw [q5, frs_succ], rfl, ?_, ?_, ?_, fun i hi => ?_, by rw [List.length_append, putW_len, q11]; omega, fun s' c j hne hok => q12 s' c j hne ?_⟩
  · rw [show steps + 1 + ((k + 1 : Nat) : Int) = steps + 1 + (k : Int) + ((1 : Nat) : Int) from by omega]
    exact r3
  · rw [hsec, frs_succ, q5]
    exact hadd
  · rw [hsec, putP_far _ _ _ _ _ _ (by rw [sec_len, hpl]; omega) (by rw [hpl]; omega)]
    exact q9
  · rw [sec_far _ _ _ _ _ _ _ _ _ _ (by rw [hpl]; omega) (fun e => hi e.symm)]
    exact q10 i hi
  · rw [hsec] at hok
    exact okS_put hs (by omega) (by rw [q5, frs_len]; omega) (by rw [sec_len, hpl]; omega) hne hok
set_option maxRecDepth 100000 in
set_option maxHeartbeats 4000000 in
theorem laid_any {n a g s b F : Nat} (h : VB w0 vb d g' lie ws from_ m steps K W) (hr : Room from_ m n) (hT : Wide w0) (ha1 : 1 ≤ a) (ha : a < 65536) (hg : g < 4294967296) (hs : s < 4294967296) (hb : b ≤ 1099511627776) (hF : F ≤ 9) (h0 : 0 ≤ steps) (h1 : steps ≤ 800000) (hw : ws.length ≤ 80000)
    (hno : ∀ k c, 1 ≤ k → k < 16 → ¬ okS (secOf lie ws from_ n) s c k) :
    Calls Tryz.prog 32 #[.pointer (some ⟨vb, 0, none⟩), .int .i64 (n : Int), .agg #[.int .i64 (a : Int), .int .u32 (g : Int), .int .u32 (s : Int), .int .i64 (b : Int)], .int .i64 (F : Int)] W fun e w' => e = .returned (.bool true) ∧ ∃ sb, LaidS w0 vb d g' lie ws from_ m n a g s b F steps K sb w' := by
  have hcr : Hid (∀ V, Below W.heap.size W V → Calls Tryz.prog 77 #[.pointer (some ⟨vb, 0, none⟩), .int .i64 (n : Int), .agg #[.int .i64 (a : Int), .int .u32 (g : Int), .int .u32 (s : Int), .int .i64 (b : Int)]] V fun e w' => ∃ sb, e = .returned (.tuple #[.pointer (some ⟨sb, 0, none⟩), .int .i64 0]) ∧ LaidS w0 vb d g' lie ws from_ m n a g s b 0 steps K sb w') := Lib.hid (fun V hV => by
    have hv := h.below hV
    refine (hv.create n a g s b hr (hT.below hv.since) ha1 ha hg hs hb h0 (by omega) (by omega)).mono ?_
    rintro e w' ⟨sb, r1, r2⟩
    have hsec := sec_put lie ws from_ n s 1 0 (headerL a g s b) 1 (by omega)
    refine ⟨sb, r1, _, ws ++ putW from_ n s 1 0 (headerL a g s b) 1, Sr.made_ok sb n a g s b, rfl, rfl, rfl, rfl, rfl, ?_, ?_, ?_, fun i hi => sec_far _ _ _ _ _ _ _ _ _ _ (by omega) (fun e => hi e.symm), by rw [List.length_append, putW_len], fun s' c j hne hok => by rw [hsec] at hok; exact okS_put hs (by omega) (by omega) (by rw [sec_len]; omega) hne hok⟩
    · rw [show steps + 1 + ((0 : Nat) : Int) = steps + 1 from by omega]
      exact r2
    · rw [hsec]
      exact LayB.create (sec_len _ _ _ _) hno
    · rw [hsec, putP_at _ _ _ _ _ _ _ (by rw [sec_len]; omega), if_pos (by omega)])
  have hap : Hid (∀ (k : Nat) (sb : Nat) (V : World), k < 9 → LaidS w0 vb d g' lie ws from_ m n a g s b k steps K sb V → Calls Tryz.prog 78 #[.pointer (some ⟨sb, 0, none⟩), .agg #[.int .i64 ((1 + k : Nat) : Int), .string ⟨#[]⟩]] V fun e w' => e = .returned (.tuple #[.int .i64 ((1 + k : Nat) : Int), .int .i64 0]) ∧ LaidS w0 vb d g' lie ws from_ m n a g s b (k + 1) steps K sb w') := Lib.hid (fun k sb V hk hV => laid_next hV hr hs hk h0 h1 hw)
  have hb1 := allocBelow W (.cells #[.int .i64 (a : Int), .int .u32 (g : Int), .int .u32 (s : Int), .int .i64 (b : Int)] 79)
  clear h hT hno
  go_enter Tryz.func32, Tryz.ntmps32
  go_wp2_with fail
  refine (hcr.out _ hb1).mono ?_
  rintro _ w2 ⟨sb, rfl, hl2⟩
  replace hl2 := Lib.hid hl2
  clear hcr hb1
  go_wp2_with fail
  go_loopg [22] F (fun ga ix wr => ∃ k : Nat, k ≤ F ∧ F ≤ k + ga ∧ ix = .int .i64 k ∧ Hid (LaidS w0 vb d g' lie ws from_ m n a g s b k steps K sb wr))
  case atStart => exact ⟨0, by omega, by omega, rfl, hl2⟩
  case round =>
    clear hl2
    obtain ⟨k, hk, hgk, rfl, hrel⟩ := hrel
    generalize wr = wo at *
    by_cases hlt : k < F
    · have hc := Lib.hid (hap.out k sb wo (by omega) hrel.out)
      have hwr : IntKind.i64.wrap (1 + (k : Int)) = ((1 + k : Nat) : Int) := by rw [IntWalk.i64_in _ (by omega)]; omega
      obtain ⟨N1, hN1⟩ : ∃ N1 : Int, Hid (((1 + k : Nat) : Int) = N1) := ⟨_, Lib.hid rfl⟩
      rw [hN1.out] at hc hwr
      clear hrel hN1
      go_wp2_with fail
      refine hc.out.mono ?_
      rintro _ w5 ⟨rfl, hv5⟩
      replace hv5 := Lib.hid hv5
      clear hc hwr
      go_wp2_with fail
      go_roundg (gk - 1)
      case measure => omega
      case rel => exact ⟨k + 1, by omega, by omega, by go_num, hv5⟩
    · obtain rfl : k = F := by omega
      go_wp2_with fail
      go_ret
      exact ⟨rfl, sb, hrel.out⟩
end
end Go.Proofs.YtbbhnbdekblghaaGreatDoor.W
end
section
namespace Go.Proofs.YtbbhnbdekblghaaGreatDoor.W
open Go.RowKit Go.Sort
open Go.Proofs.YtbbhnbdekblghaaGreatDoor.M Go.Proofs.YtbbhnbdekblghaaGreatDoor.D Go.Proofs.YtbbhnbdekblghaaGreatDoor.Z
set_option linter.unusedVariables false

/-- A row of numbers that lies somewhere. -/
def ToldI (w : World) (A : Option Addr) (xs : List Int) : Prop := ∀ (k : Nat) (x : Int), xs[k]? = some x → ∃ g : Nat, A = some ⟨g, 0, none⟩ ∧ w.cell? ⟨g, k, none⟩ = some (.int .i64 x)
theorem ToldI.below {w w' : World} {A : Option Addr} {xs : List Int} (h : ToldI w A xs) (hb : Below w.heap.size w w') : ToldI w' A xs := fun k x hk => by
  obtain ⟨g, e, hc⟩ := h k x hk
  exact ⟨g, e, keepCell hb hc⟩
theorem told_own {w : World} {B c : Nat} {A : Option Addr} {xs : List Int} (h : w.ownsRow B 3 1 (.slice A xs.length c) xs.length (rowP xs)) : ToldI w A xs := fun k x hk => by
  have h0 : 0 < xs.length := by have := (List.getElem?_eq_some_iff.1 hk).1; omega
  obtain ⟨gg, c2, e, _, _, _, _, hcl⟩ := ownCells h0 h
  injection e with e1
  exact ⟨gg, e1, hcl k _ (rowP_at hk)⟩
set_option maxRecDepth 100000 in
theorem ints_same (A1 A2 : Option Addr) (c1 c2 : Nat) (xs : List Int) (w : World) (h1 : ToldI w A1 xs) (h2 : ToldI w A2 xs) (hl : xs.length ≤ 64) :
    Calls Tryz.prog 18 #[.slice A1 xs.length c1, .slice A2 xs.length c2] w fun e w' => e = .returned (.bool true) ∧ Below w.heap.size w w' := by
  have k1 : Hid (∀ k, k < xs.length → ∃ g, A1 = some ⟨g, 0, none⟩ ∧ w.cell? ⟨g, k, none⟩ = some (.int .i64 (xs.getD k 0))) := Lib.hid (fun k hk => by
    obtain ⟨g, e, hc⟩ := h1 k _ (List.getElem?_eq_getElem hk)
    exact ⟨g, e, by rw [hc, List.getD, List.getElem?_eq_getElem hk]; rfl⟩)
  have k2 : Hid (∀ k, k < xs.length → ∃ g, A2 = some ⟨g, 0, none⟩ ∧ w.cell? ⟨g, k, none⟩ = some (.int .i64 (xs.getD k 0))) := Lib.hid (fun k hk => by
    obtain ⟨g, e, hc⟩ := h2 k _ (List.getElem?_eq_getElem hk)
    exact ⟨g, e, by rw [hc, List.getD, List.getElem?_eq_getElem hk]; rfl⟩)
  obtain ⟨len, hlen⟩ : ∃ len, Hid (xs.length = len) := ⟨_, Lib.hid rfl⟩
  rw [hlen.out] at hl k1 k2 ⊢
  clear h1 h2
  go_enter Tryz.func18, Tryz.ntmps18
  go_wp2_with fail
  go_loopg [13] len (fun g i wr => ∃ k m : Nat, k ≤ len ∧ len ≤ k + g ∧ i = .int .i64 k ∧ wr = w.drewN m)
  case atStart => exact ⟨0, 0, by omega, by omega, rfl, rfl⟩
  case round =>
    obtain ⟨k, m, hk, hg, rfl, rfl⟩ := hrel
    by_cases hlt : k < len
    · obtain ⟨b1, rfl, f1⟩ := k1.out k hlt
      obtain ⟨b2, rfl, f2⟩ := k2.out k hlt
      obtain ⟨x, hx⟩ : ∃ x, Hid (xs.getD k 0 = x) := ⟨_, Lib.hid rfl⟩
      rw [hx.out] at f1 f2
      have hk0 : (0 : Int) ≤ (k : Int) := by omega
      have hk1 : (k : Int) < (len : Int) := by omega
      go_wp2_with fail
      go_quiet (fail)
      go_wp2_with fail
      go_roundg (gk - 1)
      case measure => omega
      case rel => exact ⟨k + 1, _, by omega, by omega, by go_num, rfl⟩
    · obtain rfl : k = len := by omega
      go_wp2_with fail
      go_ret
      exact ⟨rfl, drewS (Below.refl _ _) m⟩
end Go.Proofs.YtbbhnbdekblghaaGreatDoor.W
end
end
section
section
section
namespace Go.Proofs.YtbbhnbdekblghaaGreatDoor.W
open Go.RowKit Go.Sort
open Go.Proofs.YtbbhnbdekblghaaGreatDoor.M Go.Proofs.YtbbhnbdekblghaaGreatDoor.D Go.Proofs.YtbbhnbdekblghaaGreatDoor.Z
set_option linter.unusedVariables false
set_option linter.unusedSimpArgs false
section
variable {w : World} {sb vb n : Nat}
set_option maxRecDepth 100000 in
set_option maxHeartbeats 4000000 in
theorem open_dead (p A : Nat) (cc : Int) (r : Int) (hr : r ≠ 0) (hn : n ≤ 1000) (hp : p ≤ 1000) (hA : 2 + 16 * n + p = A) (c0 : w.cell? ⟨sb, 0, none⟩ = some (.pointer (some ⟨vb, 0, none⟩))) (c1 : w.cell? ⟨sb, 1, none⟩ = some (.int .i64 (n : Int)))
    (hrd : ∀ W, Below w.heap.size w W → Calls Tryz.prog 165 #[.pointer (some ⟨vb, 0, none⟩), .int .i64 (A : Int)] W fun e w' => e = .returned (.tuple #[.string ⟨#[]⟩, .int .i64 r]) ∧ Below W.heap.size W w') :
    Calls Tryz.prog 141 #[.agg #[.pointer (some ⟨sb, 0, none⟩)], .int .i64 (p : Int), .int .i64 cc] w fun e w' => e = .returned (.tuple #[.int .u32 0, .string ⟨#[]⟩, .int .i64 r]) ∧ Below w.heap.size w w' := by
  have hsec : Hid (∀ W : World, W.cell? ⟨sb, 1, none⟩ = some (.int .i64 (n : Int)) → Calls Tryz.prog 126 #[.pointer (some ⟨sb, 0, none⟩), .int .i64 (p : Int)] W fun e w' => e = .returned (.int .i64 (A : Int)) ∧ W = w') := Lib.hid (fun W hc => by
    have h := sectorAt_any sb n p W (by omega) (by omega) hc
    rw [hA] at h
    exact h)
  obtain ⟨W, hW⟩ : ∃ W, Hid (W = w.alloc (.cells #[.pointer (some ⟨sb, 0, none⟩)] 163)) := ⟨_, Lib.hid rfl⟩
  have hbW : Below w.heap.size w W := by rw [hW.out]; exact allocBelow w _
  have hbox : Whole W w.heap.size 163 [.pointer (some ⟨sb, 0, none⟩)] := by rw [hW.out]; exact Whole.new w _ _
  have d0 : W.drew.cell? ⟨w.heap.size, 0, none⟩ = some (.pointer (some ⟨sb, 0, none⟩)) := hbox.cell 0
  have e0 : W.drew.cell? ⟨sb, 0, none⟩ = some (.pointer (some ⟨vb, 0, none⟩)) := (show W.cell? ⟨sb, 0, none⟩ = _ from keepCell hbW c0)
  have e1 : W.drew.cell? ⟨sb, 1, none⟩ = some (.int .i64 (n : Int)) := (show W.cell? ⟨sb, 1, none⟩ = _ from keepCell hbW c1)
  have hbD := Lib.hid (show Below w.heap.size w W.drew from hbW.trans ((drewBelow W).mono hbW.size))
  have hcc : (r != 0) = true := by simpa using hr
  replace hrd := Lib.hid hrd
  replace hr := Lib.hid hr
  clear c0 c1 hbox hbW hA
  go_enter Tryz.func141, Tryz.ntmps141
  go_upto_region 1 with fail
  rw [← show W = _ from hW.out]
  clear hW
  go_wp2_with fail
  go_region_held3 (fun w' => w'.cell? ⟨w.heap.size, 0, none⟩ = some (.pointer (some ⟨sb, 0, none⟩)) ∧ w'.cell? ⟨sb, 0, none⟩ = some (.pointer (some ⟨vb, 0, none⟩)) ∧ w'.cell? ⟨sb, 1, none⟩ = some (.int .i64 (n : Int))) (go_keep) (first
    | (go_at_call 126; (with_reducible refine (hsec.out _ e1).mono ?_); rintro _ w6 ⟨rfl, rfl⟩)
    | (go_at_call 165; (with_reducible refine (hrd.out _ hbD.out).mono ?_); rintro _ w7 ⟨rfl, hb7⟩; have g0 := keepCell hb7 d0; have g1 := keepCell hb7 e0; have g2 := keepCell hb7 e1))
  have hB7 := Lib.hid (hbD.out.trans (hb7.mono hbD.out.size))
  clear d0 e0 e1 g0 g1 g2 hb7 hbD
  go_wp2_with fail
  exact bodyPost_ret (v := .tuple #[.int .u32 0, .string ⟨#[]⟩, .int .i64 r]) (by simp [results, Tryz.results141, go_sem]) rfl ⟨rfl, hB7.out⟩
set_option maxRecDepth 100000 in
set_option maxHeartbeats 4000000 in
theorem readHeader_dead (A : Nat) (cs : List Value) (r : Int) (hr : r ≠ 0) (hn : n ≤ 1000) (hA : 2 + 16 * n + 0 = A) (hS : Whole w sb 160 cs) (k0 : cs[0]? = some (.pointer (some ⟨vb, 0, none⟩))) (k1 : cs[1]? = some (.int .i64 (n : Int)))
    (hrd : ∀ W, Below w.heap.size w W → Calls Tryz.prog 165 #[.pointer (some ⟨vb, 0, none⟩), .int .i64 (A : Int)] W fun e w' => e = .returned (.tuple #[.string ⟨#[]⟩, .int .i64 r]) ∧ Below W.heap.size W w') :
    Calls Tryz.prog 106 #[.agg #[.pointer (some ⟨sb, 0, none⟩)]] w fun e w' => e = .returned (.int .i64 r) ∧ Below w.heap.size w w' := by
  obtain ⟨W, hW⟩ : ∃ W, Hid (W = w.alloc (.cells #[.pointer (some ⟨sb, 0, none⟩)] 163)) := ⟨_, Lib.hid rfl⟩
  have hbW : Below w.heap.size w W := by rw [hW.out]; exact allocBelow w _
  have hbox : Whole W w.heap.size 163 [.pointer (some ⟨sb, 0, none⟩)] := by rw [hW.out]; exact Whole.new w _ _
  have hSW := hS.below hbW hS.lt
  have d0 : W.cell? ⟨w.heap.size, 0, none⟩ = some (.pointer (some ⟨sb, 0, none⟩)) := hbox.cell 0
  have hop := Lib.hid (open_dead 0 A 1 r hr hn (by omega) hA ((hSW.cell 0).trans k0) ((hSW.cell 1).trans k1) (fun W' hb => hrd W' (hbW.trans (hb.mono hbW.size))))
  have hcc : (r != 0) = true := by simpa using hr
  replace hr := Lib.hid hr
  clear hA hrd hS hSW k0 k1
  go_enter Tryz.func106, Tryz.ntmps106
  go_upto_region 1 with fail
  rw [← show W = _ from hW.out]
  clear hW
  go_wp2_with fail
  refine hop.out.mono ?_
  rintro _ w1 ⟨rfl, hb1⟩
  have hB1 := Lib.hid (grew hbW hb1)
  clear d0 hb1
  go_wp2_with fail
  go_ret
  exact ⟨rfl, hB1.out⟩
end
section
variable {w : World} {vb d g' : Nat} {v : Value} {lie : List (List UInt8)} {ws : List (Nat × List UInt8)} {from_ m : Nat} {fuse steps : Int}
theorem read_dead (a : Nat) (h : Vw w vb d g' v lie ws from_ m fuse steps true) (ha : a < m) :
    Calls Tryz.prog 165 #[.pointer (some ⟨vb, 0, none⟩), .int .i64 (a : Int)] w fun e w' => e = .returned (.tuple #[.string ⟨#[]⟩, .int .i64 21]) ∧ Below w.heap.size w w' := by
  have hx : vwhy m true (a : Int) = 21 := by unfold vwhy; rw [if_pos (by omega), if_pos rfl]
  have h1 := vread_no (a : Int) h (by rw [hx]; decide)
  rw [hx] at h1
  exact h1
set_option maxRecDepth 100000 in
set_option maxHeartbeats 4000000 in
theorem load_dead (n q : Nat) (h : Vw w vb d g' v lie ws from_ m fuse steps true) (hm : m = q + 2) (hq : q ≤ 1000) (hn : n < q / 16) :
    Calls Tryz.prog 59 #[.pointer (some ⟨vb, 0, none⟩), .int .i64 (n : Int)] w fun e w' => e = .returned (.tuple #[.pointer none, .int .i64 21]) ∧ Below w.heap.size w w' := by
  have hf := Lib.hid (find_in n q h hm (by omega) hn)
  have hrh := Lib.hid (fun (W : World) (hb : Below w.heap.size w W) (hS : Whole W w.heap.size 160 (sgL vb n 0 0 0 0 (.slice none 0 0) 1 false)) =>
    readHeader_dead (2 + 16 * n + 0) (sgL vb n 0 0 0 0 (.slice none 0 0) 1 false) 21 (by decide) (by omega) rfl hS rfl rfl (fun W' hb' => read_dead (2 + 16 * n + 0) (h.below (grew hb hb')) (by omega)))
  clear h
  go_enter Tryz.func59, Tryz.ntmps59
  go_wp2_with fail
  refine hf.out.mono ?_
  rintro _ w1 ⟨rfl, hS1, hb1⟩
  have hB2 := Lib.hid (grewAlloc hb1 (.cells #[.pointer (some ⟨w.heap.size, 0, none⟩)] 163))
  have hS2 := Lib.hid (hS1.alloc (.cells #[.pointer (some ⟨w.heap.size, 0, none⟩)] 163))
  clear hS1 hb1
  go_wp2_with fail
  refine (hrh.out _ hB2.out hS2.out).mono ?_
  rintro _ w3 ⟨rfl, hb3⟩
  have hB3 := Lib.hid (grew hB2.out hb3)
  go_wp2_with fail
  go_ret2
  exact ⟨rfl, hB3.out⟩
theorem sload_dead (n q : Nat) (h : Vw w vb d g' v lie ws from_ m fuse steps true) (hm : m = q + 2) (hq : q ≤ 1000) (hn : n < q / 16) :
    Calls Tryz.prog 79 #[.pointer (some ⟨vb, 0, none⟩), .int .i64 (n : Int)] w fun e w' => e = .returned (.tuple #[.pointer none, .int .i64 21]) ∧ Below w.heap.size w w' := by
  have hl2 := Lib.hid (load_dead n q h hm hq hn)
  clear h
  go_enter Tryz.func79, Tryz.ntmps79
  go_wp2_with fail
  refine hl2.out.mono ?_
  rintro _ w2 ⟨rfl, r1⟩
  replace r1 := Lib.hid r1
  go_wp2_with fail
  go_ret2
  exact ⟨rfl, r1.out⟩
/-- All of a dead view. -/
theorem all_dead (q : Nat) (h : Vw w vb d g' v lie ws from_ m fuse steps true) (hm : m = q + 2) (hq : q ≤ 1000) (hn : 0 < q / 16) :
    Calls Tryz.prog 33 #[.pointer (some ⟨vb, 0, none⟩), .int .i64 1] w fun e w' => e = .returned (.tuple #[.slice none 0 0, .int .i64 21]) ∧ Below w.heap.size w w' := by
  have hl2 := Lib.hid (sload_dead 0 q h hm hq hn)
  clear h
  go_enter Tryz.func33, Tryz.ntmps33
  go_wp2_with fail
  refine wp_loop_rounds 1 ?_
  rw [rounds_succ]
  go_wp2_with fail
  refine hl2.out.mono ?_
  rintro _ w2 ⟨rfl, r1⟩
  replace r1 := Lib.hid r1
  go_wp2_with fail
  go_ret2
  exact ⟨rfl, r1.out⟩
/-- No segments have no numbers. -/
theorem numbers_none (w : World) : Calls Tryz.prog 87 #[.slice none 0 0] w fun e w' => e = .returned (.slice none 0 0) ∧ w = w' := by
  go_enter Tryz.func87, Tryz.ntmps87
  go_wp2_with fail
  refine wp_loop_rounds 1 ?_
  rw [rounds_succ]
  go_wp2_with fail
  go_ret
  exact ⟨rfl, rfl⟩
theorem check_none (p : Value) (w : World) : Calls Tryz.prog 91 #[p, .slice none 0 0] w fun e w' => e = .returned (.int .i64 0) ∧ w = w' := by
  go_enter Tryz.func91, Tryz.ntmps91
  go_wp2_with fail
  refine wp_loop_rounds 1 ?_
  rw [rounds_succ]
  go_wp2_with fail
  go_ret
  exact ⟨rfl, rfl⟩
/-- Clean of a dead view. -/
theorem clean_dead (h : Vw w vb d g' v lie ws from_ m fuse steps true) :
    Calls Tryz.prog 38 #[.pointer (some ⟨vb, 0, none⟩), .slice none 0 0, .slice none 0 0] w fun e w' => e = .returned (.int .i64 21) ∧ VTurned w vb d g' v lie ws from_ m fuse steps true w' := by
  have hk := (Kept.refl (fun k => k = vb ∨ mine d g' v k) w).alloc (.cells #[.slice none 0 0] 36)
  have hfl := Lib.hid (flush_dead (h.below (allocBelow w (.cells #[.slice none 0 0] 36))) (.inl rfl))
  replace hk := Lib.hid hk
  clear h
  go_enter Tryz.func38, Tryz.ntmps38
  go_wp2_with fail
  refine (numbers_none _).mono ?_
  rintro _ w1 ⟨rfl, rfl⟩
  go_wp2_with fail
  refine (numbers_none _).mono ?_
  rintro _ w1 ⟨rfl, rfl⟩
  go_wp2_with fail
  refine (ndelete_nil _ _).mono ?_
  rintro _ w1 ⟨rfl, rfl⟩
  go_wp2_with fail
  refine (check_none _ _).mono ?_
  rintro _ w1 ⟨rfl, rfl⟩
  go_wp2_with fail
  refine wp_loop_rounds 1 ?_
  rw [rounds_succ]
  go_wp2_with fail
  refine hfl.out.mono ?_
  rintro _ w2 ⟨rfl, v', r1, r2, r3⟩
  have hfin := Lib.hid (show VTurned w vb d g' v lie ws from_ m fuse steps true w2 from ⟨v', r1, fun k hk => (r2 k hk).imp id (fun h => by simp at h; omega), hk.out.trans r3⟩)
  clear hfl hk r1 r2 r3
  go_wp2_with fail
  go_ret
  exact ⟨rfl, hfin.out⟩
end
/-- Sectors of bytes 0, in a fresh view of six segments. -/
theorem sec_zero98 (n : Nat) (h : n < 6) : secOf (zeros 98) [] 0 n = blankS := by
  unfold secOf blankS
  apply List.ext_getElem?
  intro k
  by_cases hk : k < 16
  · rw [List.getElem?_map, List.getElem?_range hk, List.getElem?_replicate, if_pos hk, Option.map_some, zeros_at _ _ (by omega)]
    rfl
  · rw [List.getElem?_eq_none (by simp; omega), List.getElem?_eq_none (by simp; omega)]
theorem blank_no (s : Nat) : ∀ k c, 1 ≤ k → k < 16 → ¬ okS blankS s c k := by
  rintro k c _ hk2 ⟨y, h1, h2, _⟩
  unfold blankS at h1
  rw [List.getElem?_replicate, if_pos hk2] at h1
  cases h1
  exact zero_shut h2
theorem lies_blank {lie : List (List UInt8)} {ws : List (Nat × List UInt8)} {f n : Nat} (h : secOf lie ws f n = blankS) : Lies lie ws f n none :=
  ⟨zerosB 64, by rw [h]; rfl, fun e => zero_shut e.1⟩
/-- In a fresh view nothing lies. -/
theorem lies_fresh : ∀ i x, (List.replicate 6 (none : Option Hd))[i]? = some x → Lies (zeros 98) [] 0 i x := fun i x hx => by
  rw [List.getElem?_replicate] at hx
  by_cases h : i < 6
  · rw [if_pos h] at hx
    cases hx
    exact lies_blank (sec_zero98 i h)
  · rw [if_neg h] at hx; cases hx
theorem found_nothing (k : Nat) : found (List.replicate 6 none) k = [] := by
  unfold found
  rw [List.filterMap_eq_nil_iff]
  intro i _
  rw [List.getD_eq_getElem?_getD, List.getElem?_replicate]
  split <;> rfl
/-- All of a fresh view. -/
theorem all_fresh {w0 W : World} {vb d g' : Nat} {K : List Bk} (N : Int) (h : VB w0 vb d g' (zeros 98) [] 0 98 0 K W) (hT : Wide w0) :
    Calls Tryz.prog 33 #[.pointer (some ⟨vb, 0, none⟩), .int .i64 N] W fun e w' => ∃ (A : Option Addr) (c : Nat), e = .returned (.tuple #[.slice A 0 c, .int .i64 (if N ≤ 6 then 0 else 20)]) ∧ VB w0 vb d g' (zeros 98) [] 0 98 0 K w' := by
  refine (all_any (q := 96) (List.replicate 6 none) N h rfl (by decide) rfl lies_fresh hT (by simp)).mono ?_
  rintro e w' (⟨h1, rs, A, c, pk, rfl, got, row, hv⟩ | ⟨h1, rfl, hv⟩)
  · have hrs : rs = [] := by
      have := got.1
      rw [found_nothing] at this
      exact List.map_eq_nil_iff.1 this
    subst hrs
    rw [if_pos (by simpa using h1)]
    exact ⟨A, c, rfl, hv.sub (List.sublist_append_right pk K)⟩
  · rw [if_neg (by simp at h1; omega)]
    exact ⟨none, 0, rfl, hv⟩
/-- Nothing has no chain. -/
theorem first_none (f : Value) (w : World) : Calls Tryz.prog 83 #[.slice none 0 0, f] w fun e w' => e = .returned (.pointer none) ∧ w = w' := by
  go_enter Tryz.func83, Tryz.ntmps83
  go_wp2_with fail
  refine wp_loop_rounds 1 ?_
  rw [rounds_succ]
  go_wp2_with fail
  go_ret
  exact ⟨rfl, rfl⟩
set_option maxRecDepth 100000 in
set_option maxHeartbeats 2000000 in
theorem chain_none (id gen fr : Int) (w : World) :
    Calls Tryz.prog 35 #[.slice none 0 0, .int .i64 id, .int .u32 gen, .int .i64 fr] w fun e w' => e = .returned (.slice none 0 0) ∧ Below w.heap.size w w' := by
  go_enter Tryz.func35, Tryz.ntmps35
  go_wp2_with fail
  refine (first_none _ _).mono ?_
  rintro _ w1 ⟨rfl, rfl⟩
  go_wp2_with fail
  refine wp_loop_rounds 1 ?_
  rw [rounds_succ]
  go_wp2_with fail
  go_ret
  refine ⟨rfl, ?_⟩
  repeat (first | exact Below.refl _ _ | refine grewAlloc ?_ _)
/-- What lies behind the law's three calls of laid. -/
def os3 : List (Option Hd) := [some ⟨3, 1, 1, 9, frs 2⟩, none, some ⟨3, 1, 2, 0, frs 5⟩, some ⟨3, 1, 3, 5, frs 3⟩, none, none]
theorem found3 : found os3 6 = [(0, ⟨3, 1, 1, 9, frs 2⟩), (2, ⟨3, 1, 2, 0, frs 5⟩), (3, ⟨3, 1, 3, 5, frs 3⟩)] := rfl
theorem hd3 {r : Sr} {n : Nat} {x : Hd} (h : (r.n, r.hd) = (n, x)) : r.n = n ∧ r.a = x.a ∧ r.g = x.g ∧ r.s = x.s ∧ r.b = x.b ∧ r.fs = x.fs := by
  have h1 := congrArg Prod.fst h
  have h2 : r.hd = x := congrArg Prod.snd h
  exact ⟨h1, congrArg Hd.a h2, congrArg Hd.g h2, congrArg Hd.s h2, congrArg Hd.b h2, congrArg Hd.fs h2⟩
theorem got3 {rs : List Sr} (h : Got rs (found os3 6)) : ∃ ra rb rc, rs = [ra, rb, rc] ∧
    (ra.n = 0 ∧ ra.a = 3 ∧ ra.g = 1 ∧ ra.s = 1 ∧ ra.b = 9 ∧ ra.fs = frs 2) ∧ (rb.n = 2 ∧ rb.a = 3 ∧ rb.g = 1 ∧ rb.s = 2 ∧ rb.b = 0 ∧ rb.fs = frs 5) ∧ (rc.n = 3 ∧ rc.a = 3 ∧ rc.g = 1 ∧ rc.s = 3 ∧ rc.b = 5 ∧ rc.fs = frs 3) := by
  have h1 := h.1
  rw [found3] at h1
  obtain ⟨ra, l1, rfl, e1, h1⟩ := List.map_eq_cons_iff.1 h1
  obtain ⟨rb, l2, rfl, e2, h1⟩ := List.map_eq_cons_iff.1 h1
  obtain ⟨rc, l3, rfl, e3, h1⟩ := List.map_eq_cons_iff.1 h1
  obtain rfl := List.map_eq_nil_iff.1 h1
  exact ⟨ra, rb, rc, rfl, hd3 e1, hd3 e2, hd3 e3⟩
theorem chain3 {ra rb rc : Sr} (ha : ra.n = 0 ∧ ra.a = 3 ∧ ra.g = 1 ∧ ra.s = 1 ∧ ra.b = 9 ∧ ra.fs = frs 2) (hb : rb.n = 2 ∧ rb.a = 3 ∧ rb.g = 1 ∧ rb.s = 2 ∧ rb.b = 0 ∧ rb.fs = frs 5) (hc : rc.n = 3 ∧ rc.a = 3 ∧ rc.g = 1 ∧ rc.s = 3 ∧ rc.b = 5 ∧ rc.fs = frs 3) : chainR [ra, rb, rc] 3 1 2 = [rb, rc] := by
  obtain ⟨_, a1, a2, a3, a4, a5⟩ := ha
  obtain ⟨_, b1, b2, b3, b4, b5⟩ := hb
  obtain ⟨_, c1, c2, c3, c4, c5⟩ := hc
  unfold chainR
  simp [walkC, firstF, pick1, P2, P3, isL, a1, a2, a3, a4, a5, b1, b2, b3, b4, b5, c1, c2, c3, c4, c5, frs_len]
theorem gone3 {ra rb rc : Sr} (ha : ra.n = 0) (hb : rb.n = 2) (hc : rc.n = 3) : goneL [ra, rb, rc] [rb, rc] = [0] := by
  unfold goneL numL
  simp [ha, hb, hc]
section
variable {w0 W : World} {vb d g' from_ m : Nat} {lie : List (List UInt8)} {ws : List (Nat × List UInt8)} {steps : Int} {K : List Bk}
/-- What three calls of laid leave lying. -/
theorem lies3 {ws1 ws2 ws3 : List (Nat × List UInt8)}
    (L1 : LayB (secOf (zeros 98) ws1 0 0) 1 (frs 2)) (H1 : (secOf (zeros 98) ws1 0 0)[0]? = some (sealP 1 1 (B (pcL (headerL 3 1 1 9) 0)))) (far1 : ∀ i, i ≠ 0 → secOf (zeros 98) ws1 0 i = secOf (zeros 98) [] 0 i)
    (L2 : LayB (secOf (zeros 98) ws2 0 2) 2 (frs 5)) (H2 : (secOf (zeros 98) ws2 0 2)[0]? = some (sealP 2 1 (B (pcL (headerL 3 1 2 0) 0)))) (far2 : ∀ i, i ≠ 2 → secOf (zeros 98) ws2 0 i = secOf (zeros 98) ws1 0 i)
    (L3 : LayB (secOf (zeros 98) ws3 0 3) 3 (frs 3)) (H3 : (secOf (zeros 98) ws3 0 3)[0]? = some (sealP 3 1 (B (pcL (headerL 3 1 3 5) 0)))) (far3 : ∀ i, i ≠ 3 → secOf (zeros 98) ws3 0 i = secOf (zeros 98) ws2 0 i) :
    ∀ i x, os3[i]? = some x → Lies (zeros 98) ws3 0 i x := by
  intro i x hx
  match i, hx with
  | 0, hx =>
    obtain rfl : some (⟨3, 1, 1, 9, frs 2⟩ : Hd) = x := Option.some.inj hx
    refine ⟨⟨by decide, by decide, by decide, by decide, by decide⟩, ?_, ?_⟩
    · rw [far3 0 (by decide), far2 0 (by decide)]; exact L1
    · rw [far3 0 (by decide), far2 0 (by decide)]; exact H1
  | 1, hx =>
    obtain rfl : none = x := Option.some.inj hx
    exact lies_blank (by rw [far3 1 (by decide), far2 1 (by decide), far1 1 (by decide), sec_zero98 1 (by decide)])
  | 2, hx =>
    obtain rfl : some (⟨3, 1, 2, 0, frs 5⟩ : Hd) = x := Option.some.inj hx
    refine ⟨⟨by decide, by decide, by decide, by decide, by decide⟩, ?_, ?_⟩
    · rw [far3 2 (by decide)]; exact L2
    · rw [far3 2 (by decide)]; exact H2
  | 3, hx =>
    obtain rfl : some (⟨3, 1, 3, 5, frs 3⟩ : Hd) = x := Option.some.inj hx
    exact ⟨⟨by decide, by decide, by decide, by decide, by decide⟩, L3, H3⟩
  | 4, hx =>
    obtain rfl : none = x := Option.some.inj hx
    exact lies_blank (by rw [far3 4 (by decide), far2 4 (by decide), far1 4 (by decide), sec_zero98 4 (by decide)])
  | 5, hx =>
    obtain rfl : none = x := Option.some.inj hx
    exact lies_blank (by rw [far3 5 (by decide), far2 5 (by decide), far1 5 (by decide), sec_zero98 5 (by decide)])
  | n + 6, hx => cases hx
/-- The law's three calls of laid. -/
theorem laid3 (hT : Wide w0) (n a g s b F : Nat) (h1 : n < 6) (ha : 1 ≤ a ∧ a < 65536) (hg : g < 4294967296) (hs : s < 4294967296) (hb : b ≤ 1099511627776) (hF : F ≤ 9) {ws : List (Nat × List UInt8)} {st : Int} {K : List Bk} {V : World}
    (hV : VB w0 vb d g' (zeros 98) ws 0 98 st K V) (h0 : 0 ≤ st ∧ st ≤ 1000) (hw : ws.length ≤ 1000) (hz : secOf (zeros 98) ws 0 n = blankS) :
    Calls Tryz.prog 32 #[.pointer (some ⟨vb, 0, none⟩), .int .i64 (n : Int), .agg #[.int .i64 (a : Int), .int .u32 (g : Int), .int .u32 (s : Int), .int .i64 (b : Int)], .int .i64 (F : Int)] V fun e w' => e = .returned (.bool true) ∧ ∃ wsk, VB w0 vb d g' (zeros 98) wsk 0 98 (st + 1 + (F : Int)) K w' ∧ LayB (secOf (zeros 98) wsk 0 n) s (frs F) ∧ (secOf (zeros 98) wsk 0 n)[0]? = some (sealP s 1 (B (pcL (headerL a g s b) 0))) ∧ (∀ i, i ≠ n → secOf (zeros 98) wsk 0 i = secOf (zeros 98) ws 0 i) ∧ wsk.length = ws.length + 1 + F := by
  refine (laid_any hV (room15 n h1) hT ha.1 ha.2 hg hs hb hF h0.1 (by omega) (by omega) (by rw [hz]; exact blank_no s)).mono ?_
  rintro e w' ⟨rfl, sb, r, wsk, _, _, _, _, _, _, q7, q8, q9, q10, q11, _⟩
  exact ⟨rfl, wsk, q7.sub (List.sublist_append_right _ _), q8, q9, q10, q11⟩
end
end Go.Proofs.YtbbhnbdekblghaaGreatDoor.W
end
end
section
section
namespace Go.Proofs.YtbbhnbdekblghaaGreatDoor.W
open Go.RowKit Go.Sort
open Go.Proofs.YtbbhnbdekblghaaGreatDoor.M Go.Proofs.YtbbhnbdekblghaaGreatDoor.D Go.Proofs.YtbbhnbdekblghaaGreatDoor.Z
set_option linter.unusedVariables false
set_option linter.unusedSimpArgs false
def os2 : List (Option Hd) := [none, none, some ⟨3, 1, 2, 0, frs 5⟩, some ⟨3, 1, 3, 5, frs 3⟩, none, none]
theorem found2 : found os2 6 = [(2, ⟨3, 1, 2, 0, frs 5⟩), (3, ⟨3, 1, 3, 5, frs 3⟩)] := rfl
theorem got2 {rs : List Sr} (h : Got rs (found os2 6)) : ∃ rb rc, rs = [rb, rc] ∧ rb.n = 2 ∧ rc.n = 3 := by
  have h1 := h.1
  rw [found2] at h1
  obtain ⟨rb, l2, rfl, e2, h1⟩ := List.map_eq_cons_iff.1 h1
  obtain ⟨rc, l3, rfl, e3, h1⟩ := List.map_eq_cons_iff.1 h1
  obtain rfl := List.map_eq_nil_iff.1 h1
  exact ⟨rb, rc, rfl, (hd3 e2).1, (hd3 e3).1⟩
theorem lies2 {lie : List (List UInt8)} {ws : List (Nat × List UInt8)} (h : ∀ i x, os3[i]? = some x → Lies lie ws 0 i (if (i : Int) ∈ [(0 : Int)] then none else x)) : ∀ i x, os2[i]? = some x → Lies lie ws 0 i x := by
  intro i x hx
  match i, hx with
  | 0, hx =>
    obtain rfl : none = x := Option.some.inj hx
    have := h 0 (some ⟨3, 1, 1, 9, frs 2⟩) rfl
    rwa [if_pos (by simp)] at this
  | i + 1, hx =>
    have := h (i + 1) x (by show os3[i + 1]? = some x; exact hx)
    rwa [if_neg (by simp; omega)] at this
theorem allIn {w0 : World} {vb d g' : Nat} {lie : List (List UInt8)} {ws : List (Nat × List UInt8)} {from_ m : Nat} {steps : Int} {K : List Bk} {os : List (Option Hd)} {N : Int} {e : Ending} {w' : World} (h : AllPost w0 vb d g' lie ws from_ m steps K os N e w') (hN : N ≤ (os.length : Int)) :
    ∃ (rs : List Sr) (A : Option Addr) (c : Nat) (pk : List Bk), e = .returned (.tuple #[.slice A rs.length c, .int .i64 0]) ∧ Got rs (found os N.toNat) ∧ RowPt A c (rs.map (·.sb)) pk ∧ VB w0 vb d g' lie ws from_ m steps (pk ++ (rs.flatMap (Sr.K vb) ++ K)) w' := by
  rcases h with ⟨_, h⟩ | ⟨hb, _⟩
  · exact h
  · omega
theorem told_new (w : World) (xs : List Int) : ToldI (w.alloc (.cells (xs.map (Value.int .i64)).toArray 3)) (some ⟨w.heap.size, 0, none⟩) xs := fun k x hk =>
  ⟨_, rfl, by
    have h := (Whole.new w 3 (xs.map (Value.int .i64))).cell k
    rw [h, List.getElem?_map, hk]
    rfl⟩
set_option maxRecDepth 100000 in
set_option maxHeartbeats 8000000 in
theorem three15_any (w : World) (hT : Wide w) : Calls Tryz.prog 30 #[] w fun e w' => e = .returned (.bool true) ∧ Below w.heap.size w w' := by
  go_enter Tryz.func30, Tryz.ntmps30
  go_wp2_with fail
  refine (fresh15_any _).mono ?_
  rintro _ w1 ⟨vb, d, g', rfl, hv1⟩
  have hc1 := Lib.hid (laid3 hT 0 3 1 1 9 2 (by decide) (by decide) (by decide) (by decide) (by decide) (by decide) hv1 (by omega) (by decide) (sec_zero98 0 (by decide)))
  clear hv1
  go_wp2_with fail
  refine hc1.out.mono ?_
  rintro _ w2 ⟨rfl, ws1, hv2, L1, H1, far1, len1⟩
  have hc2 := Lib.hid (laid3 hT 2 3 1 2 0 5 (by decide) (by decide) (by decide) (by decide) (by decide) (by decide) hv2 (by omega) (by rw [len1]; decide) (by rw [far1 2 (by decide)]; exact sec_zero98 2 (by decide)))
  replace L1 := Lib.hid (And.intro L1 (And.intro H1 far1))
  replace len1 := Lib.hid len1
  clear hc1 hv2 H1 far1
  go_wp2_with fail
  refine hc2.out.mono ?_
  rintro _ w3 ⟨rfl, ws2, hv3, L2, H2, far2, len2⟩
  have hc3 := Lib.hid (laid3 hT 3 3 1 3 5 3 (by decide) (by decide) (by decide) (by decide) (by decide) (by decide) hv3 (by omega) (by rw [len2, len1.out]; decide) (by rw [far2 3 (by decide), L1.out.2.2 3 (by decide)]; exact sec_zero98 3 (by decide)))
  replace L2 := Lib.hid (And.intro L2 (And.intro H2 far2))
  replace len2 := Lib.hid len2
  clear hc2 hv3 H2 far2
  go_wp2_with fail
  refine hc3.out.mono ?_
  rintro _ w4 ⟨rfl, ws3, hv4, L3, H3, far3, len3⟩
  have hlies := lies3 L1.out.1 L1.out.2.1 L1.out.2.2 L2.out.1 L2.out.2.1 L2.out.2.2 L3 H3 far3
  have hws : ws3.length = 13 := by rw [len3, len2.out, len1.out]; rfl
  have hal := Lib.hid (all_any (q := 96) os3 6 hv4 rfl (by decide) rfl hlies hT (by omega))
  replace hlies := Lib.hid hlies
  replace hws := Lib.hid hws
  clear hc3 hv4 L1 L2 L3 H3 far3 len1 len2 len3
  go_wp2_with fail
  refine hal.out.mono ?_
  intro _ w5 hp
  obtain ⟨rs, A, c, pk, rfl, got, row, hv5⟩ := allIn hp (by decide)
  obtain ⟨ra, rb, rc, rfl, ea, eb, ec⟩ := got3 got
  have hch := chain_any 3 1 2 hv5 row (fun r hr => (got.2 r hr).1) (by simp) (fun r hr => by
    simp only [List.mem_cons, List.not_mem_nil, or_false] at hr
    rcases hr with rfl | rfl | rfl
    · rw [ea.2.2.2.2.1]; decide
    · rw [eb.2.2.2.2.1]; decide
    · rw [ec.2.2.2.2.1]; decide)
  rw [chain3 ea eb ec] at hch
  replace hch := Lib.hid hch
  replace ea := Lib.hid ea.1
  replace eb := Lib.hid eb.1
  replace ec := Lib.hid ec.1
  replace row := Lib.hid row
  clear hal hv5 got
  go_wp2_with fail
  refine hch.out.mono ?_
  rintro _ w6 ⟨A2, c2, pk2, rfl, row2, hv6⟩
  have hv6' := hv6
  rw [← List.append_assoc] at hv6'
  have hcl := sclean_any (cl := c) (ck := c2) [ra, rb, rc] [rb, rc] os3 hv6
    (fun j r hj => VB.row_of (K1 := pk2) hv6 row.out j r.sb (by rw [List.getElem?_map, hj]; rfl)) (fun r hr => (VB.obj_of hv6' r hr).cell 1)
    (fun j r hj => VB.row_of (K1 := []) hv6 row2 j r.sb (by rw [List.getElem?_map, hj]; rfl)) (fun r hr => (VB.obj_of hv6' r (List.mem_cons_of_mem _ hr)).cell 1)
    (by simp) (by simp) hlies.out (fun r hr => by
      simp only [List.mem_cons, List.not_mem_nil, or_false] at hr
      rcases hr with rfl | rfl | rfl
      · rw [ea.out]; decide
      · rw [eb.out]; decide
      · rw [ec.out]; decide) (fun i hi => room15 i hi) hT (by have := hws.out; omega) (by omega) (by omega)
  rw [gone3 ea.out eb.out ec.out] at hcl
  replace hcl := Lib.hid hcl
  replace row2 := Lib.hid row2
  clear hch hv6 hv6' hlies
  go_wp2_with fail
  refine hcl.out.mono ?_
  rintro _ w7 ⟨rfl, lie', ws', st', hv7, hw7, _, _, hl7⟩
  have hal := Lib.hid (all_any (q := 96) os2 6 hv7 rfl (by decide) rfl (lies2 hl7) hT (by have := hws.out; omega))
  clear hcl hv7 hw7 hl7
  go_wp2_with fail
  refine hal.out.mono ?_
  intro _ w8 hp
  obtain ⟨rs, A3, c3, pk3, rfl, got, row3, hv8⟩ := allIn hp (by decide)
  obtain ⟨rd, re, rfl, ed, ee⟩ := got2 got
  have hs1 := hv8.sub ((List.sublist_append_right pk2 _).trans ((List.sublist_append_right ([rd, re].flatMap (Sr.K vb)) _).trans (List.sublist_append_right pk3 _)))
  have hs2 := hv8.sub ((List.sublist_append_right ([rd, re].flatMap (Sr.K vb)) _).trans (List.sublist_append_right pk3 _))
  have hn1 := Lib.hid (fun (V : World) (hb : Below w8.heap.size w8 V) => lnumbers_any (rs := [ra, rb, rc]) (A := A) (c := c) (w := V) (by simp) (fun j r hj => by
    obtain ⟨q, e, hc⟩ := VB.row_of (K1 := []) hs1 row.out j r.sb (by rw [List.getElem?_map, hj]; rfl)
    exact ⟨q, e, keepCell hb hc⟩) (fun r hr => keepCell hb ((VB.obj_of (K1 := pk) hs1 r hr).cell 1)))
  have hn2 := Lib.hid (fun (V : World) (hb : Below w8.heap.size w8 V) => lnumbers_any (rs := [rb, rc]) (A := A2) (c := c2) (w := V) (by simp) (fun j r hj => by
    obtain ⟨q, e, hc⟩ := VB.row_of (K1 := []) hs2 row2.out j r.sb (by rw [List.getElem?_map, hj]; rfl)
    exact ⟨q, e, keepCell hb hc⟩) (fun r hr => keepCell hb ((VB.obj_of (K1 := pk) hs1 r (List.mem_cons_of_mem _ hr)).cell 1)))
  have hn3 := Lib.hid (fun (V : World) (hb : Below w8.heap.size w8 V) => lnumbers_any (rs := [rd, re]) (A := A3) (c := c3) (w := V) (by simp) (fun j r hj => by
    obtain ⟨q, e, hc⟩ := VB.row_of (K1 := []) hv8 row3 j r.sb (by rw [List.getElem?_map, hj]; rfl)
    exact ⟨q, e, keepCell hb hc⟩) (fun r hr => keepCell hb ((VB.obj_of (K1 := pk3) hv8 r hr).cell 1)))
  simp only [List.map_cons, List.map_nil, ea.out, eb.out, ec.out, ed, ee] at hn1 hn2 hn3
  have hB := Lib.hid hv8.since
  have hb8 := Lib.hid (Below.refl w8.heap.size w8)
  clear hs1 hs2 hv8 row row2 row3 hal ea eb ec ed ee hws got
  go_wp2_with fail
  refine (hn1.out _ hb8.out).mono ?_
  rintro _ w9 ⟨A9, c9, rfl, ho9, hb9⟩
  have hbv9 := allocBelow w9 (.cells #[.int .i64 0, .int .i64 2, .int .i64 3] 3)
  have hi9 := Lib.hid (ints_same A9 (some ⟨w9.heap.size, 0, none⟩) c9 3 [0, 2, 3] (w9.alloc (.cells #[.int .i64 0, .int .i64 2, .int .i64 3] 3)) ((told_own (xs := [0, 2, 3]) ho9).below hbv9) (told_new w9 [0, 2, 3]) (by decide))
  have hg9 := Lib.hid (grew (grew hb8.out hb9) hbv9)
  clear hb8 hb9 hbv9 ho9 hn1
  go_wp2_with fail
  refine hi9.out.mono ?_
  rintro _ w10 ⟨rfl, hb10⟩
  have hg10 := Lib.hid (grew hg9.out hb10)
  clear hi9 hb10 hg9
  go_wp2_with fail
  refine (hn2.out _ hg10.out).mono ?_
  rintro _ w11 ⟨A11, c11, rfl, ho11, hb11⟩
  have hbv11 := allocBelow w11 (.cells #[.int .i64 2, .int .i64 3] 3)
  have hi11 := Lib.hid (ints_same A11 (some ⟨w11.heap.size, 0, none⟩) c11 2 [2, 3] (w11.alloc (.cells #[.int .i64 2, .int .i64 3] 3)) ((told_own (xs := [2, 3]) ho11).below hbv11) (told_new w11 [2, 3]) (by decide))
  have hg11 := Lib.hid (grew (grew hg10.out hb11) hbv11)
  clear hg10 hb11 hbv11 ho11 hn2
  go_wp2_with fail
  refine hi11.out.mono ?_
  rintro _ w12 ⟨rfl, hb12⟩
  have hg12 := Lib.hid (grew hg11.out hb12)
  clear hi11 hb12 hg11
  go_wp2_with fail
  refine (hn3.out _ hg12.out).mono ?_
  rintro _ w13 ⟨A13, c13, rfl, ho13, hb13⟩
  have hbv13 := allocBelow w13 (.cells #[.int .i64 2, .int .i64 3] 3)
  have hi13 := Lib.hid (ints_same A13 (some ⟨w13.heap.size, 0, none⟩) c13 2 [2, 3] (w13.alloc (.cells #[.int .i64 2, .int .i64 3] 3)) ((told_own (xs := [2, 3]) ho13).below hbv13) (told_new w13 [2, 3]) (by decide))
  have hg13 := Lib.hid (grew (grew hg12.out hb13) hbv13)
  clear hg12 hb13 hbv13 ho13 hn3
  go_wp2_with fail
  refine hi13.out.mono ?_
  rintro _ w14 ⟨rfl, hb14⟩
  have hg14 := Lib.hid (grew hg13.out hb14)
  clear hi13 hb14 hg13
  go_wp2_with fail
  go_ret
  exact ⟨rfl, hB.out.trans (hg14.out.mono hB.out.size)⟩
end Go.Proofs.YtbbhnbdekblghaaGreatDoor.W
end
end
end
