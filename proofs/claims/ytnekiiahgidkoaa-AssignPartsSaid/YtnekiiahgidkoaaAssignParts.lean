/- For all members and any number of partitions the law AssignParts returns true: each partition is just one member's, and no two members have numbers of partitions that differ by more than one. No condition. -/
import Derived.Test.YtnekiiahgidkoaaRows
import Derived.Test.YtnekiiahgidkoaaAsP
import Derived.Test.YtnekiiahgidkoaaMinMax
import Derived.ChangeOld
import Derived.ShutString
import Derived.Deep.RegionHeld3
namespace Go.Proofs.Ytnekiiahgidkoaa.assignParts
open Go.ChangeShapes Go.WideShapes Go.ChangeAt Go.RowKit
open Go.ChangeMaps (open_string shut_string)
open Go.Proofs.Ytnekiiahgidkoaa.M Go.Proofs.Ytnekiiahgidkoaa.D Go.Proofs.Ytnekiiahgidkoaa.Z Go.Proofs.Ytnekiiahgidkoaa.W
set_option linter.unusedVariables false
set_option linter.unusedSimpArgs false

/-- The counts behind k members, and j partitions of the next one's, that begin at f. -/
def gAt (N : List Nm) (p k f j : Nat) : Nat → Nat := fun q => cntQ N (N.take k) p q + if f ≤ q ∧ q < f + j then 1 else 0
set_option maxRecDepth 100000 in
set_option maxHeartbeats 8000000 in
theorem main_yes (a : Option Addr) (cap : Nat) (N : List Nm) (p : Nat) (w : World) (hN : N.length ≤ 20) (h0 : 0 < N.length) (hNc : N.length ≤ cap) (hcm : cap ≤ maxLen) (hrow : SrAt w a N) (hsz : ∀ s ∈ N, s.length ≤ 100) (hw : why28 N = 0) (hp : p ≤ 4)
    (hlg : Calls Try.prog 6 #[.slice a N.length cap] w fun e w' => e = .returned (.bool false) ∧ w' = w) :
    Calls Try.prog 4 #[.slice a N.length cap, .int .i64 p] w fun e w' => e = .returned (.bool true) ∧ Below w.heap.size w w' := by
  obtain ⟨hok, hnd⟩ := why_zero hw
  have cW := wrong28_any a cap N w (by omega) hNc hcm hrow (fun s hs => by have := hsz s hs; omega)
  rw [hw] at cW
  have cO := Lib.hid (fun W s (hb : Below w.heap.size w W) (hs : s ∈ N) => of28_ok a cap N p s W (by omega) (hrow.below (Nat.le_refl _) hb) hw hp hs)
  have cQ := Lib.hid (fun W (q : Int) (hb : Below w.heap.size w W) => owner28_ok a cap N p q W (by omega) (hrow.below (Nat.le_refl _) hb) hw hp)
  have c3 := Lib.hid (fun W => three28_any W)
  have hown := Lib.hid (fun s q e (hs : s ∈ N) hq (h : OwQ N p ((q : Nat) : Int) e) => owner_is hnd hs hq h)
  have hnone := Lib.hid (fun e (h : OwQ N p ((p : Nat) : Int) e) => owner_none h)
  have hone := Lib.hid (fun q (hq : q < p) => cntQ_all hnd h0 hq)
  have hrl := Lib.hid (fun s (hs : s ∈ N) => ranK_lt hnd hs)
  have hmk := make_zeros p (by omega)
  have hp0 : decide ((p : Int) < 0) = false := decide_eq_false (by omega)
  have hp4 : decide (4 < (p : Int)) = false := decide_eq_false (by omega)
  have hgz : Hid (gAt N p 0 0 0 = fun _ => 0) := Lib.hid (by funext q; unfold gAt; rw [List.take_zero, cntQ_nil, if_neg (by omega)])
  replace hrow := Lib.hid hrow
  obtain ⟨V, hV⟩ : ∃ V, Hid (V = w.alloc (.cells (madeCells #[Value.int .i64 0] p) 3)) := ⟨_, Lib.hid rfl⟩
  have hbV : Below w.heap.size w V := by rw [hV.out]; exact belowA _ _
  have hC : CtsAt V w.heap.size p (gAt N p 0 0 0) := by rw [hV.out, hgz.out]; exact CtsAt.new w p
  obtain ⟨ob, hob⟩ : ∃ q, Hid (w.heap.size = q) := ⟨_, Lib.hid rfl⟩
  rw [hob.out] at hC
  have hst : Hid (Below w.heap.size w V ∧ CtsAt V ob p (gAt N p 0 0 0)) := Lib.hid ⟨hbV, hC⟩
  obtain ⟨n, hn⟩ : ∃ n, Hid (N.length = n) := ⟨_, Lib.hid rfl⟩
  rw [hn.out] at hlg cW cO cQ hN h0 hrl ⊢
  have hn0 : ((n : Int) == 0) = false := by simp; omega
  replace hlg := Lib.hid hlg
  replace cW := Lib.hid cW
  obtain ⟨q0, hq0⟩ : ∃ q0, Hid (p / n = q0) := ⟨_, Lib.hid rfl⟩
  have hq0p : q0 ≤ p := by rw [← hq0.out]; exact Nat.div_le_self _ _
  clear hsz hw hok hnd hbV hC hgz
  go_enter Try.func4, Try.ntmps4
  go_wp2_with fail
  refine hlg.out.mono ?_
  rintro _ w1 ⟨rfl, e⟩
  obtain rfl : w = w1 := e.symm
  go_wp2_with fail
  refine cW.out.mono ?_
  rintro _ w1 ⟨rfl, e⟩
  obtain rfl : w = w1 := e.symm
  clear hlg cW
  go_upto_region 5 with fail
  rw [← show V = _ from hV.out, hob.out]
  clear hV hmk
  go_wp2_with fail
  go_loopg [46, 6, 7] n (fun ga i lv mv wr => ∃ k L M : Nat, k ≤ n ∧ n ≤ k + ga ∧ i = .int .i64 (k : Int) ∧ lv = .int .i64 (L : Int) ∧ mv = .int .i64 (M : Int) ∧ L ≤ p ∧ q0 ≤ L ∧ M ≤ q0 + 1 ∧ Hid (Below w.heap.size w wr ∧ CtsAt wr ob p (gAt N p k 0 0)))
  case atStart => exact ⟨0, p, 0, by omega, by omega, rfl, rfl, rfl, by omega, by omega, by omega, hst⟩
  case round =>
    clear hst
    obtain ⟨k, L, M, hk, hg, rfl, rfl, rfl, hLp, hLq, hMq, hrel⟩ := hrel
    generalize wr = wo at *
    generalize gk = gout at *
    obtain ⟨hB, hC⟩ := hrel.out
    clear hrel
    by_cases hlt : k < n
    · obtain ⟨s, hs⟩ : ∃ s, N[k]? = some s := ⟨_, List.getElem?_eq_getElem (by have := hn.out; omega)⟩
      have hsN := List.mem_of_getElem? hs
      have hrs := hrl.out s hsN
      obtain ⟨b, o, rfl, hb1, hc1⟩ := (hrow.out.below (Nat.le_refl _) hB) k s hs
      rw [encStr_B] at hc1
      have k1 := cO.out wo s hB hsN
      have hnx : Hid (∀ f m : Nat, iv p n (ranK N s) = List.range' f m → gAt N p (k + 1) 0 0 = gAt N p k f m) := Lib.hid (fun f m e => by
        funext q
        unfold gAt
        rw [if_neg (by omega), ← take_step hs, cntQ_step, hn.out, e]
        simp [List.mem_range'_1])
      have hoq : Hid (∀ q e, q ∈ iv p n (ranK N s) → OwQ N p ((q : Nat) : Int) e → e = .returned (.tuple #[.string (B s), .int .i64 0])) := Lib.hid (fun q e hq h => hown.out s q e hsN (by rw [hn.out]; exact hq) h)
      have hnear := shr_near p n (ranK N s)
      rw [hq0.out] at hnear
      have hfl : frm p n (ranK N s) + shr p n (ranK N s) ≤ p := by
        have := frm_mono p n (i := ranK N s + 1) (j := n) hrs
        rw [frm_all h0, frm_succ] at this
        exact this
      obtain ⟨f, hf⟩ : ∃ f, Hid (frm p n (ranK N s) = f) := ⟨_, Lib.hid rfl⟩
      obtain ⟨m, hm⟩ : ∃ m, Hid (shr p n (ranK N s) = m) := ⟨_, Lib.hid rfl⟩
      have hI : iv p n (ranK N s) = List.range' f m := by unfold iv; rw [hf.out, hm.out]
      rw [hI] at k1
      replace hnx := Lib.hid (hnx.out f m hI)
      rw [hI] at hoq
      rw [hm.out] at hnear hfl
      rw [hf.out] at hfl
      rw [List.length_range'] at k1
      obtain ⟨x, hx⟩ : ∃ x, Hid (B s = x) := ⟨_, Lib.hid rfl⟩
      rw [hx.out] at k1 hc1 hoq
      have hxx : (x.toList == x.toList) = true := by simp
      replace k1 := Lib.hid k1
      have hCk : CtsAt wo ob p (gAt N p k f 0) := by
        have e : gAt N p k f 0 = gAt N p k 0 0 := by funext q; unfold gAt; rw [if_neg (by omega), if_neg (by omega)]
        rw [e]; exact hC
      have hobw : ob < wo.heap.size := hC.lt
      have hH := Lib.hid (And.intro hB hCk)
      clear hs hsN hrs hB hC hI hx hf hm hCk
      go_wp2_with fail
      refine k1.out.mono ?_
      rintro _ w2 ⟨A5, c5, rfl, hI5, hA5, hb2⟩
      have hB2 := grew hH.out.1 hb2
      have hC2 : CtsAt w2 ob p (gAt N p k f 0) := Whole.below hH.out.2 hb2 hobw
      clear k1 hc1
      have hmin : min (L : Int) (m : Int) = ((min L m : Nat) : Int) := by omega
      have hmax : max (M : Int) (m : Int) = ((max M m : Nat) : Int) := by omega
      obtain ⟨L2, hL2⟩ : ∃ L2, Hid (min L m = L2) := ⟨_, Lib.hid rfl⟩
      obtain ⟨M2, hM2⟩ : ∃ M2, Hid (max M m = M2) := ⟨_, Lib.hid rfl⟩
      have hLM : Hid (L2 ≤ p ∧ q0 ≤ L2 ∧ M2 ≤ q0 + 1) := Lib.hid (by rw [← hL2.out, ← hM2.out]; omega)
      rw [hL2.out] at hmin
      rw [hM2.out] at hmax
      replace hmin := Lib.hid hmin
      replace hmax := Lib.hid hmax
      replace hI5 := Lib.hid hI5
      replace hA5 := Lib.hid hA5
      replace hB2 := Lib.hid hB2
      replace hC2 := Lib.hid hC2
      clear hL2 hM2 hb2
      go_wp2_with (with_reducible refine zMin _ _ _ _ rfl ?_)
      refine Lib.hid ?_
      refine zwMin rfl _ _ _ _ rfl (L : Int) (m : Int) rfl rfl ?_
      rw [hmin.out]
      go_frame
      go_wp2_with (with_reducible refine zMax _ _ _ _ rfl ?_)
      refine Lib.hid ?_
      refine zwMax rfl _ _ _ _ rfl (M : Int) (m : Int) rfl rfl ?_
      rw [hmax.out]
      go_frame
      go_wp2_with fail
      go_loopg [69] m (fun ga i wr => ∃ j : Nat, j ≤ m ∧ m ≤ j + ga ∧ i = .int .i64 (j : Int) ∧ Hid (Kept (fun y => y = ob) w2 wr ∧ CtsAt wr ob p (gAt N p k f j)))
      case atStart => exact ⟨0, by omega, by omega, rfl, Lib.hid ⟨Kept.refl _ _, hC2.out⟩⟩
      case round =>
        obtain ⟨j, hj, hg2, rfl, hrel⟩ := hrel
        generalize wr = wi at *
        obtain ⟨hK, hCi⟩ := hrel.out
        clear hrel
        have hBi : Below w.heap.size w wi := hB2.out.trans (hK.below hB2.out.size (fun y e => by rw [e]; have := hob.out; omega))
        by_cases hlt2 : j < m
        · obtain ⟨g5, rfl, hg5, hc5⟩ := hI5.out j (f + j) (by rw [List.getElem?_range' hlt2]; simp)
          have hne5 : g5 ≠ ob := by have := hA5.out g5 rfl; omega
          have hcx : wi.cell? ⟨g5, j, none⟩ = some (.int .i64 ((f + j : Nat) : Int)) := (World.cell?_of_block (hK.block g5 hg5 hne5)).trans hc5
          obtain ⟨F, hF⟩ : ∃ F, Hid (f + j = F) := ⟨_, Lib.hid rfl⟩
          rw [hF.out] at hcx
          have hFp : F < p := by have := hF.out; omega
          have k2 := Lib.hid (cQ.out wi (F : Int) hBi)
          have hq2 := Lib.hid (fun e (h : OwQ N p (F : Int) e) => hoq.out F e (by rw [List.mem_range'_1]; have := hF.out; omega) h)
          have hGs : gAt N p k f j F + 1 = gAt N p k f (j + 1) F := by
            unfold gAt
            have := hF.out
            rw [if_neg (by omega), if_pos (by omega)]
          have hGo : ∀ r, r ≠ F → gAt N p k f (j + 1) r = gAt N p k f j r := fun r hr => by
            unfold gAt
            have := hF.out
            by_cases c : f ≤ r ∧ r < f + j
            · rw [if_pos c, if_pos (by omega)]
            · rw [if_neg c, if_neg (by omega)]
          have hGb : gAt N p k f j F ≤ 100 := by
            unfold gAt cntQ
            have h1 := List.countP_le_length (p := fun m => decide (F ∈ iv p N.length (ranK N m))) (l := N.take k)
            have h2 : (N.take k).length ≤ 20 := by rw [List.length_take]; omega
            split <;> omega
          have hKc := Lib.hid hK
          have hCc := Lib.hid hCi
          have hBc := Lib.hid hBi
          obtain ⟨G, hG⟩ : ∃ G, Hid (gAt N p k f j F = G) := ⟨_, Lib.hid rfl⟩
          rw [hG.out] at hGs hGb
          have hobi : ob < wi.heap.size := hCi.lt
          have hFpi : ¬ ((p : Int) ≤ (F : Int)) := by omega
          have hF0 : (0 : Int) ≤ (F : Int) := by omega
          have hFp2 : (F : Int) < (p : Int) := by omega
          have hFd : decide ((p : Int) ≤ (F : Int)) = false := decide_eq_false hFpi
          have hFd0 : decide ((F : Int) < 0) = false := decide_eq_false (by omega)
          have hj0 : (0 : Int) ≤ (j : Int) := by omega
          have hjm : (j : Int) < (m : Int) := by omega
          replace hGs := Lib.hid hGs
          replace hGo := Lib.hid hGo
          clear hK hCi hBi hc5 hFpi
          go_wp2_with fail
          refine k2.out.mono ?_
          rintro _ w3 ⟨hO, hb3⟩
          have he := hq2.out _ hO
          subst he
          have hC3 : CtsAt w3 ob p (gAt N p k f j) := Whole.below hCc.out hb3 hobi
          have c0 : w3.cell? ⟨ob, F, none⟩ = some (.int .i64 (G : Int)) := by rw [hC3.cell hFp, hG.out]
          have c1 : w3.frozen? ⟨ob, F, none⟩ = false := Whole.frozen hC3 F
          have hK3 := hKc.out.trans (Kept.of_below (own := fun y => y = ob) hb3)
          have hnx2 : Hid (Kept (fun y => y = ob) w2 (w3.setCell ⟨ob, F, none⟩ (.int .i64 ((G + 1 : Nat) : Int))) ∧ CtsAt (w3.setCell ⟨ob, F, none⟩ (.int .i64 ((G + 1 : Nat) : Int))) ob p (gAt N p k f (j + 1))) := Lib.hid ⟨hK3.setCell (.inl rfl) _ _, hC3.more hFp (by rw [hG.out]) (by rw [← hGs.out, hG.out]) hGo.out⟩
          have hG1 : ((G + 1 : Nat) : Int) = (G : Int) + 1 := by omega
          rw [hG1] at hnx2
          clear k2 hq2 hO hC3 hK3 hG1 hb3 hGs hGo hcx
          go_wp2_with fail
          go_roundg (gk - 1)
          case measure => omega
          case rel => exact ⟨j + 1, by omega, by omega, by go_num, hnx2⟩
        · obtain rfl : j = m := by omega
          have hfin : Hid (Below w.heap.size w wi ∧ CtsAt wi ob p (gAt N p (k + 1) 0 0)) := Lib.hid ⟨hBi, by rw [hnx.out]; exact hCi⟩
          obtain ⟨l1, l2, l3⟩ := hLM.out
          clear hK hCi hBi hI5 hA5 hB2 hC2 hoq hnx
          go_wp2_with fail
          go_roundg (gout - 1)
          case measure => omega
          case rel => exact ⟨k + 1, L2, M2, by omega, by omega, by go_num, rfl, rfl, l1, l2, l3, hfin⟩
    · obtain rfl : k = n := by omega
      have hc : Hid (∀ j : Nat, j < p → wo.cell? ⟨ob, j, none⟩ = some (.int .i64 1)) := Lib.hid (fun j hj => by
        rw [hC.cell hj]
        have : gAt N p k 0 0 j = 1 := by
          unfold gAt
          rw [if_neg (by omega), List.take_of_length_le (by have := hn.out; omega), hone.out j hj]
        rw [this]; rfl)
      have k2 := Lib.hid (cQ.out wo (p : Int) hB)
      have hBc := Lib.hid hB
      have hse : (({ data := #[] } : ByteArray).toList == ({ data := #[] } : ByteArray).toList) = true := by simp
      have hML : decide ((M : Int) - (L : Int) ≤ 1) = true := decide_eq_true (by omega)
      have hMb : M ≤ 5 := by omega
      clear hC hB cO hown hone hrl
      go_wp2_with fail
      go_loopg [108] p (fun ga i wr => ∃ j : Nat, j ≤ p ∧ p ≤ j + ga ∧ i = .int .i64 (j : Int) ∧ wr = wo)
      case atStart => exact ⟨0, by omega, by omega, rfl, rfl⟩
      case round =>
        obtain ⟨j, hj, hg2, rfl, hwe⟩ := hrel
        obtain rfl : wo = wr := hwe.symm
        by_cases hlt2 : j < p
        · have c0 := hc.out j hlt2
          have hj0 : (0 : Int) ≤ (j : Int) := by omega
          have hjm : (j : Int) < (p : Int) := by omega
          go_wp2_with fail
          go_roundg (gk - 1)
          case measure => omega
          case rel => exact ⟨j + 1, by omega, by omega, by go_num, rfl⟩
        · obtain rfl : j = p := by omega
          go_wp2_with fail
          refine k2.out.mono ?_
          rintro _ w3 ⟨hO, hb3⟩
          have he := hnone.out _ hO
          subst he
          have hB3 := Lib.hid (grew hBc.out hb3)
          clear k2 hO hb3
          go_wp2_with fail
          refine (c3.out _).mono ?_
          rintro _ w4 ⟨rfl, hb4⟩
          have hB4 := Lib.hid (grew hB3.out hb4)
          clear hb4
          go_wp2_with fail
          go_ret
          exact ⟨rfl, hB4.out⟩
set_option maxRecDepth 100000 in
set_option maxHeartbeats 8000000 in
theorem main_no (a : Option Addr) (cap : Nat) (N : List Nm) (pa : Int) (w : World) (hNc : N.length ≤ cap) (hcm : cap ≤ maxLen) (hrow : SrAt w a N) (hsm : smallN N) (hno : why28 N ≠ 0 ∨ ¬ (0 ≤ pa ∧ pa ≤ 4) ∨ N.length = 0)
    (hlg : Calls Try.prog 6 #[.slice a N.length cap] w fun e w' => e = .returned (.bool false) ∧ w' = w) :
    Calls Try.prog 4 #[.slice a N.length cap, .int .i64 pa] w fun e w' => e = .returned (.bool true) ∧ Below w.heap.size w w' := by
  have cW := wrong28_any a cap N w (by have := hsm.1; omega) hNc hcm hrow (fun s hs => by have := hsm.2 s hs; omega)
  have c3 := Lib.hid (fun W => three28_any W)
  obtain ⟨E, hE⟩ : ∃ E, Hid (why28 N = E) := ⟨_, Lib.hid rfl⟩
  obtain ⟨n, hn⟩ : ∃ n, Hid (N.length = n) := ⟨_, Lib.hid rfl⟩
  rw [hn.out] at hlg cW hno ⊢
  rw [hE.out] at cW hno
  replace hlg := Lib.hid hlg
  replace cW := Lib.hid cW
  clear hrow hsm hcm hNc hE hn
  have fin : ∀ (E : Int), (E = 0 → ¬ (0 ≤ pa ∧ pa ≤ 4) ∨ n = 0) → Hid (Calls Try.prog 11 #[.slice a n cap] w fun e w' => e = .returned (.int .i64 E) ∧ w' = w) →
      Calls Try.prog 4 #[.slice a n cap, .int .i64 pa] w fun e w' => e = .returned (.bool true) ∧ Below w.heap.size w w' := by
    intro E hno cW
    by_cases hE0 : E = 0
    · subst hE0
      have hno := hno rfl
      by_cases h1 : pa < 0
      · have d1 : decide (pa < 0) = true := decide_eq_true h1
        clear hno h1
        go_enter Try.func4, Try.ntmps4
        go_wp2_with fail
        refine hlg.out.mono ?_
        rintro _ w1 ⟨rfl, e⟩
        obtain rfl : w = w1 := e.symm
        go_wp2_with fail
        refine cW.out.mono ?_
        rintro _ w1 ⟨rfl, e⟩
        obtain rfl : w = w1 := e.symm
        clear hlg cW
        go_wp2_with fail
        refine (c3.out _).mono ?_
        rintro _ w4 ⟨rfl, hb4⟩
        have hB4 := Lib.hid hb4
        clear hb4
        go_wp2_with fail
        go_ret
        exact ⟨rfl, hB4.out⟩
      · by_cases h2 : 4 < pa
        · have d1 : decide (pa < 0) = false := decide_eq_false h1
          have d2 : decide (4 < pa) = true := decide_eq_true h2
          clear hno h1 h2
          go_enter Try.func4, Try.ntmps4
          go_wp2_with fail
          refine hlg.out.mono ?_
          rintro _ w1 ⟨rfl, e⟩
          obtain rfl : w = w1 := e.symm
          go_wp2_with fail
          refine cW.out.mono ?_
          rintro _ w1 ⟨rfl, e⟩
          obtain rfl : w = w1 := e.symm
          clear hlg cW
          go_wp2_with fail
          refine (c3.out _).mono ?_
          rintro _ w4 ⟨rfl, hb4⟩
          have hB4 := Lib.hid hb4
          clear hb4
          go_wp2_with fail
          go_ret
          exact ⟨rfl, hB4.out⟩
        · have d1 : decide (pa < 0) = false := decide_eq_false h1
          have d2 : decide (4 < pa) = false := decide_eq_false h2
          have hn0 : n = 0 := by omega
          subst hn0
          clear hno h1 h2
          go_enter Try.func4, Try.ntmps4
          go_wp2_with fail
          refine hlg.out.mono ?_
          rintro _ w1 ⟨rfl, e⟩
          obtain rfl : w = w1 := e.symm
          go_wp2_with fail
          refine cW.out.mono ?_
          rintro _ w1 ⟨rfl, e⟩
          obtain rfl : w = w1 := e.symm
          clear hlg cW
          go_wp2_with fail
          refine (c3.out _).mono ?_
          rintro _ w4 ⟨rfl, hb4⟩
          have hB4 := Lib.hid hb4
          clear hb4
          go_wp2_with fail
          go_ret
          exact ⟨rfl, hB4.out⟩
    · have d0 : (E == 0) = false := by simpa using hE0
      clear hno
      go_enter Try.func4, Try.ntmps4
      go_wp2_with fail
      refine hlg.out.mono ?_
      rintro _ w1 ⟨rfl, e⟩
      obtain rfl : w = w1 := e.symm
      go_wp2_with fail
      refine cW.out.mono ?_
      rintro _ w1 ⟨rfl, e⟩
      obtain rfl : w = w1 := e.symm
      clear hlg cW
      go_wp2_with fail
      refine (c3.out _).mono ?_
      rintro _ w4 ⟨rfl, hb4⟩
      have hB4 := Lib.hid hb4
      clear hb4
      go_wp2_with fail
      go_ret
      exact ⟨rfl, hB4.out⟩
  exact fin E (fun h => hno.resolve_left (fun c => c h)) cW
set_option maxRecDepth 100000 in
set_option maxHeartbeats 8000000 in
theorem walk (a : Option Addr) (len cap : Nat) (ss : List ByteArray) (pa : Int) (w : World) (w1 : IsStrs w a len cap ss) (wp : (Lit.int .i64 pa).wf = true) :
    Calls Try.prog 4 #[.slice a len cap, .int .i64 pa] w fun e w' => e = .returned (.bool true) ∧ Below w.heap.size w w' := by
  obtain ⟨hl, hrow, hlc, hcm, hsz⟩ := strs_in w1
  generalize inN len ss = N at *
  subst hl
  clear w1
  have hlg := Lib.hid (large28_any a cap N w (by omega) hrow hsz)
  by_cases hsm : smallN N
  · have hlf : Calls Try.prog 6 #[.slice a N.length cap] w fun e w' => e = .returned (.bool false) ∧ w' = w := hlg.out.mono (by
      rintro _ w1 ⟨b, rfl, hb, rfl⟩
      exact ⟨by rw [hb.2 hsm], rfl⟩)
    by_cases hw : why28 N ≠ 0 ∨ ¬ (0 ≤ pa ∧ pa ≤ 4) ∨ N.length = 0
    · exact main_no a cap N pa w hlc hcm hrow hsm hw hlf
    · have h1 : why28 N = 0 := Classical.byContradiction fun c => hw (.inl c)
      have h2 : 0 ≤ pa ∧ pa ≤ 4 := Classical.byContradiction fun c => hw (.inr (.inl c))
      have h3 : N.length ≠ 0 := fun c => hw (.inr (.inr c))
      obtain ⟨p, rfl⟩ := Int.eq_ofNat_of_zero_le h2.1
      exact main_yes a cap N p w hsm.1 (by omega) hlc hcm hrow hsm.2 h1 (by omega) hlf
  · have hlt : Hid (Calls Try.prog 6 #[.slice a N.length cap] w fun e w' => e = .returned (.bool true) ∧ w' = w) := Lib.hid (hlg.out.mono (by
      rintro _ w1 ⟨b, rfl, hb, rfl⟩
      refine ⟨?_, rfl⟩
      cases b
      · exact absurd (hb.1 rfl) hsm
      · rfl))
    have c3 := Lib.hid (fun W => three28_any W)
    obtain ⟨n, hn⟩ : ∃ n, Hid (N.length = n) := ⟨_, Lib.hid rfl⟩
    rw [hn.out] at hlt ⊢
    clear hrow hsz hlc hlg hsm wp hcm
    go_enter Try.func4, Try.ntmps4
    go_wp2_with fail
    refine hlt.out.mono ?_
    rintro _ w1 ⟨rfl, e⟩
    obtain rfl : w = w1 := e.symm
    clear hlt
    go_wp2_with fail
    refine (c3.out _).mono ?_
    rintro _ w1 ⟨rfl, hb1⟩
    replace hb1 := Lib.hid hb1
    go_wp2_with fail
    go_ret
    exact ⟨rfl, hb1.out⟩

theorem own : ownKnob Try.prog.godebug = none := by kernel_rfl
theorem laidOut : laidOutB Try.prog = true := by kernel_rfl

set_option maxRecDepth 100000 in
theorem lifted (os : Os) (started : os.Started) (H : Type) (enc : TypeId × Value → H) :
    ReturnsInHanded {} Try.checked os 4 .any (Rows.assignPartsSpec.pre6 enc Try.prog Try.f4 Rows.assignPartsRow.domain false) (Rows.assignPartsSpec.post enc Try.prog Try.f4 false true false false) := by
  refine returnsInHanded_of_change (C := Try.checked) own started (by kernel_rfl) Try.func4
    (ChangeSpec.witness6 (enc := enc) (C := Try.checked) false ⟨#[], #[.slice none 0 0, .int .i64 0], []⟩ 8 (by kernel_rfl) (by kernel_rfl) (by kernel_rfl) (by kernel_rfl)) ?_
  intro W base args ds gs before hval0 hW hcnd _
  have hval : ∀ (j : Nat) t v, Try.f4.params[j]? = some t → args[j]? = some v → Value.okWide Try.prog W .any base t v := hval0
  have hW' := hW
  obtain ⟨p, q, hA0, hV, rfl, hfz, hnd⟩ := hW
  have hA : DataW.TrodAll enc Try.prog W 0 (fun _ => true) true Try.f4.params.toList args.toList ds p := hA0
  rw [Try.params4] at hA hval
  obtain ⟨v0, vs0, d0, ds0, p0, q0, hargs, rfl, rfl, h0, r0⟩ := trodAll_cons hA
  obtain ⟨v1, vs1, d1, ds1, p1, q1, rfl, rfl, rfl, h1, r1⟩ := trodAll_cons r0
  obtain ⟨rfl, rfl, rfl⟩ := trodAll_nil r1
  obtain rfl : args = #[v0, v1] := by cases args; simp_all
  obtain ⟨rfl, rfl⟩ := trodVars_none hV
  obtain ⟨a0, len0, cap0, rfl⟩ := okWide_slice Try.underlying22 (hval 0 22 v0 rfl rfl)
  have k0 := h0
  have lt0 : ∀ x ∈ p0, x.block < W.heap.size := by obtain ⟨m, hm⟩ := k0; exact DataW.trod_lt m _ _ _ hm
  obtain ⟨z0, w0⟩ := open_strs Try.underlying22 Try.underlying9 (by kernel_rfl) h0
  obtain ⟨a1, rfl, rfl, rfl, w1⟩ := open_int Try.underlying3 (hval 1 3 v1 rfl rfl) h1
  clear hA0 hval0
  refine (walk a0 len0 cap0 z0 a1 W w0 w1).mono fun e W' ⟨he, bel⟩ => ?_
  subst he
  exact ⟨_, rfl, _, _, _, [], _, [], hW', trodAll_mk1 (shut_bool Try.underlying4 _), (trodAll_cons_mk (Below.trod laidOut (by kernel_rfl) (of_decide_eq_true (by kernel_rfl)) k0 bel lt0) (trodAll_cons_mk (shut_int Try.underlying3 w1) trodAll_mk0)), rfl, bel.frame _, fun h => by cases h⟩

theorem over : Rows.assignPartsRow.holds Try.pinned (OpenSpec.ofChange Rows.assignPartsSpec) :=
  OpenClaim.holds_of_wide 4 Try.f4 rfl rfl rfl rfl rfl rfl rfl ⟨rfl, rfl, rfl, rfl, rfl⟩ rfl rfl rfl rfl rfl (by kernel_rfl) Try.func4 (by kernel_rfl)
    (of_decide_eq_true (by kernel_rfl)) (by unfold Func.isWrapper; first | (rw [if_pos (by decide +kernel)]; kernel_rfl) | (rw [if_neg (by decide +kernel)]; exact ⟨rfl, rfl⟩))
    (fun os started H enc _ => lifted os started H enc)

/-- The statement. -/
theorem proved : Rows.AssignPartsSaid := over
#print axioms proved

end Go.Proofs.Ytnekiiahgidkoaa.assignParts
