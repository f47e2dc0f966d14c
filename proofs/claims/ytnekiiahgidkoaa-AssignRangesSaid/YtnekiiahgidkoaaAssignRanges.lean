/- For all members, any number of partitions and any member the law AssignRanges returns true: which partitions any members have, or why they have none, are those of the definition. No condition. -/
import Derived.Test.YtnekiiahgidkoaaRows
import Derived.Test.YtnekiiahgidkoaaAsT
import Derived.ChangeOld
import Derived.ShutString
import Derived.Deep.RegionHeld3
namespace Go.Proofs.Ytnekiiahgidkoaa.assignRanges
open Go.ChangeShapes Go.WideShapes Go.ChangeAt Go.RowKit
open Go.ChangeMaps (open_string shut_string)
open Go.Proofs.Ytnekiiahgidkoaa.M Go.Proofs.Ytnekiiahgidkoaa.D Go.Proofs.Ytnekiiahgidkoaa.Z Go.Proofs.Ytnekiiahgidkoaa.W
set_option linter.unusedVariables false
set_option linter.unusedSimpArgs false

set_option maxRecDepth 100000 in
set_option maxHeartbeats 8000000 in
/-- Behind large: there is no assignment. -/
theorem main_no (a : Option Addr) (cap : Nat) (N : List Nm) (pa : Int) (mb : ByteArray) (w : World) (hN : N.length ≤ 20) (hNc : N.length ≤ cap) (hcm : cap ≤ maxLen) (hrow : SrAt w a N) (hsz : ∀ s ∈ N, s.length ≤ 100) (hw : whyR N pa ≠ 0) (hmb : ¬ 100 < mb.size)
    (hlg : Calls Try.prog 6 #[.slice a N.length cap] w fun e w' => e = .returned (.bool false) ∧ w' = w) :
    Calls Try.prog 3 #[.slice a N.length cap, .int .i64 pa, .string mb] w fun e w' => e = .returned (.bool true) ∧ Below w.heap.size w w' := by
  have cR := range28_no a cap N pa w (by omega) hrow hw
  have cO := Lib.hid (fun W (hb : Below w.heap.size w W) => of28_no a cap N pa mb W (by omega) (hrow.below (Nat.le_refl _) hb) hw)
  have cW := Lib.hid (fun W (hb : Below w.heap.size w W) => wrong28_any a cap N W (by omega) hNc hcm (hrow.below (Nat.le_refl _) hb) (fun s hs => by have := hsz s hs; omega))
  have c3 := Lib.hid (fun W => three28_any W)
  have hln := fun ty W => len_nil28 ty W
  by_cases h0 : why28 N = 0
  · have cS := Lib.hid (fun W (hb : Below w.heap.size w W) => sorted28_ok a cap N W (by omega) (hrow.below (Nat.le_refl _) hb) h0)
    have hpa : ¬ (0 ≤ pa ∧ pa ≤ 4) := fun h => hw (by unfold whyR; rw [if_pos h0, if_pos h])
    have hE : whyR N pa = 1 := by unfold whyR; rw [if_pos h0, if_neg hpa]
    rw [hE] at cR cO
    rw [h0] at cW
    obtain ⟨len, hlen⟩ : ∃ len, Hid (N.length = len) := ⟨_, Lib.hid rfl⟩
    rw [hlen.out] at hlg cR cO cS cW hN ⊢
    replace cR := Lib.hid cR
    replace hlg := Lib.hid hlg
    clear hrow hsz hw hE h0
    by_cases hp0 : pa < 0
    · clear hpa
      go_enter Try.func3, Try.ntmps3
      go_wp2_with fail
      refine hlg.out.mono ?_
      rintro _ w1 ⟨rfl, e⟩
      obtain rfl : w = w1 := e.symm
      go_wp2_with fail
      refine cR.out.mono ?_
      rintro _ w1 ⟨rfl, hb1⟩
      go_wp2_with fail
      refine (cO.out w1 hb1).mono ?_
      rintro _ w2 ⟨rfl, hb2⟩
      have hB2 := grew hb1 hb2
      clear hb1 hb2
      go_wp2_with fail
      refine (cS.out w2 hB2).mono ?_
      rintro _ w3 ⟨A1, c1, rfl, hso⟩
      have hB3 := grew hB2 hso.below
      clear hB2 hso
      go_wp2_with fail
      refine (cW.out w3 hB3).mono ?_
      rintro _ w4 ⟨rfl, e⟩
      obtain rfl : w3 = w4 := e.symm
      replace hB3 := Lib.hid hB3
      go_wp2_with fail
      refine (c3.out _).mono ?_
      rintro _ w5 ⟨rfl, hb5⟩
      have hB5 := Lib.hid (grew hB3.out hb5)
      clear hb5
      go_wp2_with fail
      go_ret
      exact ⟨rfl, hB5.out⟩
    · have hp4 : 4 < pa := by omega
      clear hpa
      go_enter Try.func3, Try.ntmps3
      go_wp2_with fail
      refine hlg.out.mono ?_
      rintro _ w1 ⟨rfl, e⟩
      obtain rfl : w = w1 := e.symm
      go_wp2_with fail
      refine cR.out.mono ?_
      rintro _ w1 ⟨rfl, hb1⟩
      go_wp2_with fail
      refine (cO.out w1 hb1).mono ?_
      rintro _ w2 ⟨rfl, hb2⟩
      have hB2 := grew hb1 hb2
      clear hb1 hb2
      go_wp2_with fail
      refine (cS.out w2 hB2).mono ?_
      rintro _ w3 ⟨A1, c1, rfl, hso⟩
      have hB3 := grew hB2 hso.below
      clear hB2 hso
      go_wp2_with fail
      refine (cW.out w3 hB3).mono ?_
      rintro _ w4 ⟨rfl, e⟩
      obtain rfl : w3 = w4 := e.symm
      replace hB3 := Lib.hid hB3
      go_wp2_with fail
      refine (c3.out _).mono ?_
      rintro _ w5 ⟨rfl, hb5⟩
      have hB5 := Lib.hid (grew hB3.out hb5)
      clear hb5
      go_wp2_with fail
      go_ret
      exact ⟨rfl, hB5.out⟩
  · have cS := Lib.hid (fun W (hb : Below w.heap.size w W) => sorted28_no a cap N W (by omega) (hrow.below (Nat.le_refl _) hb) h0)
    have hE : whyR N pa = why28 N := by unfold whyR; rw [if_neg h0]
    rw [hE] at cR cO
    obtain ⟨E, hEE⟩ : ∃ E, Hid (why28 N = E) := ⟨_, Lib.hid rfl⟩
    rw [hEE.out] at cR cO cS cW h0
    have hEq : (E == E) = true := by simp
    obtain ⟨len, hlen⟩ : ∃ len, Hid (N.length = len) := ⟨_, Lib.hid rfl⟩
    rw [hlen.out] at hlg cR cO cS cW hN ⊢
    replace cR := Lib.hid cR
    replace hlg := Lib.hid hlg
    clear hrow hsz hw hE
    go_enter Try.func3, Try.ntmps3
    go_wp2_with fail
    refine hlg.out.mono ?_
    rintro _ w1 ⟨rfl, e⟩
    obtain rfl : w = w1 := e.symm
    go_wp2_with fail
    refine cR.out.mono ?_
    rintro _ w1 ⟨rfl, hb1⟩
    go_wp2_with fail
    refine (cO.out w1 hb1).mono ?_
    rintro _ w2 ⟨rfl, hb2⟩
    have hB2 := grew hb1 hb2
    clear hb1 hb2
    go_wp2_with fail
    refine (cS.out w2 hB2).mono ?_
    rintro _ w3 ⟨rfl, hb3⟩
    have hB3 := grew hB2 hb3
    clear hB2 hb3
    go_wp2_with fail
    refine (cW.out w3 hB3).mono ?_
    rintro _ w4 ⟨rfl, e⟩
    obtain rfl : w3 = w4 := e.symm
    replace hB3 := Lib.hid hB3
    go_wp2_with fail
    refine (c3.out _).mono ?_
    rintro _ w5 ⟨rfl, hb5⟩
    have hB5 := Lib.hid (grew hB3.out hb5)
    clear hb5
    go_wp2_with fail
    go_ret
    exact ⟨rfl, hB5.out⟩
set_option maxRecDepth 100000 in
set_option maxHeartbeats 8000000 in
/-- Behind large: there is one. -/
theorem main_yes (a : Option Addr) (cap : Nat) (N : List Nm) (p : Nat) (mb : ByteArray) (w : World) (hN : N.length ≤ 20) (hNc : N.length ≤ cap) (hcm : cap ≤ maxLen) (hrow : SrAt w a N) (hsz : ∀ s ∈ N, s.length ≤ 100) (hw : why28 N = 0) (hp : p ≤ 4) (hmb : ¬ 100 < mb.size) (hml : mb.size ≤ maxLen)
    (hlg : Calls Try.prog 6 #[.slice a N.length cap] w fun e w' => e = .returned (.bool false) ∧ w' = w) :
    Calls Try.prog 3 #[.slice a N.length cap, .int .i64 p, .string mb] w fun e w' => e = .returned (.bool true) ∧ Below w.heap.size w w' := by
  obtain ⟨hok, hnd⟩ := why_zero hw
  obtain ⟨m, hm⟩ : ∃ m : Nm, Hid (mb.data.toList = m) := ⟨_, Lib.hid rfl⟩
  have hBm : B m = mb := by rw [← hm.out]; rfl
  have hmlen : m.length ≤ maxLen := by rw [← hm.out]; simpa using hml
  have cR := range28_ok a cap N p w (by omega) hrow hw hp
  have cO : ∀ W, Below w.heap.size w W → _ := fun W (hb : Below w.heap.size w W) => of28_all a cap N p m W (by omega) (hrow.below (Nat.le_refl _) hb) hw hp hmlen
  have cS := Lib.hid (fun W (hb : Below w.heap.size w W) => sorted28_ok a cap N W (by omega) (hrow.below (Nat.le_refl _) hb) hw)
  have cW := fun W (hb : Below w.heap.size w W) => wrong28_any a cap N W (by omega) hNc hcm (hrow.below (Nat.le_refl _) hb) (fun s hs => by have := hsz s hs; omega)
  have cK := Lib.hid (fun W s (hb : Below w.heap.size w W) => rank_any a cap N s W (by omega) (hrow.below (Nat.le_refl _) hb))
  have cD := Lib.hid (fun W s (hb : Below w.heap.size w W) (hs : s ∈ N) => rof28_any a cap N p s W (by omega) (hrow.below (Nat.le_refl _) hb) hp (ranK_lt hnd hs))
  have c3 := Lib.hid (fun W => three28_any W)
  rw [hBm] at cO
  rw [hw] at cW
  have hrk : Hid (∀ (i : Nat) s, (srt N)[i]? = some s → ranK N s = i ∧ s ∈ N ∧ s.length ≤ maxLen) := Lib.hid (fun i s hs => ⟨ranK_srt hnd hs, srt_mem.1 (List.mem_of_getElem? hs), by have := hsz s (srt_mem.1 (List.mem_of_getElem? hs)); unfold maxLen; omega⟩)
  have hin : Hid (m ∈ srt N ↔ m ∈ N) := Lib.hid srt_mem
  have hSl := srt_len N
  have hmr : Hid (m ∈ N → (srt N)[ranK N m]? = some m ∧ ranK N m < N.length) := Lib.hid (fun h => ⟨srt_rank hnd h, ranK_lt hnd h⟩)
  have hsr : Hid (∀ W A1 c1 w1, SoAt W N A1 c1 w1 → SrAt w1 A1 (srt N) ∧ Below W.heap.size W w1) := Lib.hid (fun W A1 c1 w1 h => ⟨SrAt.own (Bs := W.heap.size) (n := N.length) (c := c1) (by rw [hSl]; exact h.own), h.below⟩)
  obtain ⟨S, hS⟩ : ∃ S, Hid (srt N = S) := ⟨_, Lib.hid rfl⟩
  rw [hS.out] at cR hrk hin hSl hmr hsr
  replace cO := Lib.hid cO
  replace cW := Lib.hid cW
  obtain ⟨n, hn⟩ : ∃ n, Hid (N.length = n) := ⟨_, Lib.hid rfl⟩
  rw [hn.out] at hlg cR cO cS cW cK cD hN hSl hmr ⊢
  replace cR := Lib.hid cR
  replace hlg := Lib.hid hlg
  replace hSl := Lib.hid hSl
  clear hrow hsz hw hok hnd hS hn hmlen hBm
  go_enter Try.func3, Try.ntmps3
  go_wp2_with fail
  refine hlg.out.mono ?_
  rintro _ w1 ⟨rfl, e⟩
  obtain rfl : w = w1 := e.symm
  go_wp2_with fail
  refine cR.out.mono ?_
  rintro _ w1 ⟨gb, D, rfl, hR, hb1⟩
  go_wp2_with fail
  refine (cO.out w1 hb1).mono ?_
  rintro _ w2 ⟨A2, n2, c2, f2, rfl, hb2, hcase⟩
  have hB2 := grew hb1 hb2
  have hR2 := hR.below hb2
  clear hb1 hb2 hR
  go_wp2_with fail
  refine (cS.out w2 hB2).mono ?_
  rintro _ w3 ⟨A1, c1, rfl, hso⟩
  obtain ⟨hrow3, hb3⟩ := hsr.out w2 A1 c1 w3 hso
  have hB3 := grew hB2 hb3
  have hR3 := hR2.below hb3
  clear hB2 hso hR2
  go_wp2_with fail
  refine (cW.out w3 hB3).mono ?_
  rintro _ w4 ⟨rfl, e⟩
  obtain rfl : w3 = w4 := e.symm
  have hcase3 : Hid ((m ∈ N ∧ f2 = 0 ∧ n2 = (iv p n (ranK N m)).length ∧ InAt w3 A2 (iv p n (ranK N m))) ∨ (m ∉ N ∧ f2 = 6 ∧ n2 = 0)) := Lib.hid (by
    rcases hcase with ⟨q1, q2, q3, q4⟩ | q
    · exact .inl ⟨q1, q2, q3, q4.below (Nat.le_refl _) hb3⟩
    · exact .inr q)
  replace hB3 := Lib.hid hB3
  replace hR3 := Lib.hid hR3
  replace hrow3 := Lib.hid hrow3
  have hp0 : ¬ ((p : Int) < 0) := by omega
  have hp4 : (p : Int) ≤ 4 := by omega
  clear hcase hlg cR cO cS cW hsr hb3
  go_wp2_with fail
  go_loopg [92, 14] n (fun ga i bv wr => ∃ (k : Nat) (bI : Bool), k ≤ n ∧ n ≤ k + ga ∧ i = .int .i64 (k : Int) ∧ bv = .bool bI ∧ Hid (bI = decide (m ∈ S.take k)) ∧ Hid (Below w3.heap.size w3 wr))
  case atStart => exact ⟨0, false, by omega, by omega, rfl, rfl, Lib.hid (by simp), Lib.hid (Below.refl _ _)⟩
  case round =>
    obtain ⟨k, bI, hk, hg, rfl, rfl, hbI, hb⟩ := hrel
    generalize wr = wo at *
    by_cases hlt : k < n
    · obtain ⟨s, hs⟩ : ∃ s, S[k]? = some s := ⟨_, List.getElem?_eq_getElem (by have := hSl.out; omega)⟩
      obtain ⟨hrks, hsN, hsl⟩ := hrk.out k s hs
      obtain ⟨b, o, rfl, hb1, hc1⟩ := (hrow3.out.below (Nat.le_refl _) hb.out) k s hs
      rw [encStr_B] at hc1
      have hBo := grew hB3.out hb.out
      have hRo := hR3.out.below hb.out
      obtain ⟨A4, c4, hI4, hlk⟩ := hRo.look_all hlt hs hsl
      have k1 : Hid (∀ W, Below wo.heap.size wo W → Calls Try.prog 12 #[.slice a n cap, .string (B s)] W fun e w' => e = .returned (.int .i64 (k : Int)) ∧ Below W.heap.size W w') := Lib.hid (fun W h => (cK.out W s (grew hBo h)).mono (by rintro _ y ⟨rfl, rfl⟩; exact ⟨by rw [hrks], Below.refl _ _⟩))
      have k2 := Lib.hid (fun W (h : Below wo.heap.size wo W) => cD.out W s (grew hBo h) hsN)
      rw [hrks] at k2
      have k3 := Lib.hid (fun W (h : Below wo.heap.size wo W) A5 c5 (h5 : InAt W A5 (iv p n k)) => ints28_any A4 A5 c4 c5 (iv p n k) W (hI4.below (Nat.le_refl _) h) h5 (by rw [iv_len]; have := shr_le (p := p) hlt; omega))
      have hnx : decide (m ∈ S.take (k + 1)) = (bI || decide (s = m)) := by
        rw [hbI.out, ← take_step hs, Bool.eq_iff_iff, Bool.or_eq_true, decide_eq_true_iff, decide_eq_true_iff, decide_eq_true_iff, List.mem_append, List.mem_singleton]
        exact ⟨fun h => h.imp id Eq.symm, fun h => h.imp id Eq.symm⟩
      have hcmp : ((B s).toList == mb.toList) = decide (s = m) := by
        have := eql_nm s m
        rw [show B m = mb from by rw [← hm.out]; rfl] at this
        exact this
      obtain ⟨x, hx⟩ : ∃ x, Hid (B s = x) := ⟨_, Lib.hid rfl⟩
      obtain ⟨I, hI⟩ : ∃ I, Hid (iv p n k = I) := ⟨_, Lib.hid rfl⟩
      obtain ⟨il, hil⟩ : ∃ il, Hid (I.length = il) := ⟨_, Lib.hid rfl⟩
      rw [hI.out] at hlk k2 k3
      rw [hil.out] at hlk k2 k3
      rw [hx.out] at hc1 hlk k1 k2 hcmp
      obtain ⟨cI, hcI⟩ : ∃ cI, Hid (decide (s = m) = cI) := ⟨_, Lib.hid rfl⟩
      rw [hcI.out] at hcmp hnx
      replace hnx := Lib.hid hnx
      replace hbo := Lib.hid hb.out
      have hke : ((k : Int) == (k : Int)) = true := by simp
      have s10 : Below wo.heap.size wo wo := Below.refl _ _
      have s10d : Below wo.heap.size wo wo.drew := (Below.refl _ _).drew
      clear hb hI4 hRo hBo hrks hsN hsl hs hx hI hil hcI hbI hb1
      replace hlk := Lib.hid hlk
      have hmm := hlk.out
      cases bI
      case' true => rw [Bool.true_or] at hnx
      case' false => rw [Bool.false_or] at hnx
      all_goals
        go_upto_region 18 with fail
        go_region_held3 (fun w' => Below wo.heap.size wo w') (with_reducible first | assumption) (first
          | (go_at_call 13; (with_reducible refine (k3.out _ (by assumption) _ _ (by assumption)).mono ?_); rintro _ y3 ⟨rfl, b3⟩; have s13 : Below wo.heap.size wo y3 := grew (by assumption) b3; have hfin := Lib.hid s13)
          | (go_at_call 14; (with_reducible refine (k2.out _ (by assumption)).mono ?_); rintro _ y2 ⟨A5, c5, rfl, hI5, b2⟩; have s12 : Below wo.heap.size wo y2 := grew (by assumption) b2)
          | (go_at_call 12; (with_reducible refine (k1.out _ (by assumption)).mono ?_); rintro _ y1 ⟨rfl, b1⟩; have s11 : Below wo.heap.size wo y1 := grew (by assumption) b1))
        all_goals
          have hB4 := Lib.hid (grew hbo.out hfin.out)
          clear hmm hlk k1 k2 k3 hfin
          go_wp2_with fail
          go_roundg (gk - 1)
          case measure => omega
          case rel => exact ⟨k + 1, _, by omega, by omega, by go_num, rfl, Lib.hid hnx.out.symm, hB4⟩
    · obtain rfl : k = n := by omega
      have htk : S.take k = S := List.take_of_length_le (by have := hSl.out; omega)
      have hRo := hR3.out.below hb.out
      have hBo := grew hB3.out hb.out
      have hsz := hRo.size
      have hln := fun (ty : TypeId) (W : World) (h : Below wo.heap.size wo W) => (hRo.below h).own.len (t := 25) Try.underlying25 ty
      rw [hsz] at hln
      replace hln := Lib.hid hln
      have hke : ((k : Int) == (k : Int)) = true := by simp
      rcases hcase3.out with ⟨q1, rfl, rfl, hI2⟩ | ⟨q1, rfl, rfl⟩
      · have hbt : bI = true := by rw [hbI.out, htk]; exact decide_eq_true (hin.out.2 q1)
        subst hbt
        obtain ⟨hs, hr⟩ := hmr.out q1
        obtain ⟨A4, c4, hI4, hlk⟩ := hRo.look_all hr hs (by rw [← hm.out]; simpa using hml)
        rw [show B m = mb from by rw [← hm.out]; rfl] at hlk
        have hlk := hlk wo (Below.refl _ _)
        have cI := ints28_any A2 A4 c2 c4 (iv p k (ranK N m)) wo (hI2.below (Nat.le_refl _) hb.out) hI4 (by rw [iv_len]; have := shr_le (p := p) hr; omega)
        obtain ⟨il, hil⟩ : ∃ il, Hid ((iv p k (ranK N m)).length = il) := ⟨_, Lib.hid rfl⟩
        rw [hil.out] at hlk cI ⊢
        replace cI := Lib.hid cI
        replace hBo := Lib.hid hBo
        clear hcase3 hI2 hI4 hRo hsz hs hr hil hbI htk hrk hin hmr cK cD
        go_wp2_with fail
        refine cI.out.mono ?_
        rintro _ w5 ⟨rfl, hb5⟩
        have hl5 := fun ty => hln.out ty w5 hb5
        have hB5 := Lib.hid (grew hBo.out hb5)
        clear cI hb5
        go_wp2_with fail
        refine (c3.out _).mono ?_
        rintro _ w6 ⟨rfl, hb6⟩
        have hB6 := Lib.hid (grew hB5.out hb6)
        clear hb6
        go_wp2_with fail
        go_ret
        exact ⟨rfl, hB6.out⟩
      · have hbt : bI = false := by rw [hbI.out, htk]; exact decide_eq_false (fun h => q1 (hin.out.1 h))
        subst hbt
        have hl5 := fun ty => hln.out ty wo (Below.refl _ _)
        replace hBo := Lib.hid hBo
        clear hcase3 hRo hsz hbI htk hrk hin hmr cK cD q1
        go_wp2_with fail
        refine (c3.out _).mono ?_
        rintro _ w6 ⟨rfl, hb6⟩
        have hB6 := Lib.hid (grew hBo.out hb6)
        clear hb6
        go_wp2_with fail
        go_ret
        exact ⟨rfl, hB6.out⟩
set_option maxRecDepth 100000 in
set_option maxHeartbeats 8000000 in
theorem walk (a : Option Addr) (len cap : Nat) (ss : List ByteArray) (pa : Int) (mb : ByteArray) (w : World) (w1 : IsStrs w a len cap ss) (wp : (Lit.int .i64 pa).wf = true) (wm : mb.size ≤ maxLen) :
    Calls Try.prog 3 #[.slice a len cap, .int .i64 pa, .string mb] w fun e w' => e = .returned (.bool true) ∧ Below w.heap.size w w' := by
  obtain ⟨hl, hrow, hlc, hcm, hsz⟩ := strs_in w1
  generalize inN len ss = N at *
  subst hl
  clear w1
  have hlg := Lib.hid (large28_any a cap N w (by omega) hrow hsz)
  by_cases hbig : 100 < mb.size
  · have c3 := Lib.hid (fun W => three28_any W)
    obtain ⟨n, hn⟩ : ∃ n, Hid (N.length = n) := ⟨_, Lib.hid rfl⟩
    rw [hn.out] at hlg ⊢
    clear hrow hsz hlc wp wm hcm
    go_enter Try.func3, Try.ntmps3
    go_wp2_with fail
    refine hlg.out.mono ?_
    rintro _ w1 ⟨b, rfl, hb, e⟩
    obtain rfl : w = w1 := e.symm
    clear hb hlg
    cases b
    all_goals
      go_wp2_with fail
      refine (c3.out _).mono ?_
      rintro _ w1 ⟨rfl, hb1⟩
      replace hb1 := Lib.hid hb1
      go_wp2_with fail
      go_ret
      exact ⟨rfl, hb1.out⟩
  · by_cases hsm : smallN N
    · have hlf : Calls Try.prog 6 #[.slice a N.length cap] w fun e w' => e = .returned (.bool false) ∧ w' = w := hlg.out.mono (by
        rintro _ w1 ⟨b, rfl, hb, rfl⟩
        exact ⟨by rw [hb.2 hsm], rfl⟩)
      by_cases hw : whyR N pa = 0
      · obtain ⟨h1, h2, h3⟩ := whyR_zero hw
        obtain ⟨p, rfl⟩ := Int.eq_ofNat_of_zero_le h2
        exact main_yes a cap N p mb w hsm.1 hlc hcm hrow hsm.2 h1 (by omega) hbig wm hlf
      · exact main_no a cap N pa mb w hsm.1 hlc hcm hrow hsm.2 hw hbig hlf
    · have hlt : Hid (Calls Try.prog 6 #[.slice a N.length cap] w fun e w' => e = .returned (.bool true) ∧ w' = w) := Lib.hid (hlg.out.mono (by
        rintro _ w1 ⟨b, rfl, hb, rfl⟩
        refine ⟨?_, rfl⟩
        cases b
        · exact absurd (hb.1 rfl) hsm
        · rfl))
      have c3 := Lib.hid (fun W => three28_any W)
      obtain ⟨n, hn⟩ : ∃ n, Hid (N.length = n) := ⟨_, Lib.hid rfl⟩
      rw [hn.out] at hlt ⊢
      clear hrow hsz hlc hlg hsm wp wm hcm hbig
      go_enter Try.func3, Try.ntmps3
      go_wp2_with fail
      refine hlt.out.mono ?_
      rintro _ w1 ⟨rfl, e⟩
      obtain rfl : w = w1 := e.symm
      clear hlt
      go_wp2_with fail
      refine (c3.out _).mono ?_
      rintro _ w1 ⟨rfl, hb1⟩
      replace hb1 := Lib.hid hb1
      go_wp2_with fail
      go_ret
      exact ⟨rfl, hb1.out⟩

theorem own : ownKnob Try.prog.godebug = none := by kernel_rfl
theorem laidOut : laidOutB Try.prog = true := by kernel_rfl

set_option maxRecDepth 100000 in
theorem lifted (os : Os) (started : os.Started) (H : Type) (enc : TypeId × Value → H) :
    ReturnsInHanded {} Try.checked os 3 .any (Rows.assignRangesSpec.pre6 enc Try.prog Try.f3 Rows.assignRangesRow.domain false) (Rows.assignRangesSpec.post enc Try.prog Try.f3 false true false false) := by
  refine returnsInHanded_of_change (C := Try.checked) own started (by kernel_rfl) Try.func3
    (ChangeSpec.witness6 (enc := enc) (C := Try.checked) false ⟨#[], #[.slice none 0 0, .int .i64 0, .string ByteArray.empty], []⟩ 8 (by kernel_rfl) (by kernel_rfl) (by kernel_rfl) (by kernel_rfl)) ?_
  intro W base args ds gs before hval0 hW hcnd _
  have hval : ∀ (j : Nat) t v, Try.f3.params[j]? = some t → args[j]? = some v → Value.okWide Try.prog W .any base t v := hval0
  have hW' := hW
  obtain ⟨p, q, hA0, hV, rfl, hfz, hnd⟩ := hW
  have hA : DataW.TrodAll enc Try.prog W 0 (fun _ => true) true Try.f3.params.toList args.toList ds p := hA0
  rw [Try.params3] at hA hval
  obtain ⟨v0, vs0, d0, ds0, p0, q0, hargs, rfl, rfl, h0, r0⟩ := trodAll_cons hA
  obtain ⟨v1, vs1, d1, ds1, p1, q1, rfl, rfl, rfl, h1, r1⟩ := trodAll_cons r0
  obtain ⟨v2, vs2, d2, ds2, p2, q2, rfl, rfl, rfl, h2, r2⟩ := trodAll_cons r1
  obtain ⟨rfl, rfl, rfl⟩ := trodAll_nil r2
  obtain rfl : args = #[v0, v1, v2] := by cases args; simp_all
  obtain ⟨rfl, rfl⟩ := trodVars_none hV
  obtain ⟨a0, len0, cap0, rfl⟩ := okWide_slice Try.underlying22 (hval 0 22 v0 rfl rfl)
  have k0 := h0
  have lt0 : ∀ x ∈ p0, x.block < W.heap.size := by obtain ⟨m, hm⟩ := k0; exact DataW.trod_lt m _ _ _ hm
  obtain ⟨z0, w0⟩ := open_strs Try.underlying22 Try.underlying9 (by kernel_rfl) h0
  obtain ⟨a1, rfl, rfl, rfl, w1⟩ := open_int Try.underlying3 (hval 1 3 v1 rfl rfl) h1
  obtain ⟨a2, rfl, rfl, rfl, w2⟩ := open_string Try.underlying9 (hval 2 9 v2 rfl rfl) h2
  clear hA0 hval0
  refine (walk a0 len0 cap0 z0 a1 a2 W w0 w1 w2).mono fun e W' ⟨he, bel⟩ => ?_
  subst he
  exact ⟨_, rfl, _, _, _, [], _, [], hW', trodAll_mk1 (shut_bool Try.underlying4 _), (trodAll_cons_mk (Below.trod laidOut (by kernel_rfl) (of_decide_eq_true (by kernel_rfl)) k0 bel lt0) (trodAll_cons_mk (shut_int Try.underlying3 w1) (trodAll_cons_mk (shut_string Try.underlying9 w2) trodAll_mk0))), rfl, bel.frame _, fun h => by cases h⟩

theorem over : Rows.assignRangesRow.holds Try.pinned (OpenSpec.ofChange Rows.assignRangesSpec) :=
  OpenClaim.holds_of_wide 3 Try.f3 rfl rfl rfl rfl rfl rfl rfl ⟨rfl, rfl, rfl, rfl, rfl⟩ rfl rfl rfl rfl rfl (by kernel_rfl) Try.func3 (by kernel_rfl)
    (of_decide_eq_true (by kernel_rfl)) (by unfold Func.isWrapper; first | (rw [if_pos (by decide +kernel)]; kernel_rfl) | (rw [if_neg (by decide +kernel)]; exact ⟨rfl, rfl⟩))
    (fun os started H enc _ => lifted os started H enc)

/-- The statement. -/
theorem proved : Rows.AssignRangesSaid := over
#print axioms proved

end Go.Proofs.Ytnekiiahgidkoaa.assignRanges
