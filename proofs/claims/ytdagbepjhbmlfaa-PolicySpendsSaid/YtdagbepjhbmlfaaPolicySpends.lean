/- For every table, every row of rules and every []int the law PolicySpends returns true: what any spending and ticks make of a ledger. No condition. -/
import Derived.Test.YtdagbepjhbmlfaaRows
import Derived.Test.YtdagbepjhbmlfaaPolTwo
import Derived.Test.YtdagbepjhbmlfaaPolFind
import Derived.Test.YtdagbepjhbmlfaaLefts
import Derived.Test.YtdagbepjhbmlfaaRulesIn
import Derived.Test.YtdagbepjhbmlfaaInts
import Derived.Test.YtdagbepjhbmlfaaGrid
import Derived.ChangeOld
namespace Go.Proofs.Ytdagbepjhbmlfaa.Q
open Go.RowKit
set_option linter.unusedVariables false
theorem tick_mod'' {win at_ q m : Nat} (hm : m < win) (he : win * q + m = at_) : tickT win m = (at_ + 1) % win ∧ ((m + 1 = win ∧ (at_ + 1) / win = q + 1) ∨ (m + 1 ≠ win ∧ (at_ + 1) / win = q)) := by
  unfold tickT
  by_cases h : m + 1 = win
  · have e : at_ + 1 = win * (q + 1) := by rw [Nat.mul_add]; omega
    rw [if_pos h, e, Nat.mul_mod_right, Nat.mul_div_cancel_left _ (by omega)]
    exact ⟨rfl, .inl ⟨h, rfl⟩⟩
  · have e : at_ + 1 = win * q + (m + 1) := by omega
    rw [if_neg h, e, Nat.mul_add_mod, Nat.mod_eq_of_lt (by omega), Nat.mul_add_div (by omega), Nat.div_eq_of_lt (by omega)]
    exact ⟨rfl, .inr ⟨h, rfl⟩⟩
/-- What holds of deeds, the tick and the counts. -/
structure Kept_ (n win now : Nat) (sp : Nat → Nat) (ds : List (Nat × Nat)) : Prop where
  past : ∀ d ∈ ds, d.1 ≤ now ∧ d.2 < n
  same : ∀ i, i < n → spentN win now i ds = sp i
theorem kept_tick {n win now : Nat} {sp : Nat → Nat} {ds : List (Nat × Nat)} (h : Kept_ n win now sp ds) (hw : 1 ≤ win) :
    tickT win (now % win) = (now + 1) % win ∧ Kept_ n win (now + 1) (tickS win (now % win) sp) ds := by
  obtain ⟨h1, h2⟩ := tick_mod'' (Nat.mod_lt now (show win > 0 by omega)) (Nat.div_add_mod now win)
  refine ⟨h1, fun d hd => ⟨by have := (h.past d hd).1; omega, (h.past d hd).2⟩, fun i hi => ?_⟩
  rcases h2 with ⟨e, hq⟩ | ⟨e, hq⟩
  · unfold tickS
    rw [if_pos e]
    unfold spentN
    rw [List.filter_eq_nil_iff.2]
    · rfl
    · intro d hd
      have hle := Nat.div_le_div_right (c := win) (h.past d hd).1
      unfold inWin
      rw [hq]
      simp
      omega
  · unfold tickS
    rw [if_neg e, ← h.same i hi]
    unfold spentN inWin
    rw [hq]
theorem kept_more {n win now : Nat} {sp : Nat → Nat} {ds : List (Nat × Nat)} (h : Kept_ n win now sp ds) {i : Nat} (hi : i < n) : Kept_ n win now (more sp i) (ds ++ [(now, i)]) := by
  refine ⟨fun d hd => ?_, fun j hj => ?_⟩
  · rcases List.mem_append.1 hd with h1 | h1
    · exact h.past d h1
    · simp at h1; subst h1; exact ⟨Nat.le_refl _, hi⟩
  · unfold spentN
    rw [List.filter_append, List.length_append]
    have := h.same j hj
    unfold spentN at this
    rw [this]
    unfold more
    by_cases e : j = i
    · subst e; simp [inWin]
    · have e' : ¬ i = j := fun h => e h.symm
      simp [inWin, e, e']
theorem infoDeed : (Try.prog.info? 82).map (fun i => (i.zero, i.size, i.bytes)) = some (some (.agg #[.int .i64 0, .int .i64 0]), 2, 16) := by kernel_rfl
end Go.Proofs.Ytdagbepjhbmlfaa.Q

namespace Go.Proofs.Ytdagbepjhbmlfaa.policySpends
open Go.ChangeShapes Go.WideShapes Go.ChangeAt Go.RowKit
open Go.Proofs.Ytdagbepjhbmlfaa.Q
open Go.Proofs.Ytdagbepjhbmlfaa.Z
open Go.Proofs.Ytdagbepjhbmlfaa.I
open Go.Proofs.Ytdagbepjhbmlfaa.L (Tab Sq Lat wrongN sqB)
open Go.Proofs.Ytdagbepjhbmlfaa.D (Whole Kept)
set_option linter.unusedVariables false
attribute [local go_sem ↓] Go.wp_at_zero Go.wp_at_succ

theorem wrong_sq {len : Nat} {L : Nat → Nat} {B : Nat → Nat → Bool} (h : wrongN len L B = 0) : sqB len L = true := by
  unfold wrongN at h
  cases hs : sqB len L
  · rw [hs] at h; simp at h
  · rfl
def Fin (w : World) (e : Ending) (w' : World) : Prop := e = .returned (.bool true) ∧ Below w.heap.size w w'
section
variable (a : Option Addr) (len cap : Nat) (A : Nat → Option Addr) (L C : Nat → Nat) (F : Nat → Nat → Bool) (v : Option Addr) (n cp : Nat) (r : Nat → Rule1) (qa : Option Addr) (ql qc : Nat) (z : Nat → Int) (w : World)
set_option maxHeartbeats 8000000 in
set_option maxRecDepth 100000 in
theorem walk (hT : Tab w a len A L C F) (hR : Rls w v n cp r) (hQ : Ints w qa ql qc z) :
    Calls Try.prog 8 #[.slice a len cap, .slice v n cp, .slice qa ql qc] w (Fin w) := by
  have hmx := hR.max
  have hle := hR.le
  have hmt := hT.most
  have hmq := hQ.max
  have hlq := hQ.le
  unfold maxLen at hmx hmt hmq
  obtain ⟨ik, hik, hk0, hk1, hk2⟩ := info_parts infoDeed
  go_enter Try.func8, Try.ntmps8
  go_wp2_with fail
  refine (large05_any a len cap A L C F v n cp r w hT hR).mono ?_
  rintro e w1 ⟨lb, rfl, rfl, hlb⟩
  cases lb
  rotate_left
  · clear hT hR hQ hlb
    go_wp2_with fail
    refine (two_any _).mono ?_
    rintro e w2 ⟨rfl, hb2⟩
    go_wp2_with fail
    go_ret
    exact ⟨rfl, hb2⟩
  clear hlb
  go_wp2_with fail
  refine (Go.Proofs.Ytdagbepjhbmlfaa.L.wrong_any a len cap A L C F w hT).mono ?_
  rintro e w2 ⟨rfl, hb2⟩
  by_cases hw0 : wrongN len L F = 0
  rotate_left
  · have hne : ((wrongN len L F : Int) != 0) = true := by rw [bne_iff_ne]; omega
    obtain ⟨x, hx⟩ : ∃ x, Hid (wrongN len L F = x) := ⟨_, Lib.hid rfl⟩
    rw [hx.out] at hne ⊢
    clear hT hR hQ hw0 hx
    go_wp2_with fail
    refine (two_any _).mono ?_
    rintro e w3 ⟨rfl, hb4⟩
    have hb5 := hb2.trans (hb4.mono hb2.size)
    clear hb2 hb4
    go_wp2_with fail
    go_ret
    exact ⟨rfl, hb5⟩
  rw [hw0]
  have hT2 := hT.below hb2
  have hR2 := Lib.hid (hR.below hb2)
  have hQ2 := Lib.hid (hQ.below hb2)
  replace hb2 := Lib.hid hb2
  obtain ⟨bk, off, rfl, hl0, hSq⟩ := hT2.square (wrong_sq hw0)
  have hWr := Lib.hid (wrong05_any bk off len cap F v n cp r w2 hSq hR2.out)
  replace hT2 := Lib.hid hT2
  clear hSq hT hR hQ
  obtain ⟨y, hy⟩ : ∃ y, Hid (polWrong len F r n = y) := ⟨_, Lib.hid rfl⟩
  rw [hy.out] at hWr
  go_wp2_with fail
  refine hWr.out.mono ?_
  rintro e w3 ⟨rfl, hb3⟩
  replace hT2 := Lib.hid (hT2.out.below hb3)
  replace hR2 := Lib.hid (hR2.out.below hb3)
  replace hQ2 := Lib.hid (hQ2.out.below hb3)
  replace hb2 := Lib.hid (hb2.out.trans (hb3.mono hb2.out.size))
  clear hWr hb3
  by_cases hy0 : y = 0
  rotate_left
  · have hyn : (y != 0) = true := by rw [bne_iff_ne]; exact hy0
    clear hT2 hR2 hQ2 hw0 hy0 hy
    go_wp2_with fail
    refine (two_any _).mono ?_
    rintro e w6 ⟨rfl, hb7⟩
    have hb8 := hb2.out.trans (hb7.mono hb2.out.size)
    clear hb2 hb7
    go_wp2_with fail
    go_ret
    exact ⟨rfl, hb8⟩
  subst hy0
  by_cases hq60 : 60 < ql
  · clear hT2 hR2 hQ2 hw0 hy
    go_wp2_with fail
    refine (two_any _).mono ?_
    rintro e w6 ⟨rfl, hb7⟩
    have hb8 := hb2.out.trans (hb7.mono hb2.out.size)
    clear hb2 hb7
    go_wp2_with fail
    go_ret
    exact ⟨rfl, hb8⟩
  have dq : decide (60 < (ql : Int)) = false := decide_eq_false (by omega)
  by_cases hq0 : ql = 0
  · subst hq0
    clear hT2 hR2 hQ2 hw0 hy
    go_wp2_with fail
    refine (two_any _).mono ?_
    rintro e w6 ⟨rfl, hb7⟩
    have hb8 := hb2.out.trans (hb7.mono hb2.out.size)
    clear hb2 hb7
    go_wp2_with fail
    go_ret
    exact ⟨rfl, hb8⟩
  have dq0 : ((ql : Int) == 0) = false := by rw [beq_eq_false_iff_ne]; omega
  have hql : ql ≤ 60 := by omega
  have hqp : 0 < ql := by omega
  clear hq60 hq0
  go_wp2_with fail
  refine (Go.Proofs.Ytdagbepjhbmlfaa.L.new_any (some ⟨bk, off, none⟩) len cap A L C F w3 hT2.out).mono ?_
  rintro e w4 (⟨hne, _⟩ | ⟨_, lp, rfl, hF, hb3⟩)
  · exact absurd hw0 hne
  have hLat := hF.lat
  clear hF hT2 hw0
  replace hR2 := Lib.hid (hR2.out.below hb3)
  replace hQ2 := Lib.hid (hQ2.out.below hb3)
  replace hb2 := Lib.hid (hb2.out.trans (hb3.mono hb2.out.size))
  clear hb3
  have hN := Lib.hid (polnew_any lp len F v n cp r w4 hLat hR2.out)
  clear hLat
  go_wp2_with fail
  refine hN.out.mono ?_
  rintro e w5 (⟨hne, _⟩ | ⟨_, p, rfl, hP, hb3⟩)
  · exact absurd hy.out hne
  clear hN hy
  have hPol := hP.pol
  have hn16 := hPol.few
  clear hP
  replace hR2 := Lib.hid (hR2.out.below hb3)
  replace hQ2 := Lib.hid (hQ2.out.below hb3)
  replace hb2 := Lib.hid (hb2.out.trans (hb3.mono hb2.out.size))
  clear hb3
  obtain ⟨xb, xo, rfl, hc0⟩ := hQ2.out.cell 0 hqp
  obtain ⟨win, hwin⟩ : ∃ x, Hid (z 0 = x) := ⟨_, Lib.hid rfl⟩
  rw [hwin.out, Nat.add_zero] at hc0
  by_cases hpt : 1 ≤ win ∧ win ≤ 1048576
  rotate_left
  · have hpf : pointB win = false := by
      rw [Bool.eq_false_iff]; intro h; simp [pointB] at h; exact hpt h
    have hled := Lib.hid (ledger_no p w5 win hpf)
    clear hR2 hQ2 hPol hwin hpf
    by_cases hw1 : win < 1
    · clear hpt
      go_wp2_with fail
      refine hled.out.mono ?_
      rintro e w6 ⟨rfl, rfl⟩
      clear hled
      go_wp2_with fail
      refine (two_any _).mono ?_
      rintro e w6 ⟨rfl, hb7⟩
      have hb8 := hb2.out.trans (hb7.mono hb2.out.size)
      clear hb2 hb7
      go_wp2_with fail
      go_ret
      exact ⟨rfl, hb8⟩
    · have d1 : decide (win < 1) = false := decide_eq_false hw1
      have h2 : 1048576 < win := by omega
      clear hpt hw1
      go_wp2_with fail
      refine hled.out.mono ?_
      rintro e w6 ⟨rfl, rfl⟩
      clear hled
      go_wp2_with fail
      refine (two_any _).mono ?_
      rintro e w6 ⟨rfl, hb7⟩
      have hb8 := hb2.out.trans (hb7.mono hb2.out.size)
      clear hb2 hb7
      go_wp2_with fail
      go_ret
      exact ⟨rfl, hb8⟩
  obtain ⟨win, rfl⟩ := Int.eq_ofNat_of_zero_le (show 0 ≤ win by omega)
  have hw1 : 1 ≤ win := by omega
  have hw2 : win ≤ 1048576 := by omega
  have d1 : decide ((win : Int) < 1) = false := decide_eq_false (by omega)
  have d2 : decide (1048576 < (win : Int)) = false := decide_eq_false (by omega)
  clear hpt hwin
  obtain ⟨B, hBB⟩ : ∃ B, Hid (w5.heap.size = B) := ⟨_, Lib.hid rfl⟩
  rw [hBB.out] at hPol
  have hledC := Lib.hid (ledger_in B p n r w5 win hPol ⟨hw1, hw2⟩)
  clear hPol
  go_wp2_with fail
  refine hledC.out.mono ?_
  rintro e w6 ⟨rfl, hb6, hLed⟩
  rw [hBB.out] at hLed ⊢
  have hgB : w.heap.size ≤ B := by rw [← hBB.out]; exact hb2.out.size
  have hsz6 : B + 1 ≤ w6.heap.size := by have := hLed.obj.lt; omega
  have hRc : Hid (∀ c, Below B w6 c → Rls c v n cp r ∧ Ints c (some ⟨xb, xo, none⟩) ql qc z) := Lib.hid (fun c h => by
    have hb : Below w5.heap.size w5 c := hb6.trans (by rw [hBB.out]; exact h)
    exact ⟨hR2.out.below hb, hQ2.out.below hb⟩)
  replace hb2 := Lib.hid (hb2.out.trans (hb6.mono hb2.out.size))
  clear hb6 hledC hc0 hR2 hQ2 hBB
  have hkb : Hid (∀ a c : World, Below B w6 a → Kept (fun b => b = B) a c → Below B w6 c) := Lib.hid (fun a c h1 h2 => h1.trans (h2.below (by have := h1.size; omega) (fun k hk => by omega)))
  replace hLed := Lib.hid hLed
  have hwB : Hid (∀ c, Below B w6 c → Below w.heap.size w c) := Lib.hid (fun c h => hb2.out.trans (h.mono hgB))
  clear hb2
  obtain ⟨qn, rfl⟩ : ∃ qn, ql = qn + 1 := ⟨ql - 1, by omega⟩
  go_wp2_with fail
  · rename_i hqc
    obtain rfl : qn = 0 := by omega
    go_loopg [14, 15, 91] 0 (fun ga dv nv i wr => ∃ k now : Nat, ∃ sp : Nat → Nat, ∃ ds : List (Nat × Nat), k ≤ 0 ∧ 0 ≤ k + ga ∧ i = .int .i64 k ∧ nv = .int .i64 now ∧ now ≤ k ∧ ds.length ≤ k ∧ Hid (Below B w6 wr) ∧ Hid (Led wr B B p n r win (now % win) sp) ∧ Hid (Deeds wr (B + 1) dv ds) ∧ Hid (Kept_ n win now sp ds))
    case atStart => exact ⟨0, 0, fun _ => 0, [], by omega, by omega, rfl, rfl, by omega, by simp, Lib.hid (Below.refl _ _), by rw [Nat.zero_mod]; exact hLed, Lib.hid ⟨rfl, .inl ⟨rfl, rfl⟩⟩, Lib.hid ⟨fun d hd => by simp at hd, fun i hi => by simp [spentN]⟩⟩
    case round =>
      clear hLed
      obtain ⟨k, now, sp, ds, hk, hg, rfl, rfl, hnk, hdk, hb, hL, hD, hI⟩ := hrel
      have hszr : B + 1 ≤ wr.heap.size := Nat.le_trans hsz6 hb.out.size
      by_cases hlt : k < 0
      · omega
      · obtain rfl : k = 0 := by omega
        have hlf := Lib.hid (lefts_any B B p n r win (now % win) sp v cp (B + 1) u14 ds now wr hL.out (hRc.out wr hb.out).1 hD.out hszr (by omega) (by omega) (fun d hd => by have := hI.out.past d hd; omega) hI.out.same)
        clear hL hD hI
        go_wp2_with fail
        refine hlf.out.mono ?_
        rintro e w7 ⟨rfl, hb7⟩
        have hb8 := (hb.out.trans (hb7.mono (by omega)))
        replace hb8 := hwB.out _ hb8
        clear hlf hb hb7 hwB hRc
        go_wp2_with fail
        refine (two_any _).mono ?_
        rintro e w9 ⟨rfl, hb9⟩
        have hb10 := hb8.trans (hb9.mono hb8.size)
        clear hb8 hb9
        go_wp2_with fail
        go_ret
        exact ⟨rfl, hb10⟩
  rename_i hqc
  go_loopg [14, 15, 91] qn (fun ga dv nv i wr => ∃ k now : Nat, ∃ sp : Nat → Nat, ∃ ds : List (Nat × Nat), k ≤ qn ∧ qn ≤ k + ga ∧ i = .int .i64 k ∧ nv = .int .i64 now ∧ now ≤ k ∧ ds.length ≤ k ∧ Hid (Below B w6 wr) ∧ Hid (Led wr B B p n r win (now % win) sp) ∧ Hid (Deeds wr (B + 1) dv ds) ∧ Hid (Kept_ n win now sp ds))
  case atStart => exact ⟨0, 0, fun _ => 0, [], by omega, by omega, rfl, rfl, by omega, by simp, Lib.hid (Below.refl _ _), by rw [Nat.zero_mod]; exact hLed, Lib.hid ⟨rfl, .inl ⟨rfl, rfl⟩⟩, Lib.hid ⟨fun d hd => by simp at hd, fun i hi => by simp [spentN]⟩⟩
  case round =>
    clear hLed
    obtain ⟨k, now, sp, ds, hk, hg, rfl, rfl, hnk, hdk, hb, hL, hD, hI⟩ := hrel
    have hszr : B + 1 ≤ wr.heap.size := Nat.le_trans hsz6 hb.out.size
    by_cases hlt : k < qn
    · have hqc2 : qc ≠ 1 := by omega
      obtain ⟨hRr, hQr⟩ := hRc.out wr hb.out
      obtain ⟨b', o', e', hcq⟩ := hQr.cell (k + 1) (by omega)
      cases e'
      obtain ⟨Z, hZ⟩ : ∃ Z, Hid (z (k + 1) = Z) := ⟨_, Lib.hid rfl⟩
      rw [hZ.out, show xo + (k + 1) = xo + 1 + k by omega] at hcq
      clear hZ hQr
      replace hRr := Lib.hid hRr
      by_cases hz : Z < 0
      · have htk := kept_tick hI.out hw1
        have htc := Lib.hid (tick_any B B p n r win (now % win) sp wr hL.out)
        rw [htk.1] at htc
        have hI2 := Lib.hid htk.2
        replace hD := Lib.hid (fun w' (hk' : Kept (fun b => b = B) wr w') => hD.out.kept hk' (fun q hq e => by have := ownFar hD.out q hq; omega))
        clear hL hI htk hRr
        go_wp2_with fail
        refine htc.out.mono ?_
        rintro e w7 ⟨rfl, hk7, hL7⟩
        have hb7 := Lib.hid (hkb.out _ _ hb.out hk7)
        have hD7 := Lib.hid (hD.out w7 hk7)
        replace hL7 := Lib.hid hL7
        clear htc hD hk7 hb
        go_wp2_with fail
        go_roundg (gk - 1)
        case measure => omega
        case rel => exact ⟨k + 1, now + 1, _, ds, by omega, by omega, by go_num, by go_num, by omega, by omega, hb7, hL7, hD7, hI2⟩
      have hz0 : 0 ≤ Z := by omega
      have dz : decide (Z < 0) = false := decide_eq_false hz
      by_cases hzn : (n : Int) ≤ Z
      · have hso := Lib.hid (spend_out B B p n r win (now % win) sp wr Z hL.out (.inr hzn))
        clear hz hRr
        go_wp2_with fail
        refine hso.out.mono ?_
        rintro e w7 ⟨rfl, rfl⟩
        clear hso
        go_wp2_with fail
        go_roundg (gk - 1)
        case measure => omega
        case rel => exact ⟨k + 1, now, sp, ds, by omega, by omega, by go_num, rfl, by omega, by omega, hb, hL, hD, hI⟩
      obtain ⟨i, rfl⟩ := Int.eq_ofNat_of_zero_le hz0
      have hin : i < n := by omega
      have dzn : decide ((n : Int) ≤ i) = false := decide_eq_false hzn
      clear hz hzn hz0
      obtain ⟨dva, dvc, rfl, _⟩ := hD.out.form
      obtain ⟨rb, ro, rfl, _, _, hcb⟩ := hRr.out.cell i hin
      have hbud := hL.out.pol.buds i hin
      have hspi := hL.out.spent i hin
      have hsame := Lib.hid (hI.out.same i hin)
      have hdd := Lib.hid (fun d (hd : d ∈ ds) => hI.out.past d hd)
      have i1 : (0 : Int) ≤ i := by omega
      have i2 : (i : Int) < n := by omega
      obtain ⟨bd, hbd⟩ : ∃ x, Hid ((r i).bud = x) := ⟨_, Lib.hid rfl⟩
      obtain ⟨S, hS⟩ : ∃ x, Hid (sp i = x) := ⟨_, Lib.hid rfl⟩
      obtain ⟨dn, hdn⟩ : ∃ x, Hid (ds.length = x) := ⟨_, Lib.hid rfl⟩
      rw [hbd.out] at hbud hspi hcb
      rw [hS.out] at hspi hsame
      have hwr : IntKind.i64.wrap (bd - (S : Int)) = bd - (S : Int) := IntWalk.i64_in _ (by omega)
      have hspent : Hid (∀ wx, Deeds wx (B + 1) (.slice dva ds.length dvc) ds → B + 1 ≤ wx.heap.size → Calls Try.prog 41 #[.slice dva ds.length dvc, .int .i64 (i : Int), .int .i64 win, .int .i64 now] wx fun e w' => e = .returned (.int .i64 (S : Int)) ∧ Below wx.heap.size wx w') := Lib.hid (fun wx h1 h2 => by
        have h := spent_any (B + 1) _ ds i win now wx h1 h2 (by omega) hw1 hw2 (by omega) (by omega) (fun d hd => by have := hdd.out d hd; omega)
        rw [hsame.out] at h
        exact h)
      have hdl : ds.length ≤ 60 := by omega
      have hdall : Hid (∀ d ∈ ds, d.1 ≤ 100 ∧ d.2 ≤ 100) := Lib.hid (fun d hd => by have := hdd.out d hd; omega)
      have dS0 : (0 : Int) ≤ S := by omega
      by_cases hfull : bd = S
      · have hsn := Lib.hid (spend_none B B p n r win (now % win) sp wr i hL.out hin (by rw [hbd.out, hS.out]; exact hfull))
        have hlv : decide ((S : Int) < bd) = false := decide_eq_false (by omega)
        have hlv2 : bd ≤ (S : Int) := by omega
        have hlf : Hid (∀ wx, Below wr.heap.size wr wx → Calls Try.prog 42 #[.pointer (some ⟨B, 0, none⟩), .slice (some ⟨rb, ro, none⟩) n cp, .slice dva ds.length dvc, .int .i64 win, .int .i64 now] wx fun e w' => e = .returned (.bool true) ∧ Below wx.heap.size wx w') := Lib.hid (fun wx hx => lefts_any B B p n r win (now % win) sp (some ⟨rb, ro, none⟩) cp (B + 1) _ ds now wx (hL.out.below hx) (hRr.out.below hx) (hD.out.below hx) (Nat.le_trans hszr hx.size) (by omega) (by omega) hdall.out hI.out.same)
        have hsp2 : Hid (∀ wx, Below wr.heap.size wr wx → Calls Try.prog 41 #[.slice dva ds.length dvc, .int .i64 (i : Int), .int .i64 win, .int .i64 now] wx fun e w' => e = .returned (.int .i64 (S : Int)) ∧ Below wx.heap.size wx w') := Lib.hid (fun wx hx => hspent.out wx (hD.out.below hx) (Nat.le_trans hszr hx.size))
        have hend : Hid (∀ wx, Below wr.heap.size wr wx → Below B w6 wx ∧ Led wx B B p n r win (now % win) sp ∧ Deeds wx (B + 1) (.slice dva ds.length dvc) ds) := Lib.hid (fun wx hx => ⟨hb.out.trans (hx.mono (by omega)), hL.out.below hx, hD.out.below hx⟩)
        rw [hdn.out] at hsp2 hlf hend hdl ⊢
        clear hL hD hb hRr hspent hbd hS hsame hdd hfull hdall
        go_wp2_with fail
        refine hsn.out.mono ?_
        rintro e w7 ⟨rfl, hb7⟩
        clear hsn
        have hc7 := keepC hb7 hcb
        have hb7d : Below wr.heap.size wr w7.drew := drewB hb7 1
        have hc7d : w7.drew.cell? ⟨rb, ro + i * 3 + 2, none⟩ = some (.int .i64 bd) := hc7
        clear hcq hcb
        go_wp2_with fail
        go_region_held3 (fun w' => w'.cell? ⟨rb, ro + i * 3 + 2, none⟩ = some (.int .i64 bd)) (go_keep) (first
          | (go_at_call 41; (with_reducible refine (hsp2.out _ hb7d).mono ?_); rintro e w8 ⟨rfl, hb8⟩; have c8 := keepC hb8 hc7d))
        have hb9 := hb7d.trans (hb8.mono hb7d.size)
        clear c8 hc7 hc7d hb7 hb8 hb7d hsp2
        go_wp2_with fail
        refine (hlf.out _ hb9).mono ?_
        rintro e w10 ⟨rfl, hb10⟩
        have hb11 := hb9.trans (hb10.mono hb9.size)
        obtain ⟨g1, g2, g3⟩ := hend.out w10 hb11
        replace g1 := Lib.hid g1
        replace g2 := Lib.hid g2
        replace g3 : Hid (Deeds w10 (B + 1) (.slice dva dn dvc) ds) := Lib.hid g3
        clear hlf hend hb9 hb10 hb11
        go_wp2_with fail
        go_roundg (gk - 1)
        case measure => omega
        case rel => exact ⟨k + 1, now, sp, ds, by omega, by omega, by go_num, rfl, by omega, by omega, g1, g2, g3, hI⟩
      · have hlt2 : (S : Int) < bd := by omega
        have hso := Lib.hid (spend_one B B p n r win (now % win) sp wr i hL.out hin (by rw [hbd.out, hS.out]; exact hlt2))
        have hI2 := kept_more hI.out hin
        have hDk : Hid (∀ wx, Kept (fun b => b = B) wr wx → Deeds wx (B + 1) (.slice dva ds.length dvc) ds) := Lib.hid (fun wx hk' => hD.out.kept hk' (fun q hq e => by have := ownFar hD.out q hq; omega))
        have hRk : Hid (∀ wx, Below B w6 wx → Rls wx (some ⟨rb, ro, none⟩) n cp r) := Lib.hid (fun wx hx => (hRc.out wx hx).1)
        have hcb2 : Hid (∀ wx, Below B w6 wx → wx.cell? ⟨rb, ro + i * 3 + 2, none⟩ = some (.int .i64 bd)) := Lib.hid (fun wx hx => by
          obtain ⟨b2, o2, e2, _, _, h2⟩ := ((hRc.out wx hx).1).cell i hin
          cases e2
          rw [hbd.out] at h2
          exact h2)
        have hlf2 : Hid (∀ wx dv, Led wx B B p n r win (now % win) (more sp i) → Below B w6 wx → Deeds wx (B + 1) dv (ds ++ [(now, i)]) → B + 1 ≤ wx.heap.size → Calls Try.prog 42 #[.pointer (some ⟨B, 0, none⟩), .slice (some ⟨rb, ro, none⟩) n cp, dv, .int .i64 win, .int .i64 now] wx fun e w' => e = .returned (.bool true) ∧ Below wx.heap.size wx w') := Lib.hid (fun wx dv h1 h2 h3 h4 => lefts_any B B p n r win (now % win) (more sp i) (some ⟨rb, ro, none⟩) cp (B + 1) dv _ now wx h1 ((hRc.out wx h2).1) h3 h4 (by simp; omega) (by omega) (fun d hd => by have := hI2.past d hd; omega) hI2.same)
        replace hI2 := Lib.hid hI2
        rw [hdn.out] at hspent hDk hdl ⊢
        clear hL hD hRr hI hbd hS hsame hdd hfull hdall hcb hspi hbud
        go_wp2_with fail
        refine hso.out.mono ?_
        rintro e w7 ⟨rfl, hk7, hL7⟩
        have hb7 := hkb.out _ _ hb.out hk7
        have hD7 := hDk.out w7 hk7
        have hsz7 : B + 1 ≤ w7.heap.size := Nat.le_trans hsz6 hb7.size
        have hc7d : w7.drew.cell? ⟨rb, ro + i * 3 + 2, none⟩ = some (.int .i64 bd) := hcb2.out w7 hb7
        have hsp2 : Hid (Calls Try.prog 41 #[.slice dva dn dvc, .int .i64 (i : Int), .int .i64 win, .int .i64 now] w7.drew fun e w' => e = .returned (.int .i64 (S : Int)) ∧ Below w7.drew.heap.size w7.drew w') := Lib.hid (hspent.out w7.drew (hD7.below (drewB (Below.refl _ _) 1)) hsz7)
        have hc7 := hcb2.out w7 hb7
        replace hL7 := Lib.hid hL7
        replace hb7 := Lib.hid hb7
        replace hD7 := Lib.hid hD7
        clear hso hDk hk7 hb hspent hcq
        go_wp2_with fail
        go_region_held3 (fun w' => w'.cell? ⟨rb, ro + i * 3 + 2, none⟩ = some (.int .i64 bd)) (go_keep) (first
          | (go_at_call 41; (with_reducible refine hsp2.out.mono ?_); rintro e w8 ⟨rfl, hb8⟩; have c8 := keepC hb8 hc7d))
        have hb78 : Below w7.heap.size w7 w8 := (drewB (Below.refl _ _) 1 : Below w7.heap.size w7 w7.drew).trans hb8
        have hL8 := Lib.hid (hL7.out.below hb78)
        have hD8 := Lib.hid (hD7.out.below hb78)
        have hb9 := Lib.hid (hb7.out.trans (hb78.mono (by omega)))
        have hsz8 : B + 1 ≤ w8.heap.size := Nat.le_trans hsz6 hb9.out.size
        clear c8 hc7 hc7d hb8 hb78 hsp2 hL7 hD7 hb7
        rw [← hdn.out] at hD8 hdl ⊢
        go_wp2_with (with_reducible refine zAppend _ _ _ rfl ?_)
        refine Lib.hid ?_
        refine wpList_append_lies _ rfl _ _ 78 rfl (B + 1) 82 ik _ 2 16 Try.underlying78 hik hk0 hk1 hk2 rfl (by omega) _ _ _ rfl (hD8.out.alloc _) _ 1 1 (drow (now, i)) rfl rfl (World.news_of_block (heap_alloc_new _ _)) (by simp [drow, Value.oneCell']) (by omega) (by unfold maxLen; omega) (by omega) (by simp; omega) (w8.heap.size + 1) (by simp) ?_
        intro ge cap2 w9 hown9 hgrow9 hat9 hlt9
        have hk89 : Kept (fun b => B + 1 ≤ b) w8 w9 := ((Kept.of_below (own := fun b => B + 1 ≤ b) (allocB w8 _)).grown hgrow9 (fun q hq => .inl (ownFar hD8.out q hq)))
        have hb89 : Below (B + 1) w8 w9 := hk89.below hsz8 (fun _ h => h)
        have hL9 : Led w9 B B p n r win (now % win) (more sp i) := by
          have hl := hL8.out
          exact ⟨hl.pol.below (Nat.le_succ B) hb89, hl.new, hl.obj.below hb89 (by omega), hl.wins, hl.ticks, hl.spent⟩
        have hD9 : Deeds w9 (B + 1) (.slice (some ⟨ge, 0, none⟩) (ds.length + 1) cap2) (ds ++ [(now, i)]) := by
          unfold Deeds
          rw [List.map_append, List.flatten_append, List.map_cons, List.map_nil, List.flatten_cons, List.flatten_nil, List.append_nil, List.length_append, List.length_singleton]
          exact hown9
        have hb9w : Below B w6 w9 := hb9.out.trans (hb89.mono (Nat.le_succ B))
        have hsz9 : B + 1 ≤ w9.heap.size := Nat.le_trans hsz8 hk89.size
        have hlf3 := Lib.hid (hlf2.out w9 _ hL9 hb9w hD9 hsz9)
        have hend : Hid (∀ wx, Below w9.heap.size w9 wx → Below B w6 wx ∧ Led wx B B p n r win (now % win) (more sp i) ∧ Deeds wx (B + 1) (.slice (some ⟨ge, 0, none⟩) (ds.length + 1) cap2) (ds ++ [(now, i)])) := Lib.hid (fun wx hx => ⟨hb9w.trans (hx.mono (by omega)), hL9.below hx, hD9.below hx⟩)
        rw [hdn.out] at hlf3 hend hdl ⊢
        clear hown9 hgrow9 hat9 hk89 hb89 hL9 hD9 hb9w hL8 hD8 hb9 hlf2
        go_wp2_with fail
        refine hlf3.out.mono ?_
        rintro e w10 ⟨rfl, hb10⟩
        obtain ⟨g1, g2, g3⟩ := hend.out w10 hb10
        replace g1 := Lib.hid g1
        replace g2 := Lib.hid g2
        replace g3 := Lib.hid g3
        clear hlf3 hend hb10
        go_wp2_with fail
        go_roundg (gk - 1)
        case measure => omega
        case rel => exact ⟨k + 1, now, _, ds ++ [(now, i)], by omega, by omega, by go_num, rfl, by omega, by simp; omega, g1, g2, g3, hI2⟩
    · obtain rfl : k = qn := by omega
      have hlf := Lib.hid (lefts_any B B p n r win (now % win) sp v cp (B + 1) u14 ds now wr hL.out (hRc.out wr hb.out).1 hD.out hszr (by omega) (by omega) (fun d hd => by have := hI.out.past d hd; omega) hI.out.same)
      clear hL hD hI
      go_wp2_with fail
      refine hlf.out.mono ?_
      rintro e w7 ⟨rfl, hb7⟩
      have hb8 := (hb.out.trans (hb7.mono (by omega)))
      replace hb8 := hwB.out _ hb8
      clear hlf hb hb7 hwB hRc
      go_wp2_with fail
      refine (two_any _).mono ?_
      rintro e w9 ⟨rfl, hb9⟩
      have hb10 := hb8.trans (hb9.mono hb8.size)
      clear hb8 hb9
      go_wp2_with fail
      go_ret
      exact ⟨rfl, hb10⟩
end

theorem own : ownKnob Try.prog.godebug = none := by kernel_rfl
theorem laidOut : laidOutB Try.prog = true := by kernel_rfl

set_option maxRecDepth 100000 in
theorem lifted (os : Os) (started : os.Started) (H : Type) (enc : TypeId × Value → H) :
    ReturnsInHanded {} Try.checked os 8 .any (Rows.policySpendsSpec.pre6 enc Try.prog Try.f8 Rows.policySpendsRow.domain false) (Rows.policySpendsSpec.post enc Try.prog Try.f8 false true false false) := by
  refine returnsInHanded_of_change (C := Try.checked) own started (by kernel_rfl) Try.func8
    (ChangeSpec.witness6 (enc := enc) (C := Try.checked) false ⟨#[], #[.slice none 0 0, .slice none 0 0, .slice none 0 0], []⟩ 8 (by kernel_rfl) (by kernel_rfl) (by kernel_rfl) (by kernel_rfl)) ?_
  intro W base args ds gs before hval0 hW hcnd _
  have hval : ∀ (j : Nat) t v, Try.f8.params[j]? = some t → args[j]? = some v → Value.okWide Try.prog W .any base t v := hval0
  have hW' := hW
  obtain ⟨p, q, hA0, hV, rfl, hfz, hnd⟩ := hW
  have hA : DataW.TrodAll enc Try.prog W 0 (fun _ => true) true Try.f8.params.toList args.toList ds p := hA0
  rw [Try.params8] at hA hval
  obtain ⟨v0, vs0, d0, ds0, p0, q0, hargs, rfl, rfl, h0, r0⟩ := trodAll_cons hA
  obtain ⟨v1, vs1, d1, ds1, p1, q1, rfl, rfl, rfl, h1, r1⟩ := trodAll_cons r0
  obtain ⟨v2, vs2, d2, ds2, p2, q2, rfl, rfl, rfl, h2, r2⟩ := trodAll_cons r1
  obtain ⟨rfl, rfl, rfl⟩ := trodAll_nil r2
  obtain rfl : args = #[v0, v1, v2] := by cases args; simp_all
  obtain ⟨rfl, rfl⟩ := trodVars_none hV
  obtain ⟨a0, len0, cap0, rfl⟩ := okWide_slice Try.underlying53 (hval 0 53 v0 rfl rfl)
  have k0 := h0
  have lt0 : ∀ x ∈ p0, x.block < W.heap.size := by obtain ⟨m, hm⟩ := k0; exact DataW.trod_lt m _ _ _ hm
  obtain ⟨A0, L0, C0, B0, w0⟩ := L.open_grid Try.underlying53 Try.underlying87 Try.underlying4 (by kernel_rfl) (by kernel_rfl) h0
  obtain ⟨a1, len1, cap1, rfl⟩ := okWide_slice Try.underlying54 (hval 1 54 v1 rfl rfl)
  have k1 := h1
  have lt1 : ∀ x ∈ p1, x.block < W.heap.size := by obtain ⟨m, hm⟩ := k1; exact DataW.trod_lt m _ _ _ hm
  obtain ⟨z1, w1⟩ := Q.open_rules h1
  obtain ⟨a2, len2, cap2, rfl⟩ := okWide_slice Try.underlying74 (hval 2 74 v2 rfl rfl)
  have k2 := h2
  have lt2 : ∀ x ∈ p2, x.block < W.heap.size := by obtain ⟨m, hm⟩ := k2; exact DataW.trod_lt m _ _ _ hm
  obtain ⟨z2, w2⟩ := I.open_nums h2
  clear hA0 hval0
  refine (walk a0 len0 cap0 A0 L0 C0 B0 a1 len1 cap1 z1 a2 len2 cap2 z2 W w0 w1 w2).mono fun e W' ⟨he, bel⟩ => ?_
  subst he
  exact ⟨_, rfl, _, _, _, [], _, [], hW', trodAll_mk1 (shut_bool Try.underlying4 _), (trodAll_cons_mk (Below.trod laidOut (by kernel_rfl) (of_decide_eq_true (by kernel_rfl)) k0 bel lt0) (trodAll_cons_mk (Below.trod laidOut (by kernel_rfl) (of_decide_eq_true (by kernel_rfl)) k1 bel lt1) (trodAll_cons_mk (Below.trod laidOut (by kernel_rfl) (of_decide_eq_true (by kernel_rfl)) k2 bel lt2) trodAll_mk0))), rfl, bel.frame _, fun h => by cases h⟩

theorem over : Rows.policySpendsRow.holds Try.pinned (OpenSpec.ofChange Rows.policySpendsSpec) :=
  OpenClaim.holds_of_wide 8 Try.f8 rfl rfl rfl rfl rfl rfl rfl ⟨rfl, rfl, rfl, rfl, rfl⟩ rfl rfl rfl rfl rfl (by kernel_rfl) Try.func8 (by kernel_rfl)
    (of_decide_eq_true (by kernel_rfl)) (by unfold Func.isWrapper; first | (rw [if_pos (by decide +kernel)]; kernel_rfl) | (rw [if_neg (by decide +kernel)]; exact ⟨rfl, rfl⟩))
    (fun os started H enc _ => lifted os started H enc)

/-- The statement. -/
theorem proved : Rows.PolicySpendsSaid := over
#print axioms proved

end Go.Proofs.Ytdagbepjhbmlfaa.policySpends
