/- For every table, every row of rules and every two ints the law PolicyNews returns true: which rules are a policy, and why others are none. No condition. -/
import Derived.Test.YtdagbepjhbmlfaaRows
import Derived.Test.YtdagbepjhbmlfaaPolTwo
import Derived.Test.YtdagbepjhbmlfaaPolFind
import Derived.Test.YtdagbepjhbmlfaaRulesIn
import Derived.Test.YtdagbepjhbmlfaaGrid
import Derived.Test.YtdagbepjhbmlfaaOpen
import Derived.ChangeOld
namespace Go.Proofs.Ytdagbepjhbmlfaa.policyNews
open Go.ChangeShapes Go.WideShapes Go.ChangeAt Go.RowKit
open Go.Proofs.Ytdagbepjhbmlfaa.Q
open Go.Proofs.Ytdagbepjhbmlfaa.Z
open Go.Proofs.Ytdagbepjhbmlfaa.M
open Go.Proofs.Ytdagbepjhbmlfaa.L (Tab Sq Lat wrongN sqB)
open Go.Proofs.Ytdagbepjhbmlfaa.D (Whole)
set_option linter.unusedVariables false

theorem wrong_sq {len : Nat} {L : Nat → Nat} {B : Nat → Nat → Bool} (h : wrongN len L B = 0) : sqB len L = true := by
  unfold wrongN at h
  cases hs : sqB len L
  · rw [hs] at h; simp at h
  · rfl
def Fin (w : World) (e : Ending) (w' : World) : Prop := e = .returned (.bool true) ∧ Below w.heap.size w w'
section
variable (a : Option Addr) (len cap : Nat) (A : Nat → Option Addr) (L C : Nat → Nat) (F : Nat → Nat → Bool) (v : Option Addr) (n cp : Nat) (r : Nat → Rule1) (x0 x1 : Int) (w : World)
set_option maxHeartbeats 4000000 in
set_option maxRecDepth 100000 in
theorem walk (hT : Tab w a len A L C F) (hR : Rls w v n cp r) (wx0 : (Lit.int .i64 x0).wf = true) (wx1 : (Lit.int .i64 x1).wf = true) :
    Calls Try.prog 7 #[.slice a len cap, .slice v n cp, .agg #[.int .i64 x0, .int .i64 x1]] w (Fin w) := by
  obtain ⟨W, hW⟩ : ∃ W, Hid (W = w.alloc (.cells #[.int .i64 x0, .int .i64 x1] 55)) := ⟨_, Lib.hid rfl⟩
  have hb0 : Below w.heap.size w W := by rw [hW.out]; exact allocB w _
  have u0 : W.cell? ⟨w.heap.size, 0, none⟩ = some (.int .i64 x0) := by rw [hW.out]; exact (Whole.new w 55 [.int .i64 x0, .int .i64 x1]).cell 0
  have u1 : W.cell? ⟨w.heap.size, 1, none⟩ = some (.int .i64 x1) := by rw [hW.out]; exact (Whole.new w 55 [.int .i64 x0, .int .i64 x1]).cell 1
  have hT1 := hT.below hb0
  have hR1 := hR.below hb0
  have hmx := hR.max
  have hle := hR.le
  have hmt := hT.most
  unfold maxLen at hmx hmt
  clear hT hR
  replace wx0 := Lib.hid wx0
  replace wx1 := Lib.hid wx1
  obtain ⟨q, hq⟩ : ∃ q, Hid (w.heap.size = q) := ⟨_, Lib.hid rfl⟩
  rw [hq.out] at u0 u1
  go_enter Try.func7, Try.ntmps7
  go_wp2_with fail
  rw [← hW.out, hq.out]
  clear hW
  refine (large05_any a len cap A L C F v n cp r W hT1 hR1).mono ?_
  rintro e w1 ⟨lb, rfl, rfl, hlb⟩
  cases lb
  rotate_left
  · clear hT1 hR1 hlb
    go_wp2_with fail
    refine (two_any _).mono ?_
    rintro e w2 ⟨rfl, hb2⟩
    have hb3 := hb0.trans (hb2.mono hb0.size)
    clear hb2 hb0
    go_wp2_with fail
    go_ret
    exact ⟨rfl, hb3⟩
  have hn60 := hlb rfl
  clear hlb
  go_wp2_with fail
  refine (Go.Proofs.Ytdagbepjhbmlfaa.L.wrong_any a len cap A L C F W hT1).mono ?_
  rintro e w2 ⟨rfl, hb2⟩
  replace hb2 := Lib.hid hb2
  by_cases hw0 : wrongN len L F = 0
  rotate_left
  · have hne : ((wrongN len L F : Int) != 0) = true := by rw [bne_iff_ne]; omega
    obtain ⟨x, hx⟩ : ∃ x, Hid (wrongN len L F = x) := ⟨_, Lib.hid rfl⟩
    rw [hx.out] at hne ⊢
    have hb3 := hb0.trans (hb2.out.mono hb0.size)
    clear hT1 hR1 hw0 hx hb0 hb2
    go_wp2_with fail
    refine (two_any _).mono ?_
    rintro e w3 ⟨rfl, hb4⟩
    have hb5 := hb3.trans (hb4.mono hb3.size)
    clear hb3 hb4
    go_wp2_with fail
    go_ret
    exact ⟨rfl, hb5⟩
  rw [hw0]
  obtain ⟨bk, off, rfl, hl0, _⟩ := hT1.square (wrong_sq hw0)
  have hT2 := Lib.hid (hT1.below hb2.out)
  have hR2 := Lib.hid (hR1.below hb2.out)
  replace u0 := keepC hb2.out u0
  replace u1 := keepC hb2.out u1
  replace hb2 := Lib.hid (hb0.trans (hb2.out.mono hb0.size))
  clear hb0 hT1 hR1
  go_wp2_with fail
  refine (Go.Proofs.Ytdagbepjhbmlfaa.L.new_any (some ⟨bk, off, none⟩) len cap A L C F w2 hT2.out).mono ?_
  rintro e w3 (⟨hne, _⟩ | ⟨_, lp, rfl, hF, hb3⟩)
  · exact absurd hw0 hne
  have hLat := hF.lat
  clear hF
  replace hT2 := Lib.hid (hT2.out.below hb3)
  replace hR2 := Lib.hid (hR2.out.below hb3)
  replace u0 := keepC hb3 u0
  replace u1 := keepC hb3 u1
  replace hb2 := Lib.hid (hb2.out.trans (hb3.mono hb2.out.size))
  clear hb3
  have hN := Lib.hid (polnew_any lp len F v n cp r w3 hLat hR2.out)
  clear hLat
  go_wp2_with fail
  refine hN.out.mono ?_
  rintro e w4 hnew
  clear hN
  have hb4 : Below w3.heap.size w3 w4 := by
    rcases hnew with ⟨_, _, h⟩ | ⟨_, _, _, _, h⟩ <;> exact h
  replace hT2 := Lib.hid (hT2.out.below hb4)
  replace hR2 := Lib.hid (hR2.out.below hb4)
  replace u0 := keepC hb4 u0
  replace u1 := keepC hb4 u1
  replace hb2 := Lib.hid (hb2.out.trans (hb4.mono hb2.out.size))
  clear hb4
  obtain ⟨bk', off', e', _, hSq⟩ := hT2.out.square (wrong_sq hw0)
  cases e'
  have hWr := Lib.hid (wrong05_any bk off len cap F v n cp r w4 hSq hR2.out)
  clear hSq
  obtain ⟨y, hy⟩ : ∃ y, Hid (polWrong len F r n = y) := ⟨_, Lib.hid rfl⟩
  rw [hy.out] at hWr
  unfold NewPol at hnew
  rw [hy.out] at hnew
  clear hy
  rcases hnew with ⟨hy0, rfl, _⟩ | ⟨hy0, p, rfl, hP, _⟩
  · have hyn : (y != 0) = true := by rw [bne_iff_ne]; exact hy0
    have hyy : (y == y) = true := beq_self_eq_true _
    clear hT2 hR2 u0 u1 hw0 hy0
    go_wp2_with fail
    refine hWr.out.mono ?_
    rintro e w5 ⟨rfl, hb5⟩
    have hb6 := hb2.out.trans (hb5.mono hb2.out.size)
    clear hWr hb2 hb5
    go_wp2_with fail
    refine (two_any _).mono ?_
    rintro e w6 ⟨rfl, hb7⟩
    have hb8 := hb6.trans (hb7.mono hb6.size)
    clear hb6 hb7
    go_wp2_with fail
    go_ret
    exact ⟨rfl, hb8⟩
  · subst hy0
    obtain ⟨Bk, hBk⟩ : ∃ B, Hid (w4.heap.size = B) := ⟨_, Lib.hid rfl⟩
    rw [hBk.out] at hP
    clear hBk hw0 hT2
    go_wp2_with fail
    refine hWr.out.mono ?_
    rintro e w5 ⟨rfl, hb5⟩
    replace hP := hP.below hb5
    replace hR2 := Lib.hid (hR2.out.below hb5)
    replace u0 := keepC hb5 u0
    replace u1 := keepC hb5 u1
    replace hb2 := Lib.hid (hb2.out.trans (hb5.mono hb2.out.size))
    clear hb5 hWr
    go_wp2_with fail
    refine (find_any Bk p n r x0 x1 w5 hP wx0.out wx1.out).mono ?_
    have hf05 := Lib.hid (find05_any v n cp r x0 x1 w5 hR2.out)
    have hPol := hP.pol
    clear hP wx0 wx1
    rintro e w6 (⟨i, hfi, hi, rfl, rfl⟩ | ⟨hfi, rfl, rfl⟩)
    go_wp2_with fail
    refine hf05.out.mono ?_
    rintro e w7 ⟨x, rfl, hx, hb7⟩
    obtain rfl := find_uniq hx hfi
    have q1 : ((i : Int) != (i : Int)) = false := by simp
    have q2 : (0 : Int) ≤ i := by omega
    clear hf05 hx hfi hi
    rotate_left
    go_wp2_with fail
    refine hf05.out.mono ?_
    rintro e w7 ⟨x, rfl, hx, hb7⟩
    obtain rfl := find_uniq hx hfi
    clear hf05 hx hfi
    rotate_left
    all_goals
      have hP2 := Lib.hid (hPol.below hPol.old hb7)
      replace hR2 := Lib.hid (hR2.out.below hb7)
      replace u0 := keepC hb7 u0
      replace hb2 := Lib.hid (hb2.out.trans (hb7.mono hb2.out.size))
      clear hPol hb7 u1
      go_wp2_with fail
      go_loopg [103] n (fun g i wr => ∃ k : Nat, k ≤ n ∧ n ≤ k + g ∧ i = .int .i64 k ∧ Hid (Below w7.heap.size w7 wr))
      case atStart => exact ⟨0, by omega, by omega, rfl, Lib.hid (Below.refl _ _)⟩
      case round =>
        obtain ⟨k, hk, hg, rfl, hb⟩ := hrel
        by_cases hlt : k < n
        · obtain ⟨b, o, rfl, c0, c1, c2⟩ := (hR2.out.below hb.out).cell k hlt
          obtain ⟨W2, hW2⟩ : ∃ W, Hid (W = wr.alloc (.cells #[.int .i64 (r k).from_, .int .i64 (r k).to, .int .i64 (r k).bud] 69)) := ⟨_, Lib.hid rfl⟩
          have hbw : Below wr.heap.size wr W2 := by rw [hW2.out]; exact allocB wr _
          have hall := fun i => (Whole.new wr 69 [.int .i64 (r k).from_, .int .i64 (r k).to, .int .i64 (r k).bud]).cell i
          have v0 : W2.cell? ⟨wr.heap.size, 0, none⟩ = some (.int .i64 (r k).from_) := by rw [hW2.out]; exact hall 0
          have v1 : W2.cell? ⟨wr.heap.size, 1, none⟩ = some (.int .i64 (r k).to) := by rw [hW2.out]; exact hall 1
          have v2 : W2.cell? ⟨wr.heap.size, 2, none⟩ = some (.int .i64 (r k).bud) := by rw [hW2.out]; exact hall 2
          clear hall
          have hb3 := hb.out.trans (hbw.mono hb.out.size)
          have hrl := Lib.hid (rule_in Bk p n r W2 k (hP2.out.below hP2.out.old hb3) hlt)
          clear hb hbw
          obtain ⟨vb, hvb⟩ : ∃ vb, Hid (wr.heap.size = vb) := ⟨_, Lib.hid rfl⟩
          rw [hvb.out] at v0 v1 v2
          obtain ⟨f, hf⟩ : ∃ f, Hid ((r k).from_ = f) := ⟨_, Lib.hid rfl⟩
          obtain ⟨t, ht⟩ : ∃ t, Hid ((r k).to = t) := ⟨_, Lib.hid rfl⟩
          obtain ⟨bd, hbd⟩ : ∃ bd, Hid ((r k).bud = bd) := ⟨_, Lib.hid rfl⟩
          rw [hf.out] at c0 v0
          rw [ht.out] at c1 v1
          rw [hbd.out] at c2 v2
          rw [hf.out, ht.out, hbd.out] at hW2 hrl
          clear hf ht hbd
          go_wp2_with fail
          rw [← hW2.out]
          refine hrl.out.mono ?_
          rintro e w8 ⟨rfl, hb8⟩
          replace v0 := keepC hb8 v0
          replace v1 := keepC hb8 v1
          replace v2 := keepC hb8 v2
          obtain ⟨W9, hW9⟩ : ∃ W, Hid (W = w8.alloc (.cells #[.int .i64 f, .int .i64 t, .int .i64 bd] 69)) := ⟨_, Lib.hid rfl⟩
          have hb9 : Below w8.heap.size w8 W9 := by rw [hW9.out]; exact allocB w8 _
          have hall := fun i => (Whole.new w8 69 [.int .i64 f, .int .i64 t, .int .i64 bd]).cell i
          have s0 : W9.cell? ⟨w8.heap.size, 0, none⟩ = some (.int .i64 f) := by rw [hW9.out]; exact hall 0
          have s1 : W9.cell? ⟨w8.heap.size, 1, none⟩ = some (.int .i64 t) := by rw [hW9.out]; exact hall 1
          have s2 : W9.cell? ⟨w8.heap.size, 2, none⟩ = some (.int .i64 bd) := by rw [hW9.out]; exact hall 2
          clear hall
          replace v0 := keepC hb9 v0
          replace v1 := keepC hb9 v1
          replace v2 := keepC hb9 v2
          have hb4 := hb3.trans (hb8.mono hb3.size)
          replace hb4 := Lib.hid (hb4.trans (hb9.mono hb4.size))
          have e1 : (f == f) = true := beq_self_eq_true _
          have e2 : (t == t) = true := beq_self_eq_true _
          have e3 : (bd == bd) = true := beq_self_eq_true _
          clear hrl hb8 hb9 hb3 hW2 c0 c1 c2
          rw [hvb.out]
          clear hvb
          go_wp2_with (with_reducible refine zLoad 69 _ rfl ?_)
          rw [← hW9.out]
          clear hW9
          refine Lib.hid ?_
          go_wp2_with fail
          go_roundg (gk - 1)
          case measure => omega
          case rel => exact ⟨k + 1, by omega, by omega, by go_num, hb4⟩
        · obtain rfl : k = n := by omega
          replace u0 := keepC hb.out u0
          have hP3 := hP2.out.below hP2.out.old hb.out
          have hb3 := hb2.out.trans (hb.out.mono hb2.out.size)
          clear hP2 hb hb2
          by_cases hin : 0 ≤ x0 ∧ x0 < k
          · obtain ⟨j, rfl⟩ := Int.eq_ofNat_of_zero_le hin.1
            have hj : j < k := by omega
            have j1 : decide ((j : Int) < 0) = false := decide_eq_false (by omega)
            have j2 : decide ((k : Int) ≤ j) = false := decide_eq_false (by omega)
            clear hin
            go_wp2_with fail
            refine (rule_in Bk p k r wr j hP3 hj).mono ?_
            rintro e w8 ⟨rfl, hb8⟩
            have hP4 := hP3.below hP3.old hb8
            obtain ⟨W9, hW9⟩ : ∃ W, Hid (W = w8.alloc (.cells #[.int .i64 (r j).from_, .int .i64 (r j).to, .int .i64 (r j).bud] 69)) := ⟨_, Lib.hid rfl⟩
            have hb9 : Below w8.heap.size w8 W9 := by rw [hW9.out]; exact allocB w8 _
            replace u0 := keepC hb9 (keepC hb8 u0)
            replace hP4 := Lib.hid (hP4.below hP4.old hb9)
            have hb4 := hb3.trans (hb8.mono hb3.size)
            replace hb4 := Lib.hid (hb4.trans (hb9.mono hb4.size))
            clear hP3 hb8 hb9 hb3
            obtain ⟨f, hf⟩ : ∃ f, Hid ((r j).from_ = f) := ⟨_, Lib.hid rfl⟩
            obtain ⟨t, ht⟩ : ∃ t, Hid ((r j).to = t) := ⟨_, Lib.hid rfl⟩
            obtain ⟨bd, hbd⟩ : ∃ bd, Hid ((r j).bud = bd) := ⟨_, Lib.hid rfl⟩
            rw [hf.out, ht.out, hbd.out] at hW9 ⊢
            go_wp2_with (with_reducible refine zLoad 3 _ rfl ?_)
            rw [← hW9.out]
            clear hW9 hf ht hbd
            refine Lib.hid ?_
            go_wp2_with fail
            refine (psize_any Bk p k r W9 hP4.out).mono ?_
            rintro e w10 ⟨rfl, rfl⟩
            go_wp2_with fail
            refine (two_any _).mono ?_
            rintro e w11 ⟨rfl, hb11⟩
            have hb12 := hb4.out.trans (hb11.mono hb4.out.size)
            clear hP4 hb4 hb11
            go_wp2_with fail
            go_ret
            exact ⟨rfl, hb12⟩
          · have hsplit : x0 < 0 ∨ (0 ≤ x0 ∧ (k : Int) ≤ x0) := by omega
            clear hin
            rcases hsplit with j1 | ⟨j0, j1⟩
            · go_wp2_with fail
              refine (rule_out Bk p k r wr x0 hP3 (.inl j1)).mono ?_
              rintro e w8 ⟨rfl, hb8⟩
              have hP4 := hP3.below hP3.old hb8
              obtain ⟨W9, hW9⟩ : ∃ W, Hid (W = w8.alloc (.cells #[.int .i64 0, .int .i64 0, .int .i64 0] 69)) := ⟨_, Lib.hid rfl⟩
              have hb9 : Below w8.heap.size w8 W9 := by rw [hW9.out]; exact allocB w8 _
              have hall := fun i => (Whole.new w8 69 [.int .i64 0, .int .i64 0, .int .i64 0]).cell i
              have s0 : W9.cell? ⟨w8.heap.size, 0, none⟩ = some (.int .i64 0) := by rw [hW9.out]; exact hall 0
              have s1 : W9.cell? ⟨w8.heap.size, 1, none⟩ = some (.int .i64 0) := by rw [hW9.out]; exact hall 1
              have s2 : W9.cell? ⟨w8.heap.size, 2, none⟩ = some (.int .i64 0) := by rw [hW9.out]; exact hall 2
              replace u0 := keepC hb9 (keepC hb8 u0)
              replace hP4 := Lib.hid (hP4.below hP4.old hb9)
              have hb4 := hb3.trans (hb8.mono hb3.size)
              replace hb4 := Lib.hid (hb4.trans (hb9.mono hb4.size))
              clear hP3 hb8 hb9 hb3 hall
              go_wp2_with (with_reducible refine zLoad 3 _ rfl ?_)
              rw [← hW9.out]
              clear hW9
              refine Lib.hid ?_
              go_wp2_with fail
              refine (psize_any Bk p k r W9 hP4.out).mono ?_
              rintro e w10 ⟨rfl, rfl⟩
              go_wp2_with fail
              refine (two_any _).mono ?_
              rintro e w11 ⟨rfl, hb11⟩
              have hb12 := hb4.out.trans (hb11.mono hb4.out.size)
              clear hP4 hb4 hb11
              go_wp2_with fail
              go_ret
              exact ⟨rfl, hb12⟩
            · have j2 : decide (x0 < 0) = false := decide_eq_false (by omega)
              go_wp2_with fail
              refine (rule_out Bk p k r wr x0 hP3 (.inr j1)).mono ?_
              rintro e w8 ⟨rfl, hb8⟩
              have hP4 := hP3.below hP3.old hb8
              obtain ⟨W9, hW9⟩ : ∃ W, Hid (W = w8.alloc (.cells #[.int .i64 0, .int .i64 0, .int .i64 0] 69)) := ⟨_, Lib.hid rfl⟩
              have hb9 : Below w8.heap.size w8 W9 := by rw [hW9.out]; exact allocB w8 _
              have hall := fun i => (Whole.new w8 69 [.int .i64 0, .int .i64 0, .int .i64 0]).cell i
              have s0 : W9.cell? ⟨w8.heap.size, 0, none⟩ = some (.int .i64 0) := by rw [hW9.out]; exact hall 0
              have s1 : W9.cell? ⟨w8.heap.size, 1, none⟩ = some (.int .i64 0) := by rw [hW9.out]; exact hall 1
              have s2 : W9.cell? ⟨w8.heap.size, 2, none⟩ = some (.int .i64 0) := by rw [hW9.out]; exact hall 2
              replace u0 := keepC hb9 (keepC hb8 u0)
              replace hP4 := Lib.hid (hP4.below hP4.old hb9)
              have hb4 := hb3.trans (hb8.mono hb3.size)
              replace hb4 := Lib.hid (hb4.trans (hb9.mono hb4.size))
              clear hP3 hb8 hb9 hb3 hall
              go_wp2_with (with_reducible refine zLoad 3 _ rfl ?_)
              rw [← hW9.out]
              clear hW9
              refine Lib.hid ?_
              go_wp2_with fail
              refine (psize_any Bk p k r W9 hP4.out).mono ?_
              rintro e w10 ⟨rfl, rfl⟩
              go_wp2_with fail
              refine (two_any _).mono ?_
              rintro e w11 ⟨rfl, hb11⟩
              have hb12 := hb4.out.trans (hb11.mono hb4.out.size)
              clear hP4 hb4 hb11
              go_wp2_with fail
              go_ret
              exact ⟨rfl, hb12⟩
end

theorem own : ownKnob Try.prog.godebug = none := by kernel_rfl
theorem laidOut : laidOutB Try.prog = true := by kernel_rfl

set_option maxRecDepth 100000 in
theorem lifted (os : Os) (started : os.Started) (H : Type) (enc : TypeId × Value → H) :
    ReturnsInHanded {} Try.checked os 7 .any (Rows.policyNewsSpec.pre6 enc Try.prog Try.f7 Rows.policyNewsRow.domain false) (Rows.policyNewsSpec.post enc Try.prog Try.f7 false true false false) := by
  refine returnsInHanded_of_change (C := Try.checked) own started (by kernel_rfl) Try.func7
    (ChangeSpec.witness6 (enc := enc) (C := Try.checked) false ⟨#[], #[.slice none 0 0, .slice none 0 0, .agg #[.int .i64 0, .int .i64 0]], []⟩ 8 (by kernel_rfl) (by kernel_rfl) (by kernel_rfl) (by kernel_rfl)) ?_
  intro W base args ds gs before hval0 hW hcnd _
  have hval : ∀ (j : Nat) t v, Try.f7.params[j]? = some t → args[j]? = some v → Value.okWide Try.prog W .any base t v := hval0
  have hW' := hW
  obtain ⟨p, q, hA0, hV, rfl, hfz, hnd⟩ := hW
  have hA : DataW.TrodAll enc Try.prog W 0 (fun _ => true) true Try.f7.params.toList args.toList ds p := hA0
  rw [Try.params7] at hA hval
  obtain ⟨v0, vs0, d0, ds0, p0, q0, hargs, rfl, rfl, h0, r0⟩ := trodAll_cons hA
  obtain ⟨v1, vs1, d1, ds1, p1, q1, rfl, rfl, rfl, h1, r1⟩ := trodAll_cons r0
  obtain ⟨v2, vs2, d2, ds2, p2, q2, rfl, rfl, rfl, h2, r2⟩ := trodAll_cons r1
  obtain ⟨rfl, rfl, rfl⟩ := trodAll_nil r2
  obtain rfl : args = #[v0, v1, v2] := by cases args; simp_all
  obtain ⟨rfl, rfl⟩ := trodVars_none hV
  obtain ⟨a0, len0, cap0, rfl⟩ := okWide_slice Try.underlying53 (hval 0 53 v0 rfl rfl)
  have k0 := h0
  have lt0 : ∀ x ∈ p0, x.block < W.heap.size := by obtain ⟨m, hm⟩ := k0; exact DataW.trod_lt m _ _ _ hm
  obtain ⟨A0, L0, C0, B0, w0⟩ := L.open_grid Try.underlying53 Try.underlying87 Try.underlying4 (by kernel_rfl) (by kernel_rfl) h0
  obtain ⟨a1, len1, cap1, rfl⟩ := okWide_slice Try.underlying54 (hval 1 54 v1 rfl rfl)
  have k1 := h1
  have lt1 : ∀ x ∈ p1, x.block < W.heap.size := by obtain ⟨m, hm⟩ := k1; exact DataW.trod_lt m _ _ _ hm
  obtain ⟨z1, w1⟩ := Q.open_rules h1
  have k2 := h2
  have lt2 : ∀ x ∈ p2, x.block < W.heap.size := by obtain ⟨m, hm⟩ := k2; exact DataW.trod_lt m _ _ _ hm
  obtain ⟨x2_0, x2_1, rfl, w2_0, w2_1⟩ := open_arr2 Try.underlying55 Try.underlying3 (by kernel_rfl) (by kernel_rfl) (hval 2 55 v2 rfl rfl) h2
  clear hA0 hval0
  refine (walk a0 len0 cap0 A0 L0 C0 B0 a1 len1 cap1 z1 x2_0 x2_1 W w0 w1 w2_0 w2_1).mono fun e W' ⟨he, bel⟩ => ?_
  subst he
  exact ⟨_, rfl, _, _, _, [], _, [], hW', trodAll_mk1 (shut_bool Try.underlying4 _), (trodAll_cons_mk (Below.trod laidOut (by kernel_rfl) (of_decide_eq_true (by kernel_rfl)) k0 bel lt0) (trodAll_cons_mk (Below.trod laidOut (by kernel_rfl) (of_decide_eq_true (by kernel_rfl)) k1 bel lt1) (trodAll_cons_mk (Below.trod laidOut (by kernel_rfl) (of_decide_eq_true (by kernel_rfl)) k2 bel lt2) trodAll_mk0))), rfl, bel.frame _, fun h => by cases h⟩

theorem over : Rows.policyNewsRow.holds Try.pinned (OpenSpec.ofChange Rows.policyNewsSpec) :=
  OpenClaim.holds_of_wide 7 Try.f7 rfl rfl rfl rfl rfl rfl rfl ⟨rfl, rfl, rfl, rfl, rfl⟩ rfl rfl rfl rfl rfl (by kernel_rfl) Try.func7 (by kernel_rfl)
    (of_decide_eq_true (by kernel_rfl)) (by unfold Func.isWrapper; first | (rw [if_pos (by decide +kernel)]; kernel_rfl) | (rw [if_neg (by decide +kernel)]; exact ⟨rfl, rfl⟩))
    (fun os started H enc _ => lifted os started H enc)

/-- The statement. -/
theorem proved : Rows.PolicyNewsSaid := over
#print axioms proved

end Go.Proofs.Ytdagbepjhbmlfaa.policyNews
