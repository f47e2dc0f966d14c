/- The document's answers for policies: the law's guard, the number of a rule, what is wrong. -/
import Derived.Test.YtdagbepjhbmlfaaProg
import Derived.Test.YtdagbepjhbmlfaaPolNew
import Derived.Test.YtdagbepjhbmlfaaWrong
namespace Go.Proofs.Ytdagbepjhbmlfaa.Q
open Go.RowKit
open Go.Proofs.Ytdagbepjhbmlfaa.Z
open Go.Proofs.Ytdagbepjhbmlfaa.D (Whole Kept)
open Go.Proofs.Ytdagbepjhbmlfaa.L (Lat hasB Tab Sq ret_bool ret_i64)
set_option linter.unusedVariables false

def Large05 (w : World) (n : Nat) (e : Ending) (w' : World) : Prop := ∃ b, e = .returned (.bool b) ∧ w = w' ∧ (b = false → n ≤ 60)
theorem large05_any (a : Option Addr) (len cap : Nat) (A : Nat → Option Addr) (L C : Nat → Nat) (B : Nat → Nat → Bool) (v : Option Addr) (n cp : Nat) (r : Nat → Rule1) (w : World) (h : Tab w a len A L C B) (hR : Rls w v n cp r) :
    Calls Try.prog 28 #[.slice a len cap, .slice v n cp] w (Large05 w n) := by
  have hm := h.most
  have hm2 := hR.max
  have hl2 := hR.le
  unfold maxLen at hm hm2
  clear hR
  by_cases h20 : 20 < len
  · clear h
    go_enter Try.func28, Try.ntmps28
    go_wp2_with fail
    go_ret
    exact ⟨true, rfl, rfl, fun h => by cases h⟩
  have d1 : decide (20 < (len : Int)) = false := decide_eq_false (by omega)
  by_cases h60 : 60 < n
  · have hlen : len ≤ 20 := by omega
    clear h h20
    go_enter Try.func28, Try.ntmps28
    go_wp2_with fail
    go_ret
    exact ⟨true, rfl, rfl, fun h => by cases h⟩
  have hlen : len ≤ 20 := by omega
  have hn60 : n ≤ 60 := by omega
  have d2 : decide (60 < (n : Int)) = false := decide_eq_false (by omega)
  clear h20 h60
  go_enter Try.func28, Try.ntmps28
  go_wp2_with fail
  go_loopg [17] len (fun g i wr => ∃ k : Nat, k ≤ len ∧ len ≤ k + g ∧ i = .int .i64 k ∧ w = wr)
  case atStart => exact ⟨0, by omega, by omega, rfl, rfl⟩
  case round =>
    obtain ⟨k, hk, hg, rfl, rfl⟩ := hrel
    by_cases hlt : k < len
    · obtain ⟨bk, off, rfl, hc, hL⟩ := h.at_ k hlt
      unfold maxLen at hL
      by_cases hr : 20 < L k
      · go_wp2_with fail
        go_ret
        exact ⟨true, rfl, rfl, fun h => by cases h⟩
      · have hr2 : L k ≤ 20 := by omega
        go_wp2_with fail
        go_roundg (gk - 1)
        case measure => omega
        case rel => exact ⟨k + 1, by omega, by omega, by go_num, rfl⟩
    · obtain rfl : k = len := by omega
      go_wp2_with fail
      go_ret
      exact ⟨false, rfl, rfl, fun _ => hn60⟩

/-- Where a rule is found. -/
def FindIs (n : Nat) (r : Nat → Rule1) (f t : Int) (x : Int) : Prop :=
  (∃ i : Nat, i < n ∧ (r i).from_ = f ∧ (r i).to = t ∧ (∀ j, j < i → ¬ ((r j).from_ = f ∧ (r j).to = t)) ∧ x = i) ∨ ((∀ i, i < n → ¬ ((r i).from_ = f ∧ (r i).to = t)) ∧ x = -1)
set_option maxHeartbeats 1000000 in
theorem find05_any (a : Option Addr) (n cap : Nat) (r : Nat → Rule1) (f t : Int) (w : World) (h : Rls w a n cap r) :
    Calls Try.prog 35 #[.slice a n cap, .int .i64 f, .int .i64 t] w fun e w' => ∃ x, e = .returned (.int .i64 x) ∧ FindIs n r f t x ∧ Below w.heap.size w w' := by
  have hm := h.max
  have hl := h.le
  unfold maxLen at hm
  replace h := Lib.hid h
  go_enter Try.func35, Try.ntmps35
  go_wp2_with fail
  go_loopg [11] n (fun g i wr => ∃ k : Nat, k ≤ n ∧ n ≤ k + g ∧ i = .int .i64 k ∧ Hid (Below w.heap.size w wr) ∧ Hid (∀ j, j < k → ¬ ((r j).from_ = f ∧ (r j).to = t)))
  case atStart => exact ⟨0, by omega, by omega, rfl, Lib.hid (Below.refl _ _), Lib.hid (fun j hj => absurd hj (Nat.not_lt_zero j))⟩
  case round =>
    obtain ⟨k, hk, hg, rfl, hb, hno⟩ := hrel
    by_cases hlt : k < n
    · obtain ⟨b, o, rfl, c0, c1, c2⟩ := (h.out.below hb.out).cell k hlt
      obtain ⟨f', hf⟩ : ∃ x, Hid ((r k).from_ = x) := ⟨_, Lib.hid rfl⟩
      obtain ⟨t', ht⟩ : ∃ x, Hid ((r k).to = x) := ⟨_, Lib.hid rfl⟩
      obtain ⟨b', hb'⟩ : ∃ x, Hid ((r k).bud = x) := ⟨_, Lib.hid rfl⟩
      rw [hf.out] at c0
      rw [ht.out] at c1
      rw [hb'.out] at c2
      have hb2 : Hid (Below w.heap.size w (wr.alloc (.cells #[.int .i64 f', .int .i64 t', .int .i64 b'] 69))) := Lib.hid (hb.out.alloc hb.out.size _)
      have hnext : Hid (¬ (f' = f ∧ t' = t) → ∀ j, j < k + 1 → ¬ ((r j).from_ = f ∧ (r j).to = t)) := Lib.hid (fun hne j hj => by
        rcases Nat.lt_or_ge j k with h1 | h1
        · exact hno.out j h1
        · obtain rfl : j = k := by omega
          rw [hf.out, ht.out]; exact hne)
      by_cases hff : f' = f
      · have q1 : (f' == f) = true := by simp [hff]
        by_cases htt : t' = t
        · have q2 : (t' == t) = true := by simp [htt]
          have hfin : Hid (FindIs n r f t (k : Int)) := Lib.hid (.inl ⟨k, hlt, by rw [hf.out]; exact hff, by rw [ht.out]; exact htt, hno.out, rfl⟩)
          clear hff htt hnext hf ht hb' hno hb
          go_wp2_with fail
          go_ret
          exact ⟨k, rfl, hfin.out, hb2.out⟩
        · have q2 : (t' == t) = false := beq_eq_false_iff_ne.2 htt
          have hn2 := Lib.hid (hnext.out (fun h => htt h.2))
          clear hff htt hnext hf ht hb' hno hb
          go_wp2_with fail
          go_roundg (gk - 1)
          case measure => omega
          case rel => exact ⟨k + 1, by omega, by omega, by go_num, hb2, hn2⟩
      · have q1 : (f' == f) = false := beq_eq_false_iff_ne.2 hff
        have hn2 := Lib.hid (hnext.out (fun h => hff h.1))
        clear hff hnext hf ht hb' hno hb
        go_wp2_with fail
        go_roundg (gk - 1)
        case measure => omega
        case rel => exact ⟨k + 1, by omega, by omega, by go_num, hb2, hn2⟩
    · obtain rfl : k = n := by omega
      have hfin : Hid (FindIs k r f t (-1)) := Lib.hid (.inr ⟨hno.out, rfl⟩)
      clear hno
      go_wp2_with fail
      go_ret
      exact ⟨-1, rfl, hfin.out, hb.out⟩
theorem sub_rls {w : World} {a : Option Addr} {n cap : Nat} {r : Nat → Rule1} (h : Rls w a n cap r) {k : Nat} (hk : k ≤ n) (hp : 0 < n) : Rls w a k cap r :=
  ⟨Nat.le_trans hk h.le, h.max, fun e => by have := h.nil e; omega, fun i hi => h.cell i (by omega)⟩
theorem find_same {r : Nat → Rule1} {k : Nat} {x : Int} (h : FindIs k r (r k).from_ (r k).to x) : (0 ≤ x ∧ sameB r k = true) ∨ (x < 0 ∧ sameB r k = false) := by
  rcases h with ⟨i, hi, e1, e2, _, rfl⟩ | ⟨hno, rfl⟩
  · exact .inl ⟨by omega, sameB_true.2 ⟨i, hi, e1, e2⟩⟩
  · exact .inr ⟨by omega, sameB_false.2 hno⟩
set_option maxHeartbeats 4000000 in
set_option maxRecDepth 100000 in
theorem wrong05_any (bk off m cp : Nat) (F : Nat → Nat → Bool) (a : Option Addr) (n cap : Nat) (r : Nat → Rule1) (w : World) (hS : Sq w bk off m F) (hR : Rls w a n cap r) :
    Calls Try.prog 33 #[.slice (some ⟨bk, off, none⟩) m cp, .slice a n cap] w fun e w' => e = .returned (.int .i64 (polWrong m F r n)) ∧ Below w.heap.size w w' := by
  have hm := hR.max
  have hl := hR.le
  have hm6 := hS.small
  unfold maxLen at hm
  by_cases h16 : 16 < n
  · have hfin := Lib.hid (show polWrong m F r n = 2 by simp [polWrong, h16])
    clear hS hR
    go_enter Try.func33, Try.ntmps33
    go_wp2_with fail
    go_ret
    exact ⟨ret_i64 hfin.out.symm, Below.refl _ _⟩
  have h16' : n ≤ 16 := by omega
  have hp : polWrong m F r n = firstBad (ruleF m F r) n := by simp [polWrong, h16]
  have hbad : Hid (∀ k, k < n → (∀ j, j < k → ruleF m F r j = 0) → ruleF m F r k ≠ 0 → polWrong m F r n = ruleF m F r k) := Lib.hid (fun k hk hj he => by rw [hp]; exact firstBad_at hj hk he)
  have hgood : Hid ((∀ j, j < n → ruleF m F r j = 0) → polWrong m F r n = 0) := Lib.hid (fun hj => by rw [hp]; exact firstBad_zero.2 hj)
  replace hS := Lib.hid hS
  replace hR := Lib.hid hR
  clear h16 hp
  go_enter Try.func33, Try.ntmps33
  go_wp2_with fail
  go_loopg [12] n (fun g i wr => ∃ k : Nat, k ≤ n ∧ n ≤ k + g ∧ i = .int .i64 k ∧ Hid (Below w.heap.size w wr) ∧ Hid (∀ j, j < k → ruleF m F r j = 0))
  case atStart => exact ⟨0, by omega, by omega, rfl, Lib.hid (Below.refl _ _), Lib.hid (fun j hj => absurd hj (Nat.not_lt_zero j))⟩
  case round =>
    obtain ⟨k, hk, hg, rfl, hb, hok⟩ := hrel
    by_cases hlt : k < n
    · obtain ⟨b, o, rfl, c0, c1, c2⟩ := (hR.out.below hb.out).cell k hlt
      obtain ⟨W2, hW2⟩ : ∃ W, Hid (W = wr.alloc (.cells #[.int .i64 (r k).from_, .int .i64 (r k).to, .int .i64 (r k).bud] 69)) := ⟨_, Lib.hid rfl⟩
      have hbw : Below wr.heap.size wr W2 := by rw [hW2.out]; exact allocB wr _
      have hall := fun i => (Whole.new wr 69 [.int .i64 (r k).from_, .int .i64 (r k).to, .int .i64 (r k).bud]).cell i
      have v0 : W2.cell? ⟨wr.heap.size, 0, none⟩ = some (.int .i64 (r k).from_) := by rw [hW2.out]; exact hall 0
      have v1 : W2.cell? ⟨wr.heap.size, 1, none⟩ = some (.int .i64 (r k).to) := by rw [hW2.out]; exact hall 1
      have v2 : W2.cell? ⟨wr.heap.size, 2, none⟩ = some (.int .i64 (r k).bud) := by rw [hW2.out]; exact hall 2
      clear hall
      have hb2 : Hid (Below w.heap.size w W2) := Lib.hid (hb.out.trans (hbw.mono hb.out.size))
      clear hbw hb
      have hE1 : Hid (¬ (0 ≤ (r k).from_ ∧ (r k).from_ < m ∧ 0 ≤ (r k).to ∧ (r k).to < m ∧ 1 ≤ (r k).bud ∧ (r k).bud ≤ 1048576) → polWrong m F r n = 1) := Lib.hid (fun h => by
        have e1 : ruleE m F (r k) = 1 := ruleE_1 (by
          rw [Bool.eq_false_iff]
          intro h2
          simp [hasB, pointB] at h2
          omega)
        have e2 : ruleF m F r k = 1 := by simp [ruleF, e1]
        rw [hbad.out k hlt hok.out (by rw [e2]; decide), e2])
      have hE4 : Hid (0 ≤ (r k).from_ ∧ (r k).from_ < m ∧ 0 ≤ (r k).to ∧ (r k).to < m ∧ 1 ≤ (r k).bud ∧ (r k).bud ≤ 1048576 → ((r k).from_ = (r k).to ∨ F (r k).to.toNat (r k).from_.toNat = false) → polWrong m F r n = 4) := Lib.hid (fun h h4 => by
        have e1 : ruleE m F (r k) = 4 := by
          unfold ruleE
          rw [if_pos (by simp [hasB, pointB]; omega)]
          by_cases h5 : (r k).from_ = (r k).to
          · rw [if_pos h5]
          · rw [if_neg h5, (h4.resolve_left h5)]; rfl
        have e2 : ruleF m F r k = 4 := by simp [ruleF, e1]
        rw [hbad.out k hlt hok.out (by rw [e2]; decide), e2])
      have hE0 : Hid (0 ≤ (r k).from_ ∧ (r k).from_ < m ∧ 0 ≤ (r k).to ∧ (r k).to < m ∧ 1 ≤ (r k).bud ∧ (r k).bud ≤ 1048576 → (r k).from_ ≠ (r k).to → F (r k).to.toNat (r k).from_.toNat = true → ruleF m F r k = if sameB r k then 8 else 0) := Lib.hid (fun h h4 h5 => by
        have e1 : ruleE m F (r k) = 0 := by
          unfold ruleE
          rw [if_pos (by simp [hasB, pointB]; omega), if_neg h4, h5]; rfl
        simp [ruleF, e1])
      have hsame : Hid (∀ x, FindIs k r (r k).from_ (r k).to x → (0 ≤ x ∧ sameB r k = true) ∨ (x < 0 ∧ sameB r k = false)) := Lib.hid (fun x h => find_same h)
      have hfnd : Hid (∀ wx, Below W2.heap.size W2 wx → Calls Try.prog 35 #[.slice (some ⟨b, o, none⟩) k cap, .int .i64 (r k).from_, .int .i64 (r k).to] wx fun e w' => ∃ x, e = .returned (.int .i64 x) ∧ FindIs k r (r k).from_ (r k).to x ∧ Below wx.heap.size wx w') := Lib.hid (fun wx hbx => find05_any _ k cap r _ _ wx (sub_rls ((hR.out.below hb2.out).below hbx) (by omega) (by omega)))
      have hk8 : Hid (sameB r k = true → ruleF m F r k = (if sameB r k then 8 else 0) → polWrong m F r n = 8) := Lib.hid (fun h1 h2 => by
        rw [h1] at h2
        have e2 : ruleF m F r k = 8 := h2
        rw [hbad.out k hlt hok.out (by rw [e2]; decide), e2])
      have hk0 : Hid (sameB r k = false → ruleF m F r k = (if sameB r k then 8 else 0) → ∀ j, j < k + 1 → ruleF m F r j = 0) := Lib.hid (fun h1 h2 j hj => by
        rw [h1] at h2
        rcases Nat.lt_or_ge j k with h | h
        · exact hok.out j h
        · obtain rfl : j = k := by omega
          exact h2)
      clear hok
      obtain ⟨f, hf⟩ : ∃ f, Hid ((r k).from_ = f) := ⟨_, Lib.hid rfl⟩
      obtain ⟨t, ht⟩ : ∃ t, Hid ((r k).to = t) := ⟨_, Lib.hid rfl⟩
      obtain ⟨bd, hbd⟩ : ∃ bd, Hid ((r k).bud = bd) := ⟨_, Lib.hid rfl⟩
      rw [hf.out] at c0 v0
      rw [ht.out] at c1 v1
      rw [hbd.out] at c2 v2
      rw [hf.out, ht.out, hbd.out] at hW2 hE1 hE4 hE0
      rw [hf.out, ht.out] at hsame hfnd
      clear hf ht hbd
      by_cases f0 : f < 0
      · have hfin := Lib.hid (hE1.out (by omega))
        go_wp2_with (with_reducible refine zLoad 3 _ rfl ?_)
        rw [← hW2.out]
        clear hW2 c0 c1 c2
        refine Lib.hid ?_
        go_wp2_with fail
        go_ret
        exact ⟨ret_i64 (hfin.out).symm, hb2.out⟩
      have f1 : decide (f < 0) = false := decide_eq_false f0
      by_cases f2 : (m : Int) ≤ f
      · have hfin := Lib.hid (hE1.out (by omega))
        go_wp2_with (with_reducible refine zLoad 3 _ rfl ?_)
        rw [← hW2.out]
        clear hW2 c0 c1 c2
        refine Lib.hid ?_
        go_wp2_with fail
        go_ret
        exact ⟨ret_i64 (hfin.out).symm, hb2.out⟩
      have f3 : decide ((m : Int) ≤ f) = false := decide_eq_false f2
      by_cases t0 : t < 0
      · have hfin := Lib.hid (hE1.out (by omega))
        go_wp2_with (with_reducible refine zLoad 3 _ rfl ?_)
        rw [← hW2.out]
        clear hW2 c0 c1 c2
        refine Lib.hid ?_
        go_wp2_with fail
        go_ret
        exact ⟨ret_i64 (hfin.out).symm, hb2.out⟩
      have t1 : decide (t < 0) = false := decide_eq_false t0
      by_cases t2 : (m : Int) ≤ t
      · have hfin := Lib.hid (hE1.out (by omega))
        go_wp2_with (with_reducible refine zLoad 3 _ rfl ?_)
        rw [← hW2.out]
        clear hW2 c0 c1 c2
        refine Lib.hid ?_
        go_wp2_with fail
        go_ret
        exact ⟨ret_i64 (hfin.out).symm, hb2.out⟩
      have t3 : decide ((m : Int) ≤ t) = false := decide_eq_false t2
      by_cases b0 : bd < 1
      · have hfin := Lib.hid (hE1.out (by omega))
        go_wp2_with (with_reducible refine zLoad 3 _ rfl ?_)
        rw [← hW2.out]
        clear hW2 c0 c1 c2
        refine Lib.hid ?_
        go_wp2_with fail
        go_ret
        exact ⟨ret_i64 (hfin.out).symm, hb2.out⟩
      have b1 : decide (bd < 1) = false := decide_eq_false b0
      by_cases b2 : 1048576 < bd
      · have hfin := Lib.hid (hE1.out (by omega))
        go_wp2_with (with_reducible refine zLoad 3 _ rfl ?_)
        rw [← hW2.out]
        clear hW2 c0 c1 c2
        refine Lib.hid ?_
        go_wp2_with fail
        go_ret
        exact ⟨ret_i64 (hfin.out).symm, hb2.out⟩
      have b3 : decide (1048576 < bd) = false := decide_eq_false b2
      have hall : 0 ≤ f ∧ f < m ∧ 0 ≤ t ∧ t < m ∧ 1 ≤ bd ∧ bd ≤ 1048576 := by omega
      obtain ⟨f, rfl⟩ := Int.eq_ofNat_of_zero_le hall.1
      obtain ⟨t, rfl⟩ := Int.eq_ofNat_of_zero_le hall.2.2.1
      have htm : t < m := by omega
      have hfm : f < m := by omega
      by_cases hft : f = t
      · have hfin := Lib.hid (hE4.out hall (.inl (by rw [hft])))
        subst hft
        have q1 : ((f : Int) == (f : Int)) = true := beq_self_eq_true _
        clear f0 f2 t0 t2 b0 b2 hall hE1 hE4 hE0
        go_wp2_with (with_reducible refine zLoad 3 _ rfl ?_)
        rw [← hW2.out]
        clear hW2 c0 c1 c2
        refine Lib.hid ?_
        go_wp2_with fail
        go_quiet (fail)
        go_wp2_with fail
        go_ret
        exact ⟨ret_i64 (hfin.out).symm, drewB hb2.out _⟩
      · have q1 : ((f : Int) == (t : Int)) = false := by rw [beq_eq_false_iff_ne]; omega
        obtain ⟨R, O, C, hrow, hel⟩ := (hS.out.below hb2.out).rows
        have x1 := hrow t htm
        have x2 := hel t f htm hfm
        obtain ⟨R', hR'⟩ : ∃ x, Hid (R t = x) := ⟨_, Lib.hid rfl⟩
        obtain ⟨O', hO'⟩ : ∃ x, Hid (O t = x) := ⟨_, Lib.hid rfl⟩
        obtain ⟨C', hC'⟩ : ∃ x, Hid (C t = x) := ⟨_, Lib.hid rfl⟩
        rw [hR'.out, hO'.out, hC'.out] at x1
        rw [hR'.out, hO'.out] at x2
        clear hrow hel hR' hO' hC'
        have i1 : (t : Int) < m := by omega
        have i2 : (f : Int) < m := by omega
        have i3 : (0 : Int) ≤ t := by omega
        have i4 : (0 : Int) ≤ f := by omega
        cases hF : F t f <;> rw [hF] at x2 <;> replace hF := Lib.hid hF
        · have hfin := Lib.hid (hE4.out hall (.inr (by simpa using hF.out)))
          clear f0 f2 t0 t2 b0 b2 hall hE1 hE4 hE0 hft
          go_wp2_with (with_reducible refine zLoad 3 _ rfl ?_)
          rw [← hW2.out]
          clear hW2 c0 c1 c2
          refine Lib.hid ?_
          go_wp2_with fail
          go_quiet (fail)
          go_wp2_with fail
          go_ret
          exact ⟨ret_i64 (hfin.out).symm, drewB hb2.out _⟩
        · have hF0 := Lib.hid (hE0.out hall (by omega) (by simpa using hF.out))
          have z1 : (k : Int) ≤ cap := by omega
          have z2 : (0 : Int) ≤ k := by omega
          clear f0 f2 t0 t2 b0 b2 hall hE1 hE4 hE0 hft
          go_wp2_with (with_reducible refine zLoad 3 _ rfl ?_)
          rw [← hW2.out]
          clear hW2 c0 c1 c2
          refine Lib.hid ?_
          go_wp2_with fail
          go_quiet (fail)
          clear x1 x2
          go_wp2_with fail
          obtain ⟨V, hV⟩ : ∃ V, Hid (V = (W2.drewN nq).drew) := ⟨_, Lib.hid rfl⟩
          have y0 : V.cell? ⟨wr.heap.size, 0, none⟩ = some (.int .i64 f) := by rw [hV.out]; exact v0
          have y1 : V.cell? ⟨wr.heap.size, 1, none⟩ = some (.int .i64 t) := by rw [hV.out]; exact v1
          have hbV : Below w.heap.size w V := by rw [hV.out]; exact drewB hb2.out (nq + 1)
          have hbV2 : Below W2.heap.size W2 V := by rw [hV.out]; exact drewB (Below.refl _ _) (nq + 1)
          have hfV := Lib.hid (hfnd.out V hbV2)
          clear hfnd hbV2 v0 v1 v2 hb2
          refine quiet_tail 7 V (by kernel_rfl) (by kernel_rfl) hV.out ?_
          simp only [List.take_succ_cons, List.take_zero, List.drop_succ_cons, List.drop_zero]
          repeat (go_big_quiet_step (fail))
          refine wpQuiet_nil ?_
          clear y0 y1 hV
          refine Lib.hid ?_
          go_wp2_with fail
          refine Or.inl ?_
          refine hfV.out.mono ?_
          rintro e w5 ⟨x, rfl, hx, hb5⟩
          have hb6 := hbV.trans (hb5.mono hbV.size)
          have hx2 := hsame.out x hx
          clear hfV hsame hx hb5 hbV
          rcases hx2 with ⟨hx0, hsm⟩ | ⟨hx0, hsm⟩
          · have hfin := Lib.hid (hk8.out hsm hF0.out)
            clear hk8 hk0 hsm hF0
            go_wp2_with fail
            go_ret
            exact ⟨ret_i64 (hfin.out).symm, hb6⟩
          · have hd : decide (0 ≤ x) = false := decide_eq_false (by omega)
            have hok2 := Lib.hid (hk0.out hsm hF0.out)
            replace hb6 := Lib.hid hb6
            clear hk8 hk0 hsm hF0
            go_wp2_with fail
            go_roundg (gk - 1)
            case measure => omega
            case rel => exact ⟨k + 1, by omega, by omega, by go_num, hb6, hok2⟩
    · obtain rfl : k = n := by omega
      have hfin := Lib.hid (hgood.out hok.out)
      clear hok hgood hbad
      go_wp2_with fail
      go_ret
      exact ⟨ret_i64 (hfin.out).symm, hb.out⟩
end Go.Proofs.Ytdagbepjhbmlfaa.Q
