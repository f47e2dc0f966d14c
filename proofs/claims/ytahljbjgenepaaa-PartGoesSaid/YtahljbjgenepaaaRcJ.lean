/- The definition's records: May, chain, Encode. -/
import Derived.Test.YtahljbjgenepaaaRcB
import Derived.Test.YtahljbjgenepaaaQuietB
import Derived.Deep.Cut
namespace Go.Proofs.Ytahljbjgenepaaa.W
open Go.RowKit Go.Sort
open Go.Proofs.Ytahljbjgenepaaa.M Go.Proofs.Ytahljbjgenepaaa.D
set_option linter.unusedVariables false
set_option linter.unusedSimpArgs false

def isUp (n m : Int) : Bool := decide (0 ≤ n ∧ n ≤ m)
theorem upTo_any (n m : Int) (w : World) :
    Calls Try.prog 54 #[.int .i64 n, .int .i64 m] w fun e w' => e = .returned (.bool (isUp n m)) ∧ w = w' := by
  unfold isUp
  by_cases h0 : 0 ≤ n
  · by_cases h1 : n ≤ m
    · rw [decide_eq_true (show 0 ≤ n ∧ n ≤ m from ⟨h0, h1⟩)]
      go_enter Try.func54, Try.ntmps54
      go_wp2_with fail
      go_ret
      exact ⟨rfl, rfl⟩
    · rw [decide_eq_false (show ¬ (0 ≤ n ∧ n ≤ m) from fun h => h1 h.2)]
      have h2 : m < n := by omega
      clear h1
      go_enter Try.func54, Try.ntmps54
      go_wp2_with fail
      go_ret
      exact ⟨ret_bool (decide_eq_false (by omega)), rfl⟩
  · rw [decide_eq_false (show ¬ (0 ≤ n ∧ n ≤ m) from fun h => h0 h.1)]
    go_enter Try.func54, Try.ntmps54
    go_wp2_with fail
    go_ret
    exact ⟨rfl, rfl⟩

set_option maxRecDepth 100000 in
set_option maxHeartbeats 4000000 in
theorem rmay_any (o t : Int) (k v : ByteArray) (g : Bool) (p q f : Int) (w : World) :
    Calls Try.prog 41 #[.agg #[.int .i64 o, .int .i64 t, .string k, .string v, .bool g, .int .i64 p, .int .i64 q, .int .i64 f]] w fun e w' => e = .returned (.bool (Rc.mk o t k v g p q f).may) ∧ Below w.heap.size w w' := by
  have hB := Lib.hid ((Below.refl w.heap.size w).alloc (Nat.le_refl _) (.cells #[.int .i64 o, .int .i64 t, .string k, .string v, .bool g, .int .i64 p, .int .i64 q, .int .i64 f] 40))
  obtain ⟨B, hm⟩ : ∃ B, Hid ((Rc.mk o t k v g p q f).may = B) := ⟨_, Lib.hid rfl⟩
  have bad : ¬ (Rc.mk o t k v g p q f).ok → B = false := fun h => by rw [← hm.out]; exact decide_eq_false h
  have fine : (Rc.mk o t k v g p q f).ok → B = true := fun h => by rw [← hm.out]; exact decide_eq_true h
  rw [hm.out]
  replace bad := Lib.hid bad
  replace fine := Lib.hid fine
  clear hm
  go_enter Try.func41, Try.ntmps41
  go_wp2_with fail
  refine (upTo_any o _ _).mono ?_
  rintro e w1 ⟨rfl, rfl⟩
  by_cases h1 : ¬ (0 ≤ o ∧ o ≤ 1048576)
  · obtain rfl := bad.out (fun h => h1 h.1)
    rw [show isUp o 1048576 = false from decide_eq_false h1]
    clear h1
    go_wp2_with fail
    go_ret
    exact ⟨rfl, hB.out⟩
  replace h1 := Classical.not_not.1 h1
  rw [show isUp o 1048576 = true from decide_eq_true h1]
  replace h1 := Lib.hid h1
  go_wp2_with fail
  refine (upTo_any t _ _).mono ?_
  rintro e w1 ⟨rfl, rfl⟩
  by_cases h2 : ¬ (0 ≤ t ∧ t ≤ 1099511627776)
  · obtain rfl := bad.out (fun h => h2 h.2.1)
    rw [show isUp t 1099511627776 = false from decide_eq_false h2]
    clear h2
    go_wp2_with fail
    go_ret
    exact ⟨rfl, hB.out⟩
  replace h2 := Classical.not_not.1 h2
  rw [show isUp t 1099511627776 = true from decide_eq_true h2]
  replace h2 := Lib.hid h2
  go_wp2_with fail
  refine (upTo_any p _ _).mono ?_
  rintro e w1 ⟨rfl, rfl⟩
  by_cases h7 : ¬ (0 ≤ p ∧ p ≤ 1099511627776)
  · obtain rfl := bad.out (fun h => h7 h.2.2.1)
    rw [show isUp p 1099511627776 = false from decide_eq_false h7]
    clear h7
    go_wp2_with fail
    go_ret
    exact ⟨rfl, hB.out⟩
  replace h7 := Classical.not_not.1 h7
  rw [show isUp p 1099511627776 = true from decide_eq_true h7]
  replace h7 := Lib.hid h7
  go_wp2_with fail
  refine (upTo_any q _ _).mono ?_
  rintro e w1 ⟨rfl, rfl⟩
  by_cases h8 : ¬ (0 ≤ q ∧ q ≤ 1099511627776)
  · obtain rfl := bad.out (fun h => h8 h.2.2.2.1)
    rw [show isUp q 1099511627776 = false from decide_eq_false h8]
    clear h8
    go_wp2_with fail
    go_ret
    exact ⟨rfl, hB.out⟩
  replace h8 := Classical.not_not.1 h8
  rw [show isUp q 1099511627776 = true from decide_eq_true h8]
  replace h8 := Lib.hid h8
  go_wp2_with fail
  refine (upTo_any f _ _).mono ?_
  rintro e w1 ⟨rfl, rfl⟩
  by_cases h10 : ¬ (0 ≤ f ∧ f ≤ 1099511627776)
  · obtain rfl := bad.out (fun h => h10 h.2.2.2.2.1)
    rw [show isUp f 1099511627776 = false from decide_eq_false h10]
    clear h10
    go_wp2_with fail
    go_ret
    exact ⟨rfl, hB.out⟩
  replace h10 := Classical.not_not.1 h10
  rw [show isUp f 1099511627776 = true from decide_eq_true h10]
  replace h10 := Lib.hid h10
  by_cases h9 : ¬ (p = 0 → q = 0)
  · obtain rfl := bad.out (fun h => h9 h.2.2.2.2.2.1)
    have h12 : p = 0 := by omega
    have h11 : ¬ q = 0 := by omega
    clear h9
    subst h12
    go_wp2_with fail
    go_ret
    exact ⟨rfl, hB.out⟩
  replace h9 := Classical.not_not.1 h9
  replace h9 := Lib.hid h9
  rcases (show (p = 0 ∧ q = 0) ∨ ¬ p = 0 from (Classical.em (p = 0)).imp (fun e => ⟨e, h9.out e⟩) id) with ⟨rfl, rfl⟩ | hp0
  all_goals
    by_cases h3 : ¬ (k.size ≤ 32)
    · obtain rfl := bad.out (fun h => h3 h.2.2.2.2.2.2.1)
      have h4 : (32 : Int) < (k.size : Int) := by omega
      clear h3
      go_wp2_with fail
      go_ret
      exact ⟨rfl, hB.out⟩
    replace h3 := Classical.not_not.1 h3
    have h4 : (k.size : Int) ≤ 32 := by omega
    by_cases h5 : ¬ (v.size ≤ 200)
    · obtain rfl := bad.out (fun h => h5 h.2.2.2.2.2.2.2.1)
      have h6 : (200 : Int) < (v.size : Int) := by omega
      clear h5
      go_wp2_with fail
      go_ret
      exact ⟨rfl, hB.out⟩
    replace h5 := Classical.not_not.1 h5
    have h6 : (v.size : Int) ≤ 200 := by omega
    cases g with
    | false =>
      obtain rfl := fine.out ⟨h1.out, h2.out, h7.out, h8.out, h10.out, (by first | exact h9.out | exact fun _ => rfl), h3, h5, fun e => by cases e⟩
      go_wp2_with fail
      go_ret
      exact ⟨rfl, hB.out⟩
    | true =>
      by_cases h11 : k.size = 0
      · obtain rfl := bad.out (fun h => by have := (h.2.2.2.2.2.2.2.2 rfl).1; simp only at this; omega)
        have h12 : (k.size : Int) = 0 := by omega
        have h13 : ¬ (0 : Int) < (k.size : Int) := by omega
        go_wp2_with fail
        go_ret
        exact ⟨rfl, hB.out⟩
      · have h12 : (0 : Int) < (k.size : Int) := by omega
        by_cases h13 : v.size = 0
        · obtain rfl := fine.out ⟨h1.out, h2.out, h7.out, h8.out, h10.out, (by first | exact h9.out | exact fun _ => rfl), h3, h5, fun e => ⟨by simp only; omega, h13⟩⟩
          have h14 : (v.size : Int) = 0 := by omega
          have h15 : 0 < k.size := by omega
          go_wp2_with fail
          go_ret
          exact ⟨by simp [h13, h15], hB.out⟩
        · obtain rfl := bad.out (fun h => h13 (h.2.2.2.2.2.2.2.2 rfl).2)
          have h14 : ¬ (v.size : Int) = 0 := by omega
          have h15 : 0 < k.size := by omega
          go_wp2_with fail
          go_ret
          exact ⟨by simp [h13, h15], hB.out⟩

theorem rchainI_any (n : Int) (w : World) (h0 : 0 ≤ n) (h1 : n ≤ 1099511627776) :
    Calls Try.prog 55 #[.int .i64 n] w fun e w' => e = .returned (.string (B (chain n))) ∧ Below w.heap.size w w' := by
  have hw : IntKind.u64.wrap n = n := IntWalk.u64_in _ (by omega)
  go_enter Try.func55, Try.ntmps55
  go_wp2_with fail
  refine (rchain_any 9 n _ h0 (by omega) (by omega) (by omega)).mono ?_
  rintro e w1 ⟨rfl, hb⟩
  go_wp2_with fail
  go_ret
  exact ⟨rfl, hb⟩

theorem gone_bytes (g : Bool) : B (chain (goneI g)) = if g then ⟨#[1]⟩ else ⟨#[0]⟩ := by cases g <;> decide
set_option maxRecDepth 100000 in
set_option maxHeartbeats 8000000 in
theorem renc_yes (o t : Int) (k v : ByteArray) (g : Bool) (p q f : Int) (w : World) (hr : (Rc.mk o t k v g p q f).ok) :
    Calls Try.prog 46 #[.agg #[.int .i64 o, .int .i64 t, .string k, .string v, .bool g, .int .i64 p, .int .i64 q, .int .i64 f]] w fun e w' => e = .returned (.string (B (recL (Rc.mk o t k v g p q f)))) ∧ Below w.heap.size w w' := by
  obtain ⟨⟨o0, o1⟩, ⟨t0, t1⟩, ⟨p0, p1⟩, ⟨q0, q1⟩, ⟨f0, f1⟩, hps, hk, hv, hg⟩ := hr
  simp only at o0 o1 t0 t1 p0 p1 q0 q1 f0 f1 hk hv
  have ek : k.data.toList.length = k.size := by simp
  have ev : v.data.toList.length = v.size := by simp
  have lo : (B (chain o)).size ≤ 10 := by rw [B_size]; exact (chF_length 9 o).2
  have lt : (B (chain t)).size ≤ 10 := by rw [B_size]; exact (chF_length 9 t).2
  have lp : (B (chain p)).size ≤ 10 := by rw [B_size]; exact (chF_length 9 p).2
  have lq : (B (chain q)).size ≤ 10 := by rw [B_size]; exact (chF_length 9 q).2
  have lf : (B (chain f)).size ≤ 10 := by rw [B_size]; exact (chF_length 9 f).2
  have lk : (B (textL k.data.toList)).size ≤ 100 := by rw [B_size]; exact Nat.le_trans (textL_most _) (by omega)
  have lv : (B (textL v.data.toList)).size ≤ 300 := by rw [B_size]; exact Nat.le_trans (textL_most _) (by omega)
  have hrec : B (recL (Rc.mk o t k v g p q f)) = B (chain o) ++ B (chain t) ++ B (chain p) ++ B (chain q) ++ B (chain f) ++ (if g then ⟨#[1]⟩ else ⟨#[0]⟩) ++ B (textL k.data.toList) ++ B (textL v.data.toList) := by
    rw [← gone_bytes g]
    simp only [B_append]
    unfold recL
    simp only [List.append_assoc]
  rw [hrec]
  clear hrec hps hg
  have hR0 := Whole.new w 40 [.int .i64 o, .int .i64 t, .string k, .string v, .bool g, .int .i64 p, .int .i64 q, .int .i64 f]
  have hB0 := (Below.refl w.heap.size w).alloc (Nat.le_refl _) (.cells #[.int .i64 o, .int .i64 t, .string k, .string v, .bool g, .int .i64 p, .int .i64 q, .int .i64 f] 40)
  obtain ⟨W, hW⟩ : ∃ W, Hid (W = w.alloc (.cells #[.int .i64 o, .int .i64 t, .string k, .string v, .bool g, .int .i64 p, .int .i64 q, .int .i64 f] 40)) := ⟨_, Lib.hid rfl⟩
  rw [← hW.out] at hR0 hB0
  obtain ⟨b, hb⟩ : ∃ b, Hid (w.heap.size = b) := ⟨_, Lib.hid rfl⟩
  rw [hb.out] at hR0
  obtain ⟨c0, c1, c2, c3, c4, c5, c6, c7⟩ := recCells hR0
  have uo := Lib.hid (Z.regrown_any (fun W => rchainI_any o W o0 (by omega)) W)
  have ut := Lib.hid (Z.regrown_any (fun W => rchainI_any t W t0 (by omega)) W)
  have up := Lib.hid (Z.regrown_any (fun W => rchainI_any p W p0 (by omega)) W)
  have uq := Lib.hid (Z.regrown_any (fun W => rchainI_any q W q0 (by omega)) W)
  have uf := Lib.hid (Z.regrown_any (fun W => rchainI_any f W f0 (by omega)) W)
  have uk := Lib.hid (Z.regrown_any (fun W => rtext_any k W (by omega)) W)
  have uv := Lib.hid (Z.regrown_any (fun W => rtext_any v W (by omega)) W)
  have g0 := fun d os => cell_regrown c0 d os
  have g1 := fun d os => cell_regrown c1 d os
  have g2 := fun d os => cell_regrown c2 d os
  have g3 := fun d os => cell_regrown c3 d os
  have g4 := fun d os => cell_regrown c4 d os
  have g5 := fun d os => cell_regrown c5 d os
  have g6 := fun d os => cell_regrown c6 d os
  have g7 := fun d os => cell_regrown c7 d os
  obtain ⟨So, hSo⟩ : ∃ S, Hid (B (chain o) = S) := ⟨_, Lib.hid rfl⟩
  rw [hSo.out] at lo uo ⊢
  obtain ⟨St, hSt⟩ : ∃ S, Hid (B (chain t) = S) := ⟨_, Lib.hid rfl⟩
  rw [hSt.out] at lt ut ⊢
  obtain ⟨Sp, hSp⟩ : ∃ S, Hid (B (chain p) = S) := ⟨_, Lib.hid rfl⟩
  rw [hSp.out] at lp up ⊢
  obtain ⟨Sq, hSq⟩ : ∃ S, Hid (B (chain q) = S) := ⟨_, Lib.hid rfl⟩
  rw [hSq.out] at lq uq ⊢
  obtain ⟨Sf, hSf⟩ : ∃ S, Hid (B (chain f) = S) := ⟨_, Lib.hid rfl⟩
  rw [hSf.out] at lf uf ⊢
  obtain ⟨Sk, hSk⟩ : ∃ S, Hid (B (textL k.data.toList) = S) := ⟨_, Lib.hid rfl⟩
  rw [hSk.out] at lk uk ⊢
  obtain ⟨Sv, hSv⟩ : ∃ S, Hid (B (textL v.data.toList) = S) := ⟨_, Lib.hid rfl⟩
  rw [hSv.out] at lv uv ⊢
  replace hB0 := Lib.hid hB0
  clear hR0 hSo hSt hSp hSq hSf hSk hSv
  have ol0 : (⟨#[0]⟩ : ByteArray).size = 1 := rfl
  have ol1 : (⟨#[1]⟩ : ByteArray).size = 1 := rfl
  cases g with
  | false =>
    simp only [Bool.false_eq_true, if_false]
    go_enter Try.func46, Try.ntmps46
    go_upto_region 2 with fail
    rw [← show W = _ from hW.out, hb.out]
    clear hW
    go_wp2_with fail
    clear c0 c1 c2 c3 c4 c5 c6 c7
    refine wp_region_quiet_below (by kernel_rfl) (by kernel_rfl) ?_
    repeat (go_big_quiet_step (first | exact uo.out _ _ | exact ut.out _ _ | exact up.out _ _ | exact uq.out _ _ | exact uf.out _ _ | exact uk.out _ _ | exact uv.out _ _))
    refine wpQuiet_nil ?_
    intro _ hw'
    obtain ⟨⟨dq, osq⟩, hw''⟩ := hw'
    subst hw''
    have hB2 := Lib.hid (grew hB0.out (below_regrown W dq osq))
    generalize grow (redrawn W dq) osq = w7 at *
    go_wp2_with fail
    go_ret
    exact ⟨rfl, hB2.out⟩
  | true =>
    simp only [if_true]
    go_enter Try.func46, Try.ntmps46
    go_upto_region 2 with fail
    rw [← show W = _ from hW.out, hb.out]
    clear hW
    go_wp2_with fail
    clear c0 c1 c2 c3 c4 c5 c6 c7
    refine wp_region_quiet_below (by kernel_rfl) (by kernel_rfl) ?_
    repeat (go_big_quiet_step (first | exact uo.out _ _ | exact ut.out _ _ | exact up.out _ _ | exact uq.out _ _ | exact uf.out _ _ | exact uk.out _ _ | exact uv.out _ _))
    refine wpQuiet_nil ?_
    intro _ hw'
    obtain ⟨⟨dq, osq⟩, hw''⟩ := hw'
    subst hw''
    have hB2 := Lib.hid (grew hB0.out (below_regrown W dq osq))
    generalize grow (redrawn W dq) osq = w7 at *
    go_wp2_with fail
    go_ret
    exact ⟨rfl, hB2.out⟩
end Go.Proofs.Ytahljbjgenepaaa.W
