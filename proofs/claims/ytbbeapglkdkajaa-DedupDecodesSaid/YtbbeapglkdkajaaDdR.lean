/- The definition's table: rows of last batches; May, Find, chain, Encode. -/
import Derived.Test.YtbbeapglkdkajaaDdE
import Derived.Deep.QuietTactic
import Derived.BigQuiet
import Derived.Lib.QuietBelow
namespace Go.Proofs.Ytbbeapglkdkajaa.W
open Go.RowKit Go.Sort
open Go.Proofs.Ytbbeapglkdkajaa.M Go.Proofs.Ytbbeapglkdkajaa.D Go.Proofs.Ytbbeapglkdkajaa.Z
set_option linter.unusedVariables false
set_option linter.unusedSimpArgs false

abbrev la4 (x : La) : List Value := [.int .i64 x.p, .int .i64 x.s, .int .i64 x.n, .int .i64 x.o]
def laRows (l : List La) : List Value := l.flatMap la4
theorem laRows_append (a b : List La) : laRows (a ++ b) = laRows a ++ laRows b := by unfold laRows; rw [List.flatMap_append]
theorem laRows_len (l : List La) : (laRows l).length = l.length * 4 := by
  induction l with
  | nil => rfl
  | cons x l ih =>
    show (la4 x ++ laRows l).length = _
    rw [List.length_append, ih, List.length_cons]
    simp
    omega
theorem laRows_at (l : List La) : ∀ i x, l[i]? = some x → ∀ j v, (la4 x)[j]? = some v → (laRows l)[i * 4 + j]? = some v := by
  induction l with
  | nil => intro i x h; cases h
  | cons y l ih =>
    intro i x h j v hj
    have hj3 : j < 4 := (List.getElem?_eq_some_iff.1 hj).1
    cases i with
    | zero =>
      obtain rfl : y = x := by simpa using h
      show (la4 y ++ laRows l)[0 * 4 + j]? = some v
      rw [Nat.zero_mul, Nat.zero_add, List.getElem?_append_left (by simpa using hj3)]
      exact hj
    | succ i =>
      show (la4 y ++ laRows l)[(i + 1) * 4 + j]? = some v
      have e : (i + 1) * 4 + j = i * 4 + j + 4 := by omega
      rw [e, List.getElem?_append_right (by simp), show i * 4 + j + 4 - (la4 y).length = i * 4 + j from by simp]
      exact ih i x (by simpa using h) j v hj
/-- A list of last batches in memory. -/
def LaL (w : World) (A : Option Addr) (l : List La) : Prop := l = [] ∨ ∃ g cur, A = some ⟨g, 0, none⟩ ∧ Whole w g 49 cur ∧ cur.take (l.length * 4) = laRows l
theorem LaL.below {w w' : World} {A : Option Addr} {l : List La} (h : LaL w A l) (hb : Below w.heap.size w w') : LaL w' A l := by
  rcases h with h | ⟨g, cur, h1, h2, h3⟩
  · exact .inl h
  · exact .inr ⟨g, cur, h1, h2.below hb h2.lt, h3⟩
theorem LaL.kept {own : Nat → Prop} {w w' : World} {A : Option Addr} {l : List La} (h : LaL w A l) (hk : Kept own w w') (ho : ∀ g cur, Whole w g 49 cur → ¬ own g) : LaL w' A l := by
  rcases h with h | ⟨g, cur, h1, h2, h3⟩
  · exact .inl h
  · exact .inr ⟨g, cur, h1, h2.of_kept hk (ho g cur h2), h3⟩
theorem LaL.cell {w : World} {A : Option Addr} {l : List La} (h : LaL w A l) {i : Nat} {x : La} (hi : l[i]? = some x) : ∃ g : Nat, A = some ⟨g, 0, none⟩ ∧ w.cell? ⟨g, i * 4, none⟩ = some (.int .i64 x.p) ∧ w.cell? ⟨g, i * 4 + 1, none⟩ = some (.int .i64 x.s) ∧ w.cell? ⟨g, i * 4 + 2, none⟩ = some (.int .i64 x.n) ∧ w.cell? ⟨g, i * 4 + 3, none⟩ = some (.int .i64 x.o) := by
  rcases h with rfl | ⟨g, cur, h1, h2, h3⟩
  · simp at hi
  · have hl := (List.getElem?_eq_some_iff.1 hi).1
    have key : ∀ j v, (la4 x)[j]? = some v → w.cell? ⟨g, i * 4 + j, none⟩ = some v := fun j v hj => by
      have hj4 : j < 4 := (List.getElem?_eq_some_iff.1 hj).1
      rw [h2.cell, ← List.getElem?_take_of_lt (show i * 4 + j < l.length * 4 by omega), h3]
      exact laRows_at l i x hi j v hj
    exact ⟨g, h1, key 0 _ rfl, key 1 _ rfl, key 2 _ rfl, key 3 _ rfl⟩
theorem laL_own {w : World} {B n c : Nat} {A : Option Addr} {l : List La} (h : w.ownsRow B 49 4 (.slice A n c) n (laRows l)) (hn : l.length = n) : LaL w A l := by
  rcases h.2 with ⟨_, h0⟩ | ⟨g, cap, cur, hv, hB, hg, h1, h2, h3, h4⟩
  · exact .inl (List.eq_nil_of_length_eq_zero (by omega))
  · injection hv with e1 e2 e3
    exact .inr ⟨g, cur.toList, e1, hg, by rw [hn]; exact h4⟩

set_option maxRecDepth 100000 in
theorem rchain18_any (n : Int) (w : World) (h0 : 0 ≤ n) (h1 : n ≤ 1099511627776) :
    Calls Try.prog 56 #[.int .i64 n] w fun e w' => e = .returned (.string (M.B (chain n))) ∧ Below w.heap.size w w' := by
  have hw : IntKind.u64.wrap n = n := IntWalk.u64_in _ (by omega)
  go_enter Try.func56, Try.ntmps56
  go_wp2_with fail
  refine (rchain_any 9 n _ h0 (by omega) (by omega) (by omega)).mono ?_
  rintro e w1 ⟨rfl, hb⟩
  have hb2 := Lib.hid hb
  clear hb
  go_wp2_with fail
  go_ret
  exact ⟨rfl, hb2.out⟩
theorem la4Cells {W : World} {b : Nat} {t : TypeId} {p s n o : Int} (h : Whole W b t [.int .i64 p, .int .i64 s, .int .i64 n, .int .i64 o]) : W.cell? ⟨b, 0, none⟩ = some (.int .i64 p) ∧ W.cell? ⟨b, 1, none⟩ = some (.int .i64 s) ∧ W.cell? ⟨b, 2, none⟩ = some (.int .i64 n) ∧ W.cell? ⟨b, 3, none⟩ = some (.int .i64 o) := ⟨h.cell 0, h.cell 1, h.cell 2, h.cell 3⟩
set_option maxRecDepth 100000 in
set_option maxHeartbeats 4000000 in
theorem rencL_any (A : Option Addr) (c : Nat) (l : List La) (w : World) (h : LaL w A l) (hok : ∀ x ∈ l, x.ok) (hn : l.length ≤ 100) :
    Calls Try.prog 41 #[.slice A l.length c] w fun e w' => e = .returned (.string (M.B (encL l))) ∧ Below w.heap.size w w' := by
  obtain ⟨N, hN⟩ : ∃ N, Hid (l.length = N) := ⟨_, Lib.hid rfl⟩
  have hencl : M.B (encL l) = M.B (chain (N : Int) ++ encB (l.take N)) := by unfold encL; rw [hN.out, List.take_of_length_le (by have := hN.out; omega)]
  rw [hencl]
  have hmo : Hid (∀ k, (M.B (chain (N : Int) ++ encB (l.take k))).size ≤ 5000) := Lib.hid (fun k => by
    have h1 : (chain (N : Int)).length ≤ 10 := (chF_length 9 _).2
    have h2 := encB_len (l.take k)
    have h3 : (l.take k).length ≤ 100 := by rw [List.length_take]; have := hN.out; omega
    rw [B_size, List.length_append]
    omega)
  rw [hN.out] at hn ⊢
  replace h := Lib.hid h
  replace hok := Lib.hid hok
  clear hencl
  go_enter Try.func41, Try.ntmps41
  go_wp2_with fail
  refine (rchain18_any (N : Int) _ (by omega) (by omega)).mono ?_
  rintro e w1 ⟨rfl, hb1⟩
  have hS : Hid (M.B (chain (N : Int)) = M.B (chain (N : Int) ++ encB (l.take 0)) ∧ Below w.heap.size w w1) := Lib.hid ⟨by simp [encB], hb1⟩
  clear hb1
  go_wp2_with fail
  go_loopg [3, 11] N (fun ga sv i wr => ∃ (k : Nat) (S : ByteArray), k ≤ N ∧ N ≤ k + ga ∧ i = .int .i64 k ∧ sv = .string S ∧ Hid (S = M.B (chain (N : Int) ++ encB (l.take k)) ∧ Below w.heap.size w wr))
  case atStart => exact ⟨0, _, by omega, by omega, rfl, rfl, hS⟩
  case round =>
    clear hS
    obtain ⟨k, S, hk, hg, rfl, rfl, hrel⟩ := hrel
    generalize wr = wo at *
    obtain ⟨hSe, hB⟩ := hrel.out
    clear hrel
    by_cases hlt : k < N
    · obtain ⟨x, hx⟩ : ∃ x, l[k]? = some x := ⟨_, List.getElem?_eq_getElem (by have := hN.out; omega)⟩
      obtain ⟨⟨p0, p1⟩, ⟨s0, s1⟩, ⟨n0, n1⟩, ⟨o0, o1⟩⟩ := hok.out x (List.mem_of_getElem? hx)
      obtain ⟨g, rfl, c0, c1, c2, c3⟩ := (h.out.below hB).cell hx
      obtain ⟨W1, hW1⟩ : ∃ V, Hid (V = wo.alloc (.cells #[.int .i64 x.p, .int .i64 x.s, .int .i64 x.n, .int .i64 x.o] 49)) := ⟨_, Lib.hid rfl⟩
      have hb1 : Below wo.heap.size wo W1 := by rw [hW1.out]; exact grewAlloc (Below.refl _ _) _
      have hX : Whole W1 wo.heap.size 49 [.int .i64 x.p, .int .i64 x.s, .int .i64 x.n, .int .i64 x.o] := by rw [hW1.out]; exact Whole.new wo _ _
      obtain ⟨q, hq⟩ : ∃ q, Hid (wo.heap.size = q) := ⟨_, Lib.hid rfl⟩
      rw [hq.out] at hX
      obtain ⟨q0, q1, q2, q3⟩ := la4Cells hX
      have g0 := fun d os => cell_regrown q0 d os
      have g1 := fun d os => cell_regrown q1 d os
      have g2 := fun d os => cell_regrown q2 d os
      have g3 := fun d os => cell_regrown q3 d os
      have hB1 := Lib.hid (hB.trans (hb1.mono hB.size))
      have lp : (M.B (chain x.p)).size ≤ 10 := by rw [B_size]; exact (chF_length 9 x.p).2
      have ls : (M.B (chain x.s)).size ≤ 10 := by rw [B_size]; exact (chF_length 9 x.s).2
      have ln : (M.B (chain x.n)).size ≤ 10 := by rw [B_size]; exact (chF_length 9 x.n).2
      have lo : (M.B (chain x.o)).size ≤ 10 := by rw [B_size]; exact (chF_length 9 x.o).2
      have u1 := Z.regrown_any (fun W => rchain18_any x.p W (by omega) (by omega)) W1
      have u2 := Z.regrown_any (fun W => rchain18_any x.s W (by omega) (by omega)) W1
      have u3 := Z.regrown_any (fun W => rchain18_any x.n W (by omega) (by omega)) W1
      have u4 := Z.regrown_any (fun W => rchain18_any x.o W (by omega) (by omega)) W1
      have hS5 := hmo.out k
      rw [← hSe] at hS5
      have hnew : M.B (chain (N : Int) ++ encB (l.take (k + 1))) = S ++ M.B (chain x.p) ++ M.B (chain x.s) ++ M.B (chain x.n) ++ M.B (chain x.o) := by
        rw [hSe, encB_take hx, B_append, B_append, B_append, B_append]
        unfold entB
        simp only [List.append_assoc]
      obtain ⟨Sp, hSp⟩ : ∃ S, Hid (M.B (chain x.p) = S) := ⟨_, Lib.hid rfl⟩
      obtain ⟨Ss, hSs⟩ : ∃ S, Hid (M.B (chain x.s) = S) := ⟨_, Lib.hid rfl⟩
      obtain ⟨Sn, hSn⟩ : ∃ S, Hid (M.B (chain x.n) = S) := ⟨_, Lib.hid rfl⟩
      obtain ⟨So, hSo⟩ : ∃ S, Hid (M.B (chain x.o) = S) := ⟨_, Lib.hid rfl⟩
      rw [hSp.out] at lp u1 hnew
      rw [hSs.out] at ls u2 hnew
      rw [hSn.out] at ln u3 hnew
      rw [hSo.out] at lo u4 hnew
      replace u1 := Lib.hid u1
      replace u2 := Lib.hid u2
      replace u3 := Lib.hid u3
      replace u4 := Lib.hid u4
      replace hnew := Lib.hid hnew
      replace hx := Lib.hid hx
      replace hSe := Lib.hid hSe
      have hki : (k : Int) < (N : Int) := by omega
      clear hX q0 q1 q2 q3 hB hb1 hSp hSs hSn hSo
      go_upto_region 5 with fail
      rw [← show W1 = _ from hW1.out, hq.out]
      clear hW1 hq c0 c1 c2 c3
      refine wp_region_quiet_below (by kernel_rfl) (by kernel_rfl) ?_
      repeat (go_big_quiet_step (first | (with_reducible exact u1.out _ _) | (with_reducible exact u2.out _ _) | (with_reducible exact u3.out _ _) | (with_reducible exact u4.out _ _)))
      refine wpQuiet_nil ?_
      intro _ hw'
      obtain ⟨⟨dq, osq⟩, hw''⟩ := hw'
      subst hw''
      have hB2 := hB1.out.trans ((below_regrown W1 dq osq).mono hB1.out.size)
      generalize grow (redrawn W1 dq) osq = w7 at *
      have hfin := Lib.hid (And.intro hnew.out.symm hB2)
      clear g0 g1 g2 g3 u1 u2 u3 u4 hB1 hB2 lp ls ln lo
      go_wp2_with fail
      go_roundg (gk - 1)
      case measure => omega
      case rel => exact ⟨k + 1, _, by omega, by omega, by go_num, rfl, hfin⟩
    · obtain rfl : k = N := by omega
      subst hSe
      replace hB := Lib.hid hB
      go_wp2_with fail
      go_ret
      exact ⟨rfl, hB.out⟩
theorem rmay18_any (p s n : Int) (w : World) : Calls Try.prog 35 #[.int .i64 p, .int .i64 s, .int .i64 n] w fun e w' => e = .returned (.bool (decide (okB p s n 0))) ∧ w = w' := by
  obtain ⟨R, hm⟩ : ∃ R, Hid (decide (okB p s n 0) = R) := ⟨_, Lib.hid rfl⟩
  have bad : Hid (¬ okB p s n 0 → R = false) := Lib.hid (fun h => by rw [← hm.out]; exact decide_eq_false h)
  have fine : Hid (okB p s n 0 → R = true) := Lib.hid (fun h => by rw [← hm.out]; exact decide_eq_true h)
  rw [hm.out]
  clear hm
  by_cases c1 : ¬ 1 ≤ p
  · obtain rfl := bad.out (fun h => c1 h.1.1)
    go_enter Try.func35, Try.ntmps35
    go_wp2_with fail
    go_ret
    exact ⟨by simp; try omega, rfl⟩
  replace c1 := Classical.not_not.1 c1
  by_cases c2 : ¬ p ≤ 1099511627776
  · obtain rfl := bad.out (fun h => c2 h.1.2)
    go_enter Try.func35, Try.ntmps35
    go_wp2_with fail
    go_ret
    exact ⟨by simp; try omega, rfl⟩
  replace c2 := Classical.not_not.1 c2
  by_cases c3 : ¬ 0 ≤ s
  · obtain rfl := bad.out (fun h => c3 h.2.1.1)
    go_enter Try.func35, Try.ntmps35
    go_wp2_with fail
    go_ret
    exact ⟨by simp; try omega, rfl⟩
  replace c3 := Classical.not_not.1 c3
  by_cases c4 : ¬ s ≤ 1099511627776
  · obtain rfl := bad.out (fun h => c4 h.2.1.2)
    go_enter Try.func35, Try.ntmps35
    go_wp2_with fail
    go_ret
    exact ⟨by simp; try omega, rfl⟩
  replace c4 := Classical.not_not.1 c4
  by_cases c5 : ¬ 1 ≤ n
  · obtain rfl := bad.out (fun h => c5 h.2.2.1.1)
    go_enter Try.func35, Try.ntmps35
    go_wp2_with fail
    go_ret
    exact ⟨by simp; try omega, rfl⟩
  replace c5 := Classical.not_not.1 c5
  by_cases c6 : n ≤ 8
  · obtain rfl := fine.out ⟨⟨c1, c2⟩, ⟨c3, c4⟩, ⟨c5, c6⟩, by decide⟩
    go_enter Try.func35, Try.ntmps35
    go_wp2_with fail
    go_ret
    exact ⟨by simp; try omega, rfl⟩
  · obtain rfl := bad.out (fun h => c6 h.2.2.1.2)
    go_enter Try.func35, Try.ntmps35
    go_wp2_with fail
    go_ret
    exact ⟨by simp; try omega, rfl⟩
end Go.Proofs.Ytbbeapglkdkajaa.W
