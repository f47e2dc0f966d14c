/- The definition's Decode (18.3), whatever the bytes. -/
import Derived.Test.YtbbeapglkdkajaaDdZ
import Derived.Deep.LoopGhost
import Derived.Deep.Cut
import Derived.LoopN
namespace Go.Proofs.Ytbbeapglkdkajaa.W
open Go.RowKit Go.Sort
open Go.Proofs.Ytbbeapglkdkajaa.M Go.Proofs.Ytbbeapglkdkajaa.D Go.Proofs.Ytbbeapglkdkajaa.Z
set_option linter.unusedVariables false
set_option linter.unusedSimpArgs false

abbrev gotZ : List Value := [.slice none 0 0, .int .i64 0, .bool false]
theorem gotCells {W : World} {b : Nat} {t : TypeId} {a c d : Value} (h : Whole W b t [a, c, d]) : W.cell? ⟨b, 0, none⟩ = some a ∧ W.cell? ⟨b, 1, none⟩ = some c ∧ W.cell? ⟨b, 2, none⟩ = some d := ⟨h.cell 0, h.cell 1, h.cell 2⟩
/-- Between two rows: the rows that are read, the result's box. -/
def RefAt (w wr : World) (rb : Nat) (A : Option Addr) (t : List La) : Prop := LaL wr A t ∧ Whole wr rb 61 gotZ ∧ Below w.heap.size w wr ∧ w.heap.size ≤ rb
theorem RefAt.below {w a b : World} {rb : Nat} {A : Option Addr} {t : List La} (h : RefAt w a rb A t) (hb : Below a.heap.size a b) : RefAt w b rb A t :=
  ⟨h.1.below hb, h.2.1.below hb h.2.1.lt, h.2.2.1.trans (hb.mono h.2.2.1.size), h.2.2.2⟩
/-- Inside of a row: its numbers, too. -/
def QAt (w wr : World) (rb qb : Nat) (A : Option Addr) (t : List La) (cs : List Value) : Prop := RefAt w wr rb A t ∧ Whole wr qb 91 cs ∧ w.heap.size ≤ qb ∧ rb ≠ qb
theorem QAt.below {w a b : World} {rb qb : Nat} {A : Option Addr} {t : List La} {cs : List Value} (h : QAt w a rb qb A t cs) (hb : Below a.heap.size a b) : QAt w b rb qb A t cs :=
  ⟨h.1.below hb, h.2.1.below hb h.2.1.lt, h.2.2.1, h.2.2.2⟩
theorem QAt.store {w wr : World} {rb qb : Nat} {A : Option Addr} {t : List La} {cs cs' : List Value} (h : QAt w wr rb qb A t cs) (j : Nat) (v : Value) (hs : Whole (wr.setCell ⟨qb, j, none⟩ v) qb 91 cs') : QAt w (wr.setCell ⟨qb, j, none⟩ v) rb qb A t cs' := by
  obtain ⟨⟨h1, h2, h3, h4⟩, h5, h6, h7⟩ := h
  have hk : Kept (fun r => r = qb) wr (wr.setCell ⟨qb, j, none⟩ v) := (Kept.refl (fun r => r = qb) wr).setCells (c := qb) (.inl rfl) j [v]
  exact ⟨⟨h1.kept hk (fun g cur hg e => by subst e; exact (hg.ne h5 (by decide)) rfl), h2.of_kept hk h7, Z.below_store h3 h6 (Nat.le_refl _) j [v], h4⟩, hs, h6, h7⟩
theorem QAt.new {w wr : World} {rb : Nat} {A : Option Addr} {t : List La} (h : RefAt w wr rb A t) : QAt w (wr.alloc (.cells #[.int .i64 0, .int .i64 0, .int .i64 0, .int .i64 0] 91)) rb wr.heap.size A t [.int .i64 0, .int .i64 0, .int .i64 0, .int .i64 0] := by
  have hb : Below wr.heap.size wr (wr.alloc (.cells #[.int .i64 0, .int .i64 0, .int .i64 0, .int .i64 0] 91)) := grewAlloc (Below.refl _ _) _
  exact ⟨h.below hb, Whole.new _ _ _, h.2.2.1.size, by have := h.2.1.lt; omega⟩
/-- What the definition's Decode leaves. -/
def RefPost (w : World) (s : ByteArray) (e : Ending) (w' : World) : Prop :=
  (decT s.data.toList = none ∧ e = .returned (.agg #[.slice none 0 0, .int .i64 0, .bool false]) ∧ Below w.heap.size w w') ∨
  (∃ t p A c, decT s.data.toList = some (t, p) ∧ e = .returned (.agg #[.slice A t.length c, .int .i64 (p : Nat), .bool true]) ∧ LaL w' A t ∧ Below w.heap.size w w')
theorem row_step {l : List UInt8} {t : List La} {p q : Nat} {x : La} (h : rowR l p = some (x, q)) : stepD l (t, p) = if x.p ≤ aheadF t ∨ noteE t x ≠ 0 then none else some (t ++ [x], q) := by
  unfold stepD
  rw [h]
theorem step_row {l : List UInt8} {t : List La} {p : Nat} (h : rowR l p = none) : stepD l (t, p) = none := by
  unfold stepD
  rw [h]
theorem decT_lost {l : List UInt8} {n0 M k p : Nat} {t : List La} (hd : decT l = decS l n0 M) (hk : k < M) (hs : decS l n0 k = some (t, p)) (hst : stepD l (t, p) = none) : decT l = none := by
  rw [hd]
  refine decS_down (show k + 1 ≤ M by omega) ?_
  unfold decS
  rw [hs]
  exact hst
set_option maxRecDepth 100000 in
set_option maxHeartbeats 8000000 in
theorem rdec_any (s : ByteArray) (w : World) (hs : s.size ≤ 100000) :
    Calls Try.prog 26 #[.string s] w (RefPost w s) := by
  obtain ⟨l, hl⟩ : ∃ l, Hid (s.data.toList = l) := ⟨_, Lib.hid rfl⟩
  have hlen : l.length = s.size := by rw [← hl.out]; simp
  have hes : ∀ p, (s.extract p s.size).data.toList = l.drop p := fun p => by rw [ext_drop, hl.out]
  have hsz : ∀ p, (s.extract p s.size).size ≤ 100000 := fun p => by rw [ByteArray.size_extract]; omega
  unfold RefPost
  rw [hl.out]
  have hN0 := Lib.hid (fun W => rnum_none s l 0 W (by rw [hl.out]; rfl) hs)
  have hS0 := Lib.hid (fun n v W => rnum_some s l 0 n v W (by rw [hl.out]; rfl) hs (Nat.zero_le _))
  have hNN := Lib.hid (fun p W => rnum_none _ l p W (hes p) (hsz p))
  have hSS := Lib.hid (fun p n v W => rnum_some _ l p n v W (hes p) (hsz p))
  clear hes hsz
  obtain ⟨W0, hW0⟩ : ∃ V, Hid (V = w.alloc (.cells #[.slice none 0 0, .int .i64 0, .bool false] 61)) := ⟨_, Lib.hid rfl⟩
  have hR0 : Hid (RefAt w W0 w.heap.size none []) := Lib.hid ⟨.inl rfl, by rw [hW0.out]; exact Whole.new w _ _, by rw [hW0.out]; exact grewAlloc (Below.refl _ _) _, Nat.le_refl _⟩
  obtain ⟨rb, hrb⟩ : ∃ q, Hid (w.heap.size = q) := ⟨_, Lib.hid rfl⟩
  rw [show RefAt w W0 w.heap.size none [] = RefAt w W0 rb none [] from by rw [hrb.out]] at hR0
  go_enter Try.func26, Try.ntmps26
  go_upto_region 1 with fail
  rw [← show W0 = _ from hW0.out, hrb.out]
  clear hW0
  go_wp2_with fail
  rcases z0 : numR l 0 with _ | ⟨m0, p0⟩
  · have hdn : Hid (decT l = none) := Lib.hid (by unfold decT; rw [z0])
    refine (hN0.out _ z0).mono ?_
    rintro e w1 ⟨rfl, hb⟩
    have hR1 := Lib.hid (hR0.out.below hb)
    clear hb hN0 hS0 hNN hSS hR0 z0
    obtain ⟨r0, r1, r2⟩ := gotCells hR1.out.2.1
    have f0 := hR1.out.2.1.frozen 0
    have f1 := hR1.out.2.1.frozen 1
    have f2 := hR1.out.2.1.frozen 2
    obtain ⟨e0, e1, e2⟩ := gotCells (hR1.out.2.1.store 0 [.slice none 0 0, .int .i64 0, .bool false] (by simp))
    simp only [World.setCells, Nat.zero_add, Nat.reduceAdd] at e0 e1 e2
    have hB9 := Lib.hid (Z.below_store hR1.out.2.2.1 hR1.out.2.2.2 (Nat.le_refl _) 0 [.slice none 0 0, .int .i64 0, .bool false])
    go_wp2_with fail
    exact bodyPost_ret (v := .agg #[.slice none 0 0, .int .i64 0, .bool false]) (by simp [results, Try.results26, go_sem, e0, e1, e2]) rfl (.inl ⟨hdn.out, rfl, hB9.out⟩)

  obtain ⟨a1, a2, a3, a4, a5, a6⟩ := numD_in z0 (Nat.zero_le _)
  clear a1 a6
  obtain ⟨n0, rfl⟩ : ∃ n, p0 = 0 + n := ⟨p0, by omega⟩
  refine (hS0.out n0 m0 _ z0).mono ?_
  rintro e w1 ⟨rfl, hb⟩
  have hR1 := Lib.hid (hR0.out.below hb)
  clear hb hN0 hS0 hR0
  have hdT : decT l = if 16 < m0 then none else decS l (0 + n0) m0.toNat := by unfold decT; rw [z0]
  rw [Nat.zero_add] at hdT a3
  replace hdT := Lib.hid hdT
  clear z0 a2
  by_cases h16 : 16 < m0
  · have hdn : Hid (decT l = none) := Lib.hid (by rw [hdT.out, if_pos h16])
    obtain ⟨r0, r1, r2⟩ := gotCells hR1.out.2.1
    have f0 := hR1.out.2.1.frozen 0
    have f1 := hR1.out.2.1.frozen 1
    have f2 := hR1.out.2.1.frozen 2
    obtain ⟨e0, e1, e2⟩ := gotCells (hR1.out.2.1.store 0 [.slice none 0 0, .int .i64 0, .bool false] (by simp))
    simp only [World.setCells, Nat.zero_add, Nat.reduceAdd] at e0 e1 e2
    have hB9 := Lib.hid (Z.below_store hR1.out.2.2.1 hR1.out.2.2.2 (Nat.le_refl _) 0 [.slice none 0 0, .int .i64 0, .bool false])
    go_wp2_with fail
    exact bodyPost_ret (v := .agg #[.slice none 0 0, .int .i64 0, .bool false]) (by simp [results, Try.results26, go_sem, e0, e1, e2]) rfl (.inl ⟨hdn.out, rfl, hB9.out⟩)

  obtain ⟨M, rfl⟩ : ∃ M : Nat, m0 = (M : Int) := ⟨m0.toNat, by omega⟩
  have hdS : decT l = decS l n0 M := by rw [hdT.out, if_neg h16, Int.toNat_natCast]
  replace hdS := Lib.hid hdS
  clear hdT
  have hM : M ≤ 16 := by omega
  go_wp2_with fail
  go_loopg [4, 5, 24] M (fun ga pv av i wr => ∃ (k : Nat) (t : List La) (p : Nat) (A : Option Addr) (c : Nat), k ≤ M ∧ M ≤ k + ga ∧ i = .int .i64 k ∧ pv = .int .i64 p ∧ av = .slice A t.length c ∧ Hid (decS l n0 k = some (t, p) ∧ RefAt w wr rb A t))
  case atStart => exact ⟨0, [], n0, none, 0, by omega, by omega, rfl, rfl, rfl, Lib.hid ⟨rfl, hR1.out⟩⟩
  case round =>
    clear hR1
    obtain ⟨k, t, p, A, c, hk, hg, rfl, rfl, rfl, hrel⟩ := hrel
    generalize wr = wo at *
    obtain ⟨hds, hR⟩ := hrel.out
    clear hrel
    obtain ⟨f1, f2, f3, f4, f5⟩ := decS_facts (by omega) hds
    clear f1 f4
    replace hds := Lib.hid hds
    replace hR := Lib.hid hR
    replace f2 := Lib.hid f2
    replace f5 := Lib.hid f5
    by_cases hlt : k < M
    · have hki : (k : Int) < (M : Int) := by omega
      have hlost := Lib.hid (fun h => decT_lost hdS.out hlt hds.out h)
      have hQ0 := QAt.new hR.out
      obtain ⟨qb, hqb⟩ : ∃ q, Hid (wo.heap.size = q) := ⟨_, Lib.hid rfl⟩
      rw [hqb.out] at hQ0
      obtain ⟨V0, hV0⟩ : ∃ V, Hid (V = wo.alloc (.cells #[.int .i64 0, .int .i64 0, .int .i64 0, .int .i64 0] 91)) := ⟨_, Lib.hid rfl⟩
      rw [← show V0 = _ from hV0.out] at hQ0
      replace hQ0 := Lib.hid hQ0
      have hsl := slice_at s p (by omega)
      go_upto_region 8 with fail
      rw [← show V0 = _ from hV0.out, hqb.out]
      clear hV0 hqb
      go_wp2_with fail
      refine wp_loop_rounds 5 ?_
      rw [rounds_succ]
      go_wp2_with fail
      rcases z1 : numR l p with _ | ⟨a, q1⟩
      · have hdn : Hid (decT l = none) := Lib.hid (hlost.out (step_row (by unfold rowR; rw [z1]; rfl)))
        refine (hNN.out p _ z1).mono ?_
        rintro e w2 ⟨rfl, hb⟩
        have hR2 := Lib.hid (hQ0.out.1.below hb)
        clear hb hsl hQ0
        obtain ⟨r0, r1, r2⟩ := gotCells hR2.out.2.1
        have f0 := hR2.out.2.1.frozen 0
        have f1 := hR2.out.2.1.frozen 1
        have f2 := hR2.out.2.1.frozen 2
        obtain ⟨e0, e1, e2⟩ := gotCells (hR2.out.2.1.store 0 [.slice none 0 0, .int .i64 0, .bool false] (by simp))
        simp only [World.setCells, Nat.zero_add, Nat.reduceAdd] at e0 e1 e2
        have hB9 := Lib.hid (Z.below_store hR2.out.2.2.1 hR2.out.2.2.2 (Nat.le_refl _) 0 [.slice none 0 0, .int .i64 0, .bool false])
        go_wp2_with fail
        exact bodyPost_ret (v := .agg #[.slice none 0 0, .int .i64 0, .bool false]) (by simp [results, Try.results26, go_sem, e0, e1, e2]) rfl (.inl ⟨hdn.out, rfl, hB9.out⟩)

      obtain ⟨b1, b2, b3, b4, b5, b6⟩ := numD_in z1 (by omega)
      clear b1 b6
      obtain ⟨n1, hn1⟩ : ∃ n, q1 = p + n := ⟨q1 - p, by omega⟩
      have z1' := z1
      rw [hn1] at z1'
      have hw : IntKind.i64.wrap ((p : Int) + (n1 : Int)) = (q1 : Int) := by rw [IntWalk.i64_in _ (by omega)]; omega
      refine (hSS.out p n1 a _ (by omega) z1').mono ?_
      rintro e w2 ⟨rfl, hb⟩
      have hQx := hQ0.out.below hb
      clear z1'
      replace z1 := Lib.hid z1
      have x0 : w2.cell? ⟨qb, 0, none⟩ = some (.int .i64 0) := hQx.2.1.cell 0
      have g0 := hQx.2.1.frozen 0
      have hQ1 := Lib.hid (hQx.store 0 (.int .i64 a) (cs' := [.int .i64 a, .int .i64 0, .int .i64 0, .int .i64 0]) (hQx.2.1.store 0 [.int .i64 a] (by simp)))
      clear hb hQ0 hQx hsl b2 hn1
      go_wp2_with fail
      clear hw x0 g0
      have hsl := slice_at s q1 (by omega)
      rw [rounds_succ]
      go_wp2_with fail
      rcases z2 : numR l q1 with _ | ⟨b, q2⟩
      · have hdn : Hid (decT l = none) := Lib.hid (hlost.out (step_row (by unfold rowR; rw [z1.out]; dsimp only [Option.bind]; rw [z2])))
        refine (hNN.out q1 _ z2).mono ?_
        rintro e w2 ⟨rfl, hb⟩
        have hR2 := Lib.hid (hQ1.out.1.below hb)
        clear hb hsl hQ1
        obtain ⟨r0, r1, r2⟩ := gotCells hR2.out.2.1
        have f0 := hR2.out.2.1.frozen 0
        have f1 := hR2.out.2.1.frozen 1
        have f2 := hR2.out.2.1.frozen 2
        obtain ⟨e0, e1, e2⟩ := gotCells (hR2.out.2.1.store 0 [.slice none 0 0, .int .i64 0, .bool false] (by simp))
        simp only [World.setCells, Nat.zero_add, Nat.reduceAdd] at e0 e1 e2
        have hB9 := Lib.hid (Z.below_store hR2.out.2.2.1 hR2.out.2.2.2 (Nat.le_refl _) 0 [.slice none 0 0, .int .i64 0, .bool false])
        go_wp2_with fail
        exact bodyPost_ret (v := .agg #[.slice none 0 0, .int .i64 0, .bool false]) (by simp [results, Try.results26, go_sem, e0, e1, e2]) rfl (.inl ⟨hdn.out, rfl, hB9.out⟩)

      obtain ⟨b1, b2, b3, b4, b5, b6⟩ := numD_in z2 (by omega)
      clear b1 b6
      obtain ⟨n2, hn2⟩ : ∃ n, q2 = q1 + n := ⟨q2 - q1, by omega⟩
      have z2' := z2
      rw [hn2] at z2'
      have hw : IntKind.i64.wrap ((q1 : Int) + (n2 : Int)) = (q2 : Int) := by rw [IntWalk.i64_in _ (by omega)]; omega
      refine (hSS.out q1 n2 b _ (by omega) z2').mono ?_
      rintro e w3 ⟨rfl, hb⟩
      have hQx := hQ1.out.below hb
      clear z2'
      replace z2 := Lib.hid z2
      have x0 : w3.cell? ⟨qb, 1, none⟩ = some (.int .i64 0) := hQx.2.1.cell 1
      have g0 := hQx.2.1.frozen 1
      have hQ2 := Lib.hid (hQx.store 1 (.int .i64 b) (cs' := [.int .i64 a, .int .i64 b, .int .i64 0, .int .i64 0]) (hQx.2.1.store 1 [.int .i64 b] (by simp)))
      clear hb hQ1 hQx hsl b2 hn2
      go_wp2_with fail
      clear hw x0 g0
      have hsl := slice_at s q2 (by omega)
      rw [rounds_succ]
      go_wp2_with fail
      rcases z3 : numR l q2 with _ | ⟨c1, q3⟩
      · have hdn : Hid (decT l = none) := Lib.hid (hlost.out (step_row (by unfold rowR; rw [z1.out]; dsimp only [Option.bind]; rw [z2.out]; dsimp only [Option.bind]; rw [z3])))
        refine (hNN.out q2 _ z3).mono ?_
        rintro e w2 ⟨rfl, hb⟩
        have hR2 := Lib.hid (hQ2.out.1.below hb)
        clear hb hsl hQ2
        obtain ⟨r0, r1, r2⟩ := gotCells hR2.out.2.1
        have f0 := hR2.out.2.1.frozen 0
        have f1 := hR2.out.2.1.frozen 1
        have f2 := hR2.out.2.1.frozen 2
        obtain ⟨e0, e1, e2⟩ := gotCells (hR2.out.2.1.store 0 [.slice none 0 0, .int .i64 0, .bool false] (by simp))
        simp only [World.setCells, Nat.zero_add, Nat.reduceAdd] at e0 e1 e2
        have hB9 := Lib.hid (Z.below_store hR2.out.2.2.1 hR2.out.2.2.2 (Nat.le_refl _) 0 [.slice none 0 0, .int .i64 0, .bool false])
        go_wp2_with fail
        exact bodyPost_ret (v := .agg #[.slice none 0 0, .int .i64 0, .bool false]) (by simp [results, Try.results26, go_sem, e0, e1, e2]) rfl (.inl ⟨hdn.out, rfl, hB9.out⟩)

      obtain ⟨b1, b2, b3, b4, b5, b6⟩ := numD_in z3 (by omega)
      clear b1 b6
      obtain ⟨n3, hn3⟩ : ∃ n, q3 = q2 + n := ⟨q3 - q2, by omega⟩
      have z3' := z3
      rw [hn3] at z3'
      have hw : IntKind.i64.wrap ((q2 : Int) + (n3 : Int)) = (q3 : Int) := by rw [IntWalk.i64_in _ (by omega)]; omega
      refine (hSS.out q2 n3 c1 _ (by omega) z3').mono ?_
      rintro e w4 ⟨rfl, hb⟩
      have hQx := hQ2.out.below hb
      clear z3'
      replace z3 := Lib.hid z3
      have x0 : w4.cell? ⟨qb, 2, none⟩ = some (.int .i64 0) := hQx.2.1.cell 2
      have g0 := hQx.2.1.frozen 2
      have hQ3 := Lib.hid (hQx.store 2 (.int .i64 c1) (cs' := [.int .i64 a, .int .i64 b, .int .i64 c1, .int .i64 0]) (hQx.2.1.store 2 [.int .i64 c1] (by simp)))
      clear hb hQ2 hQx hsl b2 hn3
      go_wp2_with fail
      clear hw x0 g0
      have hsl := slice_at s q3 (by omega)
      rw [rounds_succ]
      go_wp2_with fail
      rcases z4 : numR l q3 with _ | ⟨d, q4⟩
      · have hdn : Hid (decT l = none) := Lib.hid (hlost.out (step_row (by unfold rowR; rw [z1.out]; dsimp only [Option.bind]; rw [z2.out]; dsimp only [Option.bind]; rw [z3.out]; dsimp only [Option.bind]; rw [z4])))
        refine (hNN.out q3 _ z4).mono ?_
        rintro e w2 ⟨rfl, hb⟩
        have hR2 := Lib.hid (hQ3.out.1.below hb)
        clear hb hsl hQ3
        obtain ⟨r0, r1, r2⟩ := gotCells hR2.out.2.1
        have f0 := hR2.out.2.1.frozen 0
        have f1 := hR2.out.2.1.frozen 1
        have f2 := hR2.out.2.1.frozen 2
        obtain ⟨e0, e1, e2⟩ := gotCells (hR2.out.2.1.store 0 [.slice none 0 0, .int .i64 0, .bool false] (by simp))
        simp only [World.setCells, Nat.zero_add, Nat.reduceAdd] at e0 e1 e2
        have hB9 := Lib.hid (Z.below_store hR2.out.2.2.1 hR2.out.2.2.2 (Nat.le_refl _) 0 [.slice none 0 0, .int .i64 0, .bool false])
        go_wp2_with fail
        exact bodyPost_ret (v := .agg #[.slice none 0 0, .int .i64 0, .bool false]) (by simp [results, Try.results26, go_sem, e0, e1, e2]) rfl (.inl ⟨hdn.out, rfl, hB9.out⟩)

      obtain ⟨b1, b2, b3, b4, b5, b6⟩ := numD_in z4 (by omega)
      clear b1 b6
      obtain ⟨n4, hn4⟩ : ∃ n, q4 = q3 + n := ⟨q4 - q3, by omega⟩
      have z4' := z4
      rw [hn4] at z4'
      have hw : IntKind.i64.wrap ((q3 : Int) + (n4 : Int)) = (q4 : Int) := by rw [IntWalk.i64_in _ (by omega)]; omega
      refine (hSS.out q3 n4 d _ (by omega) z4').mono ?_
      rintro e w5 ⟨rfl, hb⟩
      have hQx := hQ3.out.below hb
      clear z4'
      replace z4 := Lib.hid z4
      have x0 : w5.cell? ⟨qb, 3, none⟩ = some (.int .i64 0) := hQx.2.1.cell 3
      have g0 := hQx.2.1.frozen 3
      have hQ4 := Lib.hid (hQx.store 3 (.int .i64 d) (cs' := [.int .i64 a, .int .i64 b, .int .i64 c1, .int .i64 d]) (hQx.2.1.store 3 [.int .i64 d] (by simp)))
      clear hb hQ3 hQx hsl b2 hn4
      go_wp2_with fail
      clear hw x0 g0
      have hrow : rowR l p = some (⟨a, b, c1, d⟩, q4) := by
        unfold rowR
        rw [z1.out]
        dsimp only [Option.bind]
        rw [z2.out]
        dsimp only [Option.bind]
        rw [z3.out]
        dsimp only [Option.bind]
        rw [z4.out]
      have hst := row_step (t := t) hrow
      replace hrow := Lib.hid hrow
      clear z1 z2 z3 z4
      obtain ⟨V4, hV4⟩ : ∃ V, Hid (w5.setCell ⟨qb, 3, none⟩ (.int .i64 d) = V) := ⟨_, Lib.hid rfl⟩
      rw [hV4.out]
      rw [hV4.out] at hQ4
      clear hV4
      have y0 : V4.cell? ⟨qb, 0, none⟩ = some (.int .i64 a) := hQ4.out.2.1.cell 0
      have y1 : V4.cell? ⟨qb, 1, none⟩ = some (.int .i64 b) := hQ4.out.2.1.cell 1
      have y2 : V4.cell? ⟨qb, 2, none⟩ = some (.int .i64 c1) := hQ4.out.2.1.cell 2
      have y3 : V4.cell? ⟨qb, 3, none⟩ = some (.int .i64 d) := hQ4.out.2.1.cell 3
      rw [rounds_succ]
      go_wp2_with fail
      by_cases hno : noteE t ⟨a, b, c1, d⟩ ≠ 0
      · have hdn : Hid (decT l = none) := Lib.hid (hlost.out (by rw [hst, if_pos (.inr hno)]))
        have hnt := rnote_no A c t ⟨a, b, c1, d⟩ V4 hQ4.out.1.1 f2.out hno
        obtain ⟨er, her⟩ : ∃ e, Hid (noteE t ⟨a, b, c1, d⟩ = e) := ⟨_, Lib.hid rfl⟩
        rw [her.out] at hnt hno
        have er2 : (er != 0) = true := by simpa using hno
        have er3 : (er == 0) = false := by simpa using hno
        replace hno := Lib.hid hno
        dsimp only at hnt
        refine hnt.mono ?_
        rintro e w6 ⟨rfl, hb⟩
        obtain ⟨V6, hV6⟩ : ∃ V, Hid (V = w6.alloc (.cells #[.slice A t.length c, .int .i64 er] 46)) := ⟨_, Lib.hid rfl⟩
        have hb6 : Below w6.heap.size w6 V6 := by rw [hV6.out]; exact grewAlloc (Below.refl _ _) _
        have hX : Whole V6 w6.heap.size 46 [.slice A t.length c, .int .i64 er] := by rw [hV6.out]; exact Whole.new w6 _ _
        obtain ⟨xb, hxb⟩ : ∃ q, Hid (w6.heap.size = q) := ⟨_, Lib.hid rfl⟩
        rw [hxb.out] at hX
        have hR2 := Lib.hid ((hQ4.out.1.below hb).below hb6)
        have u1 : V6.cell? ⟨xb, 1, none⟩ = some (.int .i64 er) := hX.cell 1
        clear hnt hb hb6 hX hQ4 y0 y1 y2 y3 hst
        go_upto_region 18 with fail
        rw [← show V6 = _ from hV6.out, hxb.out]
        clear hV6 hxb
        go_quiet (fail)
        have hR3 := Lib.hid (hR2.out.below (((Kept.refl (fun _ => False) V6).drewN nq).below (Nat.le_refl _) (fun _ h => h.elim)))
        obtain ⟨r0, r1, r2⟩ := gotCells hR3.out.2.1
        have f0 := hR3.out.2.1.frozen 0
        have f1 := hR3.out.2.1.frozen 1
        have f2 := hR3.out.2.1.frozen 2
        obtain ⟨e0, e1, e2⟩ := gotCells (hR3.out.2.1.store 0 [.slice none 0 0, .int .i64 0, .bool false] (by simp))
        simp only [World.setCells, Nat.zero_add, Nat.reduceAdd] at e0 e1 e2
        have hB9 := Lib.hid (Z.below_store hR3.out.2.2.1 hR3.out.2.2.2 (Nat.le_refl _) 0 [.slice none 0 0, .int .i64 0, .bool false])
        go_wp2_with fail
        exact bodyPost_ret (v := .agg #[.slice none 0 0, .int .i64 0, .bool false]) (by simp [results, Try.results26, go_sem, e0, e1, e2]) rfl (.inl ⟨hdn.out, rfl, hB9.out⟩)

      have hz : noteE t ⟨a, b, c1, d⟩ = 0 := Classical.not_not.1 hno
      have hnt := rnote_yes A c t ⟨a, b, c1, d⟩ V4 hQ4.out.1.1 f2.out hz
      replace hz := Lib.hid hz
      clear hno
      dsimp only at hnt
      refine hnt.mono ?_
      rintro e w6 ⟨A2, c2, rfl, hL6, hb⟩
      obtain ⟨l2, hl2⟩ : ∃ l2, Hid (noteL t ⟨a, b, c1, d⟩ = l2) := ⟨_, Lib.hid rfl⟩
      rw [hl2.out] at hL6
      rw [hl2.out]
      obtain ⟨V6, hV6⟩ : ∃ V, Hid (V = w6.alloc (.cells #[.slice A2 l2.length c2, .int .i64 0] 46)) := ⟨_, Lib.hid rfl⟩
      have hb6 : Below w6.heap.size w6 V6 := by rw [hV6.out]; exact grewAlloc (Below.refl _ _) _
      have hX : Whole V6 w6.heap.size 46 [.slice A2 l2.length c2, .int .i64 0] := by rw [hV6.out]; exact Whole.new w6 _ _
      obtain ⟨xb, hxb⟩ : ∃ q, Hid (w6.heap.size = q) := ⟨_, Lib.hid rfl⟩
      rw [hxb.out] at hX
      have hQ6 := Lib.hid ((hQ4.out.below hb).below hb6)
      have hL7 := Lib.hid (hL6.below hb6)
      have u0 : V6.cell? ⟨xb, 0, none⟩ = some (.slice A2 l2.length c2) := hX.cell 0
      have u1 : V6.cell? ⟨xb, 1, none⟩ = some (.int .i64 0) := hX.cell 1
      have y0' : V6.cell? ⟨qb, 0, none⟩ = some (.int .i64 a) := hQ6.out.2.1.cell 0
      clear hnt hb hb6 hX hQ4 y0 y1 y2 y3 hL6
      go_upto_region 18 with fail
      rw [← show V6 = _ from hV6.out, hxb.out]
      clear hV6 hxb
      obtain ⟨H, hH⟩ : ∃ H, Hid (aheadF t = H) := ⟨_, Lib.hid rfl⟩
      have hfin : H < a → Hid (decS l n0 (k + 1) = some (l2, q4)) := fun h => Lib.hid (by
        have e1 : decS l n0 (k + 1) = stepD l (t, p) := by
          unfold decS
          rw [hds.out]
          rfl
        rw [e1, hst, if_neg (by rintro (h1 | h1); rw [hH.out] at h1; exact absurd h1 (by show ¬ a ≤ H; omega); exact h1 hz.out), ← hl2.out, noteL_end (fun y hy => Int.lt_of_le_of_lt (f5.out y hy) (by rw [hH.out]; exact h))])
      have hbad : a ≤ H → Hid (decT l = none) := fun h => Lib.hid (hlost.out (by rw [hst, if_pos (.inl (by rw [hH.out]; exact h))]))
      clear hst hlost hrow
      obtain ⟨K, hK⟩ : ∃ K, Hid (t.length = K) := ⟨_, Lib.hid rfl⟩
      rw [hK.out]
      have hK16 : K ≤ 16 := by have := f2.out.few; have := hK.out; omega
      cases K with
      | zero =>
        have hH0 : H < a := by
          have ht : t = [] := List.length_eq_zero_iff.1 hK.out
          have := (noteE_zero hz.out).1.1
          rw [← hH.out, ht]
          show (0 : Int) < a
          have h1 : (1 : Int) ≤ a := this.1
          omega
        have hfin2 := hfin hH0
        clear hfin hbad
        go_quiet (fail)
        have hbd := ((Kept.refl (fun _ => False) V6).drewN nq).below (Nat.le_refl _) (fun _ h => h.elim)
        have hLd := Lib.hid (hL7.out.below hbd)
        have hRd := Lib.hid (hQ6.out.1.below hbd)
        clear hbd
        have u0d : (V6.drewN nq).cell? ⟨xb, 0, none⟩ = some (.slice A2 l2.length c2) := by simpa using u0
        go_wp2_with fail
        go_roundg (gk - 1)
        case measure => omega
        case rel => exact ⟨k + 1, l2, q4, A2, c2, by omega, by omega, by go_num, rfl, rfl, Lib.hid ⟨hfin2.out, hLd.out, (hRd.out).2⟩⟩
      | succ K =>
        obtain ⟨z, hz2⟩ : ∃ z, t[K]? = some z := ⟨_, List.getElem?_eq_getElem (by have := hK.out; omega)⟩
        have hzH : z.p = H := by
          rw [← hH.out]
          unfold aheadF
          rw [List.getLast?_eq_getElem?, hK.out, show K + 1 - 1 = K from rfl, hz2]
        obtain ⟨g, rfl, s0, _, _, _⟩ := hQ6.out.1.1.cell hz2
        rw [hzH] at s0
        have hw1 : IntKind.i64.wrap (((K + 1 : Nat) : Int) - 1) = (K : Int) := by rw [IntWalk.i64_in _ (by omega)]; omega
        have hw2 : (K : Int) < ((K + 1 : Nat) : Int) := by omega
        have hw3 : (0 : Int) < ((K + 1 : Nat) : Int) := by omega
        obtain ⟨N, hN⟩ : ∃ N : Nat, Hid (K + 1 = N) := ⟨_, Lib.hid rfl⟩
        rw [hN.out] at hw1 hw2 hw3 ⊢
        have hw4 : 0 < N := by omega
        have hw5 : decide ((0 : Int) < (N : Int)) = true := decide_eq_true hw3
        have hw6 : decide (0 < N) = true := decide_eq_true hw4
        replace hz2 := Lib.hid hz2
        by_cases hc : a ≤ H
        · have hdn := hbad hc
          have hR2 := Lib.hid hQ6.out.1
          clear hfin hbad
          go_quiet (fail)
          have hR3 := Lib.hid (hR2.out.below (((Kept.refl (fun _ => False) V6).drewN nq).below (Nat.le_refl _) (fun _ h => h.elim)))
          obtain ⟨r0, r1, r2⟩ := gotCells hR3.out.2.1
          have f0 := hR3.out.2.1.frozen 0
          have f1 := hR3.out.2.1.frozen 1
          have f2 := hR3.out.2.1.frozen 2
          obtain ⟨e0, e1, e2⟩ := gotCells (hR3.out.2.1.store 0 [.slice none 0 0, .int .i64 0, .bool false] (by simp))
          simp only [World.setCells, Nat.zero_add, Nat.reduceAdd] at e0 e1 e2
          have hB9 := Lib.hid (Z.below_store hR3.out.2.2.1 hR3.out.2.2.2 (Nat.le_refl _) 0 [.slice none 0 0, .int .i64 0, .bool false])
          go_wp2_with fail
          exact bodyPost_ret (v := .agg #[.slice none 0 0, .int .i64 0, .bool false]) (by simp [results, Try.results26, go_sem, e0, e1, e2]) rfl (.inl ⟨hdn.out, rfl, hB9.out⟩)
        · have hc' : H < a := by omega
          have hfin2 := hfin hc'
          clear hfin hbad
          go_quiet (fail)
          have u0d : (V6.drewN nq).cell? ⟨xb, 0, none⟩ = some (.slice A2 l2.length c2) := by simpa using u0
          have hbd := ((Kept.refl (fun _ => False) V6).drewN nq).below (Nat.le_refl _) (fun _ h => h.elim)
          have hLd := Lib.hid (hL7.out.below hbd)
          have hRd := Lib.hid (hQ6.out.1.below hbd)
          clear hbd
          go_wp2_with fail
          go_roundg (gk - 1)
          case measure => omega
          case rel => exact ⟨k + 1, l2, q4, A2, c2, by omega, by omega, by go_num, rfl, rfl, Lib.hid ⟨hfin2.out, hLd.out, hRd.out.2⟩⟩
    · obtain rfl : k = M := by omega
      have hfin : Hid (decT l = some (t, p)) := Lib.hid (hdS.out.trans hds.out)
      obtain ⟨r0, r1, r2⟩ := gotCells hR.out.2.1
      have f0 := hR.out.2.1.frozen 0
      have f1 := hR.out.2.1.frozen 1
      have f2 := hR.out.2.1.frozen 2
      obtain ⟨e0, e1, e2⟩ := gotCells (hR.out.2.1.store 0 [.slice A t.length c, .int .i64 (p : Int), .bool true] (by simp))
      simp only [World.setCells, Nat.zero_add, Nat.reduceAdd] at e0 e1 e2
      have hB9 := Lib.hid (Z.below_store hR.out.2.2.1 hR.out.2.2.2 (Nat.le_refl _) 0 [.slice A t.length c, .int .i64 (p : Int), .bool true])
      have hL9 : Hid (LaL (wo.setCells rb 0 [.slice A t.length c, .int .i64 (p : Int), .bool true]) A t) := Lib.hid (hR.out.1.kept ((Kept.refl (fun r => r = rb) wo).setCells (c := rb) (.inl rfl) 0 _) (fun g cur hg e => by subst e; exact (hg.ne hR.out.2.1 (by decide)) rfl))
      clear hdS hds
      go_wp2_with fail
      exact bodyPost_ret (v := .agg #[.slice A t.length c, .int .i64 (p : Int), .bool true]) (by simp [results, Try.results26, go_sem, e0, e1, e2]) rfl (.inr ⟨t, p, A, c, hfin.out, rfl, hL9.out, hB9.out⟩)
end Go.Proofs.Ytbbeapglkdkajaa.W
