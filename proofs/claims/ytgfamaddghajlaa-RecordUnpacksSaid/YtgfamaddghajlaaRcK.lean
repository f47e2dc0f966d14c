/- The definition's records: the six numbers with which bytes begin. -/
import Derived.Test.YtgfamaddghajlaaRcD
import Derived.Deep.LoopGhost
namespace Go.Proofs.Ytgfamaddghajlaa.W
open Go.RowKit Go.Sort
open Go.Proofs.Ytgfamaddghajlaa.M Go.Proofs.Ytgfamaddghajlaa.D
set_option linter.unusedVariables false
set_option linter.unusedSimpArgs false

/-- So many chains of numbers that may be, one behind the other. -/
def chs : Nat → List UInt8 → Option (List Int × Nat)
  | 0, _ => some ([], 0)
  | k + 1, l => (chs k l).bind fun a => (chAt l a.2).bind fun b => if 1099511627776 < b.1 then none else some (a.1 ++ [b.1], b.2)
theorem chs_len {l : List UInt8} : ∀ {k : Nat} {vs : List Int} {p : Nat}, chs k l = some (vs, p) → vs.length = k ∧ p ≤ l.length := by
  intro k
  induction k with
  | zero => intro vs p h; simp only [chs, Option.some.injEq, Prod.mk.injEq] at h; obtain ⟨rfl, rfl⟩ := h; exact ⟨rfl, Nat.zero_le _⟩
  | succ k ih =>
    intro vs p h
    simp only [chs, Option.bind_eq_some_iff] at h
    obtain ⟨⟨vs', p'⟩, h1, ⟨v, q⟩, h2, h3⟩ := h
    obtain ⟨e1, e2⟩ := ih h1
    dsimp only at h2 h3
    by_cases hv : 1099511627776 < v
    · rw [if_pos hv] at h3; cases h3
    · rw [if_neg hv] at h3
      simp only [Option.some.injEq, Prod.mk.injEq] at h3
      obtain ⟨rfl, rfl⟩ := h3
      exact ⟨by rw [List.length_append, e1]; rfl, (chAt_back h2 e2).2.1⟩
theorem chs_down {l : List UInt8} {j k : Nat} (h : j ≤ k) (hn : chs j l = none) : chs k l = none := by
  induction k with
  | zero => obtain rfl : j = 0 := by omega
            exact hn
  | succ k ih =>
    by_cases e : j = k + 1
    · subst e; exact hn
    · simp only [chs, ih (by omega), Option.bind_none]
/-- The cells of the numbers, as many as there are. -/
def six (vs : List Int) : List Value := (vs.map fun v => Value.int .i64 v) ++ List.replicate (6 - vs.length) (.int .i64 0)
theorem six_len {vs : List Int} (h : vs.length ≤ 6) : (six vs).length = 6 := by unfold six; simp; omega
theorem six_step {vs : List Int} {v : Int} {k : Nat} (h : vs.length = k) (hk : k < 6) : splice (six vs) k [.int .i64 v] = six (vs ++ [v]) := by
  unfold splice six
  have e1 : (vs.map fun v => Value.int .i64 v).length = k := by simp [h]
  rw [List.take_left' e1, List.map_append, List.append_assoc]
  congr 1
  rw [List.length_append, List.length_singleton, List.length_singleton, h, List.drop_append, List.drop_of_length_le (by omega), List.nil_append, List.drop_replicate, e1]
  show _ = [Value.int .i64 v] ++ _
  congr 2
  omega

theorem six_open : ∀ {vs : List Int}, vs.length ≤ 6 → ∃ a0 a1 a2 a3 a4 a5 : Int, six vs = [.int .i64 a0, .int .i64 a1, .int .i64 a2, .int .i64 a3, .int .i64 a4, .int .i64 a5]
  | [], _ => ⟨0, 0, 0, 0, 0, 0, rfl⟩
  | [a], _ => ⟨a, 0, 0, 0, 0, 0, rfl⟩
  | [a, b], _ => ⟨a, b, 0, 0, 0, 0, rfl⟩
  | [a, b, c], _ => ⟨a, b, c, 0, 0, 0, rfl⟩
  | [a, b, c, d], _ => ⟨a, b, c, d, 0, 0, rfl⟩
  | [a, b, c, d, e], _ => ⟨a, b, c, d, e, 0, rfl⟩
  | [a, b, c, d, e, f], _ => ⟨a, b, c, d, e, f, rfl⟩
  | _ :: _ :: _ :: _ :: _ :: _ :: _ :: _, h => by simp at h
theorem chs_step {l : List UInt8} {k : Nat} {vs : List Int} {p : Nat} (h : chs (k + 1) l = some (vs, p)) : ∃ vs' p' v, chs k l = some (vs', p') ∧ chAt l p' = some (v, p) ∧ v ≤ 1099511627776 ∧ vs = vs' ++ [v] := by
  simp only [chs, Option.bind_eq_some_iff] at h
  obtain ⟨⟨vs', p'⟩, h1, ⟨v, q⟩, h2, h3⟩ := h
  dsimp only at h2 h3
  by_cases hv : 1099511627776 < v
  · rw [if_pos hv] at h3; cases h3
  · rw [if_neg hv] at h3
    simp only [Option.some.injEq, Prod.mk.injEq] at h3
    obtain ⟨rfl, rfl⟩ := h3
    exact ⟨vs', p', v, h1, h2, by omega, rfl⟩
theorem chs_six {l : List UInt8} {vs : List Int} {p : Nat} (h : chs 6 l = some (vs, p)) : ∃ (o t c d f g : Int) (p1 p2 p3 p4 p5 : Nat), vs = [o, t, c, d, f, g] ∧ chAt l 0 = some (o, p1) ∧ chAt l p1 = some (t, p2) ∧ chAt l p2 = some (c, p3) ∧ chAt l p3 = some (d, p4) ∧ chAt l p4 = some (f, p5) ∧ chAt l p5 = some (g, p) := by
  obtain ⟨v5, p5, g, h5, e5, _, rfl⟩ := chs_step h
  obtain ⟨v4, p4, f, h4, e4, _, rfl⟩ := chs_step h5
  obtain ⟨v3, p3, d, h3, e3, _, rfl⟩ := chs_step h4
  obtain ⟨v2, p2, c, h2, e2, _, rfl⟩ := chs_step h3
  obtain ⟨v1, p1, t, h1, e1, _, rfl⟩ := chs_step h2
  obtain ⟨v0, p0, o, h0, e0, _, rfl⟩ := chs_step h1
  simp only [chs, Option.some.injEq, Prod.mk.injEq] at h0
  obtain ⟨rfl, rfl⟩ := h0
  exact ⟨o, t, c, d, f, g, p1, p2, p3, p4, p5, rfl, e0, e1, e2, e3, e4, e5⟩
theorem recAt_parts {s : ByteArray} {p q : Nat} {r : Rc} (h : recAt s p = some (r, q)) (hp : p ≤ s.size) : ∃ p1 p2 p3 p4 p5 p6 p7, chAt s.data.toList p = some (r.off, p1) ∧ chAt s.data.toList p1 = some (r.tick, p2) ∧ chAt s.data.toList p2 = some (r.prod, p3) ∧ chAt s.data.toList p3 = some (r.seq, p4) ∧ chAt s.data.toList p4 = some (r.frm, p5) ∧
    chAt s.data.toList p5 = some (goneI r.gone, p6) ∧ txAt s p6 = some (r.key, p7) ∧ txAt s p7 = some (r.val, q) ∧ r.ok := by
  have hlen : s.data.toList.length = s.size := by simp
  unfold recAt at h
  simp only [Option.bind_eq_some_iff] at h
  obtain ⟨⟨o, p1⟩, e1, ⟨t, p2⟩, e2, ⟨pr, p3⟩, e3, ⟨sq, p4⟩, e4, ⟨fr, p5⟩, e5, ⟨g, p6⟩, e6, h⟩ := h
  dsimp only at e1 e2 e3 e4 e5 e6 h
  by_cases hg : 1 < g
  · rw [if_pos hg] at h; cases h
  · rw [if_neg hg] at h
    simp only [Option.bind_eq_some_iff] at h
    obtain ⟨⟨k, p7⟩, e7, ⟨v, p8⟩, e8, h⟩ := h
    dsimp only at e7 e8 h
    by_cases hok : (Rc.mk o t k v (decide (g = 1)) pr sq fr).ok
    · rw [if_pos hok] at h
      simp only [Option.some.injEq, Prod.mk.injEq] at h
      obtain ⟨rfl, rfl⟩ := h
      obtain ⟨_, b1, _, _, _⟩ := chAt_back e1 (by omega)
      obtain ⟨_, b2, _, _, _⟩ := chAt_back e2 b1
      obtain ⟨_, b3, _, _, _⟩ := chAt_back e3 b2
      obtain ⟨_, b4, _, _, _⟩ := chAt_back e4 b3
      obtain ⟨_, b5, _, _, _⟩ := chAt_back e5 b4
      obtain ⟨_, _, g0, _, _⟩ := chAt_back e6 b5
      have hgi : goneI (decide (g = 1)) = g := by
        unfold goneI
        by_cases hg1 : g = 1
        · simp [hg1]
        · have : g = 0 := by omega
          simp [this]
      exact ⟨p1, p2, p3, p4, p5, p6, p7, e1, e2, e3, e4, e5, by rw [hgi]; exact e6, e7, e8, hok⟩
    · rw [if_neg hok] at h; cases h
/-- Where the numbers are not there, or too large, there is no record. -/
theorem chs_none {s : ByteArray} (h : chs 6 s.data.toList = none) : recAt s 0 = none := by
  refine Option.eq_none_iff_forall_ne_some.2 fun ⟨r, q⟩ hr => ?_
  obtain ⟨p1, p2, p3, p4, p5, p6, p7, e1, e2, e3, e4, e5, e6, _, _, hok⟩ := recAt_parts hr (Nat.zero_le _)
  obtain ⟨⟨_, a1⟩, ⟨_, a2⟩, ⟨_, a3⟩, ⟨_, a4⟩, ⟨_, a5⟩, _⟩ := hok
  have a6 : goneI r.gone ≤ 1 := by unfold goneI; split <;> omega
  have : chs 6 s.data.toList = some ([] ++ [r.off] ++ [r.tick] ++ [r.prod] ++ [r.seq] ++ [r.frm] ++ [goneI r.gone], p6) := by
    simp only [chs, Option.bind_some, e1, e2, e3, e4, e5, e6]
    rw [if_neg (by omega)]
    simp only [Option.bind_some, e2]
    rw [if_neg (by omega)]
    simp only [Option.bind_some, e3]
    rw [if_neg (by omega)]
    simp only [Option.bind_some, e4]
    rw [if_neg (by omega)]
    simp only [Option.bind_some, e5]
    rw [if_neg (by omega)]
    simp only [Option.bind_some, e6]
    rw [if_neg (by omega)]
  rw [h] at this; cases this

/-- What the numbers come to. -/
def NumPost (s : ByteArray) (e : Ending) : Prop :=
  (∃ vs p, chs 6 s.data.toList = some (vs, p) ∧ e = .returned (.tuple #[.agg (six vs).toArray, .int .i64 (p : Int)])) ∨
  (chs 6 s.data.toList = none ∧ ∃ a0 a1 a2 a3 a4 a5 : Int, e = .returned (.tuple #[.agg #[.int .i64 a0, .int .i64 a1, .int .i64 a2, .int .i64 a3, .int .i64 a4, .int .i64 a5], .int .i64 (-1)]))
theorem six_cells {W : World} {b : Nat} {a0 a1 a2 a3 a4 a5 : Int} (h : Whole W b 57 [.int .i64 a0, .int .i64 a1, .int .i64 a2, .int .i64 a3, .int .i64 a4, .int .i64 a5]) :
    W.cell? ⟨b, 0, none⟩ = some (.int .i64 a0) ∧ W.cell? ⟨b, 1, none⟩ = some (.int .i64 a1) ∧ W.cell? ⟨b, 2, none⟩ = some (.int .i64 a2) ∧ W.cell? ⟨b, 3, none⟩ = some (.int .i64 a3) ∧ W.cell? ⟨b, 4, none⟩ = some (.int .i64 a4) ∧ W.cell? ⟨b, 5, none⟩ = some (.int .i64 a5) :=
  ⟨h.cell 0, h.cell 1, h.cell 2, h.cell 3, h.cell 4, h.cell 5⟩
abbrev z6 : List Value := [.int .i64 0, .int .i64 0, .int .i64 0, .int .i64 0, .int .i64 0, .int .i64 0]

set_option maxRecDepth 100000 in
set_option maxHeartbeats 2000000 in
theorem numbers_any (s : ByteArray) (w : World) (hs : s.size ≤ 100000) :
    Calls Try.prog 31 #[.string s] w fun e w' => NumPost s e ∧ Below w.heap.size w w' := by
  have hlen : s.data.toList.length = s.size := by simp
  have hu := Lib.hid (fun (p : Nat) (hp : p ≤ s.size) W => by
    have h := runchain_any (s.extract p s.size) W (by rw [ByteArray.size_extract]; omega)
    rw [ext_drop] at h
    exact h)
  have hR := (Whole.new w 57 z6).alloc (.cells z6.toArray 57)
  have hX := Whole.new (w.alloc (.cells z6.toArray 57)) 57 z6
  have hB := ((Below.refl w.heap.size w).alloc (Nat.le_refl _) (.cells z6.toArray 57)).alloc (by simp) (.cells z6.toArray 57)
  obtain ⟨n, hn⟩ : ∃ n, Hid (w.heap.size = n) := ⟨_, Lib.hid rfl⟩
  rw [show (w.alloc (.cells z6.toArray 57)).heap.size = n + 1 by rw [← hn.out]; simp] at hX
  rw [hn.out] at hR hB ⊢
  obtain ⟨W0, hW0⟩ : ∃ W0, Hid (W0 = (w.alloc (.cells #[.int .i64 0, .int .i64 0, .int .i64 0, .int .i64 0, .int .i64 0, .int .i64 0] 57)).alloc (.cells #[.int .i64 0, .int .i64 0, .int .i64 0, .int .i64 0, .int .i64 0, .int .i64 0] 57)) := ⟨_, Lib.hid rfl⟩
  rw [← show W0 = _ from hW0.out] at hR hX hB
  have hs0 : n + 2 ≤ W0.heap.size := by rw [hW0.out, ← hn.out]; simp
  replace hR := Lib.hid hR
  replace hX := Lib.hid hX
  replace hB := Lib.hid hB
  go_enter Try.func31, Try.ntmps31
  go_upto_region 2 with fail
  rw [← show W0 = _ from hW0.out, hn.out]
  clear hW0
  go_wp2_with fail
  go_loopg [5, 9] 6 (fun ga pv i wr => ∃ (k p : Nat) (vs : List Int), k ≤ 6 ∧ 6 ≤ k + ga ∧ i = .int .i64 k ∧ pv = .int .i64 p ∧ Hid (chs k s.data.toList = some (vs, p) ∧ Whole wr n 57 z6 ∧ Whole wr (n + 1) 57 (six vs) ∧ Below n w wr ∧ n + 2 ≤ wr.heap.size))
  case atStart => exact ⟨0, 0, [], by omega, by omega, rfl, rfl, Lib.hid ⟨rfl, hR.out, hX.out, hB.out, hs0⟩⟩
  case round =>
    clear hR hX hB hs0
    obtain ⟨k, p, vs, hk, hg, rfl, rfl, hrel⟩ := hrel
    obtain ⟨hc, hR, hX, hB, hs2⟩ := hrel.out
    clear hrel
    obtain ⟨hvl, hpl⟩ := chs_len hc
    rw [hlen] at hpl
    generalize wr = wo at *
    by_cases hlt : k < 6
    · have hsl := slice_from s p hpl
      obtain ⟨⟨v, m, x⟩, hU⟩ : ∃ u, unch (s.data.toList.drop p) = u := ⟨_, rfl⟩
      have hfa := unch_facts (s.data.toList.drop p)
      rw [hU] at hfa
      dsimp only at hfa
      obtain ⟨f0, f1, hfa⟩ := hfa
      have hup := hu.out p hpl wo
      rw [hU] at hup
      have hnx : chs (k + 1) s.data.toList = if x ≠ 0 ∨ 1099511627776 < v then none else some (vs ++ [v], p + m.toNat) := by
        simp only [chs, hc, Option.bind_some]
        unfold chAt
        rw [hU]
        dsimp only
        by_cases hx : x = 0
        · rw [if_pos hx, Option.bind_some]
          by_cases hv : 1099511627776 < v
          · rw [if_pos hv, if_pos (.inr hv)]
          · rw [if_neg hv, if_neg (by rintro (h | h); exact h hx; exact hv h)]
        · rw [if_neg hx, if_pos (.inl hx)]; rfl
      replace hup := Lib.hid hup
      by_cases hbad : x ≠ 0 ∨ 1099511627776 < v
      · rw [if_pos hbad] at hnx
        have hno := Lib.hid (chs_down (show k + 1 ≤ 6 by omega) hnx)
        obtain ⟨a0, a1, a2, a3, a4, a5, hsx⟩ := six_open (vs := vs) (by omega)
        rw [hsx] at hX
        have hRn := (hR.alloc (.cells #[.int .u64 v, .int .i64 m, .int .i64 x] 86)).alloc (.cells #[.int .u64 v, .int .i64 m, .int .i64 x] 86)
        have hXn := (hX.alloc (.cells #[.int .u64 v, .int .i64 m, .int .i64 x] 86)).alloc (.cells #[.int .u64 v, .int .i64 m, .int .i64 x] 86)
        have hBn := (hB.alloc (by have := hs2; omega) (.cells #[.int .u64 v, .int .i64 m, .int .i64 x] 86)).alloc (by have := hs2; simp; omega) (.cells #[.int .u64 v, .int .i64 m, .int .i64 x] 86)
        obtain ⟨W2, hW2⟩ : ∃ W2, Hid (W2 = (wo.alloc (.cells #[.int .u64 v, .int .i64 m, .int .i64 x] 86)).alloc (.cells #[.int .u64 v, .int .i64 m, .int .i64 x] 86)) := ⟨_, Lib.hid rfl⟩
        have hsw : n + 2 ≤ W2.heap.size := by rw [hW2.out]; simp; omega
        have hgot : Whole W2 (wo.heap.size + 1) 86 [.int .u64 v, .int .i64 m, .int .i64 x] := by
          rw [hW2.out]
          have h := Whole.new (wo.alloc (.cells #[.int .u64 v, .int .i64 m, .int .i64 x] 86)) 86 [.int .u64 v, .int .i64 m, .int .i64 x]
          rwa [show (wo.alloc (.cells #[.int .u64 v, .int .i64 m, .int .i64 x] 86)).heap.size = wo.heap.size + 1 by simp] at h
        have q0 := hgot.cell 0
        have q1 := hgot.cell 1
        have q2 := hgot.cell 2
        simp only [List.getElem?_cons_zero, List.getElem?_cons_succ] at q0 q1 q2
        rw [← show W2 = _ from hW2.out] at hRn hXn hBn
        obtain ⟨c0, c1, c2, c3, c4, c5⟩ := six_cells hXn
        obtain ⟨d0, d1, d2, d3, d4, d5⟩ := six_cells hRn
        have z0 := hRn.frozen 0
        have z1 := hRn.frozen 1
        have z2 := hRn.frozen 2
        have z3 := hRn.frozen 3
        have z4 := hRn.frozen 4
        have z5 := hRn.frozen 5
        have hRN := Lib.hid hRn
        have hBf : Below n w (W2.setCells n 0 [.int .i64 a0, .int .i64 a1, .int .i64 a2, .int .i64 a3, .int .i64 a4, .int .i64 a5]) := Lib.hid (hBn.trans (((Kept.refl (fun q => q = n) _).setCells (c := n) (.inl rfl) 0 [.int .i64 a0, .int .i64 a1, .int .i64 a2, .int .i64 a3, .int .i64 a4, .int .i64 a5]).below (by omega) (fun k e => by omega))) |>.out
        replace hBf := Lib.hid hBf
        clear hgot hnx hfa hc hR hX hB hRn hXn hBn
        clear hU hsx hvl f0 f1
        rcases hbad with hx | hv
        · have hx2 : (x != 0) = true := by simpa using hx
          have hx3 : ¬ x = 0 := hx
          clear hx
          go_wp2_with fail
          refine hup.out.mono ?_
          rintro e w1 ⟨rfl, rfl⟩
          go_upto_region 7 with fail
          rw [← show W2 = _ from hW2.out]
          clear hW2
          go_wp2_with fail
          obtain ⟨f0', f1', f2', f3', f4', f5'⟩ := six_cells (show Whole (W2.setCells n 0 [.int .i64 a0, .int .i64 a1, .int .i64 a2, .int .i64 a3, .int .i64 a4, .int .i64 a5]) n 57 [.int .i64 a0, .int .i64 a1, .int .i64 a2, .int .i64 a3, .int .i64 a4, .int .i64 a5] from hRN.out.store 0 [.int .i64 a0, .int .i64 a1, .int .i64 a2, .int .i64 a3, .int .i64 a4, .int .i64 a5] (by simp))
          simp only [World.setCells, Nat.zero_add, Nat.reduceAdd] at f0' f1' f2' f3' f4' f5'
          exact bodyPost_ret (v := .tuple #[.agg #[.int .i64 a0, .int .i64 a1, .int .i64 a2, .int .i64 a3, .int .i64 a4, .int .i64 a5], .int .i64 (-1)]) (by simp [results, Try.results31, go_sem, f0', f1', f2', f3', f4', f5']) rfl ⟨.inr ⟨hno.out, a0, a1, a2, a3, a4, a5, rfl⟩, hBf.out⟩
        · by_cases hx : x = 0
          · subst hx
            go_wp2_with fail
            refine hup.out.mono ?_
            rintro e w1 ⟨rfl, rfl⟩
            go_upto_region 7 with fail
            rw [← show W2 = _ from hW2.out]
            clear hW2
            go_wp2_with fail
            obtain ⟨f0', f1', f2', f3', f4', f5'⟩ := six_cells (show Whole (W2.setCells n 0 [.int .i64 a0, .int .i64 a1, .int .i64 a2, .int .i64 a3, .int .i64 a4, .int .i64 a5]) n 57 [.int .i64 a0, .int .i64 a1, .int .i64 a2, .int .i64 a3, .int .i64 a4, .int .i64 a5] from hRN.out.store 0 [.int .i64 a0, .int .i64 a1, .int .i64 a2, .int .i64 a3, .int .i64 a4, .int .i64 a5] (by simp))
            simp only [World.setCells, Nat.zero_add, Nat.reduceAdd] at f0' f1' f2' f3' f4' f5'
            exact bodyPost_ret (v := .tuple #[.agg #[.int .i64 a0, .int .i64 a1, .int .i64 a2, .int .i64 a3, .int .i64 a4, .int .i64 a5], .int .i64 (-1)]) (by simp [results, Try.results31, go_sem, f0', f1', f2', f3', f4', f5']) rfl ⟨.inr ⟨hno.out, a0, a1, a2, a3, a4, a5, rfl⟩, hBf.out⟩
          · have hx2 : (x != 0) = true := by simpa using hx
            clear hv
            go_wp2_with fail
            refine hup.out.mono ?_
            rintro e w1 ⟨rfl, rfl⟩
            go_upto_region 7 with fail
            rw [← show W2 = _ from hW2.out]
            clear hW2
            go_wp2_with fail
            obtain ⟨f0', f1', f2', f3', f4', f5'⟩ := six_cells (show Whole (W2.setCells n 0 [.int .i64 a0, .int .i64 a1, .int .i64 a2, .int .i64 a3, .int .i64 a4, .int .i64 a5]) n 57 [.int .i64 a0, .int .i64 a1, .int .i64 a2, .int .i64 a3, .int .i64 a4, .int .i64 a5] from hRN.out.store 0 [.int .i64 a0, .int .i64 a1, .int .i64 a2, .int .i64 a3, .int .i64 a4, .int .i64 a5] (by simp))
            simp only [World.setCells, Nat.zero_add, Nat.reduceAdd] at f0' f1' f2' f3' f4' f5'
            exact bodyPost_ret (v := .tuple #[.agg #[.int .i64 a0, .int .i64 a1, .int .i64 a2, .int .i64 a3, .int .i64 a4, .int .i64 a5], .int .i64 (-1)]) (by simp [results, Try.results31, go_sem, f0', f1', f2', f3', f4', f5']) rfl ⟨.inr ⟨hno.out, a0, a1, a2, a3, a4, a5, rfl⟩, hBf.out⟩
      · obtain ⟨rfl, hv⟩ : x = 0 ∧ v ≤ 1099511627776 := by
          refine ⟨Classical.byContradiction fun e => hbad (.inl e), Int.not_lt.1 fun e => hbad (.inr e)⟩
        rw [if_neg hbad] at hnx
        obtain ⟨mn, hmn⟩ : ∃ mn : Nat, m = (mn : Int) := ⟨m.toNat, by rcases hfa with ⟨_, h1, _⟩ | ⟨h1, _⟩; omega; exact absurd rfl h1⟩
        subst hmn
        rw [Int.toNat_natCast] at hnx
        have hmb : mn ≤ 10 := by rcases hfa with ⟨_, _, _, h1⟩ | ⟨h1, _⟩; omega; exact absurd rfl h1
        have hv2 : ¬ 1099511627776 < v := by omega
        have hwv : IntKind.i64.wrap v = v := IntWalk.i64_in _ (by omega)
        have hwp : IntKind.i64.wrap ((p : Int) + (mn : Int)) = ((p + mn : Nat) : Int) := by rw [IntWalk.i64_in _ (by omega)]; omega
        have hRn := (hR.alloc (.cells #[.int .u64 v, .int .i64 (mn : Int), .int .i64 0] 86)).alloc (.cells #[.int .u64 v, .int .i64 (mn : Int), .int .i64 0] 86)
        have hXn := (hX.alloc (.cells #[.int .u64 v, .int .i64 (mn : Int), .int .i64 0] 86)).alloc (.cells #[.int .u64 v, .int .i64 (mn : Int), .int .i64 0] 86)
        have hBn := (hB.alloc (by have := hs2; omega) (.cells #[.int .u64 v, .int .i64 (mn : Int), .int .i64 0] 86)).alloc (by have := hs2; simp; omega) (.cells #[.int .u64 v, .int .i64 (mn : Int), .int .i64 0] 86)
        obtain ⟨W2, hW2⟩ : ∃ W2, Hid (W2 = (wo.alloc (.cells #[.int .u64 v, .int .i64 (mn : Int), .int .i64 0] 86)).alloc (.cells #[.int .u64 v, .int .i64 (mn : Int), .int .i64 0] 86)) := ⟨_, Lib.hid rfl⟩
        have hsw : n + 2 ≤ W2.heap.size := by rw [hW2.out]; simp; omega
        have hgot : Whole W2 (wo.heap.size + 1) 86 [.int .u64 v, .int .i64 (mn : Int), .int .i64 0] := by
          rw [hW2.out]
          have h := Whole.new (wo.alloc (.cells #[.int .u64 v, .int .i64 (mn : Int), .int .i64 0] 86)) 86 [.int .u64 v, .int .i64 (mn : Int), .int .i64 0]
          rwa [show (wo.alloc (.cells #[.int .u64 v, .int .i64 (mn : Int), .int .i64 0] 86)).heap.size = wo.heap.size + 1 by simp] at h
        have q0 := hgot.cell 0
        have q1 := hgot.cell 1
        have q2 := hgot.cell 2
        simp only [List.getElem?_cons_zero, List.getElem?_cons_succ] at q0 q1 q2
        rw [← show W2 = _ from hW2.out] at hRn hXn hBn
        have hk6 : (k : Int) < 6 := by omega
        have cX : W2.cell? ⟨n + 1, k, none⟩ = some ((six vs)[k]'(by rw [six_len (by omega)]; exact hlt)) := by rw [hXn.cell, List.getElem?_eq_getElem]
        have zX := hXn.frozen k
        have hXf : Whole (W2.setCell ⟨n + 1, k, none⟩ (.int .i64 v)) (n + 1) 57 (six (vs ++ [v])) := by
          have h := hXn.store k [.int .i64 v] (by rw [six_len (by omega)]; show k + 1 ≤ 6; omega)
          rw [six_step hvl hlt] at h
          exact h
        have hRf : Whole (W2.setCell ⟨n + 1, k, none⟩ (.int .i64 v)) n 57 z6 := hRn.far (by omega) k [.int .i64 v]
        have hBf : Below n w (W2.setCell ⟨n + 1, k, none⟩ (.int .i64 v)) := hBn.trans (((Kept.refl (fun q => q = n + 1) _).setCells (c := n + 1) (.inl rfl) k [.int .i64 v]).below (by omega) (fun k e => by omega))
        have hsf : n + 2 ≤ (W2.setCell ⟨n + 1, k, none⟩ (.int .i64 v)).heap.size := by simpa [World.setCell] using hsw
        have hfin := Lib.hid (And.intro hnx (And.intro hRf (And.intro hXf (And.intro hBf hsf))))
        obtain ⟨old, hold⟩ : ∃ old, Hid ((six vs)[k]'(by rw [six_len (by omega)]; exact hlt) = old) := ⟨_, Lib.hid rfl⟩
        rw [hold.out] at cX
        clear hgot hnx hfa hc hR hX hB hRn hXn hBn hXf hRf hBf hbad hold hU f0 f1
        replace hvl := Lib.hid hvl
        go_wp2_with fail
        refine hup.out.mono ?_
        rintro e w1 ⟨rfl, rfl⟩
        go_upto_region 7 with fail
        rw [← show W2 = _ from hW2.out]
        clear hW2
        go_wp2_with fail
        go_roundg (gk - 1)
        case measure => omega
        case rel => exact ⟨k + 1, p + mn, vs ++ [v], by omega, by omega, by go_num, rfl, hfin⟩
    · obtain rfl : k = 6 := by omega
      obtain ⟨a0, a1, a2, a3, a4, a5, hsx⟩ := six_open (vs := vs) (by omega)
      have hpost : NumPost s (.returned (.tuple #[.agg #[.int .i64 a0, .int .i64 a1, .int .i64 a2, .int .i64 a3, .int .i64 a4, .int .i64 a5], .int .i64 (p : Int)])) := .inl ⟨vs, p, hc, by rw [hsx]⟩
      rw [hsx] at hX
      obtain ⟨c0, c1, c2, c3, c4, c5⟩ := six_cells hX
      obtain ⟨d0, d1, d2, d3, d4, d5⟩ := six_cells hR
      have z0 := hR.frozen 0
      have z1 := hR.frozen 1
      have z2 := hR.frozen 2
      have z3 := hR.frozen 3
      have z4 := hR.frozen 4
      have z5 := hR.frozen 5
      have hRN := Lib.hid hR
      have hBf : Below n w (wo.setCells n 0 [.int .i64 a0, .int .i64 a1, .int .i64 a2, .int .i64 a3, .int .i64 a4, .int .i64 a5]) := hB.trans (((Kept.refl (fun q => q = n) _).setCells (c := n) (.inl rfl) 0 [.int .i64 a0, .int .i64 a1, .int .i64 a2, .int .i64 a3, .int .i64 a4, .int .i64 a5]).below (by omega) (fun k e => by omega))
      replace hBf := Lib.hid hBf
      replace hpost := Lib.hid hpost
      clear hc hR hX hB hsx hvl
      go_wp2_with fail
      obtain ⟨f0', f1', f2', f3', f4', f5'⟩ := six_cells (show Whole (wo.setCells n 0 [.int .i64 a0, .int .i64 a1, .int .i64 a2, .int .i64 a3, .int .i64 a4, .int .i64 a5]) n 57 [.int .i64 a0, .int .i64 a1, .int .i64 a2, .int .i64 a3, .int .i64 a4, .int .i64 a5] from hRN.out.store 0 [.int .i64 a0, .int .i64 a1, .int .i64 a2, .int .i64 a3, .int .i64 a4, .int .i64 a5] (by simp))
      simp only [World.setCells, Nat.zero_add, Nat.reduceAdd] at f0' f1' f2' f3' f4' f5'
      exact bodyPost_ret (v := .tuple #[.agg #[.int .i64 a0, .int .i64 a1, .int .i64 a2, .int .i64 a3, .int .i64 a4, .int .i64 a5], .int .i64 (p : Int)]) (by simp [results, Try.results31, go_sem, f0', f1', f2', f3', f4', f5']) rfl ⟨hpost.out, hBf.out⟩
end Go.Proofs.Ytgfamaddghajlaa.W
