/- Acts that come in as a slice, opened; the law's large. -/
import Derived.Test.YtgomhnclmacleaaProg
import Derived.Test.YtgomhnclmacleaaActDone
namespace Go.Proofs.Ytgomhnclmacleaa.D
open Go.ChangeShapes Go.WideShapes Go.ChangeAt Go.RowKit
set_option linter.unusedVariables false

/-- A row of acts. -/
structure Acts (w : World) (av : Value) (xs : List Act1) : Prop where
  form : ∃ ka cap, av = .slice ka xs.length cap ∧ xs.length ≤ cap ∧ cap ≤ maxLen ∧ ∀ j x, xs[j]? = some x → x.at_ ≤ 9223372036854775807 ∧ ∃ b o kv, ka = some ⟨b, o, none⟩ ∧ b < w.heap.size ∧
    w.cell? ⟨b, o + j * 5, none⟩ = some (.int .i64 x.kind) ∧ w.cell? ⟨b, o + j * 5 + 1, none⟩ = some (.int .i64 x.at_) ∧ w.cell? ⟨b, o + j * 5 + 2, none⟩ = some (.int .i64 x.n) ∧ w.cell? ⟨b, o + j * 5 + 3, none⟩ = some (.int .u8 (x.c.toNat : Int)) ∧ w.cell? ⟨b, o + j * 5 + 4, none⟩ = some kv ∧ Keeps w kv x.kl
theorem i64_top {a : Int} (h : (Lit.int .i64 a).wf = true) : a ≤ 9223372036854775807 := by
  have hb : IntKind.i64.min ≤ a ∧ a ≤ IntKind.i64.max := by simpa [Lit.wf] using h
  have h2 : IntKind.i64.max = 9223372036854775807 := by decide
  rw [h2] at hb
  exact hb.2
section
variable {H : Type} {enc : TypeId × Value → H} {w : World} {base : Nat} {held : Bool}
set_option maxRecDepth 100000 in
theorem act_cells {fuel : Nat} {cs : List Value} {x : DataW H × List MemPlace} (hl : cs.length = 5) (hf : DataW.trod enc Try.prog w base (fun _ => true) held fuel 36 cs = some x) :
    ∃ (y : Act1) (kv : Value), cs = [.int .i64 y.kind, .int .i64 y.at_, .int .i64 y.n, .int .u8 (y.c.toNat : Int), kv] ∧ y.at_ ≤ 9223372036854775807 ∧ Keeps w kv y.kl := by
  match cs, hl with
  | [c0, c1, c2, c3, c4], _ =>
    obtain ⟨xs, n, _, _, _, hlen, hg⟩ := DataW.trod_struct Try.underlying36 hf
    match xs, hlen with
    | [y0, y1, y2, y3, y4], _ =>
      have h0 : DataW.trod enc Try.prog w base (fun _ => true) held n 3 ((([c0, c1, c2, c3, c4] : List Value).drop 0).take (Try.prog.cellsOf 3)) = some y0 := hg 0 _ rfl
      have h1 : DataW.trod enc Try.prog w base (fun _ => true) held n 3 ((([c0, c1, c2, c3, c4] : List Value).drop 1).take (Try.prog.cellsOf 3)) = some y1 := hg 1 _ rfl
      have h2 : DataW.trod enc Try.prog w base (fun _ => true) held n 3 ((([c0, c1, c2, c3, c4] : List Value).drop 2).take (Try.prog.cellsOf 3)) = some y2 := hg 2 _ rfl
      have h3 : DataW.trod enc Try.prog w base (fun _ => true) held n 5 ((([c0, c1, c2, c3, c4] : List Value).drop 3).take (Try.prog.cellsOf 5)) = some y3 := hg 3 _ rfl
      have h4 : DataW.trod enc Try.prog w base (fun _ => true) held n 34 ((([c0, c1, c2, c3, c4] : List Value).drop 4).take (Try.prog.cellsOf 34)) = some y4 := hg 4 _ rfl
      rw [cellsInt] at h0 h1 h2
      rw [cellsU8] at h3
      rw [cellsKs] at h4
      obtain ⟨x0, e0, _, w0⟩ := DataW.trod_int Try.underlying3 (show DataW.trod enc Try.prog w base (fun _ => true) held n 3 [c0] = some y0 from h0)
      obtain ⟨x1, e1, _, w1⟩ := DataW.trod_int Try.underlying3 (show DataW.trod enc Try.prog w base (fun _ => true) held n 3 [c1] = some y1 from h1)
      obtain ⟨x2, e2, _, w2⟩ := DataW.trod_int Try.underlying3 (show DataW.trod enc Try.prog w base (fun _ => true) held n 3 [c2] = some y2 from h2)
      obtain ⟨x3, e3, _, w3⟩ := DataW.trod_int Try.underlying5 (show DataW.trod enc Try.prog w base (fun _ => true) held n 5 [c3] = some y3 from h3)
      obtain ⟨kl, hk⟩ := open_keeps (show DataW.trod enc Try.prog w base (fun _ => true) held n 34 [c4] = some y4 from h4)
      obtain ⟨b, rfl⟩ := byte_of w3
      simp only [List.cons.injEq, and_true] at e0 e1 e2 e3
      subst e0 e1 e2 e3
      exact ⟨⟨x0, x1, x2, b, kl⟩, c4, rfl, i64_top w1, hk⟩
set_option maxRecDepth 100000 in
theorem open_acts {av : Value} {fuel : Nat} {x : DataW H × List MemPlace} (h : DataW.trod enc Try.prog w base (fun _ => true) held fuel 22 [av] = some x) : ∃ xs, Acts w av xs := by
  rcases Deep.open_slice Try.underlying22 h with ⟨hcs, _⟩ | ⟨a, len, cap, m, n, D, Pl, hcs, _, hl, hm, hmm, _, hi⟩
  · have hkv : av = .slice none 0 0 := by simpa using hcs
    exact ⟨[], ⟨none, 0, hkv, by decide, by decide, fun j q hq => by simp at hq⟩⟩
  · have hkv : av = .slice (some a) len cap := by simpa using hcs
    have hq : ∀ i, ∃ y : Act1, i < len → y.at_ ≤ 9223372036854775807 ∧ ∃ kv, Keeps w kv y.kl ∧ w.cell? (a.add (i * 5 + 0)) = some (.int .i64 y.kind) ∧ w.cell? (a.add (i * 5 + 1)) = some (.int .i64 y.at_) ∧ w.cell? (a.add (i * 5 + 2)) = some (.int .i64 y.n) ∧ w.cell? (a.add (i * 5 + 3)) = some (.int .u8 (y.c.toNat : Int)) ∧ w.cell? (a.add (i * 5 + 4)) = some kv := fun i => by
      by_cases hlt : i < len
      · obtain ⟨cs', hc, ht'⟩ := hi i (by rw [hmm]; simp; omega)
        rw [cellsAct] at hc
        obtain ⟨_, hcl, hat⟩ := World.cells?_some hc
        obtain ⟨y, kv, rfl, hy, hk⟩ := act_cells hcl ht'
        have a0 := hat 0 (by omega)
        have a1 := hat 1 (by omega)
        have a2 := hat 2 (by omega)
        have a3 := hat 3 (by omega)
        have a4 := hat 4 (by omega)
        rw [Deep.add_add] at a0 a1 a2 a3 a4
        exact ⟨y, fun _ => ⟨hy, kv, hk, a0, a1, a2, a3, a4⟩⟩
      · exact ⟨⟨0, 0, 0, 0, []⟩, fun h => absurd h hlt⟩
    refine ⟨(List.range len).map fun i => Classical.choose (hq i), ⟨some a, cap, by simpa using hkv, by simpa using hl, hm, fun j y hjy => ?_⟩⟩
    have hj : j < len := by
      have := (List.getElem?_eq_some_iff.1 hjy).1
      simpa using this
    have hs := Classical.choose_spec (hq j) hj
    rw [List.getElem?_map, List.getElem?_range hj] at hjy
    have e : Classical.choose (hq j) = y := by simpa using hjy
    rw [e] at hs
    obtain ⟨h1, kv, h2, g0, g1, g2, g3, g4⟩ := hs
    obtain ⟨u0, h00⟩ : ∃ u, w.cell? (a.add 0) = some u := by
      obtain ⟨_, kv', _, r0, _⟩ := Classical.choose_spec (hq 0) (by omega)
      exact ⟨_, r0⟩
    obtain ⟨b, o, rfl, k0⟩ := spotless h00 g0
    obtain ⟨b1, o1, e1, k1⟩ := spotless h00 g1
    obtain ⟨b2, o2, e2, k2⟩ := spotless h00 g2
    obtain ⟨b3, o3, e3, k3⟩ := spotless h00 g3
    obtain ⟨b4, o4, e4, k4⟩ := spotless h00 g4
    cases e1
    cases e2
    cases e3
    cases e4
    exact ⟨h1, b, o, kv, rfl, World.block_lt_of_cell? w _ k0, k0, k1, k2, k3, k4, h2⟩
end
/-- Are acts more than are gone through? -/
def largeB (xs : List Act1) : Bool := decide (40 < xs.length) || xs.any fun x => decide (40 < x.kl.length)
theorem Keeps.len {w : World} {kv : Value} {kl : List (Int × Int)} (h : Keeps w kv kl) : ∃ ka cap, kv = .slice ka kl.length cap := by
  obtain ⟨ka, cap, h1, _⟩ := h.form
  exact ⟨ka, cap, h1⟩
theorem Acts.below {w w' : World} {av : Value} {xs : List Act1} (h : Acts w av xs) (hb : Below w.heap.size w w') : Acts w' av xs := by
  obtain ⟨ka, cap, h1, h2, h3, h4⟩ := h.form
  refine ⟨ka, cap, h1, h2, h3, fun j x hx => ?_⟩
  obtain ⟨e0, b, o, kv, e1, e2, k0, k1, k2, k3, k4, hk⟩ := h4 j x hx
  exact ⟨e0, b, o, kv, e1, Nat.lt_of_lt_of_le e2 hb.size, keepCell hb k0, keepCell hb k1, keepCell hb k2, keepCell hb k3, keepCell hb k4, hk.below hb⟩

set_option maxRecDepth 100000 in
theorem large_any (av : Value) (xs : List Act1) (w : World) (h : Acts w av xs) : Calls Try.prog 13 #[av] w fun e w' => e = .returned (.bool (largeB xs)) ∧ Below w.heap.size w w' := by
  obtain ⟨ka, cap, rfl, hle, hcap, hx⟩ := h.form
  obtain ⟨m, hm⟩ : ∃ m, Hid (xs.length = m) := ⟨_, Lib.hid rfl⟩
  have hget : Hid (∀ j, j < m → ∃ q, xs[j]? = some q) := fun j hj => ⟨_, List.getElem?_eq_getElem (by rw [hm.out]; exact hj)⟩
  unfold maxLen at hcap
  replace hx := Lib.hid hx
  rw [hm.out] at hle ⊢
  clear h
  by_cases hgt : 40 < m
  · have hfin : largeB xs = true := by unfold largeB; rw [hm.out]; simp [hgt]
    replace hfin := Lib.hid hfin
    go_enter Try.func13, Try.ntmps13
    go_wp2_with fail
    go_ret
    exact ⟨ret_bool hfin.out.symm, Below.refl _ _⟩
  · go_enter Try.func13, Try.ntmps13
    go_wp2_with fail
    go_loopg [10] m (fun g i wr => ∃ j : Nat, j ≤ m ∧ m ≤ j + g ∧ i = .int .i64 j ∧ Below w.heap.size w wr ∧ Hid (∀ i x, i < j → xs[i]? = some x → x.kl.length ≤ 40))
    case atStart => exact ⟨0, by omega, by omega, rfl, Below.refl _ _, fun i x hi => by omega⟩
    case round =>
      obtain ⟨j, hj, hg, rfl, hbr, hno⟩ := hrel
      by_cases hlt : j < m
      · obtain ⟨x, hxj⟩ := hget.out j hlt
        obtain ⟨_, b, o, kv, rfl, hbl, k0, k1, k2, k3, k4, hk⟩ := hx.out j x hxj
        obtain ⟨kka, kcap, rfl⟩ := hk.len
        have r0 := keepCell hbr k0
        have r1 := keepCell hbr k1
        have r2 := keepCell hbr k2
        have r3 := keepCell hbr k3
        have r4 := keepCell hbr k4
        obtain ⟨ml, hml⟩ : ∃ ml, Hid (x.kl.length = ml) := ⟨_, Lib.hid rfl⟩
        rw [hml.out] at r4
        clear k0 k1 k2 k3 k4 hk
        replace hxj := Lib.hid hxj
        by_cases hbig : 40 < ml
        · have hfin : largeB xs = true := by
            unfold largeB
            rw [Bool.or_eq_true]
            exact .inr (List.any_eq_true.2 ⟨x, List.mem_of_getElem? hxj.out, by rw [hml.out]; simpa using hbig⟩)
          replace hfin := Lib.hid hfin
          go_wp2_with fail
          go_ret
          exact ⟨ret_bool hfin.out.symm, hbr.trans ((allocBelow wr _).mono hbr.size)⟩
        · have hno2 : Hid (∀ i y, i < j + 1 → xs[i]? = some y → y.kl.length ≤ 40) := fun i y hi hy => by
            rcases Nat.lt_or_ge i j with c | c
            · exact hno.out i y c hy
            · obtain rfl : i = j := by omega
              rw [hxj.out] at hy
              cases hy
              rw [hml.out]
              omega
          go_wp2_with fail
          go_roundg (gk - 1)
          case measure => omega
          case rel => exact ⟨j + 1, by omega, by omega, by go_num, hbr.trans ((allocBelow wr _).mono hbr.size), hno2⟩
      · obtain rfl : j = m := by omega
        have hfin : largeB xs = false := by
          unfold largeB
          rw [Bool.or_eq_false_iff]
          refine ⟨by rw [hm.out]; simpa using hgt, ?_⟩
          rw [List.any_eq_false]
          intro x hx'
          obtain ⟨i, hi, rfl⟩ := List.mem_iff_getElem.1 hx'
          have := hno.out i _ (by rw [← hm.out]; exact hi) (List.getElem?_eq_getElem hi)
          simp
          omega
        replace hfin := Lib.hid hfin
        go_wp2_with fail
        go_ret
        exact ⟨ret_bool hfin.out.symm, hbr⟩
end Go.Proofs.Ytgomhnclmacleaa.D
