/- The acts of layer 7's laws: as those of layer 3. -/
import Derived.Test.YtgomhnclmacleaaProg
import Derived.Test.YtgomhnclmacleaaOpenActs
import Derived.Deep.RegionHeld3
namespace Go.Proofs.Ytgomhnclmacleaa.D
open Go.ChangeShapes Go.WideShapes Go.ChangeAt Go.RowKit
set_option linter.unusedVariables false
attribute [local go_sem ↓] Go.wp_at_zero Go.wp_at_succ

set_option maxRecDepth 100000 in
theorem fill7 (c : UInt8) (w : World) :
    Calls Try.prog 66 #[.int .u8 (c.toNat : Int)] w fun e w' => e = .returned (.string ⟨(fillL c).toArray⟩) ∧ Below w.heap.size w w' := by
  obtain ⟨i0, hi0, hz0, hz1, hz2⟩ := info_parts infoByte
  have hmk := fun W => run_make_rowN (P := Try.prog) 89 5 i0 _ Try.underlying89 hi0 hz0 .i64 .i64 64 (by rw [hz2]; omega) (by omega) W
  rw [hz1, show (Value.int .u8 0).cells = Array.replicate 1 (.int .u8 0) from rfl] at hmk
  obtain ⟨cs, hcs⟩ : ∃ cs, Hid (madeCells (Array.replicate 1 (Value.int .u8 0)) (64 * 1) = cs) := ⟨_, Lib.hid rfl⟩
  rw [hcs.out] at hmk
  replace hmk : ∀ W : World, (Instr.makeSlice 89 (.int .i64 64) (.int .i64 64)).run Try.prog W = .ok (.slice (some ⟨W.heap.size, 0, none⟩) 64 64) (W.alloc (.cells cs 5)) := fun W => hmk W
  have hl : cs.toList = List.replicate 64 (.int .u8 0) := by rw [← hcs.out, made_one _ _ _ (by omega)]
  have hW0 : Whole (w.alloc (.cells cs 5)) w.heap.size 5 (List.replicate 0 (u8v c) ++ List.replicate (64 - 0) (.int .u8 0)) := by
    have := Whole.new w 5 cs.toList
    rw [hl] at this
    have e : cs = (List.replicate 64 (Value.int .u8 0)).toArray := by rw [← hl]
    rw [e]; exact this
  have hc := c.toNat_lt
  replace hW0 := Lib.hid hW0
  replace hl := Lib.hid hl
  go_enter Try.func66, Try.ntmps66
  go_wp2_with fail
  clear hmk
  go_loopg [8] 64 (fun g i wr => ∃ k : Nat, k ≤ 64 ∧ 64 ≤ k + g ∧ i = .int .i64 k ∧ Whole wr w.heap.size 5 (List.replicate k (u8v c) ++ List.replicate (64 - k) (.int .u8 0)) ∧ Below w.heap.size w wr)
  case atStart => exact ⟨0, by omega, by omega, rfl, hW0.out, allocBelow w _⟩
  case round =>
    clear hW0
    obtain ⟨k, hk, hg, rfl, hW, hbel⟩ := hrel
    by_cases hlt : k < 64
    · have hcell : wr.cell? ⟨w.heap.size, k, none⟩ = some (.int .u8 0) := by
        rw [hW.cell, List.getElem?_append_right (by simp), List.length_replicate, Nat.sub_self, List.getElem?_replicate, if_pos (by omega)]
      have hfr := hW.frozen k
      have hst := (hW.store k [u8v c] (by simp; omega))
      have e : splice (List.replicate k (u8v c) ++ List.replicate (64 - k) (Value.int .u8 0)) k [u8v c] = List.replicate (k + 1) (u8v c) ++ List.replicate (64 - (k + 1)) (.int .u8 0) := by
        unfold splice
        rw [List.take_append, List.length_replicate, show k - k = 0 by omega, List.take_zero, List.append_nil, List.take_of_length_le (by simp), List.drop_append, List.length_replicate, List.drop_eq_nil_of_le (by simp), List.nil_append, List.drop_replicate,
          ← List.replicate_append_replicate, List.append_assoc]
        congr 2
        simp only [List.length_singleton]
        rw [show 64 - k - (k + 1 - k) = 64 - (k + 1) by omega]
      rw [e] at hst
      replace hst := Lib.hid hst
      have hbel2 := hbel.setCell (p := ⟨w.heap.size, k, none⟩) (Nat.le_refl _) (u8v c)
      clear hW e
      go_wp2_with fail
      go_roundg (gk - 1)
      case measure => omega
      case rel => exact ⟨k + 1, by omega, by omega, by go_num, hst.out, hbel2⟩
    · obtain rfl : k = 64 := by omega
      have hr : wr.rangeAt w.heap.size 0 (bytesV (fillL c)) := by
        have e : bytesV (fillL c) = List.replicate 64 (u8v c) ++ List.replicate (64 - 64) (Value.int .u8 0) := by simp [bytesV, fillL]
        rw [e]; exact hW.range
      have hcv := convBytes 64 hr
      rw [show (fillL c).length = 64 by simp [fillL]] at hcv
      clear hW hr
      go_wp2_with fail
      go_ret
      exact ⟨rfl, hbel⟩
set_option maxRecDepth 100000 in
theorem text7 (k at_ n : Int) (c : UInt8) (kv : Value) (w : World) :
    Calls Try.prog 35 #[actV k at_ n c kv] w fun e w' => ∃ T, e = .returned (.string T) ∧ Texted n c T ∧ Below w.heap.size w w' := by
  obtain ⟨X, hX⟩ : ∃ X : ByteArray, Hid (⟨(fillL c).toArray⟩ = X) := ⟨_, Lib.hid rfl⟩
  have hXs : X.size = 64 := by rw [← hX.out]; simp [fillL, ByteArray.size]
  obtain ⟨m, hm⟩ : ∃ m, Hid (cut n = m) := ⟨_, Lib.hid rfl⟩
  have hcv : Hid (min (max n 0) 64 = (m : Int)) := by rw [← hm.out]; unfold cut; exact Lib.hid (by omega)
  have hm64 : m ≤ 64 := by rw [← hm.out]; exact cut_le n
  have ht := Lib.hid (texted (n := n) hX.out)
  rw [hm.out] at ht
  have s1 : IntKind.i64.wrap (64 - (m : Int)) = 64 - (m : Int) := IntWalk.i64_in _ (by omega)
  have s2 : (0 : Int) ≤ 64 - (m : Int) := by omega
  have s3 : (64 - (m : Int)).toNat = 64 - m := by omega
  have s4 : 64 - (m : Int) ≤ 64 := by omega
  have s5 : (m : Int) ≤ 64 := by omega
  obtain ⟨W, hW⟩ : ∃ W, Hid (W = w.alloc (.cells #[.int .i64 k, .int .i64 at_, .int .i64 n, .int .u8 (c.toNat : Int), kv] 59)) := ⟨_, Lib.hid rfl⟩
  have hbW : Below w.heap.size w W := by rw [hW.out]; exact allocBelow w _
  have c2 : W.cell? ⟨w.heap.size, 2, none⟩ = some (.int .i64 n) := by rw [hW.out]; exact (Whole.new w 59 [.int .i64 k, .int .i64 at_, .int .i64 n, .int .u8 (c.toNat : Int), kv]).cell 2
  have c3 : W.cell? ⟨w.heap.size, 3, none⟩ = some (.int .u8 (c.toNat : Int)) := by rw [hW.out]; exact (Whole.new w 59 [.int .i64 k, .int .i64 at_, .int .i64 n, .int .u8 (c.toNat : Int), kv]).cell 3
  go_enter Try.func35, Try.ntmps35
  go_wp2_with fail
  rw [← hW.out]
  clear hW
  go_region_held3 (fun w' => w'.cell? ⟨w.heap.size, 2, none⟩ = some (.int .i64 n) ∧ w'.cell? ⟨w.heap.size, 3, none⟩ = some (.int .u8 (c.toNat : Int))) (go_keep) (first
    | (go_at_call 66; (with_reducible refine (fill7 c _).mono ?_); rintro e w2 ⟨rfl, hb2⟩; rw [hX.out]; have c22 := keepCell hb2 c2; have c32 := keepCell hb2 c3)
    | (refine step_max (by rfl) _ _ _ _ (by rfl) n 0 (by rfl) (by rfl) ?_)
    | (refine step_min (by rfl) _ _ _ _ (by rfl) (max n 0) 64 (m : Int) (by rfl) (by rfl) hcv.out ?_))
  all_goals
    go_wp2_with fail
    go_ret
    exact ⟨_, rfl, ht.out, hbW.trans ((below_of_drew hb2).mono hbW.size)⟩
theorem cellsAct7 : Try.prog.cellsOf 59 = 5 := by kernel_rfl
section
variable {H : Type} {enc : TypeId × Value → H} {w : World} {base : Nat} {held : Bool}
set_option maxRecDepth 100000 in
theorem open_act7 {b0 : Nat} {v : Value} {d : DataW H} {p : List MemPlace} (hval : Value.okWide Try.prog w .any b0 59 v) (h : DataW.Trod enc Try.prog w base (fun _ => true) held 59 v d p) :
    ∃ k at_ n c kv kl, v = .agg #[.int .i64 k, .int .i64 at_, .int .i64 n, .int .u8 c, kv] ∧ (Lit.int .i64 k).wf = true ∧ (Lit.int .i64 at_).wf = true ∧ (Lit.int .i64 n).wf = true ∧ (Lit.int .u8 c).wf = true ∧ Keeps w kv kl := by
  obtain ⟨cs, rfl, hsz⟩ := okWide_struct Try.underlying59 hval
  obtain ⟨l⟩ := cs
  rw [cellsAct7] at hsz
  match l, hsz with
  | [c0, c1, c2, c3, c4], _ =>
    obtain ⟨fuel, hf⟩ := h
    obtain ⟨xs, n, _, _, _, hlen, hg⟩ := DataW.trod_struct Try.underlying59 hf
    match xs, hlen with
    | [y0, y1, y2, y3, y4], _ =>
      have h0 : DataW.trod enc Try.prog w base (fun _ => true) held n 3 ((([c0, c1, c2, c3, c4] : List Value).drop 0).take (Try.prog.cellsOf 3)) = some y0 := hg 0 _ rfl
      have h1 : DataW.trod enc Try.prog w base (fun _ => true) held n 3 ((([c0, c1, c2, c3, c4] : List Value).drop 1).take (Try.prog.cellsOf 3)) = some y1 := hg 1 _ rfl
      have h2 : DataW.trod enc Try.prog w base (fun _ => true) held n 3 ((([c0, c1, c2, c3, c4] : List Value).drop 2).take (Try.prog.cellsOf 3)) = some y2 := hg 2 _ rfl
      have h3 : DataW.trod enc Try.prog w base (fun _ => true) held n 5 ((([c0, c1, c2, c3, c4] : List Value).drop 3).take (Try.prog.cellsOf 5)) = some y3 := hg 3 _ rfl
      have h4 : DataW.trod enc Try.prog w base (fun _ => true) held n 34 ((([c0, c1, c2, c3, c4] : List Value).drop 4).take (Try.prog.cellsOf 34)) = some y4 := hg 4 _ rfl
      rw [cellsInt] at h0 h1 h2
      rw [cellsU8] at h3
      rw [cellsKs] at h4
      obtain ⟨x0, e0, _, w0⟩ := DataW.trod_int Try.underlying3 (show DataW.trod enc Try.prog w base (fun _ => true) held n 3 [c0] = some y0 from h0)
      obtain ⟨x1, e1, _, w1⟩ := DataW.trod_int Try.underlying3 (show DataW.trod enc Try.prog w base (fun _ => true) held n 3 [c1] = some y1 from h1)
      obtain ⟨x2, e2, _, w2⟩ := DataW.trod_int Try.underlying3 (show DataW.trod enc Try.prog w base (fun _ => true) held n 3 [c2] = some y2 from h2)
      obtain ⟨x3, e3, _, w3⟩ := DataW.trod_int Try.underlying5 (show DataW.trod enc Try.prog w base (fun _ => true) held n 5 [c3] = some y3 from h3)
      obtain ⟨kl, hk⟩ := open_keeps (show DataW.trod enc Try.prog w base (fun _ => true) held n 34 [c4] = some y4 from h4)
      simp only [List.cons.injEq, and_true] at e0 e1 e2 e3
      subst e0 e1 e2 e3
      exact ⟨x0, x1, x2, x3, c4, kl, rfl, w0, w1, w2, w3, hk⟩
set_option maxRecDepth 100000 in
theorem act_cells7 {fuel : Nat} {cs : List Value} {x : DataW H × List MemPlace} (hl : cs.length = 5) (hf : DataW.trod enc Try.prog w base (fun _ => true) held fuel 59 cs = some x) :
    ∃ (y : Act1) (kv : Value), cs = [.int .i64 y.kind, .int .i64 y.at_, .int .i64 y.n, .int .u8 (y.c.toNat : Int), kv] ∧ y.at_ ≤ 9223372036854775807 ∧ Keeps w kv y.kl := by
  match cs, hl with
  | [c0, c1, c2, c3, c4], _ =>
    obtain ⟨xs, n, _, _, _, hlen, hg⟩ := DataW.trod_struct Try.underlying59 hf
    match xs, hlen with
    | [y0, y1, y2, y3, y4], _ =>
      have h0 : DataW.trod enc Try.prog w base (fun _ => true) held n 3 ((([c0, c1, c2, c3, c4] : List Value).drop 0).take (Try.prog.cellsOf 3)) = some y0 := hg 0 _ rfl
      have h1 : DataW.trod enc Try.prog w base (fun _ => true) held n 3 ((([c0, c1, c2, c3, c4] : List Value).drop 1).take (Try.prog.cellsOf 3)) = some y1 := hg 1 _ rfl
      have h2 : DataW.trod enc Try.prog w base (fun _ => true) held n 3 ((([c0, c1, c2, c3, c4] : List Value).drop 2).take (Try.prog.cellsOf 3)) = some y2 := hg 2 _ rfl
      have h3 : DataW.trod enc Try.prog w base (fun _ => true) held n 5 ((([c0, c1, c2, c3, c4] : List Value).drop 3).take (Try.prog.cellsOf 5)) = some y3 := hg 3 _ rfl
      have h4 : DataW.trod enc Try.prog w base (fun _ => true) held n 34 ((([c0, c1, c2, c3, c4] : List Value).drop 4).take (Try.prog.cellsOf 34)) = some y4 := hg 4 _ rfl
      rw [cellsInt] at h0 h1 h2
      rw [cellsU8] at h3
      rw [cellsKs] at h4
      obtain ⟨x0, e0, _, w0⟩ := DataW.trod_int Try.underlying3 (show DataW.trod enc Try.prog w base (fun _ => true) held n 3 [c0] = some y0 from h0)
      obtain ⟨x1, e1, _, w1⟩ := DataW.trod_int Try.underlying3 (show DataW.trod enc Try.prog w base (fun _ => true) held n 3 [c1] = some y1 from h1)
      obtain ⟨x2, e2, _, w2⟩ := DataW.trod_int Try.underlying3 (show DataW.trod enc Try.prog w base (fun _ => true) held n 3 [c2] = some y2 from h2)
      obtain ⟨x3, e3, _, w3⟩ := DataW.trod_int Try.underlying5 (show DataW.trod enc Try.prog w base (fun _ => true) held n 5 [c3] = some y3 from h3)
      obtain ⟨kl, hk⟩ := open_keeps (show DataW.trod enc Try.prog w base (fun _ => true) held n 34 [c4] = some y4 from h4)
      obtain ⟨b, rfl⟩ := byte_of w3
      simp only [List.cons.injEq, and_true] at e0 e1 e2 e3
      subst e0 e1 e2 e3
      exact ⟨⟨x0, x1, x2, b, kl⟩, c4, rfl, i64_top w1, hk⟩
set_option maxRecDepth 100000 in
theorem open_acts7 {av : Value} {fuel : Nat} {x : DataW H × List MemPlace} (h : DataW.trod enc Try.prog w base (fun _ => true) held fuel 53 [av] = some x) : ∃ xs, Acts w av xs := by
  rcases Deep.open_slice Try.underlying53 h with ⟨hcs, _⟩ | ⟨a, len, cap, m, n, D, Pl, hcs, _, hl, hm, hmm, _, hi⟩
  · have hkv : av = .slice none 0 0 := by simpa using hcs
    exact ⟨[], ⟨none, 0, hkv, by decide, by decide, fun j q hq => by simp at hq⟩⟩
  · have hkv : av = .slice (some a) len cap := by simpa using hcs
    have hq : ∀ i, ∃ y : Act1, i < len → y.at_ ≤ 9223372036854775807 ∧ ∃ kv, Keeps w kv y.kl ∧ w.cell? (a.add (i * 5 + 0)) = some (.int .i64 y.kind) ∧ w.cell? (a.add (i * 5 + 1)) = some (.int .i64 y.at_) ∧ w.cell? (a.add (i * 5 + 2)) = some (.int .i64 y.n) ∧ w.cell? (a.add (i * 5 + 3)) = some (.int .u8 (y.c.toNat : Int)) ∧ w.cell? (a.add (i * 5 + 4)) = some kv := fun i => by
      by_cases hlt : i < len
      · obtain ⟨cs', hc, ht'⟩ := hi i (by rw [hmm]; simp; omega)
        rw [cellsAct7] at hc
        obtain ⟨_, hcl, hat⟩ := World.cells?_some hc
        obtain ⟨y, kv, rfl, hy, hk⟩ := act_cells7 hcl ht'
        have a0 := hat 0 (by omega)
        have a1 := hat 1 (by omega)
        have a2 := hat 2 (by omega)
        have a3 := hat 3 (by omega)
        have a4 := hat 4 (by omega)
        rw [Deep.add_add] at a0 a1 a2 a3 a4
        exact ⟨y, fun _ => ⟨hy, kv, hk, a0, a1, a2, a3, a4⟩⟩
      · exact ⟨⟨0, 0, 0, 0, []⟩, fun h => absurd h hlt⟩
    refine ⟨(List.range len).map fun i => Classical.choose (hq i), ⟨some a, cap, by simpa using hkv, by simpa using hl, hm, fun j y hjy => ?_⟩⟩
    have hj : j < len := by
      have := (List.getElem?_eq_some_iff.1 hjy).1
      simpa using this
    have hs := Classical.choose_spec (hq j) hj
    rw [List.getElem?_map, List.getElem?_range hj] at hjy
    have e : Classical.choose (hq j) = y := by simpa using hjy
    rw [e] at hs
    obtain ⟨h1, kv, h2, g0, g1, g2, g3, g4⟩ := hs
    obtain ⟨u0, h00⟩ : ∃ u, w.cell? (a.add 0) = some u := by
      obtain ⟨_, kv', _, r0, _⟩ := Classical.choose_spec (hq 0) (by omega)
      exact ⟨_, r0⟩
    obtain ⟨b, o, rfl, k0⟩ := spotless h00 g0
    obtain ⟨b1, o1, e1, k1⟩ := spotless h00 g1
    obtain ⟨b2, o2, e2, k2⟩ := spotless h00 g2
    obtain ⟨b3, o3, e3, k3⟩ := spotless h00 g3
    obtain ⟨b4, o4, e4, k4⟩ := spotless h00 g4
    cases e1
    cases e2
    cases e3
    cases e4
    exact ⟨h1, b, o, kv, rfl, World.block_lt_of_cell? w _ k0, k0, k1, k2, k3, k4, h2⟩
end
set_option maxRecDepth 100000 in
theorem large7 (av : Value) (xs : List Act1) (w : World) (h : Acts w av xs) : Calls Try.prog 26 #[av] w fun e w' => e = .returned (.bool (largeB xs)) ∧ Below w.heap.size w w' := by
  obtain ⟨ka, cap, rfl, hle, hcap, hx⟩ := h.form
  obtain ⟨m, hm⟩ : ∃ m, Hid (xs.length = m) := ⟨_, Lib.hid rfl⟩
  have hget : Hid (∀ j, j < m → ∃ q, xs[j]? = some q) := fun j hj => ⟨_, List.getElem?_eq_getElem (by rw [hm.out]; exact hj)⟩
  unfold maxLen at hcap
  replace hx := Lib.hid hx
  rw [hm.out] at hle ⊢
  clear h
  by_cases hgt : 40 < m
  · have hfin : largeB xs = true := by unfold largeB; rw [hm.out]; simp [hgt]
    replace hfin := Lib.hid hfin
    go_enter Try.func26, Try.ntmps26
    go_wp2_with fail
    go_ret
    exact ⟨ret_bool hfin.out.symm, Below.refl _ _⟩
  · go_enter Try.func26, Try.ntmps26
    go_wp2_with fail
    go_loopg [10] m (fun g i wr => ∃ j : Nat, j ≤ m ∧ m ≤ j + g ∧ i = .int .i64 j ∧ Below w.heap.size w wr ∧ Hid (∀ i x, i < j → xs[i]? = some x → x.kl.length ≤ 40))
    case atStart => exact ⟨0, by omega, by omega, rfl, Below.refl _ _, fun i x hi => by omega⟩
    case round =>
      obtain ⟨j, hj, hg, rfl, hbr, hno⟩ := hrel
      by_cases hlt : j < m
      · obtain ⟨x, hxj⟩ := hget.out j hlt
        obtain ⟨_, b, o, kv, rfl, hbl, k0, k1, k2, k3, k4, hk⟩ := hx.out j x hxj
        obtain ⟨kka, kcap, rfl⟩ := hk.len
        have r0 := keepCell hbr k0
        have r1 := keepCell hbr k1
        have r2 := keepCell hbr k2
        have r3 := keepCell hbr k3
        have r4 := keepCell hbr k4
        obtain ⟨ml, hml⟩ : ∃ ml, Hid (x.kl.length = ml) := ⟨_, Lib.hid rfl⟩
        rw [hml.out] at r4
        clear k0 k1 k2 k3 k4 hk
        replace hxj := Lib.hid hxj
        by_cases hbig : 40 < ml
        · have hfin : largeB xs = true := by
            unfold largeB
            rw [Bool.or_eq_true]
            exact .inr (List.any_eq_true.2 ⟨x, List.mem_of_getElem? hxj.out, by rw [hml.out]; simpa using hbig⟩)
          replace hfin := Lib.hid hfin
          go_wp2_with fail
          go_ret
          exact ⟨ret_bool hfin.out.symm, hbr.trans ((allocBelow wr _).mono hbr.size)⟩
        · have hno2 : Hid (∀ i y, i < j + 1 → xs[i]? = some y → y.kl.length ≤ 40) := fun i y hi hy => by
            rcases Nat.lt_or_ge i j with c | c
            · exact hno.out i y c hy
            · obtain rfl : i = j := by omega
              rw [hxj.out] at hy
              cases hy
              rw [hml.out]
              omega
          go_wp2_with fail
          go_roundg (gk - 1)
          case measure => omega
          case rel => exact ⟨j + 1, by omega, by omega, by go_num, hbr.trans ((allocBelow wr _).mono hbr.size), hno2⟩
      · obtain rfl : j = m := by omega
        have hfin : largeB xs = false := by
          unfold largeB
          rw [Bool.or_eq_false_iff]
          refine ⟨by rw [hm.out]; simpa using hgt, ?_⟩
          rw [List.any_eq_false]
          intro x hx'
          obtain ⟨i, hi, rfl⟩ := List.mem_iff_getElem.1 hx'
          have := hno.out i _ (by rw [← hm.out]; exact hi) (List.getElem?_eq_getElem hi)
          simp
          omega
        replace hfin := Lib.hid hfin
        go_wp2_with fail
        go_ret
        exact ⟨ret_bool hfin.out.symm, hbr⟩
end Go.Proofs.Ytgomhnclmacleaa.D
