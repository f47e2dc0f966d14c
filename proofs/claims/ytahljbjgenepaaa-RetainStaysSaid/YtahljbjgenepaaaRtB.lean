/- Layer 20's law: may, behind, three. -/
import Derived.Test.YtahljbjgenepaaaRtA
import Derived.Test.YtahljbjgenepaaaRcQ
import Derived.Deep.AppendLies
namespace Go.Proofs.Ytahljbjgenepaaa.W
open Go.RowKit Go.Sort
open Go.Proofs.Ytahljbjgenepaaa.M Go.Proofs.Ytahljbjgenepaaa.D Go.Proofs.Ytahljbjgenepaaa.Z
set_option linter.unusedVariables false
set_option linter.unusedSimpArgs false

theorem rcAt_whole20 {W : World} {q : Nat} {t : TypeId} {rs : List Rc} (h : Whole W q t (rcRows rs)) : RcAt W (some ⟨q, 0, none⟩) rs := fun i r hi =>
  ⟨q, 0, rfl, h.lt, fun j v hj => by rw [Nat.zero_add, h.cell]; exact rcRows_at rs i r hi j v hj⟩
abbrev three20 : List Rc := [⟨4, 1, ⟨#[]⟩, ⟨#[]⟩, false, 0, 0, 0⟩, ⟨5, 5, ⟨#[]⟩, ⟨#[]⟩, false, 0, 0, 0⟩, ⟨6, 3, ⟨#[]⟩, ⟨#[]⟩, false, 0, 0, 0⟩]
theorem start20 : startF (clampI 10) (clampI 6) (clampI 0) 7 three20 = 5 ∧ startF (clampI 10) (clampI 0) (clampI 8) 7 three20 = 6 ∧ startF (clampI 10) (clampI 0) (clampI 7) 7 three20 = 7 ∧ startF (clampI 10) (clampI 0) (clampI 0) 7 three20 = 4 := by decide +kernel
theorem ok20 : ∀ r ∈ three20, r.ok := by decide
set_option maxRecDepth 100000 in
set_option maxHeartbeats 4000000 in
theorem three20_any (w : World) : Calls Try.prog 27 #[] w fun e w' => e = .returned (.bool true) ∧ Below w.heap.size w w' := by
  obtain ⟨V, hV⟩ : ∃ V, Hid (V = w.alloc (.cells #[.int .i64 4, .int .i64 1, .string ⟨#[]⟩, .string ⟨#[]⟩, .bool false, .int .i64 0, .int .i64 0, .int .i64 0, .int .i64 5, .int .i64 5, .string ⟨#[]⟩, .string ⟨#[]⟩, .bool false, .int .i64 0, .int .i64 0, .int .i64 0, .int .i64 6, .int .i64 3, .string ⟨#[]⟩, .string ⟨#[]⟩, .bool false, .int .i64 0, .int .i64 0, .int .i64 0] 40)) := ⟨_, Lib.hid rfl⟩
  have hb0 : Below w.heap.size w V := by rw [hV.out]; exact grewAlloc (Below.refl _ _) _
  have hX : RcAt V (some ⟨w.heap.size, 0, none⟩) three20 := rcAt_whole20 (t := 40) (by rw [hV.out]; exact Whole.new w _ _)
  obtain ⟨q, hq⟩ : ∃ q, Hid (w.heap.size = q) := ⟨_, Lib.hid rfl⟩
  rw [hq.out] at hX
  obtain ⟨s1, s2, s3, s4⟩ := start20
  have h1 := Lib.hid (fun W (hW : RcAt W (some ⟨q, 0, none⟩) three20) => start_any (some ⟨q, 0, none⟩) 3 three20 7 10 6 0 W hW (by decide) ok20)
  have h2 := Lib.hid (fun W (hW : RcAt W (some ⟨q, 0, none⟩) three20) => start_any (some ⟨q, 0, none⟩) 3 three20 7 10 0 8 W hW (by decide) ok20)
  have h3 := Lib.hid (fun W (hW : RcAt W (some ⟨q, 0, none⟩) three20) => start_any (some ⟨q, 0, none⟩) 3 three20 7 10 0 7 W hW (by decide) ok20)
  have h4 := Lib.hid (fun W (hW : RcAt W (some ⟨q, 0, none⟩) three20) => start_any (some ⟨q, 0, none⟩) 3 three20 7 10 0 0 W hW (by decide) ok20)
  rw [s1] at h1
  rw [s2] at h2
  rw [s3] at h3
  rw [s4] at h4
  have h5 := Lib.hid (fun W => right_of 6 0 true (by decide) W)
  have h6 := Lib.hid (fun W => right_of (-1) 0 false (by decide) W)
  have r1 := Lib.hid (h1.out V hX)
  replace hX := Lib.hid hX
  replace hb0 := Lib.hid hb0
  clear s1 s2 s3 s4 h1
  go_enter Try.func27, Try.ntmps27
  go_upto_region 2 with fail
  rw [← show V = _ from hV.out, hq.out]
  clear hV hq
  go_wp2_with fail
  refine r1.out.mono ?_
  rintro e w1 ⟨rfl, hb1⟩
  have hX1 := Lib.hid (hX.out.below hb1)
  have hB1 := Lib.hid (grew hb0.out hb1)
  have r2 := Lib.hid (h2.out w1 hX1.out)
  clear hb1 hX hb0 r1 h2
  go_wp2_with fail
  refine r2.out.mono ?_
  rintro e w2 ⟨rfl, hb2⟩
  have hX2 := Lib.hid (hX1.out.below hb2)
  have hB2 := Lib.hid (grew hB1.out hb2)
  have r3 := Lib.hid (h3.out w2 hX2.out)
  clear hb2 hX1 hB1 r2 h3
  go_wp2_with fail
  refine r3.out.mono ?_
  rintro e w3 ⟨rfl, hb3⟩
  have hX3 := Lib.hid (hX2.out.below hb3)
  have hB3 := Lib.hid (grew hB2.out hb3)
  have r4 := Lib.hid (h4.out w3 hX3.out)
  clear hb3 hX2 hB2 r3 h4
  go_wp2_with fail
  refine r4.out.mono ?_
  rintro e w4 ⟨rfl, hb4⟩
  have hB4 := Lib.hid (grew hB3.out hb4)
  clear hb4 hX3 hB3 r4
  go_wp2_with fail
  refine (h5.out _).mono ?_
  rintro e w5 ⟨rfl, rfl⟩
  go_wp2_with fail
  refine (h6.out _).mono ?_
  rintro e w5 ⟨rfl, rfl⟩
  go_wp2_with fail
  go_ret
  exact ⟨rfl, hB4.out⟩

/-- The records from an offset on. -/
def behindL (from_ : Int) (rs : List Rc) : List Rc := rs.filter (fun r => decide (from_ ≤ r.off))
theorem behindL_take {from_ : Int} {rs : List Rc} {k : Nat} {r : Rc} (h : rs[k]? = some r) : behindL from_ (rs.take (k + 1)) = behindL from_ (rs.take k) ++ (if from_ ≤ r.off then [r] else []) := by
  unfold behindL
  rw [List.take_add_one, h, List.filter_append]
  congr 1
  by_cases e : from_ ≤ r.off <;> simp [e]
theorem infoRb : (Try.prog.info? 40).map (fun i => (i.zero, i.size, i.bytes)) = some (some (.agg #[.int .i64 0, .int .i64 0, .string ⟨#[]⟩, .string ⟨#[]⟩, .bool false, .int .i64 0, .int .i64 0, .int .i64 0]), 8, 80) := by kernel_rfl
theorem own_nilB {W : World} {B : Nat} {e : TypeId} {sz : Nat} : W.ownsRow B e sz (.slice none 0 0) 0 [] := ⟨by simp, .inl ⟨rfl, rfl⟩⟩
set_option maxRecDepth 100000 in
set_option maxHeartbeats 4000000 in
theorem behind20_any (va : Option Addr) (c : Nat) (rs : List Rc) (from_ : Int) (w : World) (h : RcAt w va rs) (hn : rs.length ≤ 1000) :
    Calls Try.prog 29 #[.slice va rs.length c, .int .i64 from_] w fun e w' => ∃ A cc, e = .returned (.slice A (behindL from_ rs).length cc) ∧ RcAt w' A (behindL from_ rs) ∧ Below w.heap.size w w' := by
  obtain ⟨N, hN⟩ : ∃ N, Hid (rs.length = N) := ⟨_, Lib.hid rfl⟩
  have hall : rs.take N = rs := by rw [← hN.out, List.take_length]
  rw [hN.out] at hn ⊢
  obtain ⟨i0, hi0, hz0, hz1, hz2⟩ := info_parts infoRb
  replace h := Lib.hid h
  replace hall := Lib.hid hall
  go_enter Try.func29, Try.ntmps29
  go_wp2_with fail
  go_loopg [5, 10] N (fun ga v i wr => ∃ (k a cc : Nat) (A : Option Addr), k ≤ N ∧ N ≤ k + ga ∧ i = .int .i64 (k : Int) ∧ v = .slice A a cc ∧ a ≤ k ∧ Hid ((behindL from_ (rs.take k)).length = a ∧ wr.ownsRow w.heap.size 40 8 (.slice A a cc) a (rcRows (behindL from_ (rs.take k))) ∧ Kept (fun _ => False) w wr))
  case atStart => exact ⟨0, 0, 0, none, by omega, by omega, rfl, rfl, by omega, Lib.hid ⟨by simp [behindL], own_nilB, Kept.refl _ _⟩⟩
  case round =>
    obtain ⟨k, a, cc, A, hk, hg, rfl, rfl, hak, hrel⟩ := hrel
    generalize wr = wo at *
    obtain ⟨h1, h2, h3⟩ := hrel.out
    have hbl : Below w.heap.size w wo := h3.below (Nat.le_refl _) (fun _ e => e.elim)
    by_cases hlt : k < N
    · obtain ⟨r, hr⟩ : ∃ r, rs[k]? = some r := ⟨_, List.getElem?_eq_getElem (by have := hN.out; omega)⟩
      obtain ⟨b, o, rfl, c0, c1, c2, c3, c4, c5, c6, c7⟩ := (h.out.below hbl).get hr
      obtain ⟨W1, hW1⟩ : ∃ W1, Hid (W1 = wo.alloc (.cells #[.int .i64 r.off, .int .i64 r.tick, .string r.key, .string r.val, .bool r.gone, .int .i64 r.prod, .int .i64 r.seq, .int .i64 r.frm] 40)) := ⟨_, Lib.hid rfl⟩
      have hb1 : Below wo.heap.size wo W1 := by rw [hW1.out]; exact grewAlloc (Below.refl _ _) _
      have hX1 : Whole W1 wo.heap.size 40 (rcL r) := by rw [hW1.out]; exact Whole.new wo _ _
      have how1 : Hid (W1.ownsRow w.heap.size 40 8 (.slice A a cc) a (rcRows (behindL from_ (rs.take k)))) := Lib.hid (own_of_kept (own := fun _ => False) h2 (Kept.of_below hb1) (fun _ _ e => e))
      have hK1 := Lib.hid (h3.trans (Kept.of_below hb1))
      have hBk := behindL_take (from_ := from_) hr
      have hki : (k : Int) < (N : Int) := by omega
      obtain ⟨xb, hxb⟩ : ∃ xb, Hid (wo.heap.size = xb) := ⟨_, Lib.hid rfl⟩
      rw [hxb.out] at hX1
      obtain ⟨x0, x1, x2, x3, x4, x5, x6, x7⟩ := recCells hX1
      replace hr := Lib.hid hr
      clear hrel h2 h3 hbl hb1 hX1
      go_upto_region 5 with fail
      rw [← show W1 = _ from hW1.out, hxb.out]
      clear hW1 hxb c0 c1 c2 c3 c4 c5 c6 c7
      by_cases hf : from_ ≤ r.off
      · rw [if_pos hf] at hBk
        replace hBk := Lib.hid hBk
        go_wp2_with (with_reducible refine zAppend _ _ _ rfl ?_)
        refine Lib.hid ?_
        refine wpList_append_lies _ rfl _ _ 27 rfl w.heap.size 40 i0 _ 8 80 Try.underlying27 hi0 hz0 hz1 hz2 rfl (by omega) _ _ _ rfl (how1.out.alloc _) _ 1 1 (rcL r) rfl rfl (World.news_of_block (heap_alloc_new _ _)) (by simp [Value.oneCell']) (by omega) (by unfold maxLen; omega) (by omega) (by have := hK1.out.size; simp; omega) (W1.heap.size + 1) (by simp) ?_
        intro gg cap2 w5 hown5 hgrow5 hat5 hlt5
        have hk5 : Kept (fun _ => False) w w5 := (hK1.out.alloc _).grown hgrow5 (fun k hk => .inr (ownFar how1.out k hk))
        have hfin : Hid ((behindL from_ (rs.take (k + 1))).length = a + 1 ∧ w5.ownsRow w.heap.size 40 8 (.slice (some ⟨gg, 0, none⟩) (a + 1) cap2) (a + 1) (rcRows (behindL from_ (rs.take (k + 1)))) ∧ Kept (fun _ => False) w w5) := Lib.hid ⟨by rw [hBk.out, List.length_append, h1]; rfl, by
          rw [hBk.out, rcRows_append, show rcRows [r] = rcL r from by simp [rcRows]]
          exact hown5, hk5⟩
        clear hown5 hgrow5 hat5 hk5 how1 hK1 x0 x1 x2 x3 x4 x5 x6 x7
        go_wp2_with fail
        go_roundg (gk - 1)
        case measure => omega
        case rel => exact ⟨k + 1, a + 1, cap2, some ⟨gg, 0, none⟩, by omega, by omega, by go_num, rfl, by omega, hfin⟩
      · rw [if_neg hf, List.append_nil] at hBk
        have hfin : Hid ((behindL from_ (rs.take (k + 1))).length = a ∧ W1.ownsRow w.heap.size 40 8 (.slice A a cc) a (rcRows (behindL from_ (rs.take (k + 1)))) ∧ Kept (fun _ => False) w W1) := Lib.hid ⟨by rw [hBk, h1], by rw [hBk]; exact how1.out, hK1.out⟩
        have hf2 : r.off < from_ := by omega
        clear hBk how1 hK1
        go_wp2_with fail
        go_roundg (gk - 1)
        case measure => omega
        case rel => exact ⟨k + 1, a, cc, A, by omega, by omega, by go_num, rfl, by omega, hfin⟩
    · obtain rfl : k = N := by omega
      rw [hall.out] at h1 h2
      have hfin : Hid ((behindL from_ rs).length = a ∧ RcAt wo A (behindL from_ rs) ∧ Below w.heap.size w wo) := Lib.hid ⟨h1, rcAt_own h2 h1, hbl⟩
      clear h1 h2 h3 hrel hbl
      go_wp2_with fail
      go_ret
      exact ⟨A, cc, by rw [hfin.out.1]; rfl, hfin.out.2⟩

set_option maxRecDepth 100000 in
set_option maxHeartbeats 4000000 in
theorem may20_long (va : Option Addr) (n c : Nat) (w : World) (hn : 40 < n) :
    Calls Try.prog 26 #[.slice va n c] w fun e w' => e = .returned (.bool false) ∧ w = w' := by
  have h1 : (40 : Int) < (n : Int) := by omega
  go_enter Try.func26, Try.ntmps26
  go_wp2_with fail
  go_ret
  exact ⟨rfl, rfl⟩
set_option maxRecDepth 100000 in
set_option maxHeartbeats 4000000 in
theorem may20_at (va : Option Addr) (c : Nat) (rs : List Rc) (w : World) (h : RcAt w va rs) (hn : rs.length ≤ 40) (k : Nat) (hk : k ≤ rs.length) (hlow : ∀ i, i < k → fineAt rs i) (hend : k < rs.length → ¬ fineAt rs k)
    (B : Bool) (hB : B = decide (k = rs.length)) :
    Calls Try.prog 26 #[.slice va rs.length c] w fun e w' => e = .returned (.bool B) ∧ Below w.heap.size w w' := by
  obtain ⟨N, hN⟩ : ∃ N, Hid (rs.length = N) := ⟨_, Lib.hid rfl⟩
  rw [hN.out] at hn hk hend hB ⊢
  have hni : (N : Int) ≤ 40 := by omega
  have hm := Lib.hid (fun (r : Rc) W => rmay_any r.off r.tick r.key r.val r.gone r.prod r.seq r.frm W)
  replace h := Lib.hid h
  replace hlow := Lib.hid hlow
  replace hend := Lib.hid hend
  replace hB := Lib.hid hB
  go_enter Try.func26, Try.ntmps26
  go_wp2_with fail
  go_loopg [10] N (fun ga i wr => ∃ a : Nat, a ≤ k ∧ N ≤ a + ga ∧ i = .int .i64 a ∧ Hid (Below w.heap.size w wr))
  case atStart => exact ⟨0, by omega, by omega, rfl, Lib.hid (Below.refl _ _)⟩
  case round =>
    obtain ⟨a, ha, hg, rfl, hrel⟩ := hrel
    have hb := hrel.out
    clear hrel
    generalize wr = wo at *
    by_cases hlt : a < N
    · obtain ⟨r, hr⟩ : ∃ r, rs[a]? = some r := ⟨_, List.getElem?_eq_getElem (by have := hN.out; omega)⟩
      obtain ⟨b, o, rfl, c0, c1, c2, c3, c4, c5, c6, c7⟩ := (h.out.below hb).get hr
      have hX := Whole.new wo 40 (rcL r)
      have hB1 := Lib.hid (grewAlloc hb (.cells #[.int .i64 r.off, .int .i64 r.tick, .string r.key, .string r.val, .bool r.gone, .int .i64 r.prod, .int .i64 r.seq, .int .i64 r.frm] 40))
      obtain ⟨xb, hxb⟩ : ∃ xb, Hid (wo.heap.size = xb) := ⟨_, Lib.hid rfl⟩
      rw [hxb.out] at hX
      obtain ⟨W1, hW1⟩ : ∃ W, Hid (W = wo.alloc (.cells #[.int .i64 r.off, .int .i64 r.tick, .string r.key, .string r.val, .bool r.gone, .int .i64 r.prod, .int .i64 r.seq, .int .i64 r.frm] 40)) := ⟨_, Lib.hid rfl⟩
      have hbW : Below wo.heap.size wo W1 := by rw [hW1.out]; exact (Below.refl _ _).alloc (Nat.le_refl _) _
      rw [← show W1 = _ from hW1.out] at hX hB1
      obtain ⟨x0, x1, x2, x3, x4, x5, x6, x7⟩ := recCells hX
      have g0 := fun d os => cell_regrown x0 d os
      have g1 := fun d os => cell_regrown x1 d os
      have g2 := fun d os => cell_regrown x2 d os
      have g3 := fun d os => cell_regrown x3 d os
      have g4 := fun d os => cell_regrown x4 d os
      have g5 := fun d os => cell_regrown x5 d os
      have g6 := fun d os => cell_regrown x6 d os
      have g7 := fun d os => cell_regrown x7 d os
      have hmr := regrown_any (fun W => hm.out r W) W1
      have hfin0 : a < k → fineAt rs a := fun e => hlow.out a e
      have hbad0 : a = k → ¬ fineAt rs a := fun e => by rw [e]; exact hend.out (by omega)
      have hprev : ∀ pr, 0 < a → rs[a - 1]? = some pr → ∀ d os, (grow (redrawn W1 d) os).cell? ⟨b, o + (a - 1) * 8, none⟩ = some (.int .i64 pr.off) := fun pr h1 h2 d os => by
        obtain ⟨b', o', e', d0, _⟩ := (h.out.below hb).get h2
        cases e'
        exact cell_regrown (by rw [World.cell?_of_block (hbW.block b (block_lt_of_cell d0))]; exact d0) d os
      clear x0 x1 x2 x3 x4 x5 x6 x7
      have hBf : Hid (a = k → B = false) := Lib.hid (fun e => by rw [hB.out]; exact decide_eq_false (by omega))
      by_cases hro : ¬ r.ok
      · have hak : a = k := Classical.byContradiction fun e => hro ((hfin0 (by omega)) r hr).1
        obtain rfl := hBf.out hak
        replace hak := Lib.hid hak
        rw [show (Rc.mk r.off r.tick r.key r.val r.gone r.prod r.seq r.frm).may = false from decide_eq_false hro] at hmr
        replace hmr := Lib.hid hmr
        clear hfin0 hbad0 hprev hro hr hX hb
        go_wp2_with fail
        rw [← show W1 = _ from hW1.out, hxb.out]
        clear hW1
        refine wp_region_quiet_below (by kernel_rfl) (by kernel_rfl) ?_
        repeat (go_big_quiet_step (first | exact hmr.out _ _))
        refine wpQuiet_nil ?_
        intro _ hw'
        obtain ⟨⟨dq, osq⟩, hw''⟩ := hw'
        subst hw''
        have hB2 := Lib.hid (grew hB1.out (below_regrown W1 dq osq))
        clear g0 g1 g2 g3 g4 g5 g6 g7 hmr
        generalize grow (redrawn W1 dq) osq = w7 at *
        go_wp2_with fail
        go_ret
        exact ⟨rfl, hB2.out⟩
      · replace hro := Classical.not_not.1 hro
        rw [show (Rc.mk r.off r.tick r.key r.val r.gone r.prod r.seq r.frm).may = true from decide_eq_true hro] at hmr
        replace hmr := Lib.hid hmr
        by_cases ha0 : a = 0
        · have hak : a < k := Classical.byContradiction fun e => hbad0 (by omega) (fun r' hr' => by rw [hr] at hr'; cases hr'; exact ⟨hro, fun h0 => by omega⟩)
          have hgt : ∀ W, (binOp BinOp.gtr 3 (.int .i64 (a : Int)) (.int .i64 0)).run Try.prog W = .ok (.bool false) W := fun W => by simp [go_sem, Try.underlying3]; omega
          have hai : ¬ (0 : Int) < (a : Int) := by omega
          replace ha0 := Lib.hid ha0
          clear hfin0 hbad0 hprev hb hX
          replace hr := Lib.hid hr
          replace hro := Lib.hid hro
          go_wp2_with fail
          rw [← show W1 = _ from hW1.out, hxb.out]
          clear hW1
          refine wp_region_quiet_below (by kernel_rfl) (by kernel_rfl) ?_
          repeat (first
              | ((with_reducible refine quiet_bin BinOp.gtr 3 3 (.int .i64 (a : Int)) (.int .i64 0) (.bool false) ?_ ?_ hgt ?_ ?_ ?_); (· rfl); (· rfl); (· exact fun _ => rfl); (· rfl); simp only [Act.put, List.setIfInBounds_toArray, List.set_cons_zero, List.set_cons_succ])
              | go_big_quiet_step (first | exact hmr.out _ _))
          refine wpQuiet_nil ?_
          intro _ hw'
          obtain ⟨⟨dq, osq⟩, hw''⟩ := hw'
          subst hw''
          have hB2 := Lib.hid (grew hB1.out (below_regrown W1 dq osq))
          clear g0 g1 g2 g3 g4 g5 g6 g7 hmr
          generalize grow (redrawn W1 dq) osq = w7 at *
          go_wp2_with fail
          go_roundg (gk - 1)
          case measure => omega
          case rel => exact ⟨a + 1, by omega, by omega, by go_num, hB2⟩
        · obtain ⟨m, hm1⟩ : ∃ m, Hid (a - 1 = m) := ⟨_, Lib.hid rfl⟩
          obtain ⟨pr, hpr⟩ : ∃ pr, rs[a - 1]? = some pr := ⟨_, List.getElem?_eq_getElem (by have := hN.out; omega)⟩
          have hp := hprev pr (by omega) hpr
          rw [hm1.out] at hp
          have hwm : IntKind.i64.wrap ((a : Int) - 1) = (m : Int) := by rw [IntWalk.i64_in _ (by omega)]; have := hm1.out; omega
          have hmN : (m : Int) < (N : Int) := by have := hm1.out; omega
          have hgt : ∀ W, (binOp BinOp.gtr 3 (.int .i64 (a : Int)) (.int .i64 0)).run Try.prog W = .ok (.bool true) W := fun W => by simp [go_sem, Try.underlying3]; omega
          have hai : (0 : Int) < (a : Int) := by omega
          by_cases hle : r.off ≤ pr.off
          · have hak : a = k := Classical.byContradiction fun e => by
              have := ((hfin0 (by omega)) r hr).2 (by omega) pr hpr
              omega
            obtain rfl := hBf.out hak
            replace hak := Lib.hid hak
            clear hfin0 hbad0 hprev hX hb
            replace hr := Lib.hid hr
            replace hro := Lib.hid hro
            replace hpr := Lib.hid hpr
            go_wp2_with fail
            rw [← show W1 = _ from hW1.out, hxb.out]
            clear hW1
            refine wp_region_quiet_below (by kernel_rfl) (by kernel_rfl) ?_
            repeat (first
              | ((with_reducible refine quiet_bin BinOp.gtr 3 3 (.int .i64 (a : Int)) (.int .i64 0) (.bool true) ?_ ?_ hgt ?_ ?_ ?_); (· rfl); (· rfl); (· exact fun _ => rfl); (· rfl); simp only [Act.put, List.setIfInBounds_toArray, List.set_cons_zero, List.set_cons_succ])
              | go_big_quiet_step (first | exact hmr.out _ _))
            refine wpQuiet_nil ?_
            intro _ hw'
            obtain ⟨⟨dq, osq⟩, hw''⟩ := hw'
            subst hw''
            have hB2 := Lib.hid (grew hB1.out (below_regrown W1 dq osq))
            clear g0 g1 g2 g3 g4 g5 g6 g7 hmr hp
            generalize grow (redrawn W1 dq) osq = w7 at *
            go_wp2_with fail
            go_ret
            exact ⟨rfl, hB2.out⟩
          · have hak : a < k := Classical.byContradiction fun e => hbad0 (by omega) (fun r' hr' => by rw [hr] at hr'; cases hr'; exact ⟨hro, fun h0 p' hp' => by rw [hpr] at hp'; cases hp'; omega⟩)
            have hle2 : pr.off < r.off := by omega
            clear hfin0 hbad0 hprev hb hX
            replace hr := Lib.hid hr
            replace hro := Lib.hid hro
            replace hpr := Lib.hid hpr
            go_wp2_with fail
            rw [← show W1 = _ from hW1.out, hxb.out]
            clear hW1
            refine wp_region_quiet_below (by kernel_rfl) (by kernel_rfl) ?_
            repeat (first
              | ((with_reducible refine quiet_bin BinOp.gtr 3 3 (.int .i64 (a : Int)) (.int .i64 0) (.bool true) ?_ ?_ hgt ?_ ?_ ?_); (· rfl); (· rfl); (· exact fun _ => rfl); (· rfl); simp only [Act.put, List.setIfInBounds_toArray, List.set_cons_zero, List.set_cons_succ])
              | go_big_quiet_step (first | exact hmr.out _ _))
            refine wpQuiet_nil ?_
            intro _ hw'
            obtain ⟨⟨dq, osq⟩, hw''⟩ := hw'
            subst hw''
            have hB2 := Lib.hid (grew hB1.out (below_regrown W1 dq osq))
            clear g0 g1 g2 g3 g4 g5 g6 g7 hmr hp
            generalize grow (redrawn W1 dq) osq = w7 at *
            go_wp2_with fail
            go_roundg (gk - 1)
            case measure => omega
            case rel => exact ⟨a + 1, by omega, by omega, by go_num, hB2⟩
    · obtain rfl : a = N := by omega
      obtain rfl : k = a := by omega
      obtain rfl : B = true := by rw [hB.out]; simp
      replace hb := Lib.hid hb
      go_wp2_with fail
      go_ret
      exact ⟨rfl, hb.out⟩
/-- What may be, with rising offsets. -/
def fair20 (rs : List Rc) : Prop := rs.length ≤ 40 ∧ ∀ i, i < rs.length → fineAt rs i
theorem may20_is (va : Option Addr) (c : Nat) (rs : List Rc) (w : World) (h : RcAt w va rs) :
    (fair20 rs ∧ Calls Try.prog 26 #[.slice va rs.length c] w fun e w' => e = .returned (.bool true) ∧ Below w.heap.size w w') ∨
    (Calls Try.prog 26 #[.slice va rs.length c] w fun e w' => e = .returned (.bool false) ∧ Below w.heap.size w w') := by
  by_cases hl : 40 < rs.length
  · exact .inr ((may20_long va rs.length c w hl).mono fun e w' ⟨h1, h2⟩ => ⟨h1, h2 ▸ Below.refl _ _⟩)
  · by_cases hf : ∀ i, i < rs.length → fineAt rs i
    · exact .inl ⟨⟨by omega, hf⟩, may20_at va c rs w h (by omega) rs.length (Nat.le_refl _) hf (fun e => absurd e (Nat.lt_irrefl _)) true (by simp)⟩
    · obtain ⟨k, h1, h2, h3⟩ := first_not (fineAt rs) rs.length (Classical.byContradiction fun hc => hf fun i hi => Classical.byContradiction fun e => hc ⟨i, hi, e⟩)
      exact .inr (may20_at va c rs w h (by omega) k (by omega) h3 (fun _ => h2) false (decide_eq_false (by omega)).symm)
end Go.Proofs.Ytahljbjgenepaaa.W
