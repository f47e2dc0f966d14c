/- The definition's records: Wrong, Pack. -/
import Derived.Test.YtgfamaddghajlaaRcL
import Derived.Test.YtgfamaddghajlaaRcG
namespace Go.Proofs.Ytgfamaddghajlaa.W
open Go.RowKit Go.Sort
open Go.Proofs.Ytgfamaddghajlaa.M Go.Proofs.Ytgfamaddghajlaa.D Go.Proofs.Ytgfamaddghajlaa.Z
set_option linter.unusedVariables false
set_option linter.unusedSimpArgs false

/-- A comparison within a region that is walked in the order of the text, its answer known. -/
theorem quiet_bin {P : Program} {ops : Array Oper} {C : World → Prop} {Q : Go.Act → Prop} {a : Go.Act} {rest : List Oper} {d : Option Tmp} {x y : Operand} {ty : TypeId} {ps : String} {af : Array Edge} {gd : Option (Nat × Bool)} (o : BinOp) (t u : TypeId) (vx vy v : Value)
    (hx : a.eval x = vx) (hy : a.eval y = vy) (h0 : ∀ w, (binOp o t vx vy).run P w = .ok v w) (hq : ∀ w, (eqGuard o t x y vx vy).run P w = .ok () w)
    (hw : Region.wanted { dst := d, op := .binOp o t x y u, type := ty, pos := ps, after := af, guard := gd } (yielded ops a.tmps) = true)
    (h : wpQuiet P ops C Q rest (a.put d v)) : wpQuiet P ops C Q ({ dst := d, op := .binOp o t x y u, type := ty, pos := ps, after := af, guard := gd } :: rest) a := by
  refine quiet_by v hw (fun w _ => ?_) h
  have e := h0 w
  have e2 := hq w
  unfold execOp
  simp [hx, hy, Sem.run_bind, Sem.run_pure, Result.andThen_ok, e, e2]
theorem first_not (P : Nat → Prop) : ∀ n : Nat, (∃ i, i < n ∧ ¬ P i) → ∃ k, k < n ∧ ¬ P k ∧ ∀ i, i < k → P i := by
  intro n
  induction n with
  | zero => rintro ⟨i, hi, _⟩; omega
  | succ n ih =>
    intro h
    by_cases hn : ∃ i, i < n ∧ ¬ P i
    · obtain ⟨k, h1, h2⟩ := ih hn
      exact ⟨k, by omega, h2⟩
    · obtain ⟨i, h1, h2⟩ := h
      have hlow : ∀ j, j < n → P j := fun j hj => Classical.byContradiction fun e => hn ⟨j, hj, e⟩
      obtain rfl : i = n := Classical.byContradiction fun e => h2 (hlow i (by omega))
      exact ⟨i, h1, h2, hlow⟩
/-- Is a record at its place as it should be? -/
def fineAt (rs : List Rc) (i : Nat) : Prop := ∀ r, rs[i]? = some r → r.ok ∧ (0 < i → ∀ p, rs[i - 1]? = some p → p.off < r.off)
theorem fair_fine {rs : List Rc} (h0 : rs ≠ []) : fair rs ↔ ∀ i, i < rs.length → fineAt rs i := by
  constructor
  · rintro ⟨_, h1, h2⟩ i hi r hr
    exact ⟨h1 r (List.mem_of_getElem? hr), fun hp p hpp => h2 (i - 1) p r hpp (by rw [Nat.sub_add_cancel hp]; exact hr)⟩
  · intro h
    refine ⟨h0, fun r hr => ?_, fun i a b ha hb => ?_⟩
    · obtain ⟨i, hi⟩ := List.getElem?_of_mem hr
      exact (h i (List.getElem?_eq_some_iff.1 hi).1 r hi).1
    · exact (h (i + 1) (List.getElem?_eq_some_iff.1 hb).1 b hb).2 (by omega) a (by simpa using ha)

set_option maxRecDepth 100000 in
set_option maxHeartbeats 4000000 in
theorem rwrong_at (va : Option Addr) (c : Nat) (rs : List Rc) (w : World) (h : RcAt w va rs) (hn : rs.length ≤ 1000) (k : Nat) (hk : k ≤ rs.length) (hlow : ∀ i, i < k → fineAt rs i) (hend : k < rs.length → ¬ fineAt rs k)
    (x : Int) (hx : x = if k < rs.length ∨ rs.length = 0 then 1 else if 8 < rs.length ∨ 773 < (packL rs).length then 2 else 0) :
    Calls Try.prog 18 #[.slice va rs.length c] w fun e w' => e = .returned (.int .i64 x) ∧ Below w.heap.size w w' := by
  obtain ⟨N, hN⟩ : ∃ N, Hid (rs.length = N) := ⟨_, Lib.hid rfl⟩
  rw [hN.out] at hn hk hend hx ⊢
  have hm := Lib.hid (fun (r : Rc) W => rmay_any r.off r.tick r.key r.val r.gone r.prod r.seq r.frm W)
  have he := Lib.hid (fun (r : Rc) (hr : r.ok) W => renc_yes r.off r.tick r.key r.val r.gone r.prod r.seq r.frm W hr)
  have hsum : Hid (∀ a r, rs[a]? = some r → r.ok → (packL (rs.take (a + 1))).length = (packL (rs.take a)).length + (recL r).length ∧ (recL r).length ≤ 300) := Lib.hid (fun a r hr hro => by
    have h1 := recL_bounds hro
    obtain ⟨_, _, _, _, _, _, hk, hv, _⟩ := hro
    refine ⟨?_, by omega⟩
    rw [List.take_add_one, hr]
    show (packL (rs.take a ++ [r])).length = _
    rw [packL_snoc, List.length_append])
  replace h := Lib.hid h
  replace hlow := Lib.hid hlow
  replace hend := Lib.hid hend
  replace hx := Lib.hid hx
  go_enter Try.func18, Try.ntmps18
  go_wp2_with fail
  go_loopg [3, 8] N (fun ga nv i wr => ∃ a s : Nat, a ≤ k ∧ N ≤ a + ga ∧ i = .int .i64 a ∧ nv = .int .i64 s ∧ Hid ((packL (rs.take a)).length = s ∧ s ≤ 300 * a ∧ Below w.heap.size w wr))
  case atStart => exact ⟨0, 0, by omega, by omega, rfl, rfl, Lib.hid ⟨by simp [packL], by omega, Below.refl _ _⟩⟩
  case round =>
    obtain ⟨a, s, ha, hg, rfl, rfl, hrel⟩ := hrel
    obtain ⟨hs, hs3, hb⟩ := hrel.out
    clear hrel
    generalize wr = wo at *
    by_cases hlt : a < N
    · obtain ⟨r, hr⟩ : ∃ r, rs[a]? = some r := ⟨_, List.getElem?_eq_getElem (by have := hN.out; omega)⟩
      obtain ⟨b, o, rfl, c0, c1, c2, c3, c4, c5, c6, c7⟩ := (h.out.below hb).get hr
      have hX := Whole.new wo 23 (rcL r)
      have hB1 := Lib.hid (grewAlloc hb (.cells #[.int .i64 r.off, .int .i64 r.tick, .string r.key, .string r.val, .bool r.gone, .int .i64 r.prod, .int .i64 r.seq, .int .i64 r.frm] 23))
      obtain ⟨xb, hxb⟩ : ∃ xb, Hid (wo.heap.size = xb) := ⟨_, Lib.hid rfl⟩
      rw [hxb.out] at hX
      obtain ⟨W1, hW1⟩ : ∃ W, Hid (W = wo.alloc (.cells #[.int .i64 r.off, .int .i64 r.tick, .string r.key, .string r.val, .bool r.gone, .int .i64 r.prod, .int .i64 r.seq, .int .i64 r.frm] 23)) := ⟨_, Lib.hid rfl⟩
      have hbW : Below wo.heap.size wo W1 := by rw [hW1.out]; exact (Below.refl _ _).alloc (Nat.le_refl _) _
      rw [← show W1 = _ from hW1.out] at hX hB1
      obtain ⟨x0, x1, x2, x3, x4, x5, x6, x7⟩ := recCells hX
      have g0 := fun d os => cell_regrown x0 d os
      have g1 := fun d os => cell_regrown x1 d os
      have g2 := fun d os => cell_regrown x2 d os
      have g3 := fun d os => cell_regrown x3 d os
      have g4 := fun d os => cell_regrown x4 d os
      have g5 := fun d os => cell_regrown x5 d os
      have g6 := fun d os => cell_regrown x6 d os
      have g7 := fun d os => cell_regrown x7 d os
      have hmr := regrown_any (fun W => hm.out r W) W1
      have hfin0 : a < k → fineAt rs a := fun e => hlow.out a e
      have hbad0 : a = k → ¬ fineAt rs a := fun e => by rw [e]; exact hend.out (by omega)
      -- the record ahead
      have hprev : ∀ pr, 0 < a → rs[a - 1]? = some pr → ∀ d os, (grow (redrawn W1 d) os).cell? ⟨b, o + (a - 1) * 8, none⟩ = some (.int .i64 pr.off) := fun pr h1 h2 d os => by
        obtain ⟨b', o', e', d0, _⟩ := (h.out.below hb).get h2
        cases e'
        exact cell_regrown (by rw [World.cell?_of_block (hbW.block b (block_lt_of_cell d0))]; exact d0) d os
      clear x0 x1 x2 x3 x4 x5 x6 x7
      by_cases hro : ¬ r.ok
      · -- it may not be
        have hak : a = k := Classical.byContradiction fun e => hro ((hfin0 (by omega)) r hr).1
        have hx1 : x = 1 := by rw [hx.out, if_pos (.inl (by omega))]
        subst hx1
        subst hak
        rw [show (Rc.mk r.off r.tick r.key r.val r.gone r.prod r.seq r.frm).may = false from decide_eq_false hro] at hmr
        replace hmr := Lib.hid hmr
        clear hfin0 hbad0 hprev hro hr hs hX hb
        go_wp2_with fail
        rw [← show W1 = _ from hW1.out, hxb.out]
        clear hW1
        refine wp_region_quiet_below (by kernel_rfl) (by kernel_rfl) ?_
        repeat (go_big_quiet_step (first | exact hmr.out _ _))
        refine wpQuiet_nil ?_
        intro _ hw'
        obtain ⟨⟨dq, osq⟩, hw''⟩ := hw'
        subst hw''
        have hB2 := Lib.hid (grew hB1.out (below_regrown W1 dq osq))
        clear g0 g1 g2 g3 g4 g5 g6 g7 hmr
        generalize grow (redrawn W1 dq) osq = w7 at *
        go_wp2_with fail
        go_ret
        exact ⟨rfl, hB2.out⟩
      · replace hro := Classical.not_not.1 hro
        have her := he.out r hro
        have hsu := hsum.out a r hr hro
        rw [hs] at hsu
        have hlen8 := B_size (recL r)
        have hlw : Hid (IntKind.i64.wrap ((s : Int) + ((B (recL r)).size : Int)) = ((s + (recL r).length : Nat) : Int)) := Lib.hid (by rw [hlen8, IntWalk.i64_in _ (by omega)]; omega)
        rw [show (Rc.mk r.off r.tick r.key r.val r.gone r.prod r.seq r.frm).may = true from decide_eq_true hro] at hmr
        replace hmr := Lib.hid hmr
        replace her := Lib.hid her
        have hw8 := hlw.out
        rw [hlen8] at hlw hw8
        obtain ⟨S8, hS8⟩ : ∃ S, Hid (B (recL r) = S) := ⟨_, Lib.hid rfl⟩
        replace hX := Lib.hid hX
        by_cases ha0 : a = 0
        · have hak : a < k := Classical.byContradiction fun e => hbad0 (by omega) (fun r' hr' => by rw [hr] at hr'; cases hr'; exact ⟨hro, fun h0 => by omega⟩)
          have hai : ¬ (0 : Int) < (a : Int) := by omega
          have hgt : ∀ W, (binOp BinOp.gtr 3 (.int .i64 (a : Int)) (.int .i64 0)).run Try.prog W = .ok (.bool false) W := fun W => by simp [go_sem, Try.underlying3]; omega
          replace ha0 := Lib.hid ha0
          clear hfin0 hbad0 hprev hs hb
          replace hr := Lib.hid hr
          replace hro := Lib.hid hro
          go_wp2_with fail
          rw [← show W1 = _ from hW1.out, hxb.out]
          clear hW1
          refine wp_region_quiet_below (by kernel_rfl) (by kernel_rfl) ?_
          repeat (first
              | ((with_reducible refine quiet_bin BinOp.gtr 3 3 (.int .i64 (a : Int)) (.int .i64 0) (.bool false) ?_ ?_ hgt ?_ ?_ ?_); (· rfl); (· rfl); (· exact fun _ => rfl); (· rfl); simp only [Act.put, List.setIfInBounds_toArray, List.set_cons_zero, List.set_cons_succ])
              | go_big_quiet_step (first | exact hmr.out _ _))
          refine wpQuiet_nil ?_
          intro _ hw'
          obtain ⟨⟨dq, osq⟩, hw''⟩ := hw'
          subst hw''
          have hX7 := hX.out.below (below_regrown W1 dq osq) hX.out.lt
          have hB2 := Lib.hid (grew hB1.out (below_regrown W1 dq osq))
          clear g0 g1 g2 g3 g4 g5 g6 g7 hmr 
          generalize grow (redrawn W1 dq) osq = w7 at *
          obtain ⟨y0, y1, y2, y3, y4, y5, y6, y7⟩ := recCells hX7
          clear hX7
          go_wp2_with fail
          refine (her.out _).mono ?_
          rintro e w8 ⟨rfl, hb8⟩
          have hfin := Lib.hid (And.intro hsu.1 (And.intro (show s + (recL r).length ≤ 300 * (a + 1) by omega) (grew hB2.out hb8)))
          clear y0 y1 y2 y3 y4 y5 y6 y7 hb8 hB2
          go_wp2_with fail
          go_roundg (gk - 1)
          case measure => omega
          case rel => exact ⟨a + 1, s + (recL r).length, by omega, by omega, by go_num, (by go_num), hfin⟩
        · obtain ⟨m, hm1⟩ : ∃ m, Hid (a - 1 = m) := ⟨_, Lib.hid rfl⟩
          obtain ⟨pr, hpr⟩ : ∃ pr, rs[a - 1]? = some pr := ⟨_, List.getElem?_eq_getElem (by have := hN.out; omega)⟩
          have hp := hprev pr (by omega) hpr
          rw [hm1.out] at hp
          have hai : (0 : Int) < (a : Int) := by omega
          have hwm : IntKind.i64.wrap ((a : Int) - 1) = (m : Int) := by rw [IntWalk.i64_in _ (by omega)]; have := hm1.out; omega
          have hmN : (m : Int) < (N : Int) := by have := hm1.out; omega
          have hgt : ∀ W, (binOp BinOp.gtr 3 (.int .i64 (a : Int)) (.int .i64 0)).run Try.prog W = .ok (.bool true) W := fun W => by simp [go_sem, Try.underlying3]; omega
          by_cases hle : r.off ≤ pr.off
          · have hak : a = k := Classical.byContradiction fun e => by
              have := ((hfin0 (by omega)) r hr).2 (by omega) pr hpr
              omega
            have hx1 : x = 1 := by rw [hx.out, if_pos (.inl (by omega))]
            subst hx1
            subst hak
            clear hfin0 hbad0 hprev hs hX hb hsu her hS8 hlen8 hw8
            replace hr := Lib.hid hr
            replace hro := Lib.hid hro
            replace hpr := Lib.hid hpr
            go_wp2_with fail
            rw [← show W1 = _ from hW1.out, hxb.out]
            clear hW1
            refine wp_region_quiet_below (by kernel_rfl) (by kernel_rfl) ?_
            repeat (first
              | ((with_reducible refine quiet_bin BinOp.gtr 3 3 (.int .i64 (a : Int)) (.int .i64 0) (.bool true) ?_ ?_ hgt ?_ ?_ ?_); (· rfl); (· rfl); (· exact fun _ => rfl); (· rfl); simp only [Act.put, List.setIfInBounds_toArray, List.set_cons_zero, List.set_cons_succ])
              | go_big_quiet_step (first | exact hmr.out _ _))
            refine wpQuiet_nil ?_
            intro _ hw'
            obtain ⟨⟨dq, osq⟩, hw''⟩ := hw'
            subst hw''
            have hB2 := Lib.hid (grew hB1.out (below_regrown W1 dq osq))
            clear g0 g1 g2 g3 g4 g5 g6 g7 hmr hp
            generalize grow (redrawn W1 dq) osq = w7 at *
            go_wp2_with fail
            go_ret
            exact ⟨rfl, hB2.out⟩
          · have hak : a < k := Classical.byContradiction fun e => hbad0 (by omega) (fun r' hr' => by rw [hr] at hr'; cases hr'; exact ⟨hro, fun h0 p' hp' => by rw [hpr] at hp'; cases hp'; omega⟩)
            have hle2 : pr.off < r.off := by omega
            clear hfin0 hbad0 hprev hs hb
            replace hr := Lib.hid hr
            replace hro := Lib.hid hro
            replace hpr := Lib.hid hpr
            go_wp2_with fail
            rw [← show W1 = _ from hW1.out, hxb.out]
            clear hW1
            refine wp_region_quiet_below (by kernel_rfl) (by kernel_rfl) ?_
            repeat (first
              | ((with_reducible refine quiet_bin BinOp.gtr 3 3 (.int .i64 (a : Int)) (.int .i64 0) (.bool true) ?_ ?_ hgt ?_ ?_ ?_); (· rfl); (· rfl); (· exact fun _ => rfl); (· rfl); simp only [Act.put, List.setIfInBounds_toArray, List.set_cons_zero, List.set_cons_succ])
              | go_big_quiet_step (first | exact hmr.out _ _))
            refine wpQuiet_nil ?_
            intro _ hw'
            obtain ⟨⟨dq, osq⟩, hw''⟩ := hw'
            subst hw''
            have hX7 := hX.out.below (below_regrown W1 dq osq) hX.out.lt
            have hB2 := Lib.hid (grew hB1.out (below_regrown W1 dq osq))
            clear g0 g1 g2 g3 g4 g5 g6 g7 hmr hp
            generalize grow (redrawn W1 dq) osq = w7 at *
            obtain ⟨y0, y1, y2, y3, y4, y5, y6, y7⟩ := recCells hX7
            clear hX7
            go_wp2_with fail
            refine (her.out _).mono ?_
            rintro e w8 ⟨rfl, hb8⟩
            have hfin := Lib.hid (And.intro hsu.1 (And.intro (show s + (recL r).length ≤ 300 * (a + 1) by omega) (grew hB2.out hb8)))
            clear y0 y1 y2 y3 y4 y5 y6 y7 hb8 hB2
            go_wp2_with fail
            go_roundg (gk - 1)
            case measure => omega
            case rel => exact ⟨a + 1, s + (recL r).length, by omega, by omega, by go_num, (by go_num), hfin⟩
    · obtain rfl : a = N := by omega
      obtain rfl : k = a := by omega
      have hxe := hx.out
      have hle := Lib.hid hs3
      rw [List.take_of_length_le (by have := hN.out; omega)] at hs
      replace hb := Lib.hid hb
      by_cases h0 : k = 0
      · rw [if_pos (.inr h0)] at hxe
        subst hxe
        have h0i : (k : Int) = 0 := by omega
        have h0b : ((k : Int) == 0) = true := by simp [h0]
        clear hx hs
        go_wp2_with fail
        go_ret
        exact ⟨rfl, hb.out⟩
      · rw [if_neg (by omega), hs] at hxe
        have h0b : ((k : Int) == 0) = false := by simp; omega
        have h0c : ¬ (k : Int) = 0 := by omega
        clear hx hs
        by_cases h8 : 8 < k
        · rw [if_pos (.inl h8)] at hxe
          subst hxe
          have h8i : (8 : Int) < (k : Int) := by omega
          go_wp2_with fail
          go_ret
          exact ⟨rfl, hb.out⟩
        · have h8i : (k : Int) ≤ 8 := by omega
          by_cases h7 : 773 < s
          · rw [if_pos (.inr h7)] at hxe
            subst hxe
            have h7i : (773 : Int) < (s : Int) := by omega
            go_wp2_with fail
            go_ret
            exact ⟨rfl, hb.out⟩
          · rw [if_neg (by omega)] at hxe
            subst hxe
            have h7i : (s : Int) ≤ 773 := by omega
            go_wp2_with fail
            go_ret
            exact ⟨rfl, hb.out⟩
end Go.Proofs.Ytgfamaddghajlaa.W
