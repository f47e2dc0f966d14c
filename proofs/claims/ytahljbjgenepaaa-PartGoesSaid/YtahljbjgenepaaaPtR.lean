/- Layer 19's definition: may, rise, Set, Replace. -/
import Derived.Test.YtahljbjgenepaaaPtI
namespace Go.Proofs.Ytahljbjgenepaaa.W
open Go.RowKit Go.Sort
open Go.Proofs.Ytahljbjgenepaaa.M Go.Proofs.Ytahljbjgenepaaa.D Go.Proofs.Ytahljbjgenepaaa.Z
set_option linter.unusedVariables false
set_option linter.unusedSimpArgs false

set_option maxRecDepth 100000 in
set_option maxHeartbeats 4000000 in
theorem rmay19_any (va : Option Addr) (c : Nat) (rs : List Rc) (w : World) (h : RcAt w va rs) (hn : rs.length ≤ 1000) :
    Calls Try.prog 44 #[.slice va rs.length c] w fun e w' => e = .returned (.bool (rs.all Rc.may)) ∧ Below w.heap.size w w' := by
  obtain ⟨N, hN⟩ : ∃ N, Hid (rs.length = N) := ⟨_, Lib.hid rfl⟩
  rw [hN.out] at hn ⊢
  obtain ⟨B, hB⟩ : ∃ B, Hid (rs.all Rc.may = B) := ⟨_, Lib.hid rfl⟩
  rw [hB.out]
  have hm := Lib.hid (fun (r : Rc) W => rmay_any r.off r.tick r.key r.val r.gone r.prod r.seq r.frm W)
  have hno : Hid (∀ (a : Nat) (r : Rc), rs[a]? = some r → r.may = false → B = false) := Lib.hid (fun a r hr e => by
    rw [← hB.out]
    apply Bool.eq_false_iff.2
    intro h
    have := (List.all_eq_true.1 h) r (List.mem_of_getElem? hr)
    rw [e] at this
    cases this)
  have hyes : Hid ((∀ (i : Nat) (r : Rc), i < N → rs[i]? = some r → r.may = true) → B = true) := Lib.hid (fun h => by
    rw [← hB.out]
    apply List.all_eq_true.2
    intro r hr
    obtain ⟨i, hi⟩ := List.getElem?_of_mem hr
    exact h i r (by rw [← hN.out]; exact (List.getElem?_eq_some_iff.1 hi).1) hi)
  replace h := Lib.hid h
  go_enter Try.func44, Try.ntmps44
  go_wp2_with fail
  go_loopg [7] N (fun ga i wr => ∃ a : Nat, a ≤ N ∧ N ≤ a + ga ∧ i = .int .i64 (a : Int) ∧ Hid ((∀ (i : Nat) (r : Rc), i < a → rs[i]? = some r → r.may = true) ∧ Below w.heap.size w wr))
  case atStart => exact ⟨0, by omega, by omega, rfl, Lib.hid ⟨fun i r hi => absurd hi (Nat.not_lt_zero _), Below.refl _ _⟩⟩
  case round =>
    obtain ⟨a, ha, hg, rfl, hrel⟩ := hrel
    generalize wr = wo at *
    by_cases hlt : a < N
    · obtain ⟨r, hr⟩ : ∃ r, rs[a]? = some r := ⟨_, List.getElem?_eq_getElem (by have := hN.out; omega)⟩
      obtain ⟨b, o, rfl, c0, c1, c2, c3, c4, c5, c6, c7⟩ := (h.out.below hrel.out.2).get hr
      have hB1 := Lib.hid (grewAlloc hrel.out.2 (.cells #[.int .i64 r.off, .int .i64 r.tick, .string r.key, .string r.val, .bool r.gone, .int .i64 r.prod, .int .i64 r.seq, .int .i64 r.frm] 40))
      have hmr := hm.out r
      have hki : (a : Int) < (N : Int) := by omega
      cases hmm : r.may with
      | false =>
        rw [show (Rc.mk r.off r.tick r.key r.val r.gone r.prod r.seq r.frm).may = false from hmm] at hmr
        obtain rfl := hno.out a r hr hmm
        replace hmr := Lib.hid hmr
        replace hr := Lib.hid hr
        clear hmm hrel hno hyes
        go_wp2_with fail
        refine (hmr.out _).mono ?_
        rintro _ w2 ⟨rfl, hb2⟩
        have hfin := Lib.hid (grew hB1.out hb2)
        clear hb2 hB1 hmr c0 c1 c2 c3 c4 c5 c6 c7
        go_wp2_with fail
        go_ret
        exact ⟨rfl, hfin.out⟩
      | true =>
        rw [show (Rc.mk r.off r.tick r.key r.val r.gone r.prod r.seq r.frm).may = true from hmm] at hmr
        have hall : Hid (∀ (i : Nat) (s : Rc), i < a + 1 → rs[i]? = some s → s.may = true) := Lib.hid (fun i s hi hs => by
          by_cases e : i < a
          · exact hrel.out.1 i s e hs
          · obtain rfl : i = a := by omega
            rw [hr] at hs; cases hs; exact hmm)
        replace hmr := Lib.hid hmr
        replace hr := Lib.hid hr
        clear hmm hrel
        go_wp2_with fail
        refine (hmr.out _).mono ?_
        rintro _ w2 ⟨rfl, hb2⟩
        have hfin := Lib.hid (And.intro hall.out (grew hB1.out hb2))
        clear hb2 hB1 hmr hall c0 c1 c2 c3 c4 c5 c6 c7
        go_wp2_with fail
        go_roundg (gk - 1)
        case measure => omega
        case rel => exact ⟨a + 1, by omega, by omega, by go_num, hfin⟩
    · obtain rfl : a = N := by omega
      obtain rfl := hyes.out hrel.out.1
      have hb := Lib.hid hrel.out.2
      clear hrel hno hyes
      go_wp2_with fail
      go_ret
      exact ⟨rfl, hb.out⟩

set_option maxRecDepth 100000 in
set_option maxHeartbeats 4000000 in
theorem rrise19_any (va : Option Addr) (c : Nat) (rs : List Rc) (from_ below : Int) (w : World) (h : RcAt w va rs) (hn : rs.length ≤ 1000) :
    Calls Try.prog 45 #[.slice va rs.length c, .int .i64 from_, .int .i64 below] w fun e w' => e = .returned (.bool (stairB below from_ rs)) ∧ Below w.heap.size w w' := by
  obtain ⟨N, hN⟩ : ∃ N, Hid (rs.length = N) := ⟨_, Lib.hid rfl⟩
  rw [hN.out] at hn ⊢
  obtain ⟨B, hB⟩ : ∃ B, Hid (stairB below from_ rs = B) := ⟨_, Lib.hid rfl⟩
  rw [hB.out]
  have hst : Hid (∀ (m : Nat) (r : Rc) (f : Int), rs[m]? = some r → stairB below f (rs.drop m) = (decide (f ≤ r.off ∧ r.off < below) && stairB below (r.off + 1) (rs.drop (m + 1)))) := Lib.hid (fun m r f hr => stairB_at hr)
  have hdr : Hid (rs.drop N = []) := Lib.hid (by rw [← hN.out]; simp)
  replace h := Lib.hid h
  go_enter Try.func45, Try.ntmps45
  go_wp2_with fail
  go_loopg [11] N (fun ga i wr => ∃ (a : Nat), a ≤ N ∧ N ≤ a + ga ∧ i = .int .i64 (a : Int) ∧ Hid (Below w.heap.size w wr ∧ ∃ x : Int, B = stairB below x (rs.drop a) ∧ (a = 0 → x = from_) ∧ (0 < a → ∀ pr, rs[a - 1]? = some pr → x = pr.off + 1 ∧ from_ ≤ pr.off)))
  case atStart => exact ⟨0, by omega, by omega, rfl, Lib.hid ⟨Below.refl _ _, from_, hB.out.symm, fun _ => rfl, fun h => absurd h (Nat.lt_irrefl _)⟩⟩
  case round =>
    obtain ⟨a, ha, hg, rfl, hrel⟩ := hrel
    obtain ⟨hb, x, hx1, hx2, hx3⟩ := hrel.out
    clear hrel
    generalize wr = wo at *
    by_cases hlt : a < N
    · obtain ⟨r, hr⟩ : ∃ r, rs[a]? = some r := ⟨_, List.getElem?_eq_getElem (by have := hN.out; omega)⟩
      obtain ⟨b, o, rfl, c0, c1, c2, c3, c4, c5, c6, c7⟩ := (h.out.below hb).get hr
      have hX := Whole.new wo 40 (rcL r)
      have hB1 := Lib.hid (grewAlloc hb (.cells #[.int .i64 r.off, .int .i64 r.tick, .string r.key, .string r.val, .bool r.gone, .int .i64 r.prod, .int .i64 r.seq, .int .i64 r.frm] 40))
      obtain ⟨xb, hxb⟩ : ∃ xb, Hid (wo.heap.size = xb) := ⟨_, Lib.hid rfl⟩
      rw [hxb.out] at hX
      obtain ⟨W1, hW1⟩ : ∃ W, Hid (W = wo.alloc (.cells #[.int .i64 r.off, .int .i64 r.tick, .string r.key, .string r.val, .bool r.gone, .int .i64 r.prod, .int .i64 r.seq, .int .i64 r.frm] 40)) := ⟨_, Lib.hid rfl⟩
      have hbW : Below wo.heap.size wo W1 := by rw [hW1.out]; exact (Below.refl _ _).alloc (Nat.le_refl _) _
      rw [← show W1 = _ from hW1.out] at hX hB1
      obtain ⟨x0, x1, x2, x3, x4, x5, x6, x7⟩ := recCells hX
      have g0 := fun d os => cell_regrown x0 d os
      have hprev : ∀ pr, 0 < a → rs[a - 1]? = some pr → ∀ d os, (grow (redrawn W1 d) os).cell? ⟨b, o + (a - 1) * 8, none⟩ = some (.int .i64 pr.off) := fun pr h1 h2 d os => by
        obtain ⟨b', o', e', d0, _⟩ := (h.out.below hb).get h2
        cases e'
        exact cell_regrown (by rw [World.cell?_of_block (hbW.block b (block_lt_of_cell d0))]; exact d0) d os
      have hs1 := hst.out a r x hr
      have hki : (a : Int) < (N : Int) := by omega
      have hno : Hid (¬ (x ≤ r.off ∧ r.off < below) → B = false) := Lib.hid (fun e => by rw [hx1, hs1, decide_eq_false e, Bool.false_and])
      have hyes : Hid (x ≤ r.off ∧ r.off < below → from_ ≤ r.off → B = stairB below (r.off + 1) (rs.drop (a + 1)) ∧ (a + 1 = 0 → r.off + 1 = from_) ∧ (0 < a + 1 → ∀ pr, rs[a + 1 - 1]? = some pr → r.off + 1 = pr.off + 1 ∧ from_ ≤ pr.off)) := Lib.hid (fun e e2 => ⟨by rw [hx1, hs1, decide_eq_true e, Bool.true_and], fun h => by omega, fun _ pr hp => by
        rw [Nat.add_sub_cancel, hr] at hp; cases hp; exact ⟨rfl, e2⟩⟩)
      clear x0 x1 x2 x3 x4 x5 x6 x7 hs1 hX hbW
      by_cases h1 : r.off < from_
      · obtain rfl := hno.out (fun e => by
          by_cases h0 : a = 0
          · have := hx2 h0; omega
          · obtain ⟨pr, hpr⟩ : ∃ pr, rs[a - 1]? = some pr := ⟨_, List.getElem?_eq_getElem (by have := hN.out; omega)⟩
            have := hx3 (by omega) pr hpr; omega)
        replace hr := Lib.hid hr
        clear hno hyes hprev hx1 hx2 hx3 hB
        go_upto_region 4 with fail
        rw [← show W1 = _ from hW1.out, hxb.out]
        clear hW1 c0 c1 c2 c3 c4 c5 c6 c7
        refine wp_region_quiet_below (by kernel_rfl) (by kernel_rfl) ?_
        repeat (first
          | go_big_quiet_step (first | fail))
        refine wpQuiet_nil ?_
        intro _ hw'
        obtain ⟨⟨dq, osq⟩, hw''⟩ := hw'
        subst hw''
        have hB2 := Lib.hid (grew hB1.out (below_regrown W1 dq osq))
        clear g0
        generalize grow (redrawn W1 dq) osq = w7 at *
        go_wp2_with fail
        go_ret
        exact ⟨rfl, hB2.out⟩
      · by_cases h2 : below ≤ r.off
        · obtain rfl := hno.out (fun e => by omega)
          replace hr := Lib.hid hr
          clear hno hyes hprev hx1 hx2 hx3 hB
          have hgl : ∀ W, (binOp BinOp.lss 3 (.int .i64 r.off) (.int .i64 from_)).run Try.prog W = .ok (.bool false) W := fun W => by simp [go_sem, Try.underlying3]; omega
          have hgg : ∀ W, (binOp BinOp.geq 3 (.int .i64 r.off) (.int .i64 below)).run Try.prog W = .ok (.bool true) W := fun W => by simp [go_sem, Try.underlying3]; omega
          go_upto_region 4 with fail
          rw [← show W1 = _ from hW1.out, hxb.out]
          clear hW1 c0 c1 c2 c3 c4 c5 c6 c7
          refine wp_region_quiet_below (by kernel_rfl) (by kernel_rfl) ?_
          repeat (first
            | ((with_reducible refine quiet_bin BinOp.lss 3 3 (.int .i64 r.off) (.int .i64 from_) (.bool false) ?_ ?_ hgl ?_ ?_ ?_); (· rfl); (· rfl); (· exact fun _ => rfl); (· rfl); simp only [Act.put, List.setIfInBounds_toArray, List.set_cons_zero, List.set_cons_succ])
            | ((with_reducible refine quiet_bin BinOp.geq 3 3 (.int .i64 r.off) (.int .i64 below) (.bool true) ?_ ?_ hgg ?_ ?_ ?_); (· rfl); (· rfl); (· exact fun _ => rfl); (· rfl); simp only [Act.put, List.setIfInBounds_toArray, List.set_cons_zero, List.set_cons_succ])
            | go_big_quiet_step (first | fail))
          refine wpQuiet_nil ?_
          intro _ hw'
          obtain ⟨⟨dq, osq⟩, hw''⟩ := hw'
          subst hw''
          have hB2 := Lib.hid (grew hB1.out (below_regrown W1 dq osq))
          clear g0
          generalize grow (redrawn W1 dq) osq = w7 at *
          go_wp2_with fail
          go_ret
          exact ⟨rfl, hB2.out⟩
        · by_cases ha0 : a = 0
          · have hgt : ∀ W, (binOp BinOp.gtr 3 (.int .i64 (a : Int)) (.int .i64 0)).run Try.prog W = .ok (.bool false) W := fun W => by simp [go_sem, Try.underlying3]; omega
            have h3 : ¬ r.off < from_ := h1
            have h4 : r.off < below := by omega
            have h5 : from_ ≤ r.off := by omega
            have hnx := Lib.hid (hyes.out ⟨by have := hx2 ha0; omega, h4⟩ h5)
            replace hr := Lib.hid hr
            replace ha0 := Lib.hid ha0
            clear hno hyes hprev hx1 hx2 hx3 hB h2 h3
            have hgl : ∀ W, (binOp BinOp.lss 3 (.int .i64 r.off) (.int .i64 from_)).run Try.prog W = .ok (.bool false) W := fun W => by simp [go_sem, Try.underlying3]; omega
            have hgg : ∀ W, (binOp BinOp.geq 3 (.int .i64 r.off) (.int .i64 below)).run Try.prog W = .ok (.bool false) W := fun W => by simp [go_sem, Try.underlying3]; omega
            go_upto_region 4 with fail
            rw [← show W1 = _ from hW1.out, hxb.out]
            clear hW1 c0 c1 c2 c3 c4 c5 c6 c7
            refine wp_region_quiet_below (by kernel_rfl) (by kernel_rfl) ?_
            repeat (first
              | ((with_reducible refine quiet_bin BinOp.lss 3 3 (.int .i64 r.off) (.int .i64 from_) (.bool false) ?_ ?_ hgl ?_ ?_ ?_); (· rfl); (· rfl); (· exact fun _ => rfl); (· rfl); simp only [Act.put, List.setIfInBounds_toArray, List.set_cons_zero, List.set_cons_succ])
              | ((with_reducible refine quiet_bin BinOp.geq 3 3 (.int .i64 r.off) (.int .i64 below) (.bool false) ?_ ?_ hgg ?_ ?_ ?_); (· rfl); (· rfl); (· exact fun _ => rfl); (· rfl); simp only [Act.put, List.setIfInBounds_toArray, List.set_cons_zero, List.set_cons_succ])
              | ((with_reducible refine quiet_bin BinOp.gtr 3 3 (.int .i64 (a : Int)) (.int .i64 0) (.bool false) ?_ ?_ hgt ?_ ?_ ?_); (· rfl); (· rfl); (· exact fun _ => rfl); (· rfl); simp only [Act.put, List.setIfInBounds_toArray, List.set_cons_zero, List.set_cons_succ])
              | go_big_quiet_step (first | fail))
            refine wpQuiet_nil ?_
            intro _ hw'
            obtain ⟨⟨dq, osq⟩, hw''⟩ := hw'
            subst hw''
            have hB2 := Lib.hid (grew hB1.out (below_regrown W1 dq osq))
            clear g0
            generalize grow (redrawn W1 dq) osq = w7 at *
            go_wp2_with fail
            go_roundg (gk - 1)
            case measure => omega
            case rel => exact ⟨a + 1, by omega, by omega, by go_num, Lib.hid ⟨hB2.out, _, hnx.out⟩⟩
          · obtain ⟨m, hm1⟩ : ∃ m, Hid (a - 1 = m) := ⟨_, Lib.hid rfl⟩
            obtain ⟨pr, hpr⟩ : ∃ pr, rs[a - 1]? = some pr := ⟨_, List.getElem?_eq_getElem (by have := hN.out; omega)⟩
            have hp := hprev pr (by omega) hpr
            have hx4 := hx3 (by omega) pr hpr
            rw [hm1.out] at hp
            have hwm : IntKind.i64.wrap ((a : Int) - 1) = (m : Int) := by rw [IntWalk.i64_in _ (by omega)]; have := hm1.out; omega
            have hmN : (m : Int) < (N : Int) := by have := hm1.out; omega
            have hm0 : (0 : Int) ≤ (m : Int) := by omega
            have hgt : ∀ W, (binOp BinOp.gtr 3 (.int .i64 (a : Int)) (.int .i64 0)).run Try.prog W = .ok (.bool true) W := fun W => by simp [go_sem, Try.underlying3]; omega
            have h4 : r.off < below := by omega
            have h5 : from_ ≤ r.off := by omega
            by_cases hle : r.off ≤ pr.off
            · obtain rfl := hno.out (fun e => by omega)
              replace hr := Lib.hid hr
              replace hpr := Lib.hid hpr
              clear hno hyes hprev hx1 hx2 hx3 hx4 hB h2
              have hgl : ∀ W, (binOp BinOp.lss 3 (.int .i64 r.off) (.int .i64 from_)).run Try.prog W = .ok (.bool false) W := fun W => by simp [go_sem, Try.underlying3]; omega
              have hgg : ∀ W, (binOp BinOp.geq 3 (.int .i64 r.off) (.int .i64 below)).run Try.prog W = .ok (.bool false) W := fun W => by simp [go_sem, Try.underlying3]; omega
              go_upto_region 4 with fail
              rw [← show W1 = _ from hW1.out, hxb.out]
              clear hW1 c0 c1 c2 c3 c4 c5 c6 c7
              refine wp_region_quiet_below (by kernel_rfl) (by kernel_rfl) ?_
              repeat (first
                | ((with_reducible refine quiet_bin BinOp.lss 3 3 (.int .i64 r.off) (.int .i64 from_) (.bool false) ?_ ?_ hgl ?_ ?_ ?_); (· rfl); (· rfl); (· exact fun _ => rfl); (· rfl); simp only [Act.put, List.setIfInBounds_toArray, List.set_cons_zero, List.set_cons_succ])
                | ((with_reducible refine quiet_bin BinOp.geq 3 3 (.int .i64 r.off) (.int .i64 below) (.bool false) ?_ ?_ hgg ?_ ?_ ?_); (· rfl); (· rfl); (· exact fun _ => rfl); (· rfl); simp only [Act.put, List.setIfInBounds_toArray, List.set_cons_zero, List.set_cons_succ])
                | ((with_reducible refine quiet_bin BinOp.gtr 3 3 (.int .i64 (a : Int)) (.int .i64 0) (.bool true) ?_ ?_ hgt ?_ ?_ ?_); (· rfl); (· rfl); (· exact fun _ => rfl); (· rfl); simp only [Act.put, List.setIfInBounds_toArray, List.set_cons_zero, List.set_cons_succ])
                | go_big_quiet_step (first | fail))
              refine wpQuiet_nil ?_
              intro _ hw'
              obtain ⟨⟨dq, osq⟩, hw''⟩ := hw'
              subst hw''
              have hB2 := Lib.hid (grew hB1.out (below_regrown W1 dq osq))
              clear g0
              generalize grow (redrawn W1 dq) osq = w7 at *
              go_wp2_with fail
              go_ret
              exact ⟨rfl, hB2.out⟩
            · have h6 : pr.off < r.off := by omega
              have hnx := Lib.hid (hyes.out ⟨by omega, h4⟩ h5)
              replace hr := Lib.hid hr
              replace hpr := Lib.hid hpr
              clear hno hyes hprev hx1 hx2 hx3 hx4 hB h2 hle
              have hgl : ∀ W, (binOp BinOp.lss 3 (.int .i64 r.off) (.int .i64 from_)).run Try.prog W = .ok (.bool false) W := fun W => by simp [go_sem, Try.underlying3]; omega
              have hgg : ∀ W, (binOp BinOp.geq 3 (.int .i64 r.off) (.int .i64 below)).run Try.prog W = .ok (.bool false) W := fun W => by simp [go_sem, Try.underlying3]; omega
              go_upto_region 4 with fail
              rw [← show W1 = _ from hW1.out, hxb.out]
              clear hW1 c0 c1 c2 c3 c4 c5 c6 c7
              refine wp_region_quiet_below (by kernel_rfl) (by kernel_rfl) ?_
              repeat (first
                | ((with_reducible refine quiet_bin BinOp.lss 3 3 (.int .i64 r.off) (.int .i64 from_) (.bool false) ?_ ?_ hgl ?_ ?_ ?_); (· rfl); (· rfl); (· exact fun _ => rfl); (· rfl); simp only [Act.put, List.setIfInBounds_toArray, List.set_cons_zero, List.set_cons_succ])
                | ((with_reducible refine quiet_bin BinOp.geq 3 3 (.int .i64 r.off) (.int .i64 below) (.bool false) ?_ ?_ hgg ?_ ?_ ?_); (· rfl); (· rfl); (· exact fun _ => rfl); (· rfl); simp only [Act.put, List.setIfInBounds_toArray, List.set_cons_zero, List.set_cons_succ])
                | ((with_reducible refine quiet_bin BinOp.gtr 3 3 (.int .i64 (a : Int)) (.int .i64 0) (.bool true) ?_ ?_ hgt ?_ ?_ ?_); (· rfl); (· rfl); (· exact fun _ => rfl); (· rfl); simp only [Act.put, List.setIfInBounds_toArray, List.set_cons_zero, List.set_cons_succ])
                | go_big_quiet_step (first | fail))
              refine wpQuiet_nil ?_
              intro _ hw'
              obtain ⟨⟨dq, osq⟩, hw''⟩ := hw'
              subst hw''
              have hB2 := Lib.hid (grew hB1.out (below_regrown W1 dq osq))
              clear g0
              generalize grow (redrawn W1 dq) osq = w7 at *
              go_wp2_with fail
              go_roundg (gk - 1)
              case measure => omega
              case rel => exact ⟨a + 1, by omega, by omega, by go_num, Lib.hid ⟨hB2.out, _, hnx.out⟩⟩
    · obtain rfl : a = N := by omega
      obtain rfl : B = true := by rw [hx1, hdr.out]; rfl
      replace hb := Lib.hid hb
      clear hx1 hx2 hx3
      go_wp2_with fail
      go_ret
      exact ⟨rfl, hb.out⟩
end Go.Proofs.Ytahljbjgenepaaa.W
