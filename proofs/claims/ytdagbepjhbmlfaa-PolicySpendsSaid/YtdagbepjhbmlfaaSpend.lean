/- What is let down by a ledger, and its ticks. -/
import Derived.Test.YtdagbepjhbmlfaaProg
import Derived.Test.YtdagbepjhbmlfaaLedger
import Derived.Deep.MidRow
namespace Go.Proofs.Ytdagbepjhbmlfaa.Q
open Go.RowKit
open Go.Proofs.Ytdagbepjhbmlfaa.Z
open Go.Proofs.Ytdagbepjhbmlfaa.D (Whole splice_row Kept)
open Go.Proofs.Ytdagbepjhbmlfaa.L (ret_bool)
set_option linter.unusedVariables false

theorem Pol.kept {w w' : World} {B p n g : Nat} {r : Nat → Rule1} (h : Pol w B p n r) (hg : B ≤ g) (hk : Kept (fun b => b = g) w w') : Pol w' B p n r :=
  h.below (Nat.le_refl B) ⟨hk.os, hk.tape, hk.output, hk.size, fun b hb => hk.block b (Nat.lt_of_lt_of_le hb h.old) (by omega)⟩
def more (sp : Nat → Nat) (k : Nat) : Nat → Nat := fun i => if i = k then sp k + 1 else sp i
theorem ledL_more (p win tick : Nat) (sp : Nat → Nat) (k : Nat) (hk : k < 16) : splice (ledL p win tick sp) (3 + k) [.int .i64 (sp k + 1 : Nat)] = ledL p win tick (more sp k) := by
  apply List.ext_getElem?
  intro i
  unfold splice
  rcases Nat.lt_or_ge i (3 + k) with h | h
  · rw [List.getElem?_append_left (by simp [ledL_len]; omega), List.getElem?_take, if_pos h]
    rcases Nat.lt_or_ge i 3 with h3 | h3
    · rcases (by omega : i = 0 ∨ i = 1 ∨ i = 2) with rfl | rfl | rfl <;> rfl
    · obtain ⟨j, rfl⟩ : ∃ j, i = 3 + j := ⟨i - 3, by omega⟩
      rw [ledL_at _ _ _ _ _ (by omega), ledL_at _ _ _ _ _ (by omega)]
      unfold more
      rw [if_neg (by omega)]
  · rw [List.getElem?_append_right (by simp [ledL_len]; omega), List.length_take, ledL_len, show min (3 + k) 19 = 3 + k by omega]
    rcases Nat.lt_or_ge i (3 + k + 1) with h2 | h2
    · obtain rfl : i = 3 + k := by omega
      rw [ledL_at _ _ _ _ _ hk, Nat.sub_self]
      unfold more
      rw [if_pos rfl]
      rfl
    · rw [List.getElem?_append_right (by simp; omega), List.getElem?_drop, List.length_singleton, show 3 + k + 1 + (i - (3 + k) - 1) = i by omega]
      rcases Nat.lt_or_ge i 19 with h3 | h3
      · obtain ⟨j, rfl⟩ : ∃ j, i = 3 + j := ⟨i - 3, by omega⟩
        rw [ledL_at _ _ _ _ _ (by omega), ledL_at _ _ _ _ _ (by omega)]
        unfold more
        rw [if_neg (by omega)]
      · rw [List.getElem?_eq_none (by rw [ledL_len]; omega), List.getElem?_eq_none (by rw [ledL_len]; omega)]
section
variable (B g p n : Nat) (r : Nat → Rule1) (win tick : Nat) (sp : Nat → Nat) (w : World)
theorem spend_out (a : Int) (h : Led w B g p n r win tick sp) (ha : a < 0 ∨ n ≤ a) : Calls Try.prog 40 #[.pointer (some ⟨g, 0, none⟩), .int .i64 a] w fun e w' => e = .returned (.int .i64 6) ∧ w = w' := by
  have hs := Lib.hid (phas_any B p n r w a h.pol)
  rw [show Go.Proofs.Ytdagbepjhbmlfaa.L.hasB n a = false by simp [Go.Proofs.Ytdagbepjhbmlfaa.L.hasB]; omega] at hs
  have c0 : w.cell? ⟨g, 0, none⟩ = some (.pointer (some ⟨p, 0, none⟩)) := h.obj.cell 0
  clear h ha
  go_enter Try.func40, Try.ntmps40
  go_wp2_with fail
  refine hs.out.mono ?_
  rintro e w1 ⟨rfl, rfl⟩
  go_wp2_with fail
  go_ret
  exact ⟨rfl, rfl⟩
theorem spend_none (k : Nat) (h : Led w B g p n r win tick sp) (hk : k < n) (h0 : (r k).bud = sp k) : Calls Try.prog 40 #[.pointer (some ⟨g, 0, none⟩), .int .i64 k] w fun e w' => e = .returned (.int .i64 37) ∧ Below w.heap.size w w' := by
  have hs := Lib.hid (phas_any B p n r w k h.pol)
  rw [show Go.Proofs.Ytdagbepjhbmlfaa.L.hasB n k = true by simp [Go.Proofs.Ytdagbepjhbmlfaa.L.hasB, hk]] at hs
  have hl := Lib.hid (left_in B g p n r win tick sp w k h hk)
  rw [show (r k).bud - (sp k : Int) = 0 by omega] at hl
  have c0 : w.cell? ⟨g, 0, none⟩ = some (.pointer (some ⟨p, 0, none⟩)) := h.obj.cell 0
  clear h hk h0
  go_enter Try.func40, Try.ntmps40
  go_wp2_with fail
  refine hs.out.mono ?_
  rintro e w1 ⟨rfl, rfl⟩
  go_wp2_with fail
  refine hl.out.mono ?_
  rintro e w1 ⟨rfl, hb⟩
  go_wp2_with fail
  go_ret
  exact ⟨rfl, hb⟩
theorem spend_one (k : Nat) (h : Led w B g p n r win tick sp) (hk : k < n) (h0 : (sp k : Int) < (r k).bud) : Calls Try.prog 40 #[.pointer (some ⟨g, 0, none⟩), .int .i64 k] w fun e w' =>
    e = .returned (.int .i64 0) ∧ Kept (fun b => b = g) w w' ∧ Led w' B g p n r win tick (more sp k) := by
  have hs := Lib.hid (phas_any B p n r w k h.pol)
  rw [show Go.Proofs.Ytdagbepjhbmlfaa.L.hasB n k = true by simp [Go.Proofs.Ytdagbepjhbmlfaa.L.hasB, hk]] at hs
  have hl := Lib.hid (left_in B g p n r win tick sp w k h hk)
  have hbud := (h.pol.buds k hk).2
  obtain ⟨x, hx⟩ : ∃ x, Hid ((r k).bud - (sp k : Int) = x) := ⟨_, Lib.hid rfl⟩
  rw [hx.out] at hl
  have hx0 : (x == 0) = false := by rw [beq_eq_false_iff_ne]; have := hx.out; omega
  clear hx
  have c0 : w.cell? ⟨g, 0, none⟩ = some (.pointer (some ⟨p, 0, none⟩)) := h.obj.cell 0
  have hf := h.pol.few
  go_enter Try.func40, Try.ntmps40
  go_wp2_with fail
  refine hs.out.mono ?_
  rintro e w1 ⟨rfl, rfl⟩
  go_wp2_with fail
  refine hl.out.mono ?_
  rintro e w1 ⟨rfl, hb⟩
  clear hs hl c0
  have h1 := h.below hb
  have c1 : w1.cell? ⟨g, 3 + k, none⟩ = some (.int .i64 (sp k)) := (h1.obj.cell _).trans (ledL_at _ _ _ _ _ (by omega))
  have hfr := h1.obj.frozen (3 + k)
  have hst := h1.obj.store (3 + k) [.int .i64 (sp k + 1 : Nat)] (by rw [ledL_len]; simp; omega)
  rw [ledL_more _ _ _ _ _ (by omega)] at hst
  have hkept : Kept (fun b => b = g) w ((w1.setCell ⟨g, 3 + k, none⟩ (.int .i64 (sp k + 1 : Nat))).drewN 1) := ((Go.Proofs.Ytdagbepjhbmlfaa.D.Kept.of_below (own := fun b => b = g) hb).setCell (c := g) (.inl rfl) _ _).drewN 1
  have hL : Led ((w1.setCell ⟨g, 3 + k, none⟩ (.int .i64 (sp k + 1 : Nat))).drewN 1) B g p n r win tick (more sp k) := by
    refine ⟨h.pol.kept h.new hkept, h.new, Whole.drewN hst 1, h.wins, h.ticks, fun i hi => ?_⟩
    unfold more
    by_cases e : i = k
    · subst e; rw [if_pos rfl]; omega
    · rw [if_neg e]; exact h.spent i hi
  have hsp : (sp k : Int) < 1048576 := by omega
  have z0 : (0 : Int) ≤ k := by omega
  have z2 : (k : Int) < 16 := by omega
  replace hst := Lib.hid hst
  replace hL := Lib.hid hL
  replace hkept := Lib.hid hkept
  obtain ⟨s, hss⟩ : ∃ s, Hid (sp k = s) := ⟨_, Lib.hid rfl⟩
  rw [hss.out] at c1 hL hkept hsp
  clear hst h h1 hb hss h0 hbud
  go_wp2_with fail
  go_region
  all_goals go_wp2_with fail
  go_ret
  exact ⟨rfl, hkept.out, hL.out⟩
end
theorem ledL_tick (p win tick : Nat) (sp : Nat → Nat) (t : Nat) : splice (ledL p win tick sp) 2 [.int .i64 t] = ledL p win t sp := by
  simp [splice, ledL, List.range_succ]
theorem ledL_zero (p win tick : Nat) (sp : Nat → Nat) : splice (ledL p win tick sp) 3 (List.replicate 16 (.int .i64 0)) = ledL p win tick (fun _ => 0) := by
  simp [splice, ledL, List.range_succ, List.replicate_succ]
theorem ledL_first (p a : Nat) : (ledL p a 0 (fun _ => 0)).toArray = #[.pointer (some ⟨p, 0, none⟩), .int .i64 a, .int .i64 0, .int .i64 0, .int .i64 0, .int .i64 0, .int .i64 0, .int .i64 0, .int .i64 0, .int .i64 0, .int .i64 0, .int .i64 0, .int .i64 0, .int .i64 0, .int .i64 0, .int .i64 0, .int .i64 0, .int .i64 0, .int .i64 0] := by simp [ledL, List.range_succ]
theorem size16 : (Try.prog.info? 141).map (·.size) = some 16 := by kernel_rfl
/-- The ticks, and what was spent, behind one more tick. -/
def tickT (win tick : Nat) : Nat := if tick + 1 = win then 0 else tick + 1
def tickS (win tick : Nat) (sp : Nat → Nat) : Nat → Nat := if tick + 1 = win then fun _ => 0 else sp
section
variable (B g p n : Nat) (r : Nat → Rule1) (win tick : Nat) (sp : Nat → Nat) (w : World)
theorem tick_nil : Calls Try.prog 39 #[.pointer none] w fun e w' => e = .returned (.tuple #[]) ∧ w = w' := by
  go_enter Try.func39, Try.ntmps39
  go_wp2_with fail
  exact bodyPost_ret (v := .tuple #[]) (by simp [results, Try.results39, go_sem]) rfl ⟨rfl, rfl⟩
theorem tick_any (h : Led w B g p n r win tick sp) : Calls Try.prog 39 #[.pointer (some ⟨g, 0, none⟩)] w fun e w' =>
    e = .returned (.tuple #[]) ∧ Kept (fun b => b = g) w w' ∧ Led w' B g p n r win (tickT win tick) (tickS win tick sp) := by
  have hw := h.wins
  have ht := h.ticks
  have c2 : w.cell? ⟨g, 2, none⟩ = some (.int .i64 tick) := h.obj.cell 2
  have f2 := h.obj.frozen 2
  have hst := h.obj.store 2 [.int .i64 (tick + 1 : Nat)] (by rw [ledL_len]; simp)
  rw [ledL_tick] at hst
  obtain ⟨W, hW⟩ : ∃ W, Hid (W = w.setCell ⟨g, 2, none⟩ (.int .i64 ((tick : Int) + 1))) := ⟨_, Lib.hid rfl⟩
  have hO : Hid (Whole W g 143 (ledL p win (tick + 1) sp)) := by rw [hW.out]; exact Lib.hid hst
  have hK : Hid (Kept (fun b => b = g) w W) := by rw [hW.out]; exact Lib.hid ((Go.Proofs.Ytdagbepjhbmlfaa.D.Kept.refl (fun b => b = g) w).setCell (c := g) (.inl rfl) _ _)
  clear hst
  have d1 : W.cell? ⟨g, 1, none⟩ = some (.int .i64 win) := hO.out.cell 1
  have d2 : W.cell? ⟨g, 2, none⟩ = some (.int .i64 ((tick : Int) + 1)) := hO.out.cell 2
  replace h := Lib.hid h
  by_cases he : tick + 1 = win
  · have e1 : tickT win tick = 0 := by simp [tickT, he]
    have e2 : tickS win tick sp = fun _ => 0 := by simp [tickS, he]
    rw [e1, e2]
    have g2 := hO.out.frozen 2
    have hle : (win : Int) ≤ (tick : Int) + 1 := by omega
    clear e1 e2
    go_enter Try.func39, Try.ntmps39
    go_wp2_with fail
    rw [← hW.out]
    clear hW c2 f2
    go_quiet (fail)
    obtain ⟨V, hV⟩ : ∃ V, Hid (V = (W.drewN nq).setCell ⟨g, 2, none⟩ (.int .i64 0)) := ⟨_, Lib.hid rfl⟩
    have hO2 : Whole V g 143 (ledL p win 0 sp) := by
      rw [hV.out]
      have := (Whole.drewN hO.out nq).store 2 [.int .i64 (0 : Nat)] (by rw [ledL_len]; simp)
      rw [ledL_tick] at this
      exact this
    have hK2 : Kept (fun b => b = g) w V := by rw [hV.out]; exact (hK.out.drewN nq).setCell (c := g) (.inl rfl) _ _
    have hth := hO2.there 3 16 (by rw [ledL_len]; omega)
    have hO3 := hO2.store 3 (List.replicate 16 (.int .i64 0)) (by rw [ledL_len]; simp)
    rw [ledL_zero] at hO3
    have hK3 : Kept (fun b => b = g) w (V.setCells g 3 (List.replicate 16 (.int .i64 0))) := hK2.setCells (c := g) (.inl rfl) _ _
    have hL : Hid (Led (V.setCells g 3 (List.replicate 16 (.int .i64 0))) B g p n r win 0 (fun _ => 0)) := Lib.hid ⟨h.out.pol.kept h.out.new hK3, h.out.new, hO3, h.out.wins, by omega, fun i hi => by have := (h.out.pol.buds i hi).1; omega⟩
    replace hK3 := Lib.hid hK3
    replace hth := Lib.hid hth
    clear hO2 hO3 hK2 hO hK h
    go_wp2_with (with_reducible refine zStore 141 _ _ rfl ?_)
    rw [← hV.out]
    refine Lib.hid ?_
    refine wpList_store_mid rfl 141 _ _ rfl g 3 (List.replicate 16 (.int .i64 0)).toArray rfl rfl hth.out size16 (by simp [Value.oneCell']) ?_
    rw [List.toList_toArray]
    clear hV
    go_wp2_with fail
    go_end0
    exact ⟨rfl, hK3.out, hL.out⟩
  · have e1 : tickT win tick = tick + 1 := by simp [tickT, he]
    have e2 : tickS win tick sp = sp := by simp [tickS, he]
    rw [e1, e2]
    have hlt : (tick : Int) + 1 < win := by omega
    clear e1 e2
    go_enter Try.func39, Try.ntmps39
    go_wp2_with fail
    rw [← hW.out]
    clear hW c2 f2
    go_quiet (fail)
    have hK2 := hK.out.drewN nq
    have hL : Hid (Led (W.drewN nq) B g p n r win (tick + 1) sp) := Lib.hid ⟨h.out.pol.kept h.out.new hK2, h.out.new, Whole.drewN hO.out nq, h.out.wins, by omega, h.out.spent⟩
    replace hK2 := Lib.hid hK2
    clear hO hK h
    go_wp2_with fail
    go_end0
    exact ⟨rfl, hK2.out, hL.out⟩
theorem ledger_in (a : Nat) (h : Pol w B p n r) (ha : 1 ≤ a ∧ a ≤ 1048576) : Calls Try.prog 38 #[.pointer (some ⟨p, 0, none⟩), .int .i64 a] w fun e w' =>
    e = .returned (.tuple #[.pointer (some ⟨w.heap.size, 0, none⟩), .int .i64 0]) ∧ Below w.heap.size w w' ∧ Led w' B w.heap.size p n r a 0 (fun _ => 0) := by
  have hs := Lib.hid (point_any a w)
  rw [show pointB a = true by simp [pointB]; omega] at hs
  obtain ⟨W, hW⟩ : ∃ W, Hid (W = w.alloc (.cells (ledL p a 0 (fun _ => 0)).toArray 143)) := ⟨_, Lib.hid rfl⟩
  have hb : Below w.heap.size w W := by rw [hW.out]; exact allocB w _
  have hL : Led W B w.heap.size p n r a 0 (fun _ => 0) := ⟨h.below h.old hb, h.old, by rw [hW.out]; exact Whole.new w _ _, ha, by omega, fun i hi => by have := (h.buds i hi).1; omega⟩
  replace hL := Lib.hid hL
  have hW2 := hW.out
  rw [ledL_first] at hW2
  replace hW2 := Lib.hid hW2
  clear h hW
  go_enter Try.func38, Try.ntmps38
  go_wp2_with fail
  refine hs.out.mono ?_
  rintro e w1 ⟨rfl, rfl⟩
  clear hs
  go_wp2_with fail
  rw [← hW2.out]
  go_ret2
  exact ⟨rfl, hb, hL.out⟩
end
end Go.Proofs.Ytdagbepjhbmlfaa.Q
