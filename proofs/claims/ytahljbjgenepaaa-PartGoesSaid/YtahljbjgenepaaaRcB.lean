/- Package record's Encode: lay, Encode, Size. -/
import Derived.Test.YtahljbjgenepaaaBld
import Derived.Test.YtahljbjgenepaaaRcA
import Derived.Test.YtahljbjgenepaaaUntexts
import Derived.Deep.QuietTactic
import Derived.BigQuiet
import Derived.LoopN
import Derived.Test.YtahljbjgenepaaaFlat
namespace Go.Proofs.Ytahljbjgenepaaa.W
open Go.RowKit
open Go.Proofs.Ytahljbjgenepaaa.M Go.Proofs.Ytahljbjgenepaaa.D
set_option linter.unusedVariables false
set_option linter.unusedSimpArgs false

theorem flag_any (g : Bool) (w : World) :
    Calls Try.prog 62 #[.bool g] w fun e w' => e = .returned (.int .i64 (goneI g)) ∧ w' = w := by
  cases g with
  | false =>
    go_enter Try.func62, Try.ntmps62
    go_wp2_with fail
    go_ret
    exact ⟨rfl, rfl⟩
  | true =>
    go_enter Try.func62, Try.ntmps62
    go_wp2_with fail
    go_ret
    exact ⟨rfl, rfl⟩

theorem sizeI64r : ∀ w, (Go.sizeOf 3).run Try.prog w = .ok 1 w := fun w => by kernel_rfl
theorem aggI64r : ∀ w, (isAgg 3).run Try.prog w = .ok false w := fun w => by kernel_rfl
theorem index6 (a b c d e f : Int) (w : World) :
    (Instr.index 91 (.agg #[.int .i64 a, .int .i64 b, .int .i64 c, .int .i64 d, .int .i64 e, .int .i64 f]) (.int .i64 0)).run Try.prog w = .ok (.int .i64 a) w ∧
    (Instr.index 91 (.agg #[.int .i64 a, .int .i64 b, .int .i64 c, .int .i64 d, .int .i64 e, .int .i64 f]) (.int .i64 1)).run Try.prog w = .ok (.int .i64 b) w ∧
    (Instr.index 91 (.agg #[.int .i64 a, .int .i64 b, .int .i64 c, .int .i64 d, .int .i64 e, .int .i64 f]) (.int .i64 2)).run Try.prog w = .ok (.int .i64 c) w ∧
    (Instr.index 91 (.agg #[.int .i64 a, .int .i64 b, .int .i64 c, .int .i64 d, .int .i64 e, .int .i64 f]) (.int .i64 3)).run Try.prog w = .ok (.int .i64 d) w ∧
    (Instr.index 91 (.agg #[.int .i64 a, .int .i64 b, .int .i64 c, .int .i64 d, .int .i64 e, .int .i64 f]) (.int .i64 4)).run Try.prog w = .ok (.int .i64 e) w ∧
    (Instr.index 91 (.agg #[.int .i64 a, .int .i64 b, .int .i64 c, .int .i64 d, .int .i64 e, .int .i64 f]) (.int .i64 5)).run Try.prog w = .ok (.int .i64 f) w := by
  refine ⟨?_, ?_, ?_, ?_, ?_, ?_⟩ <;> simp [Instr.index, run_underlying Try.underlying91, asIntOf, sizeI64r, aggI64r, go_sem]

theorem up {a b c : World} {n : Nat} (h : Below n a b) (hn : n ≤ b.heap.size) (k : Below b.heap.size b c) : Below n a c := h.trans (k.mono hn)

set_option maxRecDepth 100000 in
set_option maxHeartbeats 4000000 in
theorem lay_any (o t : Int) (k v : ByteArray) (g : Bool) (p q f : Int) (w : World) (hr : (Rc.mk o t k v g p q f).ok) :
    Calls Try.prog 60 #[.agg #[.int .i64 o, .int .i64 t, .string k, .string v, .bool g, .int .i64 p, .int .i64 q, .int .i64 f]] w fun e w' => e = .returned (.string (B (recL (Rc.mk o t k v g p q f)))) ∧ Below w.heap.size w w' := by
  obtain ⟨⟨o0, o1⟩, ⟨t0, t1⟩, ⟨p0, p1⟩, ⟨q0, q1⟩, ⟨f0, f1⟩, hps, hk, hv, hg⟩ := hr
  have hfl := fun W => flag_any g W
  have gg : 0 ≤ goneI g ∧ goneI g ≤ 1 := by unfold goneI; split <;> omega
  simp only at o0 o1 t0 t1 p0 p1 q0 q1 f0 f1 hk hv
  obtain ⟨G, hG⟩ : ∃ G, Hid (goneI g = G) := ⟨_, Lib.hid rfl⟩
  rw [hG.out] at hfl gg
  obtain ⟨g0, g1⟩ := gg
  have hrec : B (recL (Rc.mk o t k v g p q f)) = B ((((((((([] ++ chain o) ++ chain t) ++ chain p) ++ chain q) ++ chain f) ++ chain G) ++ textL k.data.toList) ++ textL v.data.toList)) := by
    unfold recL
    simp only [hG.out, List.nil_append, List.append_assoc]
  rw [hrec]
  clear hrec hps hg
  replace hfl := Lib.hid hfl
  have hlo := Lib.hid (show (chain o).length ≤ 10 from (chF_length 9 o).2)
  have hlt := Lib.hid (show (chain t).length ≤ 10 from (chF_length 9 t).2)
  have hlp := Lib.hid (show (chain p).length ≤ 10 from (chF_length 9 p).2)
  have hlq := Lib.hid (show (chain q).length ≤ 10 from (chF_length 9 q).2)
  have hlf := Lib.hid (show (chain f).length ≤ 10 from (chF_length 9 f).2)
  have hlG := Lib.hid (show (chain G).length ≤ 10 from (chF_length 9 G).2)
  have ek : k.data.toList.length = k.size := by simp
  have hlk := Lib.hid (show (textL k.data.toList).length ≤ 100 from Nat.le_trans (textL_most _) (by omega))
  have ev : v.data.toList.length = v.size := by simp
  have hlv := Lib.hid (show (textL v.data.toList).length ≤ 300 from Nat.le_trans (textL_most _) (by omega))
  have wo : IntKind.u64.wrap o = o := IntWalk.u64_in _ (by omega)
  have wt : IntKind.u64.wrap t = t := IntWalk.u64_in _ (by omega)
  have wp : IntKind.u64.wrap p = p := IntWalk.u64_in _ (by omega)
  have wq : IntKind.u64.wrap q = q := IntWalk.u64_in _ (by omega)
  have wf : IntKind.u64.wrap f = f := IntWalk.u64_in _ (by omega)
  have wG : IntKind.u64.wrap G = G := IntWalk.u64_in _ (by omega)
  have hR0 := Whole.new w 40 [.int .i64 o, .int .i64 t, .string k, .string v, .bool g, .int .i64 p, .int .i64 q, .int .i64 f]
  have hB0 := (Below.refl w.heap.size w).alloc (Nat.le_refl _) (.cells #[.int .i64 o, .int .i64 t, .string k, .string v, .bool g, .int .i64 p, .int .i64 q, .int .i64 f] 40)
  have hD0 := Bd.fresh (w.alloc (.cells #[.int .i64 o, .int .i64 t, .string k, .string v, .bool g, .int .i64 p, .int .i64 q, .int .i64 f] 40))
  have hs0 : (w.alloc (.cells #[.int .i64 o, .int .i64 t, .string k, .string v, .bool g, .int .i64 p, .int .i64 q, .int .i64 f] 40)).heap.size = w.heap.size + 1 := by simp
  rw [hs0] at hD0
  have hB1 : Below w.heap.size w ((w.alloc (.cells #[.int .i64 o, .int .i64 t, .string k, .string v, .bool g, .int .i64 p, .int .i64 q, .int .i64 f] 40)).alloc (.cells #[.pointer none, .slice none 0 0] 89)) := hB0.alloc (by simp) _
  have hR1 := hR0.alloc (.cells #[.pointer none, .slice none 0 0] 89)
  have hs1 : w.heap.size + 1 ≤ ((w.alloc (.cells #[.int .i64 o, .int .i64 t, .string k, .string v, .bool g, .int .i64 p, .int .i64 q, .int .i64 f] 40)).alloc (.cells #[.pointer none, .slice none 0 0] 89)).heap.size := by simp
  obtain ⟨W1, hW1⟩ : ∃ W1, Hid (W1 = (w.alloc (.cells #[.int .i64 o, .int .i64 t, .string k, .string v, .bool g, .int .i64 p, .int .i64 q, .int .i64 f] 40)).alloc (.cells #[.pointer none, .slice none 0 0] 89)) := ⟨_, Lib.hid rfl⟩
  rw [← hW1.out] at hB1 hR1 hD0 hs1
  have r0 : W1.cell? ⟨w.heap.size, 0, none⟩ = some (.int .i64 o) := hR1.cell 0
  have r1 : W1.cell? ⟨w.heap.size, 1, none⟩ = some (.int .i64 t) := hR1.cell 1
  have r2 : W1.cell? ⟨w.heap.size, 2, none⟩ = some (.string k) := hR1.cell 2
  have r3 : W1.cell? ⟨w.heap.size, 3, none⟩ = some (.string v) := hR1.cell 3
  have r4 : W1.cell? ⟨w.heap.size, 4, none⟩ = some (.bool g) := hR1.cell 4
  have r5 : W1.cell? ⟨w.heap.size, 5, none⟩ = some (.int .i64 p) := hR1.cell 5
  have r6 : W1.cell? ⟨w.heap.size, 6, none⟩ = some (.int .i64 q) := hR1.cell 6
  have r7 : W1.cell? ⟨w.heap.size, 7, none⟩ = some (.int .i64 f) := hR1.cell 7
  replace hB1 := Lib.hid hB1
  replace hR1 := Lib.hid hR1
  replace hD0 := Lib.hid hD0
  clear hB0 hR0 hs0
  go_enter Try.func60, Try.ntmps60
  go_wp2_with fail
  rw [← show W1 = _ from hW1.out]
  clear hW1
  go_quiet (first | (go_at_call 62; exact Calls.quiet_of_same (hfl.out _)))
  have hR2 := hR1.out.drewN nq
  have hB2 : Below w.heap.size w (W1.drewN nq) := (fun (h : Below w.heap.size w W1) => ⟨h.os, h.tape, h.output, h.size, h.block⟩) hB1.out
  have hD2 : Bd (w.heap.size + 1) (w.heap.size + 1) [] (W1.drewN nq) := hD0.out
  have hs2 : w.heap.size + 1 ≤ (W1.drewN nq).heap.size := hs1
  clear hR1 hB1 hD0 r0 r1 r2 r3 r4 r5 r6 r7 hs1
  generalize W1.drewN nq = W0 at *
  have c2 : W0.cell? ⟨w.heap.size, 2, none⟩ = some (.string k) := hR2.cell 2
  have c3 : W0.cell? ⟨w.heap.size, 3, none⟩ = some (.string v) := hR2.cell 3
  have hE := Below.refl (w.heap.size + 1) W0
  replace hB2 := Lib.hid hB2
  replace hE := Lib.hid hE
  replace hD2 := Lib.hid hD2
  clear hR2
  have x0 := fun W => (index6 o t p q f G W).1
  have x1 := fun W => (index6 o t p q f G W).2.1
  have x2 := fun W => (index6 o t p q f G W).2.2.1
  have x3 := fun W => (index6 o t p q f G W).2.2.2.1
  have x4 := fun W => (index6 o t p q f G W).2.2.2.2.1
  have x5 := fun W => (index6 o t p q f G W).2.2.2.2.2
  go_wp2_with fail
  refine wp_loop_rounds 7 ?_
  rw [rounds_succ]
  go_wp2_with fail
  refine (chain_any o _ (by omega) (by omega)).mono ?_
  rintro e V ⟨rfl, hb⟩
  have hE2 := up hE.out hs2 hb
  have hD3 := hD2.out.below hb
  have hs3 := Nat.le_trans hs2 hb.size
  clear hE hD2 hs2 hb
  replace hE2 := Lib.hid hE2
  replace hD3 := Lib.hid hD3
  go_wp2_with fail
  refine (hD3.out.write (chain o) (by have zo := hlo.out; have zt := hlt.out; have zp := hlp.out; have zq := hlq.out; have zf := hlf.out; have zG := hlG.out; have zk := hlk.out; have zv := hlv.out; simp only [List.length_append, List.length_nil]; omega) hs3).mono ?_
  rintro e V2 ⟨rfl, hD4, hb⟩
  have hE := Lib.hid (hE2.out.trans hb)
  have hs2 := Nat.le_trans hs3 hb.size
  have hD2 := Lib.hid hD4
  clear hE2 hD3 hD4 hs3 hb
  go_wp2_with fail
  rw [rounds_succ]
  go_wp2_with fail
  refine (chain_any t _ (by omega) (by omega)).mono ?_
  rintro e V ⟨rfl, hb⟩
  have hE2 := up hE.out hs2 hb
  have hD3 := hD2.out.below hb
  have hs3 := Nat.le_trans hs2 hb.size
  clear hE hD2 hs2 hb
  replace hE2 := Lib.hid hE2
  replace hD3 := Lib.hid hD3
  go_wp2_with fail
  refine (hD3.out.write (chain t) (by have zo := hlo.out; have zt := hlt.out; have zp := hlp.out; have zq := hlq.out; have zf := hlf.out; have zG := hlG.out; have zk := hlk.out; have zv := hlv.out; simp only [List.length_append, List.length_nil]; omega) hs3).mono ?_
  rintro e V2 ⟨rfl, hD4, hb⟩
  have hE := Lib.hid (hE2.out.trans hb)
  have hs2 := Nat.le_trans hs3 hb.size
  have hD2 := Lib.hid hD4
  clear hE2 hD3 hD4 hs3 hb
  go_wp2_with fail
  rw [rounds_succ]
  go_wp2_with fail
  refine (chain_any p _ (by omega) (by omega)).mono ?_
  rintro e V ⟨rfl, hb⟩
  have hE2 := up hE.out hs2 hb
  have hD3 := hD2.out.below hb
  have hs3 := Nat.le_trans hs2 hb.size
  clear hE hD2 hs2 hb
  replace hE2 := Lib.hid hE2
  replace hD3 := Lib.hid hD3
  go_wp2_with fail
  refine (hD3.out.write (chain p) (by have zo := hlo.out; have zt := hlt.out; have zp := hlp.out; have zq := hlq.out; have zf := hlf.out; have zG := hlG.out; have zk := hlk.out; have zv := hlv.out; simp only [List.length_append, List.length_nil]; omega) hs3).mono ?_
  rintro e V2 ⟨rfl, hD4, hb⟩
  have hE := Lib.hid (hE2.out.trans hb)
  have hs2 := Nat.le_trans hs3 hb.size
  have hD2 := Lib.hid hD4
  clear hE2 hD3 hD4 hs3 hb
  go_wp2_with fail
  rw [rounds_succ]
  go_wp2_with fail
  refine (chain_any q _ (by omega) (by omega)).mono ?_
  rintro e V ⟨rfl, hb⟩
  have hE2 := up hE.out hs2 hb
  have hD3 := hD2.out.below hb
  have hs3 := Nat.le_trans hs2 hb.size
  clear hE hD2 hs2 hb
  replace hE2 := Lib.hid hE2
  replace hD3 := Lib.hid hD3
  go_wp2_with fail
  refine (hD3.out.write (chain q) (by have zo := hlo.out; have zt := hlt.out; have zp := hlp.out; have zq := hlq.out; have zf := hlf.out; have zG := hlG.out; have zk := hlk.out; have zv := hlv.out; simp only [List.length_append, List.length_nil]; omega) hs3).mono ?_
  rintro e V2 ⟨rfl, hD4, hb⟩
  have hE := Lib.hid (hE2.out.trans hb)
  have hs2 := Nat.le_trans hs3 hb.size
  have hD2 := Lib.hid hD4
  clear hE2 hD3 hD4 hs3 hb
  go_wp2_with fail
  rw [rounds_succ]
  go_wp2_with fail
  refine (chain_any f _ (by omega) (by omega)).mono ?_
  rintro e V ⟨rfl, hb⟩
  have hE2 := up hE.out hs2 hb
  have hD3 := hD2.out.below hb
  have hs3 := Nat.le_trans hs2 hb.size
  clear hE hD2 hs2 hb
  replace hE2 := Lib.hid hE2
  replace hD3 := Lib.hid hD3
  go_wp2_with fail
  refine (hD3.out.write (chain f) (by have zo := hlo.out; have zt := hlt.out; have zp := hlp.out; have zq := hlq.out; have zf := hlf.out; have zG := hlG.out; have zk := hlk.out; have zv := hlv.out; simp only [List.length_append, List.length_nil]; omega) hs3).mono ?_
  rintro e V2 ⟨rfl, hD4, hb⟩
  have hE := Lib.hid (hE2.out.trans hb)
  have hs2 := Nat.le_trans hs3 hb.size
  have hD2 := Lib.hid hD4
  clear hE2 hD3 hD4 hs3 hb
  go_wp2_with fail
  rw [rounds_succ]
  go_wp2_with fail
  refine (chain_any G _ (by omega) (by omega)).mono ?_
  rintro e V ⟨rfl, hb⟩
  have hE2 := up hE.out hs2 hb
  have hD3 := hD2.out.below hb
  have hs3 := Nat.le_trans hs2 hb.size
  clear hE hD2 hs2 hb
  replace hE2 := Lib.hid hE2
  replace hD3 := Lib.hid hD3
  go_wp2_with fail
  refine (hD3.out.write (chain G) (by have zo := hlo.out; have zt := hlt.out; have zp := hlp.out; have zq := hlq.out; have zf := hlf.out; have zG := hlG.out; have zk := hlk.out; have zv := hlv.out; simp only [List.length_append, List.length_nil]; omega) hs3).mono ?_
  rintro e V2 ⟨rfl, hD4, hb⟩
  have hE := Lib.hid (hE2.out.trans hb)
  have hs2 := Nat.le_trans hs3 hb.size
  have hD2 := Lib.hid hD4
  clear hE2 hD3 hD4 hs3 hb
  go_wp2_with fail
  rw [rounds_succ]
  have d2 := (hE.out.cell (p := ⟨w.heap.size, 2, none⟩) (show w.heap.size < w.heap.size + 1 by omega)).trans c2
  go_wp2_with fail
  refine (text_any k _ (by omega)).mono ?_
  rintro e V ⟨rfl, hb⟩
  have hE2 := up hE.out hs2 hb
  have hD3 := hD2.out.below hb
  have hs3 := Nat.le_trans hs2 hb.size
  clear hE hD2 hs2 hb
  replace hE2 := Lib.hid hE2
  replace hD3 := Lib.hid hD3
  go_wp2_with fail
  refine (hD3.out.write (textL k.data.toList) (by have zo := hlo.out; have zt := hlt.out; have zp := hlp.out; have zq := hlq.out; have zf := hlf.out; have zG := hlG.out; have zk := hlk.out; have zv := hlv.out; simp only [List.length_append, List.length_nil]; omega) hs3).mono ?_
  rintro e V2 ⟨rfl, hD4, hb⟩
  have hE := Lib.hid (hE2.out.trans hb)
  have hs2 := Nat.le_trans hs3 hb.size
  have hD2 := Lib.hid hD4
  clear hE2 hD3 hD4 hs3 hb
  have d3 := (hE.out.cell (p := ⟨w.heap.size, 3, none⟩) (show w.heap.size < w.heap.size + 1 by omega)).trans c3
  go_wp2_with fail
  refine (text_any v _ (by omega)).mono ?_
  rintro e V ⟨rfl, hb⟩
  have hE2 := up hE.out hs2 hb
  have hD3 := hD2.out.below hb
  have hs3 := Nat.le_trans hs2 hb.size
  clear hE hD2 hs2 hb
  replace hE2 := Lib.hid hE2
  replace hD3 := Lib.hid hD3
  go_wp2_with fail
  refine (hD3.out.write (textL v.data.toList) (by have zo := hlo.out; have zt := hlt.out; have zp := hlp.out; have zq := hlq.out; have zf := hlf.out; have zG := hlG.out; have zk := hlk.out; have zv := hlv.out; simp only [List.length_append, List.length_nil]; omega) hs3).mono ?_
  rintro e V2 ⟨rfl, hD4, hb⟩
  have hE := Lib.hid (hE2.out.trans hb)
  have hs2 := Nat.le_trans hs3 hb.size
  have hD2 := Lib.hid hD4
  clear hE2 hD3 hD4 hs3 hb
  have d3 := (hE.out.cell (p := ⟨w.heap.size, 3, none⟩) (show w.heap.size < w.heap.size + 1 by omega)).trans c3
  go_wp2_with fail
  refine (hD2.out.string hs2).mono ?_
  rintro e V ⟨rfl, hD4, hb⟩
  have hF := Lib.hid (hB2.out.trans ((hE.out.trans hb).mono (by omega)))
  clear hE hD2 hs2 hb hD4 hB2
  go_wp2_with fail
  go_ret
  exact ⟨ret_str (congrArg B (by simp only [List.nil_append, List.append_assoc])), hF.out⟩
theorem recCells {W : World} {b : Nat} {o t : Int} {k v : ByteArray} {g : Bool} {p q f : Int} (h : Whole W b 40 [.int .i64 o, .int .i64 t, .string k, .string v, .bool g, .int .i64 p, .int .i64 q, .int .i64 f]) :
    W.cell? ⟨b, 0, none⟩ = some (.int .i64 o) ∧ W.cell? ⟨b, 1, none⟩ = some (.int .i64 t) ∧ W.cell? ⟨b, 2, none⟩ = some (.string k) ∧ W.cell? ⟨b, 3, none⟩ = some (.string v) ∧ W.cell? ⟨b, 4, none⟩ = some (.bool g) ∧ W.cell? ⟨b, 5, none⟩ = some (.int .i64 p) ∧ W.cell? ⟨b, 6, none⟩ = some (.int .i64 q) ∧ W.cell? ⟨b, 7, none⟩ = some (.int .i64 f) :=
  ⟨h.cell 0, h.cell 1, h.cell 2, h.cell 3, h.cell 4, h.cell 5, h.cell 6, h.cell 7⟩

set_option maxRecDepth 100000 in
theorem enc_yes (o t : Int) (k v : ByteArray) (g : Bool) (p q f : Int) (w : World) (hr : (Rc.mk o t k v g p q f).ok) :
    Calls Try.prog 53 #[.agg #[.int .i64 o, .int .i64 t, .string k, .string v, .bool g, .int .i64 p, .int .i64 q, .int .i64 f]] w fun e w' => e = .returned (.tuple #[.string (B (recL (Rc.mk o t k v g p q f))), .int .i64 0]) ∧ Below w.heap.size w w' := by
  have hm := fun W => may_any o t k v g p q f W
  rw [show (Rc.mk o t k v g p q f).may = true from decide_eq_true hr] at hm
  have hl := fun W => lay_any o t k v g p q f W hr
  replace hm := Lib.hid hm
  replace hl := Lib.hid hl
  have hR0 := Whole.new w 40 [.int .i64 o, .int .i64 t, .string k, .string v, .bool g, .int .i64 p, .int .i64 q, .int .i64 f]
  have hB0 := (Below.refl w.heap.size w).alloc (Nat.le_refl _) (.cells #[.int .i64 o, .int .i64 t, .string k, .string v, .bool g, .int .i64 p, .int .i64 q, .int .i64 f] 40)
  go_enter Try.func53, Try.ntmps53
  go_wp2_with fail
  refine (hm.out _).mono ?_
  rintro e w1 ⟨rfl, hb⟩
  have hR1 := hR0.below hb hR0.lt
  have hB1 := Lib.hid (grew hB0 hb)
  obtain ⟨c0, c1, c2, c3, c4, c5, c6, c7⟩ := recCells hR1
  clear hR0 hB0 hb hR1
  go_wp2_with fail
  refine (hl.out _).mono ?_
  rintro e w2 ⟨rfl, hb2⟩
  have hB2 := Lib.hid (grew hB1.out hb2)
  go_wp2_with fail
  go_ret2
  exact ⟨rfl, hB2.out⟩
set_option maxRecDepth 100000 in
theorem enc_no (o t : Int) (k v : ByteArray) (g : Bool) (p q f : Int) (w : World) (hr : ¬ (Rc.mk o t k v g p q f).ok) :
    Calls Try.prog 53 #[.agg #[.int .i64 o, .int .i64 t, .string k, .string v, .bool g, .int .i64 p, .int .i64 q, .int .i64 f]] w fun e w' => e = .returned (.tuple #[.string ⟨#[]⟩, .int .i64 1]) ∧ Below w.heap.size w w' := by
  have hm := fun W => may_any o t k v g p q f W
  rw [show (Rc.mk o t k v g p q f).may = false from decide_eq_false hr] at hm
  replace hm := Lib.hid hm
  have hB0 := (Below.refl w.heap.size w).alloc (Nat.le_refl _) (.cells #[.int .i64 o, .int .i64 t, .string k, .string v, .bool g, .int .i64 p, .int .i64 q, .int .i64 f] 40)
  clear hr
  go_enter Try.func53, Try.ntmps53
  go_wp2_with fail
  refine (hm.out _).mono ?_
  rintro e w1 ⟨rfl, hb⟩
  have hB1 := Lib.hid (grew hB0 hb)
  clear hB0 hb
  go_wp2_with fail
  go_ret2
  exact ⟨rfl, hB1.out⟩
theorem size_yes (o t : Int) (k v : ByteArray) (g : Bool) (p q f : Int) (w : World) (hr : (Rc.mk o t k v g p q f).ok) :
    Calls Try.prog 40 #[.agg #[.int .i64 o, .int .i64 t, .string k, .string v, .bool g, .int .i64 p, .int .i64 q, .int .i64 f]] w fun e w' => e = .returned (.int .i64 ((recL (Rc.mk o t k v g p q f)).length : Int)) ∧ Below w.heap.size w w' := by
  have he := Lib.hid (fun W => enc_yes o t k v g p q f W hr)
  have hB0 := (Below.refl w.heap.size w).alloc (Nat.le_refl _) (.cells #[.int .i64 o, .int .i64 t, .string k, .string v, .bool g, .int .i64 p, .int .i64 q, .int .i64 f] 40)
  have hz := B_size (recL (Rc.mk o t k v g p q f))
  have hbd := recL_bounds hr
  have hkv := hr.2.2.2.2.2.2
  simp only at hbd hkv
  obtain ⟨S, hS⟩ : ∃ S, Hid (B (recL (Rc.mk o t k v g p q f)) = S) := ⟨_, Lib.hid rfl⟩
  rw [hS.out] at he hz
  rw [← hz]
  have hz2 : S.size ≤ 1000 := by omega
  clear hz hbd hkv hr
  go_enter Try.func40, Try.ntmps40
  go_wp2_with fail
  refine (he.out _).mono ?_
  rintro e w1 ⟨rfl, hb⟩
  have hB1 := Lib.hid (grew hB0 hb)
  clear hB0 hb
  go_wp2_with fail
  go_ret
  exact ⟨rfl, hB1.out⟩
theorem size_no (o t : Int) (k v : ByteArray) (g : Bool) (p q f : Int) (w : World) (hr : ¬ (Rc.mk o t k v g p q f).ok) :
    Calls Try.prog 40 #[.agg #[.int .i64 o, .int .i64 t, .string k, .string v, .bool g, .int .i64 p, .int .i64 q, .int .i64 f]] w fun e w' => e = .returned (.int .i64 0) ∧ Below w.heap.size w w' := by
  have he := Lib.hid (fun W => enc_no o t k v g p q f W hr)
  have hB0 := (Below.refl w.heap.size w).alloc (Nat.le_refl _) (.cells #[.int .i64 o, .int .i64 t, .string k, .string v, .bool g, .int .i64 p, .int .i64 q, .int .i64 f] 40)
  clear hr
  go_enter Try.func40, Try.ntmps40
  go_wp2_with fail
  refine (he.out _).mono ?_
  rintro e w1 ⟨rfl, hb⟩
  have hB1 := Lib.hid (grew hB0 hb)
  clear hB0 hb
  go_wp2_with fail
  go_ret
  exact ⟨rfl, hB1.out⟩
end Go.Proofs.Ytahljbjgenepaaa.W
