/- Package scan's behind, the closures of Chain. Package scan's first. Package scan's Chain. -/
import Derived.Test.YtbbhnbdekblghaaGreatDoorScA
import Derived.Test.YtbbhnbdekblghaaGreatDoorQuietB
import Derived.Deep.Cut
import Derived.Laws.EntriesVeiled
section
namespace Go.Proofs.YtbbhnbdekblghaaGreatDoor.W
open Go.RowKit Go.Sort
open Go.Proofs.YtbbhnbdekblghaaGreatDoor.M Go.Proofs.YtbbhnbdekblghaaGreatDoor.D Go.Proofs.YtbbhnbdekblghaaGreatDoor.Z
set_option linter.unusedVariables false
set_option linter.unusedSimpArgs false

/-- A comparison within a region that is walked in the order of the text, its answer known. -/
theorem quiet_cmp {P : Program} {ops : Array Oper} {C : World → Prop} {Q : Go.Act → Prop} {a : Go.Act} {rest : List Oper} {d : Option Tmp} {x y : Operand} {ty : TypeId} {ps : String} {af : Array Edge} {gd : Option (Nat × Bool)} (o : BinOp) (t u : TypeId) (vx vy v : Value)
    (hx : a.eval x = vx) (hy : a.eval y = vy) (h0 : ∀ w, (binOp o t vx vy).run P w = .ok v w) (hq : ∀ w, (eqGuard o t x y vx vy).run P w = .ok () w)
    (hw : Region.wanted { dst := d, op := .binOp o t x y u, type := ty, pos := ps, after := af, guard := gd } (yielded ops a.tmps) = true)
    (h : wpQuiet P ops C Q rest (a.put d v)) : wpQuiet P ops C Q ({ dst := d, op := .binOp o t x y u, type := ty, pos := ps, after := af, guard := gd } :: rest) a := by
  refine quiet_by v hw (fun w _ => ?_) h
  have e := h0 w
  have e2 := hq w
  unfold execOp
  simp [hx, hy, Sem.run_bind, Sem.run_pure, Result.andThen_ok, e, e2]
theorem sbehind_any (vb sb n a g s b E : Nat) (fa : Option Addr) (fn fc : Nat) (sl : Bool) (w : World) (hb : b ≤ 1099511628776) (hf : fn ≤ 1000) (hS : Whole w sb 160 (sgL vb n a g s b (.slice fa fn fc) E sl)) :
    Calls Tryz.prog 82 #[.pointer (some ⟨sb, 0, none⟩)] w fun e w' => e = .returned (.int .i64 ((b + fn : Nat) : Int)) ∧ Below w.heap.size w w' := by
  have hh := Lib.hid (header_any hS)
  have hl := Lib.hid (fun W (h : Below w.heap.size w W) => len_any sb fa fn fc W ((hS.below h hS.lt).cell 6))
  have hfi := fun W => field_base (.int .i64 (a : Int)) (.int .u32 (g : Int)) (.int .u32 (s : Int)) (.int .i64 (b : Int)) W
  have hw : IntKind.i64.wrap ((b : Int) + (fn : Int)) = ((b + fn : Nat) : Int) := by rw [IntWalk.i64_in _ (by omega)]; omega
  clear hS
  go_enter Tryz.func82, Tryz.ntmps82
  go_wp2_with fail
  refine hh.out.mono ?_
  rintro _ w1 ⟨rfl, hb1⟩
  go_wp2_with fail
  refine (hl.out _ hb1).mono ?_
  rintro _ w2 ⟨rfl, rfl⟩
  go_wp2_with fail
  go_ret
  exact ⟨rfl, hb1⟩
set_option maxRecDepth 100000 in
set_option maxHeartbeats 4000000 in
/-- Is a segment one of the log's, and not wholly below a number? -/
theorem islog_any (vb sb n a g s b E : Nat) (fa : Option Addr) (fn fc : Nat) (sl : Bool) (ib gb qb : Nat) (id gen fr : Int) (w : World) (hb : b ≤ 1099511628776) (hf : fn ≤ 1000) (hS : Whole w sb 160 (sgL vb n a g s b (.slice fa fn fc) E sl))
    (ci : w.cell? ⟨ib, 0, none⟩ = some (.int .i64 id)) (cg : w.cell? ⟨gb, 0, none⟩ = some (.int .u32 gen)) (cq : w.cell? ⟨qb, 0, none⟩ = some (.int .i64 fr)) :
    Calls Tryz.prog 80 #[.pointer (some ⟨sb, 0, none⟩), .pointer (some ⟨ib, 0, none⟩), .pointer (some ⟨gb, 0, none⟩), .pointer (some ⟨qb, 0, none⟩)] w fun e w' => e = .returned (.bool (decide ((a : Int) = id ∧ (g : Int) = gen ∧ 0 < fn ∧ fr < ((b + fn : Nat) : Int)))) ∧ Below w.heap.size w w' := by
  obtain ⟨R, hR⟩ : ∃ R, Hid (decide ((a : Int) = id ∧ (g : Int) = gen ∧ 0 < fn ∧ fr < ((b + fn : Nat) : Int)) = R) := ⟨_, Lib.hid rfl⟩
  rw [hR.out]
  obtain ⟨v1, hv1⟩ : ∃ v, Hid (decide ((a : Int) = id) = v) := ⟨_, Lib.hid rfl⟩
  obtain ⟨v2, hv2⟩ : ∃ v, Hid (decide ((g : Int) = gen) = v) := ⟨_, Lib.hid rfl⟩
  obtain ⟨v3, hv3⟩ : ∃ v, Hid (decide ((0 : Int) < (fn : Int)) = v) := ⟨_, Lib.hid rfl⟩
  obtain ⟨v4, hv4⟩ : ∃ v, Hid (decide (fr < ((b + fn : Nat) : Int)) = v) := ⟨_, Lib.hid rfl⟩
  have hRv : Hid (R = (v1 && v2 && v3 && v4)) := Lib.hid (by
    rw [← hR.out, ← hv1.out, ← hv2.out, ← hv3.out, ← hv4.out, ← Bool.decide_and, ← Bool.decide_and, ← Bool.decide_and, decide_eq_decide]; omega)
  have e1 : ∀ W, (binOp BinOp.eql 3 (.int .i64 (a : Int)) (.int .i64 id)).run Tryz.prog W = .ok (.bool v1) W := fun W => by rw [← hv1.out]; simp [go_sem, Tryz.underlying3]; rfl
  have e2 : ∀ W, (binOp BinOp.eql 55 (.int .u32 (g : Int)) (.int .u32 gen)).run Tryz.prog W = .ok (.bool v2) W := fun W => by rw [← hv2.out]; simp [go_sem, Tryz.underlying55]; rfl
  have e3 : ∀ W, (binOp BinOp.gtr 3 (.int .i64 (fn : Int)) (.int .i64 0)).run Tryz.prog W = .ok (.bool v3) W := fun W => by rw [← hv3.out]; simp [go_sem, Tryz.underlying3]
  have e4 : ∀ W, (binOp BinOp.gtr 3 (.int .i64 ((b + fn : Nat) : Int)) (.int .i64 fr)).run Tryz.prog W = .ok (.bool v4) W := fun W => by rw [← hv4.out]; simp [go_sem, Tryz.underlying3]
  have hh := Lib.hid (header_any hS)
  have hl0 := fun W (h : W.cell? ⟨sb, 6, none⟩ = some (.slice fa fn fc)) => (len_any sb fa fn fc W h).mono (fun e w' h => (⟨h.1, h.2 ▸ Below.refl _ _⟩ : e = .returned (.int .i64 (fn : Int)) ∧ Below W.heap.size W w'))
  have hb0 := fun W (h : Whole W sb 160 (sgL vb n a g s b (.slice fa fn fc) E sl)) => sbehind_any vb sb n a g s b E fa fn fc sl W hb hf h
  replace hS := Lib.hid hS
  clear hR hv1 hv2 hv3 hv4
  go_enter Tryz.func80, Tryz.ntmps80
  go_wp2_with fail
  refine hh.out.mono ?_
  rintro _ w1 ⟨rfl, hb1⟩
  have hB1 := Lib.hid (grewAlloc hb1 (.cells #[.int .i64 (a : Int), .int .u32 (g : Int), .int .u32 (s : Int), .int .i64 (b : Int)] 79))
  have hX := Whole.new w1 79 [.int .i64 (a : Int), .int .u32 (g : Int), .int .u32 (s : Int), .int .i64 (b : Int)]
  obtain ⟨W1, hW1⟩ : ∃ W, Hid (W = w1.alloc (.cells #[.int .i64 (a : Int), .int .u32 (g : Int), .int .u32 (s : Int), .int .i64 (b : Int)] 79)) := ⟨_, Lib.hid rfl⟩
  obtain ⟨xb, hxb⟩ : ∃ xb, Hid (w1.heap.size = xb) := ⟨_, Lib.hid rfl⟩
  rw [hxb.out] at hX
  rw [← show W1 = _ from hW1.out] at hB1 hX
  have x0 : W1.cell? ⟨xb, 0, none⟩ = some (.int .i64 (a : Int)) := hX.cell 0
  have x1 : W1.cell? ⟨xb, 1, none⟩ = some (.int .u32 (g : Int)) := hX.cell 1
  have g0 := fun d os => cell_regrown x0 d os
  have g1 := fun d os => cell_regrown x1 d os
  have gi := fun d os => cell_regrown (keepCell hB1.out ci) d os
  have gg := fun d os => cell_regrown (keepCell hB1.out cg) d os
  have gq := fun d os => cell_regrown (keepCell hB1.out cq) d os
  have hS1 := hS.out.below hB1.out hS.out.lt
  have hlen := regrown_if hl0 W1 (fun w' hb => keepCell hb (hS1.cell 6))
  have hbeh := regrown_if hb0 W1 (fun w' hb => hS1.below hb hS1.lt)
  replace hlen := Lib.hid hlen
  replace hbeh := Lib.hid hbeh
  clear x0 x1 ci cg cq hX hS hS1 hl0 hb0 hh hb1
  cases v1 <;> cases v2 <;> cases v3 <;> simp only [Bool.false_and, Bool.true_and, Bool.and_false, Bool.and_true] at hRv
  all_goals
    go_wp2_with fail
    rw [← show W1 = _ from hW1.out, hxb.out]
    clear hW1
    refine wp_region_quiet_below (by kernel_rfl) (by kernel_rfl) ?_
    repeat (first
      | ((with_reducible refine quiet_cmp BinOp.eql 3 3 (.int .i64 (a : Int)) (.int .i64 id) _ ?_ ?_ e1 ?_ ?_ ?_); (· rfl); (· rfl); (· exact fun _ => rfl); (· rfl); simp only [Act.put, List.setIfInBounds_toArray, List.set_cons_zero, List.set_cons_succ])
      | ((with_reducible refine quiet_cmp BinOp.eql 55 55 (.int .u32 (g : Int)) (.int .u32 gen) _ ?_ ?_ e2 ?_ ?_ ?_); (· rfl); (· rfl); (· exact fun _ => rfl); (· rfl); simp only [Act.put, List.setIfInBounds_toArray, List.set_cons_zero, List.set_cons_succ])
      | ((with_reducible refine quiet_cmp BinOp.gtr 3 3 (.int .i64 (fn : Int)) (.int .i64 0) _ ?_ ?_ e3 ?_ ?_ ?_); (· rfl); (· rfl); (· exact fun _ => rfl); (· rfl); simp only [Act.put, List.setIfInBounds_toArray, List.set_cons_zero, List.set_cons_succ])
      | ((with_reducible refine quiet_cmp BinOp.gtr 3 3 (.int .i64 ((b + fn : Nat) : Int)) (.int .i64 fr) _ ?_ ?_ e4 ?_ ?_ ?_); (· rfl); (· rfl); (· exact fun _ => rfl); (· rfl); simp only [Act.put, List.setIfInBounds_toArray, List.set_cons_zero, List.set_cons_succ])
      | go_big_quiet_step (first | (with_reducible exact hlen.out _ _) | (with_reducible exact hbeh.out _ _)))
    refine wpQuiet_nil ?_
    intro _ hw'
    obtain ⟨⟨dq, osq⟩, hw''⟩ := hw'
    subst hw''
    have hB2 := Lib.hid (grew hB1.out (below_regrown W1 dq osq))
    clear g0 g1 gi gg gq hlen hbeh hB1 e1 e2 e3 e4
    go_wp2_with fail
    go_ret
    exact ⟨by rw [hRv.out] <;> rfl, hB2.out⟩
set_option maxRecDepth 100000 in
set_option maxHeartbeats 4000000 in
theorem starts_any (vb sb n a g s b E : Nat) (fv : Value) (sl : Bool) (ib gb lb kb qb : Nat) (fr : Int) (L : Bool) (w : World) (hS : Whole w sb 160 (sgL vb n a g s b fv E sl))
    (ck : w.cell? ⟨kb, 0, none⟩ = some (.func (.func 80) #[] #[.pointer (some ⟨ib, 0, none⟩), .pointer (some ⟨gb, 0, none⟩), .pointer (some ⟨lb, 0, none⟩)])) (cq : w.cell? ⟨qb, 0, none⟩ = some (.int .i64 fr))
    (hL : ∀ W, Below w.heap.size w W → Calls Tryz.prog 80 #[.pointer (some ⟨sb, 0, none⟩), .pointer (some ⟨ib, 0, none⟩), .pointer (some ⟨gb, 0, none⟩), .pointer (some ⟨lb, 0, none⟩)] W fun e w' => e = .returned (.bool L) ∧ Below W.heap.size W w') :
    Calls Tryz.prog 84 #[.pointer (some ⟨sb, 0, none⟩), .pointer (some ⟨kb, 0, none⟩), .pointer (some ⟨qb, 0, none⟩)] w fun e w' => e = .returned (.bool (L && decide ((b : Int) ≤ fr))) ∧ Below w.heap.size w w' := by
  obtain ⟨v1, hv1⟩ : ∃ v, Hid (decide ((b : Int) ≤ fr) = v) := ⟨_, Lib.hid rfl⟩
  rw [hv1.out]
  have e1 : ∀ W, (binOp BinOp.leq 3 (.int .i64 (b : Int)) (.int .i64 fr)).run Tryz.prog W = .ok (.bool v1) W := fun W => by rw [← hv1.out]; simp [go_sem, Tryz.underlying3]
  have hfi := fun W => field_base (.int .i64 (a : Int)) (.int .u32 (g : Int)) (.int .u32 (s : Int)) (.int .i64 (b : Int)) W
  have hh0 := fun W (h : Whole W sb 160 (sgL vb n a g s b fv E sl)) => header_any h
  have gk := fun d os => cell_regrown ck d os
  have gq := fun d os => cell_regrown cq d os
  have hhd := Lib.hid (regrown_if hh0 w (fun w' hb => hS.below hb hS.lt))
  have hlg := Lib.hid (regrown_if (C := fun W => Below w.heap.size w W) hL w (fun w' hb => hb))
  clear hv1 hS hh0 ck cq hL
  go_enter Tryz.func84, Tryz.ntmps84
  go_wp2_with fail
  cases L
  all_goals
    refine wp_region_quiet_below (by kernel_rfl) (by kernel_rfl) ?_
    repeat (first
      | ((with_reducible refine quiet_cmp BinOp.leq 3 3 (.int .i64 (b : Int)) (.int .i64 fr) _ ?_ ?_ e1 ?_ ?_ ?_); (· rfl); (· rfl); (· exact fun _ => rfl); (· rfl); simp only [Act.put, List.setIfInBounds_toArray, List.set_cons_zero, List.set_cons_succ])
      | go_big_quiet_step (first | (with_reducible exact hlg.out _ _) | (with_reducible exact hhd.out _ _)))
    refine wpQuiet_nil ?_
    intro _ hw'
    obtain ⟨⟨dq, osq⟩, hw''⟩ := hw'
    subst hw''
    have hB2 := Lib.hid (below_regrown w dq osq)
    clear gk gq hlg hhd e1 hfi
    go_wp2_with fail
    go_ret
    exact ⟨rfl, hB2.out⟩
set_option maxRecDepth 100000 in
set_option maxHeartbeats 4000000 in
theorem follows_any (vb sb n a g s b E : Nat) (fv : Value) (sl : Bool) (ib gb lb kb qb : Nat) (fr : Int) (L : Bool) (w : World) (hS : Whole w sb 160 (sgL vb n a g s b fv E sl))
    (ck : w.cell? ⟨kb, 0, none⟩ = some (.func (.func 80) #[] #[.pointer (some ⟨ib, 0, none⟩), .pointer (some ⟨gb, 0, none⟩), .pointer (some ⟨lb, 0, none⟩)])) (cq : w.cell? ⟨qb, 0, none⟩ = some (.int .i64 fr))
    (hL : ∀ W, Below w.heap.size w W → Calls Tryz.prog 80 #[.pointer (some ⟨sb, 0, none⟩), .pointer (some ⟨ib, 0, none⟩), .pointer (some ⟨gb, 0, none⟩), .pointer (some ⟨lb, 0, none⟩)] W fun e w' => e = .returned (.bool L) ∧ Below W.heap.size W w') :
    Calls Tryz.prog 85 #[.pointer (some ⟨sb, 0, none⟩), .pointer (some ⟨kb, 0, none⟩), .pointer (some ⟨qb, 0, none⟩)] w fun e w' => e = .returned (.bool (L && decide ((b : Int) = fr))) ∧ Below w.heap.size w w' := by
  obtain ⟨v1, hv1⟩ : ∃ v, Hid (decide ((b : Int) = fr) = v) := ⟨_, Lib.hid rfl⟩
  rw [hv1.out]
  have e1 : ∀ W, (binOp BinOp.eql 3 (.int .i64 (b : Int)) (.int .i64 fr)).run Tryz.prog W = .ok (.bool v1) W := fun W => by rw [← hv1.out]; simp [go_sem, Tryz.underlying3]; rfl
  have hfi := fun W => field_base (.int .i64 (a : Int)) (.int .u32 (g : Int)) (.int .u32 (s : Int)) (.int .i64 (b : Int)) W
  have hh0 := fun W (h : Whole W sb 160 (sgL vb n a g s b fv E sl)) => header_any h
  have gk := fun d os => cell_regrown ck d os
  have gq := fun d os => cell_regrown cq d os
  have hhd := Lib.hid (regrown_if hh0 w (fun w' hb => hS.below hb hS.lt))
  have hlg := Lib.hid (regrown_if (C := fun W => Below w.heap.size w W) hL w (fun w' hb => hb))
  clear hv1 hS hh0 ck cq hL
  go_enter Tryz.func85, Tryz.ntmps85
  go_wp2_with fail
  cases L
  all_goals
    refine wp_region_quiet_below (by kernel_rfl) (by kernel_rfl) ?_
    repeat (first
      | ((with_reducible refine quiet_cmp BinOp.eql 3 3 (.int .i64 (b : Int)) (.int .i64 fr) _ ?_ ?_ e1 ?_ ?_ ?_); (· rfl); (· rfl); (· exact fun _ => rfl); (· rfl); simp only [Act.put, List.setIfInBounds_toArray, List.set_cons_zero, List.set_cons_succ])
      | go_big_quiet_step (first | (with_reducible exact hlg.out _ _) | (with_reducible exact hhd.out _ _)))
    refine wpQuiet_nil ?_
    intro _ hw'
    obtain ⟨⟨dq, osq⟩, hw''⟩ := hw'
    subst hw''
    have hB2 := Lib.hid (below_regrown w dq osq)
    clear gk gq hlg hhd e1 hfi
    go_wp2_with fail
    go_ret
    exact ⟨rfl, hB2.out⟩
end Go.Proofs.YtbbhnbdekblghaaGreatDoor.W
end
section
namespace Go.Proofs.YtbbhnbdekblghaaGreatDoor.W
open Go.RowKit Go.Sort
open Go.Proofs.YtbbhnbdekblghaaGreatDoor.M Go.Proofs.YtbbhnbdekblghaaGreatDoor.D Go.Proofs.YtbbhnbdekblghaaGreatDoor.Z
set_option linter.unusedVariables false
set_option linter.unusedSimpArgs false

/-- A segment, or none, as it is pointed at. -/
def oV : Option Sr → Value
  | none => .pointer none
  | some r => ptV r.sb
/-- The first of two segments. -/
def pick1 (P : Sr → Bool) (o : Option Sr) (r : Sr) : Option Sr := if P r = true then (match o with
  | none => some r
  | some f => if r.b < f.b ∨ r.b = f.b ∧ r.s < f.s then some r else some f) else o
def firstF (P : Sr → Bool) (rs : List Sr) (k : Nat) : Option Sr := (rs.take k).foldl (pick1 P) none
theorem first_next {P : Sr → Bool} {rs : List Sr} {k : Nat} {r : Sr} (h : rs[k]? = some r) : firstF P rs (k + 1) = pick1 P (firstF P rs k) r := by
  unfold firstF
  rw [List.take_add_one, h, Option.toList_some, List.foldl_append]
  rfl
theorem first_mem {P : Sr → Bool} {rs : List Sr} {f : Sr} : ∀ k : Nat, firstF P rs k = some f → f ∈ rs ∧ P f = true := by
  intro k
  induction k with
  | zero => intro h; simp [firstF] at h
  | succ k ih =>
    intro h
    by_cases hk : k < rs.length
    · have hr := List.getElem?_eq_getElem hk
      rw [first_next hr] at h
      have hm := List.mem_of_getElem? hr
      unfold pick1 at h
      split at h
      · rename_i hp
        split at h
        · cases h; exact ⟨hm, hp⟩
        · rename_i f2 hf
          split at h
          · cases h; exact ⟨hm, hp⟩
          · cases h; exact ih hf
      · exact ih h
    · rw [show firstF P rs (k + 1) = firstF P rs k from by unfold firstF; rw [List.take_of_length_le (by omega), List.take_of_length_le (by omega)]] at h
      exact ih h
section
variable {w : World} {vb : Nat} {rs : List Sr} {A : Option Addr} {c : Nat}
set_option maxRecDepth 100000 in
set_option maxHeartbeats 4000000 in
theorem first_any (P : Sr → Bool) (gf : FuncId) (kb qb : Nat) (hn : rs.length ≤ 1000) (hrow : ∀ j r, rs[j]? = some r → ∃ q, A = some ⟨q, 0, none⟩ ∧ w.cell? ⟨q, j, none⟩ = some (ptV r.sb))
    (hobj : ∀ r ∈ rs, Whole w r.sb 160 (sgL vb r.n r.a r.g r.s r.b (.slice r.la r.fs.length r.lc) (plc r.fs) r.sl))
    (eg : ∀ args w, (callFunc gf args).run Tryz.prog w = .ok (.enter gf args) w)
    (hP : ∀ W, Below w.heap.size w W → ∀ r ∈ rs, Calls Tryz.prog gf #[.pointer (some ⟨r.sb, 0, none⟩), .pointer (some ⟨kb, 0, none⟩), .pointer (some ⟨qb, 0, none⟩)] W fun e w' => e = .returned (.bool (P r)) ∧ Below W.heap.size W w') :
    Calls Tryz.prog 83 #[.slice A rs.length c, .func (.func gf) #[] #[.pointer (some ⟨kb, 0, none⟩), .pointer (some ⟨qb, 0, none⟩)]] w fun e w' => e = .returned (oV (firstF P rs rs.length)) ∧ Below w.heap.size w w' := by
  have hr0 : Hid (∀ (W : World), Below w.heap.size w W → ∀ (j : Nat) (r : Sr), rs[j]? = some r → ∃ q, A = some ⟨q, 0, none⟩ ∧ W.cell? ⟨q, j, none⟩ = some (ptV r.sb)) := Lib.hid (fun W hb j r hj => by
    obtain ⟨q, e, hc⟩ := hrow j r hj
    exact ⟨q, e, keepCell hb hc⟩)
  have hh0 : Hid (∀ (W : World), Below w.heap.size w W → ∀ r ∈ rs, Calls Tryz.prog 54 #[.pointer (some ⟨r.sb, 0, none⟩)] W fun e w' => e = .returned (.agg #[.int .i64 (r.a : Int), .int .u32 (r.g : Int), .int .u32 (r.s : Int), .int .i64 (r.b : Int)]) ∧ Below W.heap.size W w') := Lib.hid (fun W hb r hr => header_any ((hobj r hr).below hb (hobj r hr).lt))
  have hbf := Lib.hid (fun (r f : Sr) W => before_any (r.a : Int) (r.g : Int) (r.s : Int) (r.b : Int) (f.a : Int) (f.g : Int) (f.s : Int) (f.b : Int) W)
  have hB := Below.refl w.heap.size w
  replace hP := Lib.hid hP
  obtain ⟨n, hnn⟩ : ∃ n, Hid (rs.length = n) := ⟨_, Lib.hid rfl⟩
  rw [hnn.out] at hn ⊢
  clear hrow hobj
  go_enter Tryz.func83, Tryz.ntmps83
  go_wp2_with fail
  go_loopg [5, 10] n (fun ga fv i wr => ∃ (k : Nat) (o : Option Sr), k ≤ n ∧ n ≤ k + ga ∧ i = .int .i64 k ∧ fv = oV o ∧ Hid (o = firstF P rs k) ∧ Below w.heap.size w wr)
  case atStart => exact ⟨0, none, by omega, by omega, rfl, rfl, Lib.hid rfl, hB⟩
  case round =>
    clear hB
    obtain ⟨k, o, hk, hg, rfl, rfl, ho, hb⟩ := hrel
    generalize wr = wo at *
    by_cases hlt : k < n
    · obtain ⟨r, hr⟩ : ∃ r, rs[k]? = some r := ⟨_, List.getElem?_eq_getElem (by have := hnn.out; omega)⟩
      obtain ⟨q, rfl, cq⟩ := hr0.out wo hb k r hr
      have hmr := List.mem_of_getElem? hr
      have hnx := first_next (P := P) hr
      rw [← ho.out] at hnx
      have hpc := Lib.hid (hP.out wo hb r hmr)
      have hhr := Lib.hid (fun W (hbW : Below wo.heap.size wo W) => hh0.out W (grew hb hbW) r hmr)
      have hhf := Lib.hid (fun (f : Sr) (hf : o = some f) W (hbW : Below wo.heap.size wo W) => hh0.out W (grew hb hbW) f (first_mem k (by rw [← ho.out]; exact hf)).1)
      replace hb := Lib.hid hb
      clear hr ho hmr
      cases hp : P r with
      | false =>
        rw [hp] at hpc
        have hnx2 : Hid (o = firstF P rs (k + 1)) := Lib.hid (by rw [hnx]; unfold pick1; rw [hp]; rfl)
        clear hnx hp hhr hhf
        go_wp2_with fail
        refine hpc.out.mono ?_
        rintro _ w1 ⟨rfl, hb1⟩
        have hb2 := grew hb.out hb1
        clear hb1 hpc
        go_wp2_with fail
        go_roundg (gk - 1)
        case measure => omega
        case rel => exact ⟨k + 1, o, by omega, by omega, by go_num, rfl, hnx2, hb2⟩
      | true =>
        rw [hp] at hpc
        unfold pick1 at hnx
        rw [if_pos hp] at hnx
        cases o with
        | none =>
          have hov : oV none = .pointer none := rfl
          have hnx2 : Hid (some r = firstF P rs (k + 1)) := Lib.hid (by rw [hnx])
          clear hnx hp hhr hhf
          go_wp2_with fail
          refine hpc.out.mono ?_
          rintro _ w1 ⟨rfl, hb1⟩
          have hb2 := grew hb.out hb1
          clear hb1 hpc
          go_wp2_with fail
          go_roundg (gk - 1)
          case measure => omega
          case rel => exact ⟨k + 1, some r, by omega, by omega, by go_num, rfl, hnx2, hb2⟩
        | some f =>
          replace hhf := Lib.hid (hhf.out f rfl)
          have hbb := Lib.hid (hbf.out r f)
          have hnx2 : Hid ((if r.b < f.b ∨ r.b = f.b ∧ r.s < f.s then some r else some f) = firstF P rs (k + 1)) := Lib.hid hnx.symm
          clear hnx hp
          obtain ⟨z, hz⟩ : ∃ z, decide ((r.b : Int) < (f.b : Int) ∨ (r.b : Int) = (f.b : Int) ∧ (r.s : Int) < (f.s : Int)) = z := ⟨_, rfl⟩
          rw [hz] at hbb
          have hov : oV (some f) = .pointer (some ⟨f.sb, 0, none⟩) := rfl
          go_wp2_with fail
          refine hpc.out.mono ?_
          rintro _ w1 ⟨rfl, hb1⟩
          have hb2 := Lib.hid hb1
          clear hb1 hpc
          go_wp2_with fail
          refine (hhr.out _ hb2.out).mono ?_
          rintro _ w2 ⟨rfl, hb3⟩
          have hb4 := Lib.hid (grew hb2.out hb3)
          clear hb3 hb2
          go_wp2_with fail
          refine (hhf.out _ hb4.out).mono ?_
          rintro _ w3 ⟨rfl, hb5⟩
          have hb6 := Lib.hid (grew hb4.out hb5)
          clear hb5 hb4
          go_wp2_with fail
          refine (hbb.out _).mono ?_
          rintro _ w4 ⟨rfl, hb7⟩
          have hb8 := grew hb.out (grew hb6.out hb7)
          clear hb7 hb6 hhr hhf hbb
          cases z with
          | true =>
            have hc : r.b < f.b ∨ r.b = f.b ∧ r.s < f.s := by have := of_decide_eq_true hz; omega
            have hnx3 : Hid (some r = firstF P rs (k + 1)) := Lib.hid (by rw [← hnx2.out, if_pos hc])
            clear hc hz hnx2
            go_wp2_with fail
            go_roundg (gk - 1)
            case measure => omega
            case rel => exact ⟨k + 1, some r, by omega, by omega, by go_num, rfl, hnx3, hb8⟩
          | false =>
            have hc : ¬ (r.b < f.b ∨ r.b = f.b ∧ r.s < f.s) := by have := of_decide_eq_false hz; omega
            have hnx3 : Hid (some f = firstF P rs (k + 1)) := Lib.hid (by rw [← hnx2.out, if_neg hc])
            clear hc hz hnx2
            go_wp2_with fail
            go_roundg (gk - 1)
            case measure => omega
            case rel => exact ⟨k + 1, some f, by omega, by omega, by go_num, rfl, hnx3, hb8⟩
    · obtain rfl : k = n := by omega
      have hfin : o = firstF P rs rs.length := by rw [hnn.out]; exact ho.out
      subst hfin
      replace hb := Lib.hid hb
      clear ho
      go_wp2_with fail
      go_ret
      exact ⟨by rw [hnn.out]; rfl, hb.out⟩
end
end Go.Proofs.YtbbhnbdekblghaaGreatDoor.W
end
section
namespace Go.Proofs.YtbbhnbdekblghaaGreatDoor.W
open Go.RowKit Go.Sort
open Go.Proofs.YtbbhnbdekblghaaGreatDoor.M Go.Proofs.YtbbhnbdekblghaaGreatDoor.D Go.Proofs.YtbbhnbdekblghaaGreatDoor.Z
set_option linter.unusedVariables false
set_option linter.unusedSimpArgs false

def isL (id gen fr : Int) (r : Sr) : Bool := decide ((r.a : Int) = id ∧ (r.g : Int) = gen ∧ 0 < r.fs.length ∧ fr < ((r.b + r.fs.length : Nat) : Int))
def P2 (id gen fr : Int) (r : Sr) : Bool := isL id gen fr r && decide ((r.b : Int) ≤ fr)
def P3 (id gen fr nx : Int) (r : Sr) : Bool := isL id gen fr r && decide ((r.b : Int) = nx)
/-- The chain from a segment on. -/
def walkC (rs : List Sr) (id gen fr : Int) : Nat → Option Sr → List Sr
  | _, none => []
  | 0, some _ => []
  | f + 1, some s => s :: walkC rs id gen fr f (firstF (P3 id gen fr ((s.b + s.fs.length : Nat) : Int)) rs rs.length)
def chainR (rs : List Sr) (id gen fr : Int) : List Sr := walkC rs id gen fr rs.length (firstF (P2 id gen fr) rs rs.length)
/-- How many segments begin at a number, or behind it. -/
def late (rs : List Sr) (n : Nat) : Nat := (rs.filter fun r => decide (n ≤ r.b)).length
theorem late_le (rs : List Sr) (n : Nat) : late rs n ≤ rs.length := List.length_filter_le _ _
theorem late_mono {n k : Nat} (h : n ≤ k) : ∀ rs : List Sr, late rs k ≤ late rs n
  | [] => Nat.le_refl _
  | r :: rs => by
    have ih := late_mono h rs
    unfold late at ih ⊢
    rw [List.filter_cons, List.filter_cons]
    by_cases h1 : k ≤ r.b
    · rw [if_pos (by simpa using h1), if_pos (by simp; omega)]
      simp only [List.length_cons]; omega
    · rw [if_neg (by simpa using h1)]
      split
      · simp only [List.length_cons]; omega
      · exact ih
theorem late_lt {n k : Nat} (h : n < k) : ∀ {rs : List Sr} {s : Sr}, s ∈ rs → s.b = n → late rs k < late rs n
  | r :: rs, s, hs, e => by
    rcases List.mem_cons.1 hs with rfl | h1
    · have ih := late_mono (Nat.le_of_lt h) rs
      unfold late at ih ⊢
      rw [List.filter_cons, List.filter_cons, if_neg (by simp; omega), if_pos (by simp; omega)]
      simp only [List.length_cons]; omega
    · have ih := late_lt h h1 e
      unfold late at ih ⊢
      rw [List.filter_cons, List.filter_cons]
      by_cases h2 : k ≤ r.b
      · rw [if_pos (by simpa using h2), if_pos (by simp; omega)]
        simp only [List.length_cons]; omega
      · rw [if_neg (by simpa using h2)]
        split
        · simp only [List.length_cons]; omega
        · exact ih
theorem late_pos {rs : List Sr} {s : Sr} (h : s ∈ rs) : 0 < late rs s.b := by
  unfold late
  exact List.length_pos_of_mem (List.mem_filter.2 ⟨h, by simp⟩)
/-- Is the number of rounds that are left enough? -/
def Enough (rs : List Sr) (fu : Nat) (o : Option Sr) : Prop := ∀ s, o = some s → s ∈ rs ∧ 0 < s.fs.length ∧ late rs s.b ≤ fu
theorem isL_len {id gen fr : Int} {r : Sr} (h : isL id gen fr r = true) : 0 < r.fs.length := by
  have := of_decide_eq_true h
  omega
theorem enough_first {rs : List Sr} {id gen fr : Int} : Enough rs rs.length (firstF (P2 id gen fr) rs rs.length) := fun s hs => by
  obtain ⟨h1, h2⟩ := first_mem _ hs
  unfold P2 at h2
  rw [Bool.and_eq_true] at h2
  exact ⟨h1, isL_len h2.1, late_le _ _⟩
theorem enough_next {rs : List Sr} {id gen fr : Int} {fu : Nat} {s : Sr} (h : Enough rs (fu + 1) (some s)) : Enough rs fu (firstF (P3 id gen fr ((s.b + s.fs.length : Nat) : Int)) rs rs.length) := fun t ht => by
  obtain ⟨h1, h2⟩ := first_mem _ ht
  obtain ⟨h3, h4, h5⟩ := h s rfl
  unfold P3 at h2
  rw [Bool.and_eq_true] at h2
  have h6 := of_decide_eq_true h2.2
  have h7 : t.b = s.b + s.fs.length := by omega
  have h8 := late_lt (n := s.b) (k := t.b) (by omega) h3 rfl
  exact ⟨h1, isL_len h2.1, by omega⟩
section
variable {w0 W W' : World} {vb d g' from_ m n : Nat} {lie : List (List UInt8)} {ws : List (Nat × List UInt8)} {steps : Int} {K : List Bk}
/-- Segments beside other blocks. -/
theorem VB.obj_of {rs : List Sr} {K1 K2 : List Bk} (h : VB w0 vb d g' lie ws from_ m steps (K1 ++ (rs.flatMap (Sr.K vb) ++ K2)) W) : ∀ r ∈ rs, Whole W r.sb 160 (sgL vb r.n r.a r.g r.s r.b (.slice r.la r.fs.length r.lc) (plc r.fs) r.sl) := fun r hr =>
  h.got (x := (r.sb, 160, sgL vb r.n r.a r.g r.s r.b (.slice r.la r.fs.length r.lc) (plc r.fs) r.sl)) (List.mem_append_right _ (List.mem_append_left _ (List.mem_flatMap.2 ⟨r, hr, List.mem_cons_self⟩)))
theorem VB.row_of {l : List Nat} {A : Option Addr} {c : Nat} {K1 K2 pk : List Bk} (h : VB w0 vb d g' lie ws from_ m steps (K1 ++ (pk ++ K2)) W) (hr : RowPt A c l pk) : ∀ j sb, l[j]? = some sb → ∃ q, A = some ⟨q, 0, none⟩ ∧ W.cell? ⟨q, j, none⟩ = some (ptV sb) := fun j sb hj => by
  have hK : ∀ x ∈ pk, Whole W x.1 x.2.1 x.2.2 := fun x hx => h.got (List.mem_append_right _ (List.mem_append_left _ hx))
  rcases hr with ⟨rfl, _⟩ | ⟨q, cur, rfl, rfl, h1, h2, h3, h4⟩
  · simp at hj
  · refine ⟨q, rfl, ?_⟩
    have hc := (hK _ (List.mem_singleton.2 rfl)).cell j
    rw [hc]
    have h5 : (cur.take l.length)[j]? = some (ptV sb) := by rw [h4, List.getElem?_map, hj]; rfl
    have h6 := (List.getElem?_eq_some_iff.1 hj).1
    rw [List.getElem?_take_of_lt h6] at h5
    exact h5
abbrev fnC (ib gb lb : Nat) : Value := .func (.func 80) #[] #[.pointer (some ⟨ib, 0, none⟩), .pointer (some ⟨gb, 0, none⟩), .pointer (some ⟨lb, 0, none⟩)]
/-- The boxes of Chain. -/
abbrev BxC (kb ib gb lb : Nat) (id gen fr : Int) : List Bk := [(kb, 140, [fnC ib gb lb]), (lb, 3, [.int .i64 fr]), (gb, 55, [.int .u32 gen]), (ib, 3, [.int .i64 id])]
set_option maxRecDepth 100000 in
theorem first2_any {A : Option Addr} {c : Nat} {rs : List Sr} {pk K1 : List Bk} {kb ib gb lb : Nat} (id gen fr : Int) (hv : VB w0 vb d g' lie ws from_ m steps (K1 ++ (BxC kb ib gb lb id gen fr ++ (pk ++ (rs.flatMap (Sr.K vb) ++ K)))) W) (hrow : RowPt A c (rs.map (·.sb)) pk) (hok : ∀ r ∈ rs, r.Ok) (hn : rs.length ≤ 100) (hbs : ∀ r ∈ rs, r.b ≤ 1099511627776) :
    Calls Tryz.prog 83 #[.slice A rs.length c, .func (.func 84) #[] #[.pointer (some ⟨kb, 0, none⟩), .pointer (some ⟨lb, 0, none⟩)]] W fun e w' => e = .returned (oV (firstF (P2 id gen fr) rs rs.length)) ∧ Below W.heap.size W w' := by
  have h2 := hv.sub (List.sublist_append_right K1 _)
  have ck : W.cell? ⟨kb, 0, none⟩ = some (fnC ib gb lb) := (h2.got (x := (kb, _, [fnC ib gb lb])) (List.mem_append_left _ List.mem_cons_self)).cell 0
  have cl : W.cell? ⟨lb, 0, none⟩ = some (.int .i64 fr) := (h2.got (x := (lb, 3, [.int .i64 fr])) (List.mem_append_left _ (List.mem_cons_of_mem _ List.mem_cons_self))).cell 0
  have cg : W.cell? ⟨gb, 0, none⟩ = some (.int .u32 gen) := (h2.got (x := (gb, 55, [.int .u32 gen])) (List.mem_append_left _ (List.mem_cons_of_mem _ (List.mem_cons_of_mem _ List.mem_cons_self)))).cell 0
  have ci : W.cell? ⟨ib, 0, none⟩ = some (.int .i64 id) := (h2.got (x := (ib, 3, [.int .i64 id])) (List.mem_append_left _ (List.mem_cons_of_mem _ (List.mem_cons_of_mem _ (List.mem_cons_of_mem _ List.mem_cons_self))))).cell 0
  have hrw := h2.row_of hrow
  have hob := (h2.sub (List.sublist_append_right _ _)).obj_of
  refine first_any (vb := vb) (P2 id gen fr) 84 kb lb (by omega) (fun j r hj => hrw j r.sb (by rw [List.getElem?_map, hj]; rfl)) hob (fun _ _ => by kernel_rfl) (fun V hb r hr => ?_)
  have hS := (hob r hr).below hb (hob r hr).lt
  have hlen := plc_len r.fs
  have hfit := (hok r hr).fits
  have hbr := hbs r hr
  exact starts_any vb r.sb r.n r.a r.g r.s r.b (plc r.fs) (.slice r.la r.fs.length r.lc) r.sl ib gb lb kb lb fr (isL id gen fr r) V hS (keepCell hb ck) (keepCell hb cl) (fun V2 hb2 => islog_any vb r.sb r.n r.a r.g r.s r.b (plc r.fs) r.la r.fs.length r.lc r.sl ib gb lb id gen fr V2 (by omega) (by omega) (hS.below hb2 hS.lt) (keepCell (grew hb hb2) ci) (keepCell (grew hb hb2) cg) (keepCell (grew hb hb2) cl))
set_option maxRecDepth 100000 in
theorem first3_any {A : Option Addr} {c : Nat} {rs : List Sr} {pk K1 : List Bk} {kb ib gb lb nb : Nat} (id gen fr nx : Int) (hv : VB w0 vb d g' lie ws from_ m steps (K1 ++ (BxC kb ib gb lb id gen fr ++ (pk ++ (rs.flatMap (Sr.K vb) ++ K)))) W) (hrow : RowPt A c (rs.map (·.sb)) pk) (hok : ∀ r ∈ rs, r.Ok) (hn : rs.length ≤ 100) (hbs : ∀ r ∈ rs, r.b ≤ 1099511627776) (cn : W.cell? ⟨nb, 0, none⟩ = some (.int .i64 nx)) :
    Calls Tryz.prog 83 #[.slice A rs.length c, .func (.func 85) #[] #[.pointer (some ⟨kb, 0, none⟩), .pointer (some ⟨nb, 0, none⟩)]] W fun e w' => e = .returned (oV (firstF (P3 id gen fr nx) rs rs.length)) ∧ Below W.heap.size W w' := by
  have h2 := hv.sub (List.sublist_append_right K1 _)
  have ck : W.cell? ⟨kb, 0, none⟩ = some (fnC ib gb lb) := (h2.got (x := (kb, _, [fnC ib gb lb])) (List.mem_append_left _ List.mem_cons_self)).cell 0
  have cl : W.cell? ⟨lb, 0, none⟩ = some (.int .i64 fr) := (h2.got (x := (lb, 3, [.int .i64 fr])) (List.mem_append_left _ (List.mem_cons_of_mem _ List.mem_cons_self))).cell 0
  have cg : W.cell? ⟨gb, 0, none⟩ = some (.int .u32 gen) := (h2.got (x := (gb, 55, [.int .u32 gen])) (List.mem_append_left _ (List.mem_cons_of_mem _ (List.mem_cons_of_mem _ List.mem_cons_self)))).cell 0
  have ci : W.cell? ⟨ib, 0, none⟩ = some (.int .i64 id) := (h2.got (x := (ib, 3, [.int .i64 id])) (List.mem_append_left _ (List.mem_cons_of_mem _ (List.mem_cons_of_mem _ (List.mem_cons_of_mem _ List.mem_cons_self))))).cell 0
  have hrw := h2.row_of hrow
  have hob := (h2.sub (List.sublist_append_right _ _)).obj_of
  refine first_any (vb := vb) (P3 id gen fr nx) 85 kb nb (by omega) (fun j r hj => hrw j r.sb (by rw [List.getElem?_map, hj]; rfl)) hob (fun _ _ => by kernel_rfl) (fun V hb r hr => ?_)
  have hS := (hob r hr).below hb (hob r hr).lt
  have hlen := plc_len r.fs
  have hfit := (hok r hr).fits
  have hbr := hbs r hr
  exact follows_any vb r.sb r.n r.a r.g r.s r.b (plc r.fs) (.slice r.la r.fs.length r.lc) r.sl ib gb lb kb nb nx (isL id gen fr r) V hS (keepCell hb ck) (keepCell hb cn) (fun V2 hb2 => islog_any vb r.sb r.n r.a r.g r.s r.b (plc r.fs) r.la r.fs.length r.lc r.sl ib gb lb id gen fr V2 (by omega) (by omega) (hS.below hb2 hS.lt) (keepCell (grew hb hb2) ci) (keepCell (grew hb hb2) cg) (keepCell (grew hb hb2) cl))
set_option maxRecDepth 100000 in
set_option maxHeartbeats 4000000 in
theorem chain_any {A : Option Addr} {c : Nat} {rs : List Sr} {pk : List Bk} (id gen fr : Int) (h : VB w0 vb d g' lie ws from_ m steps (pk ++ (rs.flatMap (Sr.K vb) ++ K)) W) (hrow : RowPt A c (rs.map (·.sb)) pk) (hok : ∀ r ∈ rs, r.Ok) (hn : rs.length ≤ 100) (hbs : ∀ r ∈ rs, r.b ≤ 1099511627776) :
    Calls Tryz.prog 35 #[.slice A rs.length c, .int .i64 id, .int .u32 gen, .int .i64 fr] W fun e w' => ∃ (A2 : Option Addr) (c2 : Nat) (pk2 : List Bk), e = .returned (.slice A2 (chainR rs id gen fr).length c2) ∧ RowPt A2 c2 ((chainR rs id gen fr).map (·.sb)) pk2 ∧ VB w0 vb d g' lie ws from_ m steps (pk2 ++ (pk ++ (rs.flatMap (Sr.K vb) ++ K))) w' := by
  have hv1 := h.new (q := W.heap.size) (t := 3) (cs := [.int .i64 id]) (allocBelow W (.cells #[.int .i64 id] 3)) (Whole.new W _ _) (Nat.le_refl _) (by show plainT 3; decide)
  have hv2 := hv1.new (q := (W.alloc (.cells #[.int .i64 id] 3)).heap.size) (t := 55) (cs := [.int .u32 gen]) (allocBelow (W.alloc (.cells #[.int .i64 id] 3)) (.cells #[.int .u32 gen] 55)) (Whole.new _ _ _) (Nat.le_refl _) (by show plainT 55; decide)
  have hv3 := hv2.new (q := ((W.alloc (.cells #[.int .i64 id] 3)).alloc (.cells #[.int .u32 gen] 55)).heap.size) (t := 3) (cs := [.int .i64 fr]) (allocBelow ((W.alloc (.cells #[.int .i64 id] 3)).alloc (.cells #[.int .u32 gen] 55)) (.cells #[.int .i64 fr] 3)) (Whole.new _ _ _) (Nat.le_refl _) (by show plainT 3; decide)
  have z1 : (W.alloc (.cells #[.int .i64 id] 3)).heap.size = W.heap.size + 1 := by simp
  have z2 : ((W.alloc (.cells #[.int .i64 id] 3)).alloc (.cells #[.int .u32 gen] 55)).heap.size = W.heap.size + 1 + 1 := by simp
  obtain ⟨W3, hW3⟩ : ∃ W3, Hid (W3 = ((W.alloc (.cells #[.int .i64 id] 3)).alloc (.cells #[.int .u32 gen] 55)).alloc (.cells #[.int .i64 fr] 3)) := ⟨_, Lib.hid rfl⟩
  rw [← hW3.out, z2, z1] at hv3
  obtain ⟨lb, hlb⟩ : ∃ lb, Hid (W.heap.size + 1 + 1 = lb) := ⟨_, Lib.hid rfl⟩
  obtain ⟨gb, hgb⟩ : ∃ gb, Hid (W.heap.size + 1 = gb) := ⟨_, Lib.hid rfl⟩
  obtain ⟨ib, hib⟩ : ∃ ib, Hid (W.heap.size = ib) := ⟨_, Lib.hid rfl⟩
  rw [hlb.out, hgb.out, hib.out] at hv3
  have hv4 := hv3.new (q := W3.heap.size) (t := 140) (cs := [fnC ib gb lb]) (allocBelow W3 (.cells #[fnC ib gb lb] 140)) (Whole.new W3 _ _) (Nat.le_refl _) (by show plainT 140; decide)
  obtain ⟨W4, hW4⟩ : ∃ W4, Hid (W4 = W3.alloc (.cells #[fnC ib gb lb] 140)) := ⟨_, Lib.hid rfl⟩
  obtain ⟨kb, hkb⟩ : ∃ kb, Hid (W3.heap.size = kb) := ⟨_, Lib.hid rfl⟩
  rw [← hW4.out, hkb.out] at hv4
  have hv5 : VB w0 vb d g' lie ws from_ m steps ([] ++ (BxC kb ib gb lb id gen fr ++ (pk ++ (rs.flatMap (Sr.K vb) ++ K)))) W4 := hv4
  have hf2 := Lib.hid (first2_any id gen fr hv5 hrow hok hn hbs)
  replace hv5 := Lib.hid hv5
  replace hrow := Lib.hid hrow
  replace hok := Lib.hid hok
  replace hbs := Lib.hid hbs
  clear hv1 hv2 hv3 hv4 z1 z2 h
  obtain ⟨i0, hi0, hz0, hz1, hz2⟩ := info_parts infoPt
  go_enter Tryz.func35, Tryz.ntmps35
  go_upto_region 1 with fail
  rw [← show W3 = _ from hW3.out, hlb.out, hgb.out, hib.out]
  clear hW3 hlb hgb hib
  go_upto_region 3 with fail
  rw [← show W4 = _ from hW4.out, hkb.out]
  clear hW4 hkb
  go_wp2_with fail
  refine hf2.out.mono ?_
  rintro _ w5 ⟨rfl, hb5⟩
  have hv6 := Lib.hid (hv5.out.below hb5)
  clear hv5 hb5 hf2
  go_wp2_with fail
  go_loopg [10, 11] rs.length (fun ga cv sv wr => ∃ (ch : List Sr) (sbs : List Nat) (A2 : Option Addr) (c2 : Nat) (pkc : List Bk) (o : Option Sr) (fu : Nat), fu ≤ ga ∧ cv = .slice A2 sbs.length c2 ∧ sv = oV o ∧ Hid (sbs = ch.map (·.sb) ∧ ch ++ walkC rs id gen fr fu o = chainR rs id gen fr ∧ Enough rs fu o ∧ sbs.length + fu ≤ 100 ∧ RowPt A2 c2 sbs pkc ∧ VB w0 vb d g' lie ws from_ m steps (pkc ++ (BxC kb ib gb lb id gen fr ++ (pk ++ (rs.flatMap (Sr.K vb) ++ K)))) wr))
  case atStart => exact ⟨[], [], none, 0, [], _, rs.length, Nat.le_refl _, rfl, rfl, Lib.hid ⟨rfl, rfl, enough_first, by simpa using hn, .inl ⟨rfl, rfl, rfl, rfl⟩, hv6.out⟩⟩
  case round =>
    clear hv6
    obtain ⟨ch, sbs, A2, c2, pkc, o, fu, hfu, rfl, rfl, hrel⟩ := hrel
    generalize wr = wo at *
    cases o with
    | none =>
      have hov : oV none = .pointer none := rfl
      go_wp2_with fail
      go_ret
      obtain ⟨s1, s2, s3, s4, s5, s6⟩ := hrel.out
      have e : ch = chainR rs id gen fr := by rw [← s2]; unfold walkC; simp
      refine ⟨A2, c2, pkc, ?_, by rw [← e, ← s1]; exact s5, s6.sub (List.Sublist.append (List.Sublist.refl _) (List.sublist_append_right _ _))⟩
      rw [← e, s1, List.length_map]
      rfl
    | some s =>
      have hov : oV (some s) = .pointer (some ⟨s.sb, 0, none⟩) := rfl
      obtain ⟨s1, s2, s3, s4, s5, s6⟩ := _root_.id hrel.out
      obtain ⟨h1, h2, h3⟩ := s3 s rfl
      have h4 := late_pos h1
      obtain ⟨fu', rfl⟩ : ∃ f, fu = f + 1 := ⟨fu - 1, by omega⟩
      have hen := Lib.hid (enough_next (id := id) (gen := gen) (fr := fr) s3)
      have hbr := hbs.out s h1
      have hlen := plc_len s.fs
      have hfit := (hok.out s h1).fits
      have hns : sbs.length ≤ 100 := by omega
      have hns2 : Hid (sbs.length + 1 + fu' ≤ 100) := Lib.hid (by omega)
      have hwk : Hid ((ch ++ [s]) ++ walkC rs id gen fr fu' (firstF (P3 id gen fr ((s.b + s.fs.length : Nat) : Int)) rs rs.length) = chainR rs id gen fr) := Lib.hid (by rw [← s2]; simp [walkC])
      have hown5 := Lib.hid (s5.own (fun x hx => s6.got (List.mem_append_left _ hx)))
      have hv5 := Lib.hid s6
      have hbh := Lib.hid (fun (V : World) (hV : VB w0 vb d g' lie ws from_ m steps (BxC kb ib gb lb id gen fr ++ (pk ++ (rs.flatMap (Sr.K vb) ++ K))) V) => sbehind_any vb s.sb s.n s.a s.g s.s s.b (plc s.fs) s.la s.fs.length s.lc s.sl V (by omega) (by omega) ((hV.sub (List.sublist_append_right _ _)).obj_of s h1))
      obtain ⟨nx, hnx⟩ : ∃ nx, Hid (((s.b + s.fs.length : Nat) : Int) = nx) := ⟨_, Lib.hid rfl⟩
      rw [hnx.out] at hbh hwk hen
      have hfu2 : fu' + 1 ≤ gk := hfu
      replace s1 := Lib.hid s1
      replace s5 := Lib.hid s5
      clear hrel s2 s3 s4 s6 h1 h2 h3 h4 hbr hlen hfit hnx hfu
      go_wp2_with (with_reducible refine zAppend _ _ _ rfl ?_)
      refine Lib.hid ?_
      refine wpList_append_lies _ rfl _ _ 58 rfl 0 118 i0 _ 1 8 Tryz.underlying58 hi0 hz0 hz1 hz2 rfl (by omega) (.slice A2 sbs.length c2) sbs.length (sbs.map ptV) rfl (hown5.out.alloc _) _ 1 1 [ptV s.sb] rfl rfl (World.news_of_block (heap_alloc_new _ _)) (by simp [Value.oneCell']) (by omega) (by unfold maxLen; omega) (by omega) (Nat.zero_le _) (wo.heap.size + 1) (by simp) ?_
      intro gg cap w6 hown6 hgrow6 hat6 hlt6
      obtain ⟨pk', hrow6, hv6⟩ := hv5.out.appended s5.out hgrow6 hown6 hat6
      have hbc := Lib.hid (hbh.out w6 (hv6.sub (List.sublist_append_right _ _)))
      replace hv6 := Lib.hid hv6
      replace hrow6 := Lib.hid hrow6
      clear hown5 hown6 hgrow6 hat6 hlt6 hv5 hbh s5
      go_wp2_with fail
      refine hbc.out.mono ?_
      rintro _ w7 ⟨rfl, hb7⟩
      have hv7 := hv6.out.below hb7
      have hv8 := hv7.below (allocBelow w7 (.cells #[.int .i64 nx] 3))
      have cn : (w7.alloc (.cells #[.int .i64 nx] 3)).cell? ⟨w7.heap.size, 0, none⟩ = some (.int .i64 nx) := (Whole.new w7 3 [.int .i64 nx]).cell 0
      have hf3 := Lib.hid (first3_any id gen fr nx hv8 hrow.out hok.out hn hbs.out cn)
      replace hv8 := Lib.hid hv8
      clear hv6 hb7 hv7 hbc
      go_wp2_with fail
      refine hf3.out.mono ?_
      rintro _ w8 ⟨rfl, hb8⟩
      have hnew : Hid (sbs ++ [s.sb] = (ch ++ [s]).map (·.sb) ∧ (ch ++ [s]) ++ walkC rs id gen fr fu' (firstF (P3 id gen fr nx) rs rs.length) = chainR rs id gen fr ∧ Enough rs fu' (firstF (P3 id gen fr nx) rs rs.length) ∧ (sbs ++ [s.sb]).length + fu' ≤ 100 ∧ RowPt (some ⟨gg, 0, none⟩) cap (sbs ++ [s.sb]) pk' ∧ VB w0 vb d g' lie ws from_ m steps (pk' ++ (BxC kb ib gb lb id gen fr ++ (pk ++ (rs.flatMap (Sr.K vb) ++ K)))) w8) := Lib.hid ⟨by rw [s1.out, List.map_append]; rfl, hwk.out, hen.out, by rw [List.length_append, List.length_singleton]; exact hns2.out, hrow6.out, hv8.out.below hb8⟩
      clear hv8 hb8 hf3 cn hwk hen hns2 hrow6 s1
      go_wp2_with fail
      go_roundg (gk - 1)
      case measure => omega
      case rel => exact ⟨ch ++ [s], sbs ++ [s.sb], some ⟨gg, 0, none⟩, cap, pk', _, fu', by omega, by rw [List.length_append]; rfl, rfl, hnew⟩
end
end Go.Proofs.YtbbhnbdekblghaaGreatDoor.W
end
