/- Package part: Append, Replace, Trim. -/
import Derived.Test.YtahljbjgenepaaaPtD
import Derived.Test.YtahljbjgenepaaaMinMax
namespace Go.Proofs.Ytahljbjgenepaaa.W
open Go.RowKit Go.Sort
open Go.Proofs.Ytahljbjgenepaaa.M Go.Proofs.Ytahljbjgenepaaa.D Go.Proofs.Ytahljbjgenepaaa.Z
set_option linter.unusedVariables false
set_option linter.unusedSimpArgs false

theorem step_append_by {P : Program} {w w' : World} {ops : Array Oper} {o : Oper} {a : Go.Act} {K : Go.Act → World → Prop} {Q : Exit → Go.Act → World → Prop} {E : Prop} (hgd : o.guard = none) (s x : Operand) (t : TypeId)
    (ho : o.op = .call { callee := .builtin .append, args := #[s, x], argTypes := #[t, t] }) (vs vx v : Value) (hs : a.eval s = vs) (hx : a.eval x = vx)
    (hr : (Builtin.append_ #[t, t] o.type #[vs, vx]).run P w = .ok v w') (h : K (a.put o.dst v) w') :
    if Region.wanted o (yielded ops a.tmps) = true then Oper.wp P o a w K Q else E := by
  have hw : Region.wanted o (yielded ops a.tmps) = true := by simp [Region.wanted, hgd]
  rw [if_pos hw]
  unfold Oper.wp execOp
  simp only [ho, resolve, invoke, builtin, Sem.run_bind, Sem.run_pure, Result.andThen_ok, List.map_toArray, List.map_cons, List.map_nil, hs, hx, hr]
  exact h
theorem RcAt.of_kept {w w' : World} {own : Nat → Prop} {va : Option Addr} {rs : List Rc} (h : RcAt w va rs) (hk : Kept own w w') (ho : rs ≠ [] → ∀ q, ownB va q → ¬ own q) : RcAt w' va rs := fun i r hi => by
  obtain ⟨b, o, h1, h2, h3⟩ := h i r hi
  exact ⟨b, o, h1, Nat.lt_of_lt_of_le h2 hk.size, fun j v hj => (World.cell?_of_block (hk.block b h2 (ho (fun e => by rw [e] at hi; simp at hi) b ⟨o, h1⟩))).trans (h3 j v hj)⟩
theorem lastN_nil (nx : Int) : lastN nx [] = nx := rfl
theorem lastN_at {nx : Int} {l : List Rc} {r : Rc} (h : l[l.length - 1]? = some r) (h0 : l ≠ []) : lastN nx l = r.off + 1 := by
  unfold lastN
  rw [List.getLast?_eq_getElem?, h]
section
variable {W : World} {pb : Nat} {d : Pd} {va : Option Addr} {c : Nat}
theorem app_done {w3 w4 : World} {va' : Option Addr} {c' : Nat} {rs' : List Rc} (h : PdAt W pb d va c) (hb : Below W.heap.size W w3) (k2 : RowO w4 va' c' rs') (k3 : Kept (ownB va) w3 w4) (k4 : ∀ q, ownB va' q → ownB va q ∨ w3.heap.size ≤ q) :
    Kept (mineP pb va) W (w4.setCell ⟨pb, 3, none⟩ (.slice va' rs'.length c')) ∧ PtAt (w4.setCell ⟨pb, 3, none⟩ (.slice va' rs'.length c')) pb d.st d.nx d.sn rs' va' c' ∧ (∀ q, ownB va' q → ownB va q ∨ W.heap.size ≤ q) := by
  have hk4 : Kept (mineP pb va) W w4 := (Kept.of_below hb).trans (k3.mono (own' := mineP pb va) (fun q _ e => .inr e))
  have hne : ∀ q, ownB va' q → q ≠ pb := fun q hq e => by
    rcases k4 q hq with e2 | e2
    · exact h.ne e2 e.symm
    · have := h.obj.lt; have := hb.size; omega
  have hW4 : Whole w4 pb 59 [.int .i64 d.st, .int .i64 d.nx, .int .i64 d.sn, .slice va d.rs.length c] := ((h.below hb).obj).of_kept k3 (fun e => h.ne e rfl)
  refine ⟨hk4.setCell (.inl (.inl rfl)) 3 _, ⟨hW4.store 3 [.slice va' rs'.length c'] (by simp), k2.of_kept ((Kept.refl (fun q => q = pb) w4).setCell (.inl rfl) 3 _) (fun q hq e => hne q hq e)⟩, fun q hq => (k4 q hq).imp id (fun e => Nat.le_trans hb.size e)⟩
theorem app_left {w5 : World} {va' : Option Addr} {c' : Nat} {rs' : List Rc} {nx' : Int} (hk : Kept (mineP pb va) W w5) (hP : PtAt w5 pb d.st d.nx d.sn rs' va' c') (hq : ∀ q, ownB va' q → ownB va q ∨ W.heap.size ≤ q) :
    LeftP W pb va ⟨d.st, nx', d.sn, rs'⟩ (w5.setCell ⟨pb, 1, none⟩ (.int .i64 nx')) :=
  ⟨va', c', ⟨hP.obj.store 1 [.int .i64 nx'] (by simp), hP.row.of_kept ((Kept.refl (fun q => q = pb) w5).setCell (.inl rfl) 1 _) (fun q h e => hP.ne h e.symm)⟩, hk.setCell (.inl (.inl rfl)) 1 _, hq⟩
set_option maxRecDepth 100000 in
set_option maxHeartbeats 4000000 in
theorem pappend_any (h : PdAt W pb d va c) (vl : Option Addr) (cl : Nat) (l : List Rc) (hl : RcAt W vl l) (hll : l.length ≤ 1000) (hfar : l ≠ [] → ∀ q, ownB vl q → ¬ mineP pb va q) (hn : d.rs.length ≤ 99000) :
    Calls Try.prog 19 #[.pointer (some ⟨pb, 0, none⟩), .slice vl l.length cl] W fun e w' => e = .returned (.int .i64 (d.app l).1) ∧ LeftP W pb va (d.app l).2 w' := by
  obtain ⟨c0, c1, c2, c3⟩ := h.cells
  have hck := Lib.hid (pcheck_any vl cl l d.nx 1048577 W hl hll)
  unfold Pd.app
  by_cases hR : checkP d.nx 1048577 l = 0
  · rw [if_pos hR]
    rw [hR] at hck
    have hok : ∀ r ∈ l, r.ok := by
      apply all_may.1
      by_cases e : l.all Rc.may = true
      · exact e
      · unfold checkP at hR; rw [if_neg e] at hR; exact absurd hR (by decide)
    by_cases h0 : l = []
    · subst h0
      rw [lastN_nil, List.append_nil]
      have hno := Lib.hid (fun w' (hb : Below W.heap.size W w') => LeftP.of_below (d := d) h hb)
      clear h hl hfar hR hok
      go_enter Try.func19, Try.ntmps19
      go_wp2_with fail
      refine hck.out.mono ?_
      rintro _ w1 ⟨rfl, hb1⟩
      have hfin := Lib.hid (hno.out w1 hb1)
      clear hb1 hck
      go_wp2_with fail
      go_ret
      exact ⟨rfl, hfin.out⟩
    · have hpos : 0 < l.length := List.length_pos_iff.2 h0
      obtain ⟨r, hr⟩ : ∃ r, l[l.length - 1]? = some r := ⟨_, List.getElem?_eq_getElem (by omega)⟩
      rw [lastN_at hr h0]
      have hro := (hok r (List.mem_of_getElem? hr)).1
      have hown := fun V (hb : Below W.heap.size W V) => own_any vl cl l V (hl.below hb) hll (fun r hr => by
        obtain ⟨_, _, _, _, _, _, hk, hv, _⟩ := hok r hr
        exact ⟨by omega, by omega⟩)
      obtain ⟨x, hx⟩ : ∃ x, Hid (r.off = x) := ⟨_, Lib.hid rfl⟩
      rw [hx.out] at hro ⊢
      obtain ⟨M, hM⟩ : ∃ M, Hid (l.length = M) := ⟨_, Lib.hid rfl⟩
      have hrl : Hid (∀ V, RcAt V vl l → ∃ b o, vl = some ⟨b, o, none⟩ ∧ V.cell? ⟨b, o + (M - 1) * 8, none⟩ = some (.int .i64 x)) := Lib.hid (fun V hV => by
        obtain ⟨b, o, e, d0, _⟩ := hV.get hr
        exact ⟨b, o, e, by rw [← hx.out, ← hM.out]; exact d0⟩)
      have hne : Hid (l ≠ []) := Lib.hid h0
      rw [hM.out] at hck hown hpos hll ⊢
      have hpi : (0 : Int) < (M : Int) := by omega
      have hw1 : IntKind.i64.wrap ((M : Int) - 1) = (M : Int) - 1 := by rw [IntWalk.i64_in _ (by omega)]
      have hw2 : IntKind.i64.wrap (x + 1) = x + 1 := by rw [IntWalk.i64_in _ (by omega)]
      obtain ⟨N, hN⟩ : ∃ N, Hid (d.rs.length = N) := ⟨_, Lib.hid rfl⟩
      rw [hN.out] at c3
      replace h := Lib.hid h
      replace hl := Lib.hid hl
      replace hown := Lib.hid hown
      replace hfar := Lib.hid hfar
      clear hok h0 hr hR
      go_enter Try.func19, Try.ntmps19
      go_wp2_with fail
      refine hck.out.mono ?_
      rintro _ w1 ⟨rfl, hb1⟩
      have hP1 := h.out.below hb1
      have d3 : w1.cell? ⟨pb, 3, none⟩ = some (.slice va N c) := by rw [← hN.out]; exact hP1.cells.2.2.2
      have hoD := Lib.hid (hown.out w1.drew hb1.drew)
      have hD1 : Below w1.heap.size w1 w1.drew := (Below.refl _ _).drew
      have hP2 := Lib.hid (hP1.below hD1)
      replace hb1 := Lib.hid hb1
      clear hck c0 c1 c2 c3 hP1 hD1
      go_wp2_with fail
      have hgo : Hid (∀ (w3 : World) (A : Option Addr) (cc : Nat), RowO w3 A cc l → Below w1.drew.heap.size w1.drew w3 → (∀ q, ownB A q → w1.drew.heap.size ≤ q) →
          ∃ A0 va' c' w4, A = some A0 ∧ (Builtin.append_ #[27, 27] 27 #[.slice va N c, .slice (some A0) M cc]).run Try.prog w3 = .ok (.slice va' (N + M) c') w4 ∧ RowO w4 va' c' (d.rs ++ l) ∧ Kept (ownB va) w3 w4 ∧ (∀ q, ownB va' q → ownB va q ∨ w3.heap.size ≤ q) ∧
            w3.cell? ⟨pb, 3, none⟩ = some (.slice va N c) ∧ Whole w4 pb 59 [.int .i64 d.st, .int .i64 d.nx, .int .i64 d.sn, .slice va N c]) := Lib.hid (fun w3 A cc hro3 hb3 hq3 => by
        have hP3 := hP2.out.below hb3
        rcases A with _ | ⟨b, o, spot⟩
        · rcases hro3 with ⟨_, _, e⟩ | ⟨g, o, cur, e, _⟩
          · exact absurd e hne.out
          · cases e
        · have hat3 := hro3.at_
          obtain rfl : spot = none := by
            rcases hro3 with ⟨e, _⟩ | ⟨g, o, cur, e, _⟩
            · cases e
            · cases e; rfl
          obtain ⟨va', c', w4, k1, k2, k3, k4⟩ := run_row_append hP3.row (ns := l) (by rw [hN.out, hM.out]; have := hN.out; omega) ⟨b, o, none⟩ cc (rcAt_cells hat3) 27
          rw [hN.out, hM.out] at k1
          refine ⟨_, va', c', w4, rfl, k1, k2, k3, k4, by rw [← hN.out]; exact hP3.cells.2.2.2, ?_⟩
          rw [← hN.out]
          exact hP3.obj.of_kept k3 (fun e => hP3.ne e rfl))
      clear hown hne
      go_region_law (first
        | (refine step_append_by (by rfl) _ _ 27 (by rfl) (.slice va N c) (.slice (some A0) M cA) _ (by rfl) (by rfl) hap.out ?_)
        | (go_simp; go_at_call 39; (with_reducible refine hoD.out.mono ?_); rintro _ w3 ⟨A, cA, rfl, hro3, hq3, hb3⟩; obtain ⟨A0, va', c', w4, rfl, hap, k2, k3, k4, f3, hW4⟩ := hgo.out w3 A cA hro3 hb3 hq3; replace hap := Lib.hid hap; have e3 : w4.cell? ⟨pb, 3, none⟩ = some (.slice va N c) := hW4.cell 3; have z3 := hW4.frozen 3; replace hb3 := Lib.hid hb3; replace k2 := Lib.hid k2; replace k3 := Lib.hid k3; replace k4 := Lib.hid k4; replace hq3 := Lib.hid hq3; replace hro3 := Lib.hid hro3; replace hW4 := Lib.hid hW4))
      all_goals
        have hbb : Below W.heap.size W w3 := (hb1.out.drew).trans (hb3.out.mono hb1.out.size)
        have hNM : (d.rs ++ l).length = N + M := by rw [List.length_append, hN.out, hM.out]
        obtain ⟨m1, m2, m3⟩ := app_done h.out hbb k2.out k3.out k4.out
        rw [hNM] at m1 m2
        obtain ⟨w5, hw5⟩ : ∃ w5, Hid (w5 = w4.setCell ⟨pb, 3, none⟩ (.slice va' (N + M) c')) := ⟨_, Lib.hid rfl⟩
        rw [← show w5 = _ from hw5.out] at m1 m2 ⊢
        obtain ⟨b, o, rfl, q0⟩ := hrl.out w5 (hl.out.of_kept m1 hfar.out)
        have z1 := m2.obj.frozen 1
        have g1 : w5.cell? ⟨pb, 1, none⟩ = some (.int .i64 d.nx) := m2.obj.cell 1
        have hfin : Hid (LeftP W pb va ⟨d.st, x + 1, d.sn, d.rs ++ l⟩ (w5.setCell ⟨pb, 1, none⟩ (.int .i64 (x + 1)))) := Lib.hid (app_left m1 m2 m3)
        have hw3 : ((M : Int) - 1).toNat = M - 1 := by omega
        have hlt : (M : Int) - 1 < (M : Int) := by omega
        have hge : (0 : Int) ≤ (M : Int) - 1 := by omega
        clear hw5 m1 m2 m3 hNM hbb hap e3 z3 f3 k2 k3 k4 hW4 hro3 hq3 hb3 hgo hP2 hb1 hoD hrl d3
        go_wp2_with fail
        go_ret
        exact ⟨rfl, hfin.out⟩
  · rw [if_neg hR]
    have hno := Lib.hid (fun w' (hb : Below W.heap.size W w') => LeftP.of_below (d := d) h hb)
    obtain ⟨R, hRR⟩ : ∃ R, Hid (checkP d.nx 1048577 l = R) := ⟨_, Lib.hid rfl⟩
    rw [hRR.out] at hck hR ⊢
    have h1 : (R != 0) = true := by simp [hR]
    replace hR := Lib.hid hR
    clear h hl hfar
    go_enter Try.func19, Try.ntmps19
    go_wp2_with fail
    refine hck.out.mono ?_
    rintro _ w1 ⟨rfl, hb1⟩
    have hfin := Lib.hid (hno.out w1 hb1)
    clear hb1 hck
    go_wp2_with fail
    go_ret
    exact ⟨rfl, hfin.out⟩
end
end Go.Proofs.Ytahljbjgenepaaa.W
