/- Package part: Replace, Trim. -/
import Derived.Test.YtahljbjgenepaaaPtE
namespace Go.Proofs.Ytahljbjgenepaaa.W
open Go.RowKit Go.Sort
open Go.Proofs.Ytahljbjgenepaaa.M Go.Proofs.Ytahljbjgenepaaa.D Go.Proofs.Ytahljbjgenepaaa.Z
set_option linter.unusedVariables false
set_option linter.unusedSimpArgs false

theorem stopClearP {P : Program} {w : World} {ops : Array Oper} {rest : List Oper} {o : Oper} {a : Go.Act} {Q : Exit → Go.Act → World → Prop} (x : Operand) (t : TypeId)
    (ho : o.op = .call { callee := .builtin .clear, args := #[x], argTypes := #[t] }) (h : Hid (wpList P ops Q (o :: rest) a w)) : wpList P ops Q (o :: rest) a w := h
/-- clear(s) of some records. -/
theorem wpList_clear_recs {w : World} {ops : Array Oper} {rest : List Oper} {o : Oper} {a : Go.Act} {Q : Exit → Go.Act → World → Prop} (hgd : o.guard = none) (x : Operand)
    (ho : o.op = .call { callee := .builtin .clear, args := #[x], argTypes := #[27] }) (k off n c : Nat) (hx : a.eval x = .slice (some ⟨k, off, none⟩) n c) (hn : 0 < n) (t : TypeId) (cur : List Value) (hW : Whole w k t cur) (hl : off + n * 8 ≤ cur.length)
    (h : ∀ zs : List Value, zs.length = n * 8 → Whole (w.setCells k off zs) k t (splice cur off zs) → wpList Try.prog ops Q rest (a.put o.dst (.tuple #[])) (w.setCells k off zs)) :
    wpList Try.prog ops Q (o :: rest) a w := by
  refine wpList_plain hgd fun K hK => ?_
  obtain ⟨i0, hi0, hz0, hz1, hz2⟩ := info_parts infoRp
  obtain ⟨z, hz, hzs, hzo⟩ : ∃ z, i0.zero = some z ∧ z.cells.size = 8 ∧ ∀ v ∈ z.cells.toList, v.oneCell' = true := ⟨_, hz0, by simp [Value.cells], fun v hv => by
    simp only [Value.cells, List.mem_cons, List.not_mem_nil, or_false] at hv
    rcases hv with rfl | rfl | rfl | rfl | rfl | rfl | rfl | rfl <;> rfl⟩
  clear hz0
  have hzv : (zeroValue 40).run Try.prog w = .ok z w := by simp [zeroValue, typeInfo, hi0, hz]
  have hzl : (Builtin.zeroCells z.cells n).toList.length = n * 8 := by simp [size_zeroCells, hzs]
  have hth := hW.there off (n * 8) hl
  have hst := run_storeCells_cells (P := Try.prog) k off (Builtin.zeroCells z.cells n).toList 0 w (fun j hj => by rw [hzl] at hj; simpa using (hth j hj).1) (fun j hj => by rw [hzl] at hj; simpa using (hth j hj).2) (fun v hv => by
    simp only [Builtin.zeroCells, Array.toList_map, List.mem_map] at hv
    obtain ⟨j, -, rfl⟩ := hv
    have hlt : j % z.cells.size < z.cells.size := Nat.mod_lt _ (by rw [hzs]; decide)
    rw [getElem!_pos z.cells _ hlt]
    exact hzo _ (by simp))
  obtain ⟨L, hL⟩ : ∃ L, (Builtin.zeroCells z.cells n).toList = L := ⟨_, rfl⟩
  rw [hL] at hzl hst
  rw [Nat.add_zero] at hst
  obtain ⟨m, rfl⟩ : ∃ m, n = m + 1 := ⟨n - 1, by omega⟩
  have hcl : (Builtin.clear_ #[27] o.type #[.slice (some ⟨k, off, none⟩) (m + 1) c]).run Try.prog w = .ok (.tuple #[]) (w.setCells k off L) := by
    simp [Builtin.clear_, run_underlying Try.underlying27, hzv, hL, hst]
  unfold Oper.wp
  simp [execOp, ho, resolve, invoke, builtin, hx, hcl, Result.andThen]
  exact hK _ _ (h _ hzl (hW.store off _ (by rw [hzl]; exact hl)))
theorem wpList_clear_zero {w : World} {ops : Array Oper} {rest : List Oper} {o : Oper} {a : Go.Act} {Q : Exit → Go.Act → World → Prop} (hgd : o.guard = none) (x : Operand)
    (ho : o.op = .call { callee := .builtin .clear, args := #[x], argTypes := #[27] }) (A : Option Addr) (c : Nat) (hx : a.eval x = .slice A 0 c)
    (h : wpList Try.prog ops Q rest (a.put o.dst (.tuple #[])) w) : wpList Try.prog ops Q (o :: rest) a w := by
  refine wpList_plain hgd fun K hK => ?_
  obtain ⟨i0, hi0, hz0, hz1, hz2⟩ := info_parts infoRp
  have hzv : ∃ z, (zeroValue 40).run Try.prog w = .ok z w := ⟨_, by simp [zeroValue, typeInfo, hi0, hz0]; rfl⟩
  obtain ⟨z, hzv⟩ := hzv
  have hcl : (Builtin.clear_ #[27] o.type #[.slice A 0 c]).run Try.prog w = .ok (.tuple #[]) w := by
    cases A <;> simp [Builtin.clear_, run_underlying Try.underlying27, hzv, Builtin.zeroCells, storeCells]
  unfold Oper.wp
  simp [execOp, ho, resolve, invoke, builtin, hx, hcl, Result.andThen]
  exact hK _ _ h
section
variable {W : World} {pb : Nat} {d : Pd} {va : Option Addr} {c : Nat}
set_option maxRecDepth 100000 in
set_option maxHeartbeats 4000000 in
theorem preplace_any (h : PdAt W pb d va c) (vl : Option Addr) (cl : Nat) (l : List Rc) (hl : RcAt W vl l) (hll : l.length ≤ 1000) :
    Calls Try.prog 21 #[.pointer (some ⟨pb, 0, none⟩), .slice vl l.length cl] W fun e w' => e = .returned (.int .i64 (d.repl l).1) ∧ LeftP W pb va (d.repl l).2 w' := by
  obtain ⟨c0, c1, c2, c3⟩ := h.cells
  have hD : Below W.heap.size W W.drew := (Below.refl _ _).drew
  have hck := Lib.hid (pcheck_any vl cl l d.st d.nx W.drew (hl.below hD) hll)
  unfold Pd.repl
  by_cases hR : checkP d.st d.nx l = 0
  · rw [if_pos hR]
    rw [hR] at hck
    have hok : ∀ r ∈ l, r.ok := by
      apply all_may.1
      by_cases e : l.all Rc.may = true
      · exact e
      · unfold checkP at hR; rw [if_neg e] at hR; exact absurd hR (by decide)
    have hown := fun V (hb : Below W.heap.size W V) => own_any vl cl l V (hl.below hb) hll (fun r hr => by
      obtain ⟨_, _, _, _, _, _, hk, hv, _⟩ := hok r hr
      exact ⟨by omega, by omega⟩)
    obtain ⟨M, hM⟩ : ∃ M, Hid (l.length = M) := ⟨_, Lib.hid rfl⟩
    rw [hM.out] at hck hown hll ⊢
    replace hown := Lib.hid hown
    replace h := Lib.hid h
    replace hl := Lib.hid hl
    clear hok hR
    go_enter Try.func21, Try.ntmps21
    go_wp2_with fail
    go_region_held3 (fun w' => w'.cell? ⟨pb, 0, none⟩ = some (.int .i64 d.st) ∧ w'.cell? ⟨pb, 1, none⟩ = some (.int .i64 d.nx)) (first | assumption | (go_keep)) (first
      | (go_at_call 38; (with_reducible refine hck.out.mono ?_); rintro _ w1 ⟨rfl, hb1⟩; have hB1 := Lib.hid (grew hD hb1); have e0 := keepZ hB1.out c0; have e1 := keepZ hB1.out c1; replace hb1 := Lib.hid hb1))
    have ho1 := Lib.hid (hown.out w1 hB1.out)
    clear hown hck
    go_wp2_with fail
    refine ho1.out.mono ?_
    rintro _ w2 ⟨A, cA, rfl, hro, hq, hb2⟩
    have hB2 := grew hB1.out hb2
    have hP2 := h.out.below hB2
    have z3 := hP2.obj.frozen 3
    have g3 : w2.cell? ⟨pb, 3, none⟩ = some (.slice va d.rs.length c) := hP2.cells.2.2.2
    have hW0 : w1.heap.size ≥ W.heap.size := hB1.out.size
    have hne : ∀ q, ownB A q → q ≠ pb := fun q h1 e => by have := hq q h1; have := h.out.obj.lt; omega
    have hfin : Hid (LeftP W pb va ⟨d.st, d.nx, d.sn, l⟩ (w2.setCell ⟨pb, 3, none⟩ (.slice A M cA))) := Lib.hid ⟨A, cA, ⟨by rw [← hM.out]; exact hP2.obj.store 3 [.slice A l.length cA] (by simp), by rw [← hM.out]; exact hro.of_kept ((Kept.refl (fun q => q = pb) w2).setCell (.inl rfl) 3 _) (fun q h1 e => hne q h1 e)⟩, (Kept.of_below hB2).setCell (.inl (.inl rfl)) 3 _, fun q h1 => .inr (Nat.le_trans hW0 (hq q h1))⟩
    clear hro hq hB2 hP2 hb2 hne ho1
    go_wp2_with fail
    go_ret
    exact ⟨rfl, hfin.out⟩
  · rw [if_neg hR]
    have hno := Lib.hid (fun w' (hb : Below W.heap.size W w') => LeftP.of_below (d := d) h hb)
    obtain ⟨R, hRR⟩ : ∃ R, Hid (checkP d.st d.nx l = R) := ⟨_, Lib.hid rfl⟩
    rw [hRR.out] at hck hR ⊢
    have h1 : (R != 0) = true := by simp [hR]
    replace hR := Lib.hid hR
    clear h hl
    go_enter Try.func21, Try.ntmps21
    go_wp2_with fail
    go_region_held3 (fun w' => w'.cell? ⟨pb, 0, none⟩ = some (.int .i64 d.st) ∧ w'.cell? ⟨pb, 1, none⟩ = some (.int .i64 d.nx)) (first | assumption | (go_keep)) (first
      | (go_at_call 38; (with_reducible refine hck.out.mono ?_); rintro _ w1 ⟨rfl, hb1⟩; have hB1 := Lib.hid (grew hD hb1); have e0 := keepZ hB1.out c0; have e1 := keepZ hB1.out c1; replace hb1 := Lib.hid hb1))
    have hfin := Lib.hid (hno.out w1 hB1.out)
    clear hck
    go_wp2_with fail
    go_ret
    exact ⟨rfl, hfin.out⟩

/-- A row whose first ones go. -/
theorem row_trim {W : World} {g o c k : Nat} {cur zs : List Value} {rs : List Rc} (hW : Whole W g 40 cur) (h1 : o + c * 8 ≤ cur.length) (h2 : rs.length ≤ c) (h3 : c ≤ maxLen) (h4 : (cur.drop o).take (rs.length * 8) = rcRows rs) (hk : k ≤ rs.length) (hz : zs.length = k * 8) (o' : Nat) (ho : o' = o + k * 8 ∨ (k = c ∧ o' = o)) :
    RowO (W.setCells g o zs) (some ⟨g, o', none⟩) (c - k) (rs.drop k) := by
  refine .inr ⟨g, o', _, rfl, hW.store o zs (by omega), ?_, by rw [List.length_drop]; omega, by omega, ?_⟩
  · have : (splice cur o zs).length = cur.length := by
      unfold splice
      rw [List.length_append, List.length_append, List.length_take, List.length_drop]; omega
    rcases ho with rfl | ⟨rfl, rfl⟩ <;> omega
  · rcases ho with rfl | ⟨rfl, rfl⟩
    · have e1 : (splice cur o zs).drop (o + k * 8) = (cur.drop o).drop (k * 8) := by
        unfold splice
        rw [← List.append_assoc, List.drop_append_of_le_length (by rw [List.length_append, List.length_take]; omega), List.drop_eq_nil_of_le (by rw [List.length_append, List.length_take]; omega), List.nil_append, List.drop_drop, hz]
      rw [e1, List.length_drop, ← rcRows_drop, ← h4, List.drop_take]
      congr 1
      omega
    · have e : rs.drop k = [] := List.drop_eq_nil_of_le (by omega)
      rw [e]
      simp [rcRows]
set_option maxRecDepth 100000 in
set_option maxHeartbeats 4000000 in
theorem ptrim_any (h : PdAt W pb d va c) (n : Int) (hn : d.rs.length ≤ 99000) (hr : risL d.rs) :
    Calls Try.prog 20 #[.pointer (some ⟨pb, 0, none⟩), .int .i64 n] W fun e w' => e = .returned (.int .i64 (d.trim n).1) ∧ LeftP W pb va (d.trim n).2 w' := by
  obtain ⟨c0, c1, c2, c3⟩ := h.cells
  have hbl := Lib.hid (pbelow_any n W h (by omega) hr)
  unfold Pd.trim
  by_cases h1 : n < d.st ∨ d.nx < n
  · rw [if_pos h1]
    have hno := Lib.hid (LeftP.of_below h (Below.refl _ _))
    clear h hbl
    rcases (show n < d.st ∨ (d.st ≤ n ∧ d.nx < n) by omega) with k1 | ⟨k1, k2⟩
    all_goals
      clear h1
      go_enter Try.func20, Try.ntmps20
      go_wp2_with fail
      go_ret
      exact ⟨rfl, hno.out⟩
  · rw [if_neg h1]
    have k1 : d.st ≤ n := by omega
    have k2 : n ≤ d.nx := by omega
    have hkl := cutN_le n d.rs
    obtain ⟨K, hK⟩ : ∃ K, Hid (cutN n d.rs = K) := ⟨_, Lib.hid rfl⟩
    rw [hK.out] at hbl hkl ⊢
    have hcap := h.row.cap
    have hfin : Hid (∀ (w1 : World) (W2 : World) (A' : Option Addr), Below W.heap.size W w1 → Kept (ownB va) w1 W2 → RowO W2 A' (c - K) (d.rs.drop K) → (∀ q, ownB A' q → ownB va q) →
        Whole W2 pb 59 [.int .i64 d.st, .int .i64 d.nx, .int .i64 d.sn, .slice va d.rs.length c] ∧
        Whole (W2.setCell ⟨pb, 3, none⟩ (.slice A' (d.rs.length - K) (c - K))) pb 59 [.int .i64 d.st, .int .i64 d.nx, .int .i64 d.sn, .slice A' (d.rs.length - K) (c - K)] ∧
        LeftP W pb va ⟨n, d.nx, max d.sn n, d.rs.drop K⟩ (((W2.setCell ⟨pb, 3, none⟩ (.slice A' (d.rs.length - K) (c - K))).setCell ⟨pb, 0, none⟩ (.int .i64 n)).setCell ⟨pb, 2, none⟩ (.int .i64 (max d.sn n)))) := Lib.hid (fun w1 W2 A' hb hk hro hq => by
      have hP2 : Whole W2 pb 59 [.int .i64 d.st, .int .i64 d.nx, .int .i64 d.sn, .slice va d.rs.length c] := ((h.below hb).obj).of_kept hk (fun e => h.ne e rfl)
      have hP3 : Whole (W2.setCell ⟨pb, 3, none⟩ (.slice A' (d.rs.length - K) (c - K))) pb 59 [.int .i64 d.st, .int .i64 d.nx, .int .i64 d.sn, .slice A' (d.rs.length - K) (c - K)] := hP2.store 3 [.slice A' (d.rs.length - K) (c - K)] (by simp)
      have hP4 : Whole ((W2.setCell ⟨pb, 3, none⟩ (.slice A' (d.rs.length - K) (c - K))).setCell ⟨pb, 0, none⟩ (.int .i64 n)) pb 59 [.int .i64 n, .int .i64 d.nx, .int .i64 d.sn, .slice A' (d.rs.length - K) (c - K)] := hP3.store 0 [.int .i64 n] (by simp)
      have hP5 : Whole (((W2.setCell ⟨pb, 3, none⟩ (.slice A' (d.rs.length - K) (c - K))).setCell ⟨pb, 0, none⟩ (.int .i64 n)).setCell ⟨pb, 2, none⟩ (.int .i64 (max d.sn n))) pb 59 [.int .i64 n, .int .i64 d.nx, .int .i64 (max d.sn n), .slice A' (d.rs.length - K) (c - K)] := hP4.store 2 [.int .i64 (max d.sn n)] (by simp)
      have hkk : Kept (mineP pb va) W W2 := (Kept.of_below hb).trans (hk.mono (own' := mineP pb va) (fun q _ e => .inr e))
      have hkp : Kept (fun q => q = pb) W2 (((W2.setCell ⟨pb, 3, none⟩ (.slice A' (d.rs.length - K) (c - K))).setCell ⟨pb, 0, none⟩ (.int .i64 n)).setCell ⟨pb, 2, none⟩ (.int .i64 (max d.sn n))) := (((Kept.refl (fun q => q = pb) W2).setCell (.inl rfl) 3 _).setCell (.inl rfl) 0 _).setCell (.inl rfl) 2 _
      refine ⟨hP2, hP3, A', c - K, ⟨?_, hro.of_kept hkp (fun q h1 e => h.ne (hq q h1) e.symm)⟩, hkk.trans (hkp.mono (own' := mineP pb va) (fun q _ e => .inl e)), fun q h1 => .inl (hq q h1)⟩
      show Whole _ pb _ [.int .i64 n, .int .i64 d.nx, .int .i64 (max d.sn n), .slice A' (d.rs.drop K).length (c - K)]
      rw [List.length_drop]
      exact hP5)
    have hmx : ∀ w : World, (Builtin.max_ #[3, 3] 3 #[.int .i64 d.sn, .int .i64 n]).run Try.prog w = .ok (.int .i64 (max d.sn n)) w := fun w => by
      have := run_max_int2 (P := Try.prog) (w := w) #[3, 3] 3 .i64 .i64 d.sn n
      rwa [show (if n > d.sn then n else d.sn) = max d.sn n by split <;> omega] at this
    obtain ⟨mx, hmxx⟩ : ∃ x, Hid (max d.sn n = x) := ⟨_, Lib.hid rfl⟩
    rw [hmxx.out] at hmx hfin ⊢
    have hrow := Lib.hid h.row
    obtain ⟨N, hN⟩ : ∃ N, Hid (d.rs.length = N) := ⟨_, Lib.hid rfl⟩
    rw [hN.out] at c3 hkl hcap hn hfin
    have hlt := h.obj.lt
    clear h h1
    go_enter Try.func20, Try.ntmps20
    go_wp2_with fail
    refine hbl.out.mono ?_
    rintro _ w1 ⟨rfl, hb1⟩
    have e0 := keepZ hb1 c0
    have e1 := keepZ hb1 c1
    have e2 := keepZ hb1 c2
    have e3 := keepZ hb1 c3
    have hro1 := hrow.out.below hb1
    replace hb1 := Lib.hid hb1
    clear hbl c0 c1 c2 c3
    have hKc : (K : Int) ≤ (c : Int) := by omega
    have hKN : (K : Int) ≤ (N : Int) := by omega
    have hNc : (N : Int) ≤ (c : Int) := by omega
    rcases hro1 with ⟨rfl, rfl, hrs⟩ | ⟨g, o, cur, rfl, hW, m1, m2, m3, m4⟩
    · obtain rfl : K = 0 := by omega
      obtain rfl : N = 0 := by omega
      obtain ⟨f1, f2, f3⟩ := hfin.out w1 w1 none hb1.out (Kept.refl _ _) (by rw [hrs]; exact .inl ⟨rfl, rfl, rfl⟩) (fun q hq => hq)
      have z0 := f2.frozen 0
      have z2 := f2.frozen 2
      have z3 := f1.frozen 3
      have p2 : (w1.setCell ⟨pb, 3, none⟩ (.slice none (0 - 0) (0 - 0))).cell? ⟨pb, 2, none⟩ = some (.int .i64 d.sn) := f2.cell 2
      simp only [Nat.sub_self] at f2 f3 z0 z2 p2
      replace f3 := Lib.hid f3
      clear f1 f2
      go_wp2_with (with_reducible refine stopClearP _ _ rfl ?_)
      refine Lib.hid ?_
      refine wpList_clear_zero rfl _ rfl none 0 rfl ?_
      go_wp2_with fail
      go_ret
      exact ⟨rfl, f3.out⟩
    · rw [hN.out] at m2 m4
      by_cases hK0 : K = 0
      · subst hK0
        obtain ⟨f1, f2, f3⟩ := hfin.out w1 w1 (some ⟨g, o, none⟩) hb1.out (Kept.refl _ _) (by
          have := row_trim (k := 0) (zs := []) (rs := d.rs) hW m1 (by rw [hN.out]; exact m2) m3 (by rw [hN.out]; exact m4) (Nat.zero_le _) rfl o (.inl (by omega))
          simpa [World.setCells] using this) (fun q hq => hq)
        have z0 := f2.frozen 0
        have z2 := f2.frozen 2
        have z3 := f1.frozen 3
        have p2 : (w1.setCell ⟨pb, 3, none⟩ (.slice (some ⟨g, o, none⟩) (N - 0) (c - 0))).cell? ⟨pb, 2, none⟩ = some (.int .i64 d.sn) := f2.cell 2
        simp only [Nat.sub_zero] at f2 f3 z0 z2 p2
        replace f3 := Lib.hid f3
        clear f1 f2 hW
        go_wp2_with (with_reducible refine stopClearP _ _ rfl ?_)
        refine Lib.hid ?_
        refine wpList_clear_zero rfl _ rfl _ c rfl ?_
        go_wp2_with fail
        go_ret
        exact ⟨rfl, f3.out⟩
      · have hKp : 0 < K := by omega
        have hwp : IntKind.i64.wrap ((N : Int) - (K : Int)) = ((N - K : Nat) : Int) := by rw [IntWalk.i64_in _ (by unfold maxLen at *; omega)]; omega
        go_wp2_with (with_reducible refine stopClearP _ _ rfl ?_)
        refine Lib.hid ?_
        refine wpList_clear_recs rfl _ rfl g o K c rfl hKp 40 cur hW (by omega) ?_
        intro zs hzs hWz
        obtain ⟨W2, hW2⟩ : ∃ W2, Hid (W2 = w1.setCells g o zs) := ⟨_, Lib.hid rfl⟩
        have hk2 : Kept (ownB (some ⟨g, o, none⟩)) w1 W2 := by rw [hW2.out]; exact (Kept.refl _ w1).setCells (.inl ⟨o, rfl⟩) _ _
        have hro2 : ∀ o', (o' = o + K * 8 ∨ (K = c ∧ o' = o)) → RowO W2 (some ⟨g, o', none⟩) (c - K) (d.rs.drop K) := fun o' ho => by
          rw [hW2.out]; exact row_trim hW m1 (by rw [hN.out]; exact m2) m3 (by rw [hN.out]; exact m4) (by rw [hN.out]; exact hkl) hzs o' ho
        rw [← show W2 = _ from hW2.out]
        clear hW2 hWz hW e0 e1 e2 e3
        by_cases hc : K = c
        · obtain ⟨f1, f2, f3⟩ := hfin.out w1 W2 (some ⟨g, o, none⟩) hb1.out hk2 (hro2 o (.inr ⟨hc, rfl⟩)) (fun q ⟨o2, e⟩ => by cases e; exact ⟨o, rfl⟩)
          obtain rfl : K = N := by omega
          have z0 := f2.frozen 0
          have z2 := f2.frozen 2
          have z3 := f1.frozen 3
          have p2 : (W2.setCell ⟨pb, 3, none⟩ (.slice (some ⟨g, o, none⟩) (K - K) (c - K))).cell? ⟨pb, 2, none⟩ = some (.int .i64 d.sn) := f2.cell 2
          have p0 : W2.cell? ⟨pb, 0, none⟩ = some (.int .i64 d.st) := f1.cell 0
          have p22 : W2.cell? ⟨pb, 2, none⟩ = some (.int .i64 d.sn) := f1.cell 2
          have p3 : W2.cell? ⟨pb, 3, none⟩ = some (.slice (some ⟨g, o, none⟩) K c) := f1.cell 3
          subst hc
          simp only [Nat.sub_self] at f3 z0 z2 p2
          replace f3 := Lib.hid f3
          clear f1 f2 hro2 hk2 hwp
          go_wp2_with fail
          go_ret
          exact ⟨rfl, f3.out⟩
        · obtain ⟨f1, f2, f3⟩ := hfin.out w1 W2 (some ⟨g, o + K * 8, none⟩) hb1.out hk2 (hro2 (o + K * 8) (.inl rfl)) (fun q ⟨o2, e⟩ => by cases e; exact ⟨o, rfl⟩)
          have z0 := f2.frozen 0
          have z2 := f2.frozen 2
          have z3 := f1.frozen 3
          have p2 : (W2.setCell ⟨pb, 3, none⟩ (.slice (some ⟨g, o + K * 8, none⟩) (N - K) (c - K))).cell? ⟨pb, 2, none⟩ = some (.int .i64 d.sn) := f2.cell 2
          have p0 : W2.cell? ⟨pb, 0, none⟩ = some (.int .i64 d.st) := f1.cell 0
          have p22 : W2.cell? ⟨pb, 2, none⟩ = some (.int .i64 d.sn) := f1.cell 2
          have p3 : W2.cell? ⟨pb, 3, none⟩ = some (.slice (some ⟨g, o, none⟩) N c) := f1.cell 3
          have hc1 : K < c := by omega
          have hc2 : ¬ c = K := by omega
          replace f3 := Lib.hid f3
          clear f1 f2 hro2 hk2
          go_wp2_with fail
          go_ret
          exact ⟨rfl, f3.out⟩
end
end Go.Proofs.Ytahljbjgenepaaa.W
