/- Keeps and falls that come in, opened. The law's segment together with the frames that the law keeps of it. -/
import Derived.Test.YtlgoepbfdldgnaaDoorFallW
section
namespace Go.Proofs.YtlgoepbfdldgnaaDoor.W
open Go.ChangeShapes Go.WideShapes Go.ChangeAt Go.RowKit
open Go.Proofs.YtlgoepbfdldgnaaDoor.M Go.Proofs.YtlgoepbfdldgnaaDoor.D
set_option linter.unusedVariables false

theorem cellsKeep13 : Tryd.prog.cellsOf 182 = 2 := by kernel_rfl
theorem cellsInt13 : Tryd.prog.cellsOf 3 = 1 := by kernel_rfl
theorem cellsKs13 : Tryd.prog.cellsOf 69 = 1 := by kernel_rfl
theorem cellsFall13 : Tryd.prog.cellsOf 71 = 3 := by kernel_rfl
section
variable {H : Type} {enc : TypeId × Value → H} {w : World} {base : Nat} {held : Bool}
set_option maxRecDepth 100000 in
theorem open_keeps13 {fuel : Nat} {kv : Value} {x : DataW H × List MemPlace} (h : DataW.trod enc Tryd.prog w base (fun _ => true) held fuel 69 [kv] = some x) : ∃ kl, Keeps w kv kl := by
  rcases Deep.open_slice Tryd.underlying69 h with ⟨hcs, _⟩ | ⟨a, len, cap, m, n, D, Pl, hcs, _, hl, hm, hmm, _, hi⟩
  · have hkv : kv = .slice none 0 0 := by simpa using hcs
    exact ⟨[], ⟨none, 0, hkv, by decide, by decide, fun j q hq => by simp at hq⟩⟩
  · have hkv : kv = .slice (some a) len cap := by simpa using hcs
    have hq : ∀ i, ∃ q : Int × Int, i < len → w.cell? (a.add (i * 2)) = some (.int .i64 q.1) ∧ w.cell? (a.add (i * 2 + 1)) = some (.int .i64 q.2) := fun i => by
      by_cases hlt : i < len
      · obtain ⟨cs', hc, ht'⟩ := hi i (by rw [hmm]; simp; omega)
        rw [cellsKeep13] at hc
        obtain ⟨_, hcl, hat⟩ := World.cells?_some hc
        obtain ⟨y0, y1, n', _, _, h0, h1⟩ := trod_struct2 Tryd.underlying182 ht'
        match cs', hcl with
        | [c0, c1], _ =>
          have g0 : DataW.trod enc Tryd.prog w base (fun _ => true) held n' 3 [c0] = some y0 := by rw [cellsInt13] at h0; exact h0
          have g1 : DataW.trod enc Tryd.prog w base (fun _ => true) held n' 3 [c1] = some y1 := by rw [cellsInt13] at h1; exact h1
          obtain ⟨x0, e0, _, _⟩ := DataW.trod_int Tryd.underlying3 g0
          obtain ⟨x1, e1, _, _⟩ := DataW.trod_int Tryd.underlying3 g1
          simp only [List.cons.injEq, and_true] at e0 e1
          have a0 := hat 0 (by omega)
          have a1 := hat 1 (by omega)
          rw [Deep.add_add] at a0 a1
          exact ⟨(x0, x1), fun _ => ⟨by rw [Nat.add_zero] at a0; rw [a0, e0]; rfl, by rw [a1, e1]; rfl⟩⟩
      · exact ⟨(0, 0), fun h => absurd h hlt⟩
    refine ⟨(List.range len).map fun i => Classical.choose (hq i), ⟨some a, cap, by simpa using hkv, by simpa using hl, hm, fun j q hjq => ?_⟩⟩
    have hj : j < len := by
      have := (List.getElem?_eq_some_iff.1 hjq).1
      simpa using this
    have hs := Classical.choose_spec (hq j) hj
    rw [List.getElem?_map, List.getElem?_range hj] at hjq
    have e : Classical.choose (hq j) = q := by simpa using hjq
    rw [e] at hs
    obtain ⟨u0, h00⟩ : ∃ u, w.cell? (a.add 0) = some u := ⟨_, (Classical.choose_spec (hq 0) (by omega)).1⟩
    obtain ⟨b, o, rfl, c0⟩ := spotF h00 hs.1
    obtain ⟨b', o', e', c1⟩ := spotF h00 hs.2
    cases e'
    exact ⟨b, o, rfl, World.block_lt_of_cell? w _ c0, c0, c1⟩
set_option maxRecDepth 100000 in
theorem open_fall13 {b0 : Nat} {v : Value} {d : DataW H} {p : List MemPlace} (hval : Value.okWide Tryd.prog w .any b0 71 v) (h : DataW.Trod enc Tryd.prog w base (fun _ => true) held 71 v d p) :
    ∃ q1 q2 kv kl, v = .agg #[.int .i64 q1, .int .i64 q2, kv] ∧ (Lit.int .i64 q1).wf = true ∧ (Lit.int .i64 q2).wf = true ∧ Keeps w kv kl := by
  obtain ⟨cs, rfl, hsz⟩ := okWide_struct Tryd.underlying71 hval
  obtain ⟨l⟩ := cs
  rw [cellsFall13] at hsz
  match l, hsz with
  | [c0, c1, c2], _ =>
    obtain ⟨fuel, hf⟩ := h
    obtain ⟨xs, n, _, _, _, hlen, hg⟩ := DataW.trod_struct Tryd.underlying71 hf
    match xs, hlen with
    | [y0, y1, y2], _ =>
      have h0 : DataW.trod enc Tryd.prog w base (fun _ => true) held n 3 ((([c0, c1, c2] : List Value).drop 0).take (Tryd.prog.cellsOf 3)) = some y0 := hg 0 _ rfl
      have h1 : DataW.trod enc Tryd.prog w base (fun _ => true) held n 3 ((([c0, c1, c2] : List Value).drop 1).take (Tryd.prog.cellsOf 3)) = some y1 := hg 1 _ rfl
      have h2 : DataW.trod enc Tryd.prog w base (fun _ => true) held n 69 ((([c0, c1, c2] : List Value).drop 2).take (Tryd.prog.cellsOf 69)) = some y2 := hg 2 _ rfl
      rw [cellsInt13] at h0 h1
      rw [cellsKs13] at h2
      obtain ⟨x0, e0, _, w0⟩ := DataW.trod_int Tryd.underlying3 (show DataW.trod enc Tryd.prog w base (fun _ => true) held n 3 [c0] = some y0 from h0)
      obtain ⟨x1, e1, _, w1⟩ := DataW.trod_int Tryd.underlying3 (show DataW.trod enc Tryd.prog w base (fun _ => true) held n 3 [c1] = some y1 from h1)
      obtain ⟨kl, hk⟩ := open_keeps13 (show DataW.trod enc Tryd.prog w base (fun _ => true) held n 69 [c2] = some y2 from h2)
      simp only [List.cons.injEq, and_true] at e0 e1
      subst e0 e1
      exact ⟨x0, x1, c2, kl, rfl, w0, w1, hk⟩
end
end Go.Proofs.YtlgoepbfdldgnaaDoor.W
end
section
namespace Go.Proofs.YtlgoepbfdldgnaaDoor.W
open Go.RowKit
open Go.Proofs.YtlgoepbfdldgnaaDoor.M Go.Proofs.YtlgoepbfdldgnaaDoor.D Go.Proofs.YtlgoepbfdldgnaaDoor.Z
set_option linter.unusedVariables false

/-- The law's row of frames. -/
abbrev RowF (W : World) (B : Nat) (va : Option Addr) (c : Nat) (Dv : List (Int × ByteArray)) : Prop := W.ownsRow B 45 2 (.slice va Dv.length c) Dv.length (frRows Dv)
/-- The law's segment, and what the law keeps of it: frames that lie in a row, those that were tried, and a frame in a box. -/
def FallL (stage : Nat) (w0 : World) (vb d g' sb a g s b B : Nat) (va : Option Addr) (dc : Nat) (Dv D : List (Int × ByteArray)) (sure : Nat) (bx : Option (Nat × List Value)) (W : World) : Prop :=
  ∃ fsS fs fuse gone fa t, FallB t w0 vb d g' sb a g s b fsS fs fuse gone fa W ∧ w0.heap.size ≤ B ∧ RowF W B va dc Dv ∧ (∀ q, (Value.slice va Dv.length dc).ownBlock = some q → ¬ ofS sb fa q) ∧ D.take fs.length = fs ∧ (gone = false → D = fs) ∧ sure = fsS.length ∧
    (stage = 0 → fuse < 0 ∧ t = 100) ∧ (stage < 2 → gone = false) ∧ t ≤ 101 ∧ (∀ q cs, bx = some (q, cs) → Whole W q 45 cs ∧ ¬ ofS sb fa q)
theorem RowF.below {W W' : World} {B : Nat} {va : Option Addr} {c : Nat} {Dv : List (Int × ByteArray)} (h : RowF W B va c Dv) (hb : Below W.heap.size W W') : RowF W' B va c Dv := own_of_kept h (Kept.of_below (own := fun q => W.heap.size ≤ q) hb) (fun k hk e => by
  have := h.2
  rcases this with ⟨h0, _⟩ | ⟨q, cap, cur, e2, hq, hg, _⟩
  · rw [h0] at hk; cases hk
  · rw [e2] at hk
    have e3 : q = k := by simpa [Value.ownBlock] using hk
    have hW : Whole W q 45 cur.toList := by simpa [Whole] using hg
    have := hW.lt
    omega)
theorem RowF.kept {W W' : World} {B : Nat} {va fa : Option Addr} {c sb : Nat} {Dv : List (Int × ByteArray)} (h : RowF W B va c Dv) (hk : RowK sb fa W W') (hq : ∀ q, (Value.slice va Dv.length c).ownBlock = some q → ¬ ofS sb fa q) : RowF W' B va c Dv := hk.own h hq
theorem RowF.own_lt {W : World} {B : Nat} {va : Option Addr} {c : Nat} {Dv : List (Int × ByteArray)} (h : RowF W B va c Dv) : ∀ q, (Value.slice va Dv.length c).ownBlock = some q → q < W.heap.size := by
  intro q hq
  rcases h.2 with ⟨h0, _⟩ | ⟨q', cap, cur, e2, _, hg, _⟩
  · rw [h0] at hq; cases hq
  · rw [e2] at hq
    have e3 : q' = q := by simpa [Value.ownBlock] using hq
    have hW : Whole W q' 45 cur.toList := by simpa [Whole] using hg
    have := hW.lt
    omega
theorem FallB.rows {t : Nat} {w0 W : World} {vb d g' sb a g s b : Nat} {fsS fs : List (Int × ByteArray)} {fuse : Int} {gone : Bool} {fa : Option Addr} {W' : World} {B : Nat} {va : Option Addr} {dc : Nat} {Dv : List (Int × ByteArray)} (h : FallB t w0 vb d g' sb a g s b fsS fs fuse gone fa W) (ho : RowF W B va dc Dv) (hB : w0.heap.size ≤ B) (hn : ∀ q, (Value.slice va Dv.length dc).ownBlock = some q → ¬ ofS sb fa q) (hk : Kept (fun q => (Value.slice va Dv.length dc).ownBlock = some q) W W') : FallB t w0 vb d g' sb a g s b fsS fs fuse gone fa W' := by
  rcases ho.2 with ⟨h0, _⟩ | ⟨q, cap, cur, e, hb, hg, _⟩
  · exact h.below (hk.below (Nat.le_refl _) (fun q e => by rw [h0] at e; cases e))
  · have hW : Whole W q 45 cur.toList := by simpa [Whole] using hg
    have ho2 : (Value.slice va Dv.length dc).ownBlock = some q := by rw [e]; rfl
    exact h.row hW (hn q ho2) (by omega) (hk.mono (fun k _ hk => by rw [ho2] at hk; simpa using hk.symm))
theorem FallB.lt {t : Nat} {w0 W : World} {vb d g' sb a g s b : Nat} {fsS fs : List (Int × ByteArray)} {fuse : Int} {gone : Bool} {fa : Option Addr} (h : FallB t w0 vb d g' sb a g s b fsS fs fuse gone fa W) : ∀ q, ofS sb fa q → q < W.heap.size := by
  obtain ⟨lie, wsO, Wt, steps, fr, okN, X0, X, fc, h1, h2, h3⟩ := h
  exact h2.lt
section
variable {stage : Nat} {w0 W : World} {vb d g' sb a g s b B : Nat} {va : Option Addr} {dc : Nat} {Dv D : List (Int × ByteArray)} {sure : Nat} {bx : Option (Nat × List Value)}
theorem FallL.below {W' : World} (h : FallL stage w0 vb d g' sb a g s b B va dc Dv D sure bx W) (hb : Below W.heap.size W W') : FallL stage w0 vb d g' sb a g s b B va dc Dv D sure bx W' := by
  obtain ⟨fsS, fs, fuse, gone, fa, t, h1, h2, h3, h4, h5, h6, h7, h8, h9, h10, h11⟩ := h
  exact ⟨fsS, fs, fuse, gone, fa, t, h1.below hb, h2, h3.below hb, h4, h5, h6, h7, h8, h9, h10, fun q cs e => ⟨(h11 q cs e).1.below hb (h11 q cs e).1.lt, (h11 q cs e).2⟩⟩
theorem FallL.since (h : FallL stage w0 vb d g' sb a g s b B va dc Dv D sure bx W) : Below w0.heap.size w0 W := by
  obtain ⟨fsS, fs, fuse, gone, fa, t, h1, _⟩ := h
  exact h1.since
theorem FallL.unbox (h : FallL stage w0 vb d g' sb a g s b B va dc Dv D sure bx W) : FallL stage w0 vb d g' sb a g s b B va dc Dv D sure none W := by
  obtain ⟨fsS, fs, fuse, gone, fa, t, h1, h2, h3, h4, h5, h6, h7, h8, h9, h10, h11⟩ := h
  exact ⟨fsS, fs, fuse, gone, fa, t, h1, h2, h3, h4, h5, h6, h7, h8, h9, h10, fun q cs e => (by cases e)⟩
theorem FallL.box {W' : World} {cs : List Value} (h : FallL stage w0 vb d g' sb a g s b B va dc Dv D sure bx W) (hb : Below W.heap.size W W') (hX : Whole W' W.heap.size 45 cs) : FallL stage w0 vb d g' sb a g s b B va dc Dv D sure (some (W.heap.size, cs)) W' := by
  obtain ⟨fsS, fs, fuse, gone, fa, t, h1, h2, h3, h4, h5, h6, h7, h8, h9, h10, h11⟩ := h
  refine ⟨fsS, fs, fuse, gone, fa, t, h1.below hb, h2, h3.below hb, h4, h5, h6, h7, h8, h9, h10, fun q cs' e => ?_⟩
  simp only [Option.some.injEq, Prod.mk.injEq] at e
  obtain ⟨rfl, rfl⟩ := e
  exact ⟨hX, fun e => Nat.lt_irrefl _ (h1.lt _ e)⟩
theorem FallL.row (h : FallL stage w0 vb d g' sb a g s b B va dc Dv D sure bx W) : W.ownsRow B 45 2 (.slice va Dv.length dc) Dv.length (frRows Dv) := by
  obtain ⟨fsS, fs, fuse, gone, fa, t, h1, h2, h3, _⟩ := h
  exact h3
theorem FallL.got {q : Nat} {cs : List Value} (h : FallL stage w0 vb d g' sb a g s b B va dc Dv D sure (some (q, cs)) W) : Whole W q 45 cs := by
  obtain ⟨fsS, fs, fuse, gone, fa, t, h1, h2, h3, h4, h5, h6, h7, h8, h9, h10, h11⟩ := h
  exact (h11 _ _ rfl).1
theorem FallL.start {fa : Option Addr} (h : FallB 100 w0 vb d g' sb a g s b [] [] (-1) false fa W) (hB : w0.heap.size ≤ B) : FallL 0 w0 vb d g' sb a g s b B none 0 [] [] 0 none W :=
  ⟨[], [], -1, false, fa, 100, h, hB, own_nil, fun q hq => (by cases hq), rfl, fun _ => rfl, rfl, fun _ => ⟨by decide, rfl⟩, fun _ => rfl, by decide, fun q cs e => (by cases e)⟩
theorem FallL.flush (h : FallL 0 w0 vb d g' sb a g s b B va dc Dv D sure bx W) :
    Calls Tryd.prog 32 #[.pointer (some ⟨vb, 0, none⟩)] W fun e w' => e = .returned (.int .i64 0) ∧ FallL 1 w0 vb d g' sb a g s b B va dc Dv D D.length bx w' := by
  obtain ⟨fsS, fs, fuse, gone, fa, t, h1, h2, h3, h4, h5, h6, h7, h8, h9, h10, h11⟩ := h
  obtain ⟨hf, ht⟩ := h8 rfl
  have hg := h9 (by decide)
  subst hg
  have hD := h6 rfl
  refine (fall_flush h1 hf (by omega)).mono ?_
  rintro e w' ⟨r1, r2, r3⟩
  exact ⟨r1, fs, fs, fuse, false, fa, t + 1, r2, h2, h3.kept r3 h4, h4, h5, h6, by rw [hD], fun e => by omega, fun _ => rfl, by omega, fun q cs e => ⟨r3.2 q cs (h11 q cs e).1 (h11 q cs e).2, (h11 q cs e).2⟩⟩
theorem FallL.fuse (k : Int) (h : FallL 1 w0 vb d g' sb a g s b B va dc Dv D sure bx W) (hk : -9223372036854775808 ≤ k) (hk2 : k ≤ 9223372036854775807) :
    Calls Tryd.prog 33 #[.pointer (some ⟨vb, 0, none⟩), .int .i64 k] W fun e w' => e = .returned (.tuple #[]) ∧ FallL 2 w0 vb d g' sb a g s b B va dc Dv D sure bx w' := by
  obtain ⟨fsS, fs, fuse, gone, fa, t, h1, h2, h3, h4, h5, h6, h7, h8, h9, h10, h11⟩ := h
  have hg := h9 (by decide)
  subst hg
  refine (fall_fuse k h1 hk hk2).mono ?_
  rintro e w' ⟨r1, r2, r3⟩
  exact ⟨r1, fsS, fs, k, false, fa, t, r2, h2, h3.kept r3 h4, h4, h5, h6, h7, fun e => by omega, fun e => by omega, h10, fun q cs e => ⟨r3.2 q cs (h11 q cs e).1 (h11 q cs e).2, (h11 q cs e).2⟩⟩
theorem FallL.append (k : Int) (p : ByteArray) (h : FallL stage w0 vb d g' sb a g s b B va dc Dv D sure bx W) (hst : stage ≠ 1) (hs : s < 4294967296) (hp : p.size ≤ 1000) :
    Calls Tryd.prog 17 #[.pointer (some ⟨sb, 0, none⟩), .agg #[.int .i64 k, .string p]] W fun e w' => ∃ p1 err : Int, e = .returned (.tuple #[.int .i64 p1, .int .i64 err]) ∧
      ((err = 0 ∨ err = 21) ∧ FallL stage w0 vb d g' sb a g s b B va dc Dv (D ++ [(k, p)]) sure bx w' ∨ (err ≠ 0 ∧ err ≠ 21) ∧ FallL stage w0 vb d g' sb a g s b B va dc Dv D sure bx w') := by
  obtain ⟨fsS, fs, fuse, gone, fa, t, h1, h2, h3, h4, h5, h6, h7, h8, h9, h10, h11⟩ := h
  refine (fall_step k p h1 (by omega) hs hp).mono ?_
  rintro e w' ⟨p1, err, fs', fuse', gone', fa', r1, r2, r3, r4, r5⟩
  have hq : ∀ q, (Value.slice va Dv.length dc).ownBlock = some q → ¬ ofS sb fa' q := by
    intro q hq e
    rcases r3 q e with e | e
    · exact h4 q hq e
    · have := h3.own_lt q hq
      omega
  have hx : ∀ q cs, bx = some (q, cs) → Whole w' q 45 cs ∧ ¬ ofS sb fa' q := by
    intro q cs e
    obtain ⟨x1, x2⟩ := h11 q cs e
    refine ⟨r4.2 q cs x1 x2, fun e' => ?_⟩
    rcases r3 q e' with e2 | e2
    · exact x2 e2
    · have := x1.lt
      omega
  have h3' := h3.kept r4 h4
  refine ⟨p1, err, r1, ?_⟩
  rcases r5 with ⟨e1, e2, rfl, rfl, rfl⟩ | ⟨e1, rfl, e3, rfl, e5⟩ | ⟨e1, rfl, rfl, e4⟩
  · exact .inr ⟨⟨e1, e2⟩, fsS, fs', fuse', gone', fa', t, r2, h2, h3', hq, h5, h6, h7, h8, h9, h10, hx⟩
  · have hD := h6 e3
    subst hD
    exact .inl ⟨.inl e1, fsS, _, fuse', false, fa', t, r2, h2, h3', hq, List.take_length, fun _ => rfl, h7, fun e => ⟨by rw [e5 (h8 e).1]; exact (h8 e).1, (h8 e).2⟩, fun _ => rfl, h10, hx⟩
  · have hle : fs'.length ≤ D.length := by
      have := congrArg List.length h5
      rw [List.length_take] at this
      omega
    have hst2 : 2 ≤ stage := by
      rcases Nat.lt_or_ge stage 2 with h | h
      · exact absurd ⟨h9 h, (h8 (by omega)).1⟩ e4
      · exact h
    exact .inl ⟨.inr e1, fsS, fs', fuse', true, fa', t, r2, h2, h3', hq, by rw [List.take_append_of_le_length hle]; exact h5, fun e => (by cases e), h7, fun e => by omega, fun e => by omega, h10, hx⟩
/-- The frame was put into the row. -/
theorem FallL.rowed {W' : World} {f : Int × ByteArray} {gg cap : Nat} {o : Obj} (h : FallL stage w0 vb d g' sb a g s b B va dc Dv (Dv ++ [f]) sure bx W)
    (ho : W'.ownsRow B 45 2 (.slice (some ⟨gg, 0, none⟩) (Dv.length + 1) cap) (Dv.length + 1) (frRows Dv ++ [.int .i64 f.1, .string f.2]))
    (hg : (W.alloc o).grownBy W' (Value.slice va Dv.length dc).ownBlock) (hat : (Value.slice va Dv.length dc).ownBlock = some gg ∨ gg = W.heap.size + 1) :
    FallL stage w0 vb d g' sb a g s b B (some ⟨gg, 0, none⟩) cap (Dv ++ [f]) (Dv ++ [f]) sure none W' := by
  obtain ⟨fsS, fs, fuse, gone, fa, t, h1, h2, h3, h4, h5, h6, h7, h8, h9, h10, h11⟩ := h
  have hk : Kept (fun q => (Value.slice va Dv.length dc).ownBlock = some q) W W' := (Kept.of_below (allocBelow W o)).grown hg (fun q e => .inl e)
  refine ⟨fsS, fs, fuse, gone, fa, t, h1.rows h3 h2 h4 hk, h2, ?_, ?_, h5, h6, h7, h8, h9, h10, fun q cs e => (by cases e)⟩
  · obtain ⟨fk, fp⟩ := f
    show W'.ownsRow B 45 2 (.slice (some ⟨gg, 0, none⟩) (Dv ++ [(fk, fp)]).length cap) (Dv ++ [(fk, fp)]).length (frRows (Dv ++ [(fk, fp)]))
    have e : (Dv ++ [(fk, fp)]).length = Dv.length + 1 := by rw [List.length_append, List.length_singleton]
    rw [e, frRows_add]
    exact ho
  · intro q hq e
    have e3 : gg = q := by simpa [Value.ownBlock] using hq
    subst e3
    rcases hat with h | h
    · exact h4 _ h e
    · have := h1.lt _ e
      omega
/-- The power goes. -/
theorem FallL.crash {w : World} (kv : Value) (kl : List (Int × Int)) (h : FallL stage w0 vb d g' sb a g s b B va dc Dv D sure bx W) (hb : Below w.heap.size w w0) (hk : Keeps w kv kl) (hks : kl.length ≤ 100000) (hs : s < 4294967296) :
    Calls Tryd.prog 34 #[.pointer (some ⟨vb, 0, none⟩), kv] W fun e w' => e = .returned (.int .i64 0) ∧ ∃ fs, Fell w0 vb d g' a g s b fs sure w' ∧ RowF w' B va dc Dv ∧ D.take fs.length = fs ∧ fs.length ≤ 15 ∧ (∀ f ∈ fs, FrOk f) := by
  obtain ⟨fsS, fs, fuse, gone, fa, t, h1, h2, h3, h4, h5, h6, h7, h8, h9, h10, h11⟩ := h
  refine (fall_crash kv kl h1 hb hk hks hs).mono ?_
  rintro e w' ⟨r1, r2, r3⟩
  obtain ⟨f1, f2, f3, f4⟩ := h1.few
  exact ⟨r1, fs, by rw [h7]; exact r2, h3.kept r3 h4, h5, f2, f3⟩
end
end Go.Proofs.YtlgoepbfdldgnaaDoor.W
end
