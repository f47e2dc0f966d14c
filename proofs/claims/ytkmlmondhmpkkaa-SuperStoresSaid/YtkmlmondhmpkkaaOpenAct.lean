/- The law's Act.text. Keeps and acts that come in, opened. -/
import Derived.Test.YtkmlmondhmpkkaaProg
import Derived.Test.YtkmlmondhmpkkaaTorn
import Derived.Deep.RegionHeld3
import Derived.OpenShut
import Derived.ProofKit
import Derived.Deep.Slices
import Derived.ChangeSame
import Derived.WideShapes
section
namespace Go.Proofs.Ytkmlmondhmpkkaa.D
open Go.RowKit
set_option linter.unusedVariables false

theorem step_max {P : Program} {ops : Array Oper} {o : Oper} {a : Act} {w : World} {K : Act → World → Prop} {Q : Exit → Act → World → Prop} {E : Prop} (hgd : o.guard = none) (x y : Operand) (t u : TypeId)
    (ho : o.op = .call { callee := .builtin .max, args := #[x, y], argTypes := #[t, u] }) (p q : Int) (hx : a.eval x = .int .i64 p) (hy : a.eval y = .int .i64 q) (h : K (a.put o.dst (.int .i64 (max p q))) w) :
    if Region.wanted o (yielded ops a.tmps) = true then Oper.wp P o a w K Q else E := by
  have hw : Region.wanted o (yielded ops a.tmps) = true := by simp [Region.wanted, hgd]
  rw [if_pos hw]
  have hrun := run_max_int2 (P := P) (w := w) #[t, u] o.type .i64 .i64 p q
  rw [show (if q > p then q else p) = max p q by split <;> omega] at hrun
  unfold Oper.wp
  simp [execOp, ho, resolve, invoke, builtin, hx, hy, hrun, Result.andThen]
  exact h
theorem step_min {P : Program} {ops : Array Oper} {o : Oper} {a : Act} {w : World} {K : Act → World → Prop} {Q : Exit → Act → World → Prop} {E : Prop} (hgd : o.guard = none) (x y : Operand) (t u : TypeId)
    (ho : o.op = .call { callee := .builtin .min, args := #[x, y], argTypes := #[t, u] }) (p q r : Int) (hx : a.eval x = .int .i64 p) (hy : a.eval y = .int .i64 q) (hr : min p q = r) (h : K (a.put o.dst (.int .i64 r)) w) :
    if Region.wanted o (yielded ops a.tmps) = true then Oper.wp P o a w K Q else E := by
  have hw : Region.wanted o (yielded ops a.tmps) = true := by simp [Region.wanted, hgd]
  rw [if_pos hw]
  have hrun := run_min_int2 (P := P) (w := w) #[t, u] o.type .i64 .i64 p q
  rw [show (if q < p then q else p) = r by split <;> omega] at hrun
  unfold Oper.wp
  simp [execOp, ho, resolve, invoke, builtin, hx, hy, hrun, Result.andThen]
  exact h
theorem below_of_drew {B : Nat} {W w2 : World} (h : Below B W.drew w2) : Below B W w2 := ⟨h.os, h.tape, h.output, h.size, h.block⟩
/-- An act, as a value. -/
abbrev actV (k at_ n : Int) (c : UInt8) (kv : Value) : Value := .agg #[.int .i64 k, .int .i64 at_, .int .i64 n, .int .u8 (c.toNat : Int), kv]
/-- What is written. -/
def Texted (n : Int) (c : UInt8) (T : ByteArray) : Prop := T.size = 64 - cut n ∧ (cut n = 0 → T = ⟨(fillL c).toArray⟩)
theorem texted {n : Int} {c : UInt8} {X : ByteArray} (hX : ⟨(fillL c).toArray⟩ = X) : Texted n c (X.extract 0 (64 - cut n)) := by
  have hs : X.size = 64 := by rw [← hX]; simp [fillL, ByteArray.size]
  refine ⟨by rw [ByteArray.size_extract, hs]; omega, fun h => ?_⟩
  rw [h, hX]
  have : X.extract 0 X.size = X := ByteArray.extract_zero_size
  rw [hs] at this
  exact this

end Go.Proofs.Ytkmlmondhmpkkaa.D
end
section
namespace Go.Proofs.Ytkmlmondhmpkkaa.D
open Go.ChangeShapes Go.WideShapes Go.ChangeAt Go.RowKit
set_option linter.unusedVariables false

theorem spotless {w : World} {a : Addr} {u v : Value} {j : Nat} (h0 : w.cell? (a.add 0) = some u) (h : w.cell? (a.add j) = some v) : ∃ b o, a = ⟨b, o, none⟩ ∧ w.cell? ⟨b, o + j, none⟩ = some v := by
  obtain ⟨b, o, spot⟩ := a
  have hspot := World.cell?_spot h0
  simp [Addr.add] at hspot
  subst hspot
  exact ⟨b, o, rfl, by rwa [show (⟨b, o, none⟩ : Addr).add j = ⟨b, o + j, none⟩ from by unfold Addr.add; split <;> simp_all] at h⟩
theorem cellsKeep : Try.prog.cellsOf 121 = 2 := by kernel_rfl
theorem cellsInt : Try.prog.cellsOf 3 = 1 := by kernel_rfl
theorem cellsU8 : Try.prog.cellsOf 5 = 1 := by kernel_rfl
theorem cellsKs : Try.prog.cellsOf 60 = 1 := by kernel_rfl
section
variable {H : Type} {enc : TypeId × Value → H} {w : World} {base : Nat} {held : Bool}
set_option maxRecDepth 100000 in
theorem open_keeps {fuel : Nat} {kv : Value} {x : DataW H × List MemPlace} (h : DataW.trod enc Try.prog w base (fun _ => true) held fuel 60 [kv] = some x) : ∃ kl, Keeps w kv kl := by
  rcases Deep.open_slice Try.underlying60 h with ⟨hcs, _⟩ | ⟨a, len, cap, m, n, D, Pl, hcs, _, hl, hm, hmm, _, hi⟩
  · have hkv : kv = .slice none 0 0 := by simpa using hcs
    exact ⟨[], ⟨none, 0, hkv, by decide, by decide, fun j q hq => by simp at hq⟩⟩
  · have hkv : kv = .slice (some a) len cap := by simpa using hcs
    have hq : ∀ i, ∃ q : Int × Int, i < len → w.cell? (a.add (i * 2)) = some (.int .i64 q.1) ∧ w.cell? (a.add (i * 2 + 1)) = some (.int .i64 q.2) := fun i => by
      by_cases hlt : i < len
      · obtain ⟨cs', hc, ht'⟩ := hi i (by rw [hmm]; simp; omega)
        rw [cellsKeep] at hc
        obtain ⟨_, hcl, hat⟩ := World.cells?_some hc
        obtain ⟨y0, y1, n', _, _, h0, h1⟩ := trod_struct2 Try.underlying121 ht'
        match cs', hcl with
        | [c0, c1], _ =>
          have g0 : DataW.trod enc Try.prog w base (fun _ => true) held n' 3 [c0] = some y0 := by rw [cellsInt] at h0; exact h0
          have g1 : DataW.trod enc Try.prog w base (fun _ => true) held n' 3 [c1] = some y1 := by rw [cellsInt] at h1; exact h1
          obtain ⟨x0, e0, _, _⟩ := DataW.trod_int Try.underlying3 g0
          obtain ⟨x1, e1, _, _⟩ := DataW.trod_int Try.underlying3 g1
          simp only [List.cons.injEq, and_true] at e0 e1
          have a0 := hat 0 (by omega)
          have a1 := hat 1 (by omega)
          rw [Deep.add_add] at a0 a1
          exact ⟨(x0, x1), fun _ => ⟨by rw [Nat.add_zero] at a0; rw [a0, e0]; rfl, by rw [a1, e1]; rfl⟩⟩
      · exact ⟨(0, 0), fun h => absurd h hlt⟩
    refine ⟨(List.range len).map fun i => Classical.choose (hq i), ⟨some a, cap, by simpa using hkv, by simpa using hl, hm, fun j q hjq => ?_⟩⟩
    have hj : j < len := by
      have := (List.getElem?_eq_some_iff.1 hjq).1
      simpa using this
    have hs := Classical.choose_spec (hq j) hj
    rw [List.getElem?_map, List.getElem?_range hj] at hjq
    have e : Classical.choose (hq j) = q := by simpa using hjq
    rw [e] at hs
    obtain ⟨u0, h00⟩ : ∃ u, w.cell? (a.add 0) = some u := ⟨_, (Classical.choose_spec (hq 0) (by omega)).1⟩
    obtain ⟨b, o, rfl, c0⟩ := spotless h00 hs.1
    obtain ⟨b', o', e', c1⟩ := spotless h00 hs.2
    cases e'
    exact ⟨b, o, rfl, World.block_lt_of_cell? w _ c0, c0, c1⟩
end
/-- A byte of a number. -/
theorem byte_of {c : Int} (h : (Lit.int .u8 c).wf = true) : ∃ b : UInt8, c = (b.toNat : Int) := by
  have hb : IntKind.u8.min ≤ c ∧ c ≤ IntKind.u8.max := by simpa [Lit.wf] using h
  have h1 : IntKind.u8.min = 0 := by decide
  have h2 : IntKind.u8.max = 255 := by decide
  rw [h1, h2] at hb
  refine ⟨UInt8.ofNat c.toNat, ?_⟩
  rw [UInt8.toNat_ofNat_of_lt' (by simp [UInt8.size]; omega)]
  omega
end Go.Proofs.Ytkmlmondhmpkkaa.D
end
