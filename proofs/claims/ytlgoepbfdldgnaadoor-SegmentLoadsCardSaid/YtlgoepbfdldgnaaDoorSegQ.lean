/- A law's segment beside its blocks: what its calls tell; the definition's segment in a variable of the law's. -/
import Derived.Test.YtlgoepbfdldgnaaDoorSegP
section
namespace Go.Proofs.YtlgoepbfdldgnaaDoor.W
open Go.RowKit Go.Sort
open Go.Proofs.YtlgoepbfdldgnaaDoor.M Go.Proofs.YtlgoepbfdldgnaaDoor.D Go.Proofs.YtlgoepbfdldgnaaDoor.Z
set_option linter.unusedVariables false
theorem SegO.lay {w0 W : World} {vb d g' sb n a g s b : Nat} {fs : List (Int × ByteArray)} {X : List ByteArray} {K : List (Nat × TypeId × List Value)} (h : SegO w0 vb d g' sb n a g s b fs X K W) : LayB X s fs := by
  obtain ⟨fa, ⟨ws, fc, h1, h2, h2', h3, h4, h5, h6⟩, h7⟩ := h
  exact h5
theorem SegO.reads {w0 W : World} {vb d g' sb n a g s b : Nat} {fs : List (Int × ByteArray)} {X : List ByteArray} {K : List (Nat × TypeId × List Value)} (h : SegO w0 vb d g' sb n a g s b fs X K W) (hn : n < 2) : Reads W vb n X := by
  obtain ⟨fa, ⟨ws, fc, h1, h2, h2', h3, h4, h5, h6⟩, h7⟩ := h
  have := h5.fits
  rw [← h4]
  exact sv_reads h1 (by omega) (by omega)
theorem SegO.sizes {w0 W : World} {vb d g' sb n a g s b : Nat} {fs : List (Int × ByteArray)} {X : List ByteArray} {K : List (Nat × TypeId × List Value)} (h : SegO w0 vb d g' sb n a g s b fs X K W) (hn : n < 2) : ∀ y ∈ X, y.size ≤ maxLen := by
  obtain ⟨fa, ⟨ws, fc, h1, h2, h2', h3, h4, h5, h6⟩, h7⟩ := h
  intro y hy
  rw [← h4] at hy
  obtain ⟨k, hk, e⟩ := List.mem_iff_getElem.1 hy
  have := h1.sec64 (n := n) (by omega) k y (by rw [List.getElem?_eq_getElem hk, e])
  unfold maxLen
  omega
theorem SegO.obj {w0 W : World} {vb d g' sb n a g s b : Nat} {fs : List (Int × ByteArray)} {X : List ByteArray} {K : List (Nat × TypeId × List Value)} (h : SegO w0 vb d g' sb n a g s b fs X K W) : ∃ fa fc, Sg W sb vb n a g s b fa fc fs (plc fs) false := by
  obtain ⟨fa, ⟨ws, fc, h1, h2, h3⟩, h7⟩ := h
  exact ⟨_, _, h2⟩
theorem SegO.sealed {w0 W : World} {vb d g' sb n a g s b : Nat} {fs : List (Int × ByteArray)} {X : List ByteArray} {K : List (Nat × TypeId × List Value)} (h : SegO w0 vb d g' sb n a g s b fs X K W) :
    Calls Tryd.prog 22 #[.pointer (some ⟨sb, 0, none⟩)] W fun e w' => e = .returned (.tuple #[]) ∧ (∃ fa fc, Sg w' sb vb n a g s b fa fc fs (plc fs) true) ∧ (∀ x ∈ K, Whole w' x.1 x.2.1 x.2.2) ∧ Below w0.heap.size w0 w' := by
  have hS := h.since
  obtain ⟨fa, ⟨ws, fc, h1, h2, h2', h3⟩, h7⟩ := h
  refine (doSeal_any sb vb n a g s b (plc fs) (.slice fa fs.length fc) false W h2.obj).mono ?_
  rintro e w' ⟨r1, r2, r3⟩
  refine ⟨r1, ⟨fa, fc, ⟨r2, own_of_kept h2.own r3 (own_ne h2.own h2.obj (by decide)), h2.none_⟩⟩, fun x hx => ?_, hS.trans (r3.below hS.size (fun q e => by rw [e]; exact h2' sb (.inl rfl)))⟩
  obtain ⟨k1, k2, k3⟩ := h7 x hx
  exact k1.of_kept r3 (fun e => k2 (.inl e))
theorem appL_22 (M : List Value) (c d : Int) (h : M.length = 22) : (appL M c d)[22]? = some (.int .i64 c) := by
  unfold appL
  rw [List.getElem?_append_right (by omega), h]
  rfl
theorem appL_23 (M : List Value) (c d : Int) (h : M.length = 22) : (appL M c d)[23]? = some (.int .i64 d) := by
  unfold appL
  rw [List.getElem?_append_right (by omega), h]
  rfl
set_option maxRecDepth 100000 in
theorem field_lit (x0 x1 x2 x3 x4 x5 y0 y1 y2 y3 y4 y5 y6 y7 y8 y9 ya yb yc yd ye yf : Value) (c d : Int) (W : World) : (Instr.field 49 (.agg #[x0, x1, x2, x3, x4, x5, y0, y1, y2, y3, y4, y5, y6, y7, y8, y9, ya, yb, yc, yd, ye, yf, .int .i64 c, .int .i64 d]) 0).run Tryd.prog W = .ok (.agg #[x0, x1, x2, x3, x4, x5, y0, y1, y2, y3, y4, y5, y6, y7, y8, y9, ya, yb, yc, yd, ye, yf]) W := by kernel_rfl
theorem field_app (M : List Value) (c d : Int) (h : M.length = 22) (W : World) : (Instr.field 49 (.agg (appL M c d).toArray) 0).run Tryd.prog W = .ok (.agg M.toArray) W := by
  obtain ⟨x0, x1, x2, x3, x4, x5, y0, y1, y2, y3, y4, y5, y6, y7, y8, y9, ya, yb, yc, yd, ye, yf, rfl⟩ := list22 h
  exact field_lit x0 x1 x2 x3 x4 x5 y0 y1 y2 y3 y4 y5 y6 y7 y8 y9 ya yb yc yd ye yf c d W
theorem appL_range {W : World} {q : Nat} {t : TypeId} (M : List Value) (c d : Int) (h : Whole W q t (appL M c d)) : W.rangeAt q 0 M := fun j v hv => by
  rw [Nat.zero_add, h.cell j]
  unfold appL
  rw [List.getElem?_append_left (List.getElem?_eq_some_iff.1 hv).1]
  exact hv
theorem made_range {W : World} {q a g s b : Nat} {la : Option Addr} {n lc E : Nat} {X : List Value} (hX : X.length = 16) (h : Whole W q 41 (mkM a g s b la n lc E X)) : W.rangeAt q 6 X := by
  have e : ((mkM a g s b la n lc E X).drop 6).take 16 = X := by
    show (X.take 16) = X
    exact List.take_of_length_le (Nat.le_of_eq hX)
  have := h.part 6 16
  rwa [e] at this
/-- Nothing appended. -/
theorem newMade {u w' : World} (hb : Below (u.alloc (.cells noMade.toArray 41)).heap.size (u.alloc (.cells noMade.toArray 41)) w') : Whole w' u.heap.size 41 noMade := (Whole.new u _ _).below hb (Whole.new u _ _).lt
theorem newMadeD {u w' : World} (hb : Below (u.alloc (.cells noMade.toArray 41)).drew.heap.size (u.alloc (.cells noMade.toArray 41)).drew w') : Whole w' u.heap.size 41 noMade := (Whole.new u 41 noMade).below (w' := w') ((drewBelow _).trans hb) (Whole.new u _ _).lt
theorem keepN {V0 w : World} (h : Below V0.heap.size V0 w) (o : Obj) : Below V0.heap.size V0 (w.alloc o) := grewAlloc h o
theorem keepLaid {V0 w : World} {q : Nat} (h : Below V0.heap.size V0 w) (hq : V0.heap.size ≤ q) (vs : List Value) : Below V0.heap.size V0 (laidAt w (.pointer (some ⟨q, 0, none⟩)) vs) := below_store h hq (Nat.le_refl _) 0 vs
theorem room22 {w : World} {q : Nat} (h : Whole w q 41 noMade) : roomAt w (.pointer (some ⟨q, 0, none⟩)) 22 := ⟨_, _, rfl, h.there 0 22 (Nat.le_refl _)⟩
theorem roomNew (w : World) : roomAt (w.alloc (.cells noMade.toArray 41)) (.pointer (some ⟨w.heap.size, 0, none⟩)) 22 := room22 (Whole.new w _ _)
theorem laidWhole {W : World} {q : Nat} {t : TypeId} {cs vs : List Value} (h : Whole W q t cs) (hl : vs.length = cs.length) : Whole (laidAt W (.pointer (some ⟨q, 0, none⟩)) vs) q t vs := whole_all h hl
end Go.Proofs.YtlgoepbfdldgnaaDoor.W
end
