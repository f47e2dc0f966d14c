/- Package catalog: what regions that draw their order leave: boxes, readers. -/
import Derived.Test.YtgogackkeodciaaGreatCgG
import Derived.Deep.CutRange
namespace Go.Proofs.YtgogackkeodciaaGreat.W
open Go.RowKit Go.Sort
open Go.Proofs.YtgogackkeodciaaGreat.M Go.Proofs.YtgogackkeodciaaGreat.D Go.Proofs.YtgogackkeodciaaGreat.Z
set_option linter.unusedVariables false
set_option linter.unusedSimpArgs false

abbrev ofX (xb : Nat) : Nat → Prop := fun q => q = xb
theorem kA {own : Nat → Prop} {V w : World} (h : Kept own V w) (o : Obj) : Kept own V (w.alloc o) := h.alloc o
theorem kAd {own : Nat → Prop} {V w : World} (h : Kept own V w) (o : Obj) : Kept own V (w.alloc o).drew := (h.alloc o).drewN 1
theorem kD {own : Nat → Prop} {V w : World} (h : Kept own V w) : Kept own V w.drew := h.drewN 1
theorem kS2 {own : Nat → Prop} {V w : World} {q : Nat} (h : Kept own V w) (hq : V.heap.size ≤ q) (c0 c1 : Value) : Kept own V ((w.setCell ⟨q, 0, none⟩ c0).setCell ⟨q, 1, none⟩ c1) := h.setCells (.inr hq) 0 [c0, c1]
theorem kS5 {own : Nat → Prop} {V w : World} {q : Nat} (h : Kept own V w) (hq : V.heap.size ≤ q) (c0 c1 c2 c3 c4 : Value) : Kept own V (((((w.setCell ⟨q, 0, none⟩ c0).setCell ⟨q, 1, none⟩ c1).setCell ⟨q, 2, none⟩ c2).setCell ⟨q, 3, none⟩ c3).setCell ⟨q, 4, none⟩ c4) := h.setCells (.inr hq) 0 [c0, c1, c2, c3, c4]
theorem RdC.al {W : World} {xb cb : Nat} {s : ByteArray} {st : Option Nat} (h : RdC W xb cb s st) (o : Obj) : RdC (W.alloc o) xb cb s st := h.kept (own := fun _ => False) ((Kept.refl _ _).alloc o) (fun e => e)
theorem RdC.ald {W : World} {xb cb : Nat} {s : ByteArray} {st : Option Nat} (h : RdC W xb cb s st) (o : Obj) : RdC (W.alloc o).drew xb cb s st := h.kept (own := fun _ => False) (((Kept.refl _ _).alloc o).drewN 1) (fun e => e)
theorem RdC.dr {W : World} {xb cb : Nat} {s : ByteArray} {st : Option Nat} (h : RdC W xb cb s st) : RdC W.drew xb cb s st := h
theorem RdC.st2 {W : World} {xb cb q : Nat} {s : ByteArray} {st : Option Nat} (h : RdC W xb cb s st) (hq : xb ≠ q) (c0 c1 : Value) : RdC ((W.setCell ⟨q, 0, none⟩ c0).setCell ⟨q, 1, none⟩ c1) xb cb s st := h.kept (own := fun k => k = q) ((Kept.refl (fun k => k = q) W).setCells (c := q) (.inl rfl) 0 [c0, c1]) hq
theorem RdC.st5 {W : World} {xb cb q : Nat} {s : ByteArray} {st : Option Nat} (h : RdC W xb cb s st) (hq : xb ≠ q) (c0 c1 c2 c3 c4 : Value) : RdC (((((W.setCell ⟨q, 0, none⟩ c0).setCell ⟨q, 1, none⟩ c1).setCell ⟨q, 2, none⟩ c2).setCell ⟨q, 3, none⟩ c3).setCell ⟨q, 4, none⟩ c4) xb cb s st := h.kept (own := fun k => k = q) ((Kept.refl (fun k => k = q) W).setCells (c := q) (.inl rfl) 0 [c0, c1, c2, c3, c4]) hq
theorem nK2 {own : Nat → Prop} {u w' : World} {c0 c1 : Value} {t : TypeId} (hk : Kept own (u.alloc (.cells #[c0, c1] t)) w') (hne : ¬ own u.heap.size) : Whole w' u.heap.size t [c0, c1] := (Whole.new u t [c0, c1]).of_kept hk hne
theorem nK2d {own : Nat → Prop} {u w' : World} {c0 c1 : Value} {t : TypeId} (hk : Kept own (u.alloc (.cells #[c0, c1] t)).drew w') (hne : ¬ own u.heap.size) : Whole w' u.heap.size t [c0, c1] := (show Whole (u.alloc (.cells #[c0, c1] t)).drew u.heap.size t [c0, c1] from Whole.new u t [c0, c1]).of_kept hk hne
theorem nK5 {own : Nat → Prop} {u w' : World} {c0 c1 c2 c3 c4 : Value} {t : TypeId} (hk : Kept own (u.alloc (.cells #[c0, c1, c2, c3, c4] t)) w') (hne : ¬ own u.heap.size) : Whole w' u.heap.size t [c0, c1, c2, c3, c4] := (Whole.new u t [c0, c1, c2, c3, c4]).of_kept hk hne
theorem nK5d {own : Nat → Prop} {u w' : World} {c0 c1 c2 c3 c4 : Value} {t : TypeId} (hk : Kept own (u.alloc (.cells #[c0, c1, c2, c3, c4] t)).drew w') (hne : ¬ own u.heap.size) : Whole w' u.heap.size t [c0, c1, c2, c3, c4] := (show Whole (u.alloc (.cells #[c0, c1, c2, c3, c4] t)).drew u.heap.size t [c0, c1, c2, c3, c4] from Whole.new u t [c0, c1, c2, c3, c4]).of_kept hk hne
theorem quiet_cmpC {P : Program} {ops : Array Oper} {C : World → Prop} {Q : Go.Act → Prop} {a : Go.Act} {rest : List Oper} {d : Option Tmp} {x y : Operand} {ty : TypeId} {ps : String} {af : Array Edge} {gd : Option (Nat × Bool)} (o : BinOp) (t u : TypeId) (vx vy v : Value)
    (hx : a.eval x = vx) (hy : a.eval y = vy) (h0 : ∀ w, (binOp o t vx vy).run P w = .ok v w) (hq : ∀ w, (eqGuard o t x y vx vy).run P w = .ok () w)
    (hw : Region.wanted { dst := d, op := .binOp o t x y u, type := ty, pos := ps, after := af, guard := gd } (yielded ops a.tmps) = true)
    (h : wpQuiet P ops C Q rest (a.put d v)) : wpQuiet P ops C Q ({ dst := d, op := .binOp o t x y u, type := ty, pos := ps, after := af, guard := gd } :: rest) a := by
  refine quiet_by v hw (fun w _ => ?_) h
  have e := h0 w
  have e2 := hq w
  unfold execOp
  simp [hx, hy, Sem.run_bind, Sem.run_pure, Result.andThen_ok, e, e2]
end Go.Proofs.YtgogackkeodciaaGreat.W
