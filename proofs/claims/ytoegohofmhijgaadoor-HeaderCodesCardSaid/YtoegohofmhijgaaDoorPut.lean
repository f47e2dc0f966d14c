/- The disk: how many writes a span has. The disk: a new one; a sector of one byte; a write that is let wait. The disk: a write that is let wait. -/
import Derived.Test.YtoegohofmhijgaaDoorProg
import Derived.Test.YtoegohofmhijgaaDoorDisk
import Derived.Lib.LazyBuf
import Derived.RowKit
import Derived.Deep.RegionLaw
section
namespace Go.Proofs.YtoegohofmhijgaaDoor.D
open Go.RowKit
set_option linter.unusedVariables false

theorem stopLoad {P : Program} {w : World} {ops : Array Oper} {rest : List Oper} {o : Oper} {a : Act} {Q : Exit → Act → World → Prop} (t : TypeId) (x : Operand) (ho : o.op = .load t x) (h : Hid (wpList P ops Q (o :: rest) a w)) : wpList P ops Q (o :: rest) a w := h
theorem stopStore {P : Program} {w : World} {ops : Array Oper} {rest : List Oper} {o : Oper} {a : Act} {Q : Exit → Act → World → Prop} (t : TypeId) (x y : Operand) (ho : o.op = .store t x y) (h : Hid (wpList P ops Q (o :: rest) a w)) : wpList P ops Q (o :: rest) a w := h
theorem wrow_len {p : Nat × List UInt8} (h : p.2.length = 64) : (wrow p).length = 65 := by simp [wrow, bytesV_len, h]
theorem wrow_one (p : Nat × List UInt8) : ∀ v ∈ wrow p, v.oneCell' = true := fun v hv => by
  rcases List.mem_cons.1 hv with rfl | h
  · rfl
  · exact bytesV_one _ v h
/-- A fresh variable that was stored into. -/
theorem fresh {w : World} {z : Array Value} {t : TypeId} {vs : List Value} (hz : z.size = vs.length) :
    Whole ((w.alloc (.cells z t)).setCells w.heap.size 0 vs) w.heap.size t vs ∧ Below w.heap.size w ((w.alloc (.cells z t)).setCells w.heap.size 0 vs) ∧ ((w.alloc (.cells z t)).setCells w.heap.size 0 vs).heap.size = w.heap.size + 1 := by
  have h0 : Whole (w.alloc (.cells z t)) w.heap.size t z.toList := by simpa using Whole.new w t z.toList
  have hl : z.toList.length = vs.length := by simpa using hz
  have h1 := h0.store 0 vs (by omega)
  have e : splice z.toList 0 vs = vs := by
    unfold splice
    rw [List.take_zero, List.nil_append, List.drop_eq_nil_of_le (by omega), List.append_nil]
  rw [e] at h1
  have k : Kept (fun _ => False) w ((w.alloc (.cells z t)).setCells w.heap.size 0 vs) := ((Kept.refl _ w).alloc _).setCells (.inr (Nat.le_refl _)) 0 vs
  exact ⟨h1, k.below (Nat.le_refl _) (fun _ h => h.elim), by rw [size_setCells]; simp⟩
theorem fresh_there {w : World} {z : Array Value} {t : TypeId} (n : Nat) (hz : z.size = n) : (w.alloc (.cells z t)).there w.heap.size 0 n := by
  have h0 : Whole (w.alloc (.cells z t)) w.heap.size t z.toList := by simpa using Whole.new w t z.toList
  exact h0.there 0 n (by simp [hz])

theorem grownOf {a w : World} (h : Below a.heap.size a w) (row : Option Nat) : a.grownBy w row := ⟨h.os, h.tape, h.output, h.size, fun i hi _ => h.block i hi⟩
theorem filter_snoc {p : Nat × List UInt8 → Bool} {ws : List (Nat × List UInt8)} {k : Nat} {q : Nat × List UInt8} (h : ws[k]? = some q) : (ws.take (k + 1)).filter p = (ws.take k).filter p ++ if p q then [q] else [] := by
  have hk : k < ws.length := (List.getElem?_eq_some_iff.1 h).1
  rw [List.take_succ_eq_append_getElem hk, (List.getElem?_eq_some_iff.1 h).2, List.filter_append]
  cases hp : p q <;> simp [hp]
theorem wpList_fresh {P : Program} {w : World} {ops : Array Oper} {rest : List Oper} {o : Oper} {a : Act} {Q : Exit → Act → World → Prop} (hgd : o.guard = none) (t : TypeId) (x y : Operand) (ho : o.op = .store t x y)
    (b : Nat) (hx : a.eval x = .pointer (some ⟨b, 0, none⟩)) (vs : List Value) (hy : a.eval y = .agg vs.toArray) (w0 : World) (z : Array Value) (hw : w = w0.alloc (.cells z t)) (hb : b = w0.heap.size) (hz : z.size = vs.length)
    (hi : (P.info? t).map (·.size) = some vs.length) (h1 : ∀ v ∈ vs, v.oneCell' = true)
    (h : ∀ w2, Whole w2 b t vs → Below w0.heap.size w0 w2 → w2.heap.size = w0.heap.size + 1 → wpList P ops Q rest (a.put o.dst undef) w2) : wpList P ops Q (o :: rest) a w := by
  subst hw
  subst hb
  obtain ⟨f1, f2, f3⟩ := fresh (w := w0) (t := t) hz
  refine wpList_store_mid hgd t x y ho w0.heap.size 0 vs.toArray hx hy (fresh_there _ (by simpa using hz)) (by simpa using hi) (all_oneCell_toArray h1) ?_
  exact h _ f1 f2 f3
section
variable (d g : Nat) (v : Value) (lie : List (List UInt8)) (ws : List (Nat × List UInt8)) (w : World)
end
end Go.Proofs.YtoegohofmhijgaaDoor.D
end
section
namespace Go.Proofs.YtoegohofmhijgaaDoor.D
open Go.RowKit
set_option linter.unusedVariables false
attribute [local go_sem ↓] Go.wp_at_zero Go.wp_at_succ

theorem made_one (c : Value) (m k : Nat) (hk : 0 < k) : (madeCells (Array.replicate k c) m).toList = List.replicate m c := by
  apply List.ext_getElem?
  intro j
  by_cases hj : j < m
  · have hlt : j % k < k := Nat.mod_lt _ hk
    simp [madeCells, hj, hlt]
  · simp [madeCells, hj]
theorem infoByte : (Tryd.prog.info? 5).map (fun i => (i.zero, i.size, i.bytes)) = some (some (.int .u8 0), 1, 1) := by kernel_rfl
theorem run_make_rowN {P : Program} (t e : TypeId) (i : TypeInfo) (z : Value) (ht : P.underlying t = some (.slice e)) (hi : P.info? e = some i) (hz : i.zero = some z)
    (kl kc : IntKind) (n : Nat) (hbytes : i.bytes * n ≤ 281474976710656) (h63 : n ≤ 9223372036854775807) (w : World) :
    (Instr.makeSlice t (.int kl (n : Int)) (.int kc (n : Int))).run P w = .ok (.slice (some ⟨w.heap.size, 0, none⟩) n n) (w.alloc (.cells (madeCells z.cells (n * i.size)) e)) := by
  have hb : (i.bytes : Int) * (n : Int) ≤ 281474976710656 := by
    have h : ((i.bytes * n : Nat) : Int) ≤ 281474976710656 := by omega
    rwa [Int.natCast_mul] at h
  have hr := run_make (P := P) w t e i z ht hi hz kl kc n n (by omega) (by omega) hb (by omega)
  simp only [Int.toNat_natCast] at hr
  exact hr
theorem flat_zero : ∀ n : Nat, (((List.replicate n (List.replicate 64 (0 : UInt8))).map bytesV).flatten) = List.replicate (n * 64) (.int .u8 0)
  | 0 => by simp
  | n + 1 => by
    have ih := flat_zero n
    rw [List.replicate_succ, List.map_cons, List.flatten_cons, ih, Nat.succ_mul, Nat.add_comm, ← List.replicate_append_replicate]
    congr 1

/-- What lies on a new disk. -/
def zeros (n : Nat) : List (List UInt8) := List.replicate n (List.replicate 64 0)
def fillL (c : UInt8) : List UInt8 := List.replicate 64 c
end Go.Proofs.YtoegohofmhijgaaDoor.D
end
section
namespace Go.Proofs.YtoegohofmhijgaaDoor.D
open Go.RowKit
set_option linter.unusedVariables false
attribute [local go_sem ↓] Go.wp_at_zero Go.wp_at_succ

theorem stopCopy {P : Program} {w : World} {ops : Array Oper} {rest : List Oper} {o : Oper} {a : Act} {Q : Exit → Act → World → Prop} (d s : Operand) (dT sT : TypeId)
    (ho : o.op = .call { callee := .builtin .copy, args := #[d, s], argTypes := #[dT, sT] }) (h : Hid (wpList P ops Q (o :: rest) a w)) : wpList P ops Q (o :: rest) a w := h
theorem sizeOf1 (w : World) : (Go.sizeOf 5).run Tryd.prog w = .ok 1 w := by kernel_rfl
/-- A string that is copied into a block. -/
theorem wpList_copy_text {w : World} {ops : Array Oper} {rest : List Oper} {o : Oper} {a : Act} {Q : Exit → Act → World → Prop} (hgd : o.guard = none) (d x : Operand)
    (ho : o.op = .call { callee := .builtin .copy, args := #[d, x], argTypes := #[48, 9] }) (b off dLen dCap : Nat) (hd : a.eval d = .slice (some ⟨b, off, none⟩) dLen dCap) (s : ByteArray) (hx : a.eval x = .string s) (hle : s.size ≤ dLen)
    (t : TypeId) (cs : List Value) (hW : Whole w b t cs) (hl : off + s.size ≤ cs.length)
    (h : ∀ w2, Whole w2 b t (splice cs off (bytesV s.data.toList)) → (∀ own : Nat → Prop, ∀ w0, (own b ∨ w0.heap.size ≤ b) → Kept own w0 w → Kept own w0 w2) → w2.heap.size = w.heap.size → wpList Tryd.prog ops Q rest (a.put o.dst (goInt s.size)) w2) :
    wpList Tryd.prog ops Q (o :: rest) a w := by
  refine wpList_plain hgd fun K hK => ?_
  have hth := hW.there off s.size hl
  have hrun := run_copy_string (P := Tryd.prog) w 48 9 o.type 5 b off dLen dCap s Tryd.underlying48 sizeOf1 hle (fun j hj => (hth j hj).1) (fun j hj => (hth j hj).2)
  unfold Oper.wp
  simp [execOp, ho, resolve, invoke, builtin, hd, hx, hrun, Result.andThen]
  have hsz : (bytesV s.data.toList).length = s.size := by rw [bytesV_len]; simp
  exact hK _ _ (h _ (hW.store off (bytesV s.data.toList) (by rw [hsz]; exact hl)) (fun own w0 hb hk => hk.setCells hb _ _) (size_setCells _ _ _ _))

/-- The blocks of a disk. -/
def mine (d g : Nat) (v : Value) : Nat → Prop := fun k => k = d ∨ k = g ∨ v.ownBlock = some k
theorem wrow_splice (a : Nat) (s : List UInt8) (h : s.length = 64) : splice (wrow (a, List.replicate 64 0)) 1 (bytesV s) = wrow (a, s) := by
  unfold splice wrow
  rw [List.take_succ_cons, List.take_zero, show 1 + (bytesV s).length = 64 + 1 by rw [bytesV_len]; omega, List.drop_succ_cons, List.drop_eq_nil_of_le (by simp [bytesV])]
  simp

/-- A row of cells behind a pointer, as a region that draws its order reads it. -/
def readAt (w : World) (v : Value) (n : Nat) : List Value :=
  match v with
  | .pointer (some ⟨b, o, none⟩) => (List.range n).map fun j => (w.cell? ⟨b, o + j, none⟩).getD undef
  | _ => []
def hasAt (w : World) (v : Value) (n : Nat) : Prop := ∃ b o, v = .pointer (some ⟨b, o, none⟩) ∧ ∀ j, j < n → (w.cell? ⟨b, o + j, none⟩).isSome = true
theorem read_of {w : World} {b o n : Nat} {cs : List Value} (h : w.rangeAt b o cs) (hn : cs.length = n) : readAt w (.pointer (some ⟨b, o, none⟩)) n = cs := by
  apply List.ext_getElem?
  intro j
  by_cases hj : j < n
  · show ((List.range n).map fun j => (w.cell? ⟨b, o + j, none⟩).getD undef)[j]? = _
    rw [List.getElem?_map, List.getElem?_range hj, List.getElem?_eq_getElem (by omega)]
    simp [h j _ (List.getElem?_eq_getElem (by omega))]
  · show ((List.range n).map fun j => (w.cell? ⟨b, o + j, none⟩).getD undef)[j]? = _
    rw [List.getElem?_eq_none (by simp; omega), List.getElem?_eq_none (by omega)]
theorem has_of {w : World} {b o n : Nat} {cs : List Value} (h : w.rangeAt b o cs) (hn : cs.length = n) : hasAt w (.pointer (some ⟨b, o, none⟩)) n := ⟨b, o, rfl, fun j hj => by rw [h j _ (List.getElem?_eq_getElem (by omega))]; rfl⟩
theorem fold_at : ∀ (l : List Value) (k : Nat) (b : Array Value), ((l.zipIdx k).foldl (fun cs x => cs.setIfInBounds x.2 x.1) b).size = b.size ∧ ∀ i, i < b.size → ((l.zipIdx k).foldl (fun cs x => cs.setIfInBounds x.2 x.1) b)[i]? = if k ≤ i ∧ i < k + l.length then l[i - k]? else b[i]?
  | [], k, b => ⟨rfl, fun i _ => by rw [if_neg (by simp)]; rfl⟩
  | c :: l, k, b => by
    obtain ⟨h1, h2⟩ := fold_at l (k + 1) (b.setIfInBounds k c)
    rw [List.zipIdx_cons, List.foldl_cons]
    refine ⟨by rw [h1]; simp, fun i hi => ?_⟩
    rw [h2 i (by simpa using hi)]
    by_cases c1 : k + 1 ≤ i ∧ i < k + 1 + l.length
    · rw [if_pos c1, if_pos (by simp; omega), show i - k = (i - (k + 1)) + 1 by omega, List.getElem?_cons_succ]
    · rw [if_neg c1]
      by_cases c2 : i = k
      · subst c2
        rw [if_pos (by simp)]
        simp [hi]
      · rw [if_neg (by simp; omega), Array.getElem?_setIfInBounds_ne (by omega)]
theorem fold_all (cs b : Array Value) (h : b.size = cs.size) : cs.zipIdx.foldl (fun (acc : Array Value) (x : Value × Nat) => acc.setIfInBounds (0 + x.2) x.1) b = cs := by
  obtain ⟨l⟩ := cs
  have e : ((⟨l⟩ : Array Value).zipIdx).foldl (fun (acc : Array Value) (x : Value × Nat) => acc.setIfInBounds (0 + x.2) x.1) b = (l.zipIdx 0).foldl (fun cs x => cs.setIfInBounds x.2 x.1) b := by
    simp
  rw [e]
  obtain ⟨h1, h2⟩ := fold_at l 0 b
  apply Array.ext_getElem?
  intro i
  by_cases hi : i < b.size
  · rw [h2 i hi, if_pos (by simp at h; omega)]; simp
  · rw [Array.getElem?_eq_none (by rw [h1]; omega), Array.getElem?_eq_none (by omega)]
theorem own_whole {w : World} {base : Nat} {e : TypeId} {size n gg cap : Nat} {xs : List Value} (h : w.ownsRow base e size (.slice (some ⟨gg, 0, none⟩) n cap) n xs) : ∃ cur, Whole w gg e cur := by
  rcases h.2 with ⟨h0, _⟩ | ⟨g', cap', cur, hv, _, hh, _⟩
  · cases h0
  · cases hv
    exact ⟨cur.toList, by simpa [Whole] using hh⟩
end Go.Proofs.YtoegohofmhijgaaDoor.D
end
