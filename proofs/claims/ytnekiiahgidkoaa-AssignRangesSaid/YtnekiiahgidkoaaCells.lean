/- Results that are variables of many cells; arrays of bytes that are held against one another; nothing of the program but its types. -/
import Derived.WalkKit
import Derived.Deep.MidRow
import Derived.ChangeKeysEq
import Derived.Test.YtnekiiahgidkoaaFlat
import Derived.Test.YtnekiiahgidkoaaProg
import Derived.Test.YtnekiiahgidkoaaWorld
section
namespace Go.Proofs.Ytnekiiahgidkoaa.W
open Go.RowKit
theorem drewS {B : Nat} {a w : World} (h : Below B a w) (n : Nat) : Below B a (w.drewN n) := ⟨h.os, h.tape, h.output, h.size, h.block⟩
end Go.Proofs.Ytnekiiahgidkoaa.W
end
section
namespace Go.Proofs.Ytnekiiahgidkoaa.Z
open Go.RowKit
open Go.Proofs.Ytnekiiahgidkoaa.D
set_option linter.unusedVariables false

theorem result_cell {P : Program} {fn : Func} {tmps : Array Value} {w : World} {r b : Nat} {t : TypeId} {cs : List Value} {d : TypeDesc} (hr : fn.results = #[.cell r t]) (hp : tmps.getD r undef = .pointer (some ⟨b, 0, none⟩))
    (hc : w.rangeAt b 0 cs) (hu : P.underlying t = some d) (hd : d.isRow = true) (hi : (P.info? t).map (·.size) = some cs.length) : (results fn tmps).run P w = .ok (.agg cs.toArray) w := by
  have h1 := run_loadVar_mid (P := P) w b 0 t cs d hc hu hd hi
  have hp' : tmps[r]?.getD undef = .pointer (some ⟨b, 0, none⟩) := by simpa using hp
  simp [results, hr, hp', asAddr, h1]
theorem result_cell_tmp {P : Program} {fn : Func} {tmps : Array Value} {w : World} {r b s : Nat} {t : TypeId} {v : Value} {cs : List Value} {d : TypeDesc} (hr : fn.results = #[.cell r t, .tmp s]) (hp : tmps.getD r undef = .pointer (some ⟨b, 0, none⟩)) (hv : tmps.getD s undef = v)
    (hc : w.rangeAt b 0 cs) (hu : P.underlying t = some d) (hd : d.isRow = true) (hi : (P.info? t).map (·.size) = some cs.length) : (results fn tmps).run P w = .ok (.tuple #[.agg cs.toArray, v]) w := by
  have h1 := run_loadVar_mid (P := P) w b 0 t cs d hc hu hd hi
  have hp' : tmps[r]?.getD undef = .pointer (some ⟨b, 0, none⟩) := by simpa using hp
  have hv' : tmps[s]?.getD undef = v := by simpa using hv
  simp [results, hr, hp', hv', asAddr, h1]
/-- A block's cells all stored anew. -/
theorem whole_all {w : World} {b : Nat} {t : TypeId} {cs vs : List Value} (h : Whole w b t cs) (hl : vs.length = cs.length) : Whole (w.setCells b 0 vs) b t vs := by
  have e := h.store 0 vs (by omega)
  have e2 : splice cs 0 vs = vs := by unfold splice; rw [List.take_zero, List.nil_append, Nat.zero_add, hl, List.drop_length, List.append_nil]
  rw [e2] at e
  exact e
/-- Three blocks of a call's own. -/
theorem three_boxes (w : World) (t1 t2 t3 : TypeId) (x y z : List Value) : ∃ W, W = ((w.alloc (.cells x.toArray t1)).alloc (.cells y.toArray t2)).alloc (.cells z.toArray t3) ∧
    Whole W w.heap.size t1 x ∧ Whole W (w.heap.size + 1) t2 y ∧ Whole W (w.heap.size + 1 + 1) t3 z ∧ Below w.heap.size w W := by
  refine ⟨_, rfl, ((Whole.new w t1 x).alloc _).alloc _, ?_, ?_, (((Below.refl _ _).alloc (Nat.le_refl _) _).alloc (by simp) _).alloc (by simp; omega) _⟩
  · have h := (Whole.new (w.alloc (.cells x.toArray t1)) t2 y).alloc (.cells z.toArray t3)
    simpa using h
  · have h := Whole.new ((w.alloc (.cells x.toArray t1)).alloc (.cells y.toArray t2)) t3 z
    simpa using h
theorem below_store {B : Nat} {a w : World} (h : Below B a w) {c : Nat} (hc : B ≤ c) (hs : B ≤ a.heap.size) (o : Nat) (vs : List Value) : Below B a (w.setCells c o vs) :=
  h.trans (((Kept.refl (fun q => q = c) w).setCells (c := c) (.inl rfl) o vs).below (Nat.le_trans hs h.size) (fun k e => by omega))
end Go.Proofs.Ytnekiiahgidkoaa.Z
end
section
namespace Go.Proofs.Ytnekiiahgidkoaa.D
open Go.RowKit
set_option linter.unusedVariables false

theorem aggU8 : ∀ w, (isAgg 5).run Try.prog w = .ok false w := fun w => by kernel_rfl
theorem cellsU8' : Try.prog.cellsOf 5 = 1 := by kernel_rfl
theorem info_u8 : ∃ i, Try.prog.info? 5 = some i := by
  obtain ⟨i, hi, _⟩ := Option.map_eq_some_iff.1 (show (Try.prog.info? 5).map (·.size) = some 1 from by kernel_rfl)
  exact ⟨i, hi⟩
theorem eq_items (d : Nat) (l m : List UInt8) (w : World) : ∀ is : List Nat, (∀ i ∈ is, i < l.length ∧ i < m.length) →
    (Op.eqItems (d + 1) 5 1 (bytesV l).toArray (bytesV m).toArray is).run Try.prog w = .ok (decide (∀ i ∈ is, l[i]? = m[i]?)) w
  | [], _ => by simp [Op.eqItems]
  | i :: is, h => by
    obtain ⟨h1, h2⟩ := h i (by simp)
    have ih := eq_items d l m w is (fun j hj => h j (by simp [hj]))
    have p1 : (part 5 (bytesV l).toArray (i * 1)).run Try.prog w = .ok (u8v l[i]) w := by
      simp [part, bytesV, h1]
    have p2 : (part 5 (bytesV m).toArray (i * 1)).run Try.prog w = .ok (u8v m[i]) w := by
      simp [part, bytesV, h2]
    have p3 : (Op.equalIn (d + 1) 5 (u8v l[i]) (u8v m[i])).run Try.prog w = .ok (((l[i].toNat : Int)) == (m[i].toNat : Int)) w := run_equalIn_int w d 5 .u8 .u8 _ _ Try.underlying5
    simp only [Op.eqItems, Sem.run_bind, p1, p2, p3, Result.andThen_ok]
    by_cases e : l[i] = m[i]
    · have e2 : l[i]? = m[i]? := by rw [List.getElem?_eq_getElem h1, List.getElem?_eq_getElem h2, e]
      rw [show ((l[i].toNat : Int) == (m[i].toNat : Int)) = true from by rw [e]; simp]
      simp only [Bool.not_true, Bool.false_eq_true, if_false, ih]
      exact congrArg (fun b => Result.ok b w) (by rw [decide_eq_decide]; simp [e2])
    · have e3 : ((l[i].toNat : Int) == (m[i].toNat : Int)) = false := by
        rw [beq_eq_false_iff_ne]
        intro h
        exact e (UInt8.toNat_inj.1 (Int.ofNat.inj h))
      rw [e3]
      simp only [Bool.not_false, if_true, Sem.run_pure]
      refine congrArg (fun b => Result.ok b w) (Eq.symm ?_)
      rw [decide_eq_false_iff_not]
      intro h
      have := h i (by simp)
      rw [List.getElem?_eq_getElem h1, List.getElem?_eq_getElem h2] at this
      exact e (Option.some.inj this)
/-- Two arrays of n bytes. -/
theorem equal_bytes (t : TypeId) (n : Nat) (ht : Try.prog.underlying t = some (.array n 5)) (l m : List UInt8) (hl : l.length = n) (hm : m.length = n) (w : World) :
    (Op.equalIn 10000 t (.agg (bytesV l).toArray) (.agg (bytesV m).toArray)).run Try.prog w = .ok (decide (l = m)) w := by
  obtain ⟨i, hi⟩ := info_u8
  rw [run_equalIn_array w 9999 _ _ ht hi, cellsU8', eq_items 9998 l m w (List.range n) (fun j hj => by simp at hj; omega)]
  refine congrArg (fun b => Result.ok b w) ?_
  rw [decide_eq_decide]
  constructor
  · intro h
    apply List.ext_getElem?
    intro j
    by_cases hj : j < n
    · exact h j (by simpa using hj)
    · rw [List.getElem?_eq_none (by omega), List.getElem?_eq_none (by omega)]
  · rintro rfl j _; rfl
end Go.Proofs.Ytnekiiahgidkoaa.D
end
