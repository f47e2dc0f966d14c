/- Blocks that hold rows of one size; bytes as cells; nothing of the program. -/
import Derived.WalkKit
import Derived.Below
import Derived.Deep.MidRow
import Derived.Laws.AppendOwn
import Derived.Laws.CopyOwn
import Derived.Laws.MakeOwn
import Derived.Deep.Draws
namespace Go.Proofs.Ytnekiiahgidkoaa.D
open Go.RowKit
set_option linter.unusedVariables false

/-- Rows of sz cells, one behind the other. -/
def Even (sz : Nat) (rows : List (List Value)) : Prop := ∀ r ∈ rows, r.length = sz
theorem Even.tail {sz : Nat} {r : List Value} {rows : List (List Value)} (h : Even sz (r :: rows)) : Even sz rows := fun x hx => h x (by simp [hx])
theorem flat_len {sz : Nat} : ∀ {rows : List (List Value)}, Even sz rows → rows.flatten.length = rows.length * sz
  | [], _ => by simp
  | r :: rows, h => by rw [List.flatten_cons, List.length_append, flat_len h.tail, h r (by simp), List.length_cons, Nat.succ_mul, Nat.add_comm]
theorem flat_at {sz : Nat} : ∀ {rows : List (List Value)} (h : Even sz rows) (i j : Nat), j < sz → rows.flatten[i * sz + j]? = (rows[i]?).bind (·[j]?)
  | [], _, i, j, _ => by simp
  | r :: rows, h, 0, j, hj => by
    have hr := h r (by simp)
    rw [List.flatten_cons, Nat.zero_mul, Nat.zero_add, List.getElem?_append_left (by omega)]
    simp
  | r :: rows, h, i + 1, j, hj => by
    have hr := h r (by simp)
    rw [List.flatten_cons, List.getElem?_append_right (by rw [hr, Nat.succ_mul]; omega), hr, show (i + 1) * sz + j - sz = i * sz + j by rw [Nat.succ_mul]; omega, flat_at h.tail i j hj]
    simp
theorem flat_take {sz : Nat} : ∀ {rows : List (List Value)} (h : Even sz rows) (k : Nat), rows.flatten.take (k * sz) = (rows.take k).flatten
  | [], _, k => by simp
  | r :: rows, h, 0 => by simp
  | r :: rows, h, k + 1 => by
    have hr := h r (by simp)
    rw [List.flatten_cons, List.take_append, hr, show (k + 1) * sz - sz = k * sz by rw [Nat.succ_mul]; omega, flat_take h.tail k, List.take_succ_cons, List.flatten_cons, List.take_of_length_le (by rw [hr, Nat.succ_mul]; omega)]
theorem flat_drop {sz : Nat} : ∀ {rows : List (List Value)} (h : Even sz rows) (k : Nat), rows.flatten.drop (k * sz) = (rows.drop k).flatten
  | [], _, k => by simp
  | r :: rows, h, 0 => by simp
  | r :: rows, h, k + 1 => by
    have hr := h r (by simp)
    rw [List.flatten_cons, List.drop_append, hr, show (k + 1) * sz - sz = k * sz by rw [Nat.succ_mul]; omega, flat_drop h.tail k, List.drop_succ_cons, List.drop_eq_nil_of_le (by rw [hr, Nat.succ_mul]; omega), List.nil_append]
theorem Even.set {sz : Nat} {rows : List (List Value)} (h : Even sz rows) (i : Nat) {r : List Value} (hr : r.length = sz) : Even sz (rows.set i r) := fun x hx => by
  rcases List.mem_or_eq_of_mem_set hx with h1 | h1
  · exact h x h1
  · rw [h1]; exact hr
theorem Even.app {sz : Nat} {a b : List (List Value)} (h : Even sz a) (k : Even sz b) : Even sz (a ++ b) := fun x hx => by
  rcases List.mem_append.1 hx with h1 | h1
  · exact h x h1
  · exact k x h1
theorem Even.take {sz : Nat} {a : List (List Value)} (h : Even sz a) (k : Nat) : Even sz (a.take k) := fun x hx => h x (List.mem_of_mem_take hx)
theorem splice_row {sz : Nat} {rows : List (List Value)} (h : Even sz rows) (i : Nat) (hi : i < rows.length) {r : List Value} (hr : r.length = sz) : splice rows.flatten (i * sz) r = (rows.set i r).flatten := by
  unfold splice
  rw [flat_take h, show i * sz + r.length = (i + 1) * sz by rw [hr, Nat.succ_mul], flat_drop h, List.set_eq_take_append_cons_drop, if_pos hi, List.flatten_append, List.flatten_cons]

theorem splice_cons (cur : List Value) (o : Nat) (v : Value) (vs : List Value) (ho : o < cur.length) : splice (cur.set o v) (o + 1) vs = splice cur o (v :: vs) := by
  have e1 : (cur.set o v).take (o + 1) = cur.take o ++ [v] := by
    rw [List.set_eq_take_append_cons_drop, if_pos ho, List.take_append, List.length_take, Nat.min_eq_left (Nat.le_of_lt ho), show o + 1 - o = 1 by omega, List.take_of_length_le (by simp; omega)]
    rfl
  have e2 : (cur.set o v).drop (o + 1 + vs.length) = cur.drop (o + (v :: vs).length) := by
    rw [List.drop_set_of_lt (by omega), List.length_cons]
    congr 1; omega
  unfold splice
  rw [e1, e2, List.append_assoc]; rfl
/-- What a store of many cells leaves of the block. -/
theorem heap_setCells {b : Nat} {t : TypeId} {fr : Nat × Nat} : ∀ (vs : List Value) (o : Nat) (cur : List Value) (w : World), w.heap[b]? = some (.cells cur.toArray t fr) → o + vs.length ≤ cur.length → (w.setCells b o vs).heap[b]? = some (.cells (splice cur o vs).toArray t fr)
  | [], o, cur, w, h, _ => by simpa [splice, World.setCells] using h
  | v :: vs, o, cur, w, h, hl => by
    have h1 : (w.setCell ⟨b, o, none⟩ v).heap[b]? = some (.cells (cur.set o v).toArray t fr) := by
      simp [World.setCell, Array.getElem?_modify, h]
    have := heap_setCells vs (o + 1) (cur.set o v) _ h1 (by simp at hl ⊢; omega)
    rw [World.setCells, this]
    rw [splice_cons cur o v vs (by simp at hl; omega)]
theorem size_setCells (b : Nat) : ∀ (vs : List Value) (o : Nat) (w : World), (w.setCells b o vs).heap.size = w.heap.size
  | [], _, _ => rfl
  | v :: vs, o, w => by rw [World.setCells, size_setCells b vs]; simp [World.setCell]
theorem heap_setCells_far (b : Nat) {k : Nat} (hk : k ≠ b) : ∀ (vs : List Value) (o : Nat) (w : World), (w.setCells b o vs).heap[k]? = w.heap[k]?
  | [], _, _ => rfl
  | v :: vs, o, w => by rw [World.setCells, heap_setCells_far b hk vs]; exact Below.heap_setCell w ⟨b, o, none⟩ v k hk
theorem outer_setCells (b : Nat) : ∀ (vs : List Value) (o : Nat) (w : World), (w.setCells b o vs).os = w.os ∧ (w.setCells b o vs).tape = w.tape ∧ (w.setCells b o vs).output = w.output
  | [], _, _ => ⟨rfl, rfl, rfl⟩
  | v :: vs, o, w => outer_setCells b vs (o + 1) (w.setCell ⟨b, o, none⟩ v)
theorem drewN_setCells (b : Nat) : ∀ (vs : List Value) (o n : Nat) (w : World), (w.drewN n).setCells b o vs = (w.setCells b o vs).drewN n
  | [], _, _, _ => rfl
  | v :: vs, o, n, w => by rw [World.setCells, World.setCells]; exact drewN_setCells b vs (o + 1) n (w.setCell ⟨b, o, none⟩ v)

/-- Block b is just these cells, none of them frozen. -/
def Whole (w : World) (b : Nat) (t : TypeId) (cs : List Value) : Prop := w.heap[b]? = some (.cells cs.toArray t (0, 0))
theorem Whole.lt {w : World} {b : Nat} {t : TypeId} {cs : List Value} (h : Whole w b t cs) : b < w.heap.size := (Array.getElem?_eq_some_iff.1 h).1
theorem Whole.cell {w : World} {b : Nat} {t : TypeId} {cs : List Value} (h : Whole w b t cs) (i : Nat) : w.cell? ⟨b, i, none⟩ = cs[i]? := by
  have := cell_of_row w b i _ _ _ h
  simpa using this
theorem Whole.frozen {w : World} {b : Nat} {t : TypeId} {cs : List Value} (h : Whole w b t cs) (i : Nat) : w.frozen? ⟨b, i, none⟩ = false := by
  unfold Whole at h; simp [World.frozen?, h]
theorem Whole.below {w w' : World} {b B : Nat} {t : TypeId} {cs : List Value} (h : Whole w b t cs) (hb : Below B w w') (hB : b < B) : Whole w' b t cs := (hb.block b hB).trans h
theorem Whole.kept {w w' : World} {b : Nat} {t : TypeId} {cs : List Value} {row : Option Nat} (h : Whole w b t cs) (hg : w.grownBy w' row) (hne : some b ≠ row) : Whole w' b t cs := (hg.block b h.lt hne).trans h
theorem Whole.range {w : World} {b : Nat} {t : TypeId} {cs : List Value} (h : Whole w b t cs) : w.rangeAt b 0 cs := fun j v hv => by rw [Nat.zero_add, h.cell j]; exact hv
theorem Whole.there {w : World} {b : Nat} {t : TypeId} {cs : List Value} (h : Whole w b t cs) (o n : Nat) (hn : o + n ≤ cs.length) : w.there b o n := fun j hj =>
  ⟨by rw [h.cell, List.getElem?_eq_getElem (by omega)]; rfl, h.frozen _⟩
theorem Whole.row {w : World} {b sz : Nat} {t : TypeId} {rows : List (List Value)} (h : Whole w b t rows.flatten) (he : Even sz rows) {i : Nat} {r : List Value} (hr : rows[i]? = some r) : w.rangeAt b (i * sz) r := fun j v hv => by
  have hlen := he r (List.mem_of_getElem? hr)
  have hj : j < sz := by have := (List.getElem?_eq_some_iff.1 hv).1; omega
  rw [h.cell, flat_at he i j hj, hr]; exact hv
theorem Whole.part {w : World} {b : Nat} {t : TypeId} {cs : List Value} (h : Whole w b t cs) (o n : Nat) : w.rangeAt b o ((cs.drop o).take n) := fun j v hv => by
  rw [h.cell]
  rw [List.getElem?_take] at hv
  split at hv
  · rw [List.getElem?_drop] at hv; exact hv
  · cases hv
theorem Whole.new (w : World) (t : TypeId) (cs : List Value) : Whole (w.alloc (.cells cs.toArray t)) w.heap.size t cs := heap_alloc_new w _
theorem Whole.alloc {w : World} {b : Nat} {t : TypeId} {cs : List Value} (h : Whole w b t cs) (o : Obj) : Whole (w.alloc o) b t cs := (Below.heap_alloc w o b h.lt).trans h
theorem Whole.drewN {w : World} {b : Nat} {t : TypeId} {cs : List Value} (h : Whole w b t cs) (n : Nat) : Whole (w.drewN n) b t cs := h
theorem Whole.store {w : World} {b : Nat} {t : TypeId} {cs : List Value} (h : Whole w b t cs) (o : Nat) (vs : List Value) (hl : o + vs.length ≤ cs.length) : Whole (w.setCells b o vs) b t (splice cs o vs) := heap_setCells vs o cs w h hl
theorem Whole.far {w : World} {b c : Nat} {t : TypeId} {cs : List Value} (h : Whole w b t cs) (hne : b ≠ c) (o : Nat) (vs : List Value) : Whole (w.setCells c o vs) b t cs := (heap_setCells_far c hne vs o w).trans h
theorem Whole.ne {w : World} {b c : Nat} {t u : TypeId} {cs ds : List Value} (h : Whole w b t cs) (k : Whole w c u ds) (hne : t ≠ u) : b ≠ c := by
  rintro rfl
  unfold Whole at h k
  rw [h] at k
  injection k with k
  injection k with _ k
  exact hne k

/-- All is as it was but for some blocks, and new ones. -/
structure Kept (own : Nat → Prop) (w w' : World) : Prop where
  os : w'.os = w.os
  tape : w'.tape = w.tape
  output : w'.output = w.output
  size : w.heap.size ≤ w'.heap.size
  block : ∀ k, k < w.heap.size → ¬ own k → w'.heap[k]? = w.heap[k]?
theorem Kept.refl (own : Nat → Prop) (w : World) : Kept own w w := ⟨rfl, rfl, rfl, Nat.le_refl _, fun _ _ _ => rfl⟩
theorem Kept.trans {own : Nat → Prop} {a b c : World} (h : Kept own a b) (k : Kept own b c) : Kept own a c :=
  ⟨k.os.trans h.os, k.tape.trans h.tape, k.output.trans h.output, Nat.le_trans h.size k.size, fun i hi ho => (k.block i (Nat.lt_of_lt_of_le hi h.size) ho).trans (h.block i hi ho)⟩
theorem Kept.mono {own own' : Nat → Prop} {a b : World} (h : Kept own a b) (hm : ∀ k, k < a.heap.size → own k → own' k) : Kept own' a b := ⟨h.os, h.tape, h.output, h.size, fun i hi ho => h.block i hi (fun e => ho (hm i hi e))⟩
theorem Kept.of_below {own : Nat → Prop} {a b : World} (h : Below a.heap.size a b) : Kept own a b := ⟨h.os, h.tape, h.output, h.size, fun i hi _ => h.block i hi⟩
theorem Kept.below {own : Nat → Prop} {a b : World} {B : Nat} (h : Kept own a b) (hB : B ≤ a.heap.size) (ho : ∀ k, own k → B ≤ k) : Below B a b := ⟨h.os, h.tape, h.output, h.size, fun i hi => h.block i (by omega) (fun e => by have := ho i e; omega)⟩
theorem Kept.setCells {own : Nat → Prop} {a b : World} (h : Kept own a b) {c : Nat} (hc : own c ∨ a.heap.size ≤ c) (o : Nat) (vs : List Value) : Kept own a (b.setCells c o vs) := by
  obtain ⟨h1, h2, h3⟩ := outer_setCells c vs o b
  refine ⟨h1.trans h.os, h2.trans h.tape, h3.trans h.output, by rw [size_setCells]; exact h.size, fun i hi ho => ?_⟩
  rw [heap_setCells_far c (by rintro rfl; rcases hc with e | e; exact ho e; omega)]
  exact h.block i hi ho
theorem Kept.setCell {own : Nat → Prop} {a b : World} (h : Kept own a b) {c : Nat} (hc : own c ∨ a.heap.size ≤ c) (o : Nat) (v : Value) : Kept own a (b.setCell ⟨c, o, none⟩ v) := h.setCells hc o [v]
theorem Kept.alloc {own : Nat → Prop} {a b : World} (h : Kept own a b) (o : Obj) : Kept own a (b.alloc o) := h.trans (Kept.of_below ((Below.refl _ _).alloc (Nat.le_refl _) o))
theorem Kept.drewN {own : Nat → Prop} {a b : World} (h : Kept own a b) (n : Nat) : Kept own a (b.drewN n) := ⟨h.os, h.tape, h.output, h.size, h.block⟩
theorem Kept.grown {own : Nat → Prop} {a b c : World} {row : Option Nat} (h : Kept own a b) (hg : b.grownBy c row) (hr : ∀ k, row = some k → own k ∨ a.heap.size ≤ k) : Kept own a c :=
  ⟨hg.os.trans h.os, hg.tape.trans h.tape, hg.output.trans h.output, Nat.le_trans h.size hg.size, fun i hi ho => (hg.block i (Nat.lt_of_lt_of_le hi h.size) (fun e => by rcases hr i e.symm with e1 | e1; exact ho e1; omega)).trans (h.block i hi ho)⟩
theorem Whole.of_kept {own : Nat → Prop} {w w' : World} {b : Nat} {t : TypeId} {cs : List Value} (h : Whole w b t cs) (hk : Kept own w w') (ho : ¬ own b) : Whole w' b t cs := (hk.block b h.lt ho).trans h
theorem own_of_kept {own : Nat → Prop} {w w' : World} {base : Nat} {e : TypeId} {size : Nat} {v : Value} {n : Nat} {xs : List Value} (h : w.ownsRow base e size v n xs) (hk : Kept own w w') (ho : ∀ k, v.ownBlock = some k → ¬ own k) : w'.ownsRow base e size v n xs := by
  refine ⟨h.1, ?_⟩
  rcases h.2 with hn | ⟨g, cap, cur, rfl, hb, hgg, rest⟩
  · exact .inl hn
  · exact .inr ⟨g, cap, cur, rfl, hb, (hk.block g (Array.getElem?_eq_some_iff.1 hgg).1 (ho g rfl)).trans hgg, rest⟩

/-- Bytes as cells. -/
def u8v (b : UInt8) : Value := .int .u8 (b.toNat : Int)
def bytesV (s : List UInt8) : List Value := s.map u8v
theorem bytesV_len (s : List UInt8) : (bytesV s).length = s.length := by simp [bytesV]
theorem bytesV_one (s : List UInt8) : ∀ v ∈ bytesV s, v.oneCell' = true := fun v hv => by
  obtain ⟨b, _, rfl⟩ := List.mem_map.1 hv; rfl
end Go.Proofs.Ytnekiiahgidkoaa.D
