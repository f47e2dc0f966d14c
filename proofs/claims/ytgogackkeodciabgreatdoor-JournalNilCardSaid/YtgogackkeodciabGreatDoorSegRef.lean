/- Sixteen sectors: pieces that are put, and what runs from a place on; nothing of the program. The walks of the definition of segments: Put, Blank. The walk of the definition of segments: run. The walk of the definition of segments: Create. The walk of the definition of segments: Append, the refused ways. The walk of the definition of segments: Append that appends. -/
import Derived.WalkKit
import Derived.Test.YtgogackkeodciabGreatDoorSealM
import Derived.Test.YtgogackkeodciabGreatDoorFlat
import Derived.Test.YtgogackkeodciabGreatDoorCells
import Derived.Test.YtgogackkeodciabGreatDoorZeros
import Derived.Test.YtgogackkeodciabGreatDoorQuietB
import Derived.Test.YtgogackkeodciabGreatDoorSeal
import Derived.Test.YtgogackkeodciabGreatDoorHdRef
import Derived.Test.YtgogackkeodciabGreatDoorHeaderM
import Derived.Test.YtgogackkeodciabGreatDoorPiecesA
import Derived.Test.YtgogackkeodciabGreatDoorFrRef
import Derived.Deep.Cut
import Derived.Deep.AppendLies
import Derived.Laws.AppendOwnNone
section
namespace Go.Proofs.YtgogackkeodciabGreatDoor.M
open Go.RowKit
open Go.Proofs.YtgogackkeodciabGreatDoor.D
set_option linter.unusedVariables false

/-- Strings as cells. -/
def rowS (x : List ByteArray) : List Value := x.map Value.string
theorem rowS_len (x : List ByteArray) : (rowS x).length = x.length := by simp [rowS]
theorem rowS_at {x : List ByteArray} {k : Nat} {s : ByteArray} (h : x[k]? = some s) : (rowS x)[k]? = some (.string s) := by simp [rowS, h]
theorem rowS_set (x : List ByteArray) (k : Nat) (s : ByteArray) : (rowS x).set k (.string s) = rowS (x.set k s) := by unfold rowS; rw [List.map_set]
theorem rowS_one (x : List ByteArray) : ∀ v ∈ rowS x, v.oneCell' = true := fun v hv => by
  obtain ⟨s, _, rfl⟩ := List.mem_map.1 hv
  rfl
/-- A sealed piece. -/
def sealP (st c : Nat) (p : ByteArray) : ByteArray := B (sealL st c p.data.toList)
/-- The first k pieces, put from a place on. -/
def putP (x : List ByteArray) (st c at_ : Nat) (p : Nat → ByteArray) : Nat → List ByteArray
  | 0 => x
  | k + 1 => (putP x st c at_ p k).set (at_ + k) (sealP st c (p k))
theorem putP_len (x : List ByteArray) (st c at_ : Nat) (p : Nat → ByteArray) (k : Nat) : (putP x st c at_ p k).length = x.length := by
  induction k with
  | zero => rfl
  | succ k ih => unfold putP; rw [List.length_set, ih]
theorem putP_at (x : List ByteArray) (st c at_ : Nat) (p : Nat → ByteArray) (k i : Nat) (hi : at_ + k ≤ x.length) :
    (putP x st c at_ p k)[i]? = if at_ ≤ i ∧ i < at_ + k then some (sealP st c (p (i - at_))) else x[i]? := by
  induction k with
  | zero => rw [if_neg (by omega)]; rfl
  | succ k ih =>
    unfold putP
    rw [List.getElem?_set, putP_len]
    by_cases h : at_ + k = i
    · subst h
      rw [if_pos rfl, if_pos (by omega), if_pos (by omega)]
      congr 3
      omega
    · rw [if_neg h, ih (by omega)]
      by_cases h2 : at_ ≤ i ∧ i < at_ + k
      · rw [if_pos h2, if_pos (by omega)]
      · rw [if_neg h2, if_neg (by omega)]
/-- Does the sector of a place open, by a stamp and a count? -/
def okS (x : List ByteArray) (st c k : Nat) : Prop := ∃ s, x[k]? = some s ∧ opensS s ∧ stampS s = st ∧ countS s = c
def datS (x : List ByteArray) (k : Nat) : ByteArray := (x.getD k ⟨#[]⟩).extract 6 58
open Classical in
/-- The data of the sectors from a place on that open so. -/
noncomputable def runF (x : List ByteArray) (st c : Nat) : Nat → Nat → ByteArray
  | 0, _ => ⟨#[]⟩
  | f + 1, k => if okS x st c k then datS x k ++ runF x st c f (k + 1) else ⟨#[]⟩
noncomputable def runS (x : List ByteArray) (st c k : Nat) : ByteArray := runF x st c (16 - k) k
theorem run_end (x : List ByteArray) (st c : Nat) : runS x st c 16 = ⟨#[]⟩ := rfl
open Classical in
theorem runF_succ (x : List ByteArray) (st c f k : Nat) :
    runF x st c (f + 1) k = if okS x st c k then datS x k ++ runF x st c f (k + 1) else ⟨#[]⟩ := rfl
theorem run_yes (x : List ByteArray) (st c k : Nat) (hk : k < 16) (h : okS x st c k) : runS x st c k = datS x k ++ runS x st c (k + 1) := by
  unfold runS
  rw [show 16 - k = (16 - (k + 1)) + 1 from by omega, runF_succ, if_pos h]
theorem run_no (x : List ByteArray) (st c k : Nat) (hk : k < 16) (h : ¬ okS x st c k) : runS x st c k = ⟨#[]⟩ := by
  unfold runS
  rw [show 16 - k = (16 - (k + 1)) + 1 from by omega, runF_succ, if_neg h]
theorem bytes_nil (a : ByteArray) : a ++ ⟨#[]⟩ = a := by
  apply ByteArray.ext
  simp
theorem bytes_assoc (a b c : ByteArray) : a ++ b ++ c = a ++ (b ++ c) := by
  apply ByteArray.ext
  simp
end Go.Proofs.YtgogackkeodciabGreatDoor.M
end
section
namespace Go.Proofs.YtgogackkeodciabGreatDoor.W
open Go.RowKit
open Go.Proofs.YtgogackkeodciabGreatDoor.M Go.Proofs.YtgogackkeodciabGreatDoor.D Go.Proofs.YtgogackkeodciabGreatDoor.Z
set_option linter.unusedVariables false

/-- Two blocks of a call's own. -/
theorem two_boxes (w : World) (t1 t2 : TypeId) (x y : List Value) : ∃ W, W = (w.alloc (.cells x.toArray t1)).alloc (.cells y.toArray t2) ∧
    Whole W w.heap.size t1 x ∧ Whole W (w.heap.size + 1) t2 y ∧ Below w.heap.size w W := by
  refine ⟨_, rfl, (Whole.new w t1 x).alloc _, ?_, ((Below.refl _ _).alloc (Nat.le_refl _) _).alloc (by simp) _⟩
  have h := Whole.new (w.alloc (.cells x.toArray t1)) t2 y
  simpa using h
theorem set_at (cur : List Value) (j : Nat) (v : Value) (h : j < cur.length) : splice cur j [v] = cur.set j v := by
  unfold splice
  rw [List.set_eq_take_append_cons_drop, if_pos h]
  rfl
/-- No sectors. -/
def noS : List ByteArray := List.replicate 16 ⟨#[]⟩
/-- Sixteen cells of no bytes. -/
abbrev cells16 : List Value := [.string ⟨#[]⟩, .string ⟨#[]⟩, .string ⟨#[]⟩, .string ⟨#[]⟩, .string ⟨#[]⟩, .string ⟨#[]⟩, .string ⟨#[]⟩, .string ⟨#[]⟩, .string ⟨#[]⟩, .string ⟨#[]⟩, .string ⟨#[]⟩, .string ⟨#[]⟩, .string ⟨#[]⟩, .string ⟨#[]⟩, .string ⟨#[]⟩, .string ⟨#[]⟩]
theorem cells16_one : ∀ v ∈ cells16, v.oneCell' = true := by
  intro v hv
  simp at hv
  rw [hv]; rfl
/-- Sectors of bytes 0. -/
def blankS : List ByteArray := List.replicate 16 (zerosB 64)
/-- The first k of them made. -/
def someS (k : Nat) : List ByteArray := List.replicate k (zerosB 64) ++ List.replicate (16 - k) ⟨#[]⟩
theorem someS_len (k : Nat) (hk : k ≤ 16) : (someS k).length = 16 := by simp [someS]; omega
theorem someS_set (k : Nat) (hk : k < 16) : (someS k).set k (zerosB 64) = someS (k + 1) := by
  unfold someS
  rw [List.set_append, if_neg (by simp), List.length_replicate, Nat.sub_self, show 16 - k = (16 - (k + 1)) + 1 from by omega, List.replicate_succ, List.set_cons_zero, List.replicate_succ']
  simp
theorem someS_zero : rowS (someS 0) = cells16 := rfl
theorem someS_all : someS 16 = blankS := by simp [someS, blankS]
end Go.Proofs.YtgogackkeodciabGreatDoor.W
end
section
namespace Go.Proofs.YtgogackkeodciabGreatDoor.W
open Go.RowKit
open Go.Proofs.YtgogackkeodciabGreatDoor.M Go.Proofs.YtgogackkeodciabGreatDoor.D Go.Proofs.YtgogackkeodciabGreatDoor.Z
set_option linter.unusedVariables false

theorem run_past (x : List ByteArray) (st c k : Nat) (hk : 16 ≤ k) : runS x st c k = ⟨#[]⟩ := by
  unfold runS
  rw [show 16 - k = 0 from by omega]
  rfl
end Go.Proofs.YtgogackkeodciabGreatDoor.W
end
section
namespace Go.Proofs.YtgogackkeodciabGreatDoor.W
open Go.RowKit
open Go.Proofs.YtgogackkeodciabGreatDoor.M Go.Proofs.YtgogackkeodciabGreatDoor.D Go.Proofs.YtgogackkeodciabGreatDoor.Z
set_option linter.unusedVariables false

/-- A Made, of a header, no frames, an end and sectors. -/
def madeL (x l c y : Value) : List Value := x.cells.toList ++ (l.cells.toList ++ (c.cells.toList ++ y.cells.toList))
theorem fill_cells (p : Nat → Option (Nat × Nat)) (z : Array Value) (i j k : Nat) (x c y : Value) : Instr.fill p z [(i, x), (j, c), (k, y)] = Instr.fill p z [(i, .agg x.cells), (j, .agg c.cells), (k, .agg y.cells)] := rfl
theorem built_cells (t : TypeId) (i j k : Nat) (x c y : Value) : Tryz.prog.built t [(i, x), (j, c), (k, y)] = Tryz.prog.built t [(i, .agg x.cells), (j, .agg c.cells), (k, .agg y.cells)] := by
  unfold Program.built
  generalize Tryz.prog.info? t = a
  generalize Tryz.prog.underlying t = b
  repeat' split
  all_goals first | rfl | exact fill_cells _ _ _ _ _ _ _ _
theorem list4 {l : List Value} (h : l.length = 4) : ∃ a b c d, l = [a, b, c, d] := by
  match l, h with
  | [a, b, c, d], _ => exact ⟨a, b, c, d, rfl⟩
theorem list16 {l : List Value} (h : l.length = 16) : ∃ y0 y1 y2 y3 y4 y5 y6 y7 y8 y9 ya yb yc yd ye yf, l = [y0, y1, y2, y3, y4, y5, y6, y7, y8, y9, ya, yb, yc, yd, ye, yf] := by
  match l, h with
  | [y0, y1, y2, y3, y4, y5, y6, y7, y8, y9, ya, yb, yc, yd, ye, yf], _ => exact ⟨y0, y1, y2, y3, y4, y5, y6, y7, y8, y9, ya, yb, yc, yd, ye, yf, rfl⟩
/-- Are n cells there, and not frozen? -/
def roomAt (w : World) (p : Value) (n : Nat) : Prop := ∃ b o, p = .pointer (some ⟨b, o, none⟩) ∧ w.there b o n
def laidAt (w : World) (p : Value) (cs : List Value) : World :=
  match p with
  | .pointer (some ⟨b, o, none⟩) => w.setCells b o cs
  | _ => w
def oneCells (v : Value) (n : Nat) : Prop := v.cells.size = n ∧ v = .agg v.cells ∧ v.cells.all (·.oneCell') = true
/-- No Made. -/
abbrev noMade : List Value := [.int .i64 0, .int .u32 0, .int .u32 0, .int .i64 0, .slice none 0 0, .int .i64 0, .string ⟨#[]⟩, .string ⟨#[]⟩, .string ⟨#[]⟩, .string ⟨#[]⟩, .string ⟨#[]⟩, .string ⟨#[]⟩, .string ⟨#[]⟩, .string ⟨#[]⟩, .string ⟨#[]⟩, .string ⟨#[]⟩, .string ⟨#[]⟩, .string ⟨#[]⟩, .string ⟨#[]⟩, .string ⟨#[]⟩, .string ⟨#[]⟩, .string ⟨#[]⟩]
theorem oneMade (x l c y : Value) (hx : x.cells.size = 4) (hl : l.cells.size = 1) (hc : c.cells.size = 1) (hy : y.cells.size = 16) (h1 : ∀ v ∈ x.cells.toList ++ (l.cells.toList ++ (c.cells.toList ++ y.cells.toList)), v.oneCell' = true) : oneCells (.agg (madeL x l c y).toArray) 22 := by
  refine ⟨?_, rfl, all_oneCell_toArray h1⟩
  show (madeL x l c y).toArray.size = 22
  unfold madeL
  simp [hx, hl, hc, hy]
theorem hdr_oneR (a g s b : Int) : ∀ v ∈ [Value.int .i64 a, .int .u32 g, .int .u32 s, .int .i64 b], v.oneCell' = true := by intro v hv; simp at hv; rcases hv with h | h | h | h <;> rw [h] <;> rfl
abbrev hdv (a g s b : Nat) : Value := .agg #[.int .i64 (a : Int), .int .u32 (g : Int), .int .u32 (s : Int), .int .i64 (b : Int)]
end Go.Proofs.YtgogackkeodciabGreatDoor.W
end
section
namespace Go.Proofs.YtgogackkeodciabGreatDoor.W
open Go.RowKit
open Go.Proofs.YtgogackkeodciabGreatDoor.M Go.Proofs.YtgogackkeodciabGreatDoor.D Go.Proofs.YtgogackkeodciabGreatDoor.Z
set_option linter.unusedVariables false

theorem list22 {l : List Value} (h : l.length = 22) : ∃ x0 x1 x2 x3 x4 x5 y0 y1 y2 y3 y4 y5 y6 y7 y8 y9 ya yb yc yd ye yf, l = [x0, x1, x2, x3, x4, x5, y0, y1, y2, y3, y4, y5, y6, y7, y8, y9, ya, yb, yc, yd, ye, yf] := by
  match l, h with
  | [x0, x1, x2, x3, x4, x5, y0, y1, y2, y3, y4, y5, y6, y7, y8, y9, ya, yb, yc, yd, ye, yf], _ => exact ⟨x0, x1, x2, x3, x4, x5, y0, y1, y2, y3, y4, y5, y6, y7, y8, y9, ya, yb, yc, yd, ye, yf, rfl⟩
/-- An Appended: a Made, a place, an error. -/
def appL (X : List Value) (c d : Int) : List Value := X ++ [Value.int .i64 c, Value.int .i64 d]
theorem appL_len (X : List Value) (c d : Int) (h : X.length = 22) : (appL X c d).length = 24 := by simp [appL, h]
theorem appL_one (X : List Value) (c d : Int) (h : ∀ v ∈ X, v.oneCell' = true) : ∀ v ∈ appL X c d, v.oneCell' = true := by
  intro v hv
  unfold appL at hv
  rcases List.mem_append.1 hv with h1 | h1
  · exact h v h1
  · simp at h1
    rcases h1 with h1 | h1 <;> rw [h1] <;> rfl
theorem zBuild {P : Program} {w : World} {ops : Array Oper} {rest : List Oper} {o : Oper} {a : Act} {Q : Exit → Act → World → Prop} (t : TypeId) (x : Array (Nat × Operand)) (ho : o.op = .build t x) (h : Hid (wpList P ops Q (o :: rest) a w)) : wpList P ops Q (o :: rest) a w := h
theorem wpList_built {P : Program} {w : World} {ops : Array Oper} {rest : List Oper} {o : Oper} {a : Act} {Q : Exit → Act → World → Prop} (hg : o.guard = none) (t : TypeId) (i j k : Nat) (x y z : Operand) (ho : o.op = .build t #[(i, x), (j, y), (k, z)]) (vx vy vz : Value)
    (hx : a.eval x = vx) (hy : a.eval y = vy) (hz : a.eval z = vz) (cs : Array Value)
    (hf : P.built t [(i, vx), (j, vy), (k, vz)] = some cs) (h : wpList P ops Q rest (a.put o.dst (.agg cs)) w) : wpList P ops Q (o :: rest) a w := by
  subst hx hy hz
  have hf' : P.built t (#[(i, x), (j, y), (k, z)].map fun (i, x) => (i, a.eval x)).toList = some cs := by simpa using hf
  exact wpList_build hg t _ ho (by rw [hf']; rfl) (by rw [hf']; exact h)
/-- No Appended. -/
abbrev noApp : List Value := [.int .i64 0, .int .u32 0, .int .u32 0, .int .i64 0, .slice none 0 0, .int .i64 0, .string ⟨#[]⟩, .string ⟨#[]⟩, .string ⟨#[]⟩, .string ⟨#[]⟩, .string ⟨#[]⟩, .string ⟨#[]⟩, .string ⟨#[]⟩, .string ⟨#[]⟩, .string ⟨#[]⟩, .string ⟨#[]⟩, .string ⟨#[]⟩, .string ⟨#[]⟩, .string ⟨#[]⟩, .string ⟨#[]⟩, .string ⟨#[]⟩, .string ⟨#[]⟩, .int .i64 0, .int .i64 0]
/-- A Made in memory, as cells. -/
abbrev mkM (a g s b : Nat) (la : Option Addr) (n lc E : Nat) (X : List Value) : List Value := madeL (hdv a g s b) (.slice la n lc) (.int .i64 (E : Int)) (.agg X.toArray)
theorem mkM_len (a g s b : Nat) (la : Option Addr) (n lc E : Nat) (X : List Value) (h : X.length = 16) : (mkM a g s b la n lc E X).length = 22 := by
  unfold mkM madeL
  simp [Value.cells, h]
theorem mkM_one (a g s b : Nat) (la : Option Addr) (n lc E : Nat) (X : List Value) (h : ∀ v ∈ X, v.oneCell' = true) : ∀ v ∈ mkM a g s b la n lc E X, v.oneCell' = true := by
  intro v hv
  unfold mkM madeL at hv
  rcases List.mem_append.1 hv with h1 | h1
  · exact hdr_oneR _ _ _ _ v h1
  rcases List.mem_append.1 h1 with h2 | h2
  · have : v = .slice la n lc := by simpa [Value.cells] using h2
    rw [this]; rfl
  rcases List.mem_append.1 h2 with h3 | h3
  · have : v = .int .i64 (E : Int) := by simpa [Value.cells] using h3
    rw [this]; rfl
  · exact h v h3
/-- How many pieces a frame of n bytes has. -/
def pcsN (n : Nat) : Nat := (n + 7 + 51) / 52
theorem wrong_zero {pl k : Int} {n : Nat} (h : wrongF pl k n = 0) : 1 ≤ k ∧ k ≤ 255 ∧ 1 ≤ pl ∧ pl < 16 ∧ n ≤ 773 := by
  unfold wrongF at h
  split at h
  · cases h
  · split at h
    · cases h
    · omega
end Go.Proofs.YtgogackkeodciabGreatDoor.W
end
section
namespace Go.Proofs.YtgogackkeodciabGreatDoor.W
open Go.RowKit
open Go.Proofs.YtgogackkeodciabGreatDoor.M Go.Proofs.YtgogackkeodciabGreatDoor.D Go.Proofs.YtgogackkeodciabGreatDoor.Z
set_option linter.unusedVariables false

theorem fill_cells4 (p : Nat → Option (Nat × Nat)) (z : Array Value) (i j k m : Nat) (x l c y : Value) : Instr.fill p z [(i, x), (j, l), (k, c), (m, y)] = Instr.fill p z [(i, .agg x.cells), (j, .agg l.cells), (k, .agg c.cells), (m, .agg y.cells)] := rfl
theorem built_cells4 (t : TypeId) (i j k m : Nat) (x l c y : Value) : Tryz.prog.built t [(i, x), (j, l), (k, c), (m, y)] = Tryz.prog.built t [(i, .agg x.cells), (j, .agg l.cells), (k, .agg c.cells), (m, .agg y.cells)] := by
  unfold Program.built
  generalize Tryz.prog.info? t = a
  generalize Tryz.prog.underlying t = b
  repeat' split
  all_goals first | rfl | exact fill_cells4 _ _ _ _ _ _ _ _ _ _
/-- An Appended, of values. -/
def appV (x c d : Value) : List Value := x.cells.toList ++ (c.cells.toList ++ d.cells.toList)
theorem appV_eq (M : List Value) (c d : Int) : appV (.agg M.toArray) (.int .i64 c) (.int .i64 d) = appL M c d := rfl
/-- The world grows, and one block is stored to. -/
def KeepR (B n : Nat) (t : TypeId) (V W : World) : Prop := Kept (fun q => q = B) V W ∧ ∃ cs : List Value, cs.length = n ∧ Whole W B t cs
section
variable {B n : Nat} {t : TypeId} {V W w' : World}
theorem KeepR.grow (h : KeepR B n t V W) (hb : Below W.heap.size W w') : KeepR B n t V w' := by
  obtain ⟨h1, cs, h3, h4⟩ := h
  exact ⟨h1.trans (Kept.of_below hb), cs, h3, h4.below hb h4.lt⟩
theorem KeepR.size (h : KeepR B n t V W) : V.heap.size ≤ W.heap.size := h.1.size
theorem KeepR.drew (h : KeepR B n t V W) : KeepR B n t V W.drew := by
  obtain ⟨h1, cs, h3, h4⟩ := h
  exact ⟨h1.drewN 1, cs, h3, h4⟩
theorem KeepR.laid (h : KeepR B n t V W) (cs : List Value) (hl : cs.length = n) : KeepR B n t V (laidAt W (.pointer (some ⟨B, 0, none⟩)) cs) := by
  obtain ⟨h1, ds, h3, h4⟩ := h
  exact ⟨h1.setCells (c := B) (.inl rfl) 0 cs, cs, hl, whole_all h4 (by omega)⟩
theorem KeepR.cell (h : KeepR B n t V W) {b o : Nat} {v : Value} (hb : b < V.heap.size) (hne : b ≠ B) (hc : V.cell? ⟨b, o, none⟩ = some v) : W.cell? ⟨b, o, none⟩ = some v := (World.cell?_of_block (h.1.block b hb hne)).trans hc
theorem KeepR.range (h : KeepR B n t V W) {b o : Nat} {cs : List Value} (hb : b < V.heap.size) (hne : b ≠ B) (hc : V.rangeAt b o cs) : W.rangeAt b o cs := fun j v hv => h.cell hb hne (hc j v hv)
theorem KeepR.room (h : KeepR B n t V W) : roomAt W (.pointer (some ⟨B, 0, none⟩)) n := by
  obtain ⟨h1, cs, h3, h4⟩ := h
  exact ⟨_, _, rfl, h4.there 0 n (by omega)⟩
end
/-- Frames, as cells. -/
def frRows (fs : List (Int × ByteArray)) : List Value := fs.flatMap fun f => [.int .i64 f.1, .string f.2]
theorem frRows_len : ∀ fs : List (Int × ByteArray), (frRows fs).length = fs.length * 2
  | [] => rfl
  | f :: fs => by
    have h := frRows_len fs
    unfold frRows at h ⊢
    simp only [List.flatMap_cons, List.length_append, List.length_cons, List.length_nil] at h ⊢
    omega
theorem frRows_one (fs : List (Int × ByteArray)) : ∀ v ∈ frRows fs, v.oneCell' = true := by
  intro v hv
  obtain ⟨f, _, h⟩ := List.mem_flatMap.1 hv
  simp at h
  rcases h with h | h <;> rw [h] <;> rfl
theorem frRows_add (fs : List (Int × ByteArray)) (k : Int) (p : ByteArray) : frRows (fs ++ [(k, p)]) = frRows fs ++ [.int .i64 k, .string p] := by
  unfold frRows; rw [List.flatMap_append]; rfl
theorem infoFrame : (Tryz.prog.info? 36).map (fun i => (i.zero, i.size, i.bytes)) = some (some (.agg #[.int .i64 0, .string ⟨#[]⟩]), 2, 24) := by kernel_rfl
theorem own_nil {W : World} {B : Nat} {e : TypeId} {sz : Nat} : W.ownsRow B e sz (.slice none 0 0) 0 [] := ⟨by simp, .inl ⟨rfl, rfl⟩⟩
theorem own_mono {W : World} {B B' n sz : Nat} {e : TypeId} {v : Value} {xs : List Value} (h : W.ownsRow B e sz v n xs) (hB : B' ≤ B) : W.ownsRow B' e sz v n xs := by
  rcases h with ⟨h0, h1 | ⟨k, cap, cur, h1, h2, h3⟩⟩
  · exact ⟨h0, .inl h1⟩
  · exact ⟨h0, .inr ⟨k, cap, cur, h1, Nat.le_trans hB h2, h3⟩⟩
theorem own_news {W : World} {B n : Nat} {la : Option Addr} {lc : Nat} {rows : List Value} (hn : 0 < n) (h : W.ownsRow B 36 2 (.slice la n lc) n rows) : ∃ gg, la = some ⟨gg, 0, none⟩ ∧ rows.length = n * 2 ∧ gg < W.heap.size ∧ ∀ j u, rows[j]? = some u → W.cell? ((⟨gg, 0, none⟩ : Addr).add j) = some u := by
  obtain ⟨h0, ⟨h1, h2⟩ | ⟨g, cap, cur, h1, hB, h2, h3, h4, h5, h6⟩⟩ := h
  · omega
  · cases h1
    have hW : Whole W g 36 cur.toList := by simpa [Whole] using h2
    refine ⟨g, rfl, h0, hW.lt, fun j u hu => ?_⟩
    have hadd : (⟨g, 0, none⟩ : Addr).add j = ⟨g, j, none⟩ := by unfold Addr.add; split <;> simp_all
    rw [hadd, hW.cell]
    have hi : j < rows.length := (List.getElem?_eq_some_iff.1 hu).1
    rw [← h6, List.getElem?_take, if_pos (by omega)] at hu
    exact hu
/-- The first append of a copy: of no frames or of some. -/
theorem app_first {ops : Array Oper} {rest : List Oper} {o : Oper} {a : Act} {W : World} {Q : Exit → Act → World → Prop} (hgd : o.guard = none) (s x : Operand)
    (ho : o.op = .call { callee := .builtin .append, args := #[s, x], argTypes := #[22, 22] }) (hs : a.eval s = .slice none 0 0) (la : Option Addr) (n lc : Nat) (hx : a.eval x = .slice la n lc) (fs : List (Int × ByteArray)) (hfs : fs.length = n) (hn : n ≤ 1000)
    (hL : (n = 0 ∧ la = none ∧ lc = 0) ∨ (0 < n ∧ W.ownsRow 0 36 2 (.slice la n lc) n (frRows fs)))
    (h : ∀ v8 w4, w4.ownsRow W.heap.size 36 2 v8 n (frRows fs) → Below W.heap.size W w4 → wpList Tryz.prog ops Q rest (a.put o.dst v8) w4) : wpList Tryz.prog ops Q (o :: rest) a W := by
  obtain ⟨i0, hi0, hz0, hz1, hz2⟩ := info_parts infoFrame
  rcases hL with ⟨rfl, rfl, rfl⟩ | ⟨h0, how⟩
  · have hnil : fs = [] := List.eq_nil_of_length_eq_zero hfs
    subst hnil
    exact wpList_append_own_none hgd s x _ ho 0 36 i0 2 Tryz.underlying22 hi0 (.slice none 0 0) 0 [] hs own_nil hx (h _ _ own_nil (Below.refl _ _))
  · obtain ⟨gg, rfl, hrl, hlt, hnews⟩ := own_news h0 how
    refine wpList_append_lies W hgd s x _ ho W.heap.size 36 i0 _ 2 24 Tryz.underlying22 hi0 hz0 hz1 hz2 rfl (by omega) _ 0 [] hs own_nil _ n lc (frRows fs) hx hrl hnews (frRows_one fs) h0 (by unfold maxLen; omega) (by omega) (Nat.le_refl _) _ rfl ?_
    intro g cap w' hown hgrow hat hlt'
    rw [Nat.zero_add, List.nil_append] at hown
    have e := h _ w' hown (((Kept.refl (fun _ => False) W).grown hgrow (fun q hq => by cases hq)).below (Nat.le_refl _) (fun _ h => h.elim))
    rw [Nat.zero_add]
    exact e
theorem own_whole' {w : World} {base : Nat} {e : TypeId} {n gg cap sz : Nat} {xs : List Value} (h : w.ownsRow base e sz (.slice (some ⟨gg, 0, none⟩) n cap) n xs) : ∃ cur, Whole w gg e cur := by
  rcases h.2 with ⟨h0, _⟩ | ⟨g', cap', cur, hv, _, hh, _⟩
  · cases h0
  · cases hv
    exact ⟨cur.toList, by simpa [Whole] using hh⟩
theorem own_ne {W : World} {B0 sz n R : Nat} {e t : TypeId} {v : Value} {xs cs : List Value} (h : W.ownsRow B0 e sz v n xs) (hR : Whole W R t cs) (ht : e ≠ t) : ∀ k, v.ownBlock = some k → ¬ k = R := by
  intro k hk
  rcases h.2 with ⟨rfl, _⟩ | ⟨g, cap, cur, rfl, _, hh, _⟩
  · cases hk
  · have hg : g = k := by simpa [Value.ownBlock] using hk
    subst hg
    have hW : Whole W g e cur.toList := by simpa [Whole] using hh
    exact hW.ne hR ht
end Go.Proofs.YtgogackkeodciabGreatDoor.W
end
