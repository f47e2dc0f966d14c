/- The walk of the definition of segments: Load of what is no segment. The walk of the definition of segments: Load of a segment. -/
import Derived.Test.YtgogackkeodciabGreatDoorSegRef
import Derived.Test.YtgogackkeodciabGreatDoorHdAll
import Derived.Deep.Cut
import Derived.Test.YtgogackkeodciabGreatDoorFrRef
section
namespace Go.Proofs.YtgogackkeodciabGreatDoor.W
open Go.RowKit
open Go.Proofs.YtgogackkeodciabGreatDoor.M Go.Proofs.YtgogackkeodciabGreatDoor.D Go.Proofs.YtgogackkeodciabGreatDoor.Z
set_option linter.unusedVariables false

/-- Is the first sector one of a segment? -/
def headS (s : ByteArray) : Prop := opensS s ∧ countS s = 1 ∧ isH (s.extract 6 58) ∧ stH (s.extract 6 58) = stampS s
abbrev noLoaded : Value := .agg #[.int .i64 0, .int .u32 0, .int .u32 0, .int .i64 0, .slice none 0 0, .int .i64 0, .bool false]
end Go.Proofs.YtgogackkeodciabGreatDoor.W
end
section
namespace Go.Proofs.YtgogackkeodciabGreatDoor.W
open Go.RowKit
open Go.Proofs.YtgogackkeodciabGreatDoor.M Go.Proofs.YtgogackkeodciabGreatDoor.D Go.Proofs.YtgogackkeodciabGreatDoor.Z
set_option linter.unusedVariables false

theorem datS_size (x : List ByteArray) (k : Nat) : (datS x k).size ≤ 52 := by
  unfold datS
  simp
  omega
theorem runF_size (x : List ByteArray) (st c : Nat) : ∀ f k, (runF x st c f k).size ≤ 52 * f
  | 0, k => Nat.zero_le _
  | f + 1, k => by
    rw [runF_succ]
    split
    · rw [ByteArray.size_append]
      have h1 := datS_size x k
      have h2 := runF_size x st c f (k + 1)
      omega
    · exact Nat.zero_le _
theorem runS_size (x : List ByteArray) (st c k : Nat) : (runS x st c k).size ≤ 832 := by
  have h := runF_size x st c (16 - k) k
  unfold runS
  omega
/-- The frame that bytes tell. -/
def frF (d : ByteArray) : Int × ByteArray := (((bt d.data.toList 6 : Nat) : Int), d.extract 7 (6 + toldF d))
/-- What is loaded from a place on, behind frames. -/
noncomputable def loadF (x : List ByteArray) (st : Nat) : Nat → Nat → List (Int × ByteArray) → List (Int × ByteArray) × Nat
  | 0, e, l => (l, e)
  | f + 1, e, l => if e < 16 ∧ decWhy (st : Int) (e : Int) (runS x st (l.length + 2) e) = 0 then loadF x st f (e + (6 + toldF (runS x st (l.length + 2) e) + 51) / 52) (l ++ [frF (runS x st (l.length + 2) e)]) else (l, e)
theorem loadF_yes {x : List ByteArray} {st f e : Nat} {l : List (Int × ByteArray)} {d : ByteArray} (hd : runS x st (l.length + 2) e = d) (h : e < 16) (h2 : decWhy (st : Int) (e : Int) d = 0) :
    loadF x st (f + 1) e l = loadF x st f (e + (6 + toldF d + 51) / 52) (l ++ [frF d]) := by
  subst hd
  show (if _ then _ else _) = _
  rw [if_pos ⟨h, h2⟩]
theorem loadF_no {x : List ByteArray} {st f e : Nat} {l : List (Int × ByteArray)} {d : ByteArray} (hd : runS x st (l.length + 2) e = d) (h : ¬ (e < 16 ∧ decWhy (st : Int) (e : Int) d = 0)) : loadF x st f e l = (l, e) := by
  subst hd
  cases f with
  | zero => rfl
  | succ f =>
    show (if _ then _ else _) = _
    rw [if_neg h]
theorem loadF_end {x : List ByteArray} {st f e : Nat} {l : List (Int × ByteArray)} (h : ¬ e < 16) : loadF x st f e l = (l, e) := loadF_no rfl (fun h2 => h h2.1)
/-- A Loaded, as cells. -/
abbrev ldL (a g s b : Nat) (v : Value) (e : Nat) : List Value := [.int .i64 (a : Int), .int .u32 (g : Int), .int .u32 (s : Int), .int .i64 (b : Int), v, .int .i64 (e : Int), .bool true]
theorem newBelow4 {w0 w' : World} {c0 c1 c2 c3 : Value} {t : TypeId} (hb : Below (w0.alloc (.cells #[c0, c1, c2, c3] t)).heap.size (w0.alloc (.cells #[c0, c1, c2, c3] t)) w') : Whole w' w0.heap.size t [c0, c1, c2, c3] := by
  have h := Whole.new w0 t [c0, c1, c2, c3]
  exact h.below hb h.lt
theorem newBelow4d {w0 w' : World} {c0 c1 c2 c3 : Value} {t : TypeId} (hb : Below (w0.alloc (.cells #[c0, c1, c2, c3] t)).drew.heap.size (w0.alloc (.cells #[c0, c1, c2, c3] t)).drew w') : Whole w' w0.heap.size t [c0, c1, c2, c3] := by
  have h : Whole (w0.alloc (.cells #[c0, c1, c2, c3] t)).drew w0.heap.size t [c0, c1, c2, c3] := Whole.new w0 t [c0, c1, c2, c3]
  exact h.below hb h.lt
theorem keepNewL {V0 w : World} (h : Below V0.heap.size V0 w) (o : Obj) : Below V0.heap.size V0 (w.alloc o) := grewAlloc h o
theorem keepSet4 {V0 w : World} {q : Nat} (h : Below V0.heap.size V0 w) (hq : V0.heap.size ≤ q) (c0 c1 c2 c3 : Value) : Below V0.heap.size V0 ((((w.setCell ⟨q, 0, none⟩ c0).setCell ⟨q, 1, none⟩ c1).setCell ⟨q, 2, none⟩ c2).setCell ⟨q, 3, none⟩ c3) :=
  below_store h hq (Nat.le_refl _) 0 [c0, c1, c2, c3]
end Go.Proofs.YtgogackkeodciabGreatDoor.W
end
