/- The disk: what it is in memory, and the walks of its small methods. The disk: spans, writes that wait of a span, a new disk, a sector of one byte. -/
import Derived.Test.YtoegohofmhijgaaDoorProg
import Derived.Test.YtoegohofmhijgaaDoorFlat
import Derived.ProofKit
import Derived.OpenShut
import Derived.Outline
import Derived.Lib.Hide
import Derived.WalkSpells
import Derived.WalkLawsBesides
import Derived.Deep.LoopGhost
import Derived.Deep.QuietTactic
import Derived.BigQuiet
import Derived.Laws.IdiomStrings
import Derived.Maps.AppendAt
import Derived.Deep.AppendLies
import Derived.Deep.RegionHeld3
import Derived.Deep.DrawnRows
import Derived.OwnWalk
section
namespace Go.Proofs.YtoegohofmhijgaaDoor.D
open Go.RowKit
set_option linter.unusedVariables false

def wrow (p : Nat × List UInt8) : List Value := .int .i64 (p.1 : Int) :: bytesV p.2
section
variable {w : World} {d g : Nat} {v : Value} {lie : List (List UInt8)} {ws : List (Nat × List UInt8)}
end
theorem convBytes {w : World} {b o : Nat} {s : List UInt8} (cap : Nat) (h : w.rangeAt b o (bytesV s)) :
    (convert 48 9 (.slice (some ⟨b, o, none⟩) s.length cap)).run Tryd.prog w = .ok (.string ⟨s.toArray⟩) w :=
  run_convert_bytes_back (P := Tryd.prog) w 48 9 5 ⟨b, o, none⟩ cap s Tryd.underlying48 Tryd.underlying5 Tryd.underlying9 (fun j hj => by
    rw [Addr.add_mid]
    exact h j _ (by simp [bytesV, u8v, hj]))

section
variable (d g : Nat) (v : Value) (lie : List (List UInt8)) (ws : List (Nat × List UInt8)) (w : World)
/-- What is read: the last write that waits, or what lies there. -/
def rd (ws : List (Nat × List UInt8)) (a : Nat) (s : List UInt8) : List UInt8 := ws.foldl (fun s p => if p.1 = a then p.2 else s) s
theorem rd_none (ws : List (Nat × List UInt8)) (a : Nat) (s : List UInt8) (h : ∀ p ∈ ws, p.1 ≠ a) : rd ws a s = s := by
  induction ws generalizing s with
  | nil => rfl
  | cons p ws ih =>
    unfold rd
    rw [List.foldl_cons, if_neg (h p (by simp))]
    exact ih s (fun q hq => h q (by simp [hq]))
theorem rd_last (ws : List (Nat × List UInt8)) (a m : Nat) (s : List UInt8) (p : Nat × List UInt8) (hp : ws[m]? = some p) (ha : p.1 = a) (h : ∀ j q, m < j → ws[j]? = some q → q.1 ≠ a) : rd ws a s = p.2 := by
  have hm : m < ws.length := (List.getElem?_eq_some_iff.1 hp).1
  have e : ws = ws.take m ++ p :: ws.drop (m + 1) := by
    rw [← (List.getElem?_eq_some_iff.1 hp).2]
    exact (List.take_append_drop m ws).symm.trans (by rw [List.drop_eq_getElem_cons hm])
  have h2 : rd (ws.drop (m + 1)) a p.2 = p.2 := rd_none _ _ _ fun q hq => by
    obtain ⟨j, hj, rfl⟩ := List.mem_iff_getElem.1 hq
    refine h (m + 1 + j) _ (by omega) ?_
    rw [List.getElem_drop]
    exact List.getElem?_eq_getElem _
  have h3 : rd ws a s = rd (ws.take m ++ p :: ws.drop (m + 1)) a s := congrArg (fun l => rd l a s) e
  rw [h3]
  unfold rd at h2 ⊢
  rw [List.foldl_append, List.foldl_cons, if_pos ha]
  exact h2

end
end Go.Proofs.YtoegohofmhijgaaDoor.D
end
section
namespace Go.Proofs.YtoegohofmhijgaaDoor.D
open Go.RowKit
set_option linter.unusedVariables false
attribute [local go_sem ↓] Go.wp_at_zero Go.wp_at_succ

theorem stopHere {p : Prop} (h : Hid p) : p := h
theorem ret_bool {a b : Bool} (h : a = b) : Ending.returned (.bool a) = .returned (.bool b) := by rw [h]
theorem below_drewN {B : Nat} {a w : World} (h : Below B a w) (n : Nat) : Below B a (w.drewN n) := ⟨h.os, h.tape, h.output, h.size, h.block⟩
theorem keepCell {w w' : World} {p : Addr} {v : Value} (hb : Below w.heap.size w w') (h : w.cell? p = some v) : w'.cell? p = some v := (hb.cell (World.block_lt_of_cell? w p h)).trans h
theorem allocBelow (w : World) (o : Obj) : Below w.heap.size w (w.alloc o) := (Below.refl _ _).alloc (Nat.le_refl _) o

section
variable (d g : Nat) (v : Value) (lie : List (List UInt8)) (ws : List (Nat × List UInt8)) (w : World)
end

/-- Is a write one of a span's? -/
def spanB (from_ n : Nat) (p : Nat × List UInt8) : Bool := decide (from_ ≤ p.1) && decide (p.1 < from_ + n)
end Go.Proofs.YtoegohofmhijgaaDoor.D
end
