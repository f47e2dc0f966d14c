/- The disk: what it is in memory, and the walks of its small methods. The disk: spans, writes that wait of a span, a new disk, a sector of one byte. -/
import Derived.Test.YtgogackkeodciabGreatDoorProg
import Derived.Test.YtgogackkeodciabGreatDoorFlat
import Derived.ProofKit
import Derived.OpenShut
import Derived.Outline
import Derived.Lib.Hide
import Derived.WalkSpells
import Derived.WalkLawsBesides
import Derived.Deep.LoopGhost
import Derived.Deep.QuietTactic
import Derived.BigQuiet
import Derived.Laws.IdiomStrings
import Derived.Maps.AppendAt
import Derived.Deep.AppendLies
import Derived.Deep.RegionHeld3
import Derived.Deep.DrawnRows
import Derived.OwnWalk
section
namespace Go.Proofs.YtgogackkeodciabGreatDoor.D
open Go.RowKit
set_option linter.unusedVariables false

def wrow (p : Nat × List UInt8) : List Value := .int .i64 (p.1 : Int) :: bytesV p.2
/-- The disk whose object is block d, with what lies there in block g, and the waiting writes in the slice v. -/
structure Dk (w : World) (d g : Nat) (v : Value) (lie : List (List UInt8)) (ws : List (Nat × List UInt8)) : Prop where
  obj : Whole w d 95 [.slice (some ⟨g, 0, none⟩) lie.length lie.length, v]
  lying : Whole w g 161 (lie.map bytesV).flatten
  wait : w.ownsRow 0 163 65 v ws.length (ws.map wrow).flatten
  lie64 : ∀ s ∈ lie, s.length = 64
  ws64 : ∀ p ∈ ws, p.2.length = 64
  some_ : 0 < lie.length
  few : lie.length ≤ 8192
  within : ∀ p ∈ ws, p.1 < lie.length
section
variable {w : World} {d g : Nat} {v : Value} {lie : List (List UInt8)} {ws : List (Nat × List UInt8)}
theorem Dk.c0 (h : Dk w d g v lie ws) : w.cell? ⟨d, 0, none⟩ = some (.slice (some ⟨g, 0, none⟩) lie.length lie.length) := h.obj.cell 0
theorem Dk.c1 (h : Dk w d g v lie ws) : w.cell? ⟨d, 1, none⟩ = some v := h.obj.cell 1
theorem Dk.even (h : Dk w d g v lie ws) : Even 64 (lie.map bytesV) := fun r hr => by
  obtain ⟨s, hs, rfl⟩ := List.mem_map.1 hr
  rw [bytesV_len]; exact h.lie64 s hs
theorem Dk.evenW (h : Dk w d g v lie ws) : Even 65 (ws.map wrow) := fun r hr => by
  obtain ⟨p, hp, rfl⟩ := List.mem_map.1 hr
  simp [wrow, bytesV_len, h.ws64 p hp]
theorem Dk.sector (h : Dk w d g v lie ws) {i : Nat} {s : List UInt8} (hs : lie[i]? = some s) : w.rangeAt g (i * 64) (bytesV s) := h.lying.row h.even (by rw [List.getElem?_map, hs]; rfl)
/-- The form of the waiting slice. -/
theorem Dk.form (h : Dk w d g v lie ws) : (v = .slice none 0 0 ∧ ws = []) ∨ ∃ k cap cur, v = .slice (some ⟨k, 0, none⟩) ws.length cap ∧ Whole w k 163 cur ∧ ws.length ≤ cap ∧ cap ≤ maxLen ∧ cur.length = cap * 65 ∧ cur.take (ws.length * 65) = (ws.map wrow).flatten := by
  rcases h.wait.2 with ⟨h1, h2⟩ | ⟨k, cap, cur, h1, _, h2, h3, h4, h5, h6⟩
  · exact .inl ⟨h1, List.eq_nil_of_length_eq_zero h2⟩
  · exact .inr ⟨k, cap, cur.toList, h1, by simpa [Whole] using h2, h3, h4, by simpa using h5, h6⟩
end
theorem convBytes {w : World} {b o : Nat} {s : List UInt8} (cap : Nat) (h : w.rangeAt b o (bytesV s)) :
    (convert 71 9 (.slice (some ⟨b, o, none⟩) s.length cap)).run Tryz.prog w = .ok (.string ⟨s.toArray⟩) w :=
  run_convert_bytes_back (P := Tryz.prog) w 71 9 5 ⟨b, o, none⟩ cap s Tryz.underlying71 Tryz.underlying5 Tryz.underlying9 (fun j hj => by
    rw [Addr.add_mid]
    exact h j _ (by simp [bytesV, u8v, hj]))

section
variable (d g : Nat) (v : Value) (lie : List (List UInt8)) (ws : List (Nat × List UInt8)) (w : World)
theorem size_any (h : Dk w d g v lie ws) :
    Calls Tryz.prog 62 #[.pointer (some ⟨d, 0, none⟩)] w fun e w' => e = .returned (.int .i64 lie.length) ∧ w = w' := by
  have h0 := h.c0
  have hf := h.few
  go_enter Tryz.func62, Tryz.ntmps62
  go_wp2
  go_ret
  exact ⟨rfl, rfl⟩
theorem size_nil : Calls Tryz.prog 62 #[.pointer none] w fun e w' => e = .returned (.int .i64 0) ∧ w = w' := by
  go_enter Tryz.func62, Tryz.ntmps62
  go_wp2
  go_ret
  exact ⟨rfl, rfl⟩
theorem sector_in (a : Nat) (h : Dk w d g v lie ws) (ha : a < lie.length) :
    Calls Tryz.prog 121 #[.pointer (some ⟨d, 0, none⟩), .int .i64 a] w fun e w' => e = .returned (.int .i64 0) ∧ w = w' := by
  have h0 := h.c0
  have hf := h.few
  go_enter Tryz.func121, Tryz.ntmps121
  go_wp2
  go_ret
  exact ⟨rfl, rfl⟩
theorem sector_out (a : Int) (h : Dk w d g v lie ws) (ha : a < 0 ∨ lie.length ≤ a) :
    Calls Tryz.prog 121 #[.pointer (some ⟨d, 0, none⟩), .int .i64 a] w fun e w' => e = .returned (.int .i64 20) ∧ w = w' := by
  have h0 := h.c0
  have hf := h.few
  by_cases h1 : a < 0
  · clear ha
    go_enter Tryz.func121, Tryz.ntmps121
    go_wp2
    go_ret
    exact ⟨rfl, rfl⟩
  · have h2 : 0 ≤ a := by omega
    have h3 : lie.length ≤ a := by omega
    clear ha h1
    go_enter Tryz.func121, Tryz.ntmps121
    go_wp2
    go_ret
    exact ⟨rfl, rfl⟩
theorem sector_nil (a : Int) : Calls Tryz.prog 121 #[.pointer none, .int .i64 a] w fun e w' => e = .returned (.int .i64 7) ∧ w = w' := by
  go_enter Tryz.func121, Tryz.ntmps121
  go_wp2
  go_ret
  exact ⟨rfl, rfl⟩

/-- What is read: the last write that waits, or what lies there. -/
def rd (ws : List (Nat × List UInt8)) (a : Nat) (s : List UInt8) : List UInt8 := ws.foldl (fun s p => if p.1 = a then p.2 else s) s
theorem rd_none (ws : List (Nat × List UInt8)) (a : Nat) (s : List UInt8) (h : ∀ p ∈ ws, p.1 ≠ a) : rd ws a s = s := by
  induction ws generalizing s with
  | nil => rfl
  | cons p ws ih =>
    unfold rd
    rw [List.foldl_cons, if_neg (h p (by simp))]
    exact ih s (fun q hq => h q (by simp [hq]))
theorem rd_last (ws : List (Nat × List UInt8)) (a m : Nat) (s : List UInt8) (p : Nat × List UInt8) (hp : ws[m]? = some p) (ha : p.1 = a) (h : ∀ j q, m < j → ws[j]? = some q → q.1 ≠ a) : rd ws a s = p.2 := by
  have hm : m < ws.length := (List.getElem?_eq_some_iff.1 hp).1
  have e : ws = ws.take m ++ p :: ws.drop (m + 1) := by
    rw [← (List.getElem?_eq_some_iff.1 hp).2]
    exact (List.take_append_drop m ws).symm.trans (by rw [List.drop_eq_getElem_cons hm])
  have h2 : rd (ws.drop (m + 1)) a p.2 = p.2 := rd_none _ _ _ fun q hq => by
    obtain ⟨j, hj, rfl⟩ := List.mem_iff_getElem.1 hq
    refine h (m + 1 + j) _ (by omega) ?_
    rw [List.getElem_drop]
    exact List.getElem?_eq_getElem _
  have h3 : rd ws a s = rd (ws.take m ++ p :: ws.drop (m + 1)) a s := congrArg (fun l => rd l a s) e
  rw [h3]
  unfold rd at h2 ⊢
  rw [List.foldl_append, List.foldl_cons, if_pos ha]
  exact h2

end
end Go.Proofs.YtgogackkeodciabGreatDoor.D
end
section
namespace Go.Proofs.YtgogackkeodciabGreatDoor.D
open Go.RowKit
set_option linter.unusedVariables false
attribute [local go_sem ↓] Go.wp_at_zero Go.wp_at_succ

theorem stopHere {p : Prop} (h : Hid p) : p := h
theorem ret_bool {a b : Bool} (h : a = b) : Ending.returned (.bool a) = .returned (.bool b) := by rw [h]
theorem below_drewN {B : Nat} {a w : World} (h : Below B a w) (n : Nat) : Below B a (w.drewN n) := ⟨h.os, h.tape, h.output, h.size, h.block⟩
theorem keepCell {w w' : World} {p : Addr} {v : Value} (hb : Below w.heap.size w w') (h : w.cell? p = some v) : w'.cell? p = some v := (hb.cell (World.block_lt_of_cell? w p h)).trans h
theorem allocBelow (w : World) (o : Obj) : Below w.heap.size w (w.alloc o) := (Below.refl _ _).alloc (Nat.le_refl _) o

section
variable (d g : Nat) (v : Value) (lie : List (List UInt8)) (ws : List (Nat × List UInt8)) (w : World)
end

/-- Is a write one of a span's? -/
def spanB (from_ n : Nat) (p : Nat × List UInt8) : Bool := decide (from_ ≤ p.1) && decide (p.1 < from_ + n)
end Go.Proofs.YtgogackkeodciabGreatDoor.D
end
