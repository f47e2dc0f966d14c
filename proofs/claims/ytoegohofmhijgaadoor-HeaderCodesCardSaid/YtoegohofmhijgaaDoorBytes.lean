/- Rows of bytes that a call made out of a string; nothing of the program. -/
import Derived.WalkKit
import Derived.Laws.IdiomStrings
import Derived.Test.YtoegohofmhijgaaDoorUnchain
namespace Go.Proofs.YtoegohofmhijgaaDoor.M
open Go.RowKit
set_option linter.unusedVariables false
/-- From cell 0 of block b on lie the bytes l, and none of them is frozen. -/
def ByteRow (w : World) (b : Nat) (l : List UInt8) : Prop := ∀ j, j < l.length → w.cell? ⟨b, j, none⟩ = some (.int .u8 (bt l j : Nat)) ∧ w.frozen? ⟨b, j, none⟩ = false
theorem ByteRow.made (w : World) (s : ByteArray) (cap : Nat) (e : TypeId) :
    ByteRow (w.drew.alloc (.cells (bytesRow s cap) e ((bytesRow s cap).size, (bytesRow s cap).size + 1))) w.heap.size s.data.toList := by
  intro j hj
  have hj' : j < s.data.size := by simpa using hj
  have hz : s.data.size ≤ (bytesRow s cap).size := by unfold bytesRow; simp
  refine ⟨?_, ?_⟩
  · have := World.cell?_alloc_mark w.drew (bytesRow s cap) e ((bytesRow s cap).size, (bytesRow s cap).size + 1) j
    rw [show w.drew.heap.size = w.heap.size from rfl] at this
    rw [this, bytesRow_at s cap j hj', ← bt_of s j hj']
    rfl
  · have := World.frozen?_alloc_mark w.drew (bytesRow s cap) e (bytesRow s cap).size ((bytesRow s cap).size + 1) j
    rw [show w.drew.heap.size = w.heap.size from rfl] at this
    rw [this, decide_eq_false (by omega)]
    rfl
theorem ByteRow.drew {w : World} {b : Nat} {l : List UInt8} (h : ByteRow w b l) : ByteRow w.drew b l := h
theorem bt_set (l : List UInt8) (i j : Nat) (x : UInt8) (hi : i < l.length) : bt (l.set i x) j = if j = i then x.toNat else bt l j := by
  unfold bt
  rw [List.getD, List.getD, List.getElem?_set]
  by_cases h : i = j
  · subst h; simp [hi]
  · rw [if_neg h, if_neg (fun e => h e.symm)]
theorem ByteRow.set {w : World} {b : Nat} {l : List UInt8} (h : ByteRow w b l) (i : Nat) (hi : i < l.length) (x : Int) (h0 : 0 ≤ x) (h1 : x < 256) :
    ByteRow (w.setCell ⟨b, i, none⟩ (.int .u8 x)) b (l.set i (UInt8.ofNat x.toNat)) := by
  intro j hj
  have hj' : j < l.length := by simpa using hj
  refine ⟨?_, by rw [World.frozen?_setCell]; exact (h j hj').2⟩
  rw [bt_set l i j _ hi]
  by_cases e : j = i
  · subst e
    rw [World.cell?_setCell_same _ _ _ (h j hj').1, if_pos rfl, UInt8.toNat_ofNat']
    congr 2; omega
  · rw [World.cell?_setCell_other _ _ _ _ (by intro he; injection he with _ h2 _; exact e h2.symm), if_neg e]
    exact (h j hj').1
theorem ByteRow.back {P : Program} {w : World} {b : Nat} {l : List UInt8} (h : ByteRow w b l) (src dst e : TypeId) (cap n : Nat) (hn : n = l.length) (hs : P.underlying src = some (.slice e)) (he : P.underlying e = some (.int .u8)) (hd : P.underlying dst = some .string) :
    (convert src dst (.slice (some ⟨b, 0, none⟩) n cap)).run P w = .ok (.string (B l)) w := by
  subst hn
  exact run_convert_bytes_back (P := P) w src dst e ⟨b, 0, none⟩ cap l hs he hd (fun j hj => by
    rw [show (⟨b, 0, none⟩ : Addr).add j = ⟨b, j, none⟩ from by simp [Addr.add]; try omega]
    rw [(h j hj).1]
    have : bt l j = l[j].toNat := by unfold bt; rw [List.getD, List.getElem?_eq_getElem hj]; rfl
    rw [this])
end Go.Proofs.YtoegohofmhijgaaDoor.M
