/- Package record's small calls: isNumber, May. Package record's Encode: lay, Encode, Size. Package record's reader: demand, pass, number, flag, text. Where a field is not there the call panics with a fault. Package record's reader: a field that is a yes or no, a text that is not there, a record. -/
import Derived.Test.YtnekiiahgidkoaaProg
import Derived.Test.YtnekiiahgidkoaaRecM
import Derived.Test.YtnekiiahgidkoaaWorld
import Derived.ProofKit
import Derived.OpenShut
import Derived.Below
import Derived.Outline
import Derived.Lib.Hide
import Derived.WalkSpells
import Derived.WalkLawsBesides
import Derived.Test.YtnekiiahgidkoaaBld
import Derived.Test.YtnekiiahgidkoaaUntexts
import Derived.Deep.QuietTactic
import Derived.BigQuiet
import Derived.LoopN
import Derived.Test.YtnekiiahgidkoaaFlat
import Derived.Test.YtnekiiahgidkoaaQuietB
import Derived.Deep.Cut
section
namespace Go.Proofs.Ytnekiiahgidkoaa.W
open Go.RowKit
open Go.Proofs.Ytnekiiahgidkoaa.M
set_option linter.unusedVariables false
set_option linter.unusedSimpArgs false

/-- A record's cells; a record as a value. -/
abbrev rcL (r : Rc) : List Value := [.int .i64 r.off, .int .i64 r.tick, .string r.key, .string r.val, .bool r.gone, .int .i64 r.prod, .int .i64 r.seq, .int .i64 r.frm]
abbrev rcV (r : Rc) : Value := .agg #[.int .i64 r.off, .int .i64 r.tick, .string r.key, .string r.val, .bool r.gone, .int .i64 r.prod, .int .i64 r.seq, .int .i64 r.frm]

theorem toList_nil (k : ByteArray) : k.toList = [] ↔ k.size = 0 := by
  have hz : k.toList.length = k.size := by rw [ByteArray.toList_eq]; simp
  constructor
  · intro h; rw [h] at hz; simpa using hz.symm
  · intro h; exact List.eq_nil_of_length_eq_zero (by omega)

def isNum (n : Int) : Bool := decide (0 ≤ n ∧ n ≤ 1099511627776)
end Go.Proofs.Ytnekiiahgidkoaa.W
end
section
namespace Go.Proofs.Ytnekiiahgidkoaa.W
open Go.RowKit
open Go.Proofs.Ytnekiiahgidkoaa.M Go.Proofs.Ytnekiiahgidkoaa.D
set_option linter.unusedVariables false
set_option linter.unusedSimpArgs false

theorem sizeI64r : ∀ w, (Go.sizeOf 3).run Try.prog w = .ok 1 w := fun w => by kernel_rfl
theorem aggI64r : ∀ w, (isAgg 3).run Try.prog w = .ok false w := fun w => by kernel_rfl
theorem up {a b c : World} {n : Nat} (h : Below n a b) (hn : n ≤ b.heap.size) (k : Below b.heap.size b c) : Below n a c := h.trans (k.mono hn)

end Go.Proofs.Ytnekiiahgidkoaa.W
end
section
namespace Go.Proofs.Ytnekiiahgidkoaa.W
open Go.RowKit Go.Sort
open Go.Proofs.Ytnekiiahgidkoaa.M Go.Proofs.Ytnekiiahgidkoaa.D
set_option linter.unusedVariables false
set_option linter.unusedSimpArgs false

/-- A reader's cells; what a failing call panics with. -/
abbrev rdL (s : ByteArray) (p : Nat) : List Value := [.string s, .int .i64 (p : Int)]
theorem slice_from (s : ByteArray) (p : Nat) (hp : p ≤ s.size) (W : World) : (Instr.sliceAt 9 (.string s) (some (.int .i64 (p : Int))) none none).run Try.prog W = .ok (.string (s.extract p s.size)) W := by
  have h1 : (p : Int) ≤ (s.size : Int) := by omega
  simp [go_sem, h1, Try.underlying9]

end Go.Proofs.Ytnekiiahgidkoaa.W
end
section
namespace Go.Proofs.Ytnekiiahgidkoaa.W
open Go.RowKit Go.Sort
open Go.Proofs.Ytnekiiahgidkoaa.M Go.Proofs.Ytnekiiahgidkoaa.D
set_option linter.unusedVariables false
set_option linter.unusedSimpArgs false

theorem wrap64_one {g : Int} (h0 : 0 ≤ g) (h1 : g < 18446744073709551616) (h2 : 1 < g) : wrap64 g ≠ 0 ∧ wrap64 g ≠ 1 := by
  unfold wrap64; omega
theorem wrap64_low {g : Int} (h0 : 0 ≤ g) (h1 : g ≤ 9223372036854775807) : wrap64 g = g := by
  unfold wrap64; omega
theorem wrap64_in {v m : Int} (h0 : 0 ≤ v) (h1 : v < 18446744073709551616) (hm : m ≤ 9223372036854775807) : (0 ≤ wrap64 v ∧ wrap64 v ≤ m) ↔ (0 ≤ v ∧ v ≤ m) := by
  unfold wrap64; omega
theorem wrap64_nil {v : Int} (h0 : 0 ≤ v) (h1 : v < 18446744073709551616) : wrap64 v = 0 ↔ v = 0 := by
  unfold wrap64; omega

theorem ok_wrap {o t c d f : Int} {k v : ByteArray} {g : Bool} (ho : 0 ≤ o ∧ o < 18446744073709551616) (ht : 0 ≤ t ∧ t < 18446744073709551616) (hc : 0 ≤ c ∧ c < 18446744073709551616) (hd : 0 ≤ d ∧ d < 18446744073709551616) (hf : 0 ≤ f ∧ f < 18446744073709551616) :
    (Rc.mk (wrap64 o) (wrap64 t) k v g (wrap64 c) (wrap64 d) (wrap64 f)).ok ↔ (Rc.mk o t k v g c d f).ok := by
  unfold Rc.ok
  simp only [wrap64_in ho.1 ho.2 (show (1048576 : Int) ≤ 9223372036854775807 by omega), wrap64_in ht.1 ht.2 (show (1099511627776 : Int) ≤ 9223372036854775807 by omega), wrap64_in hc.1 hc.2 (show (1099511627776 : Int) ≤ 9223372036854775807 by omega), wrap64_in hd.1 hd.2 (show (1099511627776 : Int) ≤ 9223372036854775807 by omega), wrap64_in hf.1 hf.2 (show (1099511627776 : Int) ≤ 9223372036854775807 by omega), wrap64_nil hc.1 hc.2, wrap64_nil hd.1 hd.2]
theorem same_wrap {o t c d f : Int} {k v : ByteArray} {g : Bool} (h : (Rc.mk o t k v g c d f).ok) : Rc.mk (wrap64 o) (wrap64 t) k v g (wrap64 c) (wrap64 d) (wrap64 f) = Rc.mk o t k v g c d f := by
  obtain ⟨⟨o0, o1⟩, ⟨t0, t1⟩, ⟨p0, p1⟩, ⟨q0, q1⟩, ⟨f0, f1⟩, _⟩ := h
  simp only at o0 o1 t0 t1 p0 p1 q0 q1 f0 f1
  rw [wrap64_low o0 (by omega), wrap64_low t0 (by omega), wrap64_low p0 (by omega), wrap64_low q0 (by omega), wrap64_low f0 (by omega)]

end Go.Proofs.Ytnekiiahgidkoaa.W
end
