/- Package record's small calls: isNumber, May. -/
import Derived.Test.YtpfnpfbimadjkaaProg
import Derived.Test.YtpfnpfbimadjkaaRecM
import Derived.Test.YtpfnpfbimadjkaaWorld
import Derived.ProofKit
import Derived.OpenShut
import Derived.Below
import Derived.Outline
import Derived.Lib.Hide
import Derived.WalkSpells
import Derived.WalkLawsBesides
namespace Go.Proofs.Ytpfnpfbimadjkaa.W
open Go.RowKit
open Go.Proofs.Ytpfnpfbimadjkaa.M
set_option linter.unusedVariables false
set_option linter.unusedSimpArgs false

/-- A record's cells; a record as a value. -/
abbrev rcL (r : Rc) : List Value := [.int .i64 r.off, .int .i64 r.tick, .string r.key, .string r.val, .bool r.gone, .int .i64 r.prod, .int .i64 r.seq, .int .i64 r.frm]
abbrev rcV (r : Rc) : Value := .agg #[.int .i64 r.off, .int .i64 r.tick, .string r.key, .string r.val, .bool r.gone, .int .i64 r.prod, .int .i64 r.seq, .int .i64 r.frm]

theorem toList_nil (k : ByteArray) : k.toList = [] ↔ k.size = 0 := by
  have hz : k.toList.length = k.size := by rw [ByteArray.toList_eq]; simp
  constructor
  · intro h; rw [h] at hz; simpa using hz.symm
  · intro h; exact List.eq_nil_of_length_eq_zero (by omega)

def isNum (n : Int) : Bool := decide (0 ≤ n ∧ n ≤ 1099511627776)
end Go.Proofs.Ytpfnpfbimadjkaa.W
