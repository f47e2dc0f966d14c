/- Frames that come in, opened. Arrays of bytes that come in by value, opened; nothing of the program. Headers that come in, opened. -/
import Derived.Test.YtpfnpfbimadjkaaProg
import Derived.OpenShut
import Derived.ProofKit
import Derived.Deep.Slices
import Derived.ChangeSame
import Derived.ChangeOld
import Derived.ShutString
import Derived.WideShapes
import Derived.Test.YtpfnpfbimadjkaaOpen
import Derived.Test.YtpfnpfbimadjkaaFlat
import Derived.ChangeArms
section
namespace Go.Proofs.Ytpfnpfbimadjkaa.M
open Go.ChangeShapes Go.WideShapes Go.ChangeAt Go.RowKit
set_option linter.unusedVariables false
theorem cellsFi : Try.prog.cellsOf 3 = 1 := by kernel_rfl
theorem cellsFs : Try.prog.cellsOf 9 = 1 := by kernel_rfl
section
variable {H : Type} {enc : TypeId × Value → H} {w : World} {base : Nat} {held : Bool}
end
end Go.Proofs.Ytpfnpfbimadjkaa.M
end
section
namespace Go.Proofs.Ytpfnpfbimadjkaa.M
open Go.ChangeShapes Go.WideShapes Go.ChangeAt Go.RowKit
open Go.Proofs.Ytpfnpfbimadjkaa.D
set_option linter.unusedVariables false

/-- A byte of a number. -/
theorem byteW {c : Int} (h : (Lit.int .u8 c).wf = true) : ∃ b : UInt8, c = (b.toNat : Int) := by
  have hb : IntKind.u8.min ≤ c ∧ c ≤ IntKind.u8.max := by simpa [Lit.wf] using h
  have h1 : IntKind.u8.min = 0 := by decide
  have h2 : IntKind.u8.max = 255 := by decide
  rw [h1, h2] at hb
  refine ⟨UInt8.ofNat c.toNat, ?_⟩
  rw [UInt8.toNat_ofNat_of_lt' (by simp [UInt8.size]; omega)]
  omega
theorem all_bytes : ∀ cs : List Value, (∀ c ∈ cs, ∃ b : UInt8, c = u8v b) → ∃ d, cs = bytesV d
  | [], _ => ⟨[], rfl⟩
  | c :: cs, h => by
    obtain ⟨b, hb⟩ := h c (by simp)
    obtain ⟨d, hd⟩ := all_bytes cs (fun x hx => h x (by simp [hx]))
    exact ⟨b :: d, by rw [hb, hd]; rfl⟩
section
variable {H : Type} {enc : TypeId × Value → H} {P : Program} {w : World} {base : Nat} {spare : Nat → Bool} {held : Bool}
theorem open_bytes {n : Nat} {t e : TypeId} {fuel : Nat} {cs : List Value} {x : DataW H × List MemPlace} (ht : P.underlying t = some (.array n e)) (he : P.underlying e = some (.int .u8)) (hce : P.cellsOf e = 1) (hct : P.cellsOf t = n)
    (h : DataW.trod enc P w base spare held fuel t cs = some x) : ∃ d : List UInt8, d.length = n ∧ cs = bytesV d := by
  obtain ⟨xs, m, rfl, _, hl, hn, hx⟩ := DataW.trod_array ht h
  rw [hct] at hl
  obtain ⟨d, hd⟩ := all_bytes cs (fun c hc => by
    obtain ⟨i, hi, rfl⟩ := List.getElem_of_mem hc
    have g := hx i (by omega)
    rw [hce, Nat.mul_one, List.drop_eq_getElem_cons hi, List.take_succ_cons, List.take_zero] at g
    obtain ⟨v, e1, w1⟩ := one_elem he (by simp; omega) g
    obtain ⟨b, hb⟩ := byteW w1
    exact ⟨b, by rw [e1, hb]; rfl⟩)
  exact ⟨d, by rw [← bytesV_len, ← hd, hl], hd⟩
end
end Go.Proofs.Ytpfnpfbimadjkaa.M
end
section
namespace Go.Proofs.Ytpfnpfbimadjkaa.M
open Go.ChangeShapes Go.WideShapes Go.ChangeAt Go.RowKit
theorem cellsHdU : Try.prog.cellsOf 104 = 1 := by kernel_rfl
theorem cellsHdI : Try.prog.cellsOf 3 = 1 := by kernel_rfl
section
variable {H : Type} {enc : TypeId × Value → H} {w : World} {base : Nat} {held : Bool}
end
end Go.Proofs.Ytpfnpfbimadjkaa.M
end
