/- Frames that come in, opened. Arrays of bytes that come in by value, opened; nothing of the program. Headers that come in, opened. -/
import Derived.Test.YtgogackkeodciabGreatDoorProg
import Derived.OpenShut
import Derived.ProofKit
import Derived.Deep.Slices
import Derived.ChangeSame
import Derived.ChangeOld
import Derived.ShutString
import Derived.WideShapes
import Derived.Test.YtgogackkeodciabGreatDoorOpen
import Derived.Test.YtgogackkeodciabGreatDoorFlat
import Derived.ChangeArms
section
namespace Go.Proofs.YtgogackkeodciabGreatDoor.M
open Go.ChangeShapes Go.WideShapes Go.ChangeAt Go.RowKit
set_option linter.unusedVariables false
theorem cellsFr : Tryz.prog.cellsOf 36 = 2 := by kernel_rfl
theorem cellsFi : Tryz.prog.cellsOf 3 = 1 := by kernel_rfl
theorem cellsFs : Tryz.prog.cellsOf 9 = 1 := by kernel_rfl
section
variable {H : Type} {enc : TypeId × Value → H} {w : World} {base : Nat} {held : Bool}
set_option maxRecDepth 100000 in
theorem open_frame {b0 : Nat} {v : Value} {d : DataW H} {p : List MemPlace} (hval : Value.okWide Tryz.prog w .any b0 36 v) (h : DataW.Trod enc Tryz.prog w base (fun _ => true) held 36 v d p) :
    ∃ k s, v = .agg #[.int .i64 k, .string s] ∧ (Lit.int .i64 k).wf = true ∧ s.size ≤ maxLen := by
  obtain ⟨cs, rfl, hsz⟩ := okWide_struct Tryz.underlying36 hval
  obtain ⟨l⟩ := cs
  rw [cellsFr] at hsz
  match l, hsz with
  | [c0, c1], _ =>
    obtain ⟨fuel, hf⟩ := h
    obtain ⟨xs, n, _, _, _, hlen, hg⟩ := DataW.trod_struct Tryz.underlying36 hf
    match xs, hlen with
    | [y0, y1], _ =>
      have h0 : DataW.trod enc Tryz.prog w base (fun _ => true) held n 3 ((([c0, c1] : List Value).drop 0).take (Tryz.prog.cellsOf 3)) = some y0 := hg 0 _ rfl
      have h1 : DataW.trod enc Tryz.prog w base (fun _ => true) held n 9 ((([c0, c1] : List Value).drop 1).take (Tryz.prog.cellsOf 9)) = some y1 := hg 1 _ rfl
      rw [cellsFi] at h0
      rw [cellsFs] at h1
      obtain ⟨x0, e0, _, w0⟩ := DataW.trod_int Tryz.underlying3 (show DataW.trod enc Tryz.prog w base (fun _ => true) held n 3 [c0] = some y0 from h0)
      obtain ⟨x1, e1, _, w1⟩ := DataW.trod_string Tryz.underlying9 (show DataW.trod enc Tryz.prog w base (fun _ => true) held n 9 [c1] = some y1 from h1)
      simp only [List.cons.injEq, and_true] at e0 e1
      subst e0 e1
      exact ⟨x0, x1, rfl, w0, w1⟩
end
end Go.Proofs.YtgogackkeodciabGreatDoor.M
end
section
namespace Go.Proofs.YtgogackkeodciabGreatDoor.M
open Go.ChangeShapes Go.WideShapes Go.ChangeAt Go.RowKit
open Go.Proofs.YtgogackkeodciabGreatDoor.D
set_option linter.unusedVariables false

/-- A byte of a number. -/
theorem byteW {c : Int} (h : (Lit.int .u8 c).wf = true) : ∃ b : UInt8, c = (b.toNat : Int) := by
  have hb : IntKind.u8.min ≤ c ∧ c ≤ IntKind.u8.max := by simpa [Lit.wf] using h
  have h1 : IntKind.u8.min = 0 := by decide
  have h2 : IntKind.u8.max = 255 := by decide
  rw [h1, h2] at hb
  refine ⟨UInt8.ofNat c.toNat, ?_⟩
  rw [UInt8.toNat_ofNat_of_lt' (by simp [UInt8.size]; omega)]
  omega
theorem all_bytes : ∀ cs : List Value, (∀ c ∈ cs, ∃ b : UInt8, c = u8v b) → ∃ d, cs = bytesV d
  | [], _ => ⟨[], rfl⟩
  | c :: cs, h => by
    obtain ⟨b, hb⟩ := h c (by simp)
    obtain ⟨d, hd⟩ := all_bytes cs (fun x hx => h x (by simp [hx]))
    exact ⟨b :: d, by rw [hb, hd]; rfl⟩
section
variable {H : Type} {enc : TypeId × Value → H} {P : Program} {w : World} {base : Nat} {spare : Nat → Bool} {held : Bool}
theorem open_bytes {n : Nat} {t e : TypeId} {fuel : Nat} {cs : List Value} {x : DataW H × List MemPlace} (ht : P.underlying t = some (.array n e)) (he : P.underlying e = some (.int .u8)) (hce : P.cellsOf e = 1) (hct : P.cellsOf t = n)
    (h : DataW.trod enc P w base spare held fuel t cs = some x) : ∃ d : List UInt8, d.length = n ∧ cs = bytesV d := by
  obtain ⟨xs, m, rfl, _, hl, hn, hx⟩ := DataW.trod_array ht h
  rw [hct] at hl
  obtain ⟨d, hd⟩ := all_bytes cs (fun c hc => by
    obtain ⟨i, hi, rfl⟩ := List.getElem_of_mem hc
    have g := hx i (by omega)
    rw [hce, Nat.mul_one, List.drop_eq_getElem_cons hi, List.take_succ_cons, List.take_zero] at g
    obtain ⟨v, e1, w1⟩ := one_elem he (by simp; omega) g
    obtain ⟨b, hb⟩ := byteW w1
    exact ⟨b, by rw [e1, hb]; rfl⟩)
  exact ⟨d, by rw [← bytesV_len, ← hd, hl], hd⟩
end
end Go.Proofs.YtgogackkeodciabGreatDoor.M
end
section
namespace Go.Proofs.YtgogackkeodciabGreatDoor.M
open Go.ChangeShapes Go.WideShapes Go.ChangeAt Go.RowKit
theorem cellsHd4 : Tryz.prog.cellsOf 80 = 4 := by kernel_rfl
theorem cellsHdU : Tryz.prog.cellsOf 29 = 1 := by kernel_rfl
theorem cellsHdI : Tryz.prog.cellsOf 3 = 1 := by kernel_rfl
section
variable {H : Type} {enc : TypeId × Value → H} {w : World} {base : Nat} {held : Bool}
set_option maxRecDepth 100000 in
theorem open_hd4 {b0 : Nat} {v : Value} {d : DataW H} {p : List MemPlace} (hval : Value.okWide Tryz.prog w .any b0 80 v) (h : DataW.Trod enc Tryz.prog w base (fun _ => true) held 80 v d p) :
    ∃ x0 x1 x2 x3, v = .agg #[.int .i64 x0, .int .u32 x1, .int .u32 x2, .int .i64 x3] ∧ (Lit.int .i64 x0).wf = true ∧ (Lit.int .u32 x1).wf = true ∧ (Lit.int .u32 x2).wf = true ∧ (Lit.int .i64 x3).wf = true := by
  obtain ⟨cs, rfl, hsz⟩ := okWide_struct Tryz.underlying80 hval
  obtain ⟨l⟩ := cs
  rw [cellsHd4] at hsz
  match l, hsz with
  | [c0, c1, c2, c3], _ =>
    obtain ⟨fuel, hf⟩ := h
    obtain ⟨xs, n, _, _, _, hlen, hg⟩ := DataW.trod_struct Tryz.underlying80 hf
    match xs, hlen with
    | [y0, y1, y2, y3], _ =>
      have h0 : DataW.trod enc Tryz.prog w base (fun _ => true) held n 3 ((([c0, c1, c2, c3] : List Value).drop 0).take (Tryz.prog.cellsOf 3)) = some y0 := hg 0 _ rfl
      have h1 : DataW.trod enc Tryz.prog w base (fun _ => true) held n 29 ((([c0, c1, c2, c3] : List Value).drop 1).take (Tryz.prog.cellsOf 29)) = some y1 := hg 1 _ rfl
      have h2 : DataW.trod enc Tryz.prog w base (fun _ => true) held n 29 ((([c0, c1, c2, c3] : List Value).drop 2).take (Tryz.prog.cellsOf 29)) = some y2 := hg 2 _ rfl
      have h3 : DataW.trod enc Tryz.prog w base (fun _ => true) held n 3 ((([c0, c1, c2, c3] : List Value).drop 3).take (Tryz.prog.cellsOf 3)) = some y3 := hg 3 _ rfl
      rw [cellsHdU] at h1 h2
      rw [cellsHdI] at h0 h3
      obtain ⟨x0, e0, w0⟩ := one_elem Tryz.underlying3 (by simp) (show DataW.trod enc Tryz.prog w base (fun _ => true) held n 3 [c0] = some y0 from h0)
      obtain ⟨x1, e1, w1⟩ := one_elem Tryz.underlying29 (by simp) (show DataW.trod enc Tryz.prog w base (fun _ => true) held n 29 [c1] = some y1 from h1)
      obtain ⟨x2, e2, w2⟩ := one_elem Tryz.underlying29 (by simp) (show DataW.trod enc Tryz.prog w base (fun _ => true) held n 29 [c2] = some y2 from h2)
      obtain ⟨x3, e3, w3⟩ := one_elem Tryz.underlying3 (by simp) (show DataW.trod enc Tryz.prog w base (fun _ => true) held n 3 [c3] = some y3 from h3)
      subst e0 e1 e2 e3
      exact ⟨x0, x1, x2, x3, rfl, w0, w1, w2, w3⟩
end
end Go.Proofs.YtgogackkeodciabGreatDoor.M
end
