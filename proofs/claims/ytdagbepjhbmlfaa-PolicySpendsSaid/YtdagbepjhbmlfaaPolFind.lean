/- The number of a rule, by the program. -/
import Derived.Test.YtdagbepjhbmlfaaProg
import Derived.Test.YtdagbepjhbmlfaaPolRef
namespace Go.Proofs.Ytdagbepjhbmlfaa.Q
open Go.RowKit
open Go.Proofs.Ytdagbepjhbmlfaa.Z
open Go.Proofs.Ytdagbepjhbmlfaa.D (Whole Kept)
set_option linter.unusedVariables false

theorem PolM.below {w w' : World} {B p n : Nat} {r : Nat → Rule1} (h : PolM w B p n r) (hb : Below w.heap.size w w') : PolM w' B p n r := by
  obtain ⟨q, D, hq, hc, ho, ht⟩ := h.map
  exact ⟨h.pol.below h.pol.old hb, q, D, hq, keepC hb hc, ho.kept (grownB hb none) (by simp), ht⟩
theorem find_any (B p n : Nat) (r : Nat → Rule1) (f t : Int) (w : World) (h : PolM w B p n r) (wf : (Lit.int .i64 f).wf = true) (wt : (Lit.int .i64 t).wf = true) :
    Calls Try.prog 34 #[.pointer (some ⟨p, 0, none⟩), .int .i64 f, .int .i64 t] w fun e w' => (∃ i : Nat, FindIs n r f t i ∧ i < n ∧ e = .returned (.tuple #[.int .i64 i, .int .i64 0]) ∧ w = w') ∨ (FindIs n r f t (-1) ∧ e = .returned (.tuple #[.int .i64 0, .int .i64 6]) ∧ w = w') := by
  obtain ⟨q, D, hq, hc, ho, ht⟩ := h.map
  have hkey : keyOf Try.prog 139 (.agg #[.int .i64 f, .int .i64 t]) = some (kw f t) := kw_of wf wt
  obtain ⟨v, ps, hrun, hv⟩ := World.ownsMap.look_ok (w := w) ho wayLaw Try.underlying134 (zeroIntQ _) (plainElem_int Try.underlying3 (by decide)) hkey
  obtain ⟨c, rfl, hcc, _⟩ := plainElem_int_inv Try.underlying3 hv
  have hat : D.atKey (kw f t) (numQ 0) = .lit (.int .i64 c) := congrArg Prod.fst hcc
  by_cases hex : ∃ i, i < n ∧ (r i).from_ = f ∧ (r i).to = t
  · obtain ⟨i, hi, e1, e2⟩ := hex
    have h1 := ht.tells i hi
    rw [e1, e2] at h1
    rw [h1.1] at hrun
    rw [h1.2] at hat
    cases hat
    have hfi : Hid (FindIs n r f t (i : Int)) := Lib.hid (.inl ⟨i, hi, e1, e2, fun j hj hh => sameB_false.1 (ht.apart i hi) j hj ⟨hh.1.trans e1.symm, hh.2.trans e2.symm⟩, rfl⟩)
    clear h1 hcc hv hkey ho ht h e1 e2
    go_enter Try.func34, Try.ntmps34
    go_wp2_with fail
    go_ret2
    exact .inl ⟨i, hfi.out, hi, rfl, rfl⟩
  · have hno : ∀ i, i < n → ¬ ((r i).from_ = f ∧ (r i).to = t) := fun i hi hh => hex ⟨i, hi, hh⟩
    rw [ht.free f t wf wt hno] at hrun
    have hfi : Hid (FindIs n r f t (-1)) := Lib.hid (.inr ⟨hno, rfl⟩)
    clear hcc hv hkey ho ht h hex hno hat
    go_enter Try.func34, Try.ntmps34
    go_wp2_with fail
    go_ret2
    exact .inr ⟨hfi.out, rfl, rfl⟩
theorem find_uniq {n : Nat} {r : Nat → Rule1} {f t x y : Int} (h1 : FindIs n r f t x) (h2 : FindIs n r f t y) : x = y := by
  rcases h1 with ⟨i, hi, a1, a2, a3, rfl⟩ | ⟨hno, rfl⟩ <;> rcases h2 with ⟨j, hj, b1, b2, b3, rfl⟩ | ⟨hno2, rfl⟩
  · rcases Nat.lt_trichotomy i j with h | h | h
    · exact absurd ⟨a1, a2⟩ (b3 i h)
    · rw [h]
    · exact absurd ⟨b1, b2⟩ (a3 j h)
  · exact absurd ⟨a1, a2⟩ (hno2 i hi)
  · exact absurd ⟨b1, b2⟩ (hno j hj)
  · rfl
end Go.Proofs.Ytdagbepjhbmlfaa.Q
