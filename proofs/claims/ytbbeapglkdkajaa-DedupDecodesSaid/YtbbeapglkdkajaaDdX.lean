/- Package dedup's reader of numbers, whatever the bytes. -/
import Derived.Test.YtbbeapglkdkajaaDdV
import Derived.Test.YtbbeapglkdkajaaUnchains
import Derived.Test.YtbbeapglkdkajaaQuietB
import Derived.Deep.QuietTactic
import Derived.BigQuiet
namespace Go.Proofs.Ytbbeapglkdkajaa.W
open Go.RowKit Go.Sort
open Go.Proofs.Ytbbeapglkdkajaa.M Go.Proofs.Ytbbeapglkdkajaa.D
set_option linter.unusedVariables false
set_option linter.unusedSimpArgs false

/-- A reader's cells. -/
abbrev drL (s : ByteArray) (p : Nat) : List Value := [.string s, .int .i64 (p : Int)]
theorem slice_at (s : ByteArray) (p : Nat) (hp : p ≤ s.size) (W : World) : (Instr.sliceAt 9 (.string s) (some (.int .i64 (p : Int))) none none).run Try.prog W = .ok (.string (s.extract p s.size)) W := by
  have h1 : (p : Int) ≤ (s.size : Int) := by omega
  simp [go_sem, h1, Try.underlying9]
set_option maxRecDepth 100000 in
set_option maxHeartbeats 4000000 in
theorem dnum_yes (b : Nat) (s : ByteArray) (p q : Nat) (v : Int) (w : World) (h : Whole w b 88 (drL s p)) (hs : s.size ≤ 100000) (hp : p ≤ s.size) (hn : chAt s.data.toList p = some (v, q)) :
    Calls Try.prog 43 #[.pointer (some ⟨b, 0, none⟩)] w fun e w' => e = .returned (.int .i64 (wrap64 v)) ∧ Whole w' b 88 (drL s q) ∧ Kept (fun r => r = b) w w' := by
  have hz : (s.extract p s.size).size ≤ 1099511627776 := by rw [ByteArray.size_extract]; omega
  have hu := fun W => unchain_any (s.extract p s.size) W hz
  rw [ext_drop] at hu
  obtain ⟨a1, a2, _⟩ := chAt_back hn (by simpa using hp)
  have hl : s.data.toList.length = s.size := by simp
  unfold chAt at hn
  obtain ⟨n, hU⟩ : ∃ n : Nat, unch (s.data.toList.drop p) = (v, (n : Int), 0) ∧ q = p + n := by
    obtain ⟨f0, f1, hf⟩ := unch_facts (s.data.toList.drop p)
    obtain ⟨a, n, e, hU⟩ : ∃ v n x, unch (s.data.toList.drop p) = (v, n, x) := ⟨_, _, _, rfl⟩
    rw [hU] at hn hf ⊢
    dsimp only at hn hf
    by_cases he : e = 0
    · subst he
      rw [if_pos rfl] at hn
      simp only [Option.some.injEq, Prod.mk.injEq] at hn
      obtain ⟨rfl, rfl⟩ := hn
      rcases hf with ⟨_, hn1, _⟩ | ⟨hx, _⟩
      · exact ⟨n.toNat, by rw [Int.toNat_of_nonneg (by omega)], rfl⟩
      · exact absurd rfl hx
    · rw [if_neg he] at hn; cases hn
  obtain ⟨hU, rfl⟩ := hU
  rw [hU] at hu
  replace hu := Lib.hid hu
  have hsl := slice_at s p hp
  have c0 : w.cell? ⟨b, 0, none⟩ = some (.string s) := h.cell 0
  have c1 : w.cell? ⟨b, 1, none⟩ = some (.int .i64 (p : Int)) := h.cell 1
  have z1 := h.frozen 1
  have hw : IntKind.i64.wrap ((p : Int) + (n : Int)) = ((p + n : Nat) : Int) := by rw [IntWalk.i64_in _ (by omega)]; omega
  have hk := Kept.refl (fun r => r = b) w
  replace h := Lib.hid h
  replace hk := Lib.hid hk
  clear hn hU a1 a2 hz
  go_enter Try.func43, Try.ntmps43
  go_wp2_with fail
  go_quiet (first | (go_at_call 58; exact Calls.quiet_of_same ((hu.out _).mono fun e w' ⟨x1, x2⟩ => ⟨x1, x2.symm⟩)))
  go_wp2_with fail
  go_ret
  refine ⟨rfl, ?_, ?_⟩
  · exact (h.out.drewN nq).store 1 [.int .i64 ((p + n : Nat) : Int)] (by simp)
  · exact (hk.out.drewN nq).setCell (.inl rfl) _ _

set_option maxRecDepth 100000 in
set_option maxHeartbeats 4000000 in
theorem dnum_no (b : Nat) (s : ByteArray) (p : Nat) (w : World) (h : Whole w b 88 (drL s p)) (hs : s.size ≤ 100000) (hp : p ≤ s.size) (hn : chAt s.data.toList p = none) :
    Calls Try.prog 43 #[.pointer (some ⟨b, 0, none⟩)] w fun e w' => e = .returned (.int .i64 (-1)) ∧ Whole w' b 88 (drL s p) ∧ Kept (fun r => r = b) w w' := by
  have hz : (s.extract p s.size).size ≤ 1099511627776 := by rw [ByteArray.size_extract]; omega
  have hu := fun W => unchain_any (s.extract p s.size) W hz
  rw [ext_drop] at hu
  unfold chAt at hn
  obtain ⟨v, n, x, hU⟩ : ∃ v n x, unch (s.data.toList.drop p) = (v, n, x) := ⟨_, _, _, rfl⟩
  rw [hU] at hn hu
  dsimp only at hn
  have hx : x ≠ 0 := fun e => by rw [if_pos e] at hn; cases hn
  have hxb : (x == 0) = false := by simpa using hx
  have hxc : (x != 0) = true := by simpa using hx
  replace hu := Lib.hid hu
  have hsl := slice_at s p hp
  have c0 : w.cell? ⟨b, 0, none⟩ = some (.string s) := h.cell 0
  have c1 : w.cell? ⟨b, 1, none⟩ = some (.int .i64 (p : Int)) := h.cell 1
  have hk := Kept.refl (fun r => r = b) w
  replace h := Lib.hid h
  replace hk := Lib.hid hk
  clear hn hU hz hx
  go_enter Try.func43, Try.ntmps43
  go_wp2_with fail
  go_quiet (first | (go_at_call 58; exact Calls.quiet_of_same ((hu.out _).mono fun e w' ⟨x1, x2⟩ => ⟨x1, x2.symm⟩)))
  go_wp2_with fail
  go_ret
  exact ⟨rfl, h.out.drewN nq, hk.out.drewN nq⟩
theorem dnum_any (b : Nat) (s : ByteArray) (p q : Nat) (a : Int) (w : World) (h : Whole w b 88 (drL s p)) (hs : s.size ≤ 100000) (hp : p ≤ s.size) (hn : numD s.data.toList p = (a, q)) :
    Calls Try.prog 43 #[.pointer (some ⟨b, 0, none⟩)] w fun e w' => e = .returned (.int .i64 a) ∧ Whole w' b 88 (drL s q) ∧ Kept (fun r => r = b) w w' := by
  unfold numD at hn
  cases hc : chAt s.data.toList p with
  | none =>
    rw [hc] at hn
    cases hn
    exact dnum_no b s p w h hs hp hc
  | some u =>
    obtain ⟨v, q'⟩ := u
    rw [hc] at hn
    cases hn
    exact dnum_yes b s p q v w h hs hp hc
end Go.Proofs.Ytbbeapglkdkajaa.W
