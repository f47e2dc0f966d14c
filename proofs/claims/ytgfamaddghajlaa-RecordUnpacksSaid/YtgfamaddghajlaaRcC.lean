/- Package record's reader: demand, pass, number, flag, text. Where a field is not there the call panics with a fault. -/
import Derived.Test.YtgfamaddghajlaaRcB
import Derived.Test.YtgfamaddghajlaaQuietB
namespace Go.Proofs.Ytgfamaddghajlaa.W
open Go.RowKit Go.Sort
open Go.Proofs.Ytgfamaddghajlaa.M Go.Proofs.Ytgfamaddghajlaa.D
set_option linter.unusedVariables false
set_option linter.unusedSimpArgs false

/-- A reader's cells; what a failing call panics with. -/
abbrev rdL (s : ByteArray) (p : Nat) : List Value := [.string s, .int .i64 (p : Int)]
abbrev faultC : List PanicEntry := [{ v := .iface 79 (.agg #[]), recovered := false }]

theorem demand_yes (w : World) : Calls Try.prog 46 #[.bool true] w fun e w' => e = .returned (.tuple #[]) ∧ w = w' := by
  go_enter Try.func46, Try.ntmps46
  go_wp2_with fail
  go_end0
  exact ⟨rfl, rfl⟩
theorem demand_no (w : World) : Calls Try.prog 46 #[.bool false] w fun e w' => e = .panicked faultC ∧ w = w' := by
  go_enter Try.func46, Try.ntmps46
  go_wp2_with fail
  exact ⟨rfl, rfl, rfl⟩

theorem pass_yes (b : Nat) (s : ByteArray) (p n : Nat) (w : World) (h : Whole w b 52 (rdL s p)) (hp : p + n ≤ 1000000) :
    Calls Try.prog 55 #[.pointer (some ⟨b, 0, none⟩), .int .i64 (n : Int), .int .i64 0] w fun e w' => e = .returned (.tuple #[]) ∧ w' = w.setCell ⟨b, 1, none⟩ (.int .i64 ((p + n : Nat) : Int)) := by
  have c1 : w.cell? ⟨b, 1, none⟩ = some (.int .i64 (p : Int)) := h.cell 1
  have z1 := h.frozen 1
  have hw : IntKind.i64.wrap ((p : Int) + (n : Int)) = ((p + n : Nat) : Int) := by rw [IntWalk.i64_in _ (by omega)]; omega
  clear h
  go_enter Try.func55, Try.ntmps55
  go_wp2_with fail
  refine (demand_yes _).mono ?_
  rintro e w1 ⟨rfl, rfl⟩
  go_wp2_with fail
  go_end0
  exact ⟨rfl, rfl⟩
theorem pass_no (b : Nat) (n x : Int) (w : World) (hx : x ≠ 0) :
    Calls Try.prog 55 #[.pointer (some ⟨b, 0, none⟩), .int .i64 n, .int .i64 x] w fun e w' => e = .panicked faultC ∧ w = w' := by
  have hx2 : (x == 0) = false := by simpa using hx
  go_enter Try.func55, Try.ntmps55
  go_wp2_with fail
  refine (demand_no _).mono ?_
  rintro e w1 ⟨rfl, rfl⟩
  go_wp2_with fail
  exact ⟨rfl, rfl, rfl⟩

theorem slice_from (s : ByteArray) (p : Nat) (hp : p ≤ s.size) (W : World) : (Instr.sliceAt 9 (.string s) (some (.int .i64 (p : Int))) none none).run Try.prog W = .ok (.string (s.extract p s.size)) W := by
  have h1 : (p : Int) ≤ (s.size : Int) := by omega
  simp [go_sem, h1, Try.underlying9]

/-- What reading leaves: the reader behind the field; all else as it was. -/
def RdAt (w : World) (b : Nat) (s : ByteArray) (q : Nat) (w' : World) : Prop := Whole w' b 52 (rdL s q) ∧ Kept (fun r => r = b) w w'

set_option maxRecDepth 100000 in
set_option maxHeartbeats 4000000 in
theorem number_yes (b : Nat) (s : ByteArray) (p q : Nat) (v : Int) (w : World) (h : Whole w b 52 (rdL s p)) (hs : s.size ≤ 100000) (hp : p ≤ s.size) (hn : chAt s.data.toList p = some (v, q)) :
    Calls Try.prog 43 #[.pointer (some ⟨b, 0, none⟩)] w fun e w' => e = .returned (.int .i64 (wrap64 v)) ∧ RdAt w b s q w' := by
  have hz : (s.extract p s.size).size ≤ 1099511627776 := by rw [ByteArray.size_extract]; omega
  have hu := fun W => unchain_any (s.extract p s.size) W hz
  rw [ext_drop] at hu
  obtain ⟨a1, a2, _⟩ := chAt_back hn (by simpa using hp)
  have hl : s.data.toList.length = s.size := by simp
  unfold chAt at hn
  obtain ⟨n, hU⟩ : ∃ n : Nat, unch (s.data.toList.drop p) = (v, (n : Int), 0) ∧ q = p + n := by
    obtain ⟨f0, f1, hf⟩ := unch_facts (s.data.toList.drop p)
    obtain ⟨a, n, e, hU⟩ : ∃ v n x, unch (s.data.toList.drop p) = (v, n, x) := ⟨_, _, _, rfl⟩
    rw [hU] at hn hf ⊢
    dsimp only at hn hf
    by_cases he : e = 0
    · subst he
      rw [if_pos rfl] at hn
      simp only [Option.some.injEq, Prod.mk.injEq] at hn
      obtain ⟨rfl, rfl⟩ := hn
      rcases hf with ⟨_, hn1, _⟩ | ⟨hx, _⟩
      · exact ⟨n.toNat, by rw [Int.toNat_of_nonneg (by omega)], rfl⟩
      · exact absurd rfl hx
    · rw [if_neg he] at hn; cases hn
  obtain ⟨hU, rfl⟩ := hU
  rw [hU] at hu
  replace hu := Lib.hid hu
  have hps := fun W (hW : Whole W b 52 (rdL s p)) => pass_yes b s p n W hW (by omega)
  replace hps := Lib.hid hps
  have hsl := slice_from s p hp
  have c0 : w.cell? ⟨b, 0, none⟩ = some (.string s) := h.cell 0
  have c1 : w.cell? ⟨b, 1, none⟩ = some (.int .i64 (p : Int)) := h.cell 1
  have hk := Kept.refl (fun r => r = b) w
  replace h := Lib.hid h
  replace hk := Lib.hid hk
  clear hn hU a1 a2 hz
  go_enter Try.func43, Try.ntmps43
  go_wp2_with fail
  go_quiet (first | (go_at_call 54; exact Calls.quiet_of_same ((hu.out _).mono fun e w' ⟨x1, x2⟩ => ⟨x1, x2.symm⟩)))
  go_wp2_with fail
  refine (hps.out _ (h.out.drewN nq)).mono ?_
  rintro e w1 ⟨rfl, rfl⟩
  go_wp2_with fail
  go_ret
  refine ⟨rfl, ?_, ?_⟩
  · exact (h.out.drewN nq).store 1 [.int .i64 ((p + n : Nat) : Int)] (by simp)
  · exact (hk.out.drewN nq).setCell (.inl rfl) _ _

set_option maxRecDepth 100000 in
set_option maxHeartbeats 4000000 in
theorem number_no (b : Nat) (s : ByteArray) (p : Nat) (w : World) (h : Whole w b 52 (rdL s p)) (hs : s.size ≤ 100000) (hp : p ≤ s.size) (hn : chAt s.data.toList p = none) :
    Calls Try.prog 43 #[.pointer (some ⟨b, 0, none⟩)] w fun e w' => e = .panicked faultC ∧ Kept (fun r => r = b) w w' := by
  have hz : (s.extract p s.size).size ≤ 1099511627776 := by rw [ByteArray.size_extract]; omega
  have hu := fun W => unchain_any (s.extract p s.size) W hz
  rw [ext_drop] at hu
  unfold chAt at hn
  obtain ⟨v, n, x, hU⟩ : ∃ v n x, unch (s.data.toList.drop p) = (v, n, x) := ⟨_, _, _, rfl⟩
  rw [hU] at hn hu
  dsimp only at hn
  have hx : x ≠ 0 := fun e => by rw [if_pos e] at hn; cases hn
  replace hu := Lib.hid hu
  have hps := fun W => pass_no b n x W hx
  replace hps := Lib.hid hps
  have hsl := slice_from s p hp
  have c0 : w.cell? ⟨b, 0, none⟩ = some (.string s) := h.cell 0
  have c1 : w.cell? ⟨b, 1, none⟩ = some (.int .i64 (p : Int)) := h.cell 1
  have hk := Kept.refl (fun r => r = b) w
  replace h := Lib.hid h
  replace hk := Lib.hid hk
  clear hn hU hz hx
  go_enter Try.func43, Try.ntmps43
  go_wp2_with fail
  go_quiet (first | (go_at_call 54; exact Calls.quiet_of_same ((hu.out _).mono fun e w' ⟨x1, x2⟩ => ⟨x1, x2.symm⟩)))
  go_wp2_with fail
  refine (hps.out _).mono ?_
  rintro e w1 ⟨rfl, rfl⟩
  go_wp2_with fail
  exact ⟨rfl, rfl, hk.out.drewN nq⟩

set_option maxRecDepth 100000 in
set_option maxHeartbeats 4000000 in
theorem text_yes (b : Nat) (s : ByteArray) (p q : Nat) (x : ByteArray) (w : World) (h : Whole w b 52 (rdL s p)) (hs : s.size ≤ 100000) (hp : p ≤ s.size) (hn : txAt s p = some (x, q)) :
    Calls Try.prog 45 #[.pointer (some ⟨b, 0, none⟩)] w fun e w' => e = .returned (.string x) ∧ RdAt w b s q w' := by
  have hz : (s.extract p s.size).size ≤ 1099511627776 := by rw [ByteArray.size_extract]; omega
  have hu := fun W => untext_any (s.extract p s.size) W hz
  obtain ⟨a1, a2, _⟩ := txAt_back hn hp
  unfold txAt at hn
  obtain ⟨n, hU⟩ : ∃ n : Nat, untx (s.extract p s.size) = (x, (n : Int), 0) ∧ q = p + n := by
    obtain ⟨a, n, e, hU⟩ : ∃ v n x, untx (s.extract p s.size) = (v, n, x) := ⟨_, _, _, rfl⟩
    rw [hU] at hn ⊢
    dsimp only at hn
    by_cases he : e = 0
    · subst he
      rw [if_pos rfl] at hn
      simp only [Option.some.injEq, Prod.mk.injEq] at hn
      obtain ⟨rfl, rfl⟩ := hn
      have := (untx_back _ _ _ hU).1
      exact ⟨n.toNat, by rw [Int.toNat_of_nonneg (by omega)], rfl⟩
    · rw [if_neg he] at hn; cases hn
  obtain ⟨hU, rfl⟩ := hU
  rw [hU] at hu
  have cu := Lib.hid (Z.regrown_any hu w)
  have hps := fun W (hW : Whole W b 52 (rdL s p)) => pass_yes b s p n W hW (by omega)
  replace hps := Lib.hid hps
  have hsl := slice_from s p hp
  have c0 : w.cell? ⟨b, 0, none⟩ = some (.string s) := h.cell 0
  have c1 : w.cell? ⟨b, 1, none⟩ = some (.int .i64 (p : Int)) := h.cell 1
  have hk := Kept.refl (fun r => r = b) w
  replace h := Lib.hid h
  replace hk := Lib.hid hk
  have g0 := fun d os => cell_regrown c0 d os
  have g1 := fun d os => cell_regrown c1 d os
  clear hn hU a1 a2 hz hu c0 c1
  go_enter Try.func45, Try.ntmps45
  go_wp2_with fail
  refine wp_region_quiet_below (by kernel_rfl) (by kernel_rfl) ?_
  repeat (go_big_quiet_step (first | exact cu.out _ _))
  refine wpQuiet_nil ?_
  intro _ hw'
  obtain ⟨⟨dq, osq⟩, hw''⟩ := hw'
  subst hw''
  have h2 := h.out.below (below_regrown w dq osq) h.out.lt
  have hk2 := hk.out.trans (Kept.of_below (own := fun r => r = b) (below_regrown w dq osq))
  clear g0 g1 h hk cu
  generalize grow (redrawn w dq) osq = w7 at *
  replace hk2 := Lib.hid hk2
  go_wp2_with fail
  refine (hps.out _ h2).mono ?_
  rintro e w1 ⟨rfl, rfl⟩
  go_wp2_with fail
  go_ret
  refine ⟨rfl, ?_, ?_⟩
  · exact h2.store 1 [.int .i64 ((p + n : Nat) : Int)] (by simp)
  · exact hk2.out.setCell (.inl rfl) _ _
end Go.Proofs.Ytgfamaddghajlaa.W
