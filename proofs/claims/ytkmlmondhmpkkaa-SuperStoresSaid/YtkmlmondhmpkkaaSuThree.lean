/- Which super lies in two sectors: the program's Pick, and the definition's. Supers that are held against one another; the law's own small functions. The walk of the small case that each law of layer 10 asks. -/
import Derived.Test.YtkmlmondhmpkkaaProg
import Derived.Test.YtkmlmondhmpkkaaSuPick
import Derived.Test.YtkmlmondhmpkkaaSuRef
import Derived.DeepKeys
section
namespace Go.Proofs.Ytkmlmondhmpkkaa.W
open Go.RowKit
open Go.Proofs.Ytkmlmondhmpkkaa.M Go.Proofs.Ytkmlmondhmpkkaa.D Go.Proofs.Ytkmlmondhmpkkaa.Z
set_option linter.unusedVariables false

/-- Is it a super whose place is k? -/
def rightU (s : ByteArray) (k : Nat) : Prop := isU s ∧ numU (s.extract 6 58) 0 % 2 = k
abbrev u5 (s : ByteArray) : Array Value := #[.int .u32 (numU (s.extract 6 58) 0 : Nat), .int .u32 (numU (s.extract 6 58) 1 : Nat), .int .u32 (numU (s.extract 6 58) 2 : Nat), .int .u32 (numU (s.extract 6 58) 3 : Nat), .int .u32 (numU (s.extract 6 58) 4 : Nat)]
/-- The super that is picked, or none. -/
def Picks (a b : ByteArray) : Option ByteArray → Prop
  | some s => (s = a ∧ rightU a 0 ∧ (rightU b 1 → numU (b.extract 6 58) 0 < numU (a.extract 6 58) 0)) ∨ (s = b ∧ rightU b 1 ∧ (rightU a 0 → numU (a.extract 6 58) 0 < numU (b.extract 6 58) 0))
  | none => ¬ rightU a 0 ∧ ¬ rightU b 1
theorem picks_some (a b : ByteArray) : ∃ s, Picks a b s := by
  by_cases h1 : rightU a 0
  · by_cases h2 : rightU b 1
    · by_cases h3 : numU (b.extract 6 58) 0 < numU (a.extract 6 58) 0
      · exact ⟨some a, .inl ⟨rfl, h1, fun _ => h3⟩⟩
      · have e1 := h1.2
        have e2 := h2.2
        exact ⟨some b, .inr ⟨rfl, h2, fun _ => by omega⟩⟩
    · exact ⟨some a, .inl ⟨rfl, h1, fun h => absurd h h2⟩⟩
  · by_cases h2 : rightU b 1
    · exact ⟨some b, .inr ⟨rfl, h2, fun h => absurd h h1⟩⟩
    · exact ⟨none, h1, h2⟩
/-- What Pick tells. -/
def pickV : Option ByteArray → Value
  | some s => .tuple #[.agg (u5 s), .int .i64 0]
  | none => .tuple #[.agg #[.int .u32 0, .int .u32 0, .int .u32 0, .int .u32 0, .int .u32 0], .int .i64 22]
def gotV : Option ByteArray → Value
  | some s => .agg #[.int .u32 (numU (s.extract 6 58) 0 : Nat), .int .u32 (numU (s.extract 6 58) 1 : Nat), .int .u32 (numU (s.extract 6 58) 2 : Nat), .int .u32 (numU (s.extract 6 58) 3 : Nat), .int .u32 (numU (s.extract 6 58) 4 : Nat), .bool true]
  | none => .agg #[.int .u32 0, .int .u32 0, .int .u32 0, .int .u32 0, .int .u32 0, .bool false]
theorem suPick_any (a b : ByteArray) (w : World) (ha : a.size ≤ 1000000) (hb : b.size ≤ 1000000) (r : Option ByteArray) (h : Picks a b r) :
    Calls Try.prog 23 #[.string a, .string b] w fun x w' => x = .returned (pickV r) ∧ Below w.heap.size w w' := by
  have la := numU_lt (a.extract 6 58) 0
  have lb := numU_lt (b.extract 6 58) 0
  by_cases ia : isU a
  · have da := fun W => suDecode_yes a W ia
    by_cases pa : numU (a.extract 6 58) 0 % 2 = 0
    · by_cases ib : isU b
      · have db := fun W => suDecode_yes b W ib
        by_cases pb : numU (b.extract 6 58) 0 % 2 = 1
        · by_cases g : numU (a.extract 6 58) 0 < numU (b.extract 6 58) 0
          · obtain rfl : r = some b := by
              cases r with
              | none => exact absurd ⟨ia, pa⟩ h.1
              | some s => rcases h with ⟨_, _, h⟩ | ⟨rfl, _⟩; exact absurd (h ⟨ib, pb⟩) (by omega); rfl
            exact pick_RRl a b w da db la (by rw [bne_eq_false_iff_eq]; omega) lb (by rw [bne_eq_false_iff_eq]; omega) (by simpa using g)
          · obtain rfl : r = some a := by
              cases r with
              | none => exact absurd ⟨ia, pa⟩ h.1
              | some s => rcases h with ⟨rfl, _⟩ | ⟨_, _, h⟩; rfl; exact absurd (h ⟨ia, pa⟩) g
            exact pick_RRg a b w da db la (by rw [bne_eq_false_iff_eq]; omega) lb (by rw [bne_eq_false_iff_eq]; omega) (by simpa using g)
        · obtain rfl : r = some a := by
            cases r with
            | none => exact absurd ⟨ia, pa⟩ h.1
            | some s => rcases h with ⟨rfl, _⟩ | ⟨_, h, _⟩; rfl; exact absurd h.2 pb
          exact pick_RW a b w da db la (by rw [bne_eq_false_iff_eq]; omega) lb (by rw [bne_iff_ne]; omega)
      · obtain rfl : r = some a := by
          cases r with
          | none => exact absurd ⟨ia, pa⟩ h.1
          | some s => rcases h with ⟨rfl, _⟩ | ⟨_, h, _⟩; rfl; exact absurd h.1 ib
        exact pick_RN a b w da (fun W => suDecode_no b W hb ib) la (by rw [bne_eq_false_iff_eq]; omega)
    · by_cases ib : isU b
      · have db := fun W => suDecode_yes b W ib
        by_cases pb : numU (b.extract 6 58) 0 % 2 = 1
        · obtain rfl : r = some b := by
            cases r with
            | none => exact absurd ⟨ib, pb⟩ h.2
            | some s => rcases h with ⟨_, h, _⟩ | ⟨rfl, _⟩; exact absurd h.2 pa; rfl
          exact pick_WR a b w da db la (by rw [bne_iff_ne]; omega) lb (by rw [bne_eq_false_iff_eq]; omega)
        · obtain rfl : r = none := by
            cases r with
            | none => rfl
            | some s => rcases h with ⟨_, h, _⟩ | ⟨_, h, _⟩; exact absurd h.2 pa; exact absurd h.2 pb
          exact pick_WW a b w da db la (by rw [bne_iff_ne]; omega) lb (by rw [bne_iff_ne]; omega)
      · obtain rfl : r = none := by
          cases r with
          | none => rfl
          | some s => rcases h with ⟨_, h, _⟩ | ⟨_, h, _⟩; exact absurd h.2 pa; exact absurd h.1 ib
        exact pick_WN a b w da (fun W => suDecode_no b W hb ib) la (by rw [bne_iff_ne]; omega)
  · have da := fun W => suDecode_no a W ha ia
    by_cases ib : isU b
    · have db := fun W => suDecode_yes b W ib
      by_cases pb : numU (b.extract 6 58) 0 % 2 = 1
      · obtain rfl : r = some b := by
          cases r with
          | none => exact absurd ⟨ib, pb⟩ h.2
          | some s => rcases h with ⟨_, h, _⟩ | ⟨rfl, _⟩; exact absurd h.1 ia; rfl
        exact pick_NR a b w da db lb (by rw [bne_eq_false_iff_eq]; omega)
      · obtain rfl : r = none := by
          cases r with
          | none => rfl
          | some s => rcases h with ⟨_, h, _⟩ | ⟨_, h, _⟩; exact absurd h.1 ia; exact absurd h.2 pb
        exact pick_NW a b w da db lb (by rw [bne_iff_ne]; omega)
    · obtain rfl : r = none := by
        cases r with
        | none => rfl
        | some s => rcases h with ⟨_, h, _⟩ | ⟨_, h, _⟩; exact absurd h.1 ia; exact absurd h.1 ib
      exact pick_NN a b w da (fun W => suDecode_no b W hb ib)
theorem ruPick_any (a b : ByteArray) (w : World) (ha : a.size ≤ 1000000) (hb : b.size ≤ 1000000) (r : Option ByteArray) (h : Picks a b r) :
    Calls Try.prog 24 #[.string a, .string b] w fun x w' => x = .returned (gotV r) ∧ Below w.heap.size w w' := by
  by_cases ia : isU a
  · have da := fun W => ruDecode_yes a W ia
    by_cases pa : numU (a.extract 6 58) 0 % 2 = 0
    · by_cases ib : isU b
      · have db := fun W => ruDecode_yes b W ib
        by_cases pb : numU (b.extract 6 58) 0 % 2 = 1
        · by_cases g : numU (a.extract 6 58) 0 < numU (b.extract 6 58) 0
          · obtain rfl : r = some b := by
              cases r with
              | none => exact absurd ⟨ia, pa⟩ h.1
              | some s => rcases h with ⟨_, _, h⟩ | ⟨rfl, _⟩; exact absurd (h ⟨ib, pb⟩) (by omega); rfl
            exact rpick_RRl a b w da db (by rw [beq_iff_eq]; omega) (by rw [beq_iff_eq]; omega) (by simp; omega)
          · obtain rfl : r = some a := by
              cases r with
              | none => exact absurd ⟨ia, pa⟩ h.1
              | some s => rcases h with ⟨rfl, _⟩ | ⟨_, _, h⟩; rfl; exact absurd (h ⟨ia, pa⟩) g
            exact rpick_RRg a b w da db (by rw [beq_iff_eq]; omega) (by rw [beq_iff_eq]; omega) (by simp; omega)
        · obtain rfl : r = some a := by
            cases r with
            | none => exact absurd ⟨ia, pa⟩ h.1
            | some s => rcases h with ⟨rfl, _⟩ | ⟨_, h, _⟩; rfl; exact absurd h.2 pb
          exact rpick_RW a b w da db (by rw [beq_iff_eq]; omega) (by rw [beq_eq_false_iff_ne]; omega)
      · obtain rfl : r = some a := by
          cases r with
          | none => exact absurd ⟨ia, pa⟩ h.1
          | some s => rcases h with ⟨rfl, _⟩ | ⟨_, h, _⟩; rfl; exact absurd h.1 ib
        exact rpick_RN a b w da (fun W => ruDecode_no b W hb ib) (by rw [beq_iff_eq]; omega)
    · by_cases ib : isU b
      · have db := fun W => ruDecode_yes b W ib
        by_cases pb : numU (b.extract 6 58) 0 % 2 = 1
        · obtain rfl : r = some b := by
            cases r with
            | none => exact absurd ⟨ib, pb⟩ h.2
            | some s => rcases h with ⟨_, h, _⟩ | ⟨rfl, _⟩; exact absurd h.2 pa; rfl
          exact rpick_WR a b w da db (by rw [beq_eq_false_iff_ne]; omega) (by rw [beq_iff_eq]; omega)
        · obtain rfl : r = none := by
            cases r with
            | none => rfl
            | some s => rcases h with ⟨_, h, _⟩ | ⟨_, h, _⟩; exact absurd h.2 pa; exact absurd h.2 pb
          exact rpick_WW a b w da db (by rw [beq_eq_false_iff_ne]; omega) (by rw [beq_eq_false_iff_ne]; omega)
      · obtain rfl : r = none := by
          cases r with
          | none => rfl
          | some s => rcases h with ⟨_, h, _⟩ | ⟨_, h, _⟩; exact absurd h.2 pa; exact absurd h.1 ib
        exact rpick_WN a b w da (fun W => ruDecode_no b W hb ib) (by rw [beq_eq_false_iff_ne]; omega)
  · have da := fun W => ruDecode_no a W ha ia
    by_cases ib : isU b
    · have db := fun W => ruDecode_yes b W ib
      by_cases pb : numU (b.extract 6 58) 0 % 2 = 1
      · obtain rfl : r = some b := by
          cases r with
          | none => exact absurd ⟨ib, pb⟩ h.2
          | some s => rcases h with ⟨_, h, _⟩ | ⟨rfl, _⟩; exact absurd h.1 ia; rfl
        exact rpick_NR a b w da db (by rw [beq_iff_eq]; omega)
      · obtain rfl : r = none := by
          cases r with
          | none => rfl
          | some s => rcases h with ⟨_, h, _⟩ | ⟨_, h, _⟩; exact absurd h.1 ia; exact absurd h.2 pb
        exact rpick_NW a b w da db (by rw [beq_eq_false_iff_ne]; omega)
    · obtain rfl : r = none := by
        cases r with
        | none => rfl
        | some s => rcases h with ⟨_, h, _⟩ | ⟨_, h, _⟩; exact absurd h.1 ia; exact absurd h.1 ib
      exact rpick_NN a b w da (fun W => ruDecode_no b W hb ib)
end Go.Proofs.Ytkmlmondhmpkkaa.W
end
section
namespace Go.Proofs.Ytkmlmondhmpkkaa.W
open Go.RowKit
open Go.Proofs.Ytkmlmondhmpkkaa.M Go.Proofs.Ytkmlmondhmpkkaa.D Go.Proofs.Ytkmlmondhmpkkaa.Z
set_option linter.unusedVariables false

theorem key_super : Try.prog.keyTypeAt 3 43 = true := by kernel_rfl
theorem key_rsuper : Try.prog.keyTypeAt 3 48 = true := by kernel_rfl
theorem cU : Try.prog.cellsOf 22 = 1 := by kernel_rfl
theorem c3 : Try.prog.cellsOf 41 = 3 := by kernel_rfl
theorem c5 : Try.prog.cellsOf 46 = 5 := by kernel_rfl
theorem cS : Try.prog.cellsOf 43 = 5 := by kernel_rfl
theorem cR : Try.prog.cellsOf 48 = 5 := by kernel_rfl
theorem wfU (a : Nat) (h : a < 4294967296) : (Lit.int .u32 (a : Int)).wf = true := by
  have h1 : IntKind.u32.min = 0 := by decide
  have h2 : IntKind.u32.max = 4294967295 := by decide
  simp [Lit.wf, h1, h2]; omega
theorem lit1 (a : Nat) (h : a < 4294967296) (d : Nat) : Try.prog.keyLits (d + 1) 22 [.int .u32 (a : Int)] = some [.int .u32 (a : Int)] := by
  unfold Program.keyLits
  rw [Try.underlying22]
  simp [wfU a h]
theorem lits3 (a b c : Nat) (ha : a < 4294967296) (hb : b < 4294967296) (hc : c < 4294967296) : Try.prog.keyLits 2 41 [.int .u32 (a : Int), .int .u32 (b : Int), .int .u32 (c : Int)] = some [.int .u32 (a : Int), .int .u32 (b : Int), .int .u32 (c : Int)] := by
  unfold Program.keyLits
  rw [Try.underlying41]
  simp [c3, cU, List.range, List.range.loop, lit1 a ha 0, lit1 b hb 0, lit1 c hc 0]
theorem lits_super (a b c d e : Nat) (ha : a < 4294967296) (hb : b < 4294967296) (hc : c < 4294967296) (hd : d < 4294967296) (he : e < 4294967296) : Try.prog.keyLits 3 43 (u32s a b c d e) = some [.int .u32 a, .int .u32 b, .int .u32 c, .int .u32 d, .int .u32 e] := by
  unfold Program.keyLits
  rw [Try.underlying43]
  simp [cS, cU, c3, lit1 a ha 1, lit1 b hb 1, lits3 c d e hc hd he]
theorem lits5 (a b c d e : Nat) (ha : a < 4294967296) (hb : b < 4294967296) (hc : c < 4294967296) (hd : d < 4294967296) (he : e < 4294967296) : Try.prog.keyLits 2 46 (u32s a b c d e) = some [.int .u32 a, .int .u32 b, .int .u32 c, .int .u32 d, .int .u32 e] := by
  unfold Program.keyLits
  rw [Try.underlying46]
  simp [c5, cU, List.range, List.range.loop, lit1 a ha 0, lit1 b hb 0, lit1 c hc 0, lit1 d hd 0, lit1 e he 0]
theorem lits_rsuper (a b c d e : Nat) (ha : a < 4294967296) (hb : b < 4294967296) (hc : c < 4294967296) (hd : d < 4294967296) (he : e < 4294967296) : Try.prog.keyLits 3 48 (u32s a b c d e) = some [.int .u32 a, .int .u32 b, .int .u32 c, .int .u32 d, .int .u32 e] := by
  unfold Program.keyLits
  rw [Try.underlying48]
  simp [cR, c5, lits5 a b c d e ha hb hc hd he]
theorem eq_super (a b c d e a' b' c' d' e' : Nat) (ha : a < 4294967296) (hb : b < 4294967296) (hc : c < 4294967296) (hd : d < 4294967296) (he : e < 4294967296) (ha' : a' < 4294967296) (hb' : b' < 4294967296) (hc' : c' < 4294967296) (hd' : d' < 4294967296) (he' : e' < 4294967296) :
    ∃ r : Bool, (r = true ↔ a = a' ∧ b = b' ∧ c = c' ∧ d = d' ∧ e = e') ∧ ∀ w : World, (Op.equalIn 10000 43 (.agg #[.int .u32 a, .int .u32 b, .int .u32 c, .int .u32 d, .int .u32 e]) (.agg #[.int .u32 a', .int .u32 b', .int .u32 c', .int .u32 d', .int .u32 e'])).run Try.prog w = .ok r w := by
  refine ⟨decide (a = a' ∧ b = b' ∧ c = c' ∧ d = d' ∧ e = e'), by simp, fun w => ?_⟩
  obtain ⟨r, h1, h2⟩ := run_equalIn_deep 9997 3 43 key_super w 3 3 (.agg #[.int .u32 a, .int .u32 b, .int .u32 c, .int .u32 d, .int .u32 e]) (.agg #[.int .u32 a', .int .u32 b', .int .u32 c', .int .u32 d', .int .u32 e']) _ _ (by kernel_rfl) (by kernel_rfl) (lits_super a b c d e ha hb hc hd he) (lits_super a' b' c' d' e' ha' hb' hc' hd' he')
  rw [h1]
  refine congrArg (fun b => Result.ok b w) ?_
  rw [Bool.eq_iff_iff, h2]
  simp
  omega
theorem same_super (a b c d e : Nat) (ha : a < 4294967296) (hb : b < 4294967296) (hc : c < 4294967296) (hd : d < 4294967296) (he : e < 4294967296) (w : World) : (Op.equalIn 10000 43 (.agg #[.int .u32 a, .int .u32 b, .int .u32 c, .int .u32 d, .int .u32 e]) (.agg #[.int .u32 a, .int .u32 b, .int .u32 c, .int .u32 d, .int .u32 e])).run Try.prog w = .ok true w := by
  obtain ⟨r, h1, h2⟩ := eq_super a b c d e a b c d e ha hb hc hd he ha hb hc hd he
  rw [h2, h1.2 ⟨rfl, rfl, rfl, rfl, rfl⟩]
theorem same_rsuper (a b c d e : Nat) (ha : a < 4294967296) (hb : b < 4294967296) (hc : c < 4294967296) (hd : d < 4294967296) (he : e < 4294967296) (w : World) : (Op.equalIn 10000 48 (.agg #[.int .u32 a, .int .u32 b, .int .u32 c, .int .u32 d, .int .u32 e]) (.agg #[.int .u32 a, .int .u32 b, .int .u32 c, .int .u32 d, .int .u32 e])).run Try.prog w = .ok true w := by
  obtain ⟨r, h1, h2⟩ := run_equalIn_deep 9997 3 48 key_rsuper w 3 3 (.agg #[.int .u32 a, .int .u32 b, .int .u32 c, .int .u32 d, .int .u32 e]) (.agg #[.int .u32 a, .int .u32 b, .int .u32 c, .int .u32 d, .int .u32 e]) _ _ (by kernel_rfl) (by kernel_rfl) (lits_rsuper a b c d e ha hb hc hd he) (lits_rsuper a b c d e ha hb hc hd he)
  rw [h1, h2.2 rfl]
theorem ref_any (a b c d e : Int) (w : World) :
    Calls Try.prog 19 #[.agg #[.int .u32 a, .int .u32 b, .int .u32 c, .int .u32 d, .int .u32 e]] w fun x w' => x = .returned (.agg #[.int .u32 a, .int .u32 b, .int .u32 c, .int .u32 d, .int .u32 e]) ∧ Below w.heap.size w w' := by
  have hB := Lib.hid (grewAlloc (grewAlloc (Below.refl _ w) (.cells #[.int .u32 a, .int .u32 b, .int .u32 c, .int .u32 d, .int .u32 e] 43)) (.cells #[.int .u32 a, .int .u32 b, .int .u32 c, .int .u32 d, .int .u32 e] 48))
  go_enter Try.func19, Try.ntmps19
  go_wp2_with fail
  exact bodyPost_ret (v := .agg #[.int .u32 a, .int .u32 b, .int .u32 c, .int .u32 d, .int .u32 e]) (by simp [results, Try.results19, go_sem]) rfl ⟨rfl, hB.out⟩
end Go.Proofs.Ytkmlmondhmpkkaa.W
end
section
namespace Go.Proofs.Ytkmlmondhmpkkaa.W
open Go.RowKit
open Go.Proofs.Ytkmlmondhmpkkaa.M Go.Proofs.Ytkmlmondhmpkkaa.D Go.Proofs.Ytkmlmondhmpkkaa.Z
set_option linter.unusedVariables false

theorem five {w : World} {b0 : Nat} {t : TypeId} {a b c d e : Int} (h : Whole w b0 t (u32s a b c d e)) :
    (w.cell? ⟨b0, 0, none⟩ = some (.int .u32 a) ∧ w.cell? ⟨b0, 1, none⟩ = some (.int .u32 b)) ∧ w.cell? ⟨b0, 2, none⟩ = some (.int .u32 c) ∧ w.cell? ⟨b0, 3, none⟩ = some (.int .u32 d) ∧ w.cell? ⟨b0, 4, none⟩ = some (.int .u32 e) :=
  ⟨⟨h.cell 0, h.cell 1⟩, h.cell 2, h.cell 3, h.cell 4⟩
set_option maxRecDepth 100000 in
theorem three_bytes : ((B (superU 3 2 1 5 9)).extract 6 12).toList = [87, 76, 0, 0, 0, 3] := by decide +kernel
theorem nums_super (a b c d e : Nat) (ha : a < 4294967296) (hb : b < 4294967296) (hc : c < 4294967296) (hd : d < 4294967296) (he : e < 4294967296) :
    numU ((B (superU a b c d e)).extract 6 58) 0 = a ∧ numU ((B (superU a b c d e)).extract 6 58) 1 = b ∧ numU ((B (superU a b c d e)).extract 6 58) 2 = c ∧ numU ((B (superU a b c d e)).extract 6 58) 3 = d ∧ numU ((B (superU a b c d e)).extract 6 58) 4 = e := by
  rw [(open_super a b c d e ha).2.2.2]
  exact nums_of a b c d e ha hb hc hd he
theorem isU_nil : ¬ isU ⟨#[]⟩ := fun h => by
  have := (isU_opens _ h).1.1
  exact absurd this (by decide)
set_option maxRecDepth 100000 in
set_option maxHeartbeats 4000000 in
theorem three_any (w : World) :
    Calls Try.prog 16 #[] w fun e w' => e = .returned (.bool true) ∧ Below w.heap.size w w' := by
  have hU := isU_super 3 2 1 5 9 (by decide) (by decide) (by decide) (by decide) (by decide)
  obtain ⟨n0, n1, n2, n3, n4⟩ := nums_super 3 2 1 5 9 (by decide) (by decide) (by decide) (by decide) (by decide)
  have hen : ∀ W : World, Calls Try.prog 20 #[.agg #[.int .u32 3, .int .u32 2, .int .u32 1, .int .u32 5, .int .u32 9]] W fun x w' => x = .returned (.string (B (superU 3 2 1 5 9))) ∧ Below W.heap.size W w' := fun W => suEncode_any 3 2 1 5 9 W (by decide) (by decide) (by decide) (by decide) (by decide)
  have hde := fun W => suDecode_yes (B (superU 3 2 1 5 9)) W hU
  rw [n0, n1, n2, n3, n4] at hde
  replace hde : ∀ W : World, Calls Try.prog 17 #[.string (B (superU 3 2 1 5 9))] W fun x w' => x = .returned (.tuple #[.agg #[.int .u32 3, .int .u32 2, .int .u32 1, .int .u32 5, .int .u32 9], .int .i64 0]) ∧ Below W.heap.size W w' := fun W => hde W
  have hpi := fun W => suPick_any ⟨#[]⟩ (B (superU 3 2 1 5 9)) W (by decide) (by rw [B_size, superU_len]; omega) (some (B (superU 3 2 1 5 9))) (.inr ⟨rfl, ⟨hU, by rw [n0]⟩, fun h => absurd h.1 isU_nil⟩)
  simp only [pickV, u5] at hpi
  rw [n0, n1, n2, n3, n4] at hpi
  replace hpi : ∀ W : World, Calls Try.prog 23 #[.string ⟨#[]⟩, .string (B (superU 3 2 1 5 9))] W fun x w' => x = .returned (.tuple #[.agg #[.int .u32 3, .int .u32 2, .int .u32 1, .int .u32 5, .int .u32 9], .int .i64 0]) ∧ Below W.heap.size W w' := fun W => hpi W
  have hpl : ∀ W : World, Calls Try.prog 22 #[.agg #[.int .u32 3, .int .u32 2, .int .u32 1, .int .u32 5, .int .u32 9]] W fun x w' => x = .returned (.int .i64 1) ∧ Below W.heap.size W w' := fun W => place_any 3 2 1 5 9 W (by decide) (by decide)
  have hsm : ∀ W : World, (Op.equalIn 10000 43 (.agg #[.int .u32 3, .int .u32 2, .int .u32 1, .int .u32 5, .int .u32 9]) (.agg #[.int .u32 3, .int .u32 2, .int .u32 1, .int .u32 5, .int .u32 9])).run Try.prog W = .ok true W := fun W => same_super 3 2 1 5 9 (by decide) (by decide) (by decide) (by decide) (by decide) W
  have hTz : (B (superU 3 2 1 5 9)).size = 64 := by rw [B_size, superU_len]
  have hTx := three_bytes
  obtain ⟨T, hT⟩ : ∃ T, Hid (B (superU 3 2 1 5 9) = T) := ⟨_, Lib.hid rfl⟩
  rw [hT.out] at hen hde hpi hTz hTx
  replace hen := Lib.hid hen
  replace hde := Lib.hid hde
  replace hpi := Lib.hid hpi
  replace hpl := Lib.hid hpl
  clear n0 n1 n2 n3 n4 hU hT
  go_enter Try.func16, Try.ntmps16
  go_wp2_with fail
  have hA := Whole.new w 43 (u32s 3 2 1 5 9)
  have hB := (Below.refl w.heap.size w).alloc (Nat.le_refl _) (.cells (u32s 3 2 1 5 9).toArray 43)
  refine (hen.out _).mono ?_
  rintro ee w1 ⟨rfl, hb1⟩
  replace hA := hA.below hb1 hA.lt
  replace hB := grew hB hb1
  clear hb1
  go_wp2_with fail
  refine (hde.out _).mono ?_
  rintro ee w2 ⟨rfl, hb2⟩
  replace hA := (hA.below hb2 hA.lt).alloc (.cells (u32s 3 2 1 5 9).toArray 43)
  replace hB := grewAlloc (grew hB hb2) (.cells (u32s 3 2 1 5 9).toArray 43)
  have hX := Whole.new w2 43 (u32s 3 2 1 5 9)
  clear hb2
  go_wp2_with fail
  refine (hpi.out _).mono ?_
  rintro ee w3 ⟨rfl, hb3⟩
  replace hA := (hA.below hb3 hA.lt).alloc (.cells (u32s 3 2 1 5 9).toArray 43)
  replace hX := (hX.below hb3 hX.lt).alloc (.cells (u32s 3 2 1 5 9).toArray 43)
  replace hB := Lib.hid (grewAlloc (grew hB hb3) (.cells (u32s 3 2 1 5 9).toArray 43))
  clear hb3
  generalize w2.heap.size = xb at *
  obtain ⟨⟨a0, a1⟩, a2, a3, a4⟩ := five hA
  obtain ⟨⟨x0, x1⟩, x2, x3, x4⟩ := five hX
  clear hA hX
  go_wp2_with fail
  trace_state
  refine (hpl.out _).mono ?_
  rintro ee w4 ⟨rfl, hb4⟩
  go_wp2_with fail
  go_ret
  exact ⟨rfl, grew hB.out hb4⟩
end Go.Proofs.Ytkmlmondhmpkkaa.W
end
