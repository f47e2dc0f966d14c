/- The policy's rules and a ledger of them: the walks of the methods. -/
import Derived.Test.YtdagbepjhbmlfaaProg
import Derived.Test.YtdagbepjhbmlfaaPolicy
import Derived.Deep.MidRow
namespace Go.Proofs.Ytdagbepjhbmlfaa.Q
open Go.RowKit
open Go.Proofs.Ytdagbepjhbmlfaa.Z
open Go.Proofs.Ytdagbepjhbmlfaa.D (Whole splice_row)
open Go.Proofs.Ytdagbepjhbmlfaa.L (ret_bool)
set_option linter.unusedVariables false

/-- The policy at block p has these rules, below block B. -/
structure Pol (w : World) (B p n : Nat) (r : Nat → Rule1) : Prop where
  few : n ≤ 16
  old : B ≤ w.heap.size
  lt : p < B
  rules : ∃ va cap, w.cell? ⟨p, 0, none⟩ = some (.slice va n cap) ∧ n ≤ cap ∧ cap ≤ maxLen ∧ ∀ k, k < n → ∃ b, va = some ⟨b, 0, none⟩ ∧ b < B ∧ w.cell? ⟨b, k * 3, none⟩ = some (.int .i64 (r k).from_) ∧ w.cell? ⟨b, k * 3 + 1, none⟩ = some (.int .i64 (r k).to) ∧ w.cell? ⟨b, k * 3 + 2, none⟩ = some (.int .i64 (r k).bud)
  buds : ∀ k, k < n → 1 ≤ (r k).bud ∧ (r k).bud ≤ 1048576
theorem Pol.below {w w' : World} {B B' p n : Nat} {r : Nat → Rule1} (h : Pol w B p n r) (hB : B ≤ B') (hb : Below B' w w') : Pol w' B p n r := by
  refine ⟨h.few, Nat.le_trans h.old hb.size, h.lt, ?_, h.buds⟩
  obtain ⟨va, cap, h1, h2, h3, h4⟩ := h.rules
  have hc : ∀ (a : Addr), a.block < B → w'.cell? a = w.cell? a := fun a ha => hb.cell (show a.block < B' from Nat.lt_of_lt_of_le ha hB)
  refine ⟨va, cap, (hc _ h.lt).trans h1, h2, h3, fun k hk => ?_⟩
  obtain ⟨b, e1, e2, e3, e4, e5⟩ := h4 k hk
  exact ⟨b, e1, e2, (hc _ e2).trans e3, (hc _ e2).trans e4, (hc _ e2).trans e5⟩
section
variable (B p n : Nat) (r : Nat → Rule1) (w : World)
theorem psize_any (h : Pol w B p n r) :
    Calls Try.prog 37 #[.pointer (some ⟨p, 0, none⟩)] w fun e w' => e = .returned (.int .i64 n) ∧ w = w' := by
  obtain ⟨va, cap, h1, h2, h3, _⟩ := h.rules
  have hf := h.few
  clear h
  go_enter Try.func37, Try.ntmps37
  go_wp2_with fail
  go_ret
  exact ⟨rfl, rfl⟩
theorem psize_nil : Calls Try.prog 37 #[.pointer none] w fun e w' => e = .returned (.int .i64 0) ∧ w = w' := by
  go_enter Try.func37, Try.ntmps37
  go_wp2_with fail
  go_ret
  exact ⟨rfl, rfl⟩
theorem phas_any (a : Int) (h : Pol w B p n r) :
    Calls Try.prog 78 #[.pointer (some ⟨p, 0, none⟩), .int .i64 a] w fun e w' => e = .returned (.bool (Go.Proofs.Ytdagbepjhbmlfaa.L.hasB n a)) ∧ w = w' := by
  have hs := Lib.hid (psize_any B p n r w h)
  by_cases h1 : 0 ≤ a
  · rw [show Go.Proofs.Ytdagbepjhbmlfaa.L.hasB n a = decide (a < n) by simp [Go.Proofs.Ytdagbepjhbmlfaa.L.hasB, h1]]
    clear h
    go_enter Try.func78, Try.ntmps78
    go_wp2_with fail
    refine hs.out.mono ?_
    rintro e w1 ⟨rfl, rfl⟩
    go_wp2_with fail
    go_ret
    exact ⟨rfl, rfl⟩
  · rw [show Go.Proofs.Ytdagbepjhbmlfaa.L.hasB n a = false by simp [Go.Proofs.Ytdagbepjhbmlfaa.L.hasB, h1]]
    have hd : decide (0 ≤ a) = false := decide_eq_false h1
    have h3 : a < 0 := by omega
    clear h h1 hs
    go_enter Try.func78, Try.ntmps78
    go_wp2_with fail
    go_ret
    exact ⟨rfl, rfl⟩
theorem rule_nil (a : Int) : Calls Try.prog 36 #[.pointer none, .int .i64 a] w fun e w' => e = .returned (.tuple #[.agg #[.int .i64 0, .int .i64 0, .int .i64 0], .int .i64 7]) ∧ Below w.heap.size w w' := by
  go_enter Try.func36, Try.ntmps36
  go_wp2_with fail
  refine bodyPost_ret (v := .tuple #[.agg #[.int .i64 0, .int .i64 0, .int .i64 0], .int .i64 7]) (by simp [results, Try.results36, go_sem]) rfl ⟨rfl, allocB _ _⟩
theorem rule_in (k : Nat) (h : Pol w B p n r) (hk : k < n) : Calls Try.prog 36 #[.pointer (some ⟨p, 0, none⟩), .int .i64 k] w fun e w' => e = .returned (.tuple #[.agg #[.int .i64 (r k).from_, .int .i64 (r k).to, .int .i64 (r k).bud], .int .i64 0]) ∧ Below w.heap.size w w' := by
  have hb := allocB w (.cells #[.int .i64 0, .int .i64 0, .int .i64 0] 69)
  have hP := h.below h.old hb
  obtain ⟨va, cap, h1, h2, h3, h4⟩ := hP.rules
  obtain ⟨b, rfl, hlt, e0, e1, e2⟩ := h4 k hk
  have hs := Lib.hid (phas_any B p n r _ k hP)
  rw [show Go.Proofs.Ytdagbepjhbmlfaa.L.hasB n k = true by simp [Go.Proofs.Ytdagbepjhbmlfaa.L.hasB, hk]] at hs
  have hf := h.few
  have z0 : (0 : Int) ≤ k := by omega
  have z1 : (k : Int) < n := by omega
  clear h4 h hP hb
  go_enter Try.func36, Try.ntmps36
  go_wp2_with fail
  refine hs.out.mono ?_
  rintro e w1 ⟨rfl, rfl⟩
  clear hs
  go_wp2_with fail
  refine bodyPost_ret (v := .tuple #[.agg #[.int .i64 (r k).from_, .int .i64 (r k).to, .int .i64 (r k).bud], .int .i64 0]) (by simp [results, Try.results36, go_sem]) rfl ⟨rfl, allocB _ _⟩
theorem rule_out (a : Int) (h : Pol w B p n r) (ha : a < 0 ∨ n ≤ a) : Calls Try.prog 36 #[.pointer (some ⟨p, 0, none⟩), .int .i64 a] w fun e w' => e = .returned (.tuple #[.agg #[.int .i64 0, .int .i64 0, .int .i64 0], .int .i64 6]) ∧ Below w.heap.size w w' := by
  have hb := allocB w (.cells #[.int .i64 0, .int .i64 0, .int .i64 0] 69)
  have hs := Lib.hid (phas_any B p n r _ a (h.below h.old hb))
  rw [show Go.Proofs.Ytdagbepjhbmlfaa.L.hasB n a = false by simp [Go.Proofs.Ytdagbepjhbmlfaa.L.hasB]; omega] at hs
  clear h hb ha
  go_enter Try.func36, Try.ntmps36
  go_wp2_with fail
  refine hs.out.mono ?_
  rintro e w1 ⟨rfl, rfl⟩
  clear hs
  go_wp2_with fail
  refine bodyPost_ret (v := .tuple #[.agg #[.int .i64 0, .int .i64 0, .int .i64 0], .int .i64 6]) (by simp [results, Try.results36, go_sem]) rfl ⟨rfl, allocB _ _⟩
theorem find_nil (a b : Int) : Calls Try.prog 34 #[.pointer none, .int .i64 a, .int .i64 b] w fun e w' => e = .returned (.tuple #[.int .i64 0, .int .i64 7]) ∧ w = w' := by
  go_enter Try.func34, Try.ntmps34
  go_wp2_with fail
  go_ret2
  exact ⟨rfl, rfl⟩
theorem ledger_nil (a : Int) : Calls Try.prog 38 #[.pointer none, .int .i64 a] w fun e w' => e = .returned (.tuple #[.pointer none, .int .i64 7]) ∧ w = w' := by
  go_enter Try.func38, Try.ntmps38
  go_wp2_with fail
  go_ret2
  exact ⟨rfl, rfl⟩
theorem ledger_no (a : Int) (ha : pointB a = false) : Calls Try.prog 38 #[.pointer (some ⟨p, 0, none⟩), .int .i64 a] w fun e w' => e = .returned (.tuple #[.pointer none, .int .i64 1]) ∧ w = w' := by
  have hs := Lib.hid (point_any a w)
  rw [ha] at hs
  clear ha
  go_enter Try.func38, Try.ntmps38
  go_wp2_with fail
  refine hs.out.mono ?_
  rintro e w1 ⟨rfl, rfl⟩
  go_wp2_with fail
  go_ret2
  exact ⟨rfl, rfl⟩
end
/-- The cells of a ledger. -/
def ledL (p : Nat) (win tick : Nat) (sp : Nat → Nat) : List Value := .pointer (some ⟨p, 0, none⟩) :: .int .i64 win :: .int .i64 tick :: (List.range 16).map fun i => .int .i64 (sp i)
theorem ledL_len (p win tick : Nat) (sp : Nat → Nat) : (ledL p win tick sp).length = 19 := by simp [ledL]
theorem ledL_at (p win tick : Nat) (sp : Nat → Nat) (i : Nat) (hi : i < 16) : (ledL p win tick sp)[3 + i]? = some (.int .i64 (sp i)) := by
  unfold ledL
  rw [Nat.add_comm, List.getElem?_cons_succ, List.getElem?_cons_succ, List.getElem?_cons_succ, List.getElem?_map, List.getElem?_range hi]
  rfl
theorem ledL_none (p win tick : Nat) : ledL p win tick (fun _ => 0) = [.pointer (some ⟨p, 0, none⟩), .int .i64 win, .int .i64 tick] ++ List.replicate 16 (.int .i64 0) := by
  simp [ledL, List.range_succ, List.replicate_succ]
/-- A ledger at block g, of the policy. -/
structure Led (w : World) (B g p n : Nat) (r : Nat → Rule1) (win tick : Nat) (sp : Nat → Nat) : Prop where
  pol : Pol w B p n r
  new : B ≤ g
  obj : Whole w g 143 (ledL p win tick sp)
  wins : 1 ≤ win ∧ win ≤ 1048576
  ticks : tick < win
  spent : ∀ k, k < n → (sp k : Int) ≤ (r k).bud
theorem Led.below {w w' : World} {B g p n : Nat} {r : Nat → Rule1} {win tick : Nat} {sp : Nat → Nat} (h : Led w B g p n r win tick sp) (hb : Below w.heap.size w w') : Led w' B g p n r win tick sp :=
  ⟨h.pol.below h.pol.old hb, h.new, h.obj.below hb h.obj.lt, h.wins, h.ticks, h.spent⟩
theorem Led.drew {w : World} {B g p n : Nat} {r : Nat → Rule1} {win tick : Nat} {sp : Nat → Nat} (h : Led w B g p n r win tick sp) (m : Nat) : Led (w.drewN m) B g p n r win tick sp := h.below (drewB (Below.refl _ _) m)
section
variable (B g p n : Nat) (r : Nat → Rule1) (win tick : Nat) (sp : Nat → Nat) (w : World)
theorem left_nil (a : Int) : Calls Try.prog 43 #[.pointer none, .int .i64 a] w fun e w' => e = .returned (.int .i64 0) ∧ w = w' := by
  go_enter Try.func43, Try.ntmps43
  go_wp2_with fail
  go_ret
  exact ⟨rfl, rfl⟩
theorem spend_nil (a : Int) : Calls Try.prog 40 #[.pointer none, .int .i64 a] w fun e w' => e = .returned (.int .i64 7) ∧ w = w' := by
  go_enter Try.func40, Try.ntmps40
  go_wp2_with fail
  go_ret
  exact ⟨rfl, rfl⟩
theorem left_out (a : Int) (h : Led w B g p n r win tick sp) (ha : a < 0 ∨ n ≤ a) : Calls Try.prog 43 #[.pointer (some ⟨g, 0, none⟩), .int .i64 a] w fun e w' => e = .returned (.int .i64 0) ∧ w = w' := by
  have hs := Lib.hid (phas_any B p n r w a h.pol)
  rw [show Go.Proofs.Ytdagbepjhbmlfaa.L.hasB n a = false by simp [Go.Proofs.Ytdagbepjhbmlfaa.L.hasB]; omega] at hs
  have c0 : w.cell? ⟨g, 0, none⟩ = some (.pointer (some ⟨p, 0, none⟩)) := h.obj.cell 0
  clear h ha
  go_enter Try.func43, Try.ntmps43
  go_wp2_with fail
  refine hs.out.mono ?_
  rintro e w1 ⟨rfl, rfl⟩
  go_wp2_with fail
  go_ret
  exact ⟨rfl, rfl⟩
theorem left_in (k : Nat) (h : Led w B g p n r win tick sp) (hk : k < n) : Calls Try.prog 43 #[.pointer (some ⟨g, 0, none⟩), .int .i64 k] w fun e w' => e = .returned (.int .i64 ((r k).bud - sp k)) ∧ Below w.heap.size w w' := by
  have hs := Lib.hid (phas_any B p n r w k h.pol)
  rw [show Go.Proofs.Ytdagbepjhbmlfaa.L.hasB n k = true by simp [Go.Proofs.Ytdagbepjhbmlfaa.L.hasB, hk]] at hs
  have hf := h.pol.few
  have c0 : w.cell? ⟨g, 0, none⟩ = some (.pointer (some ⟨p, 0, none⟩)) := h.obj.cell 0
  have c1 : w.cell? ⟨g, 3 + k, none⟩ = some (.int .i64 (sp k)) := (h.obj.cell _).trans (ledL_at _ _ _ _ _ (by omega))
  obtain ⟨va, cap, h1, h2, h3, h4⟩ := h.pol.rules
  obtain ⟨b, rfl, hlt, e0, e1, e2⟩ := h4 k hk
  have hb := h.pol.buds k hk
  have hsp := h.spent k hk
  have z0 : (0 : Int) ≤ k := by omega
  have z1 : (k : Int) < n := by omega
  have z2 : (k : Int) < 16 := by omega
  clear h4 h e0 e1
  go_enter Try.func43, Try.ntmps43
  go_wp2_with fail
  refine hs.out.mono ?_
  rintro e w1 ⟨rfl, rfl⟩
  clear hs
  go_wp2_with fail
  go_quiet (fail)
  go_wp2_with fail
  go_ret
  exact ⟨rfl, drewB (Below.refl _ _) _⟩
end
end Go.Proofs.Ytdagbepjhbmlfaa.Q
