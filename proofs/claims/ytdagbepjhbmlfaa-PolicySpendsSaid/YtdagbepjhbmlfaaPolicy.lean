/- The policy and its ledger: what they are in memory, and the walks of their methods. -/
import Derived.Test.YtdagbepjhbmlfaaProg
import Derived.Test.YtdagbepjhbmlfaaLattice
import Derived.Test.YtdagbepjhbmlfaaStops
import Derived.Deep.QuietTactic
import Derived.BigQuiet
import Derived.BigRegion
namespace Go.Proofs.Ytdagbepjhbmlfaa.Q
open Go.RowKit
open Go.Proofs.Ytdagbepjhbmlfaa.Z
open Go.Proofs.Ytdagbepjhbmlfaa.D (Whole splice_row)
open Go.Proofs.Ytdagbepjhbmlfaa.L (Lat hasB flowsB flows_any ret_bool)
set_option linter.unusedVariables false

theorem keepC {w w' : World} {p : Addr} {v : Value} (hb : Below w.heap.size w w') (h : w.cell? p = some v) : w'.cell? p = some v := (hb.cell (World.block_lt_of_cell? w p h)).trans h
theorem allocB (w : World) (o : Obj) : Below w.heap.size w (w.alloc o) := (Below.refl _ _).alloc (Nat.le_refl _) o
theorem drewB {B : Nat} {a w : World} (h : Below B a w) (n : Nat) : Below B a (w.drewN n) := ⟨h.os, h.tape, h.output, h.size, h.block⟩

theorem latB {w w' : World} {p m : Nat} {F : Nat → Nat → Bool} (h : Lat w p m F) (hb : Below w.heap.size w w') : Lat w' p m F := ⟨h.small, keepC hb h.size, fun a b ha hb' => keepC hb (h.flows a b ha hb')⟩
/-- A rule, by its parts. -/
structure Rule1 where
  from_ : Int
  to : Int
  bud : Int
def pointB (a : Int) : Bool := decide (1 ≤ a) && decide (a ≤ 1048576)
/-- What is wrong with a rule, by itself. -/
def ruleE (m : Nat) (F : Nat → Nat → Bool) (r : Rule1) : Int :=
  if hasB m r.from_ && (hasB m r.to && pointB r.bud) then (if r.from_ = r.to then 4 else if F r.to.toNat r.from_.toNat then 0 else 4) else 1

theorem point_any (a : Int) (w : World) :
    Calls Try.prog 79 #[.int .i64 a] w fun e w' => e = .returned (.bool (pointB a)) ∧ w = w' := by
  by_cases h1 : 1 ≤ a
  · by_cases h2 : a ≤ 1048576
    · rw [show pointB a = true by simp [pointB, h1, h2]]
      go_enter Try.func79, Try.ntmps79
      go_wp2_with fail
      go_ret
      exact ⟨rfl, rfl⟩
    · rw [show pointB a = false by simp [pointB]; omega]
      have h3 : 1048576 < a := by omega
      have hd : decide (a ≤ 1048576) = false := decide_eq_false h2
      clear h2
      go_enter Try.func79, Try.ntmps79
      go_wp2_with fail
      go_ret
      exact ⟨rfl, rfl⟩
  · rw [show pointB a = false by simp [pointB, h1]]
    have h3 : a < 1 := by omega
    have hd : decide (1 ≤ a) = false := decide_eq_false h1
    clear h1
    go_enter Try.func79, Try.ntmps79
    go_wp2_with fail
    go_ret
    exact ⟨rfl, rfl⟩
theorem label_any (p m : Nat) (F : Nat → Nat → Bool) (a : Int) (w : World) (h : Lat w p m F) :
    Calls Try.prog 88 #[.pointer (some ⟨p, 0, none⟩), .int .i64 a] w fun e w' => e = .returned (.bool (hasB m a)) ∧ w = w' := by
  have hs := Lib.hid (Go.Proofs.Ytdagbepjhbmlfaa.L.size_any p m F w h)
  by_cases h1 : 0 ≤ a
  · rw [show hasB m a = decide (a < m) by simp [hasB, h1]]
    clear h
    go_enter Try.func88, Try.ntmps88
    go_wp2_with fail
    refine hs.out.mono ?_
    rintro e w1 ⟨rfl, rfl⟩
    go_wp2_with fail
    go_ret
    exact ⟨rfl, rfl⟩
  · rw [show hasB m a = false by simp [hasB, h1]]
    have hd : decide (0 ≤ a) = false := decide_eq_false h1
    have h3 : a < 0 := by omega
    clear h h1 hs
    go_enter Try.func88, Try.ntmps88
    go_wp2_with fail
    go_ret
    exact ⟨rfl, rfl⟩
theorem ruleE_1 {m : Nat} {F : Nat → Nat → Bool} {r : Rule1} (h : (hasB m r.from_ && (hasB m r.to && pointB r.bud)) = false) : ruleE m F r = 1 := by unfold ruleE; rw [h]; rfl
set_option maxHeartbeats 1000000 in
theorem check_any (p m : Nat) (F : Nat → Nat → Bool) (r : Rule1) (w : World) (h : Lat w p m F) :
    Calls Try.prog 77 #[.pointer (some ⟨p, 0, none⟩), .agg #[.int .i64 r.from_, .int .i64 r.to, .int .i64 r.bud]] w fun e w' => e = .returned (.int .i64 (ruleE m F r)) ∧ Below w.heap.size w w' := by
  obtain ⟨f, t, b⟩ := r
  obtain ⟨W, hW⟩ : ∃ W, Hid (W = w.alloc (.cells #[.int .i64 f, .int .i64 t, .int .i64 b] 69)) := ⟨_, Lib.hid rfl⟩
  have hb : Below w.heap.size w W := by rw [hW.out]; exact allocB w _
  have hall := fun i => (Whole.new w 69 [.int .i64 f, .int .i64 t, .int .i64 b]).cell i
  have c0 : W.cell? ⟨w.heap.size, 0, none⟩ = some (.int .i64 f) := by rw [hW.out]; exact hall 0
  have c1 : W.cell? ⟨w.heap.size, 1, none⟩ = some (.int .i64 t) := by rw [hW.out]; exact hall 1
  have c2 : W.cell? ⟨w.heap.size, 2, none⟩ = some (.int .i64 b) := by rw [hW.out]; exact hall 2
  clear hall
  have hL : Lat W p m F := latB h hb
  have k1 := Lib.hid (label_any p m F f W hL)
  have k2 := Lib.hid (label_any p m F t W hL)
  have k3 := Lib.hid (point_any b W)
  have k4 := Lib.hid (flows_any p m t f F W hL)
  clear h hL
  obtain ⟨E, hE⟩ : ∃ E, Hid (ruleE m F ⟨f, t, b⟩ = E) := ⟨_, Lib.hid rfl⟩
  rw [hE.out]
  show Calls Try.prog 77 #[.pointer (some ⟨p, 0, none⟩), .agg #[.int .i64 f, .int .i64 t, .int .i64 b]] w _
  have hE2 := hE.out
  unfold ruleE at hE2
  simp only at hE2
  clear hE
  cases h1 : hasB m f <;> rw [h1] at k1 hE2
  · obtain rfl : 1 = E := by simpa using hE2
    clear h1 hE2
    go_enter Try.func77, Try.ntmps77
    go_wp2_with (with_reducible refine zLoad 3 _ rfl ?_)
    rw [← hW.out]
    refine Lib.hid ?_
    go_wp2_with fail
    refine k1.out.mono ?_
    rintro e w1 ⟨rfl, rfl⟩
    go_wp2_with fail
    go_ret
    exact ⟨rfl, hb⟩
  cases h2 : hasB m t <;> rw [h2] at k2 hE2
  · obtain rfl : 1 = E := by simpa using hE2
    clear h1 h2 hE2
    go_enter Try.func77, Try.ntmps77
    go_wp2_with (with_reducible refine zLoad 3 _ rfl ?_)
    rw [← hW.out]
    refine Lib.hid ?_
    go_wp2_with fail
    refine k1.out.mono ?_
    rintro e w1 ⟨rfl, rfl⟩
    go_wp2_with fail
    refine k2.out.mono ?_
    rintro e w1 ⟨rfl, rfl⟩
    go_wp2_with fail
    go_ret
    exact ⟨rfl, hb⟩
  cases h3 : pointB b <;> rw [h3] at k3 hE2
  · obtain rfl : 1 = E := by simpa using hE2
    clear h1 h2 h3 hE2
    go_enter Try.func77, Try.ntmps77
    go_wp2_with (with_reducible refine zLoad 3 _ rfl ?_)
    rw [← hW.out]
    refine Lib.hid ?_
    go_wp2_with fail
    refine k1.out.mono ?_
    rintro e w1 ⟨rfl, rfl⟩
    go_wp2_with fail
    refine k2.out.mono ?_
    rintro e w1 ⟨rfl, rfl⟩
    go_wp2_with fail
    refine k3.out.mono ?_
    rintro e w1 ⟨rfl, rfl⟩
    go_wp2_with fail
    go_ret
    exact ⟨rfl, hb⟩
  by_cases h4 : f = t
  · obtain rfl : 4 = E := by simpa [h4] using hE2
    subst h4
    have hq : (f == f) = true := beq_self_eq_true _
    clear h1 h2 h3 hE2
    go_enter Try.func77, Try.ntmps77
    go_wp2_with (with_reducible refine zLoad 3 _ rfl ?_)
    rw [← hW.out]
    refine Lib.hid ?_
    go_wp2_with fail
    refine k1.out.mono ?_
    rintro e w1 ⟨rfl, rfl⟩
    go_wp2_with fail
    refine k2.out.mono ?_
    rintro e w1 ⟨rfl, rfl⟩
    go_wp2_with fail
    refine k3.out.mono ?_
    rintro e w1 ⟨rfl, rfl⟩
    go_wp2_with fail
    go_ret
    exact ⟨rfl, hb⟩
  · have hq : (f == t) = false := beq_eq_false_iff_ne.2 h4
    have h5 : flowsB m F t f = F t.toNat f.toNat := by simp [flowsB, h1, h2]
    rw [h5] at k4
    rw [if_neg h4] at hE2
    cases h6 : F t.toNat f.toNat <;> rw [h6] at k4 hE2
    · obtain rfl : 4 = E := by simpa using hE2
      clear h1 h2 h3 hE2 h4 h5 h6
      go_enter Try.func77, Try.ntmps77
      go_wp2_with (with_reducible refine zLoad 3 _ rfl ?_)
      rw [← hW.out]
      refine Lib.hid ?_
      go_wp2_with fail
      refine k1.out.mono ?_
      rintro e w1 ⟨rfl, rfl⟩
      go_wp2_with fail
      refine k2.out.mono ?_
      rintro e w1 ⟨rfl, rfl⟩
      go_wp2_with fail
      refine k3.out.mono ?_
      rintro e w1 ⟨rfl, rfl⟩
      go_wp2_with fail
      refine k4.out.mono ?_
      rintro e w1 ⟨rfl, rfl⟩
      go_wp2_with fail
      go_ret
      exact ⟨rfl, hb⟩
    · obtain rfl : 0 = E := by simpa using hE2
      clear h1 h2 h3 hE2 h4 h5 h6
      go_enter Try.func77, Try.ntmps77
      go_wp2_with (with_reducible refine zLoad 3 _ rfl ?_)
      rw [← hW.out]
      refine Lib.hid ?_
      go_wp2_with fail
      refine k1.out.mono ?_
      rintro e w1 ⟨rfl, rfl⟩
      go_wp2_with fail
      refine k2.out.mono ?_
      rintro e w1 ⟨rfl, rfl⟩
      go_wp2_with fail
      refine k3.out.mono ?_
      rintro e w1 ⟨rfl, rfl⟩
      go_wp2_with fail
      refine k4.out.mono ?_
      rintro e w1 ⟨rfl, rfl⟩
      go_wp2_with fail
      go_ret
      exact ⟨rfl, hb⟩
end Go.Proofs.Ytdagbepjhbmlfaa.Q
