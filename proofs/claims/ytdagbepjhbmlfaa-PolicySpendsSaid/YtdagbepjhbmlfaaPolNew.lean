/- The policy that New makes. -/
import Derived.Test.YtdagbepjhbmlfaaProg
import Derived.Test.YtdagbepjhbmlfaaRules
import Derived.Test.YtdagbepjhbmlfaaTail
import Derived.Deep.LoopGhost
import Derived.Maps.OwnSet
import Derived.Maps.OwnOps
import Derived.DeepKeys4
import Derived.KernelRfl
namespace Go.Proofs.Ytdagbepjhbmlfaa.Q
open Go.RowKit
open Go.Maps (Keyed)
open Go.Proofs.Ytdagbepjhbmlfaa.Z
open Go.Proofs.Ytdagbepjhbmlfaa.D (Whole Kept)
open Go.Proofs.Ytdagbepjhbmlfaa.L (Lat hasB)
set_option linter.unusedVariables false

theorem laidQ : laidOutB Try.prog = true := by kernel_rfl
theorem wayRow : (139 : TypeId) < Try.prog.types.size := of_decide_eq_true (by kernel_rfl)
theorem wayLaw : Keyed Try.prog 139 := Keyed.of_law (deep_law_laid laidQ (m := 3) (by omega) wayRow (by kernel_rfl) (by kernel_rfl))
def wayV (a b : Int) : Value := .agg #[.int .i64 a, .int .i64 b]
def kw (a b : Int) : Lit := .string (keyBytes [.int .i64 a, .int .i64 b])
theorem wayCells : Try.prog.cellsOf 139 = 2 := by kernel_rfl
theorem intCells : Try.prog.cellsOf 3 = 1 := by kernel_rfl
theorem kw_lits {a b : Int} (d : Nat) (ha : (Lit.int .i64 a).wf = true) (hb : (Lit.int .i64 b).wf = true) : Try.prog.keyLits (d + 1 + 1) 139 [.int .i64 a, .int .i64 b] = some [.int .i64 a, .int .i64 b] := by
  simp [Program.keyLits, Try.underlying139, Try.underlying3, ha, hb, wayCells, intCells]
theorem kw_size {a b : Int} (n : Nat) (hn : 0 < n) (ha : (Lit.int .i64 a).wf = true) (hb : (Lit.int .i64 b).wf = true) : Try.prog.keyLits (n + 1) 139 [.int .i64 a, .int .i64 b] = some [.int .i64 a, .int .i64 b] := by
  obtain ⟨d, rfl⟩ : ∃ d, n = d + 1 := ⟨n - 1, by omega⟩
  exact kw_lits d ha hb
theorem kw_of {a b : Int} (ha : (Lit.int .i64 a).wf = true) (hb : (Lit.int .i64 b).wf = true) : keyOf Try.prog 139 (wayV a b) = some (kw a b) := by
  unfold keyOf wayV kw
  simp [Try.underlying139]
  refine ⟨⟨by kernel_rfl, ?_⟩, [.int .i64 a, .int .i64 b], ?_, rfl⟩
  · simp [Value.formed, Try.underlying139, wayCells]
  · exact kw_size _ (Nat.lt_of_le_of_lt (Nat.zero_le _) wayRow) ha hb
theorem kw_inj {a b c d : Int} (ha : (Lit.int .i64 a).wf = true) (hb : (Lit.int .i64 b).wf = true) (hc : (Lit.int .i64 c).wf = true) (hd : (Lit.int .i64 d).wf = true) (h : kw a b = kw c d) : a = c ∧ b = d := by
  have h1 := kw_of ha hb
  rw [h] at h1
  have h2 := wayLaw.inj h1 (kw_of hc hd)
  simpa [wayV] using h2
theorem kw_key (a b : Int) : WideAt.IsKeyLit (kw a b) := trivial
/-- Is there a rule ahead of it from and to the same? -/
def sameB (r : Nat → Rule1) (k : Nat) : Bool := (List.range k).any fun j => decide ((r j).from_ = (r k).from_ ∧ (r j).to = (r k).to)
theorem sameB_true {r : Nat → Rule1} {k : Nat} : sameB r k = true ↔ ∃ j, j < k ∧ (r j).from_ = (r k).from_ ∧ (r j).to = (r k).to := by
  simp [sameB, List.any_eq_true]
theorem sameB_false {r : Nat → Rule1} {k : Nat} : sameB r k = false ↔ ∀ j, j < k → ¬ ((r j).from_ = (r k).from_ ∧ (r j).to = (r k).to) := by
  simp [sameB]
/-- What is wrong with a rule among the others. -/
def ruleF (m : Nat) (F : Nat → Nat → Bool) (r : Nat → Rule1) (k : Nat) : Int := if ruleE m F (r k) ≠ 0 then ruleE m F (r k) else if sameB r k then 8 else 0
/-- The first that is wrong. -/
def firstBad (E : Nat → Int) : Nat → Int
  | 0 => 0
  | k + 1 => if firstBad E k = 0 then E k else firstBad E k
theorem firstBad_zero {E : Nat → Int} {k : Nat} : firstBad E k = 0 ↔ ∀ j, j < k → E j = 0 := by
  induction k with
  | zero => simp [firstBad]
  | succ k ih =>
    unfold firstBad
    constructor
    · intro h j hj
      by_cases h0 : firstBad E k = 0
      · rw [if_pos h0] at h
        rcases Nat.lt_or_ge j k with h1 | h1
        · exact ih.1 h0 j h1
        · obtain rfl : j = k := by omega
          exact h
      · rw [if_neg h0] at h; exact absurd h h0
    · intro h
      rw [if_pos (ih.2 fun j hj => h j (by omega))]
      exact h k (by omega)
theorem firstBad_at {E : Nat → Int} {k n : Nat} (h : ∀ j, j < k → E j = 0) (hk : k < n) (he : E k ≠ 0) : firstBad E n = E k := by
  induction n with
  | zero => omega
  | succ n ih =>
    unfold firstBad
    rcases Nat.lt_or_ge k n with h1 | h1
    · rw [ih h1, if_neg he]
    · obtain rfl : k = n := by omega
      rw [if_pos (firstBad_zero.2 h)]
def polWrong (m : Nat) (F : Nat → Nat → Bool) (r : Nat → Rule1) (n : Nat) : Int := if 16 < n then 2 else firstBad (ruleF m F r) n

theorem ruleE_ok {m : Nat} {F : Nat → Nat → Bool} {r : Rule1} (h : ruleE m F r = 0) : 0 ≤ r.from_ ∧ r.from_ < m ∧ 0 ≤ r.to ∧ r.to < m ∧ 1 ≤ r.bud ∧ r.bud ≤ 1048576 := by
  unfold ruleE at h
  by_cases hc : (hasB m r.from_ && (hasB m r.to && pointB r.bud)) = true
  · simp [hasB, pointB] at hc
    omega
  · rw [if_neg hc] at h
    omega
theorem ruleF_ok {m k : Nat} {F : Nat → Nat → Bool} {r : Nat → Rule1} (h : ruleF m F r k = 0) : ruleE m F (r k) = 0 ∧ sameB r k = false := by
  unfold ruleF at h
  by_cases h1 : ruleE m F (r k) = 0
  · refine ⟨h1, ?_⟩
    rw [if_neg (by simp [h1])] at h
    cases hs : sameB r k
    · rfl
    · rw [hs] at h; simp at h
  · rw [if_pos h1] at h
    exact absurd h h1
abbrev numQ (c : Nat) : DataW Unit := .lit (.int .i64 (c : Int))
/-- What the map tells when k rules are in it. -/
structure WTold (r : Nat → Rule1) (k : Nat) (D : DataW Unit) : Prop where
  tidy : Maps.Tidy D
  labs : ∀ i, i < k → 0 ≤ (r i).from_ ∧ (r i).from_ < 6 ∧ 0 ≤ (r i).to ∧ (r i).to < 6
  apart : ∀ i, i < k → sameB r i = false
  tells : ∀ i, i < k → Maps.has D (kw (r i).from_ (r i).to) = true ∧ ∀ z, D.atKey (kw (r i).from_ (r i).to) z = numQ i
  free : ∀ a b, (Lit.int .i64 a).wf = true → (Lit.int .i64 b).wf = true → (∀ i, i < k → ¬ ((r i).from_ = a ∧ (r i).to = b)) → Maps.has D (kw a b) = false
theorem wf_small {a : Int} (h0 : 0 ≤ a) (h6 : a < 6) : (Lit.int .i64 a).wf = true := WalkArith.wf_i64 (by omega)
theorem wtold_nil (r : Nat → Rule1) : WTold r 0 (.map []) := ⟨Maps.tidy_empty, fun _ h => absurd h (Nat.not_lt_zero _), fun _ h => absurd h (Nat.not_lt_zero _), fun _ h => absurd h (Nat.not_lt_zero _), fun _ _ _ _ _ => rfl⟩
theorem wtold_has {r : Nat → Rule1} {k : Nat} {D : DataW Unit} (h : WTold r k D) (hl : 0 ≤ (r k).from_ ∧ (r k).from_ < 6 ∧ 0 ≤ (r k).to ∧ (r k).to < 6) : Maps.has D (kw (r k).from_ (r k).to) = sameB r k := by
  cases hs : sameB r k
  · exact h.free _ _ (wf_small hl.1 hl.2.1) (wf_small hl.2.2.1 hl.2.2.2) (sameB_false.1 hs)
  · obtain ⟨j, hj, e1, e2⟩ := sameB_true.1 hs
    rw [← e1, ← e2]; exact (h.tells j hj).1
theorem wtold_put {r : Nat → Rule1} {k : Nat} {D : DataW Unit} (h : WTold r k D) (hl : 0 ≤ (r k).from_ ∧ (r k).from_ < 6 ∧ 0 ≤ (r k).to ∧ (r k).to < 6) (hs : sameB r k = false) : WTold r (k + 1) (D.put (kw (r k).from_ (r k).to) (numQ k)) := by
  have hk := kw_key (r k).from_ (r k).to
  have w1 := wf_small hl.1 hl.2.1
  have w2 := wf_small hl.2.2.1 hl.2.2.2
  refine ⟨h.tidy.put hk _, fun i hi => ?_, fun i hi => ?_, fun i hi => ?_, fun a b ha hb hno => ?_⟩
  · rcases Nat.lt_or_ge i k with h1 | h1
    · exact h.labs i h1
    · obtain rfl : i = k := by omega
      exact hl
  · rcases Nat.lt_or_ge i k with h1 | h1
    · exact h.apart i h1
    · obtain rfl : i = k := by omega
      exact hs
  · rcases Nat.lt_or_ge i k with h1 | h1
    · have hi' := h.labs i h1
      have hne : kw (r i).from_ (r i).to ≠ kw (r k).from_ (r k).to := fun e => sameB_false.1 hs i h1 (kw_inj (wf_small hi'.1 hi'.2.1) (wf_small hi'.2.2.1 hi'.2.2.2) w1 w2 e)
      refine ⟨?_, fun z => ?_⟩
      · rw [Maps.has_put_other hne]; exact (h.tells i h1).1
      · rw [Maps.atKey_put_other hne]; exact (h.tells i h1).2 z
    · obtain rfl : i = k := by omega
      exact ⟨Maps.has_put_same h.tidy.isMap hk _, fun z => Maps.atKey_put_same h.tidy.isMap hk _ _⟩
  · rw [Maps.has_put_other (fun e => hno k (Nat.lt_succ_self k) (by have := kw_inj ha hb w1 w2 e; exact ⟨this.1.symm, this.2.symm⟩))]
    exact h.free a b ha hb fun i hi => hno i (by omega)

theorem zeroIntQ (w : World) : (zeroValue 3).run Try.prog w = .ok (.int .i64 0) w := by kernel_rfl
/-- The policy at block p, with the map of its rules. -/
structure PolM (w : World) (B p n : Nat) (r : Nat → Rule1) : Prop where
  pol : Pol w B p n r
  map : ∃ q D, q < B ∧ w.cell? ⟨p, 1, none⟩ = some (.map (some q)) ∧ w.ownsMap Try.prog 139 (plainElem Try.prog 3) q n D ∧ WTold r n D
theorem grownB {a w : World} (h : Below a.heap.size a w) (row : Option Nat) : a.grownBy w row := ⟨h.os, h.tape, h.output, h.size, fun i hi _ => h.block i hi⟩
theorem _root_.Go.Proofs.Ytdagbepjhbmlfaa.D.Kept.cell' {own : Nat → Prop} {w w' : World} (h : Kept own w w') {b : Nat} (hb : b < w.heap.size) (ho : ¬ own b) (i : Nat) : w'.cell? ⟨b, i, none⟩ = w.cell? ⟨b, i, none⟩ := by
  have e := h.block b hb ho
  unfold World.cell?
  simp only
  rw [e]
/-- What the map tells of a key, however often was drawn. -/
theorem look_all (w : World) (key : Value) (kl : Lit) (q n : Nat) (D : DataW Unit) (h : w.ownsMap Try.prog 139 (plainElem Try.prog 3) q n D) (hkey : keyOf Try.prog 139 key = some kl) :
    ∃ c : Int, ∀ j, (Instr.lookup 134 (.map (some q)) key true).run Try.prog (w.drewN j) = .ok (.tuple #[.int .i64 c, .bool (Maps.has D kl)]) (w.drewN j) := by
  have hall : ∀ j, ∃ c : Int, (Instr.lookup 134 (.map (some q)) key true).run Try.prog (w.drewN j) = .ok (.tuple #[.int .i64 c, .bool (Maps.has D kl)]) (w.drewN j) ∧ D.atKey kl (numQ 0) = .lit (.int .i64 c) := fun j => by
    obtain ⟨v, ps, hrun, hv⟩ := World.ownsMap.look_ok (w := w.drewN j) h wayLaw Try.underlying134 (zeroIntQ _) (plainElem_int Try.underlying3 (by decide)) hkey
    obtain ⟨c, rfl, hc, _⟩ := plainElem_int_inv Try.underlying3 hv
    exact ⟨c, hrun, congrArg Prod.fst hc⟩
  obtain ⟨c, _, hc⟩ := hall 0
  refine ⟨c, fun j => ?_⟩
  obtain ⟨d, hd, he⟩ := hall j
  rw [hc] at he
  cases he
  exact hd
/-- What New answers. -/
def NewPol (w : World) (m : Nat) (F : Nat → Nat → Bool) (n : Nat) (r : Nat → Rule1) (e : Ending) (w' : World) : Prop :=
  (polWrong m F r n ≠ 0 ∧ e = .returned (.tuple #[.pointer none, .int .i64 (polWrong m F r n)]) ∧ Below w.heap.size w w') ∨
  (polWrong m F r n = 0 ∧ ∃ p, e = .returned (.tuple #[.pointer (some ⟨p, 0, none⟩), .int .i64 0]) ∧ PolM w' w'.heap.size p n r ∧ Below w.heap.size w w')
theorem polnew_nil (a : Option Addr) (n cap : Nat) (w : World) : Calls Try.prog 32 #[.pointer none, .slice a n cap] w fun e w' => e = .returned (.tuple #[.pointer none, .int .i64 7]) ∧ w = w' := by
  go_enter Try.func32, Try.ntmps32
  go_wp2_with fail
  go_ret2
  exact ⟨rfl, rfl⟩
set_option maxHeartbeats 2000000 in
set_option maxRecDepth 100000 in
theorem polnew_any (lp m : Nat) (F : Nat → Nat → Bool) (a : Option Addr) (n cap : Nat) (r : Nat → Rule1) (w : World) (hL : Lat w lp m F) (hR : Rls w a n cap r) :
    Calls Try.prog 32 #[.pointer (some ⟨lp, 0, none⟩), .slice a n cap] w (NewPol w m F n r) := by
  have hl := hR.le
  have hm := hR.max
  have hm6 := hL.small
  unfold maxLen at hm
  by_cases h16 : 16 < n
  · have hp : polWrong m F r n = 2 := by simp [polWrong, h16]
    have hfin : Hid (NewPol w m F n r (.returned (.tuple #[.pointer none, .int .i64 2])) w) := Lib.hid (.inl ⟨by rw [hp]; decide, by rw [hp], Below.refl _ _⟩)
    clear hL hR hp
    go_enter Try.func32, Try.ntmps32
    go_wp2_with fail
    go_ret2
    exact hfin.out
  have h16' : n ≤ 16 := by omega
  have hp : polWrong m F r n = firstBad (ruleF m F r) n := by simp [polWrong, h16]
  have hbad : Hid (∀ k w', k < n → (∀ j, j < k → ruleF m F r j = 0) → ruleF m F r k ≠ 0 → Below w.heap.size w w' → NewPol w m F n r (.returned (.tuple #[.pointer none, .int .i64 (ruleF m F r k)])) w') := Lib.hid (fun k w' hk hj he hb => by
    have e := firstBad_at hj hk he
    exact .inl ⟨by rw [hp, e]; exact he, by rw [hp, e], hb⟩)
  have hgood : Hid (∀ p w', (∀ j, j < n → ruleF m F r j = 0) → PolM w' w'.heap.size p n r → Below w.heap.size w w' → NewPol w m F n r (.returned (.tuple #[.pointer (some ⟨p, 0, none⟩), .int .i64 0])) w') := Lib.hid (fun p w' hj hP hb => .inr ⟨by rw [hp]; exact firstBad_zero.2 hj, p, rfl, hP, hb⟩)
  have hcl := Lib.hid (clone_any a n cap r w hR h16')
  replace hR := Lib.hid hR
  replace hL := Lib.hid hL
  have hmm := @run_makeMap Try.prog
  clear hp h16
  go_enter Try.func32, Try.ntmps32
  go_wp2_with fail
  refine hcl.out.mono ?_
  rintro e w1 ⟨va, c1, rfl, hb1, hc1, hc2, hcells⟩
  replace hcells := Lib.hid hcells
  unfold maxLen at hc2
  clear hcl
  go_wp2_with fail
  clear hmm
  obtain ⟨q, hq⟩ : ∃ q, Hid (w1.heap.size = q) := ⟨_, Lib.hid rfl⟩
  rw [hq.out] at hcells ⊢
  obtain ⟨W0, hW0⟩ : ∃ W, Hid (W = (w1.alloc (.map #[] 0)).alloc (.cells #[.slice va n c1, .map (some q)] 136)) := ⟨_, Lib.hid rfl⟩
  rw [← hW0.out]
  have hwq : w.heap.size ≤ q := by rw [← hq.out]; exact hb1.size
  have hs0 : W0.heap.size = q + 2 := by rw [hW0.out]; simp [hq.out]
  have hb10 : Below q w1 W0 := by rw [hW0.out, ← hq.out]; exact ((allocB w1 _).alloc (by simp) _)
  have hown0 : Hid (W0.ownsMap Try.prog 139 (plainElem Try.prog 3) q 0 (.map [] : DataW Unit)) := by
    rw [hW0.out, ← hq.out]; exact Lib.hid ((World.ownsMap_made w1 _ _ _).alloc _)
  have hp0 : W0.cell? ⟨q + 1, 0, none⟩ = some (.slice va n c1) := by
    rw [hW0.out]
    have h := (Whole.new (w1.alloc (.map #[] 0)) 136 [.slice va n c1, .map (some q)]).cell 0
    rw [show (w1.alloc (.map #[] 0)).heap.size = q + 1 by simp [hq.out]] at h
    exact h
  have hp1 : W0.cell? ⟨q + 1, 1, none⟩ = some (.map (some q)) := by
    rw [hW0.out]
    have h := (Whole.new (w1.alloc (.map #[] 0)) 136 [.slice va n c1, .map (some q)]).cell 1
    rw [show (w1.alloc (.map #[] 0)).heap.size = q + 1 by simp [hq.out]] at h
    exact h
  have hcells0 : Hid (∀ k, k < n → ∃ b, va = some ⟨b, 0, none⟩ ∧ b < q ∧ W0.cell? ⟨b, k * 3, none⟩ = some (.int .i64 (r k).from_) ∧ W0.cell? ⟨b, k * 3 + 1, none⟩ = some (.int .i64 (r k).to) ∧ W0.cell? ⟨b, k * 3 + 2, none⟩ = some (.int .i64 (r k).bud)) := Lib.hid (fun k hk => by
    obtain ⟨b, e1, _, e3, e4, e5, e6⟩ := hcells.out k hk
    exact ⟨b, e1, e3, (hb10.cell e3).trans e4, (hb10.cell e3).trans e5, (hb10.cell e3).trans e6⟩)
  have hbw0 : Hid (Below w.heap.size w W0) := Lib.hid (hb1.trans (hb10.mono hwq))
  clear hcells hb10 hb1 hW0 hq
  go_loopg [25] n (fun ga i wr => ∃ k : Nat, ∃ D : DataW Unit, k ≤ n ∧ n ≤ k + ga ∧ i = .int .i64 k ∧ Hid (Kept (fun b => b = q) W0 wr) ∧ Hid (wr.ownsMap Try.prog 139 (plainElem Try.prog 3) q k D) ∧ Hid (WTold r k D) ∧ Hid (∀ j, j < k → ruleF m F r j = 0))
  case atStart => exact ⟨0, .map [], by omega, by omega, rfl, Lib.hid (Kept.refl _ _), hown0, Lib.hid (wtold_nil r), Lib.hid (fun j hj => absurd hj (Nat.not_lt_zero j))⟩
  case round =>
    clear hown0
    obtain ⟨k, D, hk, hg, rfl, hK, hown, htold, hok⟩ := hrel
    have hbw : Below w.heap.size w wr := hbw0.out.trans (hK.out.below (by omega) (fun b hb => by omega))
    by_cases hlt : k < n
    · obtain ⟨b, o, rfl, c0, c1', c2⟩ := (hR.out.below hbw).cell k hlt
      obtain ⟨W2, hW2⟩ : ∃ W, Hid (W = wr.alloc (.cells #[.int .i64 (r k).from_, .int .i64 (r k).to, .int .i64 (r k).bud] 69)) := ⟨_, Lib.hid rfl⟩
      have hb2 : Below wr.heap.size wr W2 := by rw [hW2.out]; exact allocB wr _
      have hall := fun i => (Whole.new wr 69 [.int .i64 (r k).from_, .int .i64 (r k).to, .int .i64 (r k).bud]).cell i
      have v0 : W2.cell? ⟨wr.heap.size, 0, none⟩ = some (.int .i64 (r k).from_) := by rw [hW2.out]; exact hall 0
      have v1 : W2.cell? ⟨wr.heap.size, 1, none⟩ = some (.int .i64 (r k).to) := by rw [hW2.out]; exact hall 1
      have v2 : W2.cell? ⟨wr.heap.size, 2, none⟩ = some (.int .i64 (r k).bud) := by rw [hW2.out]; exact hall 2
      clear hall
      have hbw2 := hbw.trans (hb2.mono hbw.size)
      have hck := Lib.hid (check_any lp m F (r k) W2 (latB hL.out hbw2))
      have hF1 : Hid (ruleE m F (r k) ≠ 0 → ruleF m F r k = ruleE m F (r k)) := Lib.hid (fun h => by simp [ruleF, h])
      have hF2 : Hid (ruleE m F (r k) = 0 → ruleF m F r k = if sameB r k then 8 else 0) := Lib.hid (fun h => by simp [ruleF, h])
      have hlab : Hid (ruleE m F (r k) = 0 → 0 ≤ (r k).from_ ∧ (r k).from_ < 6 ∧ 0 ≤ (r k).to ∧ (r k).to < 6) := Lib.hid (fun h => by have := ruleE_ok h; omega)
      obtain ⟨E, hE⟩ : ∃ E, Hid (ruleE m F (r k) = E) := ⟨_, Lib.hid rfl⟩
      rw [hE.out] at hF1 hF2 hlab hck
      have hput : Hid (ruleE m F (r k) = 0 → sameB r k = false → WTold r (k + 1) (D.put (kw (r k).from_ (r k).to) (numQ k))) := Lib.hid (fun h1 h2 => wtold_put htold.out (hlab.out (hE.out.symm.trans h1)) h2)
      have hhas : Hid (E = 0 → Maps.has D (kw (r k).from_ (r k).to) = sameB r k) := Lib.hid (fun h1 => wtold_has htold.out (hlab.out h1))
      obtain ⟨f, hf⟩ : ∃ f, Hid ((r k).from_ = f) := ⟨_, Lib.hid rfl⟩
      obtain ⟨t, ht⟩ : ∃ t, Hid ((r k).to = t) := ⟨_, Lib.hid rfl⟩
      obtain ⟨bd, hbd⟩ : ∃ bd, Hid ((r k).bud = bd) := ⟨_, Lib.hid rfl⟩
      rw [hf.out, ht.out, hbd.out] at hck hW2
      rw [hf.out] at c0 v0
      rw [ht.out] at c1' v1
      rw [hbd.out] at c2 v2
      rw [hf.out, ht.out] at hlab hput hhas
      go_wp2_with fail
      rw [← hW2.out]
      refine hck.out.mono ?_
      rintro e w3 ⟨rfl, hb3⟩
      clear hck hW2 c0 c1' c2
      have hbw3 : Below w.heap.size w w3 := hbw2.trans (hb3.mono hbw2.size)
      have hk3 : Hid (Kept (fun b => b = q) W0 w3) := Lib.hid (hK.out.trans ((Kept.of_below hb2).trans (Kept.of_below hb3)))
      have hown3 : Hid (w3.ownsMap Try.prog 139 (plainElem Try.prog 3) q k D) := Lib.hid ((hown.out.kept (grownB hb2 none) (by simp)).kept (grownB hb3 none) (by simp))
      replace v0 := keepC hb3 v0
      replace v1 := keepC hb3 v1
      replace v2 := keepC hb3 v2
      obtain ⟨vb, hvb⟩ : ∃ vb, Hid (wr.heap.size = vb) := ⟨_, Lib.hid rfl⟩
      rw [hvb.out] at v0 v1 v2 ⊢
      clear hvb hb3 hb2 hown hK hbw2 hbw
      by_cases hE0 : E = 0
      · subst hE0
        obtain ⟨W4, hW4⟩ : ∃ W, Hid (W = w3.alloc (.cells #[.int .i64 f, .int .i64 t] 139)) := ⟨_, Lib.hid rfl⟩
        have hb4 : Below w3.heap.size w3 W4 := by rw [hW4.out]; exact allocB w3 _
        have y0 : W4.cell? ⟨w3.heap.size, 0, none⟩ = some (.int .i64 f) := by rw [hW4.out]; exact (Whole.new w3 139 [.int .i64 f, .int .i64 t]).cell 0
        have y1 : W4.cell? ⟨w3.heap.size, 1, none⟩ = some (.int .i64 t) := by rw [hW4.out]; exact (Whole.new w3 139 [.int .i64 f, .int .i64 t]).cell 1
        have hk4 : Kept (fun b => b = q) W0 W4 := hk3.out.trans (Kept.of_below hb4)
        have y2 : W4.cell? ⟨q + 1, 1, none⟩ = some (.map (some q)) := (hk4.cell' (by omega) (by omega) 1).trans hp1
        have hown4 := hown3.out.kept (grownB hb4 none) (by simp)
        have hbw4 := hbw3.trans (hb4.mono hbw3.size)
        have hl6 := hlab.out rfl
        have w1f : (Lit.int .i64 f).wf = true := wf_small hl6.1 hl6.2.1
        have w2f : (Lit.int .i64 t).wf = true := wf_small hl6.2.2.1 hl6.2.2.2
        have hkey : Hid (keyOf Try.prog 139 (.agg #[.int .i64 f, .int .i64 t]) = some (kw f t)) := Lib.hid (kw_of w1f w2f)
        obtain ⟨c, hlk⟩ := look_all W4 (.agg #[.int .i64 f, .int .i64 t]) (kw f t) q k D hown4 hkey.out
        rw [hhas.out rfl] at hlk
        cases hs : sameB r k <;> rw [hs] at hlk <;> replace hs := Lib.hid hs
        · have htold2 := Lib.hid (hput.out hE.out hs.out)
          have hF0 : ruleF m F r k = 0 := by rw [hF2.out rfl, hs.out]; rfl
          have hok2 : Hid (∀ j, j < k + 1 → ruleF m F r j = 0) := Lib.hid (fun j hj => by
            rcases Nat.lt_or_ge j k with h | h
            · exact hok.out j h
            · obtain rfl : j = k := by omega
              exact hF0)
          have hwk : (Lit.int .i64 (k : Int)).wf = true := WalkArith.wf_i64 (by omega)
          replace hwk := Lib.hid hwk
          have hlen : Hid (k < maxLen) := Lib.hid (by unfold maxLen; omega)
          replace hown4 := Lib.hid hown4
          replace hk4 := Lib.hid hk4
          clear hF1 hF2 hlab hput hhas hE hl6 w1f w2f hown3 hk3 hF0 hok htold hbw3
          go_wp2_with fail
          rw [← hW4.out]
          clear hW4
          go_quiet (fail)
          clear hlk
          go_wp2_with fail
          obtain ⟨V, hV⟩ : ∃ V, Hid (V = (W4.drewN nq).drew) := ⟨_, Lib.hid rfl⟩
          have z0 : V.cell? ⟨w3.heap.size, 0, none⟩ = some (.int .i64 f) := by rw [hV.out]; exact y0
          have z1 : V.cell? ⟨w3.heap.size, 1, none⟩ = some (.int .i64 t) := by rw [hV.out]; exact y1
          have z2 : V.cell? ⟨q + 1, 1, none⟩ = some (.map (some q)) := by rw [hV.out]; exact y2
          have hownV : Hid (V.ownsMap Try.prog 139 (plainElem Try.prog 3) q k D) := by rw [hV.out]; exact hown4
          have hkV : Hid (Kept (fun b => b = q) W0 V) := by rw [hV.out]; exact Lib.hid (hk4.out.drewN (nq + 1))
          refine quiet_tail 6 V (by kernel_rfl) (by kernel_rfl) hV.out ?_
          simp only [List.take_succ_cons, List.take_zero, List.drop_succ_cons, List.drop_zero]
          repeat (go_big_quiet_step (fail))
          refine wpQuiet_nil ?_
          refine wpList_mapUpdate_own _ rfl _ _ _ 134 rfl 139 3 wayLaw Try.underlying134 (plainElem Try.prog 3) q k D rfl hownV.out hlen.out _ _ _ rfl rfl hkey.out (numQ k) [] (plainElem_int Try.underlying3 hwk.out) ?_
          intro w5 hown5 hgrow5
          have hk5 : Hid (Kept (fun b => b = q) W0 w5) := Lib.hid (hkV.out.grown hgrow5 (fun i hi => .inl (by injection hi with hi; exact hi.symm)))
          replace hown5 := Lib.hid hown5
          clear hgrow5 hownV hkV z0 z1 z2 y0 y1 y2 hV
          go_wp2_with fail
          go_roundg (gk - 1)
          case measure => omega
          case rel => exact ⟨k + 1, _, by omega, by omega, by go_num, hk5, hown5, htold2, hok2⟩
        · have hF8 : ruleF m F r k = 8 := by rw [hF2.out rfl, hs.out]; rfl
          have hfin : Hid (∀ j, NewPol w m F n r (.returned (.tuple #[.pointer none, .int .i64 8])) (W4.drewN j)) := Lib.hid (fun j => by
            have h := hbad.out k (W4.drewN j) hlt hok.out (by rw [hF8]; decide) (drewB hbw4 j)
            rw [hF8] at h; exact h)
          clear hF1 hF2 hlab hput hhas hE hl6 w1f w2f hown3 hk3 hok htold hbw3 hF8 hown4 hk4
          go_wp2_with fail
          rw [← hW4.out]
          clear hW4
          go_quiet (fail)
          clear hlk
          go_wp2_with fail
          go_ret2
          exact hfin.out nq
      · have hne : (E != 0) = true := by simpa using hE0
        have hFE := hF1.out hE0
        have hfin := hbad.out k w3 hlt hok.out (by rw [hFE]; exact hE0) hbw3
        rw [hFE] at hfin
        replace hfin := Lib.hid hfin
        clear hF1 hF2 hlab hput hhas hE hFE
        go_wp2_with fail
        go_ret2
        exact hfin.out
    · obtain rfl : k = n := by omega
      have hP : PolM wr wr.heap.size (q + 1) k r := by
        have hsz := hK.out.size
        refine ⟨⟨h16', Nat.le_refl _, by omega, ⟨va, c1, (hK.out.cell' (by omega) (by omega) 0).trans hp0, hc1, by unfold maxLen; exact hc2, fun i hi => ?_⟩, fun i hi => ?_⟩, ⟨q, D, by omega, (hK.out.cell' (by omega) (by omega) 1).trans hp1, hown.out, htold.out⟩⟩
        · obtain ⟨b, e1, e2, e3, e4, e5⟩ := hcells0.out i hi
          exact ⟨b, e1, by omega, (hK.out.cell' (by omega) (by omega) _).trans e3, (hK.out.cell' (by omega) (by omega) _).trans e4, (hK.out.cell' (by omega) (by omega) _).trans e5⟩
        · have := ruleE_ok (ruleF_ok (hok.out i hi)).1
          omega
      have hfin := Lib.hid (hgood.out (q + 1) wr hok.out hP hbw)
      clear hP hown htold hK
      go_wp2_with fail
      go_ret2
      exact hfin.out
end Go.Proofs.Ytdagbepjhbmlfaa.Q
