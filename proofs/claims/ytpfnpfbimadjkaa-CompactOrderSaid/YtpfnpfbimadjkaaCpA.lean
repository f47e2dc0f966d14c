/- Package compact: lasts, isDead. -/
import Derived.Test.YtpfnpfbimadjkaaCpM
import Derived.Test.YtpfnpfbimadjkaaStops
import Derived.Test.YtpfnpfbimadjkaaQuietB
import Derived.Maps.OwnSet
import Derived.Maps.RangeWalk
import Derived.Deep.AppendLies
import Derived.Deep.LoopGhost
import Derived.Deep.Cut
import Derived.StringKeys
namespace Go.Proofs.Ytpfnpfbimadjkaa.W
open Go.RowKit Go.Sort
open Go.Proofs.Ytpfnpfbimadjkaa.M Go.Proofs.Ytpfnpfbimadjkaa.D Go.Proofs.Ytpfnpfbimadjkaa.Z
open Go.Maps (Keyed)
set_option linter.unusedVariables false
set_option linter.unusedSimpArgs false

/-- What a map of last places tells of records. -/
structure LastOf (l : List Rc) (D : DataW Unit) : Prop where
  tidy : Maps.Tidy D
  size : Maps.size D ≤ l.length
  has : ∀ k : List UInt8, Maps.has D (.string k) = (!decide (k = []) && laterL k l)
  at_ : ∀ (i : Nat) (r : Rc), l[i]? = some r → kb r ≠ [] → laterL (kb r) (l.drop (i + 1)) = false → ∀ z, D.atKey (.string (kb r)) z = .lit (.int .i64 (i : Int))
theorem LastOf.nil : LastOf [] (.map []) := ⟨Maps.tidy_empty, by simp [Maps.size], fun k => by simp [laterL, Maps.has_eq], fun i r h => by simp at h⟩
theorem laterL_one (k : List UInt8) (r : Rc) : laterL k [r] = decide (kb r = k) := by simp [laterL]
theorem LastOf.skip {p : List Rc} {D : DataW Unit} {r : Rc} (h : LastOf p D) (hr : kb r = []) : LastOf (p ++ [r]) D := by
  refine ⟨h.tidy, by rw [List.length_append]; have := h.size; omega, fun k => ?_, fun i x hi hk hl z => ?_⟩
  · rw [h.has, laterL_append, laterL_one, hr]
    by_cases hk : k = []
    · simp [hk]
    · simp [hk, Ne.symm hk]
  · by_cases hlt : i < p.length
    · rw [List.getElem?_append_left hlt] at hi
      rw [List.drop_append_of_le_length (by omega), laterL_append, Bool.or_eq_false_iff] at hl
      exact h.at_ i x hi hk hl.1 z
    · have hil := (List.getElem?_eq_some_iff.1 hi).1
      rw [List.length_append, List.length_singleton] at hil
      obtain rfl : i = p.length := by omega
      rw [List.getElem?_concat_length] at hi
      cases hi
      exact absurd hr hk
theorem LastOf.put {p : List Rc} {D : DataW Unit} {r : Rc} (h : LastOf p D) (hr : kb r ≠ []) : LastOf (p ++ [r]) (D.put (.string (kb r)) (.lit (.int .i64 (p.length : Int)))) := by
  refine ⟨h.tidy.put (k := .string (kb r)) trivial _, ?_, fun k => ?_, fun i x hi hk hl z => ?_⟩
  · rw [Maps.size_put h.tidy, List.length_append, List.length_singleton]
    have := h.size
    split <;> omega
  · rw [laterL_append, laterL_one]
    by_cases e : k = kb r
    · subst e
      rw [Maps.has_put_same (k := .string (kb r)) h.tidy.isMap trivial]
      simp [hr]
    · rw [Maps.has_put_other (fun e2 => e (by injection e2)), h.has]
      simp [Ne.symm e]
  · by_cases hlt : i < p.length
    · rw [List.getElem?_append_left hlt] at hi
      rw [List.drop_append_of_le_length (by omega), laterL_append, laterL_one, Bool.or_eq_false_iff] at hl
      have hne : kb x ≠ kb r := fun e => by simp [e] at hl
      rw [Maps.atKey_put_other (fun e2 => hne (by injection e2))]
      exact h.at_ i x hi hk hl.1 z
    · have hil := (List.getElem?_eq_some_iff.1 hi).1
      rw [List.length_append, List.length_singleton] at hil
      obtain rfl : i = p.length := by omega
      rw [List.getElem?_concat_length] at hi
      cases hi
      rw [Maps.atKey_put_same (k := .string (kb r)) h.tidy.isMap trivial]
/-- Where the last one of a key stands. -/
theorem last_of {l : List Rc} {k : List UInt8} (h : laterL k l = true) : ∃ (j : Nat) (x : Rc), l[j]? = some x ∧ kb x = k ∧ laterL k (l.drop (j + 1)) = false := by
  induction l with
  | nil => simp [laterL] at h
  | cons r t ih =>
    cases ht : laterL k t with
    | true =>
      obtain ⟨j, x, h1, h2, h3⟩ := ih ht
      exact ⟨j + 1, x, by simpa using h1, h2, by simpa using h3⟩
    | false =>
      refine ⟨0, r, rfl, ?_, by simpa using ht⟩
      obtain ⟨y, hy, e⟩ := laterL_mem.1 h
      rcases List.mem_cons.1 hy with rfl | hy
      · exact e
      · rw [laterL_mem.2 ⟨y, hy, e⟩] at ht; cases ht
theorem last_one {l : List Rc} {k : List UInt8} {i j : Nat} {x y : Rc} (hi : l[i]? = some x) (hx : kb x = k) (hil : laterL k (l.drop (i + 1)) = false) (hj : l[j]? = some y) (hy : kb y = k) (hjl : laterL k (l.drop (j + 1)) = false) : i = j := by
  have key : ∀ {a b : Nat} {u : Rc}, a < b → l[b]? = some u → kb u = k → laterL k (l.drop (a + 1)) = true := fun {a b u} hab hb hu =>
    laterL_mem.2 ⟨u, List.mem_of_getElem? (i := b - (a + 1)) (by rw [List.getElem?_drop, show a + 1 + (b - (a + 1)) = b from by omega]; exact hb), hu⟩
  rcases Nat.lt_trichotomy i j with h | h | h
  · rw [key h hj hy] at hil; cases hil
  · exact h
  · rw [key h hi hx] at hjl; cases hjl
/-- What the map tells of a record that stands there. -/
theorem LastOf.tell {l : List Rc} {D : DataW Unit} (h : LastOf l D) {a : Nat} {r : Rc} (hr : l[a]? = some r) (hk : kb r ≠ []) : ∃ j : Nat, j < l.length ∧ (∀ z, D.atKey (.string (kb r)) z = .lit (.int .i64 (j : Int))) ∧ (j = a ↔ laterL (kb r) (l.drop (a + 1)) = false) := by
  obtain ⟨j, x, h1, h2, h3⟩ := last_of (laterL_mem.2 ⟨r, List.mem_of_getElem? hr, rfl⟩ : laterL (kb r) l = true)
  refine ⟨j, (List.getElem?_eq_some_iff.1 h1).1, fun z => by rw [← h2]; exact h.at_ j x h1 (by rw [h2]; exact hk) (by rw [h2]; exact h3) z, fun e => by rw [← e]; exact h3, fun e => last_one h1 h2 h3 hr rfl e⟩

theorem keyedS : Keyed Try.prog 9 := Maps.string_keyed Try.underlying9
theorem zeroNum (w : World) : (zeroValue 3).run Try.prog w = .ok (.int .i64 0) w := by kernel_rfl
theorem kb_nil {r : Rc} : kb r = [] ↔ r.key.toList = [] := by unfold kb; rw [Lib.toList_data]
theorem numWf {i : Nat} (h : i ≤ 1000000) : (Lit.int .i64 (i : Int)).wf = true := by
  show decide _ = true
  simp only [IntKind.min, IntKind.max, IntKind.signed, IntKind.bits]
  simp
  omega
theorem tightN {P : Program} {k : TypeId} {R : Value → Option (DataW Unit × List MemPlace)} {b n : Nat} {D : DataW Unit} {w : World} (h : w.ownsMap P k R b n D) : w.ownsMap P k R b (Maps.size D) D := by
  obtain ⟨es, clock, hb, F, hs, rfl⟩ := h
  refine ⟨es, clock, hb, F, ?_, rfl⟩
  simp [Maps.size, length_sorted]
theorem below_grow {B : Nat} {a w w' : World} {row : Option Nat} (h : Below B a w) (hg : w.grownBy w' row) (hs : B ≤ w.heap.size) (hr : ∀ k, row = some k → B ≤ k) : Below B a w' := h.grown hg hs hr
/-- The map of last places, of one's own. -/
abbrev lastMap (W : World) (mb : Nat) (D : DataW Unit) : Prop := W.ownsMap Try.prog 9 (Go.plainElem Try.prog 3) mb (Maps.size D) D
theorem lastMap_below {W W' : World} {mb : Nat} {D : DataW Unit} (h : lastMap W mb D) (hb : Below W.heap.size W W') : lastMap W' mb D :=
  h.kept (row := none) ⟨hb.os, hb.tape, hb.output, hb.size, fun i hi _ => hb.block i hi⟩ (by simp)

set_option maxRecDepth 100000 in
set_option maxHeartbeats 4000000 in
theorem lasts_any (va : Option Addr) (c : Nat) (rs : List Rc) (w : World) (h : RcAt w va rs) (hn : rs.length ≤ 1000) (hsz : ∀ r ∈ rs, r.key.size ≤ 100000) :
    Calls Try.prog 28 #[.slice va rs.length c] w fun e w' => ∃ mb D, e = .returned (.map (some mb)) ∧ lastMap w' mb D ∧ LastOf rs D ∧ w.heap.size ≤ mb ∧ Below w.heap.size w w' := by
  obtain ⟨N, hN⟩ : ∃ N, Hid (rs.length = N) := ⟨_, Lib.hid rfl⟩
  have hall : rs.take N = rs := by rw [← hN.out, List.take_length]
  rw [hN.out] at hn ⊢
  have hmm := @run_makeMap Try.prog
  obtain ⟨V, hV⟩ : ∃ V, Hid (V = w.alloc (.map #[] 0)) := ⟨_, Lib.hid rfl⟩
  obtain ⟨mb, hmb⟩ : ∃ mb, Hid (w.heap.size = mb) := ⟨_, Lib.hid rfl⟩
  have hst : Hid (lastMap V mb (.map []) ∧ Below w.heap.size w V) := Lib.hid ⟨by
    rw [hV.out, ← hmb.out]; exact tightN (World.ownsMap_made w Try.prog 9 (Go.plainElem Try.prog 3)), by rw [hV.out]; exact grewAlloc (Below.refl _ _) _⟩
  replace h := Lib.hid h
  replace hall := Lib.hid hall
  replace hsz := Lib.hid hsz
  go_enter Try.func28, Try.ntmps28
  go_upto_region 2 with fail
  rw [← show V = _ from hV.out, hmb.out]
  clear hV hmm
  go_wp2_with fail
  go_loopg [9] N (fun ga i wr => ∃ a : Nat, a ≤ N ∧ N ≤ a + ga ∧ i = .int .i64 (a : Int) ∧ Hid (∃ D, lastMap wr mb D ∧ LastOf (rs.take a) D ∧ Below w.heap.size w wr))
  case atStart => exact ⟨0, by omega, by omega, rfl, Lib.hid ⟨_, hst.out.1, by rw [List.take_zero]; exact LastOf.nil, hst.out.2⟩⟩
  case round =>
    clear hst
    obtain ⟨a, ha, hg, rfl, hrel⟩ := hrel
    generalize wr = wo at *
    obtain ⟨D, h1, h2, h3⟩ := hrel.out
    clear hrel
    by_cases hlt : a < N
    · obtain ⟨r, hr⟩ : ∃ r, rs[a]? = some r := ⟨_, List.getElem?_eq_getElem (by have := hN.out; omega)⟩
      obtain ⟨b, o, rfl, c0, c1, c2, c3, c4, c5, c6, c7⟩ := (h.out.below h3).get hr
      have hsr := hsz.out r (List.mem_of_getElem? hr)
      obtain ⟨W1, hW1⟩ : ∃ W1, Hid (W1 = wo.alloc (.cells #[.int .i64 r.off, .int .i64 r.tick, .string r.key, .string r.val, .bool r.gone, .int .i64 r.prod, .int .i64 r.seq, .int .i64 r.frm] 32)) := ⟨_, Lib.hid rfl⟩
      have hb1 : Below wo.heap.size wo W1 := by rw [hW1.out]; exact grewAlloc (Below.refl _ _) _
      have hX1 : Whole W1 wo.heap.size 32 (rcL r) := by rw [hW1.out]; exact Whole.new wo _ _
      have hB1 := grew h3 hb1
      have hM1 := lastMap_below h1 hb1
      have hmb1 := hM1.lt
      have htk : rs.take (a + 1) = rs.take a ++ [r] := by rw [List.take_add_one, hr]; rfl
      have htl : (rs.take a).length = a := by rw [List.length_take]; have := hN.out; omega
      obtain ⟨xb, hxb⟩ : ∃ xb, Hid (wo.heap.size = xb) := ⟨_, Lib.hid rfl⟩
      rw [hxb.out] at hX1
      obtain ⟨x0, x1, x2, x3, x4, x5, x6, x7⟩ := recCells hX1
      have hki : (a : Int) < (N : Int) := by omega
      replace hr := Lib.hid hr
      clear h1 h3 hb1 hX1
      go_upto_region 5 with fail
      rw [← show W1 = _ from hW1.out, hxb.out]
      clear hW1 hxb c0 c1 c2 c3 c4 c5 c6 c7
      by_cases hk : kb r = []
      · have hk2 : r.key.toList.isEmpty = true := by rw [kb_nil.1 hk]; rfl
        have hfin : Hid (∃ D, lastMap W1 mb D ∧ LastOf (rs.take (a + 1)) D ∧ Below w.heap.size w W1) := Lib.hid ⟨D, hM1, by rw [htk]; exact h2.skip hk, hB1⟩
        clear hM1 hB1 h2 htk htl hk hmb1
        go_wp2_with fail
        go_roundg (gk - 1)
        case measure => omega
        case rel => exact ⟨a + 1, by omega, by omega, by go_num, hfin⟩
      · have hk2 : r.key.toList.isEmpty = false := by simpa using fun e => hk (kb_nil.2 e)
        have hsD := h2.size
        rw [htl] at hsD
        obtain ⟨w3, hrun, hown, hgrow⟩ := hM1.update (t := 52) (key := .string r.key) (val := .int .i64 (a : Int)) keyedS Try.underlying52 (by unfold maxLen; omega) (Go.WideMaps.keyOf_string_mk Try.underlying9 (by unfold maxLen; omega)) (Go.plainElem_int Try.underlying3 (numWf (by omega)))
        have hfin : Hid (∃ D, lastMap w3 mb D ∧ LastOf (rs.take (a + 1)) D ∧ Below w.heap.size w w3) := Lib.hid ⟨_, tightN hown, by
          have := h2.put hk
          rw [htl, ← htk] at this
          exact this, below_grow hB1 hgrow hB1.size (fun k e => by cases e; have := hmb.out; omega)⟩
        clear hM1 hB1 h2 htk htl hk hmb1 hown hgrow
        go_wp2_with fail
        go_roundg (gk - 1)
        case measure => omega
        case rel => exact ⟨a + 1, by omega, by omega, by go_num, hfin⟩
    · obtain rfl : a = N := by omega
      rw [hall.out] at h2
      have hfin : Hid (lastMap wo mb D ∧ LastOf rs D ∧ w.heap.size ≤ mb ∧ Below w.heap.size w wo) := Lib.hid ⟨h1, h2, by have := hmb.out; omega, h3⟩
      clear h1 h2 h3
      go_wp2_with fail
      go_ret
      exact ⟨mb, D, rfl, hfin.out⟩

theorem isDead_any (r : Rc) (dead : Int) (w : World) :
    Calls Try.prog 29 #[.agg #[.int .i64 r.off, .int .i64 r.tick, .string r.key, .string r.val, .bool r.gone, .int .i64 r.prod, .int .i64 r.seq, .int .i64 r.frm], .int .i64 dead] w fun e w' => e = .returned (.bool (deadR dead r)) ∧ Below w.heap.size w w' := by
  have hB0 := Lib.hid ((Below.refl w.heap.size w).alloc (Nat.le_refl _) (.cells #[.int .i64 r.off, .int .i64 r.tick, .string r.key, .string r.val, .bool r.gone, .int .i64 r.prod, .int .i64 r.seq, .int .i64 r.frm] 32))
  unfold deadR
  obtain ⟨g, hg⟩ : ∃ g, Hid (r.gone = g) := ⟨_, Lib.hid rfl⟩
  rw [hg.out] at hB0 ⊢
  by_cases ht : r.tick < dead
  · rw [decide_eq_true ht]
    cases g
    all_goals
      go_enter Try.func29, Try.ntmps29
      go_wp2_with fail
      go_ret
      exact ⟨rfl, hB0.out⟩
  · rw [decide_eq_false ht]
    have ht2 : dead ≤ r.tick := by omega
    cases g
    all_goals
      go_enter Try.func29, Try.ntmps29
      go_wp2_with fail
      go_ret
      exact ⟨rfl, hB0.out⟩
end Go.Proofs.Ytpfnpfbimadjkaa.W
