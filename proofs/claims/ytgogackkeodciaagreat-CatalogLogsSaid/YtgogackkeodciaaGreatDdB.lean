/- A table of last batches as a list; as a map. Package dedup's small calls: within, may, next, New, hasRoom, Check, Note, Next. Package dedup's Next, Note; the calls of nil. Package dedup's Producers. -/
import Derived.Test.YtgogackkeodciaaGreatProg
import Derived.Test.YtgogackkeodciaaGreatFlat
import Derived.Test.YtgogackkeodciaaGreatWorld
import Derived.Lib.Hide
import Derived.KernelRfl
import Derived.Maps.OwnSet
import Derived.Maps.RangeWalk
import Derived.ProofKit
import Derived.OpenShut
import Derived.Below
import Derived.Outline
import Derived.WalkSpells
import Derived.WalkLawsBesides
import Derived.Deep.Cut
import Derived.BigRegion
import Derived.OwnWalk
import Derived.Test.YtgogackkeodciaaGreatCells
import Derived.Test.YtgogackkeodciaaGreatShelf
import Derived.Test.YtgogackkeodciaaGreatStops
import Derived.Deep.AppendLies
import Derived.Deep.LoopGhost
import Derived.Sort.OwnSortedInts
import Derived.Sort.OwnSorted
import Derived.Laws.IdiomRangeMap
import Derived.LoopN
section
namespace Go.Proofs.YtgogackkeodciaaGreat.W
open Go.RowKit
open Go.Maps (Keyed)
open Go.Proofs.YtgogackkeodciaaGreat.D
set_option linter.unusedVariables false
set_option linter.unusedSimpArgs false

/-- A producer's last batch. -/
structure La where
  p : Int
  s : Int
  n : Int
  o : Int
def okB (p s n o : Int) : Prop := (1 ≤ p ∧ p ≤ 1099511627776) ∧ (0 ≤ s ∧ s ≤ 1099511627776) ∧ (1 ≤ n ∧ n ≤ 8) ∧ (0 ≤ o ∧ o ≤ 1048576)
instance (p s n o : Int) : Decidable (okB p s n o) := by unfold okB; infer_instance
def La.ok (x : La) : Prop := okB x.p x.s x.n x.o
instance instDecLaOk (x : La) : Decidable x.ok := by unfold La.ok; infer_instance
def getL (l : List La) (p : Int) : Option La := l.find? fun x => decide (x.p = p)
def hasL (l : List La) (p : Int) : Bool := (getL l p).isSome
def insL (x : La) : List La → List La
  | [] => [x]
  | y :: r => if x.p < y.p then x :: y :: r else y :: insL x r
/-- A batch is noted. -/
def noteL (l : List La) (x : La) : List La := insL x (l.filter fun y => !decide (y.p = x.p))
def riseL (l : List La) : Prop := l.Pairwise fun a b => a.p < b.p
structure TabOk (l : List La) : Prop where
  rise : riseL l
  ok : ∀ x ∈ l, x.ok
  few : l.length ≤ 16
theorem TabOk.nil : TabOk [] := ⟨List.Pairwise.nil, fun x hx => by simp at hx, by simp⟩
theorem getL_mem {l : List La} {p : Int} {x : La} (h : getL l p = some x) : x ∈ l ∧ x.p = p := by
  unfold getL at h
  exact ⟨List.mem_of_find?_eq_some h, by simpa using List.find?_some h⟩
theorem getL_none {l : List La} {p : Int} (h : getL l p = none) : ∀ x ∈ l, x.p ≠ p := fun x hx e => by
  unfold getL at h
  have := List.find?_eq_none.1 h x hx
  simp [e] at this
theorem insL_perm (x : La) : ∀ l, (insL x l).Perm (x :: l)
  | [] => List.Perm.refl _
  | y :: r => by
    unfold insL
    split
    · exact List.Perm.refl _
    · exact ((insL_perm x r).cons y).trans (List.Perm.swap x y r)
theorem insL_rise {x : La} : ∀ {l : List La}, riseL l → (∀ y ∈ l, y.p ≠ x.p) → riseL (insL x l)
  | [], _, _ => by unfold insL riseL; simp
  | y :: r, h, hne => by
    obtain ⟨h1, h2⟩ := List.pairwise_cons.1 h
    unfold insL
    split
    · rename_i hb
      exact List.pairwise_cons.2 ⟨fun q hq => by
        rcases List.mem_cons.1 hq with rfl | hq
        · exact hb
        · exact Int.lt_trans hb (h1 q hq), h⟩
    · rename_i hb
      refine List.pairwise_cons.2 ⟨fun q hq => ?_, insL_rise h2 (fun z hz => hne z (by simp [hz]))⟩
      rcases List.mem_cons.1 ((insL_perm x r).mem_iff.1 hq) with rfl | hq
      · have := hne y (by simp); omega
      · exact h1 q hq
theorem noteL_perm (l : List La) (x : La) : (noteL l x).Perm (x :: l.filter fun y => !decide (y.p = x.p)) := insL_perm _ _
theorem noteL_len (l : List La) (x : La) : (noteL l x).length ≤ l.length + 1 := by
  rw [(noteL_perm l x).length_eq, List.length_cons]
  have := List.length_filter_le (fun y => !decide (y.p = x.p)) l
  omega
theorem noteL_len_has {l : List La} {x y : La} (h : getL l x.p = some y) : (noteL l x).length ≤ l.length := by
  rw [(noteL_perm l x).length_eq, List.length_cons]
  obtain ⟨h1, h2⟩ := getL_mem h
  have : (l.filter fun y => !decide (y.p = x.p)).length < l.length := List.length_filter_lt_length_iff_exists.2 ⟨y, h1, by simp [h2]⟩
  omega
theorem TabOk.note {l : List La} {x : La} (h : TabOk l) (hx : x.ok) (hr : hasL l x.p = true ∨ l.length < 16) : TabOk (noteL l x) := by
  refine ⟨insL_rise (h.rise.filter _) (fun y hy => by have := (List.mem_filter.1 hy).2; simpa using this), fun y hy => ?_, ?_⟩
  · rcases List.mem_cons.1 ((noteL_perm l x).mem_iff.1 hy) with rfl | hy
    · exact hx
    · exact h.ok y (List.mem_filter.1 hy).1
  · rcases hr with hr | hr
    · unfold hasL at hr
      obtain ⟨y, hy⟩ := Option.isSome_iff_exists.1 hr
      exact Nat.le_trans (noteL_len_has hy) h.few
    · have := noteL_len l x; omega

/-! ### As a map -/
abbrev laV (s n o : Int) : Value := .agg #[.int .i64 s, .int .i64 n, .int .i64 o]
abbrev laD (s n o : Int) : DataW Unit := .agg [.lit (.int .i64 s), .lit (.int .i64 n), .lit (.int .i64 o)]
def laR : Value → Option (DataW Unit × List MemPlace)
  | .agg cs => match cs.toList with
    | [.int .i64 a, .int .i64 b, .int .i64 c] => some (laD a b c, [])
    | _ => none
  | _ => none
theorem laR_mk (a b c : Int) : laR (laV a b c) = some (laD a b c, []) := rfl
theorem laR_inv {v : Value} {z : DataW Unit × List MemPlace} (h : laR v = some z) : ∃ a b c, v = laV a b c ∧ z = (laD a b c, []) := by
  unfold laR at h
  split at h
  · rename_i cs
    split at h
    · rename_i a b c e
      obtain ⟨l⟩ := cs
      exact ⟨a, b, c, by rw [show l = _ from e], (Option.some.inj h).symm⟩
    · cases h
  · cases h
def entL (x : La) : Lit × DataW Unit := (.int .i64 x.p, laD x.s x.n x.o)
def tabD (l : List La) : DataW Unit := .map (l.map entL)
theorem sameKey_int (a b : Int) : (Lit.int .i64 a).sameKey (.int .i64 b) = decide (a = b) := by simp [Lit.sameKey]
theorem tabD_at (l : List La) (p : Int) (z : DataW Unit) : (tabD l).atKey (.int .i64 p) z = match getL l p with | some x => laD x.s x.n x.o | none => z := by
  unfold tabD getL DataW.atKey
  dsimp only
  rw [List.find?_map]
  have e : ((fun q : Lit × DataW Unit => q.1.sameKey (.int .i64 p)) ∘ entL) = fun x : La => decide (x.p = p) := by
    funext x
    exact sameKey_int x.p p
  rw [e]
  cases l.find? (fun x => decide (x.p = p)) <;> rfl
theorem tabD_has (l : List La) (p : Int) : Maps.has (tabD l) (.int .i64 p) = hasL l p := by
  unfold hasL getL tabD
  rw [Maps.has_eq, List.any_map, List.isSome_find?]
  congr 1
  funext x
  exact sameKey_int x.p p
theorem tabD_size (l : List La) : Maps.size (tabD l) = l.length := by unfold tabD; rw [Maps.size_eq, List.length_map]
theorem insert_map (x : La) : ∀ l : List La, DataW.insert (entL x) (l.map entL) = (insL x l).map entL
  | [] => rfl
  | y :: r => by
    rw [List.map_cons]
    unfold DataW.insert insL
    have e : (entL x).1.before (entL y).1 = decide (x.p < y.p) := rfl
    rw [e]
    by_cases h : x.p < y.p
    · rw [if_pos h, if_pos (by simpa using h)]; rfl
    · rw [if_neg h, if_neg (by simpa using h), insert_map x r]; rfl
theorem tabD_put (l : List La) (x : La) : (tabD l).put (.int .i64 x.p) (laD x.s x.n x.o) = tabD (noteL l x) := by
  unfold tabD DataW.put noteL
  dsimp only
  have e : (l.map entL).filter (fun p : Lit × DataW Unit => !p.1.sameKey (.int .i64 x.p)) = (l.filter fun y => !decide (y.p = x.p)).map entL := by
    rw [List.filter_map]
    congr 1
    apply List.filter_congr
    intro y _
    show (!(Lit.int .i64 y.p).sameKey (.int .i64 x.p)) = _
    rw [sameKey_int]
  rw [e, ← insert_map]
  rfl
theorem keyedI : Keyed Tryz.prog 3 := Maps.int_keyed Tryz.underlying3
theorem keyI {p : Int} (h : (Lit.int .i64 p).wf = true) : keyOf Tryz.prog 3 (.int .i64 p) = some (.int .i64 p) := by
  simp [keyOf, Tryz.underlying3, mapKey, h]
theorem zeroLast (w : World) : (zeroValue 184).run Tryz.prog w = .ok (laV 0 0 0) w := by kernel_rfl
/-- The number of entries is a bound. -/
theorem own_tight {P : Program} {k : TypeId} {R : Value → Option (DataW Unit × List MemPlace)} {b n : Nat} {D : DataW Unit} {w : World} (h : w.ownsMap P k R b n D) : w.ownsMap P k R b (Maps.size D) D := by
  obtain ⟨es, clock, hb, F, hs, rfl⟩ := h
  refine ⟨es, clock, hb, F, ?_, rfl⟩
  simp [Maps.size, length_sorted]

/-- A map that is a list of last batches: nil, or a block. -/
def MapIs (w : World) (m : Option Nat) (l : List La) : Prop := (m = none ∧ l = []) ∨ ∃ mb, m = some mb ∧ w.ownsMap Tryz.prog 3 laR mb l.length (tabD l)
section
variable {w w' : World} {m : Option Nat} {l : List La} {tb : Nat}
theorem MapIs.below (h : MapIs w m l) (hb : Below w.heap.size w w') : MapIs w' m l := by
  rcases h with h | ⟨mb, h1, h2⟩
  · exact .inl h
  · exact .inr ⟨mb, h1, h2.kept (row := none) ⟨hb.os, hb.tape, hb.output, hb.size, fun i hi _ => hb.block i hi⟩ (by simp)⟩
def getV (l : List La) (p : Int) : La := (getL l p).getD ⟨0, 0, 0, 0⟩
theorem MapIs.look (h : MapIs w m l) {p : Int} (hp : (Lit.int .i64 p).wf = true) :
    (Instr.lookup 171 (.map m) (.int .i64 p) false).run Tryz.prog w = .ok (laV (getV l p).s (getV l p).n (getV l p).o) w := by
  rcases h with ⟨rfl, rfl⟩ | ⟨mb, rfl, h2⟩
  · exact Maps.look_nil false keyedI Tryz.underlying171 (zeroLast w) (keyI hp)
  · obtain ⟨v, ps, hrun, hv⟩ := h2.lookup keyedI Tryz.underlying171 (zeroLast w) (laR_mk 0 0 0) (keyI hp)
    rw [tabD_at] at hv
    obtain ⟨a, b, c, rfl, hz⟩ := laR_inv hv
    rw [hrun]
    unfold getV
    cases hg : getL l p with
    | none => rw [hg] at hz; simp at hz; obtain ⟨⟨rfl, rfl, rfl⟩, _⟩ := hz; rfl
    | some x => rw [hg] at hz; simp at hz; obtain ⟨⟨rfl, rfl, rfl⟩, _⟩ := hz; rfl
theorem MapIs.look_ok (h : MapIs w m l) {p : Int} (hp : (Lit.int .i64 p).wf = true) :
    (Instr.lookup 171 (.map m) (.int .i64 p) true).run Tryz.prog w = .ok (.tuple #[laV (getV l p).s (getV l p).n (getV l p).o, .bool (hasL l p)]) w := by
  rcases h with ⟨rfl, rfl⟩ | ⟨mb, rfl, h2⟩
  · exact Maps.look_nil true keyedI Tryz.underlying171 (zeroLast w) (keyI hp)
  · obtain ⟨v, ps, hrun, hv⟩ := h2.look_ok keyedI Tryz.underlying171 (zeroLast w) (laR_mk 0 0 0) (keyI hp)
    rw [tabD_at] at hv
    rw [tabD_has] at hrun
    obtain ⟨a, b, c, rfl, hz⟩ := laR_inv hv
    rw [hrun]
    unfold getV
    cases hg : getL l p with
    | none => rw [hg] at hz; simp at hz; obtain ⟨⟨rfl, rfl, rfl⟩, _⟩ := hz; rfl
    | some x => rw [hg] at hz; simp at hz; obtain ⟨⟨rfl, rfl, rfl⟩, _⟩ := hz; rfl
theorem MapIs.len (h : MapIs w m l) (ty : TypeId) : (Builtin.len_ #[171] ty #[.map m]).run Tryz.prog w = .ok (.int .i64 (l.length : Int)) w := by
  rcases h with ⟨rfl, rfl⟩ | ⟨mb, rfl, h2⟩
  · exact Maps.len_nil Tryz.underlying171 ty
  · have := h2.len Tryz.underlying171 ty
    rwa [tabD_size] at this
/-- A table in memory, its blocks made since B. -/
structure TbAt (B : Nat) (w : World) (tb : Nat) (m : Option Nat) (l : List La) : Prop where
  box : Whole w tb 173 [.map m]
  map : MapIs w m l
  new : B ≤ tb
  newM : ∀ mb, m = some mb → B ≤ mb
def Tb (B : Nat) (w : World) (tb : Nat) (l : List La) : Prop := ∃ m, TbAt B w tb m l
/-- A table's blocks. -/
def ofT (tb : Nat) (m : Option Nat) (q : Nat) : Prop := q = tb ∨ m = some q
theorem TbAt.below {B : Nat} (h : TbAt B w tb m l) (hb : Below w.heap.size w w') : TbAt B w' tb m l := ⟨h.box.below hb h.box.lt, h.map.below hb, h.new, h.newM⟩
theorem Tb.below {B : Nat} (h : Tb B w tb l) (hb : Below w.heap.size w w') : Tb B w' tb l := by
  obtain ⟨m, h⟩ := h
  exact ⟨m, h.below hb⟩
theorem TbAt.old {B B' : Nat} (h : TbAt B w tb m l) (hB : B' ≤ B) : TbAt B' w tb m l := ⟨h.box, h.map, Nat.le_trans hB h.new, fun mb e => Nat.le_trans hB (h.newM mb e)⟩
/-- Cells of another type are no table's. -/
theorem TbAt.ne {B b : Nat} {t : TypeId} {cs : List Value} (h : TbAt B w tb m l) (hb : Whole w b t cs) (ht : t ≠ 173) : ¬ ofT tb m b := by
  rintro (rfl | e)
  · exact (hb.ne h.box ht) rfl
  · rcases h.map with ⟨e2, _⟩ | ⟨mb, e2, es, clock, hm, _⟩
    · rw [e] at e2; cases e2
    · rw [e] at e2
      cases e2
      unfold Whole at hb
      rw [hb] at hm
      cases hm
end
end Go.Proofs.YtgogackkeodciaaGreat.W
end
section
namespace Go.Proofs.YtgogackkeodciaaGreat.W
open Go.RowKit
open Go.Proofs.YtgogackkeodciaaGreat.M Go.Proofs.YtgogackkeodciaaGreat.D
set_option linter.unusedVariables false
set_option linter.unusedSimpArgs false

theorem within_any (n a b : Int) (w : World) : Calls Tryz.prog 138 #[.int .i64 n, .int .i64 a, .int .i64 b] w fun e w' => e = .returned (.bool (decide (a ≤ n ∧ n ≤ b))) ∧ w = w' := by
  by_cases h0 : a ≤ n
  · by_cases h1 : n ≤ b
    · rw [decide_eq_true (show a ≤ n ∧ n ≤ b from ⟨h0, h1⟩)]
      go_enter Tryz.func138, Tryz.ntmps138
      go_wp2_with fail
      go_ret
      exact ⟨rfl, rfl⟩
    · rw [decide_eq_false (show ¬ (a ≤ n ∧ n ≤ b) from fun h => h1 h.2)]
      have h2 : b < n := by omega
      go_enter Tryz.func138, Tryz.ntmps138
      go_wp2_with fail
      go_ret
      exact ⟨rfl, rfl⟩
  · rw [decide_eq_false (show ¬ (a ≤ n ∧ n ≤ b) from fun h => h0 h.1)]
    have h2 : n < a := by omega
    go_enter Tryz.func138, Tryz.ntmps138
    go_wp2_with fail
    go_ret
    exact ⟨rfl, rfl⟩
set_option maxRecDepth 100000 in
set_option maxHeartbeats 2000000 in
theorem dmay_any (p s n o : Int) (w : World) : Calls Tryz.prog 130 #[.int .i64 p, .agg #[.int .i64 s, .int .i64 n, .int .i64 o]] w fun e w' => e = .returned (.bool (decide (okB p s n o))) ∧ Below w.heap.size w w' := by
  have hB := Lib.hid ((Below.refl w.heap.size w).alloc (Nat.le_refl _) (.cells #[.int .i64 s, .int .i64 n, .int .i64 o] 184))
  obtain ⟨R, hm⟩ : ∃ R, Hid (decide (okB p s n o) = R) := ⟨_, Lib.hid rfl⟩
  have bad : Hid (¬ okB p s n o → R = false) := Lib.hid (fun h => by rw [← hm.out]; exact decide_eq_false h)
  have fine : Hid (okB p s n o → R = true) := Lib.hid (fun h => by rw [← hm.out]; exact decide_eq_true h)
  rw [hm.out]
  clear hm
  have h1 := fun W => within_any p 1 1099511627776 W
  have h2 := fun W => within_any s 0 1099511627776 W
  have h3 := fun W => within_any n 1 8 W
  have h4 := fun W => within_any o 0 1048576 W
  by_cases c1 : ¬ (1 ≤ p ∧ p ≤ 1099511627776)
  · rw [decide_eq_false c1] at h1
    obtain rfl := bad.out (fun h => c1 h.1)
    replace h1 := Lib.hid h1
    clear h2 h3 h4 c1
    go_enter Tryz.func130, Tryz.ntmps130
    go_wp2_with fail
    refine (h1.out _).mono ?_
    rintro e w1 ⟨rfl, rfl⟩
    go_wp2_with fail
    go_ret
    exact ⟨rfl, hB.out⟩
  replace c1 := Classical.not_not.1 c1
  rw [decide_eq_true c1] at h1
  replace h1 := Lib.hid h1
  replace c1 := Lib.hid c1
  by_cases c2 : ¬ (0 ≤ s ∧ s ≤ 1099511627776)
  · rw [decide_eq_false c2] at h2
    obtain rfl := bad.out (fun h => c2 h.2.1)
    replace h2 := Lib.hid h2
    clear h3 h4 c2
    go_enter Tryz.func130, Tryz.ntmps130
    go_wp2_with fail
    refine (h1.out _).mono ?_
    rintro e w1 ⟨rfl, rfl⟩
    go_wp2_with fail
    refine (h2.out _).mono ?_
    rintro e w1 ⟨rfl, rfl⟩
    go_wp2_with fail
    go_ret
    exact ⟨rfl, hB.out⟩
  replace c2 := Classical.not_not.1 c2
  rw [decide_eq_true c2] at h2
  replace h2 := Lib.hid h2
  replace c2 := Lib.hid c2
  by_cases c3 : ¬ (1 ≤ n ∧ n ≤ 8)
  · rw [decide_eq_false c3] at h3
    obtain rfl := bad.out (fun h => c3 h.2.2.1)
    replace h3 := Lib.hid h3
    clear h4 c3
    go_enter Tryz.func130, Tryz.ntmps130
    go_wp2_with fail
    refine (h1.out _).mono ?_
    rintro e w1 ⟨rfl, rfl⟩
    go_wp2_with fail
    refine (h2.out _).mono ?_
    rintro e w1 ⟨rfl, rfl⟩
    go_wp2_with fail
    refine (h3.out _).mono ?_
    rintro e w1 ⟨rfl, rfl⟩
    go_wp2_with fail
    go_ret
    exact ⟨rfl, hB.out⟩
  replace c3 := Classical.not_not.1 c3
  rw [decide_eq_true c3] at h3
  replace h3 := Lib.hid h3
  replace c3 := Lib.hid c3
  by_cases c4 : 0 ≤ o ∧ o ≤ 1048576
  · rw [decide_eq_true c4] at h4
    obtain rfl := fine.out ⟨c1.out, c2.out, c3.out, c4⟩
    replace h4 := Lib.hid h4
    clear c4
    go_enter Tryz.func130, Tryz.ntmps130
    go_wp2_with fail
    refine (h1.out _).mono ?_
    rintro e w1 ⟨rfl, rfl⟩
    go_wp2_with fail
    refine (h2.out _).mono ?_
    rintro e w1 ⟨rfl, rfl⟩
    go_wp2_with fail
    refine (h3.out _).mono ?_
    rintro e w1 ⟨rfl, rfl⟩
    go_wp2_with fail
    refine (h4.out _).mono ?_
    rintro e w1 ⟨rfl, rfl⟩
    go_wp2_with fail
    go_ret
    exact ⟨rfl, hB.out⟩
  · rw [decide_eq_false c4] at h4
    obtain rfl := bad.out (fun h => c4 h.2.2.2)
    replace h4 := Lib.hid h4
    clear c4
    go_enter Tryz.func130, Tryz.ntmps130
    go_wp2_with fail
    refine (h1.out _).mono ?_
    rintro e w1 ⟨rfl, rfl⟩
    go_wp2_with fail
    refine (h2.out _).mono ?_
    rintro e w1 ⟨rfl, rfl⟩
    go_wp2_with fail
    refine (h3.out _).mono ?_
    rintro e w1 ⟨rfl, rfl⟩
    go_wp2_with fail
    refine (h4.out _).mono ?_
    rintro e w1 ⟨rfl, rfl⟩
    go_wp2_with fail
    go_ret
    exact ⟨rfl, hB.out⟩
theorem dnew_any (w : World) : Calls Tryz.prog 85 #[] w fun e w' => e = .returned (.pointer (some ⟨w.heap.size, 0, none⟩)) ∧ Tb w.heap.size w' w.heap.size [] ∧ Below w.heap.size w w' := by
  have hB := Lib.hid ((Below.refl w.heap.size w).alloc (Nat.le_refl _) (.cells #[.map none] 173))
  have hT : Hid (Tb w.heap.size (w.alloc (.cells #[.map none] 173)) w.heap.size []) := Lib.hid ⟨none, Whole.new w _ _, .inl ⟨rfl, rfl⟩, Nat.le_refl _, fun _ e => by cases e⟩
  go_enter Tryz.func85, Tryz.ntmps85
  go_wp2_with fail
  go_ret
  exact ⟨rfl, hT.out, hB.out⟩
set_option maxRecDepth 100000 in
set_option maxHeartbeats 2000000 in
theorem room_any {B0 : Nat} (tb : Nat) (l : List La) (p : Int) (w : World) (h : Tb B0 w tb l) (hp : (Lit.int .i64 p).wf = true) (hl : l.length ≤ 100) : Calls Tryz.prog 131 #[.pointer (some ⟨tb, 0, none⟩), .int .i64 p] w fun e w' => e = .returned (.bool (hasL l p || decide (l.length < 16))) ∧ Below w.heap.size w w' := by
  obtain ⟨m, h1, h2, _, _⟩ := h
  have c0 : w.cell? ⟨tb, 0, none⟩ = some (.map m) := h1.cell 0
  have hlk := h2.look_ok hp
  obtain ⟨x, y, z, e⟩ : ∃ x y z, (x, y, z) = ((getV l p).s, (getV l p).n, (getV l p).o) := ⟨_, _, _, rfl⟩
  simp only [Prod.mk.injEq] at e
  rw [← e.1, ← e.2.1, ← e.2.2] at hlk
  obtain ⟨V, hV⟩ : ∃ V, Hid (V = w.alloc (.cells #[.int .i64 x, .int .i64 y, .int .i64 z] 184)) := ⟨_, Lib.hid rfl⟩
  have hb0 : Below w.heap.size w V := by rw [hV.out]; exact (Below.refl _ _).alloc (Nat.le_refl _) _
  have c1 : V.cell? ⟨tb, 0, none⟩ = some (.map m) := (h1.below hb0 h1.lt).cell 0
  have hln := fun ty => (h2.below hb0).len ty
  obtain ⟨N, hN⟩ : ∃ N, Hid (l.length = N) := ⟨_, Lib.hid rfl⟩
  obtain ⟨B, hB⟩ : ∃ B, Hid (hasL l p = B) := ⟨_, Lib.hid rfl⟩
  rw [hN.out] at hln hl
  rw [hN.out, hB.out]
  rw [hB.out] at hlk
  replace hb0 := Lib.hid hb0
  clear h1 h2 e
  cases B with
  | true =>
    go_enter Tryz.func131, Tryz.ntmps131
    go_wp2_with fail
    rw [← show V = _ from hV.out]
    go_wp2_with fail
    go_ret
    exact ⟨rfl, hb0.out⟩
  | false =>
    go_enter Tryz.func131, Tryz.ntmps131
    go_upto_region 2 with fail
    rw [← show V = _ from hV.out]
    clear hV c0 hlk
    go_wp2_with fail
    go_ret
    exact ⟨by simp; omega, hb0.out⟩
/-- What Check tells (18.1). -/
def chkF (l : List La) (p s n : Int) : Int × Bool × Int :=
  if ¬ okB p s n 0 then (0, false, 1) else if (getV l p).s = s ∧ (getV l p).n = n then ((getV l p).o, true, 0) else if (getV l p).s + (getV l p).n ≠ s then (0, false, 33)
  else if hasL l p = true ∨ l.length < 16 then (0, false, 0) else (0, false, 5)
theorem getV_ok {l : List La} (h : ∀ x ∈ l, x.ok) (p : Int) : (0 ≤ (getV l p).s ∧ (getV l p).s ≤ 1099511627776) ∧ (0 ≤ (getV l p).n ∧ (getV l p).n ≤ 8) ∧ (0 ≤ (getV l p).o ∧ (getV l p).o ≤ 1048576) := by
  unfold getV
  cases hg : getL l p with
  | none => simp
  | some x =>
    obtain ⟨h1, h2, h3, h4⟩ := h x (getL_mem hg).1
    refine ⟨h2, ⟨?_, h3.2⟩, h4⟩
    show 0 ≤ x.n
    omega
theorem wf_prod {p : Int} (h0 : 1 ≤ p) (h1 : p ≤ 1099511627776) : (Lit.int .i64 p).wf = true := by
  simp [Lit.wf, IntKind.min, IntKind.max, IntKind.signed, IntKind.bits]; omega
abbrev chkV (r : Int × Bool × Int) : Value := .tuple #[.int .i64 r.1, .bool r.2.1, .int .i64 r.2.2]
end Go.Proofs.YtgogackkeodciaaGreat.W
end
section
namespace Go.Proofs.YtgogackkeodciaaGreat.W
open Go.RowKit
open Go.Proofs.YtgogackkeodciaaGreat.M Go.Proofs.YtgogackkeodciaaGreat.D
set_option linter.unusedVariables false
set_option linter.unusedSimpArgs false

theorem eqlIn_map_nil {P : Program} (w : World) (d : Nat) (t k e : TypeId) (p : Option Nat) (h : P.underlying t = some (.map k e)) : (Op.equalIn (d + 1) t (.map p) (.map none)).run P w = .ok p.isNone w := by
  cases p <;> simp [Op.equalIn, run_underlying h]
theorem eql_map_nil (p : Option Nat) (W : World) : (binOp .eql 171 (.map p) (.map none)).run Tryz.prog W = .ok (.bool p.isNone) W := by
  simp only [binOp]
  simp [show Op.equal 171 (.map p) (.map none) = Op.equalIn (9999 + 1) 171 (.map p) (.map none) from rfl, eqlIn_map_nil W 9999 171 _ _ p Tryz.underlying171]
/-- Why a batch is not noted. -/
def noteE (l : List La) (x : La) : Int := if ¬ x.ok then 1 else if hasL l x.p = true ∨ l.length < 16 then 0 else 5
def notedL (l : List La) (x : La) : List La := if noteE l x = 0 then noteL l x else l
set_option maxRecDepth 100000 in
set_option maxHeartbeats 4000000 in
theorem note_no {B0 : Nat} (tb : Nat) (l : List La) (x : La) (w : World) (h : Tb B0 w tb l) (hok : TabOk l) (hx : noteE l x ≠ 0) : Calls Tryz.prog 121 #[.pointer (some ⟨tb, 0, none⟩), .int .i64 x.p, .int .i64 x.s, .int .i64 x.n, .int .i64 x.o] w fun e w' => e = .returned (.int .i64 (noteE l x)) ∧ Below w.heap.size w w' := by
  obtain ⟨V, hV⟩ : ∃ V, Hid (V = w.alloc (.cells #[.int .i64 x.s, .int .i64 x.n, .int .i64 x.o] 184)) := ⟨_, Lib.hid rfl⟩
  have hb0 : Below w.heap.size w V := by rw [hV.out]; exact grewAlloc (Below.refl _ _) _
  have hX : Whole V w.heap.size 184 [.int .i64 x.s, .int .i64 x.n, .int .i64 x.o] := by rw [hV.out]; exact Whole.new w _ _
  obtain ⟨q, hq⟩ : ∃ q, Hid (w.heap.size = q) := ⟨_, Lib.hid rfl⟩
  rw [hq.out] at hX
  have q0 : V.cell? ⟨q, 0, none⟩ = some (.int .i64 x.s) := hX.cell 0
  have q1 : V.cell? ⟨q, 1, none⟩ = some (.int .i64 x.n) := hX.cell 1
  have q2 : V.cell? ⟨q, 2, none⟩ = some (.int .i64 x.o) := hX.cell 2
  have hm := dmay_any x.p x.s x.n x.o V
  by_cases c0 : ¬ x.ok
  · have hx1 : noteE l x = 1 := by unfold noteE; rw [if_pos c0]
    rw [decide_eq_false (show ¬ okB x.p x.s x.n x.o from c0)] at hm
    rw [hx1]
    replace hm := Lib.hid hm
    replace hb0 := Lib.hid hb0
    clear hX h hok hx hx1 c0
    go_enter Tryz.func121, Tryz.ntmps121
    go_upto_region 4 with fail
    rw [← show V = _ from hV.out, hq.out]
    clear hV hq
    go_wp2_with fail
    refine hm.out.mono ?_
    rintro e w1 ⟨rfl, hb⟩
    have hB := Lib.hid (grew hb0.out hb)
    clear hb0 hb
    go_wp2_with fail
    go_ret
    exact ⟨rfl, hB.out⟩
  · replace c0 := Classical.not_not.1 c0
    have hx5 : noteE l x = 5 ∧ (hasL l x.p || decide (l.length < 16)) = false := by
      unfold noteE at hx ⊢
      rw [if_neg (fun e => e c0)] at hx ⊢
      by_cases c : hasL l x.p = true ∨ l.length < 16
      · rw [if_pos c] at hx; exact absurd rfl hx
      · rw [if_neg c]
        refine ⟨rfl, ?_⟩
        rw [Bool.or_eq_false_iff]
        exact ⟨by simpa using fun e => c (.inl e), by simpa using fun e => c (.inr e)⟩
    rw [decide_eq_true (show okB x.p x.s x.n x.o from c0)] at hm
    have hwf := wf_prod c0.1.1 c0.1.2
    have hro := fun W (hb : Below V.heap.size V W) => room_any tb l x.p W (h.below (grew hb0 hb)) hwf (by have := hok.few; omega)
    rw [hx5.2] at hro
    rw [hx5.1]
    replace hm := Lib.hid hm
    replace hro := Lib.hid hro
    replace hb0 := Lib.hid hb0
    clear hX h hok hx hx5 c0 hwf
    go_enter Tryz.func121, Tryz.ntmps121
    go_upto_region 4 with fail
    rw [← show V = _ from hV.out, hq.out]
    clear hV hq
    go_wp2_with fail
    refine hm.out.mono ?_
    rintro e w1 ⟨rfl, hb⟩
    have hr := Lib.hid (hro.out _ hb)
    have hB := Lib.hid (grew hb0.out hb)
    clear hb0 hb hro
    go_wp2_with fail
    refine hr.out.mono ?_
    rintro e w2 ⟨rfl, hb2⟩
    have hB2 := Lib.hid (grew hB.out hb2)
    clear hB hb2
    go_wp2_with fail
    go_ret
    exact ⟨rfl, hB2.out⟩
set_option maxRecDepth 100000 in
set_option maxHeartbeats 4000000 in
theorem note_yes {B0 : Nat} (tb : Nat) (m : Option Nat) (l : List La) (x : La) (w : World) (h : TbAt B0 w tb m l) (hB0 : B0 ≤ w.heap.size) (hok : TabOk l) (hx : noteE l x = 0) : Calls Tryz.prog 121 #[.pointer (some ⟨tb, 0, none⟩), .int .i64 x.p, .int .i64 x.s, .int .i64 x.n, .int .i64 x.o] w fun e w' => e = .returned (.int .i64 0) ∧ Tb B0 w' tb (noteL l x) ∧ Kept (ofT tb m) w w' := by
  obtain ⟨V, hV⟩ : ∃ V, Hid (V = w.alloc (.cells #[.int .i64 x.s, .int .i64 x.n, .int .i64 x.o] 184)) := ⟨_, Lib.hid rfl⟩
  have hb0 : Below w.heap.size w V := by rw [hV.out]; exact grewAlloc (Below.refl _ _) _
  have hX : Whole V w.heap.size 184 [.int .i64 x.s, .int .i64 x.n, .int .i64 x.o] := by rw [hV.out]; exact Whole.new w _ _
  obtain ⟨q, hq⟩ : ∃ q, Hid (w.heap.size = q) := ⟨_, Lib.hid rfl⟩
  rw [hq.out] at hX
  have hm := dmay_any x.p x.s x.n x.o V
  have hxk : x.ok ∧ (hasL l x.p = true ∨ l.length < 16) := by
    unfold noteE at hx
    by_cases c0 : ¬ x.ok
    · rw [if_pos c0] at hx; omega
    · rw [if_neg c0] at hx
      refine ⟨Classical.not_not.1 c0, Classical.byContradiction fun e => ?_⟩
      rw [if_neg e] at hx
      omega
  have c0 := hxk.1
  have hrb : (hasL l x.p || decide (l.length < 16)) = true := by
    rcases hxk.2 with e | e
    · rw [e]; rfl
    · rw [decide_eq_true e]; simp
  rw [decide_eq_true (show okB x.p x.s x.n x.o from c0)] at hm
  have hwf := wf_prod c0.1.1 c0.1.2
  have hro := fun W (hb : Below V.heap.size V W) => room_any tb l x.p W (show Tb B0 W tb l from ⟨m, (h.below (grew hb0 hb))⟩) hwf (by have := hok.few; omega)
  rw [hrb] at hro
  have hlen : (noteL l x).length ≤ 1000 := by have := noteL_len l x; have := hok.few; omega
  have hll : l.length < maxLen := by have := hok.few; unfold maxLen; omega
  replace hm := Lib.hid hm
  replace hro := Lib.hid hro
  replace hb0 := Lib.hid hb0
  replace hX := Lib.hid hX
  have q0 : V.cell? ⟨q, 0, none⟩ = some (.int .i64 x.s) := hX.out.cell 0
  have q1 : V.cell? ⟨q, 1, none⟩ = some (.int .i64 x.n) := hX.out.cell 1
  have q2 : V.cell? ⟨q, 2, none⟩ = some (.int .i64 x.o) := hX.out.cell 2
  replace h := Lib.hid h
  clear hok hx hxk hrb c0
  go_enter Tryz.func121, Tryz.ntmps121
  go_upto_region 4 with fail
  rw [← show V = _ from hV.out, hq.out]
  clear hV hq
  go_wp2_with fail
  refine hm.out.mono ?_
  rintro e w1 ⟨rfl, hb⟩
  have hr := Lib.hid (hro.out _ hb)
  have hB := Lib.hid (grew hb0.out hb)
  replace hX := Lib.hid (hX.out.below hb hX.out.lt)
  clear hb0 hb hro q0 q1 q2
  go_wp2_with fail
  refine hr.out.mono ?_
  rintro e w2 ⟨rfl, hb2⟩
  have hB2 := grew hB.out hb2
  have hX2 := hX.out.below hb2 hX.out.lt
  have h2 := h.out.below hB2
  obtain ⟨i1, i2, i3, i4⟩ := h2
  have q0 : w2.cell? ⟨q, 0, none⟩ = some (.int .i64 x.s) := hX2.cell 0
  have q1 : w2.cell? ⟨q, 1, none⟩ = some (.int .i64 x.n) := hX2.cell 1
  have q2 : w2.cell? ⟨q, 2, none⟩ = some (.int .i64 x.o) := hX2.cell 2
  have t0 : w2.cell? ⟨tb, 0, none⟩ = some (.map m) := i1.cell 0
  have f0 : w2.frozen? ⟨tb, 0, none⟩ = false := i1.frozen 0
  have hB2s : w.heap.size ≤ w2.heap.size := hB2.size
  have hq := fun W => eql_map_nil m W
  rcases i2 with ⟨rfl, rfl⟩ | ⟨mb, rfl, i2⟩
  · -- the first one
    have hmm := @run_makeMap Tryz.prog
    have i1a := i1.alloc (.map #[] 0)
    have t1 : (w2.alloc (.map #[] 0)).cell? ⟨tb, 0, none⟩ = some (.map none) := i1a.cell 0
    have f1 : (w2.alloc (.map #[] 0)).frozen? ⟨tb, 0, none⟩ = false := i1a.frozen 0
    obtain ⟨W3, hW3⟩ : ∃ V, Hid (V = (w2.alloc (.map #[] 0)).setCell ⟨tb, 0, none⟩ (.map (some w2.heap.size))) := ⟨_, Lib.hid rfl⟩
    have hbox3 : Whole W3 tb 173 [.map (some w2.heap.size)] := by rw [hW3.out]; exact i1a.store 0 [.map (some w2.heap.size)] (by simp)
    have hown3 : W3.ownsMap Tryz.prog 3 laR w2.heap.size 0 (tabD []) := by
      rw [hW3.out]
      exact (World.ownsMap_made w2 Tryz.prog 3 laR).setCell (a := ⟨tb, 0, none⟩) (fun e => by have := i1.lt; simp only at e; omega) _
    have hK3 : Kept (ofT tb none) w W3 := by
      rw [hW3.out]
      exact ((Kept.of_below hB2).alloc (.map #[] 0)).setCells (c := tb) (.inl (.inl rfl)) 0 [.map (some w2.heap.size)]
    have hX3 : Whole W3 q 184 [.int .i64 x.s, .int .i64 x.n, .int .i64 x.o] := by
      rw [hW3.out]
      exact (hX2.alloc (.map #[] 0)).far (hX2.ne i1 (by decide)) 0 [.map (some w2.heap.size)]
    have hmw : B0 ≤ w2.heap.size := by omega
    have hwm : w.heap.size ≤ w2.heap.size := hB2.size
    obtain ⟨mb, hmb⟩ : ∃ mb, Hid (w2.heap.size = mb) := ⟨_, Lib.hid rfl⟩
    rw [hmb.out] at hbox3 hown3 hmw hwm
    have hown3' := hown3.drew
    obtain ⟨w3, hrun, hown, hgrow⟩ := hown3'.update (key := .int .i64 x.p) (val := laV x.s x.n x.o) keyedI Tryz.underlying171 (by unfold maxLen; omega) (keyI hwf) (laR_mk x.s x.n x.o)
    have q03 : W3.cell? ⟨q, 0, none⟩ = some (.int .i64 x.s) := hX3.cell 0
    have q13 : W3.cell? ⟨q, 1, none⟩ = some (.int .i64 x.n) := hX3.cell 1
    have q23 : W3.cell? ⟨q, 2, none⟩ = some (.int .i64 x.o) := hX3.cell 2
    have t3 : W3.cell? ⟨tb, 0, none⟩ = some (.map (some mb)) := hbox3.cell 0
    have hnm : tb ≠ mb := fun e => by have := i1.lt; have := hmb.out; omega
    clear hX hX2 hX3 hB hr hb2 h i1a i1 hB2
    replace hown := Lib.hid hown
    replace hgrow := Lib.hid hgrow
    replace hbox3 := Lib.hid hbox3
    replace hown3 := Lib.hid hown3
    replace hown3' := Lib.hid hown3'
    replace hK3 := Lib.hid hK3
    go_upto_region 10 with fail
    rw [← show W3 = _ from hW3.out, hmb.out]
    clear hW3 hmm t1 f1 q0 q1 q2 t0 f0 hmb
    go_region
    have hbox : Whole w3 tb 173 [.map (some mb)] := hbox3.out.kept (w := W3.drew) hgrow.out (fun e => hnm (Option.some.inj e))
    have hown2 := own_tight hown.out
    rw [tabD_put, tabD_size] at hown2
    have hK : Kept (ofT tb none) w w3 := (show Kept (ofT tb none) w W3.drew from hK3.out.drewN 1).grown hgrow.out (fun k e => .inr (by cases e; exact hwm))
    have hfin : Hid (Tb B0 w3 tb (noteL [] x) ∧ Kept (ofT tb none) w w3) := Lib.hid ⟨⟨some mb, hbox, .inr ⟨mb, rfl, hown2⟩, i3, fun k e => by cases e; exact hmw⟩, hK⟩
    clear hbox hown2 hK hown hgrow hrun hbox3 hown3 hown3' hK3 t3 q03 q13 q23
    go_wp2_with fail
    go_ret
    exact ⟨rfl, hfin.out⟩
  · have i2' := i2.drew
    obtain ⟨w3, hrun, hown, hgrow⟩ := i2'.update (key := .int .i64 x.p) (val := laV x.s x.n x.o) keyedI Tryz.underlying171 hll (keyI hwf) (laR_mk x.s x.n x.o)
    clear hX hX2 hB hr hb2 h
    replace hown := Lib.hid hown
    replace hgrow := Lib.hid hgrow
    replace hB2 := Lib.hid hB2
    replace i1 := Lib.hid i1
    replace i2 := Lib.hid i2
    replace i2' := Lib.hid i2'
    go_upto_region 10 with fail
    go_region
    have hbox : Whole w3 tb 173 [.map (some mb)] := by
      have hne : some tb ≠ some mb := fun e => by
        obtain ⟨es, clock, hm, _⟩ := i2.out
        cases e
        have h3 := i1.out
        unfold Whole at h3
        rw [hm] at h3
        cases h3
      exact i1.out.kept (w := w2.drew) hgrow.out hne
    have hown2 := own_tight hown.out
    rw [tabD_put, tabD_size] at hown2
    have hK : Kept (ofT tb (some mb)) w w3 := (show Kept (ofT tb (some mb)) w w2.drew from (Kept.of_below hB2.out).drewN 1).grown hgrow.out (fun k e => .inl (.inr e))
    have hfin : Hid (Tb B0 w3 tb (noteL l x) ∧ Kept (ofT tb (some mb)) w w3) := Lib.hid ⟨⟨some mb, hbox, .inr ⟨mb, rfl, hown2⟩, i3, i4⟩, hK⟩
    clear hbox hown2 hK hown hgrow hrun hB2 i1 i2 i2' q0 q1 q2 t0
    go_wp2_with fail
    go_ret
    exact ⟨rfl, hfin.out⟩
end Go.Proofs.YtgogackkeodciaaGreat.W
end
section
namespace Go.Proofs.YtgogackkeodciaaGreat.W
open Go.RowKit Go.Sort
open Go.Proofs.YtgogackkeodciaaGreat.M Go.Proofs.YtgogackkeodciaaGreat.D Go.Proofs.YtgogackkeodciaaGreat.Z
set_option linter.unusedVariables false
set_option linter.unusedSimpArgs false

def keysL (l : List La) : List Int := l.map (·.p)
theorem hasL_iff (l : List La) (k : Int) : hasL l k = true ↔ k ∈ keysL l := by
  unfold hasL getL keysL
  rw [List.isSome_find?, List.any_eq_true, List.mem_map]
  constructor
  · rintro ⟨x, h1, h2⟩; exact ⟨x, h1, by simpa using h2⟩
  · rintro ⟨x, h1, h2⟩; exact ⟨x, h1, by simpa using h2⟩
theorem keysL_rise {l : List La} (h : riseL l) : (keysL l).Pairwise (· < ·) := by
  unfold keysL riseL at *
  rw [List.pairwise_map]
  exact h
/-- Which keys have come. -/
structure GoneK (l : List La) (left : Lit → Bool) (ks : List Int) : Prop where
  nodup : ks.Nodup
  came : ∀ k ∈ ks, k ∈ keysL l ∧ left (.int .i64 k) = false
  all : ∀ k, k ∈ keysL l → left (.int .i64 k) = false → k ∈ ks
theorem GoneK.start (l : List La) : GoneK l (Maps.has (tabD l)) [] := ⟨List.nodup_nil, fun k hk => by simp at hk, fun k hk h => by rw [tabD_has, (hasL_iff l k).2 hk] at h; cases h⟩
theorem GoneK.step {l : List La} {left : Lit → Bool} {ks : List Int} (h : GoneK l left ks) {x : Int} (hx : left (.int .i64 x) = true) (hk : x ∈ keysL l) : GoneK l (fun z => left z && !z.sameKey (.int .i64 x)) (ks ++ [x]) := by
  refine ⟨?_, fun k hk2 => ?_, fun k hk2 hl => ?_⟩
  · rw [List.nodup_append]
    refine ⟨h.nodup, by simp, fun a ha b hb => ?_⟩
    rintro rfl
    obtain rfl := List.mem_singleton.1 hb
    have := (h.came _ ha).2
    rw [hx] at this; cases this
  · rcases List.mem_append.1 hk2 with h1 | h1
    · exact ⟨(h.came k h1).1, by simp [(h.came k h1).2]⟩
    · obtain rfl := List.mem_singleton.1 h1
      exact ⟨hk, by simp [sameKey_int]⟩
  · rw [Bool.and_eq_false_iff] at hl
    rcases hl with hl | hl
    · exact List.mem_append_left _ (h.all k hk2 hl)
    · rw [sameKey_int] at hl
      have : k = x := by simpa using hl
      exact List.mem_append_right _ (by simp [this])
theorem eq_sorted : ∀ {a b : List Int}, a.Perm b → a.Pairwise (· ≤ ·) → b.Pairwise (· ≤ ·) → a = b
  | [], b, hp, _, _ => (List.Perm.nil_eq hp)
  | x :: a, [], hp, _, _ => by have := hp.length_eq; simp at this
  | x :: a, y :: b, hp, ha, hb => by
    obtain ⟨a1, a2⟩ := List.pairwise_cons.1 ha
    obtain ⟨b1, b2⟩ := List.pairwise_cons.1 hb
    have hxy : x = y := by
      have h1 : x ∈ y :: b := hp.mem_iff.1 (by simp)
      have h2 : y ∈ x :: a := hp.mem_iff.2 (by simp)
      rcases List.mem_cons.1 h1 with e | h1
      · exact e
      rcases List.mem_cons.1 h2 with e | h2
      · exact e.symm
      have := b1 x h1
      have := a1 y h2
      omega
    subst hxy
    rw [eq_sorted (List.Perm.cons_inv hp) a2 b2]
theorem sorted_le (ks : List Int) : (ks.mergeSort fun x y => decide (x ≤ y)).Pairwise (· ≤ ·) := by
  have h := List.pairwise_mergeSort (le := fun x y : Int => decide (x ≤ y)) (fun a b c h1 h2 => by simp at *; omega) (fun a b => by simp; omega) ks
  exact h.imp (fun h => by simpa using h)
theorem GoneK.sorted {l : List La} {left : Lit → Bool} {ks : List Int} (h : GoneK l left ks) (hl : ∀ z, left z = false) (hr : riseL l) : (ks.mergeSort fun x y => decide (x ≤ y)) = keysL l := by
  have hk := keysL_rise hr
  have hp : ks.Perm (keysL l) := (List.perm_ext_iff_of_nodup h.nodup (hk.imp (fun h => by omega))).2 (fun a => ⟨fun ha => (h.came a ha).1, fun ha => h.all a ha (hl _)⟩)
  exact eq_sorted ((List.mergeSort_perm _ _).trans hp) (sorted_le ks) (hk.imp (fun h => by omega))
theorem infoIn : (Tryz.prog.info? 3).map (fun i => (i.zero, i.size, i.bytes)) = some (some (.int .i64 0), 1, 8) := by kernel_rfl
theorem own_nilI {W : World} {B : Nat} {e : TypeId} {sz : Nat} : W.ownsRow B e sz (.slice none 0 0) 0 [] := ⟨by simp, .inl ⟨rfl, rfl⟩⟩
theorem below_grown {B : Nat} {a w w' : World} {row : Option Nat} (h : Below B a w) (hg : w.grownBy w' row) (hs : B ≤ w.heap.size) (hr : ∀ k, row = some k → B ≤ k) : Below B a w' := h.grown hg hs hr
/-- What Producers hands back: rising numbers, in a row of its own. -/
def ProdsP (w : World) (l : List La) (e : Ending) (w' : World) : Prop := ∃ A c, e = .returned (.slice A l.length c) ∧ w'.ownsRow w.heap.size 3 1 (.slice A l.length c) l.length ((keysL l).map (Value.int .i64)) ∧ Below w.heap.size w w'
set_option maxRecDepth 100000 in
set_option maxHeartbeats 4000000 in
theorem prods_some {B0 : Nat} (tb mb : Nat) (l : List La) (w : World) (h : TbAt B0 w tb (some mb) l) (hr : riseL l) (hn : l.length ≤ 1000) : Calls Tryz.prog 110 #[.pointer (some ⟨tb, 0, none⟩)] w (ProdsP w l) := by
  have c0 : w.cell? ⟨tb, 0, none⟩ = some (.map (some mb)) := h.box.cell 0
  have hown : w.ownsMap Tryz.prog 3 laR mb l.length (tabD l) := by
    rcases h.map with ⟨e, _⟩ | ⟨m2, e, h2⟩
    · cases e
    · cases e; exact h2
  obtain ⟨i0, hi0, hz0, hz1, hz2⟩ := info_parts infoIn
  have hmb := hown.lt
  replace hr := Lib.hid hr
  clear h
  go_enter Tryz.func110, Tryz.ntmps110
  go_wp2_with (at_range; refine zHere ?_)
  refine Lib.hid ?_
  refine wpList_range_own _ rfl _ 171 rfl 3 184 keyedI Tryz.underlying171 laR mb l.length (tabD l) rfl hown ?_
  intro w0 hrg0 hg0 hs0
  have hb0 : Below w.heap.size w w0 := below_grown (Below.refl _ _) hg0 (Nat.le_refl _) (fun k e => by cases e)
  have hst : Hid (GoneK l (Maps.has (tabD l)) []) := Lib.hid (GoneK.start l)
  obtain ⟨rb, hrb⟩ : ∃ rb, Hid (w.heap.size = rb) := ⟨_, Lib.hid rfl⟩
  have hrw : w.heap.size ≤ rb := by rw [hrb.out]; exact Nat.le_refl _
  have hmr : mb ≠ rb := by rw [← hrb.out]; omega
  rw [hrb.out] at hrg0
  rw [tabD_size] at hrg0
  replace hrg0 := Lib.hid hrg0
  replace hb0 := Lib.hid hb0
  obtain ⟨N, hN⟩ : ∃ N, Hid (l.length = N) := ⟨_, Lib.hid rfl⟩
  rw [hN.out] at hrg0 hn
  rw [show w.heap.size = rb from hrb.out]
  clear hown hg0 hs0 c0
  go_wp2_with fail
  go_frame
  go_loopg [3] N (fun ga lv wr => ∃ (left : Lit → Bool) (cnt : Nat) (ks : List Int) (A : Option Addr) (c : Nat), cnt ≤ ga ∧ lv = .slice A ks.length c ∧ Hid (wr.ranges Tryz.prog 3 laR mb rb N (tabD l) left cnt ∧ wr.ownsRow w.heap.size 3 1 (.slice A ks.length c) ks.length (ks.map (Value.int .i64)) ∧ GoneK l left ks ∧ ks.length + cnt ≤ N ∧ Below w.heap.size w wr))
  case atStart => exact ⟨_, N, [], none, 0, Nat.le_refl _, rfl, Lib.hid ⟨hrg0.out, own_nilI, hst.out, by simp, hb0.out⟩⟩
  case round =>
    clear hrg0 hst hb0
    obtain ⟨left, cnt, ks, A, c, hga, rfl, hrel⟩ := hrel
    generalize wr = wo at *
    obtain ⟨hrg, how, hG, hlen, hB⟩ := hrel.out
    clear hrel
    go_wp2_with (at_next; refine zHere ?_)
    refine Lib.hid ?_
    refine wpList_next_ranges _ rfl _ rfl 3 keyedI laR (Value.int .i64) (fun (c : Int × Int × Int) => laV c.1 c.2.1 c.2.2) (fun key kl hk => by obtain ⟨x, e, _⟩ := Maps.keyOf_int_inv Tryz.underlying3 hk; exact ⟨x, e⟩) (fun v y hv => by obtain ⟨a, b, c, e, _⟩ := laR_inv hv; exact ⟨(a, b, c), e⟩) mb rb N (tabD l) left cnt rfl hrg ?_ ?_
    · intro hc0 hl0
      have hs := hG.sorted hl0 hr.out
      have hkl : (keysL l).length = N := by unfold keysL; rw [List.length_map]; exact hN.out
      have hl2 : (ks.mergeSort fun x y => decide (x ≤ y)).length = ks.length := List.length_mergeSort ks
      have hkN : ks.length = N := by rw [← hl2, hs, hkl]
      rcases how.2 with ⟨hnil, hk0⟩ | ⟨g, cap, cur, hv, hbase, hb, h1, h2, h3, h4⟩
      · injection hnil with e1 e2 e3
        have hk1 : ks = [] := List.eq_nil_of_length_eq_zero (by omega)
        have hkl0 : keysL l = [] := List.eq_nil_of_length_eq_zero (by omega)
        have hN0 : N = 0 := by omega
        have hfin : Hid (ProdsP w l (.returned (.slice none 0 0)) wo) := Lib.hid ⟨none, 0, by rw [hN.out, hN0], by rw [hN.out, hN0, hkl0]; exact own_nilI, hB⟩
        subst e1 e3
        rw [hkN, hN0]
        clear hrg how hG hlen hB hs hc0 hl0 hkl hl2 hkN hk0 hk1 hkl0 hN0 hN hga hr hi0 hz0 hz1 hz2 hn
        go_frame
        go_wp2_with fail
        refine (Tryz.slices_Sort_int_none none 0 _).mono ?_
        rintro e w' ⟨rfl, rfl⟩
        go_wp2_with fail
        go_ret
        exact hfin.out
      · injection hv with e1 e2 e3
        subst e1 e3
        have hH : Holds (Value.int .i64) wo g 0 ks.toArray := holds_of_blockI hb (by simpa using h4)
        have hgl : g < wo.heap.size := (Array.getElem?_eq_some_iff.1 hb).1
        have hsort := Lib.hid (Tryz.slices_Sort_int g 0 c ks wo hH hgl (by omega))
        have hgr := fun (nn : Nat) (os : Array Obj) => grownBy_sortedI (w := wo) (g := g) (n := nn) (os := os) (ks.mergeSort fun x y => decide (x ≤ y)).toArray
        have hro := fun (nn : Nat) (os : Array Obj) => ownsRow_sortedI (n := nn) (os := os) (ts := ks.mergeSort fun x y => decide (x ≤ y)) hl2 hbase hb h1 h2 h3
        rw [hs] at hro hgr
        have hfin : Hid (∀ nn os w', w' = grow (putRow (Value.int .i64) (Sort.ahead wo nn) g 0 (keysL l).toArray) os → ProdsP w l (.returned (.slice (some ⟨g, 0, none⟩) ks.length c)) w') := Lib.hid (fun nn os w' e => by
          subst e
          refine ⟨some ⟨g, 0, none⟩, c, by rw [hN.out, hkN], ?_, below_grown hB (hgr nn os) hB.size (fun k e => by cases e; exact hbase)⟩
          rw [hN.out, ← hkN]
          exact hro nn os)
        have hse := Lib.hid hs
        clear hrg how hG hlen hB hs hH hgr hro hc0 hl0 hkl hl2 hkN hb h1 h2 h3 h4 hN hga hr hi0 hz0 hz1 hz2 hn hgl
        go_frame
        go_wp2_with fail
        refine hsort.out.mono ?_
        rintro e w' ⟨rfl, nn, os, hw'⟩
        rw [hse.out] at hw'
        have hf2 := Lib.hid (hfin.out nn os w' hw')
        clear hw' hfin
        go_wp2_with fail
        go_ret
        exact hf2.out
    · intro x c3 kl y w1 cnt1 hkey hlx hy hat hrg1 hlt1 hg1 hs1 hen
      obtain ⟨x', ex, rfl, hwx⟩ := Maps.keyOf_int_inv Tryz.underlying3 hkey
      cases ex
      have hkx : x ∈ keysL l := (hasL_iff l x).1 (by rw [← tabD_has]; exact Maps.has_true_of_atKey hat)
      have hG1 := hG.step hlx hkx
      have how1 := how.kept hg1 (by
        cases hob : (Value.slice A ks.length c).ownBlock with
        | none => exact Or.inl rfl
        | some g => exact Or.inr (fun e => row_ne_iter how hrg (by rw [hob]; exact e.symm)))
      have hB1 : Below w.heap.size w w1 := below_grown hB hg1 hB.size (fun k e => by cases e; exact hrw)
      have hlen1 : (ks ++ [x]).length + cnt1 ≤ N := by rw [List.length_append, List.length_singleton]; omega
      have hrg2 := hrg1.alloc (.cells #[.int .i64 x] 3)
      have hB2 := hB1.alloc hB1.size (.cells #[.int .i64 x] 3)
      have how2 := how1.alloc (.cells #[.int .i64 x] 3)
      replace hG1 := Lib.hid hG1
      replace hB2 := Lib.hid hB2
      replace how2 := Lib.hid how2
      replace hrg2 := Lib.hid hrg2
      have hkl : ks.length ≤ 1000 := by omega
      have hcg : cnt1 ≤ gk - 1 := by omega
      clear hrg how hG hB hg1 hs1 hrg1 how1 hB1 hat hy hlx hkey
      go_frame
      go_wp2_with (with_reducible refine zAppend _ _ _ rfl ?_)
      refine Lib.hid ?_
      refine wpList_append_lies _ rfl _ _ 89 rfl w.heap.size 3 i0 _ 1 8 Tryz.underlying89 hi0 hz0 hz1 hz2 rfl (by omega) (.slice A ks.length c) ks.length (ks.map (Value.int .i64)) rfl how2.out _ 1 1 [.int .i64 x] rfl rfl (World.news_of_block (heap_alloc_new _ _)) (by simp [Value.oneCell']) (by omega) (by unfold maxLen; omega) (by omega) (by have := hB2.out.size; simpa using this) (w1.heap.size + 1) (by simp) ?_
      intro gg cap w6 hown6 hgrow6 hat6 hlt6
      have hb6 : Below w.heap.size w w6 := below_grown hB2.out hgrow6 (by have := hB2.out.size; simpa using this) (fun k hk => ownFar how2.out k hk)
      have hrg6 := hrg2.out.kept hgrow6 (fun e => by
        have h1 := ownFar how2.out mb e.symm
        omega) (row_ne_iter how2.out hrg2.out)
      have hfin : Hid (w6.ranges Tryz.prog 3 laR mb rb N (tabD l) (fun z => left z && !z.sameKey (.int .i64 x)) cnt1 ∧ w6.ownsRow w.heap.size 3 1 (.slice (some ⟨gg, 0, none⟩) (ks ++ [x]).length cap) (ks ++ [x]).length ((ks ++ [x]).map (Value.int .i64)) ∧ GoneK l (fun z => left z && !z.sameKey (.int .i64 x)) (ks ++ [x]) ∧ (ks ++ [x]).length + cnt1 ≤ N ∧ Below w.heap.size w w6) := Lib.hid ⟨hrg6, by rw [List.length_append, List.map_append]; exact hown6, hG1.out, hlen1, hb6⟩
      clear hown6 hgrow6 hat6 hlt6 hb6 hrg6 hrg2 how2 hB2 hG1 hlen1 hen
      go_wp2_with fail
      go_roundg (gk - 1)
      case measure => omega
      case rel => exact ⟨_, cnt1, ks ++ [x], some ⟨gg, 0, none⟩, cap, hcg, by rw [List.length_append]; rfl, hfin⟩
end Go.Proofs.YtgogackkeodciaaGreat.W
end
