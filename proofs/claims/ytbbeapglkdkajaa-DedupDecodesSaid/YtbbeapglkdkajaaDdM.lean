/- A table of last batches as a list; as a map. -/
import Derived.Test.YtbbeapglkdkajaaProg
import Derived.Test.YtbbeapglkdkajaaFlat
import Derived.Test.YtbbeapglkdkajaaWorld
import Derived.Lib.Hide
import Derived.KernelRfl
import Derived.Maps.OwnSet
import Derived.Maps.RangeWalk
namespace Go.Proofs.Ytbbeapglkdkajaa.W
open Go.RowKit
open Go.Maps (Keyed)
open Go.Proofs.Ytbbeapglkdkajaa.D
set_option linter.unusedVariables false
set_option linter.unusedSimpArgs false

/-- A producer's last batch. -/
structure La where
  p : Int
  s : Int
  n : Int
  o : Int
def okB (p s n o : Int) : Prop := (1 ≤ p ∧ p ≤ 1099511627776) ∧ (0 ≤ s ∧ s ≤ 1099511627776) ∧ (1 ≤ n ∧ n ≤ 8) ∧ (0 ≤ o ∧ o ≤ 1048576)
instance (p s n o : Int) : Decidable (okB p s n o) := by unfold okB; infer_instance
def La.ok (x : La) : Prop := okB x.p x.s x.n x.o
instance (x : La) : Decidable x.ok := by unfold La.ok; infer_instance
def getL (l : List La) (p : Int) : Option La := l.find? fun x => decide (x.p = p)
def hasL (l : List La) (p : Int) : Bool := (getL l p).isSome
def insL (x : La) : List La → List La
  | [] => [x]
  | y :: r => if x.p < y.p then x :: y :: r else y :: insL x r
/-- A batch is noted. -/
def noteL (l : List La) (x : La) : List La := insL x (l.filter fun y => !decide (y.p = x.p))
def riseL (l : List La) : Prop := l.Pairwise fun a b => a.p < b.p
structure TabOk (l : List La) : Prop where
  rise : riseL l
  ok : ∀ x ∈ l, x.ok
  few : l.length ≤ 16
theorem TabOk.nil : TabOk [] := ⟨List.Pairwise.nil, fun x hx => by simp at hx, by simp⟩
theorem getL_mem {l : List La} {p : Int} {x : La} (h : getL l p = some x) : x ∈ l ∧ x.p = p := by
  unfold getL at h
  exact ⟨List.mem_of_find?_eq_some h, by simpa using List.find?_some h⟩
theorem getL_none {l : List La} {p : Int} (h : getL l p = none) : ∀ x ∈ l, x.p ≠ p := fun x hx e => by
  unfold getL at h
  have := List.find?_eq_none.1 h x hx
  simp [e] at this
theorem insL_perm (x : La) : ∀ l, (insL x l).Perm (x :: l)
  | [] => List.Perm.refl _
  | y :: r => by
    unfold insL
    split
    · exact List.Perm.refl _
    · exact ((insL_perm x r).cons y).trans (List.Perm.swap x y r)
theorem insL_rise {x : La} : ∀ {l : List La}, riseL l → (∀ y ∈ l, y.p ≠ x.p) → riseL (insL x l)
  | [], _, _ => by unfold insL riseL; simp
  | y :: r, h, hne => by
    obtain ⟨h1, h2⟩ := List.pairwise_cons.1 h
    unfold insL
    split
    · rename_i hb
      exact List.pairwise_cons.2 ⟨fun q hq => by
        rcases List.mem_cons.1 hq with rfl | hq
        · exact hb
        · exact Int.lt_trans hb (h1 q hq), h⟩
    · rename_i hb
      refine List.pairwise_cons.2 ⟨fun q hq => ?_, insL_rise h2 (fun z hz => hne z (by simp [hz]))⟩
      rcases List.mem_cons.1 ((insL_perm x r).mem_iff.1 hq) with rfl | hq
      · have := hne y (by simp); omega
      · exact h1 q hq
theorem noteL_perm (l : List La) (x : La) : (noteL l x).Perm (x :: l.filter fun y => !decide (y.p = x.p)) := insL_perm _ _
theorem noteL_len (l : List La) (x : La) : (noteL l x).length ≤ l.length + 1 := by
  rw [(noteL_perm l x).length_eq, List.length_cons]
  have := List.length_filter_le (fun y => !decide (y.p = x.p)) l
  omega
theorem noteL_len_has {l : List La} {x y : La} (h : getL l x.p = some y) : (noteL l x).length ≤ l.length := by
  rw [(noteL_perm l x).length_eq, List.length_cons]
  obtain ⟨h1, h2⟩ := getL_mem h
  have : (l.filter fun y => !decide (y.p = x.p)).length < l.length := List.length_filter_lt_length_iff_exists.2 ⟨y, h1, by simp [h2]⟩
  omega
theorem TabOk.note {l : List La} {x : La} (h : TabOk l) (hx : x.ok) (hr : hasL l x.p = true ∨ l.length < 16) : TabOk (noteL l x) := by
  refine ⟨insL_rise (h.rise.filter _) (fun y hy => by have := (List.mem_filter.1 hy).2; simpa using this), fun y hy => ?_, ?_⟩
  · rcases List.mem_cons.1 ((noteL_perm l x).mem_iff.1 hy) with rfl | hy
    · exact hx
    · exact h.ok y (List.mem_filter.1 hy).1
  · rcases hr with hr | hr
    · unfold hasL at hr
      obtain ⟨y, hy⟩ := Option.isSome_iff_exists.1 hr
      exact Nat.le_trans (noteL_len_has hy) h.few
    · have := noteL_len l x; omega

/-! ### As a map -/
abbrev laV (s n o : Int) : Value := .agg #[.int .i64 s, .int .i64 n, .int .i64 o]
abbrev laD (s n o : Int) : DataW Unit := .agg [.lit (.int .i64 s), .lit (.int .i64 n), .lit (.int .i64 o)]
def laR : Value → Option (DataW Unit × List MemPlace)
  | .agg cs => match cs.toList with
    | [.int .i64 a, .int .i64 b, .int .i64 c] => some (laD a b c, [])
    | _ => none
  | _ => none
theorem laR_mk (a b c : Int) : laR (laV a b c) = some (laD a b c, []) := rfl
theorem laR_inv {v : Value} {z : DataW Unit × List MemPlace} (h : laR v = some z) : ∃ a b c, v = laV a b c ∧ z = (laD a b c, []) := by
  unfold laR at h
  split at h
  · rename_i cs
    split at h
    · rename_i a b c e
      obtain ⟨l⟩ := cs
      exact ⟨a, b, c, by rw [show l = _ from e], (Option.some.inj h).symm⟩
    · cases h
  · cases h
def entL (x : La) : Lit × DataW Unit := (.int .i64 x.p, laD x.s x.n x.o)
def tabD (l : List La) : DataW Unit := .map (l.map entL)
theorem sameKey_int (a b : Int) : (Lit.int .i64 a).sameKey (.int .i64 b) = decide (a = b) := by simp [Lit.sameKey]
theorem tabD_at (l : List La) (p : Int) (z : DataW Unit) : (tabD l).atKey (.int .i64 p) z = match getL l p with | some x => laD x.s x.n x.o | none => z := by
  unfold tabD getL DataW.atKey
  dsimp only
  rw [List.find?_map]
  have e : ((fun q : Lit × DataW Unit => q.1.sameKey (.int .i64 p)) ∘ entL) = fun x : La => decide (x.p = p) := by
    funext x
    exact sameKey_int x.p p
  rw [e]
  cases l.find? (fun x => decide (x.p = p)) <;> rfl
theorem tabD_has (l : List La) (p : Int) : Maps.has (tabD l) (.int .i64 p) = hasL l p := by
  unfold hasL getL tabD
  rw [Maps.has_eq, List.any_map, List.isSome_find?]
  congr 1
  funext x
  exact sameKey_int x.p p
theorem tabD_size (l : List La) : Maps.size (tabD l) = l.length := by unfold tabD; rw [Maps.size_eq, List.length_map]
theorem insert_map (x : La) : ∀ l : List La, DataW.insert (entL x) (l.map entL) = (insL x l).map entL
  | [] => rfl
  | y :: r => by
    rw [List.map_cons]
    unfold DataW.insert insL
    have e : (entL x).1.before (entL y).1 = decide (x.p < y.p) := rfl
    rw [e]
    by_cases h : x.p < y.p
    · rw [if_pos h, if_pos (by simpa using h)]; rfl
    · rw [if_neg h, if_neg (by simpa using h), insert_map x r]; rfl
theorem tabD_put (l : List La) (x : La) : (tabD l).put (.int .i64 x.p) (laD x.s x.n x.o) = tabD (noteL l x) := by
  unfold tabD DataW.put noteL
  dsimp only
  have e : (l.map entL).filter (fun p : Lit × DataW Unit => !p.1.sameKey (.int .i64 x.p)) = (l.filter fun y => !decide (y.p = x.p)).map entL := by
    rw [List.filter_map]
    congr 1
    apply List.filter_congr
    intro y _
    show (!(Lit.int .i64 y.p).sameKey (.int .i64 x.p)) = _
    rw [sameKey_int]
  rw [e, ← insert_map]
  rfl
theorem keyedI : Keyed Try.prog 3 := Maps.int_keyed Try.underlying3
theorem keyI {p : Int} (h : (Lit.int .i64 p).wf = true) : keyOf Try.prog 3 (.int .i64 p) = some (.int .i64 p) := by
  simp [keyOf, Try.underlying3, mapKey, h]
theorem zeroLast (w : World) : (zeroValue 80).run Try.prog w = .ok (laV 0 0 0) w := by kernel_rfl
/-- The number of entries is a bound. -/
theorem own_tight {P : Program} {k : TypeId} {R : Value → Option (DataW Unit × List MemPlace)} {b n : Nat} {D : DataW Unit} {w : World} (h : w.ownsMap P k R b n D) : w.ownsMap P k R b (Maps.size D) D := by
  obtain ⟨es, clock, hb, F, hs, rfl⟩ := h
  refine ⟨es, clock, hb, F, ?_, rfl⟩
  simp [Maps.size, length_sorted]

/-- A map that is a list of last batches: nil, or a block. -/
def MapIs (w : World) (m : Option Nat) (l : List La) : Prop := (m = none ∧ l = []) ∨ ∃ mb, m = some mb ∧ w.ownsMap Try.prog 3 laR mb l.length (tabD l)
section
variable {w w' : World} {m : Option Nat} {l : List La} {tb : Nat}
theorem MapIs.below (h : MapIs w m l) (hb : Below w.heap.size w w') : MapIs w' m l := by
  rcases h with h | ⟨mb, h1, h2⟩
  · exact .inl h
  · exact .inr ⟨mb, h1, h2.kept (row := none) ⟨hb.os, hb.tape, hb.output, hb.size, fun i hi _ => hb.block i hi⟩ (by simp)⟩
def getV (l : List La) (p : Int) : La := (getL l p).getD ⟨0, 0, 0, 0⟩
theorem MapIs.look (h : MapIs w m l) {p : Int} (hp : (Lit.int .i64 p).wf = true) :
    (Instr.lookup 74 (.map m) (.int .i64 p) false).run Try.prog w = .ok (laV (getV l p).s (getV l p).n (getV l p).o) w := by
  rcases h with ⟨rfl, rfl⟩ | ⟨mb, rfl, h2⟩
  · exact Maps.look_nil false keyedI Try.underlying74 (zeroLast w) (keyI hp)
  · obtain ⟨v, ps, hrun, hv⟩ := h2.lookup keyedI Try.underlying74 (zeroLast w) (laR_mk 0 0 0) (keyI hp)
    rw [tabD_at] at hv
    obtain ⟨a, b, c, rfl, hz⟩ := laR_inv hv
    rw [hrun]
    unfold getV
    cases hg : getL l p with
    | none => rw [hg] at hz; simp at hz; obtain ⟨⟨rfl, rfl, rfl⟩, _⟩ := hz; rfl
    | some x => rw [hg] at hz; simp at hz; obtain ⟨⟨rfl, rfl, rfl⟩, _⟩ := hz; rfl
theorem MapIs.look_ok (h : MapIs w m l) {p : Int} (hp : (Lit.int .i64 p).wf = true) :
    (Instr.lookup 74 (.map m) (.int .i64 p) true).run Try.prog w = .ok (.tuple #[laV (getV l p).s (getV l p).n (getV l p).o, .bool (hasL l p)]) w := by
  rcases h with ⟨rfl, rfl⟩ | ⟨mb, rfl, h2⟩
  · exact Maps.look_nil true keyedI Try.underlying74 (zeroLast w) (keyI hp)
  · obtain ⟨v, ps, hrun, hv⟩ := h2.look_ok keyedI Try.underlying74 (zeroLast w) (laR_mk 0 0 0) (keyI hp)
    rw [tabD_at] at hv
    rw [tabD_has] at hrun
    obtain ⟨a, b, c, rfl, hz⟩ := laR_inv hv
    rw [hrun]
    unfold getV
    cases hg : getL l p with
    | none => rw [hg] at hz; simp at hz; obtain ⟨⟨rfl, rfl, rfl⟩, _⟩ := hz; rfl
    | some x => rw [hg] at hz; simp at hz; obtain ⟨⟨rfl, rfl, rfl⟩, _⟩ := hz; rfl
theorem MapIs.len (h : MapIs w m l) (ty : TypeId) : (Builtin.len_ #[74] ty #[.map m]).run Try.prog w = .ok (.int .i64 (l.length : Int)) w := by
  rcases h with ⟨rfl, rfl⟩ | ⟨mb, rfl, h2⟩
  · exact Maps.len_nil Try.underlying74 ty
  · have := h2.len Try.underlying74 ty
    rwa [tabD_size] at this
/-- A table in memory, its blocks made since B. -/
structure TbAt (B : Nat) (w : World) (tb : Nat) (m : Option Nat) (l : List La) : Prop where
  box : Whole w tb 76 [.map m]
  map : MapIs w m l
  new : B ≤ tb
  newM : ∀ mb, m = some mb → B ≤ mb
def Tb (B : Nat) (w : World) (tb : Nat) (l : List La) : Prop := ∃ m, TbAt B w tb m l
/-- A table's blocks. -/
def ofT (tb : Nat) (m : Option Nat) (q : Nat) : Prop := q = tb ∨ m = some q
theorem TbAt.below {B : Nat} (h : TbAt B w tb m l) (hb : Below w.heap.size w w') : TbAt B w' tb m l := ⟨h.box.below hb h.box.lt, h.map.below hb, h.new, h.newM⟩
theorem Tb.below {B : Nat} (h : Tb B w tb l) (hb : Below w.heap.size w w') : Tb B w' tb l := by
  obtain ⟨m, h⟩ := h
  exact ⟨m, h.below hb⟩
theorem TbAt.old {B B' : Nat} (h : TbAt B w tb m l) (hB : B' ≤ B) : TbAt B' w tb m l := ⟨h.box, h.map, Nat.le_trans hB h.new, fun mb e => Nat.le_trans hB (h.newM mb e)⟩
/-- Cells of another type are no table's. -/
theorem TbAt.ne {B b : Nat} {t : TypeId} {cs : List Value} (h : TbAt B w tb m l) (hb : Whole w b t cs) (ht : t ≠ 76) : ¬ ofT tb m b := by
  rintro (rfl | e)
  · exact (hb.ne h.box ht) rfl
  · rcases h.map with ⟨e2, _⟩ | ⟨mb, e2, es, clock, hm, _⟩
    · rw [e] at e2; cases e2
    · rw [e] at e2
      cases e2
      unfold Whole at hb
      rw [hb] at hm
      cases hm
end
end Go.Proofs.Ytbbeapglkdkajaa.W
