/- Layer 23: a catalog in memory: its cells, its map by places. -/
import Derived.Test.YtgogackkeodciaaGreatCgM
import Derived.Test.YtgogackkeodciaaGreatTpH
import Derived.Test.YtgogackkeodciaaGreatQuietB
import Derived.Maps.OwnSet
import Derived.Maps.RangeWalk
import Derived.DeepKeys4
namespace Go.Proofs.YtgogackkeodciaaGreat.W
open Go.RowKit Go.Sort
open Go.Maps (Keyed)
open Go.Proofs.YtgogackkeodciaaGreat.M Go.Proofs.YtgogackkeodciaaGreat.D Go.Proofs.YtgogackkeodciaaGreat.Z
set_option linter.unusedVariables false
set_option linter.unusedSimpArgs false

theorem laidC : laidOutB Tryz.prog = true := by kernel_rfl
theorem plRow : (33 : TypeId) < Tryz.prog.types.size := of_decide_eq_true (by kernel_rfl)
theorem plLaw : Keyed Tryz.prog 33 := Keyed.of_law (deep_law_laid laidC (m := 3) (by omega) plRow (by kernel_rfl) (by kernel_rfl))
abbrev plV (nm : ByteArray) (p : Int) : Value := .agg #[.string nm, .int .i64 p]
def plK (nm : ByteArray) (p : Int) : Lit := .string (keyBytes [.string nm.data.toList, .int .i64 p])
theorem plLits (t : ByteArray) (p : Int) (h0 : t.size ≤ maxLen) (h1 : (Lit.int .i64 p).wf = true) (d : Nat) : Tryz.prog.keyLits (d + 2) 33 [.string t, .int .i64 p] = some [.string t.data.toList, .int .i64 p] := by
  unfold Program.keyLits
  rw [Tryz.underlying33]
  simp [cellsPl, cellsRi, cellsRs, litRs t h0 d, litRi p h1 d]
theorem plSize (t : ByteArray) (p : Int) (n : Nat) (hn : 0 < n) (h0 : t.size ≤ maxLen) (h1 : (Lit.int .i64 p).wf = true) : Tryz.prog.keyLits (n + 1) 33 [.string t, .int .i64 p] = some [.string t.data.toList, .int .i64 p] := by
  obtain ⟨d, rfl⟩ : ∃ d, n = d + 1 := ⟨n - 1, by omega⟩
  exact plLits t p h0 h1 d
theorem plK_of {nm : ByteArray} {p : Int} (h0 : nm.size ≤ maxLen) (h1 : (Lit.int .i64 p).wf = true) : keyOf Tryz.prog 33 (plV nm p) = some (plK nm p) := by
  unfold keyOf plK
  simp [Tryz.underlying33]
  refine ⟨⟨by kernel_rfl, ?_⟩, [.string nm.data.toList, .int .i64 p], ?_, rfl⟩
  · simp [Value.formed, Tryz.underlying33, cellsPl]
  · exact plSize nm p _ (Nat.lt_of_le_of_lt (Nat.zero_le _) plRow) h0 h1
theorem plK_inj {a b : ByteArray} {p q : Int} (h0 : a.size ≤ maxLen) (h1 : (Lit.int .i64 p).wf = true) (h2 : b.size ≤ maxLen) (h3 : (Lit.int .i64 q).wf = true) (h : plK a p = plK b q) : a = b ∧ p = q := by
  have e1 := plK_of h0 h1
  rw [h] at e1
  have e2 := plLaw.inj e1 (plK_of h2 h3)
  simpa [plV] using e2
theorem plK_key (a : ByteArray) (p : Int) : WideAt.IsKeyLit (plK a p) := trivial

abbrev mtV (m : Mt) : Value := .agg #[.int .i64 m.gen, .int .i64 m.seq, .int .i64 m.start, .int .i64 m.next, .string m.tab]
abbrev mtD (m : Mt) : DataW Unit := .agg [.lit (.int .i64 m.gen), .lit (.int .i64 m.seq), .lit (.int .i64 m.start), .lit (.int .i64 m.next), .lit (.string m.tab.data.toList)]
def mtR : Value → Option (DataW Unit × List MemPlace)
  | .agg cs => match cs.toList with
    | [.int .i64 a, .int .i64 b, .int .i64 c, .int .i64 d, .string t] => some (mtD ⟨a, b, c, d, t⟩, [])
    | _ => none
  | _ => none
theorem mtR_mk (m : Mt) : mtR (mtV m) = some (mtD m, []) := rfl
theorem mtR_inv {v : Value} {z : DataW Unit × List MemPlace} (h : mtR v = some z) : ∃ m, v = mtV m ∧ z = (mtD m, []) := by
  unfold mtR at h
  split at h
  · rename_i cs
    split at h
    · rename_i a b c d t e
      obtain ⟨l⟩ := cs
      exact ⟨⟨a, b, c, d, t⟩, by rw [show l = _ from e], (Option.some.inj h).symm⟩
    · cases h
  · cases h
theorem mtD_inj {m m' : Mt} (h : mtD m = mtD m') : m = m' := by
  obtain ⟨a, b, c, d, t⟩ := m
  obtain ⟨a', b', c', d', t'⟩ := m'
  simp only [mtD, DataW.agg.injEq, List.cons.injEq, DataW.lit.injEq, Lit.int.injEq, Lit.string.injEq, true_and, and_true] at h
  obtain ⟨rfl, rfl, rfl, rfl, h⟩ := h
  rw [show t = t' from nk_inj h]
abbrev zMt : Mt := ⟨0, 0, 0, 0, ⟨#[]⟩⟩
theorem zeroMt (w : World) : (zeroValue 35).run Tryz.prog w = .ok (mtV zMt) w := by kernel_rfl

/-- What a map by places tells. -/
structure MpF (F : ByteArray → Int → Option Mt) (c : Nat) (D : DataW Unit) : Prop where
  tidy : Maps.Tidy D
  size : Maps.size D ≤ c
  has : ∀ nm p, nm.size ≤ maxLen → (Lit.int .i64 p).wf = true → Maps.has D (plK nm p) = (F nm p).isSome
  at_ : ∀ nm p m, nm.size ≤ maxLen → (Lit.int .i64 p).wf = true → F nm p = some m → ∀ z, D.atKey (plK nm p) z = mtD m
def putF (F : ByteArray → Int → Option Mt) (nm : ByteArray) (p : Int) (m : Mt) : ByteArray → Int → Option Mt := fun a q => if a = nm ∧ q = p then some m else F a q
def dropP (F : ByteArray → Int → Option Mt) (nm : ByteArray) (p : Int) : ByteArray → Int → Option Mt := fun a q => if a = nm ∧ q = p then none else F a q
theorem MpF.nil : MpF (fun _ _ => none) 0 (.map []) := ⟨Maps.tidy_empty, by simp [Maps.size], fun _ _ _ _ => rfl, fun _ _ _ _ _ e => by cases e⟩
theorem MpF.up {F : ByteArray → Int → Option Mt} {c c' : Nat} {D : DataW Unit} (h : MpF F c D) (hc : c ≤ c') : MpF F c' D := ⟨h.tidy, Nat.le_trans h.size hc, h.has, h.at_⟩
theorem MpF.put {F : ByteArray → Int → Option Mt} {c : Nat} {D : DataW Unit} (h : MpF F c D) {nm : ByteArray} {p : Int} (h0 : nm.size ≤ maxLen) (h1 : (Lit.int .i64 p).wf = true) (m : Mt) : MpF (putF F nm p m) (c + 1) (D.put (plK nm p) (mtD m)) := by
  refine ⟨h.tidy.put (plK_key nm p) _, ?_, fun a q ha hq => ?_, fun a q x ha hq hx z => ?_⟩
  · rw [Maps.size_put h.tidy]
    have := h.size
    split <;> omega
  · unfold putF
    by_cases e : a = nm ∧ q = p
    · obtain ⟨rfl, rfl⟩ := e
      rw [if_pos ⟨rfl, rfl⟩, Maps.has_put_same h.tidy.isMap (plK_key _ _)]; rfl
    · rw [if_neg e, Maps.has_put_other (fun e2 => e (plK_inj ha hq h0 h1 e2)), h.has a q ha hq]
  · unfold putF at hx
    by_cases e : a = nm ∧ q = p
    · obtain ⟨rfl, rfl⟩ := e
      rw [if_pos ⟨rfl, rfl⟩] at hx
      cases hx
      exact Maps.atKey_put_same h.tidy.isMap (plK_key _ _) _ _
    · rw [if_neg e] at hx
      rw [Maps.atKey_put_other (fun e2 => e (plK_inj ha hq h0 h1 e2))]
      exact h.at_ a q x ha hq hx z
theorem MpF.drop {F : ByteArray → Int → Option Mt} {c : Nat} {D : DataW Unit} (h : MpF F c D) {nm : ByteArray} {p : Int} (h0 : nm.size ≤ maxLen) (h1 : (Lit.int .i64 p).wf = true) (ht : Maps.Tidy (D.del (plK nm p))) (hs : Maps.size (D.del (plK nm p)) ≤ c) : MpF (dropP F nm p) c (D.del (plK nm p)) := by
  refine ⟨ht, hs, fun a q ha hq => ?_, fun a q x ha hq hx z => ?_⟩
  · unfold dropP
    by_cases e : a = nm ∧ q = p
    · obtain ⟨rfl, rfl⟩ := e
      rw [if_pos ⟨rfl, rfl⟩, Maps.has_del_same]; rfl
    · rw [if_neg e, Maps.has_del_other (fun e2 => e (plK_inj ha hq h0 h1 e2)), h.has a q ha hq]
  · unfold dropP at hx
    by_cases e : a = nm ∧ q = p
    · obtain ⟨rfl, rfl⟩ := e
      rw [if_pos ⟨rfl, rfl⟩] at hx
      cases hx
    · rw [if_neg e] at hx
      rw [Maps.atKey_del_other (fun e2 => e (plK_inj ha hq h0 h1 e2))]
      exact h.at_ a q x ha hq hx z
/-- The map in memory: nil, or a block. -/
def MpAt (w : World) (m : Option Nat) (F : ByteArray → Int → Option Mt) (c : Nat) : Prop :=
  (m = none ∧ ∀ a q, F a q = none) ∨ ∃ mb D, m = some mb ∧ w.ownsMap Tryz.prog 33 mtR mb c D ∧ MpF F c D
section
variable {w w' : World} {m : Option Nat} {F : ByteArray → Int → Option Mt} {c cb : Nat}
theorem ownsMap_kept {own : Nat → Prop} {mb n : Nat} {D : DataW Unit} {k : TypeId} {R : Value → Option (DataW Unit × List MemPlace)} (h : w.ownsMap Tryz.prog k R mb n D) (hk : Kept own w w') (ho : ¬ own mb) : w'.ownsMap Tryz.prog k R mb n D := by
  obtain ⟨es, clock, hb, F, hs, hD⟩ := h
  exact ⟨es, clock, (hk.block mb (Array.getElem?_eq_some_iff.1 hb).1 ho).trans hb, F, hs, hD⟩
theorem MpAt.kept {own : Nat → Prop} (h : MpAt w m F c) (hk : Kept own w w') (ho : ∀ mb, m = some mb → ¬ own mb) : MpAt w' m F c := by
  rcases h with h | ⟨mb, D, h1, h2, h3⟩
  · exact .inl h
  · exact .inr ⟨mb, D, h1, ownsMap_kept h2 hk (ho mb h1), h3⟩
theorem MpAt.below (h : MpAt w m F c) (hb : Below w.heap.size w w') : MpAt w' m F c := h.kept (Kept.of_below (own := fun _ => False) hb) (fun _ _ e => e)
theorem MpAt.up {c' : Nat} (h : MpAt w m F c) (hc : c ≤ c') : MpAt w m F c' := by
  rcases h with h | ⟨mb, D, h1, h2, h3⟩
  · exact .inl h
  · exact .inr ⟨mb, D, h1, h2.mono hc, h3.up hc⟩
theorem MpAt.lt (h : MpAt w m F c) {mb : Nat} (e : m = some mb) : mb < w.heap.size := by
  rcases h with h | ⟨mb', D, h1, h2, h3⟩
  · rw [h.1] at e; cases e
  · rw [h1] at e; cases e; exact h2.lt
/-- Cells are no map. -/
theorem MpAt.ne (h : MpAt w m F c) {b : Nat} {t : TypeId} {cs : List Value} (hb : Whole w b t cs) : m ≠ some b := fun e => by
  rcases h with h | ⟨mb, D, h1, ⟨es, clock, hm, _⟩, h3⟩
  · rw [h.1] at e; cases e
  · rw [h1] at e; cases e
    unfold Whole at hb
    rw [hb] at hm
    cases hm
theorem MpAt.look_ok (h : MpAt w m F c) {nm : ByteArray} {p : Int} (h0 : nm.size ≤ maxLen) (h1 : (Lit.int .i64 p).wf = true) :
    (Instr.lookup 65 (.map m) (plV nm p) true).run Tryz.prog w = .ok (.tuple #[mtV ((F nm p).getD zMt), .bool (F nm p).isSome]) w := by
  rcases h with ⟨rfl, hF⟩ | ⟨mb, D, rfl, h2, h3⟩
  · rw [hF]
    exact Maps.look_nil true plLaw Tryz.underlying65 (zeroMt w) (plK_of h0 h1)
  · obtain ⟨v, ps, hrun, hv⟩ := h2.look_ok plLaw Tryz.underlying65 (zeroMt w) (mtR_mk zMt) (plK_of h0 h1)
    obtain ⟨x, rfl, hz⟩ := mtR_inv hv
    rw [h3.has nm p h0 h1] at hrun
    rw [hrun]
    cases hf : F nm p with
    | none =>
      have := h3.has nm p h0 h1
      rw [hf] at this
      rw [Maps.atKey_of_not_has this] at hz
      simp only [Prod.mk.injEq] at hz
      rw [← mtD_inj hz.1]; rfl
    | some y =>
      rw [h3.at_ nm p y h0 h1 hf] at hz
      simp only [Prod.mk.injEq] at hz
      rw [← mtD_inj hz.1]; rfl
theorem MpAt.look (h : MpAt w m F c) {nm : ByteArray} {p : Int} (h0 : nm.size ≤ maxLen) (h1 : (Lit.int .i64 p).wf = true) :
    (Instr.lookup 65 (.map m) (plV nm p) false).run Tryz.prog w = .ok (mtV ((F nm p).getD zMt)) w := by
  rcases h with ⟨rfl, hF⟩ | ⟨mb, D, rfl, h2, h3⟩
  · rw [hF]
    exact Maps.look_nil false plLaw Tryz.underlying65 (zeroMt w) (plK_of h0 h1)
  · obtain ⟨v, ps, hrun, hv⟩ := h2.lookup plLaw Tryz.underlying65 (zeroMt w) (mtR_mk zMt) (plK_of h0 h1)
    obtain ⟨x, rfl, hz⟩ := mtR_inv hv
    rw [hrun]
    cases hf : F nm p with
    | none =>
      have := h3.has nm p h0 h1
      rw [hf] at this
      rw [Maps.atKey_of_not_has this] at hz
      simp only [Prod.mk.injEq] at hz
      rw [← mtD_inj hz.1]; rfl
    | some y =>
      rw [h3.at_ nm p y h0 h1 hf] at hz
      simp only [Prod.mk.injEq] at hz
      rw [← mtD_inj hz.1]; rfl
end

/-! ### The catalog's cells -/
def zSp : Sp := ⟨⟨#[]⟩, 0, 0, 0, false⟩
def spAt (T : List To) (i : Nat) : Sp := match slotT T (i : Int) with
  | some x => x.sp
  | none => zSp
def ctL (S : List Sp) (m : Option Nat) (n : Int) : List Value := (S.map spL).flatten ++ [.map m, .int .i64 n]
theorem spEven (S : List Sp) : Even 5 (S.map spL) := fun r hr => by obtain ⟨x, _, rfl⟩ := List.mem_map.1 hr; rfl
theorem ctL_len {S : List Sp} (hS : S.length = 8) (m : Option Nat) (n : Int) : (ctL S m n).length = 42 := by
  unfold ctL; rw [List.length_append, flat_len (spEven S), List.length_map, hS]; rfl
theorem ctL_sp {S : List Sp} (hS : S.length = 8) (m : Option Nat) (n : Int) {i j : Nat} (hi : i < 8) (hj : j < 5) {x : Sp} (hx : S[i]? = some x) : (ctL S m n)[i * 5 + j]? = (spL x)[j]? := by
  unfold ctL
  rw [List.getElem?_append_left (by rw [flat_len (spEven S), List.length_map, hS]; omega), flat_at (spEven S) i j hj, List.getElem?_map, hx]; rfl
theorem ctL_map {S : List Sp} (hS : S.length = 8) (m : Option Nat) (n : Int) : (ctL S m n)[40]? = some (.map m) := by
  unfold ctL
  rw [List.getElem?_append_right (by rw [flat_len (spEven S), List.length_map, hS]; omega), flat_len (spEven S), List.length_map, hS]; rfl
theorem ctL_cnt {S : List Sp} (hS : S.length = 8) (m : Option Nat) (n : Int) : (ctL S m n)[41]? = some (.int .i64 n) := by
  unfold ctL
  rw [List.getElem?_append_right (by rw [flat_len (spEven S), List.length_map, hS]; omega), flat_len (spEven S), List.length_map, hS]; rfl
theorem ctL_setSp {S : List Sp} (hS : S.length = 8) (m : Option Nat) (n : Int) {i : Nat} (hi : i < 8) (x : Sp) : splice (ctL S m n) (i * 5) (spL x) = ctL (S.set i x) m n := by
  have hl : (S.map spL).flatten.length = 40 := by rw [flat_len (spEven S), List.length_map, hS]
  unfold ctL
  rw [List.map_set, ← splice_row (spEven S) i (by rw [List.length_map]; omega) (show (spL x).length = 5 from rfl)]
  unfold splice
  rw [List.take_append_of_le_length (by rw [hl]; omega), List.drop_append_of_le_length (by rw [hl]; simp; omega)]
  simp only [List.append_assoc]
theorem ctL_setMap {S : List Sp} (hS : S.length = 8) (m m' : Option Nat) (n : Int) : splice (ctL S m n) 40 [.map m'] = ctL S m' n := by
  have hl : (S.map spL).flatten.length = 40 := by rw [flat_len (spEven S), List.length_map, hS]
  unfold ctL splice
  rw [List.take_left' hl, List.drop_append, hl, List.drop_eq_nil_of_le (by rw [hl]; simp)]
  simp
theorem ctL_setCnt {S : List Sp} (hS : S.length = 8) (m : Option Nat) (n n' : Int) : splice (ctL S m n) 41 [.int .i64 n'] = ctL S m n' := by
  have hl : (S.map spL).flatten.length = 40 := by rw [flat_len (spEven S), List.length_map, hS]
  unfold ctL splice
  rw [List.take_append, hl, List.take_of_length_le (by rw [hl]; omega), List.drop_append, hl, List.drop_eq_nil_of_le (by rw [hl]; simp)]
  simp
/-- A catalog's cells, beside its map; its blocks were made since B. -/
structure CtAt (B : Nat) (w : World) (cb : Nat) (m : Option Nat) (S : List Sp) (F : ByteArray → Int → Option Mt) (n : Int) (c : Nat) : Prop where
  box : Whole w cb 67 (ctL S m n)
  eight : S.length = 8
  map : MpAt w m F c
  new : B ≤ cb
  newM : ∀ mb, m = some mb → B ≤ mb
def ofC (cb : Nat) (m : Option Nat) (q : Nat) : Prop := q = cb ∨ m = some q
section
variable {B : Nat} {w w' : World} {cb : Nat} {m : Option Nat} {S : List Sp} {F : ByteArray → Int → Option Mt} {n : Int} {c : Nat}
theorem CtAt.below (h : CtAt B w cb m S F n c) (hb : Below w.heap.size w w') : CtAt B w' cb m S F n c := ⟨h.box.below hb h.box.lt, h.eight, h.map.below hb, h.new, h.newM⟩
theorem CtAt.kept {own : Nat → Prop} (h : CtAt B w cb m S F n c) (hk : Kept own w w') (ho : ∀ q, ofC cb m q → ¬ own q) : CtAt B w' cb m S F n c :=
  ⟨h.box.of_kept hk (ho cb (.inl rfl)), h.eight, h.map.kept hk (fun mb e => ho mb (.inr e)), h.new, h.newM⟩
theorem CtAt.ne (h : CtAt B w cb m S F n c) {b : Nat} {t : TypeId} {cs : List Value} (hb : Whole w b t cs) (ht : t ≠ 67) : ¬ ofC cb m b := by
  rintro (rfl | e)
  · exact (hb.ne h.box ht) rfl
  · exact h.map.ne hb e
theorem CtAt.lt (h : CtAt B w cb m S F n c) {q : Nat} (hq : ofC cb m q) : q < w.heap.size := by
  rcases hq with rfl | e
  · exact h.box.lt
  · exact h.map.lt e
theorem CtAt.old {q : Nat} (h : CtAt B w cb m S F n c) (hq : ofC cb m q) : B ≤ q := by
  rcases hq with rfl | e
  · exact h.new
  · exact h.newM q e
end
/-- A catalog that has these topics and this count. -/
structure CaAt (B : Nat) (w : World) (cb : Nat) (m : Option Nat) (T : List To) (n : Int) (c : Nat) : Prop where
  ok : CatOk T n
  at_ : CtAt B w cb m ((List.range 8).map (spAt T)) (metaT T) n c
theorem spAt_range (T : List To) {i : Nat} (hi : i < 8) : ((List.range 8).map (spAt T))[i]? = some (spAt T i) := by simp [hi]
theorem CaAt.below {B : Nat} {w w' : World} {cb : Nat} {m : Option Nat} {T : List To} {n : Int} {c : Nat} (h : CaAt B w cb m T n c) (hb : Below w.heap.size w w') : CaAt B w' cb m T n c := ⟨h.ok, h.at_.below hb⟩
end Go.Proofs.YtgogackkeodciaaGreat.W
