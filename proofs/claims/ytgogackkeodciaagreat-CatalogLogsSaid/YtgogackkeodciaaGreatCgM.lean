/- Layer 23: a catalog as a list of topics by rising names; nothing of the program. -/
import Derived.Test.YtgogackkeodciaaGreatTpD
import Derived.Test.YtgogackkeodciaaGreatDdV
import Derived.Test.YtgogackkeodciaaGreatCpM
namespace Go.Proofs.YtgogackkeodciaaGreat.W
open Go.RowKit Go.Sort
open Go.Proofs.YtgogackkeodciaaGreat.M Go.Proofs.YtgogackkeodciaaGreat.D Go.Proofs.YtgogackkeodciaaGreat.Z
set_option linter.unusedVariables false
set_option linter.unusedSimpArgs false

/-- A partition's meta. -/
structure Mt where
  gen : Int
  seq : Int
  start : Int
  next : Int
  tab : ByteArray
/-- A topic: its slot, its partitions' metas. -/
structure To where
  sp : Sp
  slot : Int
  ms : List Mt
def tabB (s : ByteArray) : Bool := match decT s.data.toList with
  | some (_, p) => decide (p = s.size)
  | none => false
/-- May a meta be? -/
def Mt.ok (m : Mt) : Prop := (1 ≤ m.gen ∧ m.gen ≤ 4294967295) ∧ (0 ≤ m.seq ∧ m.seq ≤ 1099511627776) ∧ (0 ≤ m.start ∧ m.start ≤ m.next) ∧ m.next ≤ 1048577 ∧ tabB m.tab = true
instance instDecMtOk (m : Mt) : Decidable m.ok := by unfold Mt.ok; infer_instance
def Mt.may (m : Mt) : Bool := decide m.ok
def nk (s : ByteArray) : List UInt8 := s.data.toList
theorem nk_inj {a b : ByteArray} (h : nk a = nk b) : a = b := ByteArray.ext (by simpa [nk] using h)
def To.ok (n : Int) (x : To) : Prop := x.sp.may = true ∧ (0 ≤ x.slot ∧ x.slot ≤ 7) ∧ (x.ms.length : Int) = x.sp.parts ∧ ∀ m ∈ x.ms, m.ok ∧ m.gen ≤ n
def findT (T : List To) (nm : ByteArray) : Option To := T.find? fun x => decide (x.sp.nm = nm)
def hasT (T : List To) (nm : ByteArray) : Bool := (findT T nm).isSome
def slotT (T : List To) (i : Int) : Option To := T.find? fun x => decide (x.slot = i)
def freeS (T : List To) (i : Int) : Bool := (slotT T i).isNone
def metaT (T : List To) (nm : ByteArray) (p : Int) : Option Mt := match findT T nm with
  | some x => if 0 ≤ p then x.ms[p.toNat]? else none
  | none => none
def insT (x : To) : List To → List To
  | [] => [x]
  | y :: r => if nk x.sp.nm < nk y.sp.nm then x :: y :: r else y :: insT x r
def delT (T : List To) (nm : ByteArray) : List To := T.filter fun x => !decide (x.sp.nm = nm)
def putM (x : To) (k : Nat) (m : Mt) : To := ⟨x.sp, x.slot, x.ms.set k m⟩
def setT (T : List To) (nm : ByteArray) (k : Nat) (m : Mt) : List To := match findT T nm with
  | some x => insT (putM x k m) (delT T nm)
  | none => T
/-- Topics by rising names, slots that are unlike, the greatest gen. -/
structure CatOk (T : List To) (n : Int) : Prop where
  rise : T.Pairwise fun a b => nk a.sp.nm < nk b.sp.nm
  slots : T.Pairwise fun a b => a.slot ≠ b.slot
  ok : ∀ x ∈ T, x.ok n
  n0 : 0 ≤ n
  n1 : n ≤ 4294967295
theorem CatOk.nil : CatOk [] 0 := ⟨List.Pairwise.nil, List.Pairwise.nil, fun x hx => by simp at hx, by omega, by omega⟩
theorem find_iff {α β : Type} [DecidableEq β] {f : α → β} {b : β} {x : α} : ∀ {l : List α}, l.Pairwise (fun a c => f a ≠ f c) → (l.find? (fun y => decide (f y = b)) = some x ↔ x ∈ l ∧ f x = b) := by
  intro l h
  refine ⟨fun e => ⟨List.mem_of_find?_eq_some e, by simpa using List.find?_some e⟩, fun hmx => ?_⟩
  induction l with
  | nil => simp at hmx
  | cons y r ih =>
    obtain ⟨hm, hx⟩ := hmx
    obtain ⟨h1, h2⟩ := List.pairwise_cons.1 h
    rw [List.find?_cons]
    rcases List.mem_cons.1 hm with rfl | hm
    · simp [hx]
    · have hne : f y ≠ b := fun e => h1 x hm (by rw [e, hx])
      rw [decide_eq_false hne]
      exact ih h2 ⟨hm, hx⟩
theorem CatOk.names {T : List To} {n : Int} (h : CatOk T n) : T.Pairwise fun a b => a.sp.nm ≠ b.sp.nm :=
  h.rise.imp fun {a b} hl e => by rw [e] at hl; exact List.lt_irrefl _ hl
theorem CatOk.find {T : List To} {n : Int} (h : CatOk T n) {nm : ByteArray} {x : To} : findT T nm = some x ↔ x ∈ T ∧ x.sp.nm = nm := find_iff (f := fun y : To => y.sp.nm) h.names
theorem CatOk.slot {T : List To} {n : Int} (h : CatOk T n) {i : Int} {x : To} : slotT T i = some x ↔ x ∈ T ∧ x.slot = i := find_iff (f := fun y : To => y.slot) h.slots
theorem find_none {T : List To} {nm : ByteArray} : findT T nm = none ↔ ∀ x ∈ T, x.sp.nm ≠ nm := by
  unfold findT; rw [List.find?_eq_none]; simp
theorem slot_none {T : List To} {i : Int} : slotT T i = none ↔ ∀ x ∈ T, x.slot ≠ i := by
  unfold slotT; rw [List.find?_eq_none]; simp
theorem insT_perm (x : To) : ∀ l, (insT x l).Perm (x :: l)
  | [] => List.Perm.refl _
  | y :: r => by
    unfold insT
    split
    · exact List.Perm.refl _
    · exact ((insT_perm x r).cons y).trans (List.Perm.swap x y r)
theorem insT_rise {x : To} : ∀ {l : List To}, (l.Pairwise fun a b => nk a.sp.nm < nk b.sp.nm) → (∀ y ∈ l, y.sp.nm ≠ x.sp.nm) → (insT x l).Pairwise fun a b => nk a.sp.nm < nk b.sp.nm
  | [], _, _ => by unfold insT; simp
  | y :: r, h, hne => by
    obtain ⟨h1, h2⟩ := List.pairwise_cons.1 h
    unfold insT
    split
    · rename_i hb
      exact List.pairwise_cons.2 ⟨fun q hq => by
        rcases List.mem_cons.1 hq with rfl | hq
        · exact hb
        · exact List.lt_trans hb (h1 q hq), h⟩
    · rename_i hb
      refine List.pairwise_cons.2 ⟨fun q hq => ?_, insT_rise h2 (fun z hz => hne z (by simp [hz]))⟩
      rcases List.mem_cons.1 ((insT_perm x r).mem_iff.1 hq) with rfl | hq
      · exact kb_tri hb (fun e => hne y (by simp) (nk_inj e).symm)
      · exact h1 q hq
theorem mem_ins {x y : To} {T : List To} : y ∈ insT x T ↔ y = x ∨ y ∈ T := by rw [(insT_perm x T).mem_iff, List.mem_cons]
theorem mem_del {y : To} {T : List To} {nm : ByteArray} : y ∈ delT T nm ↔ y ∈ T ∧ y.sp.nm ≠ nm := by unfold delT; rw [List.mem_filter]; simp
theorem To.ok.up {n n' : Int} {x : To} (h : x.ok n) (hn : n ≤ n') : x.ok n' := ⟨h.1, h.2.1, h.2.2.1, fun m hm => ⟨(h.2.2.2 m hm).1, Int.le_trans (h.2.2.2 m hm).2 hn⟩⟩
theorem CatOk.ins {T : List To} {n n' : Int} {x : To} (h : CatOk T n) (hx : x.ok n') (hn : n ≤ n') (h1 : n' ≤ 4294967295) (hf : ∀ y ∈ T, y.sp.nm ≠ x.sp.nm) (hs : ∀ y ∈ T, y.slot ≠ x.slot) : CatOk (insT x T) n' := by
  refine ⟨insT_rise h.rise hf, ?_, fun y hy => ?_, by have := h.n0; omega, h1⟩
  · exact ((insT_perm x T).pairwise_iff (fun {_ _} e => Ne.symm e)).2 (List.pairwise_cons.2 ⟨fun y hy => (hs y hy).symm, h.slots⟩)
  · rcases mem_ins.1 hy with rfl | hy
    · exact hx
    · exact (h.ok y hy).up hn
theorem CatOk.del {T : List To} {n : Int} (h : CatOk T n) (nm : ByteArray) : CatOk (delT T nm) n :=
  ⟨h.rise.filter _, h.slots.filter _, fun y hy => h.ok y (mem_del.1 hy).1, h.n0, h.n1⟩
theorem opt_ext {α : Type} {a b : Option α} (h : ∀ x, a = some x ↔ b = some x) : a = b := by
  cases a with
  | none => cases b with
    | none => rfl
    | some y => exact absurd ((h y).2 rfl) (by simp)
  | some x => exact ((h x).1 rfl).symm
theorem findT_ins {T : List To} {n : Int} {x : To} (h : CatOk (insT x T) n) (nm : ByteArray) (hf : ∀ y ∈ T, y.sp.nm ≠ x.sp.nm) : findT (insT x T) nm = if x.sp.nm = nm then some x else findT T nm := by
  have hp : T.Pairwise fun a b => a.sp.nm ≠ b.sp.nm := (List.pairwise_cons.1 (((insT_perm x T).pairwise_iff (fun {_ _} e => Ne.symm e)).1 h.names)).2
  refine opt_ext fun y => ?_
  rw [h.find, mem_ins]
  split
  · rename_i e
    constructor
    · rintro ⟨rfl | hy, e2⟩
      · rfl
      · exact absurd (e2.trans e.symm) (hf y hy)
    · intro e2; cases e2; exact ⟨.inl rfl, e⟩
  · rename_i e
    rw [show findT T nm = some y ↔ y ∈ T ∧ y.sp.nm = nm from find_iff (f := fun y : To => y.sp.nm) hp]
    constructor
    · rintro ⟨rfl | hy, e2⟩
      · exact absurd e2 e
      · exact ⟨hy, e2⟩
    · rintro ⟨hy, e2⟩; exact ⟨.inr hy, e2⟩
theorem slotT_ins {T : List To} {n : Int} {x : To} (h : CatOk (insT x T) n) (i : Int) (hs : ∀ y ∈ T, y.slot ≠ x.slot) : slotT (insT x T) i = if x.slot = i then some x else slotT T i := by
  have hp : T.Pairwise fun a b => a.slot ≠ b.slot := (List.pairwise_cons.1 (((insT_perm x T).pairwise_iff (fun {_ _} e => Ne.symm e)).1 h.slots)).2
  refine opt_ext fun y => ?_
  rw [h.slot, mem_ins]
  split
  · rename_i e
    constructor
    · rintro ⟨rfl | hy, e2⟩
      · rfl
      · exact absurd (e2.trans e.symm) (hs y hy)
    · intro e2; cases e2; exact ⟨.inl rfl, e⟩
  · rename_i e
    rw [show slotT T i = some y ↔ y ∈ T ∧ y.slot = i from find_iff (f := fun y : To => y.slot) hp]
    constructor
    · rintro ⟨rfl | hy, e2⟩
      · exact absurd e2 e
      · exact ⟨hy, e2⟩
    · rintro ⟨hy, e2⟩; exact ⟨.inr hy, e2⟩
theorem findT_del {T : List To} {n : Int} (h : CatOk T n) (nm nm' : ByteArray) : findT (delT T nm) nm' = if nm' = nm then none else findT T nm' := by
  refine opt_ext fun y => ?_
  rw [(h.del nm).find, mem_del]
  split
  · rename_i e
    constructor
    · rintro ⟨⟨_, e1⟩, e2⟩; exact absurd (e2.trans e) e1
    · intro e2; cases e2
  · rename_i e
    rw [h.find]
    constructor
    · rintro ⟨⟨h1, _⟩, e2⟩; exact ⟨h1, e2⟩
    · rintro ⟨h1, e2⟩; exact ⟨⟨h1, fun e3 => e (e2.symm.trans e3)⟩, e2⟩
theorem slotT_del {T : List To} {n : Int} (h : CatOk T n) {nm : ByteArray} {x : To} (hx : findT T nm = some x) (i : Int) : slotT (delT T nm) i = if x.slot = i then none else slotT T i := by
  obtain ⟨hm, hn⟩ := h.find.1 hx
  refine opt_ext fun y => ?_
  rw [(h.del nm).slot, mem_del]
  split
  · rename_i e
    constructor
    · rintro ⟨⟨h1, e1⟩, e2⟩
      have a := h.slot.2 ⟨h1, e2⟩
      rw [h.slot.2 ⟨hm, e⟩] at a
      cases a
      exact absurd hn e1
    · intro e2; cases e2
  · rename_i e
    rw [h.slot]
    constructor
    · rintro ⟨⟨h1, _⟩, e2⟩; exact ⟨h1, e2⟩
    · rintro ⟨h1, e2⟩
      refine ⟨⟨h1, fun e3 => e ?_⟩, e2⟩
      have a := h.find.2 ⟨h1, e3⟩
      rw [hx] at a
      cases a
      exact e2
theorem CatOk.name_ne {T : List To} {n : Int} (h : CatOk T n) {x : To} (hx : x ∈ T) : 1 ≤ x.sp.nm.size ∧ x.sp.nm.size ≤ 12 := by
  have h1 : Sp.ok x.sp := of_decide_eq_true (h.ok x hx).1
  exact nameB_split h1.1
theorem hasT_empty {T : List To} {n : Int} (h : CatOk T n) {nm : ByteArray} (h0 : nm.size = 0) : hasT T nm = false := by
  have : findT T nm = none := find_none.2 fun x hx e => by have := h.name_ne hx; rw [e] at this; omega
  unfold hasT; rw [this]; rfl
theorem hasT_iff {T : List To} {nm : ByteArray} : hasT T nm = true ↔ ∃ x, findT T nm = some x := by unfold hasT; exact Option.isSome_iff_exists
theorem hasT_no {T : List To} {nm : ByteArray} (h : hasT T nm = false) : ∀ x ∈ T, x.sp.nm ≠ nm := by
  unfold hasT at h; exact find_none.1 (by simpa using h)
theorem freeS_iff {T : List To} {i : Int} : freeS T i = true ↔ ∀ x ∈ T, x.slot ≠ i := by unfold freeS; rw [Option.isNone_iff_eq_none]; exact slot_none
theorem filter_ne_len (a : Int) : ∀ l : List Int, l.Pairwise (fun x y => x ≠ y) → l.length ≤ (l.filter (fun x => !decide (x = a))).length + 1
  | [], _ => by simp
  | x :: r, h => by
    obtain ⟨h1, h2⟩ := List.pairwise_cons.1 h
    by_cases e : x = a
    · have hf : r.filter (fun x => !decide (x = a)) = r := List.filter_eq_self.2 (fun y hy => by have := h1 y hy; simp; omega)
      rw [List.filter_cons_of_neg (by simp [e]), hf]; simp
    · rw [List.filter_cons_of_pos (by simp [e])]
      have := filter_ne_len a r h2
      simp only [List.length_cons]; omega
theorem few_ints : ∀ (N : Nat) (l : List Int), l.Pairwise (fun x y => x ≠ y) → (∀ x ∈ l, 0 ≤ x ∧ x < (N : Int)) → l.length ≤ N
  | 0, l, _, hb => by
    cases l with
    | nil => simp
    | cons x r => have := hb x (by simp); omega
  | N + 1, l, h, hb => by
    have h1 := filter_ne_len (N : Int) l h
    have h2 := few_ints N (l.filter fun x => !decide (x = (N : Int))) (h.filter _) (fun x hx => by
      obtain ⟨hm, he⟩ := List.mem_filter.1 hx
      have := hb x hm
      have : x ≠ (N : Int) := by simpa using he
      omega)
    omega
theorem CatOk.few {T : List To} {n : Int} (h : CatOk T n) : T.length ≤ 8 := by
  have := few_ints 8 (T.map (·.slot)) (List.pairwise_map.2 h.slots) (fun x hx => by
    obtain ⟨y, hy, rfl⟩ := List.mem_map.1 hx
    have := (h.ok y hy).2.1
    omega)
  simpa using this
theorem CatOk.parts {T : List To} {n : Int} (h : CatOk T n) {x : To} (hx : x ∈ T) : 1 ≤ x.ms.length ∧ x.ms.length ≤ 4 := by
  have h1 : Sp.ok x.sp := of_decide_eq_true (h.ok x hx).1
  have := (h.ok x hx).2.2.1
  have := h1.2.1
  omega
/-- What the lists tell of a set meta. -/
theorem CatOk.set {T : List To} {n : Int} (h : CatOk T n) {nm : ByteArray} {x : To} (hx : findT T nm = some x) {k : Nat} {m : Mt} (hm : m.ok) : CatOk (setT T nm k m) (max n m.gen) := by
  obtain ⟨hmem, hnm⟩ := h.find.1 hx
  unfold setT
  rw [hx]
  have ho := h.ok x hmem
  refine (h.del nm).ins (n' := max n m.gen) ⟨ho.1, ho.2.1, by show ((x.ms.set k m).length : Int) = _; rw [List.length_set]; exact ho.2.2.1, fun y hy => ?_⟩ (Int.le_max_left _ _) (by have := h.n1; have := hm.1; omega) (fun y hy => ?_) (fun y hy e => ?_)
  · rcases List.mem_or_eq_of_mem_set hy with hy | rfl
    · exact ⟨(ho.2.2.2 y hy).1, by have := (ho.2.2.2 y hy).2; omega⟩
    · exact ⟨hm, by omega⟩
  · show y.sp.nm ≠ x.sp.nm
    rw [hnm]; exact (mem_del.1 hy).2
  · obtain ⟨h1, h2⟩ := mem_del.1 hy
    have a := h.slot.2 ⟨h1, show y.slot = x.slot from e⟩
    rw [h.slot.2 ⟨hmem, rfl⟩] at a
    cases a
    exact h2 hnm
theorem findT_set {T : List To} {n : Int} (h : CatOk T n) {nm : ByteArray} {x : To} (hx : findT T nm = some x) {k : Nat} {m : Mt} (hm : m.ok) (nm' : ByteArray) : findT (setT T nm k m) nm' = if nm' = nm then some (putM x k m) else findT T nm' := by
  obtain ⟨hmem, hnm⟩ := h.find.1 hx
  have hc := h.set hx (k := k) hm
  unfold setT at hc ⊢
  rw [hx] at hc ⊢
  dsimp only at hc ⊢
  rw [findT_ins hc nm' (fun y hy => by show y.sp.nm ≠ x.sp.nm; rw [hnm]; exact (mem_del.1 hy).2), findT_del h]
  show (if x.sp.nm = nm' then _ else _) = _
  rw [hnm]
  by_cases e : nm = nm'
  · rw [if_pos e, if_pos e.symm]
  · rw [if_neg e, if_neg (fun q => e q.symm), if_neg (fun q => e q.symm)]
theorem slotT_set {T : List To} {n : Int} (h : CatOk T n) {nm : ByteArray} {x : To} (hx : findT T nm = some x) {k : Nat} {m : Mt} (hm : m.ok) (i : Int) : slotT (setT T nm k m) i = if x.slot = i then some (putM x k m) else slotT T i := by
  obtain ⟨hmem, hnm⟩ := h.find.1 hx
  have hc := h.set hx (k := k) hm
  unfold setT at hc ⊢
  rw [hx] at hc ⊢
  dsimp only at hc ⊢
  rw [slotT_ins hc i (fun y hy e => ?_), slotT_del h hx]
  · show (if x.slot = i then _ else _) = _
    by_cases e : x.slot = i
    · rw [if_pos e, if_pos e]
    · rw [if_neg e, if_neg e, if_neg e]
  · obtain ⟨h1, h2⟩ := mem_del.1 hy
    have a := h.slot.2 ⟨h1, show y.slot = x.slot from e⟩
    rw [h.slot.2 ⟨hmem, rfl⟩] at a
    cases a
    exact h2 hnm
theorem metaT_set {T : List To} {n : Int} (h : CatOk T n) {nm : ByteArray} {x : To} (hx : findT T nm = some x) {k : Nat} (hk : k < x.ms.length) {m : Mt} (hm : m.ok) (nm' : ByteArray) (p : Int) : metaT (setT T nm k m) nm' p = if nm' = nm ∧ p = (k : Int) then some m else metaT T nm' p := by
  unfold metaT
  rw [findT_set h hx hm]
  by_cases e : nm' = nm
  · subst e
    rw [if_pos rfl, hx]
    dsimp only
    show (if 0 ≤ p then (x.ms.set k m)[p.toNat]? else none) = _
    by_cases hp : 0 ≤ p
    · rw [if_pos hp, if_pos hp]
      by_cases e2 : p = (k : Int)
      · subst e2
        rw [if_pos ⟨rfl, rfl⟩]
        simp [List.getElem?_set, hk]
      · rw [if_neg (fun q => e2 q.2), List.getElem?_set_ne (by omega)]
    · rw [if_neg hp, if_neg hp, if_neg (fun q => by have := q.2; omega)]
  · rw [if_neg e, if_neg (fun q => e q.1)]
theorem metaT_del {T : List To} {n : Int} (h : CatOk T n) (nm nm' : ByteArray) (p : Int) : metaT (delT T nm) nm' p = if nm' = nm then none else metaT T nm' p := by
  unfold metaT
  rw [findT_del h]
  by_cases e : nm' = nm
  · rw [if_pos e, if_pos e]
  · rw [if_neg e, if_neg e]
theorem metaT_some {T : List To} {n : Int} (h : CatOk T n) {nm : ByteArray} {p : Int} {m : Mt} (hm : metaT T nm p = some m) : ∃ x, findT T nm = some x ∧ 0 ≤ p ∧ x.ms[p.toNat]? = some m ∧ m.ok ∧ m.gen ≤ n := by
  unfold metaT at hm
  cases hf : findT T nm with
  | none => rw [hf] at hm; cases hm
  | some x =>
    rw [hf] at hm
    dsimp only at hm
    by_cases hp : 0 ≤ p
    · rw [if_pos hp] at hm
      have := (h.ok x (h.find.1 hf).1).2.2.2 m (List.mem_of_getElem? hm)
      exact ⟨x, rfl, hp, hm, this.1, this.2⟩
    · rw [if_neg hp] at hm; cases hm
def zTab : ByteArray := ⟨#[0]⟩
def newM (g : Int) : Mt := ⟨g, 0, 0, 0, zTab⟩
def newT (x : Sp) (v g : Int) : To := ⟨x, v, List.replicate x.parts.toNat (newM g)⟩
theorem tabB_z : tabB zTab = true := by decide +kernel
theorem newM_ok {g : Int} (h0 : 1 ≤ g) (h1 : g ≤ 4294967295) : (newM g).ok := ⟨⟨h0, h1⟩, (by decide : (0 : Int) ≤ 0 ∧ (0 : Int) ≤ 1099511627776), (by decide : (0 : Int) ≤ 0 ∧ (0 : Int) ≤ 0), (by decide : (0 : Int) ≤ 1048577), tabB_z⟩
theorem newT_ok {x : Sp} {v g n : Int} (hx : x.may = true) (v0 : 0 ≤ v) (v1 : v ≤ 7) (h0 : 1 ≤ g) (h1 : g ≤ 4294967295) (hn : g ≤ n) : (newT x v g).ok n := by
  have hp : Sp.ok x := of_decide_eq_true hx
  refine ⟨hx, ⟨v0, v1⟩, ?_, fun m hm => ?_⟩
  · show ((List.replicate x.parts.toNat (newM g)).length : Int) = x.parts
    rw [List.length_replicate]; have := hp.2.1; omega
  · obtain rfl := List.eq_of_mem_replicate hm
    exact ⟨newM_ok h0 h1, hn⟩
theorem metaT_new {T : List To} {n : Int} {x : Sp} {v g : Int} (h : CatOk (insT (newT x v g) T) n) (hf : ∀ y ∈ T, y.sp.nm ≠ x.nm) (nm : ByteArray) (p : Int) : metaT (insT (newT x v g) T) nm p = if x.nm = nm ∧ 0 ≤ p ∧ p < x.parts then some (newM g) else metaT T nm p := by
  unfold metaT
  rw [findT_ins h nm hf]
  show (match (if x.nm = nm then some (newT x v g) else findT T nm) with | some x => if 0 ≤ p then x.ms[p.toNat]? else none | none => none) = _
  by_cases e : x.nm = nm
  · subst e
    rw [if_pos rfl, find_none.2 hf]
    dsimp only
    show (if 0 ≤ p then (List.replicate x.parts.toNat (newM g))[p.toNat]? else none) = _
    by_cases hp : 0 ≤ p
    · rw [if_pos hp, List.getElem?_replicate]
      by_cases hq : p < x.parts
      · rw [if_pos (by omega), if_pos ⟨rfl, hp, hq⟩]
      · rw [if_neg (by omega), if_neg (fun q => hq q.2.2)]
    · rw [if_neg hp, if_neg (fun q => hp q.2.1)]
  · rw [if_neg e, if_neg (fun q => e q.1)]
/-! ### Entries -/
def makeF (T : List To) (n : Int) (s : ByteArray) : Option (List To × Int) := match chAt s.data.toList 0 with
  | none => none
  | some (v, p) => match chAt s.data.toList p with
    | none => none
    | some (g, q) => match decTp (s.extract q s.size) with
      | none => none
      | some (x, k) => if q + k = s.size ∧ v ≤ 7 ∧ freeS T v = true ∧ (1 ≤ g ∧ g ≤ 4294967295) ∧ hasT T x.nm = false then some (insT (newT x v g) T, max n g) else none
def dropF (T : List To) (n : Int) (s : ByteArray) : Option (List To × Int) := match txAt s 0 with
  | none => none
  | some (nm, p) => if p = s.size ∧ hasT T nm = true then some (delT T nm, n) else none
/-- Five numbers, one behind the other. -/
def num5 (l : List UInt8) (p : Nat) : Option ((Int × Int × Int × Int × Int) × Nat) := match chAt l p with
  | none => none
  | some (a, p1) => match chAt l p1 with
    | none => none
    | some (b, p2) => match chAt l p2 with
      | none => none
      | some (c, p3) => match chAt l p3 with
        | none => none
        | some (d, p4) => match chAt l p4 with
          | none => none
          | some (e, p5) => some ((a, b, c, d, e), p5)
def setF (T : List To) (n : Int) (s : ByteArray) : Option (List To × Int) := match txAt s 0 with
  | none => none
  | some (nm, p0) => match num5 s.data.toList p0 with
    | none => none
    | some ((a, b, c, d, e), p) => match txAt s p with
      | none => none
      | some (tb, q) => if q = s.size ∧ (metaT T nm a).isSome = true ∧ Mt.may ⟨b, c, d, e, tb⟩ = true then some (setT T nm a.toNat ⟨b, c, d, e, tb⟩, max n b) else none
def cntF (T : List To) (n : Int) (s : ByteArray) : Option (List To × Int) := match chAt s.data.toList 0 with
  | none => none
  | some (v, p) => if p = s.size ∧ n ≤ v ∧ v ≤ 4294967295 then some (T, v) else none
/-- What an entry makes of a catalog (23.1). -/
def appF (T : List To) (n : Int) (kd : Int) (s : ByteArray) : Option (List To × Int) :=
  if kd = 1 then makeF T n s else if kd = 2 then dropF T n s else if kd = 3 then setF T n s else if kd = 4 then cntF T n s else none
theorem makeF_some {T : List To} {n : Int} {s : ByteArray} {r : List To × Int} (h : makeF T n s = some r) : ∃ v p g q x k, chAt s.data.toList 0 = some (v, p) ∧ chAt s.data.toList p = some (g, q) ∧ decTp (s.extract q s.size) = some (x, k) ∧ q + k = s.size ∧ v ≤ 7 ∧ freeS T v = true ∧ (1 ≤ g ∧ g ≤ 4294967295) ∧ hasT T x.nm = false ∧ r = (insT (newT x v g) T, max n g) := by
  unfold makeF at h
  split at h
  · cases h
  · rename_i v p h0
    split at h
    · cases h
    · rename_i g q h1
      split at h
      · cases h
      · rename_i x k h2
        split at h
        · rename_i hc
          exact ⟨v, p, g, q, x, k, h0, h1, h2, hc.1, hc.2.1, hc.2.2.1, hc.2.2.2.1, hc.2.2.2.2, (Option.some.inj h).symm⟩
        · cases h
theorem decTp_may {s : ByteArray} {x : Sp} {k : Nat} (h : decTp s = some (x, k)) : x.may = true := by
  unfold decTp at h
  simp only [Option.bind_eq_some_iff] at h
  obtain ⟨a, _, b, _, c, _, d, _, f, _, h⟩ := h
  split at h
  · rename_i hm
    have e := Option.some.inj h
    simp only [Prod.mk.injEq] at e
    rw [← e.1]; exact hm
  · cases h
theorem appF_ok {T : List To} {n kd : Int} {s : ByteArray} {T' : List To} {n' : Int} (h : CatOk T n) (ha : appF T n kd s = some (T', n')) : CatOk T' n' := by
  unfold appF at ha
  split at ha
  · obtain ⟨v, p, g, q, x, k, h0, h1, h2, _, hv, hf, hg, hn, e⟩ := makeF_some ha
    cases e
    have v0 := (chAt_back h0 (Nat.zero_le _)).2.2.1
    exact h.ins (newT_ok (decTp_may h2) v0 hv hg.1 hg.2 (Int.le_max_right _ _)) (Int.le_max_left _ _) (by have := h.n1; omega) (hasT_no hn) (freeS_iff.1 hf)
  · split at ha
    · unfold dropF at ha
      split at ha
      · cases ha
      · split at ha
        · cases ha; exact h.del _
        · cases ha
    · split at ha
      · unfold setF at ha
        split at ha
        · cases ha
        · split at ha
          · cases ha
          · split at ha
            · cases ha
            · split at ha
              · rename_i hc
                cases ha
                obtain ⟨m, hm⟩ := Option.isSome_iff_exists.1 hc.2.1
                obtain ⟨x, hx, _⟩ := metaT_some h hm
                exact h.set hx (of_decide_eq_true hc.2.2)
              · cases ha
      · split at ha
        · unfold cntF at ha
          split at ha
          · cases ha
          · split at ha
            · rename_i hc
              cases ha
              have hh := hc.2
              exact ⟨h.rise, h.slots, fun x hx => (h.ok x hx).up hh.1, by have := h.n0; omega, hh.2⟩
            · cases ha
        · cases ha
def makeE (v g : Int) (x : Sp) : List UInt8 := chain v ++ (chain g ++ encT x)
def metaE (nm : ByteArray) (p : Int) (m : Mt) : List UInt8 := textL (nk nm) ++ (chain p ++ (chain m.gen ++ (chain m.seq ++ (chain m.start ++ (chain m.next ++ textL (nk m.tab))))))
theorem tabB_size {s : ByteArray} (h : tabB s = true) : s.size ≤ 1000 := by
  unfold tabB at h
  cases hd : decT s.data.toList with
  | none => rw [hd] at h; cases h
  | some u =>
    obtain ⟨t, p⟩ := u
    rw [hd] at h
    have hp : p = s.size := of_decide_eq_true h
    obtain ⟨h1, h2, h3⟩ := decT_facts hd
    have hl : s.data.toList.length = s.size := by simp
    have h4 := congrArg List.length h3
    rw [List.length_append, List.length_drop, hl, hp] at h4
    have h5 := encB_len t
    have h6 := h1.few
    have h7 := chF_length 9 (t.length : Int)
    have h8 : (encL t).length = (chain (t.length : Int)).length + (encB t).length := by unfold encL; rw [List.length_append]
    have h9 : (chain (t.length : Int)).length ≤ 10 := h7.2
    omega
end Go.Proofs.YtgogackkeodciaaGreat.W
