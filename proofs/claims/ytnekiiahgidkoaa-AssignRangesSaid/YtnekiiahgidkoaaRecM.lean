/- Records as bytes; nothing of the program. -/
import Derived.WalkKit
import Derived.Test.YtnekiiahgidkoaaChainBack
namespace Go.Proofs.Ytnekiiahgidkoaa.M
open Go.RowKit
set_option linter.unusedVariables false
set_option linter.unusedSimpArgs false

/-- A record. -/
structure Rc where
  off : Int
  tick : Int
  key : ByteArray
  val : ByteArray
  gone : Bool
  prod : Int
  seq : Int
  frm : Int

/-- What may be (16.1). -/
def Rc.ok (r : Rc) : Prop :=
  (0 ≤ r.off ∧ r.off ≤ 1048576) ∧ (0 ≤ r.tick ∧ r.tick ≤ 1099511627776) ∧ (0 ≤ r.prod ∧ r.prod ≤ 1099511627776) ∧ (0 ≤ r.seq ∧ r.seq ≤ 1099511627776) ∧
  (0 ≤ r.frm ∧ r.frm ≤ 1099511627776) ∧ (r.prod = 0 → r.seq = 0) ∧ r.key.size ≤ 32 ∧ r.val.size ≤ 200 ∧ (r.gone = true → 0 < r.key.size ∧ r.val.size = 0)
instance (r : Rc) : Decidable r.ok := by unfold Rc.ok; infer_instance
def Rc.may (r : Rc) : Bool := decide r.ok
def goneI (g : Bool) : Int := if g then 1 else 0
/-- A record as bytes. -/
def recL (r : Rc) : List UInt8 :=
  chain r.off ++ (chain r.tick ++ (chain r.prod ++ (chain r.seq ++ (chain r.frm ++ (chain (goneI r.gone) ++ (textL r.key.data.toList ++ textL r.val.data.toList))))))

/-- The chain at a place, and where it ends. -/
def chAt (l : List UInt8) (p : Nat) : Option (Int × Nat) :=
  if (unch (l.drop p)).2.2 = 0 then some ((unch (l.drop p)).1, p + (unch (l.drop p)).2.1.toNat) else none
/-- The text at a place, and where it ends. -/
def txAt (s : ByteArray) (p : Nat) : Option (ByteArray × Nat) :=
  if (untx (s.extract p s.size)).2.2 = 0 then some ((untx (s.extract p s.size)).1, p + (untx (s.extract p s.size)).2.1.toNat) else none

theorem ext_drop (s : ByteArray) (p : Nat) : (s.extract p s.size).data.toList = s.data.toList.drop p := by
  rw [ByteArray.data_extract, Array.toList_extract, List.extract]
  have hlen : s.data.toList.length = s.size := by simp
  rw [List.take_of_length_le (by rw [List.length_drop, hlen]; exact Nat.le_refl _)]

theorem chAt_back {l : List UInt8} {p q : Nat} {v : Int} (h : chAt l p = some (v, q)) (hp : p ≤ l.length) :
    p < q ∧ q ≤ l.length ∧ 0 ≤ v ∧ v < 18446744073709551616 ∧ l.drop p = chain v ++ l.drop q := by
  unfold chAt at h
  obtain ⟨h0, h1, hf⟩ := unch_facts (l.drop p)
  obtain ⟨a, n, e, hU⟩ : ∃ v n x, unch (l.drop p) = (v, n, x) := ⟨_, _, _, rfl⟩
  rw [hU] at h h0 h1 hf
  dsimp only at h h0 h1 hf
  by_cases he : e = 0
  · subst he
    rw [if_pos rfl] at h
    simp only [Option.some.injEq, Prod.mk.injEq] at h
    obtain ⟨rfl, rfl⟩ := h
    rcases hf with ⟨_, hn1, hn2, _⟩ | ⟨hx, _⟩
    · rw [List.length_drop] at hn2
      have hc := chain_unch _ _ _ hU
      refine ⟨by omega, by omega, h0, h1, ?_⟩
      rw [hc, ← List.drop_drop, List.take_append_drop]
    · exact absurd rfl hx
  · rw [if_neg he] at h; cases h

theorem chAt_chain {l t : List UInt8} {p : Nat} {v : Int} (h : l.drop p = chain v ++ t) (h0 : 0 ≤ v) (h1 : v < 18446744073709551616) :
    chAt l p = some (v, p + (chain v).length) := by
  unfold chAt
  rw [h, unch_chain v h0 h1 t]
  simp

theorem untx_back (s x : ByteArray) (n : Int) (h : untx s = (x, n, 0)) : 1 ≤ n ∧ n ≤ s.size ∧ s.data.toList = textL x.data.toList ++ s.data.toList.drop n.toNat := by
  have hlen : s.data.toList.length = s.size := by simp
  obtain ⟨h0, h1, hf⟩ := unch_facts s.data.toList
  obtain ⟨v, m, e, hU⟩ : ∃ v n x, unch s.data.toList = (v, n, x) := ⟨_, _, _, rfl⟩
  rw [hU] at h0 h1 hf
  dsimp only at h0 h1 hf
  by_cases he : e = 0
  · subst he
    rcases hf with ⟨_, hn1, hn2, _⟩ | ⟨hx, _⟩
    · by_cases hv : 1099511627776 < v
      · rw [untx_long s v m hU hv] at h; simp at h
      · by_cases hs : (s.size : Int) - m < v
        · rw [untx_short s v m hU (by omega) hs] at h; simp at h
        · rw [untx_some s v m hU (by omega) (by omega)] at h
          simp only [Prod.mk.injEq, and_true] at h
          obtain ⟨rfl, rfl⟩ := h
          have hc := chain_unch _ _ _ hU
          have hx : (s.extract m.toNat (m + v).toNat).data.toList = (s.data.toList.drop m.toNat).take v.toNat := by
            rw [ByteArray.data_extract, Array.toList_extract, List.extract]
            rw [show (m + v).toNat = m.toNat + v.toNat from by omega, Nat.add_sub_cancel_left]
          refine ⟨by omega, by omega, ?_⟩
          have hl : (((s.data.toList.drop m.toNat).take v.toNat).length : Int) = v := by
            rw [List.length_take, List.length_drop, hlen]; omega
          unfold textL
          rw [hx, hl, hc, List.append_assoc, show (m + v).toNat = m.toNat + v.toNat from by omega, ← List.drop_drop, List.take_append_drop, List.take_append_drop]
    · exact absurd rfl hx
  · rw [untx_err s v m e hU he] at h
    simp only [Prod.mk.injEq] at h
    exact absurd h.2.2 he

theorem untx_of (x : ByteArray) (t : List UInt8) (hs : x.size ≤ 1000) (s : ByteArray) (h : s.data.toList = textL x.data.toList ++ t) :
    untx s = (x, ((textL x.data.toList).length : Int), 0) := by
  have hlen : x.data.toList.length = x.size := by simp
  have hd : s.data.toList = chain (x.data.toList.length : Int) ++ (x.data.toList ++ t) := by rw [h]; unfold textL; rw [List.append_assoc]
  have hU := unch_chain (x.data.toList.length : Int) (by omega) (by omega) (x.data.toList ++ t)
  rw [← hd] at hU
  have hz2 : s.size = (chain (x.data.toList.length : Int)).length + x.data.toList.length + t.length := by
    have : s.data.toList.length = s.size := by simp
    rw [← this, hd]; simp only [List.length_append]; omega
  rw [untx_some _ _ _ hU (by omega) (by rw [hz2]; omega)]
  have hE : s.extract ((chain (x.data.toList.length : Int)).length : Int).toNat (((chain (x.data.toList.length : Int)).length : Int) + (x.data.toList.length : Int)).toNat = x := by
    apply ByteArray.ext
    apply Array.toList_inj.1
    rw [ByteArray.data_extract, Array.toList_extract, hd]
    rw [show (((chain (x.data.toList.length : Int)).length : Int)).toNat = (chain (x.data.toList.length : Int)).length from by omega, show (((chain (x.data.toList.length : Int)).length : Int) + (x.data.toList.length : Int)).toNat = (chain (x.data.toList.length : Int)).length + x.data.toList.length from by omega]
    simp [List.extract]
  rw [hE]
  unfold textL
  rw [List.length_append]
  simp

theorem txAt_back {s x : ByteArray} {p q : Nat} (h : txAt s p = some (x, q)) (hp : p ≤ s.size) :
    p < q ∧ q ≤ s.size ∧ s.data.toList.drop p = textL x.data.toList ++ s.data.toList.drop q := by
  unfold txAt at h
  obtain ⟨a, n, e, hU⟩ : ∃ v n x, untx (s.extract p s.size) = (v, n, x) := ⟨_, _, _, rfl⟩
  rw [hU] at h
  dsimp only at h
  by_cases he : e = 0
  · subst he
    rw [if_pos rfl] at h
    simp only [Option.some.injEq, Prod.mk.injEq] at h
    obtain ⟨rfl, rfl⟩ := h
    obtain ⟨h1, h2, h3⟩ := untx_back _ _ _ hU
    have hz : (s.extract p s.size).size = s.size - p := by rw [ByteArray.size_extract]; omega
    rw [hz] at h2
    rw [ext_drop, List.drop_drop] at h3
    exact ⟨by omega, by omega, h3⟩
  · rw [if_neg he] at h; cases h

theorem txAt_text {s x : ByteArray} {t : List UInt8} {p : Nat} (h : s.data.toList.drop p = textL x.data.toList ++ t) (hx : x.size ≤ 1000) :
    txAt s p = some (x, p + (textL x.data.toList).length) := by
  unfold txAt
  rw [untx_of x t hx (s.extract p s.size) (by rw [ext_drop]; exact h)]
  simp

/-- The record at a place, and where it ends; none. -/
def recAt (s : ByteArray) (p : Nat) : Option (Rc × Nat) :=
  (chAt s.data.toList p).bind fun a => (chAt s.data.toList a.2).bind fun b => (chAt s.data.toList b.2).bind fun c => (chAt s.data.toList c.2).bind fun d =>
  (chAt s.data.toList d.2).bind fun f => (chAt s.data.toList f.2).bind fun g => if 1 < g.1 then none else
  (txAt s g.2).bind fun k => (txAt s k.2).bind fun v =>
  if (Rc.mk a.1 b.1 k.1 v.1 (decide (g.1 = 1)) c.1 d.1 f.1).ok then some (Rc.mk a.1 b.1 k.1 v.1 (decide (g.1 = 1)) c.1 d.1 f.1, v.2) else none

theorem drop_end {l a t : List UInt8} {p : Nat} (h : l.drop p = a ++ t) : l.drop (p + a.length) = t := by
  rw [← List.drop_drop, h, List.drop_left]

/-- What was written as a record is read. -/
theorem recAt_rec {r : Rc} {s : ByteArray} {p : Nat} {t : List UInt8} (hr : r.ok) (h : s.data.toList.drop p = recL r ++ t) :
    recAt s p = some (r, p + (recL r).length) := by
  have hr' := hr
  obtain ⟨⟨o0, o1⟩, ⟨t0, t1⟩, ⟨p0, p1⟩, ⟨q0, q1⟩, ⟨f0, f1⟩, hps, hk, hv, hg⟩ := hr
  have g0 : 0 ≤ goneI r.gone ∧ goneI r.gone ≤ 1 := by unfold goneI; split <;> omega
  unfold recL at h
  simp only [List.append_assoc] at h
  have d1 := drop_end h
  have d2 := drop_end d1
  have d3 := drop_end d2
  have d4 := drop_end d3
  have d5 := drop_end d4
  have d6 := drop_end d5
  have d7 := drop_end d6
  have d8 := drop_end d7
  unfold recAt
  rw [chAt_chain h o0 (by omega)]
  simp only [Option.bind_some]
  rw [chAt_chain d1 t0 (by omega)]
  simp only [Option.bind_some]
  rw [chAt_chain d2 p0 (by omega)]
  simp only [Option.bind_some]
  rw [chAt_chain d3 q0 (by omega)]
  simp only [Option.bind_some]
  rw [chAt_chain d4 f0 (by omega)]
  simp only [Option.bind_some]
  rw [chAt_chain d5 g0.1 (by omega)]
  simp only [Option.bind_some]
  rw [if_neg (by omega), txAt_text d6 (by omega)]
  simp only [Option.bind_some]
  rw [txAt_text d7 (by omega)]
  simp only [Option.bind_some]
  have hgd : decide (goneI r.gone = 1) = r.gone := by unfold goneI; cases r.gone <;> simp
  rw [hgd, if_pos (show (Rc.mk r.off r.tick r.key r.val r.gone r.prod r.seq r.frm).ok from hr')]
  refine congrArg some (Prod.ext rfl ?_)
  unfold recL
  simp only [List.length_append]
  omega

/-- What was read is a record with which the bytes go on. -/
theorem recAt_back {r : Rc} {s : ByteArray} {p q : Nat} (h : recAt s p = some (r, q)) (hp : p ≤ s.size) :
    r.ok ∧ p < q ∧ q ≤ s.size ∧ s.data.toList.drop p = recL r ++ s.data.toList.drop q := by
  have hlen : s.data.toList.length = s.size := by simp
  unfold recAt at h
  simp only [Option.bind_eq_some_iff] at h
  obtain ⟨⟨o, p1⟩, e1, ⟨t, p2⟩, e2, ⟨pr, p3⟩, e3, ⟨sq, p4⟩, e4, ⟨fr, p5⟩, e5, ⟨g, p6⟩, e6, h⟩ := h
  dsimp only at e1 e2 e3 e4 e5 e6 h
  by_cases hg : 1 < g
  · rw [if_pos hg] at h; cases h
  · rw [if_neg hg] at h
    simp only [Option.bind_eq_some_iff] at h
    obtain ⟨⟨k, p7⟩, e7, ⟨v, p8⟩, e8, h⟩ := h
    dsimp only at e7 e8 h
    by_cases hok : (Rc.mk o t k v (decide (g = 1)) pr sq fr).ok
    · rw [if_pos hok] at h
      simp only [Option.some.injEq, Prod.mk.injEq] at h
      obtain ⟨rfl, rfl⟩ := h
      obtain ⟨a1, b1, _, _, c1⟩ := chAt_back e1 (by omega)
      obtain ⟨a2, b2, _, _, c2⟩ := chAt_back e2 b1
      obtain ⟨a3, b3, _, _, c3⟩ := chAt_back e3 b2
      obtain ⟨a4, b4, _, _, c4⟩ := chAt_back e4 b3
      obtain ⟨a5, b5, _, _, c5⟩ := chAt_back e5 b4
      obtain ⟨a6, b6, g0, _, c6⟩ := chAt_back e6 b5
      obtain ⟨a7, b7, c7⟩ := txAt_back e7 (by omega)
      obtain ⟨a8, b8, c8⟩ := txAt_back e8 b7
      refine ⟨hok, by omega, b8, ?_⟩
      have hgi : goneI (decide (g = 1)) = g := by
        unfold goneI
        by_cases hg1 : g = 1
        · simp [hg1]
        · have : g = 0 := by omega
          simp [this]
      unfold recL
      simp only [hgi]
      rw [c1, c2, c3, c4, c5, c6, c7, c8]
      simp only [List.append_assoc]
    · rw [if_neg hok] at h; cases h

/-- Two texts that begin with records begin with the same one. -/
theorem recL_inj {r r' : Rc} {a b : List UInt8} (hr : r.ok) (hr' : r'.ok) (h : recL r ++ a = recL r' ++ b) : r = r' ∧ a = b := by
  have e1 := recAt_rec (s := B (recL r ++ a)) (p := 0) (t := a) hr (by rw [B_data]; rfl)
  have e2 := recAt_rec (s := B (recL r ++ a)) (p := 0) (t := b) hr' (by rw [B_data, ← h]; rfl)
  rw [e1] at e2
  simp only [Option.some.injEq, Prod.mk.injEq] at e2
  obtain ⟨rfl, _⟩ := e2
  exact ⟨rfl, List.append_cancel_left h⟩

theorem chain_pos (v : Int) : 1 ≤ (chain v).length := (chF_length 9 v).1
theorem chain_len (v : Int) (k : Nat) (h0 : 0 ≤ v) (h1 : v < 18446744073709551616) (h : v < 128 ^ (k + 1)) : (chain v).length ≤ k + 1 := by
  rw [chain_lst v h0 h1, lst_length]
  rcases lastOf_lo v h0 h1 with e | e
  · omega
  · by_cases hk : lastOf v ≤ k
    · omega
    · exfalso
      have hp : (128 : Int) ^ (k + 1) ≤ 128 ^ lastOf v := by
        obtain ⟨n, hn⟩ : ∃ n, lastOf v = k + 1 + n := ⟨lastOf v - (k + 1), by omega⟩
        rw [hn]
        have : (1 : Int) ≤ 128 ^ n := Int.pow_pos (by omega)
        have h3 : (0 : Int) ≤ 128 ^ (k + 1) := Int.le_of_lt (Int.pow_pos (by omega))
        have := Int.mul_le_mul_of_nonneg_left this h3
        rw [Int.mul_one] at this
        rw [Int.pow_add 128 (k + 1) n]
        exact this
      omega
theorem textL_length (l : List UInt8) : (textL l).length = (chain (l.length : Int)).length + l.length := by unfold textL; rw [List.length_append]
theorem textL_most (l : List UInt8) : (textL l).length ≤ l.length + 10 := by
  have h : (chain (l.length : Int)).length ≤ 10 := (chF_length 9 _).2
  rw [textL_length]; omega

/-- How many bytes a record has (16.1). -/
theorem recL_bounds {r : Rc} (hr : r.ok) : 8 + r.key.size + r.val.size ≤ (recL r).length ∧ (recL r).length ≤ 31 + r.key.size + r.val.size := by
  obtain ⟨⟨o0, o1⟩, ⟨t0, t1⟩, ⟨p0, p1⟩, ⟨q0, q1⟩, ⟨f0, f1⟩, hps, hk, hv, hg⟩ := hr
  have g0 : 0 ≤ goneI r.gone ∧ goneI r.gone ≤ 1 := by unfold goneI; split <;> omega
  have k1 : r.key.data.toList.length = r.key.size := by simp
  have v1 : r.val.data.toList.length = r.val.size := by simp
  have a1 := chain_len r.off 2 o0 (by omega) (by omega)
  have a2 := chain_len r.tick 5 t0 (by omega) (by omega)
  have a3 := chain_len r.prod 5 p0 (by omega) (by omega)
  have a4 := chain_len r.seq 5 q0 (by omega) (by omega)
  have a5 := chain_len r.frm 5 f0 (by omega) (by omega)
  have a6 := chain_len (goneI r.gone) 0 g0.1 (by omega) (by omega)
  have a7 := chain_len (r.key.size : Int) 0 (by omega) (by omega) (by omega)
  have a8 := chain_len (r.val.size : Int) 1 (by omega) (by omega) (by omega)
  have b1 := chain_pos r.off
  have b2 := chain_pos r.tick
  have b3 := chain_pos r.prod
  have b4 := chain_pos r.seq
  have b5 := chain_pos r.frm
  have b6 := chain_pos (goneI r.gone)
  have b7 := chain_pos (r.key.size : Int)
  have b8 := chain_pos (r.val.size : Int)
  unfold recL
  simp only [List.length_append, textL_length, k1, v1]
  omega

/-- Records one behind the other. -/
def packL : List Rc → List UInt8
  | [] => []
  | r :: l => recL r ++ packL l
theorem packL_append (a b : List Rc) : packL (a ++ b) = packL a ++ packL b := by
  induction a with
  | nil => rfl
  | cons r a ih => simp only [List.cons_append, packL, ih, List.append_assoc]
theorem packL_snoc (a : List Rc) (r : Rc) : packL (a ++ [r]) = packL a ++ recL r := by rw [packL_append]; simp [packL]
/-- Do offsets rise? -/
def rises : List Rc → Prop
  | [] => True
  | [_] => True
  | a :: b :: l => a.off < b.off ∧ rises (b :: l)
theorem rises_iff (l : List Rc) : rises l ↔ ∀ i a b, l[i]? = some a → l[i + 1]? = some b → a.off < b.off := by
  induction l with
  | nil => simp [rises]
  | cons x l ih =>
    cases l with
    | nil => simp [rises]
    | cons y l =>
      simp only [rises, ih]
      constructor
      · rintro ⟨h1, h2⟩ i a b ha hb
        cases i with
        | zero =>
          simp only [List.getElem?_cons_zero, List.getElem?_cons_succ, Option.some.injEq] at ha hb
          subst ha hb; exact h1
        | succ i => exact h2 i a b (by simpa using ha) (by simpa using hb)
      · intro h
        exact ⟨h 0 x y rfl rfl, fun i a b ha hb => h (i + 1) a b (by simpa using ha) (by simpa using hb)⟩

/-- What may be a batch but for its sizes; a batch (16.3). -/
def fair (l : List Rc) : Prop := l ≠ [] ∧ (∀ r ∈ l, r.ok) ∧ ∀ i a b, l[i]? = some a → l[i + 1]? = some b → a.off < b.off
def good (l : List Rc) : Prop := fair l ∧ l.length ≤ 8 ∧ (packL l).length ≤ 773

/-- Bytes that are records, and begin with records, go on with the others. -/
theorem packL_prefix : ∀ (a b : List Rc) (t : List UInt8), (∀ r ∈ a, r.ok) → (∀ r ∈ b, r.ok) → packL b = packL a ++ t → ∃ c, b = a ++ c ∧ packL c = t := by
  intro a
  induction a with
  | nil => intro b t _ _ h; exact ⟨b, rfl, by simpa [packL] using h⟩
  | cons r a ih =>
    intro b t ha hb h
    cases b with
    | nil =>
      exfalso
      have := (recL_bounds (ha r (by simp))).1
      have := congrArg List.length h
      simp only [packL, List.length_nil, List.length_append] at this
      omega
    | cons r' b =>
      simp only [packL, List.append_assoc] at h
      obtain ⟨rfl, h2⟩ := recL_inj (hb r' (by simp)) (ha r (by simp)) h
      obtain ⟨c, rfl, hc⟩ := ih b t (fun x hx => ha x (by simp [hx])) (fun x hx => hb x (by simp [hx])) h2
      exact ⟨c, rfl, hc⟩
theorem packL_inj {a b : List Rc} (ha : ∀ r ∈ a, r.ok) (hb : ∀ r ∈ b, r.ok) (h : packL b = packL a) : b = a := by
  obtain ⟨c, rfl, hc⟩ := packL_prefix a b [] ha hb (by simpa using h)
  cases c with
  | nil => simp
  | cons r c =>
    exfalso
    have := (recL_bounds (hb r (by simp))).1
    have := congrArg List.length hc
    simp only [packL, List.length_nil, List.length_append] at this
    omega

/-- What was read up to a place. -/
def Upto (s : ByteArray) (l : List Rc) (p : Nat) : Prop := p ≤ s.size ∧ (∀ r ∈ l, r.ok) ∧ s.data.toList = packL l ++ s.data.toList.drop p
theorem Upto.zero (s : ByteArray) : Upto s [] 0 := ⟨by omega, by simp, by simp [packL]⟩
theorem Upto.step {s : ByteArray} {l : List Rc} {p q : Nat} {r : Rc} (h : Upto s l p) (hr : recAt s p = some (r, q)) : Upto s (l ++ [r]) q ∧ p < q := by
  obtain ⟨h1, h2, h3⟩ := h
  obtain ⟨a, b, c, d⟩ := recAt_back hr h1
  refine ⟨⟨c, ?_, ?_⟩, b⟩
  · intro x hx
    rcases List.mem_append.1 hx with hx | hx
    · exact h2 x hx
    · obtain rfl : x = r := by simpa using hx
      exact a
  · rw [packL_snoc, List.append_assoc, ← d]; exact h3
theorem Upto.len {s : ByteArray} {l : List Rc} {p : Nat} (h : Upto s l p) : (packL l).length = p := by
  obtain ⟨h1, _, h3⟩ := h
  have hlen : s.data.toList.length = s.size := by simp
  have := congrArg List.length h3
  rw [List.length_append, List.length_drop] at this
  omega
theorem packL_many {l : List Rc} (h : ∀ r ∈ l, r.ok) : 8 * l.length ≤ (packL l).length := by
  induction l with
  | nil => simp
  | cons r l ih =>
    have := (recL_bounds (h r (by simp))).1
    have := ih fun x hx => h x (by simp [hx])
    simp only [packL, List.length_append, List.length_cons]
    omega
/-- Where no record lies, and it is not the end, the bytes are no records. -/
theorem Upto.stuck {s : ByteArray} {l : List Rc} {p : Nat} (h : Upto s l p) (hr : recAt s p = none) (hp : p < s.size) (b : List Rc) (hb : ∀ r ∈ b, r.ok) : packL b ≠ s.data.toList := by
  intro he
  obtain ⟨h1, h2, h3⟩ := h
  have hlen : s.data.toList.length = s.size := by simp
  obtain ⟨c, rfl, hc⟩ := packL_prefix l b _ h2 hb (he.trans h3)
  cases c with
  | nil =>
    have := congrArg List.length hc
    simp only [packL, List.length_nil, List.length_drop] at this
    omega
  | cons r c =>
    have := recAt_rec (hb r (by simp)) (show s.data.toList.drop p = recL r ++ packL c from hc.symm)
    rw [hr] at this; cases this
theorem Upto.whole {s : ByteArray} {l : List Rc} (h : Upto s l s.size) : packL l = s.data.toList := by
  have hlen : s.data.toList.length = s.size := by simp
  have := h.2.2
  rw [List.drop_of_length_le (by omega), List.append_nil] at this
  exact this.symm
end Go.Proofs.Ytnekiiahgidkoaa.M
