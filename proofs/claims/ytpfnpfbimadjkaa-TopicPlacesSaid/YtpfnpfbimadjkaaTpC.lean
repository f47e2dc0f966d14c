/- Layer 22, plain: topics as bytes. -/
import Derived.Test.YtpfnpfbimadjkaaTpB
import Derived.Test.YtpfnpfbimadjkaaRecM
namespace Go.Proofs.Ytpfnpfbimadjkaa.W
open Go.RowKit Go.Sort
open Go.Proofs.Ytpfnpfbimadjkaa.M Go.Proofs.Ytpfnpfbimadjkaa.D Go.Proofs.Ytpfnpfbimadjkaa.Z
set_option linter.unusedVariables false
set_option linter.unusedSimpArgs false

def flagI (b : Bool) : Int := if b then 1 else 0
/-- A topic as bytes. -/
def encT (x : Sp) : List UInt8 := textL x.nm.data.toList ++ (chain x.parts ++ (chain x.age ++ (chain x.size ++ [UInt8.ofNat (flagI x.comp).toNat])))
/-- The last byte. -/
def flagAt (l : List UInt8) (p : Nat) : Option Nat := match l[p]? with
  | some f => if f.toNat ≤ 1 then some f.toNat else none
  | none => none
/-- The topic with which bytes begin, and how many bytes it has (22.1). -/
def decT (s : ByteArray) : Option (Sp × Nat) :=
  (txAt s 0).bind fun a => (chAt s.data.toList a.2).bind fun b => (chAt s.data.toList b.2).bind fun c => (chAt s.data.toList c.2).bind fun d => (flagAt s.data.toList d.2).bind fun f =>
  if Sp.may ⟨a.1, b.1, c.1, d.1, decide (f = 1)⟩ then some (⟨a.1, b.1, c.1, d.1, decide (f = 1)⟩, d.2 + 1) else none
theorem chain_small {v : Int} (h0 : 0 ≤ v) (h1 : v < 128) : chain v = [UInt8.ofNat v.toNat] := by
  unfold chain chF
  rw [if_pos h1]
theorem ofNat_small {f : UInt8} (h : f.toNat ≤ 1) : UInt8.ofNat ((f.toNat : Int)).toNat = f := by simp
theorem flag_chain {l : List UInt8} {p f : Nat} (h : flagAt l p = some f) : chAt l p = some ((f : Int), p + 1) ∧ f ≤ 1 := by
  unfold flagAt at h
  cases hl : l[p]? with
  | none => rw [hl] at h; cases h
  | some x =>
    rw [hl] at h
    dsimp only at h
    by_cases hx : x.toNat ≤ 1
    · rw [if_pos hx] at h
      cases h
      have hd : l.drop p = chain (x.toNat : Int) ++ l.drop (p + 1) := by
        obtain ⟨hp, rfl⟩ := List.getElem?_eq_some_iff.1 hl
        rw [chain_small (by omega) (by omega), ofNat_small hx, List.drop_eq_getElem_cons hp]; rfl
      have := chAt_chain hd (by omega) (by omega)
      rw [chain_small (by omega) (by omega)] at this
      exact ⟨this, hx⟩
    · rw [if_neg hx] at h; cases h
theorem chain_flag {l : List UInt8} {p q : Nat} {v : Int} (h : chAt l p = some (v, q)) (hp : p ≤ l.length) (hv : v ≤ 1) : flagAt l p = some v.toNat ∧ q = p + 1 := by
  obtain ⟨h1, h2, h3, h4, h5⟩ := chAt_back h hp
  have h6 := chAt_chain h5 h3 h4
  rw [h] at h6
  rw [chain_small h3 (by omega)] at h5 h6
  simp only [Option.some.injEq, Prod.mk.injEq] at h6
  have hl : l[p]? = some (UInt8.ofNat v.toNat) := by
    have : (l.drop p)[0]? = some (UInt8.ofNat v.toNat) := by rw [h5]; rfl
    rw [List.getElem?_drop] at this
    simpa using this
  refine ⟨?_, by simpa using h6.2⟩
  unfold flagAt
  rw [hl]
  have e : (UInt8.ofNat v.toNat).toNat = v.toNat := by rw [UInt8.toNat_ofNat']; omega
  dsimp only
  rw [e, if_pos (by omega)]
theorem dec_enc {x : Sp} (hx : x.may = true) {s : ByteArray} {t : List UInt8} (h : s.data.toList = encT x ++ t) : decT s = some (x, (encT x).length) := by
  have hok : x.ok := of_decide_eq_true hx
  obtain ⟨hn, ⟨p0, p1⟩, ⟨a0, a1⟩, ⟨z0, z1⟩⟩ := hok
  have hnm := nameB_split hn
  unfold encT at h
  have h0 : s.data.toList.drop 0 = textL x.nm.data.toList ++ (chain x.parts ++ (chain x.age ++ (chain x.size ++ ([UInt8.ofNat (flagI x.comp).toNat] ++ t)))) := by
    rw [List.drop_zero, h]; simp [List.append_assoc]
  have d1 := drop_end h0
  have d2 := drop_end d1
  have d3 := drop_end d2
  have d4 := drop_end d3
  have hfl : flagAt s.data.toList (0 + (textL x.nm.data.toList).length + (chain x.parts).length + (chain x.age).length + (chain x.size).length) = some (flagI x.comp).toNat := by
    have hg : s.data.toList[0 + (textL x.nm.data.toList).length + (chain x.parts).length + (chain x.age).length + (chain x.size).length]? = some (UInt8.ofNat (flagI x.comp).toNat) := by
      have e9 := List.getElem?_drop (xs := s.data.toList) (i := 0 + (textL x.nm.data.toList).length + (chain x.parts).length + (chain x.age).length + (chain x.size).length) (j := 0)
      rw [d4, Nat.add_zero] at e9
      rw [← e9]; rfl
    unfold flagAt
    rw [hg]
    cases x.comp <;> rfl
  unfold decT
  rw [txAt_text h0 (by omega), Option.bind_some]
  dsimp only
  rw [chAt_chain d1 (by omega) (by omega), Option.bind_some]
  dsimp only
  rw [chAt_chain d2 a0 (by omega), Option.bind_some]
  dsimp only
  rw [chAt_chain d3 z0 (by omega), Option.bind_some]
  dsimp only
  rw [hfl, Option.bind_some]
  have hc : decide ((flagI x.comp).toNat = 1) = x.comp := by cases x.comp <;> rfl
  rw [hc, if_pos hx]
  unfold encT
  simp only [List.length_append, List.length_singleton, Option.some.injEq, Prod.mk.injEq, true_and]
  omega
theorem encT_len {x : Sp} (hx : x.may = true) : (encT x).length ≤ 100 := by
  have hok : x.ok := of_decide_eq_true hx
  obtain ⟨hn, _, _, _⟩ := hok
  have hnm := nameB_split hn
  have h1 := (chF_length 9 x.parts).2
  have h2 := (chF_length 9 x.age).2
  have h3 := (chF_length 9 x.size).2
  have h4 := (chF_length 9 (x.nm.data.toList.length : Int)).2
  have h5 : x.nm.data.toList.length = x.nm.size := by simp
  have e1 : (chain x.parts).length ≤ 10 := h1
  have e2 : (chain x.age).length ≤ 10 := h2
  have e3 : (chain x.size).length ≤ 10 := h3
  have e4 : (chain (x.nm.data.toList.length : Int)).length ≤ 10 := h4
  unfold encT textL
  simp only [List.length_append, List.length_singleton]
  omega
theorem chAt_yes {l : List UInt8} {p q : Nat} {v : Int} (hn : chAt l p = some (v, q)) (hp : p ≤ l.length) : ∃ n : Nat, unch (l.drop p) = (v, (n : Int), 0) ∧ q = p + n ∧ p + n ≤ l.length ∧ 0 ≤ v ∧ v < 18446744073709551616 := by
  obtain ⟨a1, a2, a3, a4, _⟩ := chAt_back hn hp
  unfold chAt at hn
  obtain ⟨f0, f1, hf⟩ := unch_facts (l.drop p)
  obtain ⟨a, n, e, hU⟩ : ∃ v n x, unch (l.drop p) = (v, n, x) := ⟨_, _, _, rfl⟩
  rw [hU] at hn hf ⊢
  dsimp only at hn hf
  by_cases he : e = 0
  · subst he
    rw [if_pos rfl] at hn
    simp only [Option.some.injEq, Prod.mk.injEq] at hn
    obtain ⟨rfl, rfl⟩ := hn
    rcases hf with ⟨_, hn1, _⟩ | ⟨hx, _⟩
    · exact ⟨n.toNat, by rw [Int.toNat_of_nonneg (by omega)], rfl, by omega, a3, a4⟩
    · exact absurd rfl hx
  · rw [if_neg he] at hn; cases hn
theorem chAt_no {l : List UInt8} {p : Nat} (hn : chAt l p = none) : ∃ e : Int, unch (l.drop p) = (0, 0, e) ∧ e ≠ 0 := by
  unfold chAt at hn
  obtain ⟨f0, f1, hf⟩ := unch_facts (l.drop p)
  obtain ⟨a, n, e, hU⟩ : ∃ v n x, unch (l.drop p) = (v, n, x) := ⟨_, _, _, rfl⟩
  rw [hU] at hn hf ⊢
  dsimp only at hn hf
  by_cases he : e = 0
  · rw [if_pos he] at hn; cases hn
  · rcases hf with ⟨h, _⟩ | ⟨_, h1, h2, _⟩
    · exact absurd h he
    · exact ⟨e, by rw [h1, h2], he⟩
theorem txAt_yes {s x : ByteArray} {q : Nat} (hn : txAt s 0 = some (x, q)) : untx (s.extract 0 s.size) = (x, (q : Int), 0) ∧ q ≤ s.size := by
  obtain ⟨a1, a2, _⟩ := txAt_back hn (Nat.zero_le _)
  unfold txAt at hn
  obtain ⟨a, n, e, hU⟩ : ∃ v n x, untx (s.extract 0 s.size) = (v, n, x) := ⟨_, _, _, rfl⟩
  rw [hU] at hn ⊢
  dsimp only at hn
  by_cases he : e = 0
  · subst he
    rw [if_pos rfl] at hn
    simp only [Option.some.injEq, Prod.mk.injEq, Nat.zero_add] at hn
    obtain ⟨rfl, rfl⟩ := hn
    obtain ⟨h1, h2, h3⟩ := untx_back _ _ _ hU
    exact ⟨by rw [Int.toNat_of_nonneg (by omega)], a2⟩
  · rw [if_neg he] at hn; cases hn
theorem txAt_no {s : ByteArray} (hn : txAt s 0 = none) : ∃ (x : ByteArray) (n e : Int), untx (s.extract 0 s.size) = (x, n, e) ∧ e ≠ 0 := by
  unfold txAt at hn
  obtain ⟨a, n, e, hU⟩ : ∃ v n x, untx (s.extract 0 s.size) = (v, n, x) := ⟨_, _, _, rfl⟩
  rw [hU] at hn
  dsimp only at hn
  by_cases he : e = 0
  · rw [if_pos he] at hn; cases hn
  · exact ⟨a, n, e, hU, he⟩
theorem ext_all (s : ByteArray) : s.extract 0 s.size = s := ByteArray.extract_zero_size
end Go.Proofs.Ytpfnpfbimadjkaa.W
