/- Package catalog: the reader of an entry's fields. -/
import Derived.Test.YtgogackkeodciaaGreatCgC
import Derived.Test.YtgogackkeodciaaGreatTpF
import Derived.Test.YtgogackkeodciaaGreatUntexts
namespace Go.Proofs.YtgogackkeodciaaGreat.W
open Go.RowKit Go.Sort
open Go.Proofs.YtgogackkeodciaaGreat.M Go.Proofs.YtgogackkeodciaaGreat.D Go.Proofs.YtgogackkeodciaaGreat.Z
set_option linter.unusedVariables false
set_option linter.unusedSimpArgs false

abbrev enL (cb : Nat) (rest : ByteArray) (brk : Bool) : List Value := [.pointer (some ⟨cb, 0, none⟩), .string rest, .bool brk]
theorem sext (s : ByteArray) (p k : Nat) (h : p + k ≤ s.size) : (s.extract p s.size).extract k (s.extract p s.size).size = s.extract (p + k) s.size := by
  rw [ByteArray.extract_extract, ByteArray.size_extract]
  congr 1
  omega
theorem pass_any (xb cb : Nat) (rest : ByteArray) (brk : Bool) (k : Nat) (e : Int) (w : World) (h : Whole w xb 82 (enL cb rest brk)) (hk : k ≤ rest.size) (hs : rest.size ≤ 100000) :
    Calls Tryz.prog 106 #[.pointer (some ⟨xb, 1, none⟩), .int .i64 (k : Int), .int .i64 e] w fun r w' => r = .returned (.tuple #[]) ∧ Whole w' xb 82 (enL cb (rest.extract k rest.size) (brk || decide (e ≠ 0))) ∧ Kept (fun q => q = xb) w w' := by
  have c1 : w.cell? ⟨xb, 1, none⟩ = some (.string rest) := h.cell 1
  have c2 : w.cell? ⟨xb, 2, none⟩ = some (.bool brk) := h.cell 2
  have f1 : w.frozen? ⟨xb, 1, none⟩ = false := h.frozen 1
  have f2 : w.frozen? ⟨xb, 2, none⟩ = false := h.frozen 2
  have hsl := fun W => slice_from22 rest k hk W
  have hfin : ∀ b2, Hid (Whole ((w.setCell ⟨xb, 2, none⟩ (.bool b2)).setCell ⟨xb, 1, none⟩ (.string (rest.extract k rest.size))) xb 82 (enL cb (rest.extract k rest.size) b2) ∧ Kept (fun q => q = xb) w ((w.setCell ⟨xb, 2, none⟩ (.bool b2)).setCell ⟨xb, 1, none⟩ (.string (rest.extract k rest.size)))) := fun b2 => Lib.hid
    ⟨(h.store 2 [.bool b2] (by simp)).store 1 [.string (rest.extract k rest.size)] (by simp [splice]), ((Kept.refl (fun q => q = xb) w).setCells (c := xb) (.inl rfl) 2 [.bool b2]).setCells (c := xb) (.inl rfl) 1 [.string (rest.extract k rest.size)]⟩
  cases brk with
  | true =>
    have hf := hfin true
    clear h hfin
    rw [Bool.true_or]
    go_enter Tryz.func106, Tryz.ntmps106
    go_wp2_with fail
    go_end0
    exact ⟨rfl, hf.out⟩
  | false =>
    rw [Bool.false_or]
    by_cases he : e = 0
    · subst he
      have hf := hfin false
      clear h hfin
      rw [decide_eq_false (fun e : (0 : Int) ≠ 0 => e rfl)]
      go_enter Tryz.func106, Tryz.ntmps106
      go_wp2_with fail
      go_end0
      exact ⟨rfl, hf.out⟩
    · have hf := hfin true
      have e1 : (e != 0) = true := by simpa using he
      have e2 : (e == 0) = false := by simpa using he
      clear h hfin
      rw [decide_eq_true he]
      replace he := Lib.hid he
      go_enter Tryz.func106, Tryz.ntmps106
      go_wp2_with fail
      go_end0
      exact ⟨rfl, hf.out⟩
/-- An entry that is read: up to a place, or broken. -/
def RdC (W : World) (xb cb : Nat) (s : ByteArray) (st : Option Nat) : Prop := ∃ rest brk, Whole W xb 82 (enL cb rest brk) ∧ rest.size ≤ 100000 ∧ (∀ p, st = some p → rest = s.extract p s.size ∧ brk = false ∧ p ≤ s.size) ∧ (st = none → brk = true)
theorem RdC.kept {own : Nat → Prop} {W W' : World} {xb cb : Nat} {s : ByteArray} {st : Option Nat} (h : RdC W xb cb s st) (hk : Kept own W W') (ho : ¬ own xb) : RdC W' xb cb s st := by
  obtain ⟨rest, brk, h1, h2⟩ := h
  exact ⟨rest, brk, h1.of_kept hk ho, h2⟩
theorem RdC.below {W W' : World} {xb cb : Nat} {s : ByteArray} {st : Option Nat} (h : RdC W xb cb s st) (hb : Below W.heap.size W W') : RdC W' xb cb s st := h.kept (Kept.of_below (own := fun _ => False) hb) (fun e => e)
def nextN (s : ByteArray) (st : Option Nat) : Option Nat := st.bind fun p => (chAt s.data.toList p).map (·.2)
def nextT (s : ByteArray) (st : Option Nat) : Option Nat := st.bind fun p => (txAt s p).map (·.2)
def nextS (s : ByteArray) (st : Option Nat) : Option Nat := st.bind fun p => (decTp (s.extract p s.size)).map fun u => p + u.2
def isNo (s : ByteArray) (st : Option Nat) (v : Int) : Prop := ∀ p u q, st = some p → chAt s.data.toList p = some (u, q) → v = wrap64 u ∧ 0 ≤ u ∧ u < 18446744073709551616
def isTx (s : ByteArray) (st : Option Nat) (x : ByteArray) : Prop := x.size ≤ 100000 ∧ ∀ p u q, st = some p → txAt s p = some (u, q) → x = u
def isSp (s : ByteArray) (st : Option Nat) (x : Sp) : Prop := ∀ p u k, st = some p → decTp (s.extract p s.size) = some (u, k) → x = u
theorem unch_ways (l : List UInt8) : ∃ (v : Int) (k : Nat) (e : Int), unch l = (v, (k : Int), e) ∧ k ≤ l.length ∧ 0 ≤ v ∧ v < 18446744073709551616 := by
  obtain ⟨f0, f1, hf⟩ := unch_facts l
  obtain ⟨a, n, e, hU⟩ : ∃ v n x, unch l = (v, n, x) := ⟨_, _, _, rfl⟩
  rw [hU] at hf f0 f1 ⊢
  dsimp only at hf f0 f1
  refine ⟨a, n.toNat, e, ?_, ?_, f0, f1⟩
  · rcases hf with ⟨_, h, _⟩ | ⟨_, _, h, _⟩
    · rw [Int.toNat_of_nonneg (by omega)]
    · rw [h]; rfl
  · rcases hf with ⟨_, h, h2, _⟩ | ⟨_, _, h, _⟩ <;> omega
theorem untx_ways (s : ByteArray) : ∃ (x : ByteArray) (k : Nat) (e : Int), untx s = (x, (k : Int), e) ∧ k ≤ s.size ∧ x.size ≤ s.size := by
  obtain ⟨v, k, e, hU, hk, h0, h1⟩ := unch_ways s.data.toList
  have hl : s.data.toList.length = s.size := by simp
  unfold untx
  rw [hU]
  dsimp only
  split
  · exact ⟨_, 0, _, rfl, Nat.zero_le _, by rw [show (B ([] : List UInt8)).size = 0 from rfl]; exact Nat.zero_le _⟩
  · split
    · exact ⟨_, 0, _, rfl, Nat.zero_le _, by rw [show (B ([] : List UInt8)).size = 0 from rfl]; exact Nat.zero_le _⟩
    · split
      · exact ⟨_, 0, _, rfl, Nat.zero_le _, by rw [show (B ([] : List UInt8)).size = 0 from rfl]; exact Nat.zero_le _⟩
      · refine ⟨s.extract ((k : Int)).toNat ((k : Int) + v).toNat, k + v.toNat, 0, ?_, by omega, by rw [ByteArray.size_extract]; omega⟩
        rw [show ((k + v.toNat : Nat) : Int) = (k : Int) + v by omega]
theorem decTp_le {s : ByteArray} {x : Sp} {k : Nat} (h : decTp s = some (x, k)) : k ≤ s.size := by
  unfold decTp at h
  simp only [Option.bind_eq_some_iff] at h
  obtain ⟨a, _, b, _, c, _, d, _, f, hf, h⟩ := h
  split at h
  · have e := Option.some.inj h
    simp only [Prod.mk.injEq] at e
    unfold flagAt at hf
    cases hl : s.data.toList[d.2]? with
    | none => rw [hl] at hf; cases hf
    | some y =>
      have := (List.getElem?_eq_some_iff.1 hl).1
      have hl2 : s.data.toList.length = s.size := by simp
      omega
  · cases h
/-- What is left behind a field of k bytes. -/
theorem RdC.made {W : World} {xb cb : Nat} {s rest : ByteArray} {brk : Bool} {st st' : Option Nat} {k : Nat} {e : Int} (h : Whole W xb 82 (enL cb (rest.extract k rest.size) (brk || decide (e ≠ 0)))) (hz : rest.size ≤ 100000) (hk : k ≤ rest.size)
    (h1 : ∀ p, st = some p → rest = s.extract p s.size ∧ brk = false ∧ p ≤ s.size) (h2 : st = none → brk = true) (hy : ∀ p, st = some p → (e = 0 ∧ st' = some (p + k)) ∨ (e ≠ 0 ∧ st' = none)) (hn : st = none → st' = none) : RdC W xb cb s st' := by
  refine ⟨_, _, h, by rw [ByteArray.size_extract]; omega, fun p' e' => ?_, fun e' => ?_⟩
  · cases st with
    | none => rw [hn rfl] at e'; cases e'
    | some p =>
      obtain ⟨rfl, rfl, hp⟩ := h1 p rfl
      rcases hy p rfl with ⟨rfl, h3⟩ | ⟨_, h3⟩
      · rw [h3] at e'
        cases e'
        have hle : p + k ≤ s.size := by rw [ByteArray.size_extract] at hk; omega
        exact ⟨sext s p k hle, by simp, hle⟩
      · rw [h3] at e'; cases e'
  · cases st with
    | none => rw [h2 rfl]; rfl
    | some p =>
      rcases hy p rfl with ⟨rfl, h3⟩ | ⟨h4, _⟩
      · rw [h3] at e'; cases e'
      · rw [decide_eq_true h4]; simp
set_option maxRecDepth 100000 in
theorem number23_any (xb cb : Nat) (s : ByteArray) (st : Option Nat) (w : World) (h : RdC w xb cb s st) :
    Calls Tryz.prog 81 #[.pointer (some ⟨xb, 1, none⟩)] w fun e w' => ∃ v, e = .returned (.int .i64 v) ∧ (RdC w' xb cb s (nextN s st) ∧ Kept (fun q => q = xb) w w' ∧ isNo s st v ∧ (Lit.int .i64 v).wf = true) := by
  obtain ⟨rest, brk, hW, hz, h1, h2⟩ := h
  obtain ⟨v, k, e, hU, hk, v0, v1⟩ := unch_ways rest.data.toList
  have hl : rest.data.toList.length = rest.size := by simp
  have hun := unchain_any rest w (by omega)
  rw [hU] at hun
  have hps := pass_any xb cb rest brk k e w hW (by omega) hz
  have c1 : w.cell? ⟨xb, 1, none⟩ = some (.string rest) := hW.cell 1
  have hfin : Hid (∀ w' : World, Whole w' xb 82 (enL cb (rest.extract k rest.size) (brk || decide (e ≠ 0))) → Kept (fun q => q = xb) w w' → RdC w' xb cb s (nextN s st) ∧ Kept (fun q => q = xb) w w' ∧ isNo s st (wrap64 v) ∧ (Lit.int .i64 (wrap64 v)).wf = true) := Lib.hid (fun w' g1 g2 => by
    refine ⟨RdC.made g1 hz (by omega) h1 h2 (fun p ep => ?_) (fun ep => by unfold nextN; rw [ep]; rfl), g2, fun p u q ep hc => ?_, by simp [Lit.wf, IntKind.min, IntKind.max, IntKind.signed, IntKind.bits]; unfold wrap64; omega⟩
    · obtain ⟨hr, _, hp⟩ := h1 p ep
      unfold nextN
      rw [ep]
      show _ ∨ (_ ∧ (chAt s.data.toList p).map _ = none)
      rw [hr, ext_drop] at hU
      by_cases he : e = 0
      · subst he
        refine .inl ⟨rfl, ?_⟩
        show (chAt s.data.toList p).map _ = _
        unfold chAt
        rw [hU]
        simp
      · refine .inr ⟨he, ?_⟩
        unfold chAt
        rw [hU]
        simp [he]
    · obtain ⟨hr, _, hp⟩ := h1 p ep
      rw [hr, ext_drop] at hU
      unfold chAt at hc
      rw [hU] at hc
      dsimp only at hc
      split at hc
      · have := Option.some.inj hc
        simp only [Prod.mk.injEq] at this
        rw [← this.1]
        exact ⟨rfl, v0, v1⟩
      · cases hc)
  replace hun := Lib.hid hun
  replace hps := Lib.hid hps
  clear hW h1 h2 hU hl
  go_enter Tryz.func81, Tryz.ntmps81
  go_wp2_with fail
  refine hun.out.mono ?_
  rintro _ w2 ⟨rfl, rfl⟩
  go_wp2_with fail
  refine hps.out.mono ?_
  rintro _ w3 ⟨rfl, g1, g2⟩
  have hf := Lib.hid (hfin.out w3 g1 g2)
  clear g1 g2 hfin hps hun c1
  go_wp2_with fail
  go_ret
  exact ⟨_, rfl, hf.out⟩
set_option maxRecDepth 100000 in
theorem text23_any (xb cb : Nat) (s : ByteArray) (st : Option Nat) (w : World) (h : RdC w xb cb s st) :
    Calls Tryz.prog 87 #[.pointer (some ⟨xb, 1, none⟩)] w fun e w' => ∃ x, e = .returned (.string x) ∧ (RdC w' xb cb s (nextT s st) ∧ Kept (fun q => q = xb) w w' ∧ isTx s st x) := by
  obtain ⟨rest, brk, hW, hz, h1, h2⟩ := h
  obtain ⟨x, k, e, hU, hk, hxs⟩ := untx_ways rest
  have hun := untext_any rest w (by omega)
  rw [hU] at hun
  have hps := fun W (hb : Below w.heap.size w W) => pass_any xb cb rest brk k e W (hW.below hb hW.lt) (by omega) hz
  have c1 : w.cell? ⟨xb, 1, none⟩ = some (.string rest) := hW.cell 1
  have hfin : Hid (∀ w' : World, Whole w' xb 82 (enL cb (rest.extract k rest.size) (brk || decide (e ≠ 0))) → Kept (fun q => q = xb) w w' → RdC w' xb cb s (nextT s st) ∧ Kept (fun q => q = xb) w w' ∧ isTx s st x) := Lib.hid (fun w' g1 g2 => by
    refine ⟨RdC.made g1 hz (by omega) h1 h2 (fun p ep => ?_) (fun ep => by unfold nextT; rw [ep]; rfl), g2, by omega, fun p u q ep hc => ?_⟩
    · obtain ⟨hr, _, hp⟩ := h1 p ep
      unfold nextT
      rw [ep]
      rw [hr] at hU
      by_cases he : e = 0
      · subst he
        refine .inl ⟨rfl, ?_⟩
        show (txAt s p).map _ = _
        unfold txAt
        rw [hU]
        simp
      · refine .inr ⟨he, ?_⟩
        show (txAt s p).map _ = _
        unfold txAt
        rw [hU]
        simp [he]
    · obtain ⟨hr, _, hp⟩ := h1 p ep
      rw [hr] at hU
      unfold txAt at hc
      rw [hU] at hc
      dsimp only at hc
      split at hc
      · have := Option.some.inj hc
        simp only [Prod.mk.injEq] at this
        exact this.1
      · cases hc)
  replace hun := Lib.hid hun
  replace hps := Lib.hid hps
  clear hW h1 h2 hU
  go_enter Tryz.func87, Tryz.ntmps87
  go_wp2_with fail
  refine hun.out.mono ?_
  rintro _ w2 ⟨rfl, hb2⟩
  have hp2 := Lib.hid (hps.out w2 hb2)
  replace hb2 := Lib.hid hb2
  go_wp2_with fail
  refine hp2.out.mono ?_
  rintro _ w3 ⟨rfl, g1, g2⟩
  have hf := Lib.hid (hfin.out w3 g1 ((Kept.of_below hb2.out).trans g2))
  clear g1 g2 hfin hps hun c1 hp2 hb2
  go_wp2_with fail
  go_ret
  exact ⟨_, rfl, hf.out⟩
theorem whole23_any (xb cb : Nat) (s : ByteArray) (st : Option Nat) (w : World) (h : RdC w xb cb s st) :
    Calls Tryz.prog 83 #[.pointer (some ⟨xb, 1, none⟩)] w fun e w' => e = .returned (.bool (decide (st = some s.size))) ∧ w = w' := by
  obtain ⟨rest, brk, hW, hz, h1, h2⟩ := h
  have c1 : w.cell? ⟨xb, 1, none⟩ = some (.string rest) := hW.cell 1
  have c2 : w.cell? ⟨xb, 2, none⟩ = some (.bool brk) := hW.cell 2
  cases st with
  | none =>
    obtain rfl := h2 rfl
    rw [decide_eq_false (by simp)]
    clear h1 h2 hW
    go_enter Tryz.func83, Tryz.ntmps83
    go_wp2_with fail
    go_ret
    exact ⟨rfl, rfl⟩
  | some p =>
    obtain ⟨hr, rfl, hp⟩ := h1 p rfl
    have hsz : rest.size = s.size - p := by rw [hr, ByteArray.size_extract]; omega
    by_cases e : p = s.size
    · subst e
      have he : rest.toList = [] := by rw [Lib.toList_data]; exact List.eq_nil_of_length_eq_zero (by rw [show rest.data.toList.length = rest.size by simp]; omega)
      have he2 : rest.toList.isEmpty = true := by rw [he]; rfl
      rw [decide_eq_true rfl]
      clear h1 h2 hW hr hsz
      replace he := Lib.hid he
      have he3 : (rest.toList == []) = true := by rw [he.out]; rfl
      go_enter Tryz.func83, Tryz.ntmps83
      go_wp2_with fail
      go_ret
      exact ⟨rfl, rfl⟩
    · have hne : rest.toList ≠ [] := fun q => by
        rw [Lib.toList_data] at q
        have h3 : rest.data.toList.length = rest.size := by simp
        rw [q] at h3
        have h4 : rest.size = 0 := h3.symm
        omega
      have he2 : rest.toList.isEmpty = false := by cases hh : rest.toList with
        | nil => exact absurd hh hne
        | cons a l => rfl
      rw [decide_eq_false (fun q => e (Option.some.inj q))]
      have he3 : (rest.toList == []) = false := by simpa using hne
      clear h1 h2 hW hr hsz
      replace e := Lib.hid e
      go_enter Tryz.func83, Tryz.ntmps83
      go_wp2_with fail
      go_ret
      exact ⟨rfl, rfl⟩
end Go.Proofs.YtgogackkeodciaaGreat.W
