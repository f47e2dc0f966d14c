/- Package catalog: entries that are applied: setCount, dropTopic. -/
import Derived.Test.YtgogackkeodciaaGreatCgE
namespace Go.Proofs.YtgogackkeodciaaGreat.W
open Go.RowKit Go.Sort
open Go.Proofs.YtgogackkeodciaaGreat.M Go.Proofs.YtgogackkeodciaaGreat.D Go.Proofs.YtgogackkeodciaaGreat.Z
set_option linter.unusedVariables false
set_option linter.unusedSimpArgs false

/-- What applying leaves, when the entry comes to R. -/
def ApPost (B0 xb cb : Nat) (m : Option Nat) (T : List To) (n : Int) (c : Nat) (R : Option (List To × Int)) (w : World) (e : Ending) (w' : World) : Prop :=
  ∃ m', e = .returned (.bool R.isSome) ∧ CaAt B0 w' cb m' (R.getD (T, n)).1 (R.getD (T, n)).2 (c + 4) ∧ Kept (fun q => q = xb ∨ ofC cb m q) w w' ∧ (m' = m ∨ (m = none ∧ ∃ mb, m' = some mb ∧ w.heap.size ≤ mb))
theorem CtAt.up {B : Nat} {w : World} {cb : Nat} {m : Option Nat} {S : List Sp} {F : ByteArray → Int → Option Mt} {n : Int} {c c' : Nat} (h : CtAt B w cb m S F n c) (hc : c ≤ c') : CtAt B w cb m S F n c' := ⟨h.box, h.eight, h.map.up hc, h.new, h.newM⟩
theorem CtAt.setCnt {B : Nat} {w : World} {cb : Nat} {m : Option Nat} {S : List Sp} {F : ByteArray → Int → Option Mt} {n : Int} {c : Nat} (h : CtAt B w cb m S F n c) (v : Int) : CtAt B (w.setCell ⟨cb, 41, none⟩ (.int .i64 v)) cb m S F v c := by
  have hk : Kept (fun q => q = cb) w (w.setCells cb 41 [.int .i64 v]) := (Kept.refl (fun q => q = cb) w).setCells (c := cb) (.inl rfl) 41 [.int .i64 v]
  refine ⟨?_, h.eight, h.map.kept hk (fun mb e1 e2 => h.map.ne h.box (by rw [e1, e2])), h.new, h.newM⟩
  rw [← ctL_setCnt h.eight m n v]
  exact h.box.store 41 [.int .i64 v] (by rw [ctL_len h.eight]; simp)
theorem CtAt.setSlot {B : Nat} {w : World} {cb : Nat} {m : Option Nat} {S : List Sp} {F : ByteArray → Int → Option Mt} {n : Int} {c : Nat} (h : CtAt B w cb m S F n c) (i : Nat) (hi : i < 8) (x : Sp) : CtAt B (w.setCells cb (i * 5) (spL x)) cb m (S.set i x) F n c := by
  have hk : Kept (fun q => q = cb) w (w.setCells cb (i * 5) (spL x)) := (Kept.refl (fun q => q = cb) w).setCells (c := cb) (.inl rfl) (i * 5) (spL x)
  refine ⟨?_, by rw [List.length_set]; exact h.eight, h.map.kept hk (fun mb e1 e2 => h.map.ne h.box (by rw [e1, e2])), h.new, h.newM⟩
  rw [← ctL_setSp h.eight m n hi x]
  exact h.box.store (i * 5) (spL x) (by rw [ctL_len h.eight]; simp; omega)
theorem CaAt.kept {own : Nat → Prop} {B : Nat} {w w' : World} {cb : Nat} {m : Option Nat} {T : List To} {n : Int} {c : Nat} (h : CaAt B w cb m T n c) (hk : Kept own w w') (ho : ∀ q, ofC cb m q → ¬ own q) : CaAt B w' cb m T n c := ⟨h.ok, h.at_.kept hk ho⟩
theorem entry_ne {B0 xb cb : Nat} {m : Option Nat} {T : List To} {n : Int} {c : Nat} {s : ByteArray} {st : Option Nat} {w : World} (h : CaAt B0 w cb m T n c) (hr : RdC w xb cb s st) : ¬ ofC cb m xb := by
  obtain ⟨rest, brk, hW, _⟩ := hr
  exact h.at_.ne hW (by decide)
/-- An entry that may not be. -/
theorem ap_no {B0 xb cb : Nat} {m : Option Nat} {T : List To} {n : Int} {c : Nat} {R : Option (List To × Int)} {w w' : World} (h : CaAt B0 w cb m T n c) (hx : ¬ ofC cb m xb) (hR : R = none) (hk : Kept (fun q => q = xb) w w') : ApPost B0 xb cb m T n c R w (.returned (.bool false)) w' := by
  subst hR
  refine ⟨m, rfl, ⟨h.ok, (h.at_.kept hk (fun q hq e => hx (e ▸ hq))).up (by omega)⟩, hk.mono (fun k _ e => .inl e), .inl rfl⟩
theorem cnt_key {T : List To} {n v : Int} {s : ByteArray} (h : isNo s (some 0) v) (hn : 0 ≤ n) : (nextN s (some 0) ≠ some s.size → cntF T n s = none) ∧ (nextN s (some 0) = some s.size → cntF T n s = if n ≤ v ∧ v ≤ 4294967295 then some (T, v) else none) := by
  unfold nextN cntF
  simp only [Option.bind_some]
  cases hc : chAt s.data.toList 0 with
  | none => simp
  | some u =>
    obtain ⟨u, q⟩ := u
    obtain ⟨hv, u0, u1⟩ := h 0 u q rfl hc
    have hw := wrap64_lo u0 u1
    rw [← hv] at hw
    simp only [Option.map_some, ne_eq, Option.some.injEq]
    constructor
    · intro e; rw [if_neg (fun a => e a.1)]
    · intro e
      rcases hw with ⟨e1, e2⟩ | ⟨e1, e2⟩
      · rw [e1]
        by_cases a : n ≤ u ∧ u ≤ 4294967295
        · rw [if_pos a, if_pos ⟨e, a⟩]
        · rw [if_neg a, if_neg (fun b => a b.2)]
      · rw [if_neg (by omega), if_neg (by omega)]
set_option maxRecDepth 100000 in
set_option maxHeartbeats 2000000 in
theorem setCount_any {B0 : Nat} (xb cb : Nat) (m : Option Nat) (T : List To) (n : Int) (c : Nat) (s : ByteArray) (w : World) (h : CaAt B0 w cb m T n c) (hr : RdC w xb cb s (some 0)) :
    Calls Tryz.prog 60 #[.pointer (some ⟨xb, 0, none⟩)] w (ApPost B0 xb cb m T n c (cntF T n s) w) := by
  have hx := entry_ne h hr
  have hnm := Lib.hid (number23_any xb cb s (some 0) w hr)
  have hn0 := h.ok.n0
  have hxc : xb ≠ cb := fun e => hx (.inl e)
  replace h := Lib.hid h
  clear hr
  go_enter Tryz.func60, Tryz.ntmps60
  go_wp2_with fail
  refine hnm.out.mono ?_
  rintro _ w2 ⟨v, rfl, r2, k2, no2, wf2⟩
  obtain ⟨hk1, hk2⟩ := cnt_key (T := T) (n := n) no2 hn0
  have hwh := whole23_any xb cb s _ w2 r2
  obtain ⟨Bw, hBw⟩ : ∃ b, Hid (decide (nextN s (some 0) = some s.size) = b) := ⟨_, Lib.hid rfl⟩
  rw [hBw.out] at hwh
  obtain ⟨rest, brk, hW2, _⟩ := id r2
  have c0 : w2.cell? ⟨xb, 0, none⟩ = some (.pointer (some ⟨cb, 0, none⟩)) := hW2.cell 0
  have hC2 := h.out.at_.kept k2 (fun q hq e => hx (e ▸ hq))
  have c41 : w2.cell? ⟨cb, 41, none⟩ = some (.int .i64 n) := by rw [hC2.box.cell, ctL_cnt hC2.eight]
  have f41 : w2.frozen? ⟨cb, 41, none⟩ = false := hC2.box.frozen 41
  replace hwh := Lib.hid hwh
  clear hnm hW2 r2 no2
  cases Bw with
  | false =>
    have hp := Lib.hid (ap_no (R := cntF T n s) h.out hx (hk1 (of_decide_eq_false hBw.out)) k2)
    clear h hk1 hk2 hC2 k2 hBw
    go_wp2_with fail
    refine hwh.out.mono ?_
    rintro _ w3 ⟨rfl, rfl⟩
    go_wp2_with fail
    go_ret
    exact hp.out
  | true =>
    have hF := hk2 (of_decide_eq_true hBw.out)
    have hwi := fun W => within23_any v n 4294967295 W
    clear hk1 hk2 hBw
    by_cases hv : n ≤ v ∧ v ≤ 4294967295
    · rw [if_pos hv] at hF
      rw [decide_eq_true hv] at hwi
      replace hwi := Lib.hid hwi
      have hap : appF T n 4 s = some (T, v) := hF
      have hok := appF_ok h.out.ok hap
      have hp : Hid (ApPost B0 xb cb m T n c (cntF T n s) w (.returned (.bool true)) (w2.setCell ⟨cb, 41, none⟩ (.int .i64 v))) := Lib.hid (by
        rw [hF]
        exact ⟨m, rfl, ⟨hok, (hC2.setCnt v).up (by omega)⟩, (k2.mono (fun k _ e => Or.inl e)).setCells (own := fun q => q = xb ∨ ofC cb m q) (c := cb) (.inl (.inr (.inl rfl))) 41 [.int .i64 v], .inl rfl⟩)
      replace hv := Lib.hid hv
      clear h hC2 k2 hF hap hok
      go_wp2_with fail
      refine hwh.out.mono ?_
      rintro _ w3 ⟨rfl, rfl⟩
      go_wp2_with fail
      refine (hwi.out _).mono ?_
      rintro _ w3 ⟨rfl, rfl⟩
      go_wp2_with fail
      go_ret
      exact hp.out
    · rw [if_neg hv] at hF
      rw [decide_eq_false hv] at hwi
      replace hwi := Lib.hid hwi
      have hp := Lib.hid (ap_no (R := cntF T n s) h.out hx hF k2)
      replace hv := Lib.hid hv
      clear h hC2 k2 hF
      go_wp2_with fail
      refine hwh.out.mono ?_
      rintro _ w3 ⟨rfl, rfl⟩
      go_wp2_with fail
      refine (hwi.out _).mono ?_
      rintro _ w3 ⟨rfl, rfl⟩
      go_wp2_with fail
      go_ret
      exact hp.out
end Go.Proofs.YtgogackkeodciaaGreat.W
