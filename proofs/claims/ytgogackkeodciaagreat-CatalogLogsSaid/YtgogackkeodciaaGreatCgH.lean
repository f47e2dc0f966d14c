/- Package catalog: setMeta. -/
import Derived.Test.YtgogackkeodciaaGreatCgJ
import Derived.BigQuiet
import Derived.Lib.QuietBelow
namespace Go.Proofs.YtgogackkeodciaaGreat.W
open Go.RowKit Go.Sort
open Go.Proofs.YtgogackkeodciaaGreat.M Go.Proofs.YtgogackkeodciaaGreat.D Go.Proofs.YtgogackkeodciaaGreat.Z
set_option linter.unusedVariables false
set_option linter.unusedSimpArgs false

theorem below_of_eqH {P : Program} {f : FuncId} {args : Array Value} {v : Value} {W : World} (h : Calls P f args W fun e w' => e = .returned v ∧ W = w') : Calls P f args W fun e w' => e = .returned v ∧ Below W.heap.size W w' := h.mono fun e w' ⟨h1, h2⟩ => ⟨h1, h2 ▸ Below.refl _ _⟩
theorem metaT_wrap {T : List To} {n : Int} (h : CatOk T n) (nm : ByteArray) {u : Int} (h0 : 0 ≤ u) (h1 : u < 18446744073709551616) : metaT T nm (wrap64 u) = metaT T nm u ∧ ((metaT T nm u).isSome = true → wrap64 u = u) := by
  rcases wrap64_lo h0 h1 with ⟨e, _⟩ | ⟨e1, e2⟩
  · exact ⟨by rw [e], fun _ => e⟩
  · have a1 : metaT T nm (wrap64 u) = none := by
      cases hm : metaT T nm (wrap64 u) with
      | none => rfl
      | some y => obtain ⟨_, _, hp, _⟩ := metaT_some h hm; omega
    have a2 : metaT T nm u = none := by
      cases hm : metaT T nm u with
      | none => rfl
      | some y =>
        obtain ⟨x, hf, hp, hy, _⟩ := metaT_some h hm
        have b1 := (List.getElem?_eq_some_iff.1 hy).1
        have b2 := h.parts (h.find.1 hf).1
        omega
    rw [a1, a2]
    exact ⟨rfl, fun e => by cases e⟩
theorem mt_wrap {a b c d : Int} {t : ByteArray} (ha : 0 ≤ a ∧ a < 18446744073709551616) (hb : 0 ≤ b ∧ b < 18446744073709551616) (hc : 0 ≤ c ∧ c < 18446744073709551616) (hd : 0 ≤ d ∧ d < 18446744073709551616) :
    Mt.may ⟨wrap64 a, wrap64 b, wrap64 c, wrap64 d, t⟩ = Mt.may ⟨a, b, c, d, t⟩ ∧ (Mt.may ⟨a, b, c, d, t⟩ = true → wrap64 a = a ∧ wrap64 b = b ∧ wrap64 c = c ∧ wrap64 d = d) := by
  have a1 := wrap64_lo ha.1 ha.2
  have a2 := wrap64_lo hb.1 hb.2
  have a3 := wrap64_lo hc.1 hc.2
  have a4 := wrap64_lo hd.1 hd.2
  constructor
  · unfold Mt.may
    rw [decide_eq_decide]
    unfold Mt.ok
    dsimp only
    constructor
    · rintro ⟨⟨p1, p2⟩, ⟨p3, p4⟩, ⟨p5, p6⟩, p7, p8⟩
      exact ⟨⟨by omega, by omega⟩, ⟨by omega, by omega⟩, ⟨by omega, by omega⟩, by omega, p8⟩
    · rintro ⟨⟨p1, p2⟩, ⟨p3, p4⟩, ⟨p5, p6⟩, p7, p8⟩
      exact ⟨⟨by omega, by omega⟩, ⟨by omega, by omega⟩, ⟨by omega, by omega⟩, by omega, p8⟩
  · intro hm
    obtain ⟨⟨p1, p2⟩, ⟨p3, p4⟩, ⟨p5, p6⟩, p7, p8⟩ : Mt.ok ⟨a, b, c, d, t⟩ := of_decide_eq_true hm
    dsimp only at p1 p2 p3 p4 p5 p6 p7
    exact ⟨by omega, by omega, by omega, by omega⟩
theorem nextN_none (s : ByteArray) : nextN s none = none := rfl
theorem nextT_none (s : ByteArray) : nextT s none = none := rfl
theorem nextN_some {s : ByteArray} {p : Nat} : nextN s (some p) = (chAt s.data.toList p).map (·.2) := rfl
theorem nextT_some {s : ByteArray} {p : Nat} : nextT s (some p) = (txAt s p).map (·.2) := rfl
theorem set_key {T : List To} {n : Int} {s x tb : ByteArray} {v g q r e : Int} {st1 st2 st3 st4 st5 st6 st7 : Option Nat} (h : CatOk T n) (e1 : nextT s (some 0) = st1) (e2 : nextN s st1 = st2) (e3 : nextN s st2 = st3) (e4 : nextN s st3 = st4) (e5 : nextN s st4 = st5) (e6 : nextN s st5 = st6) (e7 : nextT s st6 = st7)
    (hx : isTx s (some 0) x) (hv : isNo s st1 v) (hg : isNo s st2 g) (hq : isNo s st3 q) (hr : isNo s st4 r) (he : isNo s st5 e) (htb : isTx s st6 tb) :
    (st7 ≠ some s.size → setF T n s = none) ∧ (st7 = some s.size → setF T n s = if (metaT T x v).isSome = true ∧ Mt.may ⟨g, q, r, e, tb⟩ = true then some (setT T x v.toNat ⟨g, q, r, e, tb⟩, max n g) else none) := by
  subst e1 e2 e3 e4 e5 e6 e7
  unfold setF
  cases h1 : txAt s 0 with
  | none => rw [nextT_some, h1]; simp [nextN_none, nextT_none, Option.map_none]
  | some u1 =>
  obtain ⟨x', p1⟩ := u1
  obtain rfl := hx.2 0 x' p1 rfl h1
  rw [nextT_some, h1] at hv hg hq hr he htb ⊢
  simp only [Option.map_some] at hv hg hq hr he htb ⊢
  unfold num5
  cases h2 : chAt s.data.toList p1 with
  | none => rw [nextN_some, h2]; simp [nextN_none, nextT_none, Option.map_none]
  | some u2 =>
  obtain ⟨a2, p2⟩ := u2
  obtain ⟨w2, l2, m2⟩ := hv p1 a2 p2 rfl h2
  rw [nextN_some, h2] at hg hq hr he htb ⊢
  simp only [Option.map_some] at hg hq hr he htb ⊢
  cases h3 : chAt s.data.toList p2 with
  | none => rw [nextN_some, h3]; simp [nextN_none, nextT_none, Option.map_none]
  | some u3 =>
  obtain ⟨a3, p3⟩ := u3
  obtain ⟨w3, l3, m3⟩ := hg p2 a3 p3 rfl h3
  rw [nextN_some, h3] at hq hr he htb ⊢
  simp only [Option.map_some] at hq hr he htb ⊢
  cases h4 : chAt s.data.toList p3 with
  | none => rw [nextN_some, h4]; simp [nextN_none, nextT_none, Option.map_none]
  | some u4 =>
  obtain ⟨a4, p4⟩ := u4
  obtain ⟨w4, l4, m4⟩ := hq p3 a4 p4 rfl h4
  rw [nextN_some, h4] at hr he htb ⊢
  simp only [Option.map_some] at hr he htb ⊢
  cases h5 : chAt s.data.toList p4 with
  | none => rw [nextN_some, h5]; simp [nextN_none, nextT_none, Option.map_none]
  | some u5 =>
  obtain ⟨a5, p5⟩ := u5
  obtain ⟨w5, l5, m5⟩ := hr p4 a5 p5 rfl h5
  rw [nextN_some, h5] at he htb ⊢
  simp only [Option.map_some] at he htb ⊢
  cases h6 : chAt s.data.toList p5 with
  | none => rw [nextN_some, h6]; simp [nextN_none, nextT_none, Option.map_none]
  | some u6 =>
  obtain ⟨a6, p6⟩ := u6
  obtain ⟨w6, l6, m6⟩ := he p5 a6 p6 rfl h6
  rw [nextN_some, h6] at htb ⊢
  simp only [Option.map_some] at htb ⊢
  cases h7 : txAt s p6 with
  | none => rw [nextT_some, h7]; simp [Option.map_none]
  | some u7 =>
  obtain ⟨tb', p7⟩ := u7
  obtain rfl := htb.2 p6 tb' p7 rfl h7
  rw [nextT_some, h7]
  simp only [Option.map_some, ne_eq, Option.some.injEq]
  obtain ⟨y1, y2⟩ := metaT_wrap h x l2 m2
  obtain ⟨z1, z2⟩ := mt_wrap (t := tb) ⟨l3, m3⟩ ⟨l4, m4⟩ ⟨l5, m5⟩ ⟨l6, m6⟩
  rw [← w2] at y1 y2
  rw [← w3, ← w4, ← w5, ← w6] at z1 z2
  constructor
  · intro e; rw [if_neg (fun a => e a.1)]
  · intro e
    rw [y1, z1]
    by_cases a : (metaT T x a2).isSome = true ∧ Mt.may ⟨a3, a4, a5, a6, tb⟩ = true
    · obtain ⟨b1, b2, b3, b4⟩ := z2 a.2
      rw [if_pos a, if_pos ⟨e, a⟩, y2 a.1, b1, b2, b3, b4]
    · rw [if_neg a, if_neg (fun b => a b.2)]
theorem spAt_set {T : List To} {n : Int} (h : CatOk T n) {nm : ByteArray} {x : To} (hx : findT T nm = some x) {k : Nat} {m : Mt} (hm : m.ok) (i : Nat) : spAt (setT T nm k m) i = spAt T i := by
  unfold spAt
  rw [slotT_set h hx hm]
  by_cases e : x.slot = (i : Int)
  · rw [if_pos e, h.slot.2 ⟨(h.find.1 hx).1, e⟩]; rfl
  · rw [if_neg e]
/-- What is left of a meta that was put. -/
theorem set_ca {B0 cb : Nat} {T : List To} {n : Int} {c : Nat} {nm : ByteArray} {v : Int} {y : Mt} {m m' : Option Nat} {w w' : World} (h : CaAt B0 w cb m T n c) (hv : (metaT T nm v).isSome = true) (hy : y.ok) (hC : CtAt B0 w' cb m' ((List.range 8).map (spAt T)) (putF (metaT T) nm v y) (max n y.gen) (c + 1)) : CaAt B0 w' cb m' (setT T nm v.toNat y) (max n y.gen) (c + 4) := by
  obtain ⟨z, hz⟩ := Option.isSome_iff_exists.1 hv
  obtain ⟨x, hx, hp, hg, _⟩ := metaT_some h.ok hz
  have hlt := (List.getElem?_eq_some_iff.1 hg).1
  have e1 : (List.range 8).map (spAt T) = (List.range 8).map (spAt (setT T nm v.toNat y)) := by
    congr 1
    funext i
    exact (spAt_set h.ok hx hy i).symm
  have e2 : putF (metaT T) nm v y = metaT (setT T nm v.toNat y) := by
    funext a q
    rw [metaT_set h.ok hx hlt hy]
    unfold putF
    rw [show ((v.toNat : Nat) : Int) = v by omega]
  rw [e1, e2] at hC
  exact ⟨h.ok.set hx hy, hC.up (by omega)⟩
set_option maxRecDepth 100000 in
set_option maxHeartbeats 16000000 in
theorem setMeta_any {B0 : Nat} (xb cb : Nat) (m : Option Nat) (T : List To) (n : Int) (c : Nat) (s : ByteArray) (w : World) (h : CaAt B0 w cb m T n c) (hr : RdC w xb cb s (some 0)) (hB0 : B0 ≤ w.heap.size) (hc : c ≤ 90000) :
    Calls Tryz.prog 59 #[.pointer (some ⟨xb, 0, none⟩)] w (ApPost B0 xb cb m T n c (setF T n s) w) := by
  have hx := entry_ne h hr
  obtain ⟨st1, hst1⟩ : ∃ st, Hid (nextT s (some 0) = st) := ⟨_, Lib.hid rfl⟩
  obtain ⟨st2, hst2⟩ : ∃ st, Hid (nextN s st1 = st) := ⟨_, Lib.hid rfl⟩
  have ht0 := fun W hR => text23_any xb cb s (some 0) W hR
  have hn1 := fun W hR => number23_any xb cb s st1 W hR
  rw [hst1.out] at ht0
  rw [hst2.out] at hn1
  have hxw : xb < w.heap.size := by obtain ⟨_, _, hW, _⟩ := id hr; exact hW.lt
  have hxc : xb ≠ cb := fun e => hx (.inl e)
  have k0 : Kept (ofX xb) w w := Kept.refl _ _
  have k0d : Kept (ofX xb) w w.drew := kD k0
  have r0d : RdC w.drew xb cb s (some 0) := hr
  replace h := Lib.hid h
  replace ht0 := Lib.hid ht0
  replace hn1 := Lib.hid hn1
  have hW0 : ∃ rest brk, Whole w xb 82 (enL cb rest brk) := by obtain ⟨rest, brk, hW, _⟩ := id hr; exact ⟨rest, brk, hW⟩
  go_enter Tryz.func59, Tryz.ntmps59
  go_upto_region 1 with fail
  go_cut [3] from 5 to 13 (fun c wx => ∃ pb x v, c = .pointer (some ⟨pb, 0, none⟩) ∧ Hid (Whole wx pb 33 [.string x, .int .i64 v] ∧ RdC wx xb cb s st2 ∧ Kept (ofX xb) w wx ∧ w.heap.size ≤ pb ∧ isTx s (some 0) x ∧ isNo s st1 v ∧ (Lit.int .i64 v).wf = true))
  case first =>
    go_region_held3 (fun w' => Kept (ofX xb) w w') (first | assumption | exact kA (by assumption) _ | exact kAd (by assumption) _ | exact kS2 (by first | assumption | exact kA (by assumption) _) (by first | exact Nat.le_refl _ | assumption) _ _ | (go_keep)) (first
      | (go_at_call 87; (with_reducible refine (ht0.out _ (by first | assumption | exact RdC.al (by assumption) _ | exact RdC.ald (by assumption) _)).mono ?_); rintro _ w6 ⟨x6, rfl, r6, k6, i6⟩; have s6 : Kept (ofX xb) w w6 := Kept.trans (by assumption) k6; have z6 : w.heap.size ≤ w6.heap.size := s6.size; have e6 : ¬ ofX xb w6.heap.size := (fun e : w6.heap.size = xb => absurd hxw (by omega)); (try (first | (have b6 := nK2 k6 (fun e : w.heap.size = xb => absurd hxw (by omega))) | (have b6 := nK2d k6 (fun e : w.heap.size = xb => absurd hxw (by omega))))))
      | (go_at_call 81; (with_reducible refine (hn1.out _ (by first | assumption | exact RdC.al (by assumption) _ | exact RdC.ald (by assumption) _)).mono ?_); rintro _ w7 ⟨v7, rfl, r7, k7, i7, wf7⟩; have s7 : Kept (ofX xb) w w7 := Kept.trans (by first | assumption | exact kA (by assumption) _) k7; have z7 : w.heap.size ≤ w7.heap.size := s7.size; (try (first | (have b7 := b6.of_kept k7 (fun e : w.heap.size = xb => absurd hxw (by omega))) | (have b7 := nK2 k7 e6))); (try have b70 := b7.cell 0); (try have b71 := b7.cell 1); (try have f70 := b7.frozen 0); (try have f71 := b7.frozen 1)))
    -- MEET
    all_goals rename_i hHeld
    all_goals go_wp2_with fail
    all_goals go_meet
    all_goals first
      | exact ⟨_, x6, v7, rfl, Lib.hid ⟨(whole_all b7 rfl : Whole (World.setCells w7 _ 0 [.string x6, .int .i64 v7]) _ _ [.string x6, .int .i64 v7]), RdC.st2 r7 (by omega) _ _, hHeld, by first | exact Nat.le_refl _ | assumption, i6, i7, wf7⟩⟩
      | exact ⟨_, x6, v7, rfl, Lib.hid ⟨Whole.new w7 _ _, RdC.al r7 _, hHeld, z7, i6, i7, wf7⟩⟩
  case rest =>
    obtain ⟨pb, x, v, rfl, hc9⟩ := hcut
    obtain ⟨hP, hR, hK, hpw, ix, iv, wfv⟩ := hc9.out
    obtain ⟨st3, hst3⟩ : ∃ st, Hid (nextN s st2 = st) := ⟨_, Lib.hid rfl⟩
    obtain ⟨st4, hst4⟩ : ∃ st, Hid (nextN s st3 = st) := ⟨_, Lib.hid rfl⟩
    obtain ⟨st5, hst5⟩ : ∃ st, Hid (nextN s st4 = st) := ⟨_, Lib.hid rfl⟩
    obtain ⟨st6, hst6⟩ : ∃ st, Hid (nextN s st5 = st) := ⟨_, Lib.hid rfl⟩
    obtain ⟨st7, hst7⟩ : ∃ st, Hid (nextT s st6 = st) := ⟨_, Lib.hid rfl⟩
    have hm2 := fun W hR => number23_any xb cb s st2 W hR
    rw [hst3.out] at hm2
    replace hm2 := Lib.hid hm2
    have hm3 := fun W hR => number23_any xb cb s st3 W hR
    rw [hst4.out] at hm3
    replace hm3 := Lib.hid hm3
    have hm4 := fun W hR => number23_any xb cb s st4 W hR
    rw [hst5.out] at hm4
    replace hm4 := Lib.hid hm4
    have hm5 := fun W hR => number23_any xb cb s st5 W hR
    rw [hst6.out] at hm5
    replace hm5 := Lib.hid hm5
    have hm6 := fun W hR => text23_any xb cb s st6 W hR
    rw [hst7.out] at hm6
    replace hm6 := Lib.hid hm6
    have hxw2 : xb < wc.heap.size := Nat.lt_of_lt_of_le hxw hK.size
    have k9 : Kept (ofX xb) wc wc := Kept.refl _ _
    have s10 : Kept (ofX xb) wc wc := k9
    have s10d : Kept (ofX xb) wc wc.drew := kD k9
    have r10 : RdC wc xb cb s st2 := hR
    have r10d : RdC wc.drew xb cb s st2 := hR
    have e0 : ¬ ofX xb wc.heap.size := fun e : wc.heap.size = xb => absurd hxw2 (by omega)
    replace hP := Lib.hid hP
    replace hK := Lib.hid hK
    replace ix := Lib.hid ix
    replace iv := Lib.hid iv
    replace hc9 := Lib.hid wfv
    have hall : Hid (CaAt B0 w cb m T n c ∧ nextT s (some 0) = st1 ∧ nextN s st1 = st2 ∧ nextN s st2 = st3 ∧ nextN s st3 = st4 ∧ nextN s st4 = st5 ∧ nextN s st5 = st6 ∧ nextT s st6 = st7 ∧ ¬ ofC cb m xb) := Lib.hid ⟨h.out, hst1.out, hst2.out, hst3.out, hst4.out, hst5.out, hst6.out, hst7.out, hx⟩
    clear ht0 hn1 k0 k0d r0d hr wfv h hst1 hst2 hst3 hst4 hst5 hst6 hst7 hW0 hx hR k9
    go_upto_region 2 with fail
    go_cut [4] from 14 to 34 (fun c wx => ∃ qb g q r e tb, c = .pointer (some ⟨qb, 0, none⟩) ∧ Hid (Whole wx qb 35 [.int .i64 g, .int .i64 q, .int .i64 r, .int .i64 e, .string tb] ∧ RdC wx xb cb s st7 ∧ Kept (ofX xb) wc wx ∧ wc.heap.size ≤ qb ∧ isNo s st2 g ∧ isNo s st3 q ∧ isNo s st4 r ∧ isNo s st5 e ∧ isTx s st6 tb))
    case first =>
      go_region_held3 (fun w' => Kept (ofX xb) wc w') (with_reducible first | assumption | exact kA (by assumption) _ | exact kAd (by assumption) _ | exact kS5 (by first | assumption | exact kA (by assumption) _) (by first | exact Nat.le_refl _ | assumption) _ _ _ _ _) (first
        | (go_at_call 87; have qq := r14; (with_reducible refine (hm6.out _ (by first | with_reducible exact r14 | with_reducible exact RdC.al r14 _ | with_reducible exact RdC.ald r14 _)).mono ?_); rintro _ y5 ⟨v5, rfl, r15, k15, i5⟩; have s15 : Kept (ofX xb) wc y5 := Kept.trans (by first | with_reducible exact s14 | with_reducible exact kA s14 _ | with_reducible exact kAd s14 _) k15; have z15 : wc.heap.size ≤ y5.heap.size := s15.size; have e5 : ¬ ofX xb y5.heap.size := (fun e : y5.heap.size = xb => absurd hxw2 (by omega)); (try (with_reducible first | (have b5 := nK5 k15 e4) | (have b5 := (nK5 k14 e3).of_kept k15 e3) | (have b5 := ((nK5 k13 e2).of_kept k14 e2).of_kept k15 e2) | (have b5 := (((nK5 k12 e1).of_kept k13 e1).of_kept k14 e1).of_kept k15 e1) | (have b5 := ((((nK5d k11 e0).of_kept k12 e0).of_kept k13 e0).of_kept k14 e0).of_kept k15 e0) | (have b5 := ((((nK5 k11 e0).of_kept k12 e0).of_kept k13 e0).of_kept k14 e0).of_kept k15 e0))); (try have b50 : y5.cell? ⟨_, 0, none⟩ = some (.int .i64 0) := b5.cell 0); (try have b51 : y5.cell? ⟨_, 1, none⟩ = some (.int .i64 0) := b5.cell 1); (try have b52 : y5.cell? ⟨_, 2, none⟩ = some (.int .i64 0) := b5.cell 2); (try have b53 : y5.cell? ⟨_, 3, none⟩ = some (.int .i64 0) := b5.cell 3); (try have b54 : y5.cell? ⟨_, 4, none⟩ = some (.string ⟨#[]⟩) := b5.cell 4); (try have f50 := b5.frozen 0); (try have f51 := b5.frozen 1); (try have f52 := b5.frozen 2); (try have f53 := b5.frozen 3); (try have f54 := b5.frozen 4))
        | (go_at_call 81; have qq := r13; (with_reducible refine (hm5.out _ (by first | with_reducible exact r13 | with_reducible exact RdC.al r13 _ | with_reducible exact RdC.ald r13 _)).mono ?_); rintro _ y4 ⟨v4, rfl, r14, k14, i4, _⟩; have s14 : Kept (ofX xb) wc y4 := Kept.trans (by first | with_reducible exact s13 | with_reducible exact kA s13 _ | with_reducible exact kAd s13 _) k14; have z14 : wc.heap.size ≤ y4.heap.size := s14.size; have e4 : ¬ ofX xb y4.heap.size := (fun e : y4.heap.size = xb => absurd hxw2 (by omega)); (try (skip)))
        | (go_at_call 81; have qq := r12; (with_reducible refine (hm4.out _ (by first | with_reducible exact r12 | with_reducible exact RdC.al r12 _ | with_reducible exact RdC.ald r12 _)).mono ?_); rintro _ y3 ⟨v3, rfl, r13, k13, i3, _⟩; have s13 : Kept (ofX xb) wc y3 := Kept.trans (by first | with_reducible exact s12 | with_reducible exact kA s12 _ | with_reducible exact kAd s12 _) k13; have z13 : wc.heap.size ≤ y3.heap.size := s13.size; have e3 : ¬ ofX xb y3.heap.size := (fun e : y3.heap.size = xb => absurd hxw2 (by omega)); (try (skip)))
        | (go_at_call 81; have qq := r11; (with_reducible refine (hm3.out _ (by first | with_reducible exact r11 | with_reducible exact RdC.al r11 _ | with_reducible exact RdC.ald r11 _)).mono ?_); rintro _ y2 ⟨v2, rfl, r12, k12, i2, _⟩; have s12 : Kept (ofX xb) wc y2 := Kept.trans (by first | with_reducible exact s11 | with_reducible exact kA s11 _ | with_reducible exact kAd s11 _) k12; have z12 : wc.heap.size ≤ y2.heap.size := s12.size; have e2 : ¬ ofX xb y2.heap.size := (fun e : y2.heap.size = xb => absurd hxw2 (by omega)); (try (skip)))
        | (go_at_call 81; (with_reducible refine (hm2.out _ (by first | with_reducible exact r10d | with_reducible exact RdC.ald r10 _ | with_reducible exact r10 | with_reducible exact RdC.al r10 _ | with_reducible exact RdC.ald r10 _)).mono ?_); rintro _ y1 ⟨v1, rfl, r11, k11, i1, _⟩; have s11 : Kept (ofX xb) wc y1 := Kept.trans (by first | with_reducible exact s10d | with_reducible exact kAd s10 _ | with_reducible exact s10 | with_reducible exact kA s10 _ | with_reducible exact kAd s10 _) k11; have z11 : wc.heap.size ≤ y1.heap.size := s11.size; have e1 : ¬ ofX xb y1.heap.size := (fun e : y1.heap.size = xb => absurd hxw2 (by omega)); (try (skip))))
      all_goals rename_i hHeld
      all_goals go_wp2_with fail
      all_goals go_meet
      all_goals first
        | exact ⟨_, v1, v2, v3, v4, v5, rfl, Lib.hid ⟨(whole_all b5 rfl : Whole (World.setCells y5 _ 0 [.int .i64 v1, .int .i64 v2, .int .i64 v3, .int .i64 v4, .string v5]) _ _ [.int .i64 v1, .int .i64 v2, .int .i64 v3, .int .i64 v4, .string v5]), RdC.st5 r15 (by omega) _ _ _ _ _, hHeld, by first | exact Nat.le_refl _ | assumption, i1, i2, i3, i4, i5⟩⟩
        | exact ⟨_, v1, v2, v3, v4, v5, rfl, Lib.hid ⟨Whole.new y5 _ _, RdC.al r15 _, hHeld, z15, i1, i2, i3, i4, i5⟩⟩
    case rest =>
      obtain ⟨qb, g, q, r, e, tb, rfl, hc8⟩ := hcut
      obtain ⟨W1, hW1⟩ : ∃ W, W = wc := ⟨_, rfl⟩
      rw [← hW1] at hc8 ⊢
      clear hW1
      obtain ⟨hM, hR, hK2, hqw, ig, iq, ir, ie, itb⟩ := hc8.out
      obtain ⟨h, e1, e2, e3, e4, e5, e6, e7, hx⟩ := hall.out
      obtain ⟨hk1, hk2⟩ := set_key (T := T) (n := n) h.ok e1 e2 e3 e4 e5 e6 e7 ix.out iv.out ig iq ir ie itb
      have hKw := hK.out.trans hK2
      have hC := h.kept hKw (fun q hq e => hx (e ▸ hq))
      have hpb : pb ≠ xb := by omega
      have hP2 := hP.out.of_kept hK2 hpb
      obtain ⟨rest, brk, hW, _⟩ := id hR
      have hap : Hid (setF T n s = none → ∀ w', Below W1.heap.size W1 w' → ApPost B0 xb cb m T n c (setF T n s) w (.returned (.bool false)) w') := Lib.hid (fun q w' hb => ap_no h hx q (hKw.trans (Kept.of_below hb)))
      have x0 : W1.cell? ⟨xb, 0, none⟩ = some (.pointer (some ⟨cb, 0, none⟩)) := hW.cell 0
      have p0 : W1.cell? ⟨pb, 0, none⟩ = some (.string x) := hP2.cell 0
      have p1 : W1.cell? ⟨pb, 1, none⟩ = some (.int .i64 v) := hP2.cell 1
      have m0 : W1.cell? ⟨qb, 0, none⟩ = some (.int .i64 g) := hM.cell 0
      have m1 : W1.cell? ⟨qb, 1, none⟩ = some (.int .i64 q) := hM.cell 1
      have m2 : W1.cell? ⟨qb, 2, none⟩ = some (.int .i64 r) := hM.cell 2
      have m3 : W1.cell? ⟨qb, 3, none⟩ = some (.int .i64 e) := hM.cell 3
      have m4 : W1.cell? ⟨qb, 4, none⟩ = some (.string tb) := hM.cell 4
      have gx0 := fun d os => cell_regrown x0 d os
      have gp0 := fun d os => cell_regrown p0 d os
      have gp1 := fun d os => cell_regrown p1 d os
      have gm0 := fun d os => cell_regrown m0 d os
      have gm1 := fun d os => cell_regrown m1 d os
      have gm2 := fun d os => cell_regrown m2 d os
      have gm3 := fun d os => cell_regrown m3 d os
      have gm4 := fun d os => cell_regrown m4 d os
      have hxm : x.size ≤ maxLen := by have := ix.out.1; unfold maxLen; omega
      obtain ⟨Bw, hBw⟩ : ∃ b, Hid (decide (st7 = some s.size) = b) := ⟨_, Lib.hid rfl⟩
      have hwh := regrown_if (C := fun W => RdC W xb cb s st7) (fun W hQ => below_of_eqH (whole23_any xb cb s st7 W hQ)) W1 (fun w' hb => hR.below hb)
      rw [hBw.out] at hwh
      have hpl := regrown_if (C := fun W => CaAt B0 W cb m T n c) (fun W hQ => hasPlace_any cb m _ _ n c x v W hQ.at_ hxm hc9.out) W1 (fun w' hb => hC.below hb)
      have hma := regrown_any (fun W => may23_any g q r e tb W itb.1) W1
      replace hwh := Lib.hid hwh
      cases Bw with
      | false =>
        have hp := Lib.hid (hap.out (hk1 (of_decide_eq_false hBw.out)))
        clear hall hc9 hc8 hP hK ix iv hM hR hK2 ig iq ir ie itb h e1 e2 e3 e4 e5 e6 e7 hx hk1 hKw hC hP2 hW hap x0 p0 p1 m0 m1 m2 m3 m4 hxm hk2 hBw hpl hma gp0 gp1 gm0 gm1 gm2 gm3 gm4
        go_upto_region 3 with fail
        refine wp_region_quiet_below (by kernel_rfl) (by kernel_rfl) ?_
        repeat (go_big_quiet_step (first | (with_reducible exact hwh.out _ _)))
        refine wpQuiet_nil ?_
        intro _ hw'
        obtain ⟨⟨dq, osq⟩, hw''⟩ := hw'
        subst hw''
        have hB2 := Lib.hid (below_regrown W1 dq osq)
        have hp2 := Lib.hid (hp.out _ hB2.out)
        clear hp hB2
        go_wp2_with fail
        go_ret
        exact hp2.out
      | true =>
        have hF := hk2 (of_decide_eq_true hBw.out)
        clear hk2 hBw
        cases c1 : (metaT T x v).isSome with
        | false =>
          rw [c1] at hpl
          replace hpl := Lib.hid hpl
          rw [if_neg (fun q => by rw [c1] at q; exact absurd q.1 (by decide))] at hF
          have hp := Lib.hid (hap.out hF)
          clear hall hc9 hc8 hP hK ix iv hM hR hK2 ig iq ir ie itb h e1 e2 e3 e4 e5 e6 e7 hx hk1 hKw hC hP2 hW hap x0 p0 p1 m0 m1 m2 m3 m4 hxm hF c1 hma gm0 gm1 gm2 gm3 gm4
          go_upto_region 3 with fail
          refine wp_region_quiet_below (by kernel_rfl) (by kernel_rfl) ?_
          repeat (go_big_quiet_step (first | (with_reducible exact hwh.out _ _) | (with_reducible exact hpl.out _ _)))
          refine wpQuiet_nil ?_
          intro _ hw'
          obtain ⟨⟨dq, osq⟩, hw''⟩ := hw'
          subst hw''
          have hB2 := Lib.hid (below_regrown W1 dq osq)
          have hp2 := Lib.hid (hp.out _ hB2.out)
          clear hp hB2
          go_wp2_with fail
          go_ret
          exact hp2.out
        | true =>
          rw [c1] at hpl
          replace hpl := Lib.hid hpl
          cases c2 : Mt.may ⟨g, q, r, e, tb⟩ with
          | false =>
            rw [c2] at hma
            replace hma := Lib.hid hma
            rw [if_neg (fun q => by rw [c2] at q; exact absurd q.2 (by decide))] at hF
            have hp := Lib.hid (hap.out hF)
            clear hall hc9 hc8 hP hK ix iv hM hR hK2 ig iq ir ie itb h e1 e2 e3 e4 e5 e6 e7 hx hk1 hKw hC hP2 hW hap x0 p0 p1 m0 m1 m2 m3 m4 hxm hF c1 c2
            go_upto_region 3 with fail
            refine wp_region_quiet_below (by kernel_rfl) (by kernel_rfl) ?_
            repeat (go_big_quiet_step (first | (with_reducible exact hwh.out _ _) | (with_reducible exact hpl.out _ _) | (with_reducible exact hma.out _ _)))
            refine wpQuiet_nil ?_
            intro _ hw'
            obtain ⟨⟨dq, osq⟩, hw''⟩ := hw'
            subst hw''
            have hB2 := Lib.hid (below_regrown W1 dq osq)
            have hp2 := Lib.hid (hp.out _ hB2.out)
            clear hp hB2
            go_wp2_with fail
            go_ret
            exact hp2.out
          | true =>
            rw [c2] at hma
            replace hma := Lib.hid hma
            rw [if_pos ⟨c1, c2⟩] at hF
            have hmo : Mt.ok ⟨g, q, r, e, tb⟩ := of_decide_eq_true c2
            have hfin : Hid (∀ W w', Below W1.heap.size W1 W → PutC B0 cb m ((List.range 8).map (spAt T)) (putF (metaT T) x v ⟨g, q, r, e, tb⟩) (max n g) (c + 1) W w' → ApPost B0 xb cb m T n c (setF T n s) w (.returned (.bool true)) w') := Lib.hid (fun W w' hb hp => by
              obtain ⟨m', hc', hk', hz⟩ := hp
              rw [hF]
              refine ⟨m', rfl, set_ca hC c1 hmo hc', ((hKw.mono (fun _ _ e => Or.inl e)).trans (Kept.of_below hb)).trans (hk'.mono (fun _ _ e => Or.inr e)), ?_⟩
              rcases hz with hz | ⟨hz, mb, e1, e2⟩
              · exact .inl hz
              · refine .inr ⟨hz, mb, e1, ?_⟩
                have := hKw.size
                have := hb.size
                omega)
            have hwf := hc9.out
            have hB1 : B0 ≤ W1.heap.size := by have := hKw.size; omega
            have hin : Hid (CaAt B0 W1 cb m T n c ∧ Whole W1 xb 82 (enL cb rest brk) ∧ Whole W1 pb 33 [.string x, .int .i64 v] ∧ Whole W1 qb 35 [.int .i64 g, .int .i64 q, .int .i64 r, .int .i64 e, .string tb] ∧ ¬ ofC cb m xb) := Lib.hid ⟨hC, hW, hP2, hM, hx⟩
            clear hall hc9 hc8 hP hK ix iv hM hR hK2 ig iq ir ie itb h e1 e2 e3 e4 e5 e6 e7 hx hk1 hKw hC hP2 hW hap x0 p0 p1 m0 m1 m2 m3 m4 hF c1 c2 hmo
            go_upto_region 3 with fail
            refine wp_region_quiet_below (by kernel_rfl) (by kernel_rfl) ?_
            repeat (go_big_quiet_step (first | (with_reducible exact hwh.out _ _) | (with_reducible exact hpl.out _ _) | (with_reducible exact hma.out _ _)))
            refine wpQuiet_nil ?_
            intro _ hw'
            obtain ⟨⟨dq, osq⟩, hw''⟩ := hw'
            subst hw''
            have hB2 := Lib.hid (below_regrown W1 dq osq)
            obtain ⟨W2, hW2⟩ : ∃ W, W = grow (redrawn W1 dq) osq := ⟨_, rfl⟩
            rw [← hW2] at hB2 ⊢
            clear hW2 gx0 gp0 gp1 gm0 gm1 gm2 gm3 gm4 hwh hpl hma
            obtain ⟨hC, hW, hP2, hM, hx⟩ := hin.out
            replace hC := hC.below hB2.out
            replace hW := hW.below hB2.out hW.lt
            replace hP2 := hP2.below hB2.out hP2.lt
            replace hM := hM.below hB2.out hM.lt
            have hpm : ¬ ofC cb m pb := hC.at_.ne hP2 (by decide)
            have hqm : ¬ ofC cb m qb := hC.at_.ne hM (by decide)
            have x0 : ∀ W, Kept (ofC cb m) W2 W → W.cell? ⟨xb, 0, none⟩ = some (.pointer (some ⟨cb, 0, none⟩)) := fun W hb => (hW.of_kept hb hx).cell 0
            have p0 : ∀ W, Kept (ofC cb m) W2 W → W.cell? ⟨pb, 0, none⟩ = some (.string x) := fun W hb => (hP2.of_kept hb hpm).cell 0
            have p1 : ∀ W, Kept (ofC cb m) W2 W → W.cell? ⟨pb, 1, none⟩ = some (.int .i64 v) := fun W hb => (hP2.of_kept hb hpm).cell 1
            have m0 : ∀ W, Kept (ofC cb m) W2 W → W.cell? ⟨qb, 0, none⟩ = some (.int .i64 g) := fun W hb => (hM.of_kept hb hqm).cell 0
            have m1 : ∀ W, Kept (ofC cb m) W2 W → W.cell? ⟨qb, 1, none⟩ = some (.int .i64 q) := fun W hb => (hM.of_kept hb hqm).cell 1
            have m2 : ∀ W, Kept (ofC cb m) W2 W → W.cell? ⟨qb, 2, none⟩ = some (.int .i64 r) := fun W hb => (hM.of_kept hb hqm).cell 2
            have m3 : ∀ W, Kept (ofC cb m) W2 W → W.cell? ⟨qb, 3, none⟩ = some (.int .i64 e) := fun W hb => (hM.of_kept hb hqm).cell 3
            have m4 : ∀ W, Kept (ofC cb m) W2 W → W.cell? ⟨qb, 4, none⟩ = some (.string tb) := fun W hb => (hM.of_kept hb hqm).cell 4
            have s10 : Kept (ofC cb m) W2 W2 := Kept.refl _ _
            have s10d : Kept (ofC cb m) W2 W2.drew := kD (Kept.refl _ _)
            have hpu : Hid (Calls Tryz.prog 84 #[.pointer (some ⟨cb, 0, none⟩), .agg #[.string x, .int .i64 v], .agg #[.int .i64 g, .int .i64 q, .int .i64 r, .int .i64 e, .string tb]] W2.drew fun e' w' => e' = .returned (.tuple #[]) ∧ PutC B0 cb m ((List.range 8).map (spAt T)) (putF (metaT T) x v ⟨g, q, r, e, tb⟩) (max n g) (c + 1) W2.drew w') := Lib.hid (put23_any cb m _ _ n c x v ⟨g, q, r, e, tb⟩ W2.drew (hC.at_.below ((Below.refl _ _).drew)) (by have := hB2.out.size; exact Nat.le_trans hB1 this) hxm hwf (by omega))
            have hend : Hid (∀ w', PutC B0 cb m ((List.range 8).map (spAt T)) (putF (metaT T) x v ⟨g, q, r, e, tb⟩) (max n g) (c + 1) W2.drew w' → ApPost B0 xb cb m T n c (setF T n s) w (.returned (.bool true)) w') := Lib.hid (fun w' hp => hfin.out W2.drew w' (hB2.out.trans ((Below.refl _ _).drew.mono hB2.out.size)) hp)
            clear hC hW hP2 hM hx hin hB2 hfin hpm hqm
            go_upto_region 5 with fail
            go_region_held3 (fun w' => Kept (ofC cb m) W2 w') (with_reducible first | assumption) (first
              | (go_at_call 84; (with_reducible refine hpu.out.mono ?_); rintro _ y3 ⟨rfl, hP3⟩; have s13 : Kept (ofC cb m) W2 y3 := Kept.trans s10d (by obtain ⟨_, _, kk, _⟩ := hP3; exact kk); have hI3 := Lib.hid (hend.out y3 hP3)))
            all_goals
              clear x0 p0 p1 m0 m1 m2 m3 m4 hpu hend
              go_wp2_with fail
              go_ret
              exact hI3.out
end Go.Proofs.YtgogackkeodciaaGreat.W
