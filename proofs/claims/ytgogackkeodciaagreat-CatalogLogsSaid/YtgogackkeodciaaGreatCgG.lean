/- Package catalog: dropTopic. -/
import Derived.Test.YtgogackkeodciaaGreatCgF
namespace Go.Proofs.YtgogackkeodciaaGreat.W
open Go.RowKit Go.Sort
open Go.Proofs.YtgogackkeodciaaGreat.M Go.Proofs.YtgogackkeodciaaGreat.D Go.Proofs.YtgogackkeodciaaGreat.Z
set_option linter.unusedVariables false
set_option linter.unusedSimpArgs false

def dropJ (F : ByteArray → Int → Option Mt) (nm : ByteArray) (j : Nat) : ByteArray → Int → Option Mt := fun a q => if a = nm ∧ 0 ≤ q ∧ q < (j : Int) then none else F a q
theorem dropJ_zero (F : ByteArray → Int → Option Mt) (nm : ByteArray) : dropJ F nm 0 = F := by
  funext a q
  unfold dropJ
  rw [if_neg (fun h => by have := h.2; omega)]
theorem dropJ_step (F : ByteArray → Int → Option Mt) (nm : ByteArray) (j : Nat) : dropP (dropJ F nm j) nm (j : Int) = dropJ F nm (j + 1) := by
  funext a q
  unfold dropP dropJ
  by_cases e : a = nm
  · by_cases e2 : q = (j : Int)
    · rw [if_pos ⟨e, e2⟩, if_pos ⟨e, by omega, by omega⟩]
    · rw [if_neg (fun h => e2 h.2)]
      by_cases e3 : 0 ≤ q ∧ q < (j : Int)
      · rw [if_pos ⟨e, e3⟩, if_pos ⟨e, e3.1, by omega⟩]
      · rw [if_neg (fun h => e3 h.2), if_neg (fun h => by have := h.2; omega)]
  · rw [if_neg (fun h => e h.1), if_neg (fun h => e h.1), if_neg (fun h => e h.1)]
theorem dropJ_end {T : List To} {n : Int} (h : CatOk T n) {nm : ByteArray} {t : To} (ht : findT T nm = some t) : dropJ (metaT T) nm t.ms.length = metaT (delT T nm) := by
  funext a q
  rw [metaT_del h]
  unfold dropJ
  by_cases e : a = nm
  · subst e
    rw [if_pos rfl]
    by_cases e2 : 0 ≤ q ∧ q < (t.ms.length : Int)
    · rw [if_pos ⟨rfl, e2⟩]
    · rw [if_neg (fun h => e2 h.2)]
      unfold metaT
      rw [ht]
      dsimp only
      split
      · exact List.getElem?_eq_none (by omega)
      · rfl
  · rw [if_neg (fun h => e h.1), if_neg e]
theorem plRows_len (nm : ByteArray) : ∀ n, (plRows nm n).length = 2 * n
  | 0 => rfl
  | n + 1 => by show (plRows nm n ++ _).length = _; rw [List.length_append, plRows_len nm n]; simp; omega
theorem plRows_at (nm : ByteArray) : ∀ {n j : Nat}, j < n → (plRows nm n)[j * 2]? = some (.string nm) ∧ (plRows nm n)[j * 2 + 1]? = some (.int .i64 (j : Int))
  | 0, j, h => by omega
  | n + 1, j, h => by
    show (plRows nm n ++ _)[j * 2]? = _ ∧ (plRows nm n ++ _)[j * 2 + 1]? = _
    have hl := plRows_len nm n
    by_cases e : j < n
    · rw [List.getElem?_append_left (by omega), List.getElem?_append_left (by omega)]
      exact plRows_at nm e
    · obtain rfl : j = n := by omega
      rw [List.getElem?_append_right (by omega), List.getElem?_append_right (by omega), show j * 2 - (plRows nm j).length = 0 by omega, show j * 2 + 1 - (plRows nm j).length = 1 by omega]
      exact ⟨rfl, rfl⟩
theorem spL8_set {T T' : List To} {k : Nat} {x : Sp} (hk : k < 8) (h : ∀ i, i < 8 → spAt T' i = if i = k then x else spAt T i) : ((List.range 8).map (spAt T)).set k x = (List.range 8).map (spAt T') := by
  apply List.ext_getElem?
  intro i
  rw [List.getElem?_set]
  by_cases hi : i < 8
  · rw [spAt_range T' hi, h i hi]
    by_cases e : k = i
    · rw [if_pos e, if_pos (by simpa using hk), if_pos e.symm]
    · rw [if_neg e, if_neg (fun q => e q.symm), spAt_range T hi]
  · rw [if_neg (by omega), List.getElem?_eq_none (by simp; omega), List.getElem?_eq_none (by simp; omega)]
theorem spAt_del {T : List To} {n : Int} (h : CatOk T n) {nm : ByteArray} {t : To} (ht : findT T nm = some t) {k : Nat} (hk : t.slot = (k : Int)) (i : Nat) : spAt (delT T nm) i = if i = k then zSp else spAt T i := by
  unfold spAt
  rw [slotT_del h ht]
  by_cases e : i = k
  · rw [if_pos e, if_pos (by omega)]
  · rw [if_neg e, if_neg (by omega)]
theorem drop_key {T : List To} {n : Int} {s x : ByteArray} (h : isTx s (some 0) x) : (nextT s (some 0) ≠ some s.size → dropF T n s = none) ∧ (nextT s (some 0) = some s.size → dropF T n s = if hasT T x = true then some (delT T x, n) else none) := by
  unfold nextT dropF
  simp only [Option.bind_some]
  cases hc : txAt s 0 with
  | none => simp
  | some u =>
    obtain ⟨u, q⟩ := u
    obtain rfl := h.2 0 u q rfl hc
    simp only [Option.map_some, ne_eq, Option.some.injEq]
    constructor
    · intro e; rw [if_neg (fun a => e a.1)]
    · intro e
      by_cases a : hasT T x = true
      · rw [if_pos a, if_pos ⟨e, a⟩]
      · rw [if_neg a, if_neg (fun b => a b.2)]
theorem CtAt.some_map {B : Nat} {w : World} {cb : Nat} {m : Option Nat} {S : List Sp} {F : ByteArray → Int → Option Mt} {n : Int} {c : Nat} (h : CtAt B w cb m S F n c) {a : ByteArray} {q : Int} {x : Mt} (hf : F a q = some x) : ∃ mb, m = some mb := by
  rcases h.map with ⟨_, h2⟩ | ⟨mb, _, h1, _⟩
  · rw [h2] at hf; cases hf
  · exact ⟨mb, h1⟩
/-- A delete of the map, behind a box of the place. -/
theorem CtAt.delete {B : Nat} {w : World} {cb mb : Nat} {S : List Sp} {F : ByteArray → Int → Option Mt} {n : Int} {c : Nat} (h : CtAt B w cb (some mb) S F n c) {nm : ByteArray} {p : Int} (h0 : nm.size ≤ maxLen) (h1 : (Lit.int .i64 p).wf = true) (ty : TypeId) :
    ∃ w', (Builtin.delete_ #[65, 33] ty #[.map (some mb), .agg #[.string nm, .int .i64 p]]).run Tryz.prog w = .ok (.tuple #[]) w' ∧ CtAt B w' cb (some mb) S (dropP F nm p) n c ∧ Kept (fun q => q = mb) w w' := by
  rcases h.map with ⟨e, _⟩ | ⟨mb', D, e, ho, hf⟩
  · cases e
  · cases e
    obtain ⟨w', hrun, ho', ht⟩ := ho.drop plLaw Tryz.underlying65 (plK_of h0 h1) ty
    have hk : Kept (fun q => q = mb) w w' := (Kept.refl (fun q => q = mb) w).grown ht.grown (fun k e => .inl (Option.some.inj e).symm)
    have hne : cb ≠ mb := fun e => h.map.ne h.box (by rw [e])
    exact ⟨w', hrun, ⟨h.box.of_kept hk hne, h.eight, .inr ⟨mb, _, rfl, ho', hf.drop h0 h1 (ho'.tidy plLaw) ho'.size_le⟩, h.new, h.newM⟩, hk⟩
set_option maxRecDepth 100000 in
set_option maxHeartbeats 4000000 in
theorem dropTopic_any {B0 : Nat} (xb cb : Nat) (m : Option Nat) (T : List To) (n : Int) (c : Nat) (s : ByteArray) (w : World) (h : CaAt B0 w cb m T n c) (hr : RdC w xb cb s (some 0)) :
    Calls Tryz.prog 58 #[.pointer (some ⟨xb, 0, none⟩)] w (ApPost B0 xb cb m T n c (dropF T n s) w) := by
  have hx := entry_ne h hr
  have hnm := Lib.hid (text23_any xb cb s (some 0) w hr)
  have hxc : xb ≠ cb := fun e => hx (.inl e)
  replace h := Lib.hid h
  clear hr
  go_enter Tryz.func58, Tryz.ntmps58
  go_wp2_with fail
  refine hnm.out.mono ?_
  rintro _ w2 ⟨x, rfl, r2, k2, no2⟩
  obtain ⟨hk1, hk2⟩ := drop_key (T := T) (n := n) no2
  have hwh := whole23_any xb cb s _ w2 r2
  obtain ⟨Bw, hBw⟩ : ∃ b, Hid (decide (nextT s (some 0) = some s.size) = b) := ⟨_, Lib.hid rfl⟩
  rw [hBw.out] at hwh
  obtain ⟨rest, brk, hW2, _⟩ := id r2
  have c0 : w2.cell? ⟨xb, 0, none⟩ = some (.pointer (some ⟨cb, 0, none⟩)) := hW2.cell 0
  have hC2 := h.out.kept k2 (fun q hq e => hx (e ▸ hq))
  have hxs := no2.1
  replace hwh := Lib.hid hwh
  clear hnm r2 no2
  cases Bw with
  | false =>
    have hp := Lib.hid (ap_no (R := dropF T n s) h.out hx (hk1 (of_decide_eq_false hBw.out)) k2)
    clear h hk1 hk2 hC2 k2 hBw hW2
    go_wp2_with fail
    refine hwh.out.mono ?_
    rintro _ w3 ⟨rfl, rfl⟩
    go_wp2_with fail
    go_ret
    exact hp.out
  | true =>
    have hF := hk2 (of_decide_eq_true hBw.out)
    have hhas := has23_any cb m T n c x w2 hC2
    clear hk1 hk2 hBw
    cases hv : hasT T x with
    | false =>
      rw [hv] at hF hhas
      rw [if_neg (by decide)] at hF
      have hp := Lib.hid (fun w' (hb : Below w2.heap.size w2 w') => ap_no (R := dropF T n s) h.out hx hF (k2.trans (Kept.of_below hb)))
      replace hhas := Lib.hid hhas
      replace hv := Lib.hid hv
      clear h hC2 k2 hF hW2
      go_wp2_with fail
      refine hwh.out.mono ?_
      rintro _ w3 ⟨rfl, rfl⟩
      go_wp2_with fail
      refine hhas.out.mono ?_
      rintro _ w3 ⟨rfl, hb3⟩
      have hp3 := Lib.hid (hp.out _ hb3)
      clear hp hb3 hhas c0
      go_wp2_with fail
      go_ret
      exact hp3.out
    | true =>
      rw [hv] at hF hhas
      rw [if_pos rfl] at hF
      obtain ⟨t, ht⟩ := hasT_iff.1 hv
      obtain ⟨htm, htn⟩ := h.out.ok.find.1 ht
      have hto := h.out.ok.ok t htm
      have hpar := h.out.ok.parts htm
      have hnz := h.out.ok.name_ne htm
      obtain ⟨k, hk⟩ : ∃ k : Nat, t.slot = (k : Int) := ⟨t.slot.toNat, by have := hto.2.1; omega⟩
      have hk8 : k < 8 := by have := hto.2.1; omega
      have hSk : spAt T k = t.sp := by
        have := spAt_of h.out.ok htm
        rw [hk] at this
        exact this
      have hslI : slotI T x = (k : Int) := by unfold slotI; rw [ht]; exact hk
      have hsl := fun W (hb : Below w2.heap.size w2 W) => slot_any cb m _ _ n c x W (hC2.at_.below hb)
      rw [idx_name h.out.ok (by rw [← htn]; omega), hslI] at hsl
      have hend := dropJ_end h.out.ok ht
      have hspd := spL8_set (T := T) (T' := delT T x) hk8 (fun i _ => spAt_del h.out.ok ht hk i)
      have hokd := h.out.ok.del x
      have hmay := hto.1
      obtain ⟨N, hN⟩ : ∃ N, t.ms.length = N := ⟨_, rfl⟩
      have hpN : t.sp.parts = (N : Int) := by rw [← hN]; exact hto.2.2.1.symm
      have hN4 : N ≤ 4 := by omega
      have hN1 : 1 ≤ N := by omega
      have hmet : ∃ y, metaT T x 0 = some y := by
        unfold metaT
        rw [ht]
        dsimp only
        rw [if_pos (by decide)]
        exact ⟨_, List.getElem?_eq_getElem (by rw [hN]; exact hN1)⟩
      obtain ⟨y, hy⟩ := hmet
      obtain ⟨mb, rfl⟩ := hC2.at_.some_map hy
      rw [hN] at hend
      obtain ⟨⟨nm, pa, ag, sz, cp⟩, sl, ms⟩ := t
      dsimp only at hpN htn hk hSk hmay
      subst hpN htn
      have hpl : Hid (∀ W, Calls Tryz.prog 44 #[(.agg #[.string nm, .int .i64 (N : Int), .int .i64 ag, .int .i64 sz, .bool cp])] W fun e w' => ∃ b, e = .returned (.slice (some ⟨b, 0, none⟩) N N) ∧ Whole w' b 33 (plRows nm N) ∧ Below W.heap.size W w') := Lib.hid (fun W => by
        have := places_yes nm (N : Int) ag sz cp W hmay
        simpa using this)
      have hnl : nm.size ≤ maxLen := by unfold maxLen; omega
      replace hhas := Lib.hid hhas
      replace hsl := Lib.hid hsl
      have hfin : Hid (∀ wo, CtAt B0 wo cb (some mb) ((List.range 8).map (spAt T)) (dropJ (metaT T) nm N) n c → Kept (fun q => q = xb ∨ ofC cb (some mb) q) w wo → ApPost B0 xb cb (some mb) T n c (dropF T n s) w (.returned (.bool true)) (wo.setCells cb (k * 5) (spL zSp))) := Lib.hid (fun wo hC hK => by
        rw [hF]
        have hS := hC.setSlot k hk8 zSp
        rw [hspd, hend] at hS
        exact ⟨some mb, rfl, ⟨hokd, hS.up (by omega)⟩, hK.setCells (own := fun q => q = xb ∨ ofC cb (some mb) q) (c := cb) (.inl (.inr (.inl rfl))) (k * 5) (spL zSp), .inl rfl⟩)
      have hC0 : Hid (CtAt B0 w2 cb (some mb) ((List.range 8).map (spAt T)) (dropJ (metaT T) nm 0) n c) := Lib.hid (by rw [dropJ_zero]; exact hC2.at_)
      have hK2 : Hid (Kept (fun q => q = xb ∨ ofC cb (some mb) q) w w2) := Lib.hid (k2.mono (fun k _ e => Or.inl e))
      replace hW2 := Lib.hid hW2
      clear h hC2 k2 hF hv ht htm hto hpar hnz hend hspd hokd hmay hN hy hslI hxs
      go_wp2_with fail
      refine hwh.out.mono ?_
      rintro _ w3 ⟨rfl, rfl⟩
      go_wp2_with fail
      refine hhas.out.mono ?_
      rintro _ w3 ⟨rfl, hb3⟩
      have hs3 := Lib.hid (hsl.out _ hb3)
      have hW3 := hW2.out.below hb3 hW2.out.lt
      have c3 : w3.cell? ⟨xb, 0, none⟩ = some (.pointer (some ⟨cb, 0, none⟩)) := hW3.cell 0
      replace hW3 := Lib.hid hW3
      replace hb3 := Lib.hid hb3
      clear hhas hsl c0 hwh
      go_wp2_with fail
      refine hs3.out.mono ?_
      rintro _ w4 ⟨rfl, hb4⟩
      have hB4 := grew hb3.out hb4
      have hW4 := hW2.out.below hB4 hW2.out.lt
      have hC4 := hC0.out.below hB4
      have hK4 := Lib.hid (hK2.out.trans (Kept.of_below hB4))
      have c4 : w4.cell? ⟨xb, 0, none⟩ = some (.pointer (some ⟨cb, 0, none⟩)) := hW4.cell 0
      have hcl : ∀ j v, (spL ⟨nm, (N : Int), ag, sz, cp⟩)[j]? = some v → w4.cell? ⟨cb, k * 5 + j, none⟩ = some v := fun j v hv => by
        rw [hC4.box.cell, ctL_sp hC4.eight _ _ hk8 (List.getElem?_eq_some_iff.1 hv).1 (spAt_range T hk8), hSk]
        exact hv
      have d0 : w4.cell? ⟨cb, k * 5, none⟩ = some (.string nm) := hcl 0 _ rfl
      have d1 : w4.cell? ⟨cb, k * 5 + 1, none⟩ = some (.int .i64 (N : Int)) := hcl 1 _ rfl
      have d2 : w4.cell? ⟨cb, k * 5 + 2, none⟩ = some (.int .i64 ag) := hcl 2 _ rfl
      have d3 : w4.cell? ⟨cb, k * 5 + 3, none⟩ = some (.int .i64 sz) := hcl 3 _ rfl
      have d4 : w4.cell? ⟨cb, k * 5 + 4, none⟩ = some (.bool cp) := hcl 4 _ rfl
      have hp4 := Lib.hid (hpl.out w4)
      replace hC4 := Lib.hid hC4
      replace hW4 := Lib.hid hW4
      clear hcl hs3 hb4 hB4 hW3 c3 hb3 hC0 hK2 hW2 hpl
      go_wp2_with fail
      refine hp4.out.mono ?_
      rintro _ w5 ⟨pb, rfl, hP5, hb5⟩
      have hC5 := hC4.out.below hb5
      have hW5 := hW4.out.below hb5 hW4.out.lt
      have hK5 := hK4.out.trans (Kept.of_below hb5)
      have hS5 : Hid (CtAt B0 w5 cb (some mb) ((List.range 8).map (spAt T)) (dropJ (metaT T) nm 0) n c ∧ Kept (fun q => q = xb ∨ ofC cb (some mb) q) w w5 ∧ Whole w5 pb 33 (plRows nm N) ∧ Whole w5 xb 82 (enL cb rest brk)) := Lib.hid ⟨hC5, hK5, hP5, hW5⟩
      clear hC4 hW4 hK4 hp4 hC5 hW5 hK5 hP5 hb5 c4 d0 d1 d2 d3 d4
      go_wp2_with fail
      go_loopg [42] N (fun ga ix wr => ∃ j : Nat, j ≤ N ∧ N ≤ j + ga ∧ ix = .int .i64 j ∧ Hid (CtAt B0 wr cb (some mb) ((List.range 8).map (spAt T)) (dropJ (metaT T) nm j) n c ∧ Kept (fun q => q = xb ∨ ofC cb (some mb) q) w wr ∧ Whole wr pb 33 (plRows nm N) ∧ Whole wr xb 82 (enL cb rest brk)))
      case atStart => exact ⟨0, by omega, by omega, rfl, hS5⟩
      case round =>
        clear hS5
        obtain ⟨j, hj, hg, rfl, hrel⟩ := hrel
        generalize wr = wo at *
        obtain ⟨hC, hK, hP, hW⟩ := hrel.out
        clear hrel
        by_cases hlt : j < N
        · have p0 : wo.cell? ⟨pb, j * 2, none⟩ = some (.string nm) := by rw [hP.cell]; exact (plRows_at nm hlt).1
          have p1 : wo.cell? ⟨pb, j * 2 + 1, none⟩ = some (.int .i64 (j : Int)) := by rw [hP.cell]; exact (plRows_at nm hlt).2
          obtain ⟨V, hV⟩ : ∃ V, Hid (V = wo.alloc (.cells #[.string nm, .int .i64 (j : Int)] 33)) := ⟨_, Lib.hid rfl⟩
          have hbV : Below wo.heap.size wo V := by rw [hV.out]; exact grewAlloc (Below.refl _ _) _
          have hX : Whole V wo.heap.size 33 [.string nm, .int .i64 (j : Int)] := by rw [hV.out]; exact Whole.new wo _ _
          obtain ⟨vb, hvb⟩ : ∃ q, Hid (wo.heap.size = q) := ⟨_, Lib.hid rfl⟩
          rw [hvb.out] at hX
          have hCV : CtAt B0 V.drew cb (some mb) ((List.range 8).map (spAt T)) (dropJ (metaT T) nm j) n c := (hC.below hbV).below ((Below.refl _ _).drew)
          have hPV := hP.below hbV hP.lt
          have hWV := hW.below hbV hW.lt
          have q0 : V.drew.cell? ⟨vb, 0, none⟩ = some (.string nm) := hX.cell 0
          have q1 : V.drew.cell? ⟨vb, 1, none⟩ = some (.int .i64 (j : Int)) := hX.cell 1
          have x0 : V.drew.cell? ⟨xb, 0, none⟩ = some (.pointer (some ⟨cb, 0, none⟩)) := hWV.cell 0
          have m0 : V.drew.cell? ⟨cb, 40, none⟩ = some (.map (some mb)) := by rw [hCV.box.cell, ctL_map hCV.eight]
          have hwf : (Lit.int .i64 (j : Int)).wf = true := by simp [Lit.wf, IntKind.min, IntKind.max, IntKind.signed, IntKind.bits]; omega
          obtain ⟨w6, hrun, hC6, hk6⟩ := hCV.delete hnl hwf 0
          rw [dropJ_step] at hC6
          have hpm : pb ≠ mb := fun e => hC.map.ne hP (by rw [e])
          have hxm : xb ≠ mb := fun e => hC.map.ne hW (by rw [e])
          have hS6 : Hid (CtAt B0 w6 cb (some mb) ((List.range 8).map (spAt T)) (dropJ (metaT T) nm (j + 1)) n c ∧ Kept (fun q => q = xb ∨ ofC cb (some mb) q) w w6 ∧ Whole w6 pb 33 (plRows nm N) ∧ Whole w6 xb 82 (enL cb rest brk)) := Lib.hid
            ⟨hC6, (hK.trans ((Kept.of_below hbV).trans (show Kept (fun q => q = xb ∨ ofC cb (some mb) q) V V.drew from (Kept.refl _ _).drewN 1))).trans (hk6.mono (fun k _ e => Or.inr (.inr (by rw [e])))), (show Whole V.drew pb _ _ from hPV).of_kept hk6 hpm, (show Whole V.drew xb _ _ from hWV).of_kept hk6 hxm⟩
          have hji : (j : Int) < (N : Int) := by omega
          clear hC hK hP hW hbV hX hCV hPV hWV hC6 hk6
          go_upto_region 8 with fail
          rw [← show V = _ from hV.out, hvb.out]
          clear hV hvb p0 p1
          go_region
          clear hrun q0 q1 x0 m0
          go_wp2_with fail
          go_roundg (gk - 1)
          case measure => omega
          case rel => exact ⟨j + 1, by omega, by omega, by go_num, hS6⟩
        · obtain rfl : j = N := by omega
          have hp9 := Lib.hid (hfin.out wo hC hK)
          have x0 : wo.cell? ⟨xb, 0, none⟩ = some (.pointer (some ⟨cb, 0, none⟩)) := hW.cell 0
          have hcl : ∀ i v, (spL ⟨nm, (j : Int), ag, sz, cp⟩)[i]? = some v → wo.cell? ⟨cb, k * 5 + i, none⟩ = some v := fun i v hv => by
            rw [hC.box.cell, ctL_sp hC.eight _ _ hk8 (List.getElem?_eq_some_iff.1 hv).1 (spAt_range T hk8), hSk]
            exact hv
          have d0 : wo.cell? ⟨cb, k * 5, none⟩ = some (.string nm) := hcl 0 _ rfl
          have d1 : wo.cell? ⟨cb, k * 5 + 1, none⟩ = some (.int .i64 (j : Int)) := hcl 1 _ rfl
          have d2 : wo.cell? ⟨cb, k * 5 + 2, none⟩ = some (.int .i64 ag) := hcl 2 _ rfl
          have d3 : wo.cell? ⟨cb, k * 5 + 3, none⟩ = some (.int .i64 sz) := hcl 3 _ rfl
          have d4 : wo.cell? ⟨cb, k * 5 + 4, none⟩ = some (.bool cp) := hcl 4 _ rfl
          have f0 := hC.box.frozen (k * 5)
          have f1 := hC.box.frozen (k * 5 + 1)
          have f2 := hC.box.frozen (k * 5 + 2)
          have f3 := hC.box.frozen (k * 5 + 3)
          have f4 := hC.box.frozen (k * 5 + 4)
          clear hC hK hP hW hcl hfin
          go_wp2_with fail
          go_ret
          exact hp9.out
end Go.Proofs.YtgogackkeodciaaGreat.W
