/- Package catalog: the slots' search (IndexFunc with a closure), has. -/
import Derived.Test.YtgogackkeodciaaGreatCgA
import Derived.Deep.LoopGhost
namespace Go.Proofs.YtgogackkeodciaaGreat.W
open Go.RowKit Go.Sort
open Go.Proofs.YtgogackkeodciaaGreat.M Go.Proofs.YtgogackkeodciaaGreat.D Go.Proofs.YtgogackkeodciaaGreat.Z
set_option linter.unusedVariables false
set_option linter.unusedSimpArgs false

/-- The first place of which P is true; -1: none. -/
def idxF (P : Sp → Bool) (S : List Sp) : Int := match S.findIdx? P with
  | some i => (i : Int)
  | none => -1
theorem idxF_hit {P : Sp → Bool} {S : List Sp} {j : Nat} {x : Sp} (hx : S[j]? = some x) (hp : P x = true) (hn : ∀ i y, i < j → S[i]? = some y → P y = false) : idxF P S = (j : Int) := by
  obtain ⟨hj, rfl⟩ := List.getElem?_eq_some_iff.1 hx
  have : S.findIdx? P = some j := List.findIdx?_eq_some_iff_getElem.2 ⟨hj, hp, fun i hi => by
    have := hn i S[i] hi (List.getElem?_eq_getElem _)
    rw [this]; simp⟩
  unfold idxF; rw [this]
theorem idxF_miss {P : Sp → Bool} {S : List Sp} (hn : ∀ i y, i < S.length → S[i]? = some y → P y = false) : idxF P S = -1 := by
  have : S.findIdx? P = none := List.findIdx?_eq_none_iff.2 fun x hx => by
    obtain ⟨i, hi⟩ := List.getElem?_of_mem hx
    exact hn i x (List.getElem?_eq_some_iff.1 hi).1 hi
  unfold idxF; rw [this]
theorem idxF_ways (P : Sp → Bool) (S : List Sp) : (∃ (j : Nat) (x : Sp), S[j]? = some x ∧ P x = true ∧ idxF P S = (j : Int) ∧ j < S.length ∧ ∀ i y, i < j → S[i]? = some y → P y = false) ∨ ((∀ x ∈ S, P x = false) ∧ idxF P S = -1) := by
  cases h : S.findIdx? P with
  | some j =>
    obtain ⟨hj, hp, hn⟩ := List.findIdx?_eq_some_iff_getElem.1 h
    refine .inl ⟨j, S[j], List.getElem?_eq_getElem hj, hp, by unfold idxF; rw [h], hj, fun i y hi hy => ?_⟩
    obtain ⟨hi2, rfl⟩ := List.getElem?_eq_some_iff.1 hy
    simpa using hn i hi
  | none => exact .inr ⟨fun x hx => by simpa using List.findIdx?_eq_none_iff.1 h x hx, by unfold idxF; rw [h]⟩
section
variable (P : Sp → Bool) (gf kb : Nat)
theorem sindex_any (q c : Nat) (S : List Sp) (w : World) (hn : S.length ≤ 1000) (hrow : ∀ j x, S[j]? = some x → ∀ i v, (spL x)[i]? = some v → w.cell? ⟨q, j * 5 + i, none⟩ = some v)
    (eg : ∀ args w, (callFunc gf args).run Tryz.prog w = .ok (.enter gf args) w) (hf : ∀ W, Below w.heap.size w W → ∀ x : Sp, Calls Tryz.prog gf #[.agg #[.string x.nm, .int .i64 x.parts, .int .i64 x.age, .int .i64 x.size, .bool x.comp], .pointer (some ⟨kb, 0, none⟩)] W fun e w' => e = .returned (.bool (P x)) ∧ Below W.heap.size W w') :
    Calls Tryz.prog 67 #[.slice (some ⟨q, 0, none⟩) S.length c, .func (.func gf) #[] #[.pointer (some ⟨kb, 0, none⟩)]] w fun e w' => e = .returned (.int .i64 (idxF P S)) ∧ Below w.heap.size w w' := by
  obtain ⟨R, hR⟩ : ∃ R, Hid (idxF P S = R) := ⟨_, Lib.hid rfl⟩
  have hit : Hid (∀ (j : Nat) (x : Sp), S[j]? = some x → P x = true → (∀ (i : Nat) (y : Sp), i < j → S[i]? = some y → P y = false) → R = (j : Int)) := Lib.hid (fun j x a b c => by rw [← hR.out]; exact idxF_hit a b c)
  have miss : Hid ((∀ i y, i < S.length → S[i]? = some y → P y = false) → R = -1) := Lib.hid (fun a => by rw [← hR.out]; exact idxF_miss a)
  rw [hR.out]
  clear hR
  have hr0 : Hid (∀ W, Below w.heap.size w W → ∀ j x, S[j]? = some x → ∀ i v, (spL x)[i]? = some v → W.cell? ⟨q, j * 5 + i, none⟩ = some v) := Lib.hid (fun W hb j x hx i v hv => keepZ (w := w) (w' := W) (a := ⟨q, j * 5 + i, none⟩) hb (hrow j x hx i v hv))
  replace hf := Lib.hid hf
  have hB := Below.refl w.heap.size w
  obtain ⟨n, hnn⟩ : ∃ n, Hid (S.length = n) := ⟨_, Lib.hid rfl⟩
  rw [hnn.out] at hn miss ⊢
  clear hrow
  go_enter Tryz.func67, Tryz.ntmps67
  go_wp2_with fail
  go_loopg [8] n (fun ga i wr => ∃ j : Nat, j ≤ n ∧ n ≤ j + ga ∧ i = .int .i64 j ∧ Hid (∀ i y, i < j → S[i]? = some y → P y = false) ∧ Hid (Below w.heap.size w wr))
  case atStart => exact ⟨0, by omega, by omega, rfl, Lib.hid (fun i y hi => by omega), Lib.hid hB⟩
  case round =>
    clear hB
    obtain ⟨j, hj, hg, rfl, hno, hb⟩ := hrel
    generalize wr = wo at *
    by_cases hlt : j < n
    · obtain ⟨x, hx⟩ : ∃ x, S[j]? = some x := ⟨_, List.getElem?_eq_getElem (by have := hnn.out; omega)⟩
      have hcx := hr0.out wo hb.out j x hx
      have c0 : wo.cell? ⟨q, j * 5, none⟩ = some (.string x.nm) := hcx 0 _ rfl
      have c1 : wo.cell? ⟨q, j * 5 + 1, none⟩ = some (.int .i64 x.parts) := hcx 1 _ rfl
      have c2 : wo.cell? ⟨q, j * 5 + 2, none⟩ = some (.int .i64 x.age) := hcx 2 _ rfl
      have c3 : wo.cell? ⟨q, j * 5 + 3, none⟩ = some (.int .i64 x.size) := hcx 3 _ rfl
      have c4 : wo.cell? ⟨q, j * 5 + 4, none⟩ = some (.bool x.comp) := hcx 4 _ rfl
      have hfx := hf.out wo hb.out x
      replace hx := Lib.hid hx
      clear hcx
      cases hs : P x <;> rw [hs] at hfx <;> replace hs := Lib.hid hs <;> replace hfx := Lib.hid hfx
      · have hno2 : Hid (∀ i y, i < j + 1 → S[i]? = some y → P y = false) := Lib.hid (fun i y hi hy => by
          rcases Nat.lt_or_ge i j with c | c
          · exact hno.out i y c hy
          · obtain rfl : i = j := by omega
            rw [hx.out] at hy; cases hy; exact hs.out)
        obtain ⟨nm, pa, ag, sz, cp⟩ := x
        dsimp only at c0 c1 c2 c3 c4 hfx
        clear hno hs hx
        go_wp2_with fail
        refine hfx.out.mono ?_
        rintro _ w1 ⟨rfl, hb1⟩
        have hb2 := Lib.hid (grew hb.out hb1)
        clear hb1 hfx hb c0 c1 c2 c3 c4
        go_wp2_with fail
        go_roundg (gk - 1)
        case measure => omega
        case rel => exact ⟨j + 1, by omega, by omega, by go_num, hno2, hb2⟩
      · have hRj := hit.out j x hx.out hs.out hno.out
        subst hRj
        obtain ⟨nm, pa, ag, sz, cp⟩ := x
        dsimp only at c0 c1 c2 c3 c4 hfx
        clear hno hs hx hit miss
        go_wp2_with fail
        refine hfx.out.mono ?_
        rintro _ w1 ⟨rfl, hb1⟩
        have hb2 := Lib.hid (grew hb.out hb1)
        clear hb1 hfx hb c0 c1 c2 c3 c4
        go_wp2_with fail
        go_ret
        exact ⟨rfl, hb2.out⟩
    · obtain rfl : j = n := by omega
      have hRj := miss.out hno.out
      subst hRj
      clear hit miss hno
      go_wp2_with fail
      go_ret
      exact ⟨rfl, hb.out⟩
end
def nameIs (nm : ByteArray) (x : Sp) : Bool := decide (x.nm = nm)
theorem slotC_any (kb : Nat) (nm : ByteArray) (x : Sp) (w : World) (hk : w.cell? ⟨kb, 0, none⟩ = some (.string nm)) :
    Calls Tryz.prog 68 #[.agg #[.string x.nm, .int .i64 x.parts, .int .i64 x.age, .int .i64 x.size, .bool x.comp], .pointer (some ⟨kb, 0, none⟩)] w fun e w' => e = .returned (.bool (nameIs nm x)) ∧ Below w.heap.size w w' := by
  obtain ⟨V, hV⟩ : ∃ V, Hid (V = w.alloc (.cells #[.string x.nm, .int .i64 x.parts, .int .i64 x.age, .int .i64 x.size, .bool x.comp] 31)) := ⟨_, Lib.hid rfl⟩
  have hB : Below w.heap.size w V := by rw [hV.out]; exact grewAlloc (Below.refl _ _) _
  have hX : Whole V w.heap.size 31 [.string x.nm, .int .i64 x.parts, .int .i64 x.age, .int .i64 x.size, .bool x.comp] := by rw [hV.out]; exact Whole.new w _ _
  obtain ⟨xb, hxb⟩ : ∃ q, Hid (w.heap.size = q) := ⟨_, Lib.hid rfl⟩
  have c0 := keepZ (w := w) (w' := V) (a := ⟨kb, 0, none⟩) hB hk
  rw [hxb.out] at hX
  have q0 : V.cell? ⟨xb, 0, none⟩ = some (.string x.nm) := hX.cell 0
  have hs := strEq x.nm nm
  obtain ⟨R, hR⟩ : ∃ R, Hid (nameIs nm x = R) := ⟨_, Lib.hid rfl⟩
  rw [show decide (x.nm = nm) = R from hR.out] at hs
  rw [hR.out]
  obtain ⟨nm', pa, ag, sz, cp⟩ := x
  dsimp only at hs q0 hV
  replace hB := Lib.hid hB
  clear hR hX hk
  cases R
  all_goals
    go_enter Tryz.func68, Tryz.ntmps68
    go_upto_region 1 with fail
    rw [← show V = _ from hV.out, hxb.out]
    clear hV hxb
    go_wp2_with fail
    go_ret
    exact ⟨rfl, hB.out⟩
theorem slot_any {B0 : Nat} (cb : Nat) (m : Option Nat) (S : List Sp) (F : ByteArray → Int → Option Mt) (n : Int) (c : Nat) (nm : ByteArray) (w : World) (h : CtAt B0 w cb m S F n c) :
    Calls Tryz.prog 42 #[.pointer (some ⟨cb, 0, none⟩), .string nm] w fun e w' => e = .returned (.int .i64 (idxF (nameIs nm) S)) ∧ Below w.heap.size w w' := by
  obtain ⟨V, hV⟩ : ∃ V, Hid (V = w.alloc (.cells #[.string nm] 9)) := ⟨_, Lib.hid rfl⟩
  have hB : Below w.heap.size w V := by rw [hV.out]; exact grewAlloc (Below.refl _ _) _
  have hX : Whole V w.heap.size 9 [.string nm] := by rw [hV.out]; exact Whole.new w _ _
  obtain ⟨xb, hxb⟩ : ∃ q, Hid (w.heap.size = q) := ⟨_, Lib.hid rfl⟩
  rw [hxb.out] at hX
  have hV8 := h.below hB
  have hix := sindex_any (nameIs nm) 68 xb cb 8 S V (by rw [h.eight]; omega) (fun j x hx i v hv => by
      have hj : j < 8 := by rw [← h.eight]; exact (List.getElem?_eq_some_iff.1 hx).1
      have hi : i < 5 := (List.getElem?_eq_some_iff.1 hv).1
      rw [hV8.box.cell, ctL_sp h.eight m n hj hi hx, hv])
    (fun _ _ => by kernel_rfl) (fun W hb x => slotC_any xb nm x W (keepZ (w := V) (w' := W) (a := ⟨xb, 0, none⟩) hb (hX.cell 0)))
  rw [h.eight] at hix
  obtain ⟨R, hR⟩ : ∃ R, Hid (idxF (nameIs nm) S = R) := ⟨_, Lib.hid rfl⟩
  rw [hR.out] at hix ⊢
  replace hix := Lib.hid hix
  replace hB := Lib.hid hB
  clear h hV8 hX hR
  go_enter Tryz.func42, Tryz.ntmps42
  go_upto_region 1 with fail
  rw [← show V = _ from hV.out, hxb.out]
  clear hV hxb
  go_wp2_with fail
  refine hix.out.mono ?_
  rintro e w1 ⟨rfl, hb1⟩
  have hb2 := Lib.hid (grew hB.out hb1)
  clear hb1 hix hB
  go_wp2_with fail
  go_ret
  exact ⟨rfl, hb2.out⟩
/-- Where a topic is: its slot; -1: it is not there. -/
def slotI (T : List To) (nm : ByteArray) : Int := match findT T nm with
  | some x => x.slot
  | none => -1
/-- The lowest free slot; -1: none. -/
def lowT (T : List To) : Int := match (List.range 8).find? fun i : Nat => freeS T (i : Int) with
  | some i => (i : Int)
  | none => -1
theorem spAt_of {T : List To} {n : Int} (h : CatOk T n) {x : To} (hx : x ∈ T) : spAt T x.slot.toNat = x.sp := by
  have h1 := (h.ok x hx).2.1
  unfold spAt
  rw [show ((x.slot.toNat : Nat) : Int) = x.slot by omega, h.slot.2 ⟨hx, rfl⟩]
theorem spAt_free {T : List To} {i : Nat} (h : freeS T (i : Int) = true) : spAt T i = zSp := by
  unfold freeS at h
  unfold spAt
  rw [Option.isNone_iff_eq_none.1 h]
theorem spAt_name {T : List To} {n : Int} (h : CatOk T n) {i : Nat} {nm : ByteArray} (h0 : nm.size ≠ 0) (he : (spAt T i).nm = nm) : ∃ x, findT T nm = some x ∧ x.slot = (i : Int) := by
  unfold spAt at he
  cases hs : slotT T (i : Int) with
  | none => rw [hs] at he; exact absurd (by rw [← he]; rfl) h0
  | some x =>
    rw [hs] at he
    obtain ⟨h1, h2⟩ := h.slot.1 hs
    exact ⟨x, h.find.2 ⟨h1, he⟩, h2⟩
theorem spAt_empty {T : List To} {n : Int} (h : CatOk T n) {i : Nat} {nm : ByteArray} (h0 : nm.size = 0) : decide ((spAt T i).nm = nm) = freeS T (i : Int) := by
  unfold spAt freeS
  cases hs : slotT T (i : Int) with
  | none => 
    rw [show nm = ⟨#[]⟩ from by obtain ⟨⟨l⟩⟩ := nm; have : l.length = 0 := h0; rw [List.length_eq_zero_iff.1 this]]
    rfl
  | some x =>
    have := h.name_ne (h.slot.1 hs).1
    show decide (x.sp.nm = nm) = false
    exact decide_eq_false (fun e => by rw [e] at this; omega)
theorem idx_name {T : List To} {n : Int} (h : CatOk T n) {nm : ByteArray} (h0 : nm.size ≠ 0) : idxF (nameIs nm) ((List.range 8).map (spAt T)) = slotI T nm := by
  rcases idxF_ways (nameIs nm) ((List.range 8).map (spAt T)) with ⟨j, x, hx, hp, hr, hj, _⟩ | ⟨hall, hr⟩
  · rw [hr]
    have hj8 : j < 8 := by simpa using hj
    rw [spAt_range T hj8] at hx
    cases hx
    obtain ⟨y, h1, h2⟩ := spAt_name h h0 (of_decide_eq_true hp)
    unfold slotI; rw [h1]; exact h2.symm
  · rw [hr]
    unfold slotI
    cases hf : findT T nm with
    | none => rfl
    | some x =>
      obtain ⟨h1, h2⟩ := h.find.1 hf
      have h3 := (h.ok x h1).2.1
      have := hall (spAt T x.slot.toNat) (List.mem_map.2 ⟨_, List.mem_range.2 (by omega), rfl⟩)
      rw [spAt_of h h1] at this
      exact absurd h2 (of_decide_eq_false this)
theorem idx_free {T : List To} {n : Int} (h : CatOk T n) {nm : ByteArray} (h0 : nm.size = 0) : idxF (nameIs nm) ((List.range 8).map (spAt T)) = lowT T := by
  unfold idxF lowT
  have e : ((List.range 8).map (spAt T)).findIdx? (nameIs nm) = (List.range 8).find? (fun i : Nat => freeS T (i : Int)) := by
    have e0 : ∀ i, nameIs nm (spAt T i) = freeS T (i : Int) := fun i => spAt_empty h h0
    have e1 : (List.range 8).map (spAt T) = [spAt T 0, spAt T 1, spAt T 2, spAt T 3, spAt T 4, spAt T 5, spAt T 6, spAt T 7] := rfl
    have e2 : List.range 8 = [0, 1, 2, 3, 4, 5, 6, 7] := rfl
    rw [e1, e2]
    simp only [List.findIdx?_cons, List.findIdx?_nil, List.find?_cons, List.find?_nil, e0]
    cases freeS T ((0 : Nat) : Int) <;> cases freeS T ((1 : Nat) : Int) <;> cases freeS T ((2 : Nat) : Int) <;> cases freeS T ((3 : Nat) : Int) <;> cases freeS T ((4 : Nat) : Int) <;> cases freeS T ((5 : Nat) : Int) <;> cases freeS T ((6 : Nat) : Int) <;> cases freeS T ((7 : Nat) : Int) <;> rfl
  rw [e]
theorem slotI_has {T : List To} {n : Int} (h : CatOk T n) (nm : ByteArray) : hasT T nm = decide (0 ≤ slotI T nm) := by
  unfold hasT slotI
  cases hf : findT T nm with
  | none => rfl
  | some x => have := (h.ok x (h.find.1 hf).1).2.1; exact (decide_eq_true this.1).symm
theorem has23_any {B0 : Nat} (cb : Nat) (m : Option Nat) (T : List To) (n : Int) (c : Nat) (nm : ByteArray) (w : World) (h : CaAt B0 w cb m T n c) :
    Calls Tryz.prog 41 #[.pointer (some ⟨cb, 0, none⟩), .string nm] w fun e w' => e = .returned (.bool (hasT T nm)) ∧ Below w.heap.size w w' := by
  have hB := Below.refl w.heap.size w
  by_cases h0 : nm.size = 0
  · rw [hasT_empty h.ok h0]
    obtain rfl : nm = ⟨#[]⟩ := by obtain ⟨⟨l⟩⟩ := nm; have : l.length = 0 := h0; rw [List.length_eq_zero_iff.1 this]
    clear h h0
    go_enter Tryz.func41, Tryz.ntmps41
    go_wp2_with fail
    go_ret
    exact ⟨rfl, hB⟩
  · have hs := slot_any cb m _ _ n c nm w h.at_
    rw [idx_name h.ok h0] at hs
    rw [slotI_has h.ok]
    obtain ⟨R, hR⟩ : ∃ R, Hid (slotI T nm = R) := ⟨_, Lib.hid rfl⟩
    rw [hR.out] at hs ⊢
    have hne : nm.toList ≠ [] := fun e => h0 (by rw [Lib.toList_data] at e; have := congrArg List.length e; simpa using this)
    have hne2 : nm.toList.isEmpty = false := by cases hh : nm.toList with
      | nil => exact absurd hh hne
      | cons a l => rfl
    replace hs := Lib.hid hs
    clear h h0 hR
    by_cases hr : 0 ≤ R
    · rw [decide_eq_true hr]
      go_enter Tryz.func41, Tryz.ntmps41
      go_wp2_with fail
      refine hs.out.mono ?_
      rintro e w1 ⟨rfl, hb1⟩
      go_wp2_with fail
      go_ret
      exact ⟨rfl, hb1⟩
    · rw [decide_eq_false hr]
      have hr2 : R < 0 := by omega
      have hr3 : decide (0 ≤ R) = false := decide_eq_false hr
      go_enter Tryz.func41, Tryz.ntmps41
      go_wp2_with fail
      refine hs.out.mono ?_
      rintro e w1 ⟨rfl, hb1⟩
      go_wp2_with fail
      go_ret
      exact ⟨rfl, hb1⟩
end Go.Proofs.YtgogackkeodciaaGreat.W
