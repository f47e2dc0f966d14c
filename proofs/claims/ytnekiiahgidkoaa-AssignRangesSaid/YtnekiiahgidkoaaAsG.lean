/- Layer 28: Range, Of. -/
import Derived.Test.YtnekiiahgidkoaaAsW
import Derived.Test.YtnekiiahgidkoaaFlat
import Derived.Test.YtnekiiahgidkoaaStops
import Derived.Maps.OwnSet
import Derived.Maps.RangeWalk
import Derived.Deep.AppendLies
import Derived.Deep.Cut
import Derived.StringKeys
namespace Go.Proofs.Ytnekiiahgidkoaa.W
open Go.RowKit Go.Sort
open Go.Maps (Keyed)
open Go.Proofs.Ytnekiiahgidkoaa.M Go.Proofs.Ytnekiiahgidkoaa.D Go.Proofs.Ytnekiiahgidkoaa.Z
set_option linter.unusedVariables false
set_option linter.unusedSimpArgs false

/-- Why members may not be; why there is no assignment. -/
def why28 (N : List Nm) : Int := if okN N = true then (if N.Nodup then 0 else 8) else 1
def whyR (N : List Nm) (p : Int) : Int := if why28 N = 0 then (if 0 ≤ p ∧ p ≤ 4 then 0 else 1) else why28 N
theorem why_zero {N : List Nm} (h : why28 N = 0) : okN N = true ∧ N.Nodup := by
  unfold why28 at h
  by_cases a : okN N = true
  · rw [if_pos a] at h
    by_cases b : N.Nodup
    · exact ⟨a, b⟩
    · rw [if_neg b] at h; cases h
  · rw [if_neg a] at h; cases h
theorem whyR_zero {N : List Nm} {p : Int} (h : whyR N p = 0) : why28 N = 0 ∧ 0 ≤ p ∧ p ≤ 4 := by
  unfold whyR at h
  by_cases a : why28 N = 0
  · rw [if_pos a] at h
    by_cases b : 0 ≤ p ∧ p ≤ 4
    · exact ⟨a, b⟩
    · rw [if_neg b] at h; cases h
  · rw [if_neg a] at h; exact absurd h a
theorem why_ways (N : List Nm) : why28 N = 0 ∨ why28 N = 1 ∨ why28 N = 8 := by
  unfold why28; split <;> (try split) <;> simp
theorem ok_len {N : List Nm} (h : okN N = true) {s : Nm} (hs : s ∈ N) : s.length ≤ 12 := by
  unfold okN at h; rw [List.all_eq_true] at h
  have := (nameB_split (h s hs)).2
  rw [B_size] at this; exact this
theorem sorted28_no (A : Option Addr) (c : Nat) (N : List Nm) (w : World) (hN : N.length ≤ 100000) (hrow : SrAt w A N) (hw : why28 N ≠ 0) :
    Calls Try.prog 10 #[.slice A N.length c] w fun e w' => e = .returned (.tuple #[.slice none 0 0, .int .i64 (why28 N)]) ∧ Below w.heap.size w w' := by
  refine (sorted28_any A c N w hN hrow).mono ?_
  rintro e w' (⟨h1, rfl, h2⟩ | ⟨h1, h2, rfl, h3⟩ | ⟨h1, h2, _⟩)
  · exact ⟨by unfold why28; rw [h1]; rfl, h2⟩
  · exact ⟨by unfold why28; rw [if_pos h1, if_neg h2], h3⟩
  · exact absurd (by unfold why28; rw [if_pos h1, if_pos h2]) hw
theorem sorted28_ok (A : Option Addr) (c : Nat) (N : List Nm) (w : World) (hN : N.length ≤ 100000) (hrow : SrAt w A N) (hw : why28 N = 0) :
    Calls Try.prog 10 #[.slice A N.length c] w fun e w' => ∃ A1 c1, e = .returned (.tuple #[.slice A1 N.length c1, .int .i64 0]) ∧ SoAt w N A1 c1 w' := by
  obtain ⟨a, b⟩ := why_zero hw
  refine (sorted28_any A c N w hN hrow).mono ?_
  rintro e w' (⟨h1, rfl, h2⟩ | ⟨h1, h2, rfl, h3⟩ | ⟨h1, h2, h3⟩)
  · rw [a] at h1; cases h1
  · exact absurd b h2
  · exact h3

theorem keyed28 : Keyed Try.prog 9 := Maps.string_keyed Try.underlying9
theorem zeroSl (w : World) : (zeroValue 29).run Try.prog w = .ok (.slice none 0 0) w := by kernel_rfl
theorem key28 {s : Nm} (h : s.length ≤ maxLen) : keyOf Try.prog 9 (.string (B s)) = some (.string s) :=
  Go.WideMaps.keyOf_string_mk Try.underlying9 (by rw [B_size]; exact h)
/-- A slice as what a map holds. -/
def slR : Value → Option (DataW Value × List MemPlace)
  | .slice A n c => some (.held (.slice A n c), [])
  | _ => none
theorem slR_inv {v : Value} {z : DataW Value × List MemPlace} (h : slR v = some z) : ∃ A n c, v = .slice A n c ∧ z = (.held (.slice A n c), []) := by
  cases v with
  | slice A n c => exact ⟨A, n, c, rfl, (Option.some.inj h).symm⟩
  | _ => cases h
/-- The assignment: the first a members have theirs. -/
structure RgAt (B0 : Nat) (w : World) (S : List Nm) (p n a mb : Nat) (D : DataW Value) : Prop where
  own : w.ownsMap Try.prog 9 slR mb a D
  base : B0 ≤ mb
  size : Maps.size D = a
  has : ∀ s, Maps.has D (.string s) = true ↔ ∃ i, i < a ∧ S[i]? = some s
  at_ : ∀ i s, i < a → S[i]? = some s → ∃ A c, (∀ z, D.atKey (.string s) z = .held (.slice A (shr p n i) c)) ∧ InAt w A (iv p n i) ∧ ∀ g, A = some ⟨g, 0, none⟩ → B0 ≤ g
section
variable {B0 : Nat} {w w' : World} {S : List Nm} {p n a mb : Nat} {D : DataW Value}
theorem RgAt.below (h : RgAt B0 w S p n a mb D) (hb : Below w.heap.size w w') : RgAt B0 w' S p n a mb D :=
  ⟨h.own.kept (row := none) ⟨hb.os, hb.tape, hb.output, hb.size, fun i hi _ => hb.block i hi⟩ (by simp), h.base, h.size, h.has, fun i s hi hs =>
    let ⟨A, c, h1, h2, h3⟩ := h.at_ i s hi hs
    ⟨A, c, h1, h2.below (Nat.le_refl _) hb, h3⟩⟩
theorem RgAt.made (hB : B0 ≤ w.heap.size) : RgAt B0 (w.alloc (.map #[] 0)) S p n 0 w.heap.size (.map []) :=
  ⟨World.ownsMap_made w Try.prog 9 slR, hB, rfl, fun s => by simp [Maps.has], fun i s hi => by omega⟩
theorem cell_no_map {mb : Nat} {es : Array MapEntry} {cl : Nat} (h : w.heap[mb]? = some (.map es cl)) {k : Nat} {v : Value} (hc : w.cell? ⟨mb, k, none⟩ = some v) : False := by
  simp [World.cell?, h] at hc
theorem InAt.apart {A : Option Addr} {xs : List Nat} (h : InAt w A xs) {es : Array MapEntry} {cl : Nat} (hm : w.heap[mb]? = some (.map es cl)) (hg : w.grownBy w' (some mb)) : InAt w' A xs := fun k x hk => by
  obtain ⟨g, e, h1, h2⟩ := h k x hk
  have hne : g ≠ mb := fun c => cell_no_map hm (by rw [← c]; exact h2)
  have hbk := hg.block g h1 (by simpa using hne)
  refine ⟨g, e, Nat.lt_of_lt_of_le h1 hg.size, ?_⟩
  simp only [World.cell?, hbk]
  simpa [World.cell?] using h2
theorem SrAt.apart {A : Option Addr} {xs : List Nm} (h : SrAt w A xs) {es : Array MapEntry} {cl : Nat} (hm : w.heap[mb]? = some (.map es cl)) (hg : w.grownBy w' (some mb)) : SrAt w' A xs := fun k x hk => by
  obtain ⟨g, o, e, h1, h2⟩ := h k x hk
  have hne : g ≠ mb := fun c => cell_no_map hm (by rw [← c]; exact h2)
  have hbk := hg.block g h1 (by simpa using hne)
  refine ⟨g, o, e, Nat.lt_of_lt_of_le h1 hg.size, ?_⟩
  simp only [World.cell?, hbk]
  simpa [World.cell?] using h2
theorem RgAt.put (h : RgAt B0 w S p n a mb D) (hS : S.Pairwise (· < ·)) {s : Nm} (hs : S[a]? = some s) {A : Option Addr} {c : Nat} (hA : InAt w A (iv p n a)) (hAb : ∀ g, A = some ⟨g, 0, none⟩ → B0 ≤ g) {D' : DataW Value} (hD : D' = D.put (.string s) (.held (.slice A (shr p n a) c)))
    (hown : w'.ownsMap Try.prog 9 slR mb (a + 1) D') (hg : w.grownBy w' (some mb)) : RgAt B0 w' S p n (a + 1) mb D' := by
  subst hD
  have ht := h.own.tidy keyed28
  obtain ⟨es, cl, hm, _⟩ := h.own
  have hnd : ∀ i s', i < a → S[i]? = some s' → s' ≠ s := fun i s' hi hs' e => by
    subst e
    have h1 := (List.getElem?_eq_some_iff.1 hs').2
    have h2 := (List.getElem?_eq_some_iff.1 hs).2
    have := List.pairwise_iff_getElem.1 hS i a (List.getElem?_eq_some_iff.1 hs').1 (List.getElem?_eq_some_iff.1 hs).1 hi
    rw [h1, h2] at this
    exact List.lt_irrefl _ this
  refine ⟨hown, h.base, ?_, fun s' => ?_, fun i s' hi hs' => ?_⟩
  · rw [Maps.size_put ht, h.size]
    have : Maps.has D (.string s) = false := by
      refine Bool.eq_false_iff.2 fun e => ?_
      obtain ⟨i, hi, hi2⟩ := (h.has s).1 e
      exact hnd i s hi hi2 rfl
    rw [this]; simp
  · by_cases e : s' = s
    · subst e
      rw [Maps.has_put_same (k := .string s') ht.isMap trivial]
      exact ⟨fun _ => ⟨a, by omega, hs⟩, fun _ => rfl⟩
    · rw [Maps.has_put_other (fun c => e (by simpa using c)), h.has s']
      constructor
      · rintro ⟨i, hi, hi2⟩; exact ⟨i, by omega, hi2⟩
      · rintro ⟨i, hi, hi2⟩
        rcases Nat.lt_or_ge i a with c | c
        · exact ⟨i, c, hi2⟩
        · obtain rfl : i = a := by omega
          rw [hs] at hi2; cases hi2; exact absurd rfl e
  · rcases Nat.lt_or_ge i a with c' | c'
    · obtain ⟨A1, c1, h1, h2, h3⟩ := h.at_ i s' c' hs'
      refine ⟨A1, c1, fun z => ?_, h2.apart hm hg, h3⟩
      rw [Maps.atKey_put_other (fun e => hnd i s' c' hs' (by simpa using e))]
      exact h1 z
    · obtain rfl : i = a := by omega
      rw [hs] at hs'; cases hs'
      exact ⟨A, c, fun z => Maps.atKey_put_same (k := .string s) ht.isMap trivial _ _, hA.apart hm hg, hAb⟩
end
theorem infoI28 : (Try.prog.info? 3).map (fun i => (i.zero, i.size, i.bytes)) = some (some (.int .i64 0), 1, 8) := by kernel_rfl
theorem make28 (n : Nat) (hn : n ≤ 100000) : ∃ cs : List Value, cs.length = n ∧ ∀ W : World, (Instr.makeSlice 29 (.int .i64 (n : Int)) (.int .i64 (n : Int))).run Try.prog W = .ok (.slice (some ⟨W.heap.size, 0, none⟩) n n) (W.alloc (.cells cs.toArray 3)) := by
  obtain ⟨i0, hi0, hz0, hz1, hz2⟩ := info_parts infoI28
  refine ⟨(madeCells (Value.int .i64 0).cells (n * i0.size)).toList, by simp [madeCells, hz1], fun W => ?_⟩
  have hr := run_make (P := Try.prog) W 29 3 i0 _ Try.underlying29 hi0 hz0 .i64 .i64 n n (by omega) (by omega) (by rw [hz2]; omega) (by omega)
  simp only [Int.toNat_natCast] at hr
  simpa using hr
/-- The first j of a row are there. -/
def FillAt (w : World) (b f j n : Nat) : Prop := ∃ cs : List Value, cs.length = n ∧ Whole w b 3 cs ∧ ∀ k, k < j → cs[k]? = some (.int .i64 ((f + k : Nat) : Int))
theorem FillAt.more {w : World} {b f j n : Nat} (h : FillAt w b f j n) (hj : j < n) : FillAt (w.setCell ⟨b, j, none⟩ (.int .i64 ((f + j : Nat) : Int))) b f (j + 1) n := by
  obtain ⟨cs, h1, h2, h3⟩ := h
  have hs := h2.store j [.int .i64 ((f + j : Nat) : Int)] (by simp; omega)
  simp only [World.setCells] at hs
  refine ⟨_, ?_, hs, fun k hk => ?_⟩
  · unfold splice; simp; omega
  · unfold splice
    rcases Nat.lt_or_ge k j with c | c
    · rw [List.getElem?_append_left (by simp; omega), List.getElem?_take_of_lt c]; exact h3 k c
    · obtain rfl : k = j := by omega
      rw [List.getElem?_append_right (by rw [List.length_take]; omega), List.length_take, Nat.min_eq_left (by omega), Nat.sub_self]; rfl
theorem FillAt.all {w : World} {b p n i : Nat} (h : FillAt w b (frm p n i) (shr p n i) (shr p n i)) : InAt w (some ⟨b, 0, none⟩) (iv p n i) := fun k x hk => by
  obtain ⟨cs, h1, h2, h3⟩ := h
  have hk1 : k < shr p n i := by have := (List.getElem?_eq_some_iff.1 hk).1; rwa [iv_len] at this
  rw [iv_get hk1] at hk
  cases hk
  exact ⟨b, rfl, h2.lt, by rw [h2.cell]; exact h3 k hk1⟩

set_option maxRecDepth 100000 in
set_option maxHeartbeats 4000000 in
theorem range28_why (A : Option Addr) (c : Nat) (N : List Nm) (p : Int) (w : World) (hN : N.length ≤ 100000) (hrow : SrAt w A N) (hw : why28 N ≠ 0) :
    Calls Try.prog 8 #[.slice A N.length c, .int .i64 p] w fun e w' => e = .returned (.tuple #[.map none, .int .i64 (why28 N)]) ∧ Below w.heap.size w w' := by
  have hs := sorted28_no A c N w hN hrow hw
  obtain ⟨len, hlen⟩ : ∃ len, Hid (N.length = len) := ⟨_, Lib.hid rfl⟩
  obtain ⟨E, hE⟩ : ∃ E, Hid (why28 N = E) := ⟨_, Lib.hid rfl⟩
  rw [hlen.out, hE.out] at hs
  rw [hlen.out, hE.out]
  rw [hE.out] at hw
  replace hs := Lib.hid hs
  clear hrow
  go_enter Try.func8, Try.ntmps8
  go_wp2_with fail
  refine hs.out.mono ?_
  rintro _ w1 ⟨rfl, hb⟩
  replace hb := Lib.hid hb
  clear hs
  go_wp2_with fail
  go_ret2
  exact ⟨rfl, hb.out⟩
set_option maxRecDepth 100000 in
set_option maxHeartbeats 4000000 in
theorem range28_arg (A : Option Addr) (c : Nat) (N : List Nm) (p : Int) (w : World) (hN : N.length ≤ 100000) (hrow : SrAt w A N) (hw : why28 N = 0) (hp : ¬ (0 ≤ p ∧ p ≤ 4)) :
    Calls Try.prog 8 #[.slice A N.length c, .int .i64 p] w fun e w' => e = .returned (.tuple #[.map none, .int .i64 1]) ∧ Below w.heap.size w w' := by
  have hs := sorted28_ok A c N w hN hrow hw
  obtain ⟨len, hlen⟩ : ∃ len, Hid (N.length = len) := ⟨_, Lib.hid rfl⟩
  rw [hlen.out] at hs ⊢
  replace hs := Lib.hid hs
  clear hrow hw
  by_cases h0 : p < 0
  · clear hp
    go_enter Try.func8, Try.ntmps8
    go_wp2_with fail
    refine hs.out.mono ?_
    rintro _ w1 ⟨A1, c1, rfl, hso⟩
    replace hso := Lib.hid hso.below
    clear hs
    go_wp2_with fail
    go_ret2
    exact ⟨rfl, hso.out⟩
  · have h1 : 4 < p := by omega
    clear hp
    go_enter Try.func8, Try.ntmps8
    go_wp2_with fail
    refine hs.out.mono ?_
    rintro _ w1 ⟨A1, c1, rfl, hso⟩
    replace hso := Lib.hid hso.below
    clear hs
    go_wp2_with fail
    go_ret2
    exact ⟨rfl, hso.out⟩
set_option maxRecDepth 100000 in
set_option maxHeartbeats 4000000 in
theorem range28_ok (A : Option Addr) (c : Nat) (N : List Nm) (p : Nat) (w : World) (hN : N.length ≤ 1000) (hrow : SrAt w A N) (hw : why28 N = 0) (hp : p ≤ 4) :
    Calls Try.prog 8 #[.slice A N.length c, .int .i64 p] w fun e w' => ∃ mb D, e = .returned (.tuple #[.map (some mb), .int .i64 0]) ∧ RgAt w.heap.size w' (srt N) p N.length N.length mb D ∧ Below w.heap.size w w' := by
  have hs := sorted28_ok A c N w (by omega) hrow hw
  obtain ⟨hok, hnd⟩ := why_zero hw
  have hS := Lib.hid (srt_lt hnd)
  have hsl := srt_len N
  have hlen12 : Hid (∀ (i : Nat) s, (srt N)[i]? = some s → s.length ≤ 12) := Lib.hid (fun i s hs => ok_len hok (srt_mem.1 (List.mem_of_getElem? hs)))
  have hsr : Hid (∀ A1 c1 w1, SoAt w N A1 c1 w1 → SrAt w1 A1 (srt N) ∧ Below w.heap.size w w1) := Lib.hid (fun A1 c1 w1 h => ⟨SrAt.own (Bs := w.heap.size) (n := N.length) (c := c1) (by rw [hsl]; exact h.own), h.below⟩)
  obtain ⟨S, hSS⟩ : ∃ S, Hid (srt N = S) := ⟨_, Lib.hid rfl⟩
  rw [hSS.out] at hS hsl hlen12 hsr
  rw [hSS.out]
  obtain ⟨len, hlen⟩ : ∃ len, Hid (N.length = len) := ⟨_, Lib.hid rfl⟩
  rw [hlen.out] at hs hsl hN
  rw [hlen.out]
  replace hs := Lib.hid hs
  replace hsl := Lib.hid hsl
  have hp0 : ¬ ((p : Int) < 0) := by omega
  have hp4 : (p : Int) ≤ 4 := by omega
  clear hrow hw hok hnd hSS
  have hmm := @run_makeMap Try.prog
  go_enter Try.func8, Try.ntmps8
  go_wp2_with fail
  refine hs.out.mono ?_
  rintro _ w1 ⟨A1, c1, rfl, hso⟩
  obtain ⟨hrow1, hb1⟩ := hsr.out A1 c1 w1 hso
  clear hs hso hsr
  obtain ⟨V, hV⟩ : ∃ V, Hid (V = w1.alloc (.map #[] 0)) := ⟨_, Lib.hid rfl⟩
  have hbV : Below w1.heap.size w1 V := by rw [hV.out]; exact (Below.refl _ w1).alloc (Nat.le_refl _) _
  have hrowV : SrAt V A1 S := hrow1.below (Nat.le_refl _) hbV
  have hM : RgAt w.heap.size V S p len 0 w1.heap.size (.map []) := by rw [hV.out]; exact RgAt.made hb1.size
  obtain ⟨mb, hmb⟩ : ∃ mb, Hid (w1.heap.size = mb) := ⟨_, Lib.hid rfl⟩
  rw [hmb.out] at hM
  have hst : Hid (SrAt V A1 S ∧ RgAt w.heap.size V S p len 0 mb (.map []) ∧ Below w.heap.size w V) := Lib.hid ⟨hrowV, hM, grew hb1 hbV⟩
  clear hrow1 hb1 hbV hrowV hM
  go_upto_region 7 with fail
  rw [← show V = _ from hV.out, hmb.out]
  clear hV hmb hmm
  go_wp2_with fail
  go_loopg [31, 9] len (fun ga i x wr => ∃ a : Nat, a ≤ len ∧ len ≤ a + ga ∧ i = .int .i64 (a : Int) ∧ x = .int .i64 ((frm p len a : Nat) : Int) ∧ Hid (∃ D, SrAt wr A1 S ∧ RgAt w.heap.size wr S p len a mb D ∧ Below w.heap.size w wr))
  case atStart => exact ⟨0, by omega, by omega, rfl, by rw [frm_zero]; rfl, Lib.hid ⟨_, hst.out⟩⟩
  case round =>
    clear hst
    obtain ⟨a, ha, hg, rfl, rfl, hrel⟩ := hrel
    generalize wr = wo at *
    generalize gk = gout at *
    obtain ⟨D, h1, h2, h3⟩ := hrel.out
    clear hrel
    by_cases hlt : a < len
    · obtain ⟨s, hs⟩ : ∃ s, S[a]? = some s := ⟨_, List.getElem?_eq_getElem (by have := hsl.out; omega)⟩
      obtain ⟨b, o, rfl, hb1, hc1⟩ := h1 a s hs
      rw [encStr_B] at hc1
      have hkey := key28 (s := s) (by have := hlen12.out a s hs; unfold maxLen; omega)
      have hsh := share28_any p len a (by omega) (by omega) (by omega) wo
      have hshl : shr p len a ≤ p := shr_le hlt
      have hfl : frm p len a ≤ p := by
        have := frm_mono p len (Nat.le_of_lt hlt)
        rwa [frm_all (by omega)] at this
      have hfn : frm p len (a + 1) = frm p len a + shr p len a := frm_succ p len a
      have hall := fun (W : World) (y : Nat) => FillAt.all (w := W) (b := y) (p := p) (n := len) (i := a)
      obtain ⟨cs, hcs, hmk⟩ := make28 (shr p len a) (by omega)
      obtain ⟨n, hn⟩ : ∃ n, Hid (shr p len a = n) := ⟨_, Lib.hid rfl⟩
      obtain ⟨f, hf⟩ : ∃ f, Hid (frm p len a = f) := ⟨_, Lib.hid rfl⟩
      rw [hn.out, hf.out] at hfn hall
      rw [hn.out] at hsh hshl hcs hmk
      rw [hf.out] at hfl
      rw [hf.out]
      obtain ⟨x, hx⟩ : ∃ x, Hid (B s = x) := ⟨_, Lib.hid rfl⟩
      rw [hx.out] at hc1 hkey
      replace hkey := Lib.hid hkey
      replace hall := Lib.hid hall
      replace hsh := Lib.hid hsh
      replace hfn := Lib.hid hfn
      obtain ⟨W1, hW1⟩ : ∃ W1, Hid (W1 = wo.alloc (.cells cs.toArray 3)) := ⟨_, Lib.hid rfl⟩
      have hb2 : Below wo.heap.size wo W1 := by rw [hW1.out]; exact (Below.refl _ wo).alloc (Nat.le_refl _) _
      have hF : FillAt W1 wo.heap.size f 0 n := ⟨cs, hcs, by rw [hW1.out]; exact Whole.new wo _ _, fun k hk => by omega⟩
      obtain ⟨y, hy⟩ : ∃ y, Hid (wo.heap.size = y) := ⟨_, Lib.hid rfl⟩
      rw [hy.out] at hF
      have hst : Hid (Below y wo W1 ∧ FillAt W1 y f 0 n) := Lib.hid ⟨by rw [← hy.out]; exact hb2, hF⟩
      have hH : Hid (SrAt wo (some ⟨b, o, none⟩) S ∧ RgAt w.heap.size wo S p len a mb D ∧ Below w.heap.size w wo) := Lib.hid ⟨h1, h2, h3⟩
      replace hs := Lib.hid hs
      clear h1 h2 h3 hb2 hF hcs
      go_wp2_with fail
      refine hsh.out.mono ?_
      rintro _ w2 ⟨rfl, e⟩
      obtain rfl : wo = w2 := e.symm
      clear hsh
      go_upto_region 11 with fail
      rw [← show W1 = _ from hW1.out, hy.out]
      clear hW1 hmk hc1
      go_wp2_with fail
      go_loopg [44, 9] n (fun ga i v wr => ∃ j F : Nat, j ≤ n ∧ n ≤ j + ga ∧ i = .int .i64 (j : Int) ∧ v = .int .i64 (F : Int) ∧ F ≤ f + n ∧ Hid (f + j = F) ∧ Hid (Below y wo wr ∧ FillAt wr y f j n))
      case atStart => exact ⟨0, f, by omega, by omega, rfl, rfl, by omega, Lib.hid rfl, hst⟩
      case round =>
        clear hst
        obtain ⟨j, F, hj, hg2, rfl, rfl, hFn, hF, hrel⟩ := hrel
        generalize wr = wi at *
        obtain ⟨hBi, hFi⟩ := hrel.out
        clear hrel
        by_cases hlt2 : j < n
        · obtain ⟨cs, hcs, hwh, hcj⟩ := id hFi
          obtain ⟨v0, hv0⟩ : ∃ v0, cs[j]? = some v0 := ⟨_, List.getElem?_eq_getElem (by omega)⟩
          have q0 : wi.cell? ⟨y, j, none⟩ = some v0 := by rw [hwh.cell]; exact hv0
          have q1 : wi.frozen? ⟨y, j, none⟩ = false := hwh.frozen j
          have hnx : Hid (Below y wo (wi.setCell ⟨y, j, none⟩ (.int .i64 (F : Int))) ∧ FillAt (wi.setCell ⟨y, j, none⟩ (.int .i64 (F : Int))) y f (j + 1) n) := Lib.hid ⟨by
            have := below_store hBi (Nat.le_refl y) (by rw [← hy.out]; exact Nat.le_refl _) j [.int .i64 (F : Int)]
            simpa only [World.setCells] using this, by
            have := hFi.more hlt2
            rwa [hF.out] at this⟩
          have hj0 : (0 : Int) ≤ (j : Int) := by omega
          have hjn : (j : Int) < (n : Int) := by omega
          have hF2 : Hid (f + (j + 1) = F + 1) := Lib.hid (by have := hF.out; omega)
          have hF3 : F + 1 ≤ f + n := by have := hF.out; omega
          clear hBi hFi hcs hwh hcj hv0 hF
          go_wp2_with fail
          go_roundg (gk - 1)
          case measure => omega
          case rel => exact ⟨j + 1, F + 1, by omega, by omega, by go_num, by go_num, hF3, hF2, hnx⟩
        · obtain rfl : j = n := by omega
          obtain ⟨h1, h2, h3⟩ := hH.out
          have hBo : Below wo.heap.size wo wi := by rw [hy.out]; exact hBi
          have h1i := h1.below (Nat.le_refl _) hBo
          have h2i := h2.below hBo
          have h3i := grew h3 hBo
          have hIn := hall.out wi y hFi
          obtain ⟨w3, hrun, hown, hgrow⟩ := h2i.own.update (t := 25) (key := .string x) (val := .slice (some ⟨y, 0, none⟩) j j) (d := .held (.slice (some ⟨y, 0, none⟩) j j)) (ps := []) keyed28 Try.underlying25 (by unfold maxLen; omega) hkey.out rfl
          have hmp := h2i.own
          have hbase := h2i.base
          obtain ⟨es, cl, hmb, _⟩ := hmp
          have hfin : Hid (∃ D, SrAt w3 (some ⟨b, o, none⟩) S ∧ RgAt w.heap.size w3 S p len (a + 1) mb D ∧ Below w.heap.size w w3) := Lib.hid ⟨_, h1i.apart hmb hgrow, h2i.put hS.out hs.out (A := some ⟨y, 0, none⟩) (c := j) hIn (fun g e => by cases e; have := h3.size; have := hy.out; omega) (by rw [hn.out]) hown hgrow, h3i.grown hgrow h3i.size (fun k e => by cases e; exact hbase)⟩
          have hFF : Hid (((F : Nat) : Int) = ((frm p len (a + 1) : Nat) : Int)) := Lib.hid (by have := hF.out; rw [hfn.out, this])
          clear h1 h2 h3 h1i h2i h3i hBo hBi hFi hown hgrow hIn hmb hF
          go_wp2_with fail
          go_roundg (gout - 1)
          case measure => omega
          case rel => exact ⟨a + 1, by omega, by omega, by go_num, by rw [hFF.out], hfin⟩
    · obtain rfl : a = len := by omega
      have hfin : Hid (RgAt w.heap.size wo S p a a mb D ∧ Below w.heap.size w wo) := Lib.hid ⟨h2, h3⟩
      clear h1 h2 h3
      go_wp2_with fail
      go_ret2
      exact ⟨mb, D, rfl, hfin.out⟩

/-! ### Of -/
section
variable {B0 : Nat} {w w' : World} {S : List Nm} {p n a mb : Nat} {D : DataW Value}
theorem RgAt.tell (h : RgAt B0 w S p n a mb D) {i : Nat} {s : Nm} (hi : i < a) (hs : S[i]? = some s) {v : Value} {ps : List MemPlace} {z : DataW Value} (hv : slR v = some (D.atKey (.string s) z, ps)) : ∃ A c, v = .slice A (iv p n i).length c ∧ InAt w A (iv p n i) ∧ ∀ g, A = some ⟨g, 0, none⟩ → B0 ≤ g := by
  obtain ⟨A, c, h1, h2, h3⟩ := h.at_ i s hi hs
  rw [h1 z] at hv
  obtain ⟨A', n', c', rfl, e⟩ := slR_inv hv
  injection e with e1 e2
  injection e1 with e1
  injection e1 with q1 q2 q3
  subst q1 q3
  exact ⟨A, c, by rw [iv_len, q2], h2, h3⟩
theorem RgAt.look_yes (h : RgAt B0 w S p n a mb D) {i : Nat} {s : Nm} (hi : i < a) (hs : S[i]? = some s) (hl : s.length ≤ maxLen) :
    ∃ A c, (Instr.lookup 25 (.map (some mb)) (.string (B s)) true).run Try.prog w = .ok (.tuple #[.slice A (iv p n i).length c, .bool true]) w ∧ (Instr.lookup 25 (.map (some mb)) (.string (B s)) false).run Try.prog w = .ok (.slice A (iv p n i).length c) w ∧ InAt w A (iv p n i) ∧ ∀ g, A = some ⟨g, 0, none⟩ → B0 ≤ g := by
  obtain ⟨v, ps, hrun, hv⟩ := h.own.look_ok keyed28 Try.underlying25 (zeroSl w) (zd := .held (.slice none 0 0)) (zp := []) rfl (key28 hl)
  obtain ⟨v2, ps2, hrun2, hv2⟩ := h.own.lookup keyed28 Try.underlying25 (zeroSl w) (zd := .held (.slice none 0 0)) (zp := []) rfl (key28 hl)
  obtain ⟨A, c, rfl, hA, hAb⟩ := h.tell hi hs hv
  obtain ⟨A2, n2, c2, rfl, e2⟩ := slR_inv hv2
  obtain ⟨A3, n3, c3, e4, e3⟩ := slR_inv hv
  injection e2 with e2 _
  injection e3 with e3 _
  rw [e2] at e3
  injection e3 with e3
  injection e3 with q1 q2 q3
  injection e4 with r1 r2 r3
  subst q1 q2 q3 r1 r3
  rw [show Maps.has D (.string s) = true from (h.has s).2 ⟨i, hi, hs⟩] at hrun
  exact ⟨_, _, hrun, by rw [hrun2, r2], hA, hAb⟩
theorem RgAt.look_no (h : RgAt B0 w S p n a mb D) {s : Nm} (hs : ∀ i, i < a → S[i]? ≠ some s) (hl : s.length ≤ maxLen) :
    ∃ A n c, (Instr.lookup 25 (.map (some mb)) (.string (B s)) true).run Try.prog w = .ok (.tuple #[.slice A n c, .bool false]) w := by
  obtain ⟨v, ps, hrun, hv⟩ := h.own.look_ok keyed28 Try.underlying25 (zeroSl w) (zd := .held (.slice none 0 0)) (zp := []) rfl (key28 hl)
  obtain ⟨A, n, c, rfl, _⟩ := slR_inv hv
  rw [show Maps.has D (.string s) = false from Bool.eq_false_iff.2 fun e => by obtain ⟨i, hi, h2⟩ := (h.has s).1 e; exact hs i hi h2] at hrun
  exact ⟨A, n, c, hrun⟩
end
theorem range28_no (A : Option Addr) (c : Nat) (N : List Nm) (p : Int) (w : World) (hN : N.length ≤ 100000) (hrow : SrAt w A N) (hw : whyR N p ≠ 0) :
    Calls Try.prog 8 #[.slice A N.length c, .int .i64 p] w fun e w' => e = .returned (.tuple #[.map none, .int .i64 (whyR N p)]) ∧ Below w.heap.size w w' := by
  by_cases h : why28 N = 0
  · by_cases h2 : 0 ≤ p ∧ p ≤ 4
    · exact absurd (by unfold whyR; rw [if_pos h, if_pos h2]) hw
    · rw [show whyR N p = 1 from by unfold whyR; rw [if_pos h, if_neg h2]]
      exact range28_arg A c N p w hN hrow h h2
  · rw [show whyR N p = why28 N from by unfold whyR; rw [if_neg h]]
    exact range28_why A c N p w hN hrow h
set_option maxRecDepth 100000 in
set_option maxHeartbeats 4000000 in
theorem of28_no (A : Option Addr) (c : Nat) (N : List Nm) (p : Int) (m : ByteArray) (w : World) (hN : N.length ≤ 100000) (hrow : SrAt w A N) (hw : whyR N p ≠ 0) :
    Calls Try.prog 9 #[.slice A N.length c, .int .i64 p, .string m] w fun e w' => e = .returned (.tuple #[.slice none 0 0, .int .i64 (whyR N p)]) ∧ Below w.heap.size w w' := by
  have hs := range28_no A c N p w hN hrow hw
  obtain ⟨len, hlen⟩ : ∃ len, Hid (N.length = len) := ⟨_, Lib.hid rfl⟩
  obtain ⟨E, hE⟩ : ∃ E, Hid (whyR N p = E) := ⟨_, Lib.hid rfl⟩
  rw [hlen.out, hE.out] at hs
  rw [hlen.out, hE.out]
  rw [hE.out] at hw
  replace hs := Lib.hid hs
  clear hrow hE
  go_enter Try.func9, Try.ntmps9
  go_wp2_with fail
  refine hs.out.mono ?_
  rintro _ w1 ⟨rfl, hb⟩
  replace hb := Lib.hid hb
  clear hs
  go_wp2_with fail
  go_ret2
  exact ⟨rfl, hb.out⟩
set_option maxRecDepth 100000 in
set_option maxHeartbeats 4000000 in
theorem of28_none (A : Option Addr) (c : Nat) (N : List Nm) (p : Nat) (m : Nm) (w : World) (hN : N.length ≤ 1000) (hrow : SrAt w A N) (hw : why28 N = 0) (hp : p ≤ 4) (hm : m ∉ N) (hl : m.length ≤ maxLen) :
    Calls Try.prog 9 #[.slice A N.length c, .int .i64 p, .string (B m)] w fun e w' => e = .returned (.tuple #[.slice none 0 0, .int .i64 6]) ∧ Below w.heap.size w w' := by
  have hs := range28_ok A c N p w hN hrow hw hp
  have hlk : Hid (∀ w' mb D, RgAt w.heap.size w' (srt N) p N.length N.length mb D → _) := Lib.hid (fun w' mb D h => RgAt.look_no (w := w') (mb := mb) (D := D) h (s := m) (fun i _ e => hm (srt_mem.1 (List.mem_of_getElem? e))) hl)
  obtain ⟨len, hlen⟩ : ∃ len, Hid (N.length = len) := ⟨_, Lib.hid rfl⟩
  obtain ⟨x, hx⟩ : ∃ x, Hid (B m = x) := ⟨_, Lib.hid rfl⟩
  rw [hlen.out] at hs hlk
  rw [hx.out] at hlk
  rw [hlen.out, hx.out]
  replace hs := Lib.hid hs
  clear hrow hw hm hl hlen
  go_enter Try.func9, Try.ntmps9
  go_wp2_with fail
  refine hs.out.mono ?_
  rintro _ w1 ⟨mb, D, rfl, hR, hb⟩
  obtain ⟨A1, n1, c1, hrun⟩ := hlk.out w1 mb D hR
  replace hb := Lib.hid hb
  clear hs hR hlk
  go_wp2_with fail
  go_ret2
  exact ⟨rfl, hb.out⟩
set_option maxRecDepth 100000 in
set_option maxHeartbeats 4000000 in
theorem of28_ok (A : Option Addr) (c : Nat) (N : List Nm) (p : Nat) (m : Nm) (w : World) (hN : N.length ≤ 1000) (hrow : SrAt w A N) (hw : why28 N = 0) (hp : p ≤ 4) (hm : m ∈ N) :
    Calls Try.prog 9 #[.slice A N.length c, .int .i64 p, .string (B m)] w fun e w' => ∃ A1 c1, e = .returned (.tuple #[.slice A1 (iv p N.length (ranK N m)).length c1, .int .i64 0]) ∧ InAt w' A1 (iv p N.length (ranK N m)) ∧ (∀ g, A1 = some ⟨g, 0, none⟩ → w.heap.size ≤ g) ∧ Below w.heap.size w w' := by
  have hs := range28_ok A c N p w hN hrow hw hp
  obtain ⟨hok, hnd⟩ := why_zero hw
  have hl := ok_len hok hm
  have hlk : Hid (∀ w' mb D, RgAt w.heap.size w' (srt N) p N.length N.length mb D → _) := Lib.hid (fun w' mb D h => RgAt.look_yes (w := w') (mb := mb) (D := D) h (ranK_lt hnd hm) (srt_rank hnd hm) (by unfold maxLen; omega))
  obtain ⟨I, hI⟩ : ∃ I, Hid (iv p N.length (ranK N m) = I) := ⟨_, Lib.hid rfl⟩
  rw [hI.out] at hlk
  rw [hI.out]
  obtain ⟨len, hlen⟩ : ∃ len, Hid (N.length = len) := ⟨_, Lib.hid rfl⟩
  obtain ⟨x, hx⟩ : ∃ x, Hid (B m = x) := ⟨_, Lib.hid rfl⟩
  obtain ⟨il, hil⟩ : ∃ il, Hid (I.length = il) := ⟨_, Lib.hid rfl⟩
  rw [hlen.out] at hs hlk
  rw [hx.out, hil.out] at hlk
  rw [hlen.out, hx.out, hil.out]
  replace hs := Lib.hid hs
  clear hrow hw hm hl hlen hI hok hnd hil
  go_enter Try.func9, Try.ntmps9
  go_wp2_with fail
  refine hs.out.mono ?_
  rintro _ w1 ⟨mb, D, rfl, hR, hb⟩
  obtain ⟨A1, c1, hrun, _, hIn, hAb⟩ := hlk.out w1 mb D hR
  have hfin := Lib.hid (And.intro hIn (And.intro hAb hb))
  clear hs hR hlk hIn hAb hb
  go_wp2_with fail
  go_ret2
  exact ⟨_, _, rfl, hfin.out⟩
end Go.Proofs.Ytnekiiahgidkoaa.W
