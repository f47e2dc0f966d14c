/- Package dedup's Producers. -/
import Derived.Test.YtbbeapglkdkajaaDdN
import Derived.Test.YtbbeapglkdkajaaShelf
import Derived.Test.YtbbeapglkdkajaaStops
import Derived.Deep.AppendLies
import Derived.Deep.LoopGhost
import Derived.Sort.OwnSortedInts
import Derived.Sort.OwnSorted
import Derived.Laws.IdiomRangeMap
import Derived.LoopN
namespace Go.Proofs.Ytbbeapglkdkajaa.W
open Go.RowKit Go.Sort
open Go.Proofs.Ytbbeapglkdkajaa.M Go.Proofs.Ytbbeapglkdkajaa.D Go.Proofs.Ytbbeapglkdkajaa.Z
set_option linter.unusedVariables false
set_option linter.unusedSimpArgs false

def keysL (l : List La) : List Int := l.map (·.p)
theorem hasL_iff (l : List La) (k : Int) : hasL l k = true ↔ k ∈ keysL l := by
  unfold hasL getL keysL
  rw [List.isSome_find?, List.any_eq_true, List.mem_map]
  constructor
  · rintro ⟨x, h1, h2⟩; exact ⟨x, h1, by simpa using h2⟩
  · rintro ⟨x, h1, h2⟩; exact ⟨x, h1, by simpa using h2⟩
theorem keysL_rise {l : List La} (h : riseL l) : (keysL l).Pairwise (· < ·) := by
  unfold keysL riseL at *
  rw [List.pairwise_map]
  exact h
/-- Which keys have come. -/
structure GoneK (l : List La) (left : Lit → Bool) (ks : List Int) : Prop where
  nodup : ks.Nodup
  came : ∀ k ∈ ks, k ∈ keysL l ∧ left (.int .i64 k) = false
  all : ∀ k, k ∈ keysL l → left (.int .i64 k) = false → k ∈ ks
theorem GoneK.start (l : List La) : GoneK l (Maps.has (tabD l)) [] := ⟨List.nodup_nil, fun k hk => by simp at hk, fun k hk h => by rw [tabD_has, (hasL_iff l k).2 hk] at h; cases h⟩
theorem GoneK.step {l : List La} {left : Lit → Bool} {ks : List Int} (h : GoneK l left ks) {x : Int} (hx : left (.int .i64 x) = true) (hk : x ∈ keysL l) : GoneK l (fun z => left z && !z.sameKey (.int .i64 x)) (ks ++ [x]) := by
  refine ⟨?_, fun k hk2 => ?_, fun k hk2 hl => ?_⟩
  · rw [List.nodup_append]
    refine ⟨h.nodup, by simp, fun a ha b hb => ?_⟩
    rintro rfl
    obtain rfl := List.mem_singleton.1 hb
    have := (h.came _ ha).2
    rw [hx] at this; cases this
  · rcases List.mem_append.1 hk2 with h1 | h1
    · exact ⟨(h.came k h1).1, by simp [(h.came k h1).2]⟩
    · obtain rfl := List.mem_singleton.1 h1
      exact ⟨hk, by simp [sameKey_int]⟩
  · rw [Bool.and_eq_false_iff] at hl
    rcases hl with hl | hl
    · exact List.mem_append_left _ (h.all k hk2 hl)
    · rw [sameKey_int] at hl
      have : k = x := by simpa using hl
      exact List.mem_append_right _ (by simp [this])
theorem eq_sorted : ∀ {a b : List Int}, a.Perm b → a.Pairwise (· ≤ ·) → b.Pairwise (· ≤ ·) → a = b
  | [], b, hp, _, _ => (List.Perm.nil_eq hp)
  | x :: a, [], hp, _, _ => by have := hp.length_eq; simp at this
  | x :: a, y :: b, hp, ha, hb => by
    obtain ⟨a1, a2⟩ := List.pairwise_cons.1 ha
    obtain ⟨b1, b2⟩ := List.pairwise_cons.1 hb
    have hxy : x = y := by
      have h1 : x ∈ y :: b := hp.mem_iff.1 (by simp)
      have h2 : y ∈ x :: a := hp.mem_iff.2 (by simp)
      rcases List.mem_cons.1 h1 with e | h1
      · exact e
      rcases List.mem_cons.1 h2 with e | h2
      · exact e.symm
      have := b1 x h1
      have := a1 y h2
      omega
    subst hxy
    rw [eq_sorted (List.Perm.cons_inv hp) a2 b2]
theorem sorted_le (ks : List Int) : (ks.mergeSort fun x y => decide (x ≤ y)).Pairwise (· ≤ ·) := by
  have h := List.pairwise_mergeSort (le := fun x y : Int => decide (x ≤ y)) (fun a b c h1 h2 => by simp at *; omega) (fun a b => by simp; omega) ks
  exact h.imp (fun h => by simpa using h)
theorem GoneK.sorted {l : List La} {left : Lit → Bool} {ks : List Int} (h : GoneK l left ks) (hl : ∀ z, left z = false) (hr : riseL l) : (ks.mergeSort fun x y => decide (x ≤ y)) = keysL l := by
  have hk := keysL_rise hr
  have hp : ks.Perm (keysL l) := (List.perm_ext_iff_of_nodup h.nodup (hk.imp (fun h => by omega))).2 (fun a => ⟨fun ha => (h.came a ha).1, fun ha => h.all a ha (hl _)⟩)
  exact eq_sorted ((List.mergeSort_perm _ _).trans hp) (sorted_le ks) (hk.imp (fun h => by omega))
theorem infoIn : (Try.prog.info? 3).map (fun i => (i.zero, i.size, i.bytes)) = some (some (.int .i64 0), 1, 8) := by kernel_rfl
theorem own_nilI {W : World} {B : Nat} {e : TypeId} {sz : Nat} : W.ownsRow B e sz (.slice none 0 0) 0 [] := ⟨by simp, .inl ⟨rfl, rfl⟩⟩
theorem below_grown {B : Nat} {a w w' : World} {row : Option Nat} (h : Below B a w) (hg : w.grownBy w' row) (hs : B ≤ w.heap.size) (hr : ∀ k, row = some k → B ≤ k) : Below B a w' := h.grown hg hs hr
/-- What Producers hands back: rising numbers, in a row of its own. -/
def ProdsP (w : World) (l : List La) (e : Ending) (w' : World) : Prop := ∃ A c, e = .returned (.slice A l.length c) ∧ w'.ownsRow w.heap.size 3 1 (.slice A l.length c) l.length ((keysL l).map (Value.int .i64)) ∧ Below w.heap.size w w'
set_option maxRecDepth 100000 in
set_option maxHeartbeats 4000000 in
theorem prods_some {B0 : Nat} (tb mb : Nat) (l : List La) (w : World) (h : TbAt B0 w tb (some mb) l) (hr : riseL l) (hn : l.length ≤ 1000) : Calls Try.prog 28 #[.pointer (some ⟨tb, 0, none⟩)] w (ProdsP w l) := by
  have c0 : w.cell? ⟨tb, 0, none⟩ = some (.map (some mb)) := h.box.cell 0
  have hown : w.ownsMap Try.prog 3 laR mb l.length (tabD l) := by
    rcases h.map with ⟨e, _⟩ | ⟨m2, e, h2⟩
    · cases e
    · cases e; exact h2
  obtain ⟨i0, hi0, hz0, hz1, hz2⟩ := info_parts infoIn
  have hmb := hown.lt
  replace hr := Lib.hid hr
  clear h
  go_enter Try.func28, Try.ntmps28
  go_wp2_with (at_range; refine zHere ?_)
  refine Lib.hid ?_
  refine wpList_range_own _ rfl _ 74 rfl 3 80 keyedI Try.underlying74 laR mb l.length (tabD l) rfl hown ?_
  intro w0 hrg0 hg0 hs0
  have hb0 : Below w.heap.size w w0 := below_grown (Below.refl _ _) hg0 (Nat.le_refl _) (fun k e => by cases e)
  have hst : Hid (GoneK l (Maps.has (tabD l)) []) := Lib.hid (GoneK.start l)
  obtain ⟨rb, hrb⟩ : ∃ rb, Hid (w.heap.size = rb) := ⟨_, Lib.hid rfl⟩
  have hrw : w.heap.size ≤ rb := by rw [hrb.out]; exact Nat.le_refl _
  have hmr : mb ≠ rb := by rw [← hrb.out]; omega
  rw [hrb.out] at hrg0
  rw [tabD_size] at hrg0
  replace hrg0 := Lib.hid hrg0
  replace hb0 := Lib.hid hb0
  obtain ⟨N, hN⟩ : ∃ N, Hid (l.length = N) := ⟨_, Lib.hid rfl⟩
  rw [hN.out] at hrg0 hn
  rw [show w.heap.size = rb from hrb.out]
  clear hown hg0 hs0 c0
  go_wp2_with fail
  go_frame
  go_loopg [3] N (fun ga lv wr => ∃ (left : Lit → Bool) (cnt : Nat) (ks : List Int) (A : Option Addr) (c : Nat), cnt ≤ ga ∧ lv = .slice A ks.length c ∧ Hid (wr.ranges Try.prog 3 laR mb rb N (tabD l) left cnt ∧ wr.ownsRow w.heap.size 3 1 (.slice A ks.length c) ks.length (ks.map (Value.int .i64)) ∧ GoneK l left ks ∧ ks.length + cnt ≤ N ∧ Below w.heap.size w wr))
  case atStart => exact ⟨_, N, [], none, 0, Nat.le_refl _, rfl, Lib.hid ⟨hrg0.out, own_nilI, hst.out, by simp, hb0.out⟩⟩
  case round =>
    clear hrg0 hst hb0
    obtain ⟨left, cnt, ks, A, c, hga, rfl, hrel⟩ := hrel
    generalize wr = wo at *
    obtain ⟨hrg, how, hG, hlen, hB⟩ := hrel.out
    clear hrel
    go_wp2_with (at_next; refine zHere ?_)
    refine Lib.hid ?_
    refine wpList_next_ranges _ rfl _ rfl 3 keyedI laR (Value.int .i64) (fun (c : Int × Int × Int) => laV c.1 c.2.1 c.2.2) (fun key kl hk => by obtain ⟨x, e, _⟩ := Maps.keyOf_int_inv Try.underlying3 hk; exact ⟨x, e⟩) (fun v y hv => by obtain ⟨a, b, c, e, _⟩ := laR_inv hv; exact ⟨(a, b, c), e⟩) mb rb N (tabD l) left cnt rfl hrg ?_ ?_
    · intro hc0 hl0
      have hs := hG.sorted hl0 hr.out
      have hkl : (keysL l).length = N := by unfold keysL; rw [List.length_map]; exact hN.out
      have hl2 : (ks.mergeSort fun x y => decide (x ≤ y)).length = ks.length := List.length_mergeSort ks
      have hkN : ks.length = N := by rw [← hl2, hs, hkl]
      rcases how.2 with ⟨hnil, hk0⟩ | ⟨g, cap, cur, hv, hbase, hb, h1, h2, h3, h4⟩
      · injection hnil with e1 e2 e3
        have hk1 : ks = [] := List.eq_nil_of_length_eq_zero (by omega)
        have hkl0 : keysL l = [] := List.eq_nil_of_length_eq_zero (by omega)
        have hN0 : N = 0 := by omega
        have hfin : Hid (ProdsP w l (.returned (.slice none 0 0)) wo) := Lib.hid ⟨none, 0, by rw [hN.out, hN0], by rw [hN.out, hN0, hkl0]; exact own_nilI, hB⟩
        subst e1 e3
        rw [hkN, hN0]
        clear hrg how hG hlen hB hs hc0 hl0 hkl hl2 hkN hk0 hk1 hkl0 hN0 hN hga hr hi0 hz0 hz1 hz2 hn
        go_frame
        go_wp2_with fail
        refine (Try.slices_Sort_int_none none 0 _).mono ?_
        rintro e w' ⟨rfl, rfl⟩
        go_wp2_with fail
        go_ret
        exact hfin.out
      · injection hv with e1 e2 e3
        subst e1 e3
        have hH : Holds (Value.int .i64) wo g 0 ks.toArray := holds_of_blockI hb (by simpa using h4)
        have hgl : g < wo.heap.size := (Array.getElem?_eq_some_iff.1 hb).1
        have hsort := Lib.hid (Try.slices_Sort_int g 0 c ks wo hH hgl (by omega))
        have hgr := fun (nn : Nat) (os : Array Obj) => grownBy_sortedI (w := wo) (g := g) (n := nn) (os := os) (ks.mergeSort fun x y => decide (x ≤ y)).toArray
        have hro := fun (nn : Nat) (os : Array Obj) => ownsRow_sortedI (n := nn) (os := os) (ts := ks.mergeSort fun x y => decide (x ≤ y)) hl2 hbase hb h1 h2 h3
        rw [hs] at hro hgr
        have hfin : Hid (∀ nn os w', w' = grow (putRow (Value.int .i64) (Sort.ahead wo nn) g 0 (keysL l).toArray) os → ProdsP w l (.returned (.slice (some ⟨g, 0, none⟩) ks.length c)) w') := Lib.hid (fun nn os w' e => by
          subst e
          refine ⟨some ⟨g, 0, none⟩, c, by rw [hN.out, hkN], ?_, below_grown hB (hgr nn os) hB.size (fun k e => by cases e; exact hbase)⟩
          rw [hN.out, ← hkN]
          exact hro nn os)
        have hse := Lib.hid hs
        clear hrg how hG hlen hB hs hH hgr hro hc0 hl0 hkl hl2 hkN hb h1 h2 h3 h4 hN hga hr hi0 hz0 hz1 hz2 hn hgl
        go_frame
        go_wp2_with fail
        refine hsort.out.mono ?_
        rintro e w' ⟨rfl, nn, os, hw'⟩
        rw [hse.out] at hw'
        have hf2 := Lib.hid (hfin.out nn os w' hw')
        clear hw' hfin
        go_wp2_with fail
        go_ret
        exact hf2.out
    · intro x c3 kl y w1 cnt1 hkey hlx hy hat hrg1 hlt1 hg1 hs1 hen
      obtain ⟨x', ex, rfl, hwx⟩ := Maps.keyOf_int_inv Try.underlying3 hkey
      cases ex
      have hkx : x ∈ keysL l := (hasL_iff l x).1 (by rw [← tabD_has]; exact Maps.has_true_of_atKey hat)
      have hG1 := hG.step hlx hkx
      have how1 := how.kept hg1 (by
        cases hob : (Value.slice A ks.length c).ownBlock with
        | none => exact Or.inl rfl
        | some g => exact Or.inr (fun e => row_ne_iter how hrg (by rw [hob]; exact e.symm)))
      have hB1 : Below w.heap.size w w1 := below_grown hB hg1 hB.size (fun k e => by cases e; exact hrw)
      have hlen1 : (ks ++ [x]).length + cnt1 ≤ N := by rw [List.length_append, List.length_singleton]; omega
      have hrg2 := hrg1.alloc (.cells #[.int .i64 x] 3)
      have hB2 := hB1.alloc hB1.size (.cells #[.int .i64 x] 3)
      have how2 := how1.alloc (.cells #[.int .i64 x] 3)
      replace hG1 := Lib.hid hG1
      replace hB2 := Lib.hid hB2
      replace how2 := Lib.hid how2
      replace hrg2 := Lib.hid hrg2
      have hkl : ks.length ≤ 1000 := by omega
      have hcg : cnt1 ≤ gk - 1 := by omega
      clear hrg how hG hB hg1 hs1 hrg1 how1 hB1 hat hy hlx hkey
      go_frame
      go_wp2_with (with_reducible refine zAppend _ _ _ rfl ?_)
      refine Lib.hid ?_
      refine wpList_append_lies _ rfl _ _ 65 rfl w.heap.size 3 i0 _ 1 8 Try.underlying65 hi0 hz0 hz1 hz2 rfl (by omega) (.slice A ks.length c) ks.length (ks.map (Value.int .i64)) rfl how2.out _ 1 1 [.int .i64 x] rfl rfl (World.news_of_block (heap_alloc_new _ _)) (by simp [Value.oneCell']) (by omega) (by unfold maxLen; omega) (by omega) (by have := hB2.out.size; simpa using this) (w1.heap.size + 1) (by simp) ?_
      intro gg cap w6 hown6 hgrow6 hat6 hlt6
      have hb6 : Below w.heap.size w w6 := below_grown hB2.out hgrow6 (by have := hB2.out.size; simpa using this) (fun k hk => ownFar how2.out k hk)
      have hrg6 := hrg2.out.kept hgrow6 (fun e => by
        have h1 := ownFar how2.out mb e.symm
        omega) (row_ne_iter how2.out hrg2.out)
      have hfin : Hid (w6.ranges Try.prog 3 laR mb rb N (tabD l) (fun z => left z && !z.sameKey (.int .i64 x)) cnt1 ∧ w6.ownsRow w.heap.size 3 1 (.slice (some ⟨gg, 0, none⟩) (ks ++ [x]).length cap) (ks ++ [x]).length ((ks ++ [x]).map (Value.int .i64)) ∧ GoneK l (fun z => left z && !z.sameKey (.int .i64 x)) (ks ++ [x]) ∧ (ks ++ [x]).length + cnt1 ≤ N ∧ Below w.heap.size w w6) := Lib.hid ⟨hrg6, by rw [List.length_append, List.map_append]; exact hown6, hG1.out, hlen1, hb6⟩
      clear hown6 hgrow6 hat6 hlt6 hb6 hrg6 hrg2 how2 hB2 hG1 hlen1 hen
      go_wp2_with fail
      go_roundg (gk - 1)
      case measure => omega
      case rel => exact ⟨_, cnt1, ks ++ [x], some ⟨gg, 0, none⟩, cap, hcg, by rw [List.length_append]; rfl, hfin⟩
end Go.Proofs.Ytbbeapglkdkajaa.W
