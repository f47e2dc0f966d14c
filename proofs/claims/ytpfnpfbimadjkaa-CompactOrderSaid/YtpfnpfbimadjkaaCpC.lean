/- Package compact: View. -/
import Derived.Test.YtpfnpfbimadjkaaCpB
import Derived.Test.YtpfnpfbimadjkaaShelf
import Derived.Test.YtpfnpfbimadjkaaShelfSort
import Derived.Shelf.SlSortCmp.NoneTotal
import Derived.Sort.OwnSorted
import Derived.Laws.IdiomRangeMap
namespace Go.Proofs.Ytpfnpfbimadjkaa.W
open Go.RowKit Go.Sort Go.Lib
open Go.Proofs.Ytpfnpfbimadjkaa.M Go.Proofs.Ytpfnpfbimadjkaa.D Go.Proofs.Ytpfnpfbimadjkaa.Z
set_option linter.unusedVariables false
set_option linter.unusedSimpArgs false

instance instRc : Inhabited Rc := ⟨⟨0, 0, ⟨#[]⟩, ⟨#[]⟩, false, 0, 0, 0⟩⟩
/-- How the keys of two records stand. -/
def cmpK (x y : Rc) : Int := Lib.compareBytes (kb x) (kb y)
theorem ltK (x y : Rc) : ltOf cmpK x y = decide (kb x < kb y) := by
  unfold ltOf cmpK
  by_cases h : kb x < kb y
  · rw [decide_eq_true h, decide_eq_true ((cmp_lt _ _).2 h)]
  · rw [decide_eq_false h, decide_eq_false (fun e => h ((cmp_lt _ _).1 e))]
theorem swoK : SWO (ltOf cmpK) where
  irrefl x := by rw [ltK]; simp [List.lt_irrefl]
  trans x y z h1 h2 := by
    rw [ltK] at *
    exact decide_eq_true (List.lt_trans (of_decide_eq_true h1) (of_decide_eq_true h2))
  ntrans x y z h1 h2 := by
    rw [ltK] at *
    have a := of_decide_eq_false h1
    have b := of_decide_eq_false h2
    exact decide_eq_false (List.not_lt.2 (List.le_trans (List.not_lt.1 b) (List.not_lt.1 a)))
theorem cmpV_any (x y : Rc) (w : World) :
    Calls Try.prog 31 #[.agg #[.int .i64 x.off, .int .i64 x.tick, .string x.key, .string x.val, .bool x.gone, .int .i64 x.prod, .int .i64 x.seq, .int .i64 x.frm], .agg #[.int .i64 y.off, .int .i64 y.tick, .string y.key, .string y.val, .bool y.gone, .int .i64 y.prod, .int .i64 y.seq, .int .i64 y.frm]] w fun e w' => e = .returned (.int .i64 (cmpK x y)) ∧ ∃ q os', w' = grow (w.drewN q) os' := by
  have hc := Lib.hid (fun W => Try.strings_Compare x.key y.key W)
  go_enter Try.func31, Try.ntmps31
  go_wp2_with fail
  refine (hc.out _).mono ?_
  rintro e w1 ⟨rfl, rfl⟩
  go_wp2_with fail
  go_ret
  exact ⟨rfl, 0, _, by rw [alloc_eq_grow, alloc_eq_grow, grow_grow]; rfl⟩
theorem holdsR {w : World} {g n : Nat} {cur : Array Value} {e : TypeId} {S : List Rc} (hb : w.heap[g]? = some (.cells cur e (0, 0))) (ht : cur.toList.take (n * 8) = rcRows S) (hn : S.length = n) : HoldsK rcL 8 w g 0 S.toArray := by
  intro j hj
  rw [size_flatK, List.size_toArray] at hj
  refine ⟨?_, by simp [World.frozen?, hb]⟩
  have hi : j / 8 < S.length := by omega
  obtain ⟨r, hr⟩ : ∃ r, S[j / 8]? = some r := ⟨_, List.getElem?_eq_getElem hi⟩
  have hm : j % 8 < (rcL r).length := by simp; omega
  have h5 := rcRows_at S (j / 8) r hr (j % 8) _ (List.getElem?_eq_getElem hm)
  rw [show j / 8 * 8 + j % 8 = j from by omega, ← ht, List.getElem?_take_of_lt (by omega)] at h5
  rw [Nat.zero_add, cell_of_row w g j _ _ _ hb, ← Array.getElem?_toList, h5, get_flatK _ _ _ _ (by simpa using hj)]
  have e1 : S.toArray[j / 8]! = r := by
    rw [List.getElem!_toArray]
    simp [List.getElem!_eq_getElem?_getD, hr]
  rw [e1, List.getElem!_eq_getElem?_getD, List.getElem?_eq_getElem hm]
  rfl
theorem grown_sorted {w : World} {g n : Nat} {os : Array Obj} (d : Array Rc) : w.grownBy (sortWorldK rcL 8 w g 0 n d os) (some g) := by
  refine ⟨rfl, rfl, rfl, by simp [sortWorldK, putRowK], fun k hk hne => ?_⟩
  unfold sortWorldK putRowK
  rw [heap_grow_old _ _ (by simpa using hk)]
  have : g ≠ k := fun e => hne (by rw [e])
  simp [putRow, mapBlock, Sort.ahead, Array.getElem?_modify, this]
theorem rcAt_holds {w : World} {g : Nat} {d : Array Rc} (h : HoldsK rcL 8 w g 0 d) (hg : g < w.heap.size) : RcAt w (some ⟨g, 0, none⟩) d.toList := fun i r hi => by
  refine ⟨g, 0, rfl, hg, fun j v hj => ?_⟩
  have hj8 : j < 8 := by have := (List.getElem?_eq_some_iff.1 hj).1; simpa using this
  have hid : i < d.size := by have := (List.getElem?_eq_some_iff.1 hi).1; simpa using this
  rw [(h.cell hid hj8).1]
  have e1 : d[i]! = r := by
    rw [Array.getElem?_toList] at hi
    rw [getElem!_def, hi]
  rw [e1, List.getElem!_eq_getElem?_getD, hj]
  rfl
/-- The sort of a row of one's own. -/
theorem sortR_any {B g n cap : Nat} {cur : Array Value} (S : List Rc) (w : World) (hb : w.heap[g]? = some (.cells cur 32 (0, 0))) (ht : cur.toList.take (n * 8) = rcRows S) (hn : S.length = n) (hB : B ≤ g) (hn2 : n ≤ 1000000) :
    Calls Try.prog 33 #[.slice (some ⟨g, 0, none⟩) n cap, .func (.func 31) #[] #[]] w fun e w' => e = .returned (.tuple #[]) ∧ ∃ S' : List Rc, S'.Perm S ∧ (S'.Pairwise fun a b => ¬ kb b < kb a) ∧ RcAt w' (some ⟨g, 0, none⟩) S' ∧ (B ≤ w.heap.size → ∀ a, Below B a w → Below B a w') := by
  have hg : g < w.heap.size := (Array.getElem?_eq_some_iff.1 hb).1
  have hH := holdsR hb ht hn
  have eg : ∀ args w, (callFunc 31 args).run Try.prog w = .ok (.enter 31 args) w := enters_of Try.func31 (by kernel_rfl) rfl
  have hs : S.toArray.size = n := by rw [List.size_toArray, hn]
  have h := AnyQ.slices_SortFunc Try.sortRec 8 Try.isAgg32 Try.sizeOf32 rcL (fun _ => rfl) (fun x v hv => by
    simp only [rcL, List.mem_cons, List.not_mem_nil, or_false] at hv
    rcases hv with rfl | rfl | rfl | rfl | rfl | rfl | rfl | rfl <;> rfl) cmpK swoK 31 #[] g 0 cap S.toArray w eg (fun _ _ _ _ x y => cmpV_any x y _) hH hg (by rw [hs]; omega)
  rw [hs] at h
  change Calls Try.prog 33 _ _ _ at h
  refine h.mono ?_
  rintro e w' ⟨rfl, d', k, os, hp, hso, rfl⟩
  obtain ⟨p1, _, p3⟩ := hp
  have hd : d'.size = n := by rw [p1, hs]
  refine ⟨rfl, d'.toList, ?_, ?_, ?_, fun hBs a ha => ?_⟩
  · have q1 : d'.extract 0 n = d' := by rw [← hd, Array.extract_size]
    have q2 : S.toArray.extract 0 n = S.toArray := by rw [← hs, Array.extract_size]
    rw [q1, q2] at p3
    exact p3
  · rw [List.pairwise_iff_getElem]
    intro i j hi hj hij
    rw [Array.length_toList] at hi hj
    have := hso i j (Nat.zero_le _) hij (by omega)
    rw [ltK, getElem!_pos d' j hj, getElem!_pos d' i hi] at this
    have := of_decide_eq_false this
    simpa using this
  · refine rcAt_holds (holdsK_sortWorldK_c rcL 8 w g 0 S.toArray d' k os hH hg (by rw [hs, hd])) ?_
    have h2 : w.heap.size ≤ (sortWorldK rcL 8 w g 0 k d' os).heap.size := (grown_sorted d').size
    omega
  · exact below_grow ha (grown_sorted d') hBs (fun k e => by cases e; exact hB)
/-- Which live records have come. -/
structure SeenS (rs : List Rc) (left : Lit → Bool) (S : List Rc) : Prop where
  nodup : S.Nodup
  came : ∀ x ∈ S, x ∈ liveF rs ∧ left (.string (kb x)) = false
  all : ∀ x ∈ liveF rs, left (.string (kb x)) = false → x ∈ S
theorem live_has {rs : List Rc} {D : DataW Unit} (h : LastOf rs D) {x : Rc} (hx : x ∈ liveF rs) : Maps.has D (.string (kb x)) = true := by
  obtain ⟨i, h1, h2⟩ := liveF_mem.1 hx
  rw [h.has]
  have h3 := liveB_key h2
  rw [laterL_mem.2 ⟨x, List.mem_of_getElem? h1, rfl⟩]
  simp [h3.1]
theorem SeenS.start {rs : List Rc} {D : DataW Unit} (h : LastOf rs D) : SeenS rs (Maps.has D) [] := ⟨List.nodup_nil, fun x hx => by simp at hx, fun x hx e => by rw [live_has h hx] at e; cases e⟩
theorem sameKey_str (a b : List UInt8) : (Lit.string a).sameKey (.string b) = decide (a = b) := by
  show (a == b) = _
  rw [Bool.eq_iff_iff]
  simp
/-- A key comes whose last record stands there. -/
theorem SeenS.skip {rs : List Rc} {left : Lit → Bool} {S : List Rc} (h : SeenS rs left S) {j : Nat} {r : Rc} (hr : rs[j]? = some r) (hl : laterL (kb r) (rs.drop (j + 1)) = false) (hg : r.gone = true) : SeenS rs (fun z => left z && !z.sameKey (.string (kb r))) S := by
  refine ⟨h.nodup, fun x hx => ⟨(h.came x hx).1, by simp [(h.came x hx).2]⟩, fun x hx e => ?_⟩
  rw [Bool.and_eq_false_iff, sameKey_str] at e
  rcases e with e | e
  · exact h.all x hx e
  · have hk : kb x = kb r := by simpa using e
    obtain ⟨i, h1, h2⟩ := liveF_mem.1 hx
    have h3 := liveB_key h2
    have hij : i = j := last_one h1 hk (by rw [← hk]; exact h3.2.1) hr rfl hl
    subst hij
    rw [h1] at hr
    cases hr
    rw [hg] at h3
    exact absurd h3.2.2 (by simp)
theorem SeenS.step {rs : List Rc} {left : Lit → Bool} {S : List Rc} (h : SeenS rs left S) {j : Nat} {r : Rc} (hr : rs[j]? = some r) (hl : laterL (kb r) (rs.drop (j + 1)) = false) (hg : r.gone = false) (hk0 : kb r ≠ []) (hleft : left (.string (kb r)) = true) : SeenS rs (fun z => left z && !z.sameKey (.string (kb r))) (S ++ [r]) := by
  have hlive : r ∈ liveF rs := liveF_mem.2 ⟨j, hr, by unfold liveB; rw [hl, hg]; simp [hk0]⟩
  refine ⟨?_, fun x hx => ?_, fun x hx e => ?_⟩
  · rw [List.nodup_append]
    refine ⟨h.nodup, by simp, fun a ha b hb => ?_⟩
    rintro rfl
    obtain rfl := List.mem_singleton.1 hb
    have := (h.came _ ha).2
    rw [hleft] at this; cases this
  · rcases List.mem_append.1 hx with h1 | h1
    · exact ⟨(h.came x h1).1, by simp [(h.came x h1).2]⟩
    · obtain rfl := List.mem_singleton.1 h1
      exact ⟨hlive, by simp [sameKey_str]⟩
  · rw [Bool.and_eq_false_iff, sameKey_str] at e
    rcases e with e | e
    · exact List.mem_append_left _ (h.all x hx e)
    · have hk : kb x = kb r := by simpa using e
      obtain ⟨i, h1, h2⟩ := liveF_mem.1 hx
      have h3 := liveB_key h2
      have hij : i = j := last_one h1 hk (by rw [← hk]; exact h3.2.1) hr rfl hl
      subst hij
      rw [h1] at hr
      cases hr
      exact List.mem_append_right _ (by simp)
theorem nodup_live (rs : List Rc) : (liveF rs).Nodup := (liveF_keys rs).imp (fun h e => h (by rw [e]))
theorem SeenS.perm {rs : List Rc} {left : Lit → Bool} {S : List Rc} (h : SeenS rs left S) (hl : ∀ z, left z = false) : S.Perm (liveF rs) :=
  (List.perm_ext_iff_of_nodup h.nodup (nodup_live rs)).2 (fun a => ⟨fun ha => (h.came a ha).1, fun ha => h.all a ha (hl _)⟩)
set_option maxRecDepth 100000 in
set_option maxHeartbeats 4000000 in
theorem view_any (va : Option Addr) (c : Nat) (rs : List Rc) (w : World) (h : RcAt w va rs) (hn : rs.length ≤ 1000) (hsz : ∀ r ∈ rs, r.key.size ≤ 100000) :
    Calls Try.prog 14 #[.slice va rs.length c] w fun e w' => ∃ A cc, e = .returned (.slice A (viewF rs).length cc) ∧ RcAt w' A (viewF rs) ∧ Below w.heap.size w w' := by
  have hla := lasts_any va c rs w h hn hsz
  obtain ⟨N, hN⟩ : ∃ N, Hid (rs.length = N) := ⟨_, Lib.hid rfl⟩
  rw [hN.out] at hn hla ⊢
  obtain ⟨V, hV⟩ : ∃ V, Hid (viewF rs = V) := ⟨_, Lib.hid rfl⟩
  rw [hV.out]
  obtain ⟨i0, hi0, hz0, hz1, hz2⟩ := info_parts infoRk
  replace h := Lib.hid h
  replace hla := Lib.hid hla
  go_enter Try.func14, Try.ntmps14
  go_wp2_with fail
  refine hla.out.mono ?_
  rintro e w1 ⟨mb, D, rfl, hM, hL, hmw, hb1⟩
  have hmb := hM.lt
  have hDl : Maps.size D ≤ 1000 := by have := hL.size; have := hN.out; omega
  have h1 := Lib.hid (h.out.below hb1)
  have hst : Hid (SeenS rs (Maps.has D) []) := Lib.hid (SeenS.start hL)
  replace hL := Lib.hid hL
  replace hb1 := Lib.hid hb1
  clear hla h
  go_wp2_with (at_range; refine zHere ?_)
  refine Lib.hid ?_
  refine wpList_range_own _ rfl _ 52 rfl 9 3 keyedS Try.underlying52 (Go.plainElem Try.prog 3) mb (Maps.size D) D rfl hM ?_
  intro w0 hrg0 hg0 hs0
  have hb0 : Below w1.heap.size w1 w0 := below_grow (Below.refl _ _) hg0 (Nat.le_refl _) (fun k e => by cases e)
  obtain ⟨rb, hrb⟩ : ∃ rb, Hid (w1.heap.size = rb) := ⟨_, Lib.hid rfl⟩
  have hrw : w1.heap.size ≤ rb := by rw [hrb.out]; exact Nat.le_refl _
  rw [hrb.out] at hrg0
  obtain ⟨M, hMs⟩ : ∃ M, Hid (Maps.size D = M) := ⟨_, Lib.hid rfl⟩
  rw [hMs.out] at hrg0 hDl
  replace hrg0 := Lib.hid hrg0
  replace hb0 := Lib.hid hb0
  rw [show w1.heap.size = rb from hrb.out]
  clear hM hg0 hs0
  go_wp2_with fail
  go_frame
  go_loopg [3] M (fun ga lv wr => ∃ (left : Lit → Bool) (cnt n cc : Nat) (A : Option Addr), cnt ≤ ga ∧ lv = .slice A n cc ∧ n + cnt ≤ M ∧ Hid (∃ S : List Rc, S.length = n ∧ wr.ranges Try.prog 9 (Go.plainElem Try.prog 3) mb rb M D left cnt ∧ wr.ownsRow w1.heap.size 32 8 (.slice A n cc) n (rcRows S) ∧ SeenS rs left S ∧ Below w1.heap.size w1 wr))
  case atStart => exact ⟨_, M, 0, 0, none, Nat.le_refl _, rfl, by omega, Lib.hid ⟨[], rfl, hrg0.out, own_nilK, hst.out, hb0.out⟩⟩
  case round =>
    clear hrg0 hst hb0
    obtain ⟨left, cnt, n, cc, A, hga, rfl, hlen, hrel⟩ := hrel
    generalize wr = wo at *
    obtain ⟨S, hSl, hrg, how, hS, hB⟩ := hrel.out
    clear hrel
    go_wp2_with (at_next; refine zHere ?_)
    refine Lib.hid ?_
    refine wpList_next_ranges _ rfl _ rfl 9 keyedS (Go.plainElem Try.prog 3) Value.string (Value.int .i64) (fun key kl hk => by obtain ⟨x, e, _⟩ := Go.WideMaps.string_of_keyOf Try.underlying9 hk; exact ⟨x, e⟩) (fun v y hv => by obtain ⟨a, e, _⟩ := Go.plainElem_int_inv Try.underlying3 hv; exact ⟨a, e⟩) mb rb M D left cnt rfl hrg ?_ ?_
    · intro hc0 hl0
      have hp := hS.perm hl0
      have hSn : S.length = (viewF rs).length := by rw [hp.length_eq, (viewF_perm rs).length_eq]
      have hc : Hid (∀ S' : List Rc, S'.Perm S → (S'.Pairwise fun a b => ¬ kb b < kb a) → S' = viewF rs) := Lib.hid (fun S' p1 p2 => view_is (p1.trans hp) p2)
      rw [hV.out] at hSn hc
      have hVn : Hid (V.length = n) := Lib.hid (by rw [← hSn, hSl])
      rcases how.2 with ⟨hnil, hk0⟩ | ⟨g, cap, cur, hv, hbase, hb, k1, k2, k3, k4⟩
      · injection hnil with e1 e2 e3
        have hfin : Hid (RcAt wo none V ∧ Below w.heap.size w wo) := Lib.hid ⟨fun i r hi => by
          have := (List.getElem?_eq_some_iff.1 hi).1
          have := hVn.out
          omega, grew hb1.out hB⟩
        have hno := Lib.hid (fun W => AnyF.slices_SortFunc_none Try.sortRec none 0 (.func (.func 31) #[] #[]) W)
        have hn0 : n = 0 := hk0
        subst e1 e3 hn0
        clear hrg how hS hB hp hSn hc hSl hlen hc0 hl0 hk0
        go_frame
        go_wp2_with fail
        refine (show Calls Try.prog 33 _ _ _ from hno.out _).mono ?_
        rintro e w' ⟨rfl, rfl⟩
        go_wp2_with fail
        go_ret
        exact ⟨none, 0, by rw [hVn.out]; rfl, hfin.out⟩
      · injection hv with e1 e2 e3
        subst e1 e3
        have hsort := Lib.hid (sortR_any (B := w1.heap.size) (cap := cc) S wo hb k4 hSl hbase (by omega))
        have hBB := Lib.hid hB
        clear hrg how hS hB hp hSn hSl hlen hc0 hl0 hb k1 k2 k3 k4
        go_frame
        go_wp2_with fail
        refine hsort.out.mono ?_
        rintro e w' ⟨rfl, S', p1, p2, p3, p4⟩
        have hS' := hc.out S' p1 p2
        have hfin : Hid (RcAt w' (some ⟨g, 0, none⟩) V ∧ Below w.heap.size w w') := Lib.hid ⟨by rw [← hS']; exact p3, grew hb1.out (p4 hBB.out.size w1 hBB.out)⟩
        clear p1 p2 p3 p4 hS' hc hsort hBB
        go_wp2_with fail
        go_ret
        exact ⟨_, _, by rw [hVn.out]; rfl, hfin.out⟩
    · intro x cI kl y w2 cnt1 hkey hlx hy hat hrg1 hlt1 hg1 hs1 hen
      obtain ⟨x', ex, rfl, hwx⟩ := Go.WideMaps.string_of_keyOf Try.underlying9 hkey
      cases ex
      obtain ⟨c', ec, rfl, hwc⟩ := Go.plainElem_int_inv Try.underlying3 hy
      cases ec
      have hhas := Maps.has_true_of_atKey hat
      rw [hL.out.has] at hhas
      obtain ⟨j, r, hr, hkr, hjl⟩ := last_of (l := rs) (k := x.data.toList) (by revert hhas; cases laterL x.data.toList rs <;> simp)
      have hk0 : kb r ≠ [] := by rw [hkr]; revert hhas; cases laterL x.data.toList rs <;> simp
      rw [← hkr] at hlx hjl hrg1 hat
      have hcj : cI = (j : Int) := by
        have := (hat (.lit (.int .i64 0))).symm.trans (hL.out.at_ j r hr hk0 hjl _)
        injection this with e1
        injection e1
      subst hcj
      have how1 := how.kept hg1 (by
        cases hob : (Value.slice A n cc).ownBlock with
        | none => exact Or.inl rfl
        | some g => exact Or.inr (fun e => row_ne_iter how hrg (by rw [hob]; exact e.symm)))
      have hB1 : Below w1.heap.size w1 w2 := below_grow hB hg1 hB.size (fun k e => by cases e; exact hrw)
      obtain ⟨b, o, rfl, d0, d1, d2, d3, d4, d5, d6, d7⟩ := (h1.out.below hB1).get hr
      have hjN : j < N := by have := (List.getElem?_eq_some_iff.1 hr).1; have := hN.out; omega
      have hjN2 : (j : Int) < (N : Int) := by omega
      have hj0 : (0 : Int) ≤ (j : Int) := by omega
      have hcg : cnt1 ≤ gk - 1 := by omega
      have hl1 : n + 1 + cnt1 ≤ M := by omega
      have hl2 : n + cnt1 ≤ M := by omega
      clear hkey hy hat hhas hkr
      cases hg : r.gone with
      | true =>
        have hfin : Hid (∃ S : List Rc, S.length = n ∧ w2.ranges Try.prog 9 (Go.plainElem Try.prog 3) mb rb M D (fun z => left z && !z.sameKey (.string (kb r))) cnt1 ∧ w2.ownsRow w1.heap.size 32 8 (.slice A n cc) n (rcRows S) ∧ SeenS rs (fun z => left z && !z.sameKey (.string (kb r))) S ∧ Below w1.heap.size w1 w2) := Lib.hid ⟨S, hSl, hrg1, how1, hS.skip hr hjl hg, hB1⟩
        rw [hg] at d4
        clear hrg how hS hB hg1 hs1 hrg1 how1 hB1 hlx hjl hr hk0 hSl
        go_frame
        go_wp2_with fail
        go_roundg (gk - 1)
        case measure => omega
        case rel => exact ⟨_, cnt1, n, cc, A, hcg, rfl, hl2, hfin⟩
      | false =>
        have hS1 := Lib.hid (hS.step hr hjl hg hk0 hlx)
        have hrg2 := Lib.hid (hrg1.alloc (.cells #[.int .i64 r.off, .int .i64 r.tick, .string r.key, .string r.val, .bool false, .int .i64 r.prod, .int .i64 r.seq, .int .i64 r.frm] 32))
        have how2 := Lib.hid how1
        have hB2 := Lib.hid hB1
        rw [hg] at d4
        have hrow : Hid (rcRows [r] = [.int .i64 r.off, .int .i64 r.tick, .string r.key, .string r.val, .bool false, .int .i64 r.prod, .int .i64 r.seq, .int .i64 r.frm]) := Lib.hid (by simp [rcRows, hg])
        replace hr := Lib.hid hr
        replace hSl := Lib.hid hSl
        clear hrg how hS hB hg1 hs1 hrg1 how1 hB1 hlx hjl hk0 hg
        go_frame
        go_wp2_with (with_reducible refine zAppend _ _ _ rfl ?_)
        refine Lib.hid ?_
        refine wpList_append_lies _ rfl _ _ 22 rfl w1.heap.size 32 i0 _ 8 80 Try.underlying22 hi0 hz0 hz1 hz2 rfl (by omega) _ _ _ rfl (how2.out.alloc _) _ 1 1 [.int .i64 r.off, .int .i64 r.tick, .string r.key, .string r.val, .bool false, .int .i64 r.prod, .int .i64 r.seq, .int .i64 r.frm] rfl rfl (World.news_of_block (heap_alloc_new _ _)) (by simp [Value.oneCell']) (by omega) (by unfold maxLen; omega) (by omega) (by have := hB2.out.size; simp; omega) (w2.heap.size + 1) (by simp) ?_
        intro gg cap2 w5 hown5 hgrow5 hat5 hlt5
        have hb5 : Below w1.heap.size w1 w5 := below_grow (hB2.out.alloc hB2.out.size _) hgrow5 (by have := hB2.out.size; simp; omega) (fun k hk => ownFar how2.out k hk)
        have hrg6 := hrg2.out.kept hgrow5 (fun e => by
          have h1 := ownFar how2.out mb e.symm
          omega) (row_ne_iter (how2.out.alloc _) hrg2.out)
        have hfin : Hid (∃ S : List Rc, S.length = n + 1 ∧ w5.ranges Try.prog 9 (Go.plainElem Try.prog 3) mb rb M D (fun z => left z && !z.sameKey (.string (kb r))) cnt1 ∧ w5.ownsRow w1.heap.size 32 8 (.slice (some ⟨gg, 0, none⟩) (n + 1) cap2) (n + 1) (rcRows S) ∧ SeenS rs (fun z => left z && !z.sameKey (.string (kb r))) S ∧ Below w1.heap.size w1 w5) := Lib.hid ⟨S ++ [r], by rw [List.length_append, hSl.out]; rfl, hrg6, by
          rw [rcRows_append, hrow.out]
          exact hown5, hS1.out, hb5⟩
        clear hown5 hgrow5 hat5 hb5 hrg6 hrg2 how2 hB2 hS1 hlt5 hen
        go_wp2_with fail
        go_roundg (gk - 1)
        case measure => omega
        case rel => exact ⟨_, cnt1, n + 1, cap2, some ⟨gg, 0, none⟩, hcg, rfl, hl1, hfin⟩
end Go.Proofs.Ytpfnpfbimadjkaa.W
