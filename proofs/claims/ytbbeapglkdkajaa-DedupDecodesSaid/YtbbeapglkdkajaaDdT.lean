/- The definition's table: Find, Check. -/
import Derived.Test.YtbbeapglkdkajaaDdR
import Derived.Deep.MidRow
namespace Go.Proofs.Ytbbeapglkdkajaa.W
open Go.RowKit Go.Sort
open Go.Proofs.Ytbbeapglkdkajaa.M Go.Proofs.Ytbbeapglkdkajaa.D Go.Proofs.Ytbbeapglkdkajaa.Z
set_option linter.unusedVariables false
set_option linter.unusedSimpArgs false

/-- Where a producer is; -1: nowhere. -/
def findI (l : List La) (p : Int) : Int := match l.findIdx? (fun x => decide (x.p = p)) with | some i => (i : Int) | none => -1
theorem findI_some {l : List La} {p : Int} {x : La} (h : getL l p = some x) : ∃ k : Nat, findI l p = (k : Int) ∧ l[k]? = some x := by
  unfold getL at h
  unfold findI
  have hs : ∃ i, l.findIdx? (fun x => decide (x.p = p)) = some i := by
    cases hf : l.findIdx? (fun x => decide (x.p = p)) with
    | some i => exact ⟨i, rfl⟩
    | none =>
      have := List.findIdx?_eq_none_iff.1 hf x (List.mem_of_find?_eq_some h)
      rw [List.find?_some h] at this
      cases this
  obtain ⟨i, hi⟩ := hs
  rw [hi]
  refine ⟨i, rfl, ?_⟩
  obtain ⟨hlt, h1, h2⟩ := List.findIdx?_eq_some_iff_getElem.1 hi
  have h3 : l.find? (fun x => decide (x.p = p)) = some l[i] := List.find?_eq_some_iff_getElem.2 ⟨h1, i, hlt, rfl, fun j hj => by have := h2 j hj; simpa using this⟩
  rw [h] at h3
  rw [List.getElem?_eq_getElem hlt, h3]
theorem findI_none {l : List La} {p : Int} (h : getL l p = none) : findI l p = -1 := by
  unfold findI
  have : l.findIdx? (fun x => decide (x.p = p)) = none := List.findIdx?_eq_none_iff.2 (fun x hx => by simpa using getL_none h x hx)
  rw [this]
set_option maxRecDepth 100000 in
set_option maxHeartbeats 2000000 in
theorem rfind_any (A : Option Addr) (c : Nat) (l : List La) (p : Int) (w : World) (h : LaL w A l) (hn : l.length ≤ 1000) :
    Calls Try.prog 36 #[.slice A l.length c, .int .i64 p] w fun e w' => e = .returned (.int .i64 (findI l p)) ∧ Below w.heap.size w w' := by
  obtain ⟨R, hR⟩ : ∃ R, Hid (findI l p = R) := ⟨_, Lib.hid rfl⟩
  have hyes : Hid (∀ (k : Nat) (x : La), l[k]? = some x → x.p = p → (∀ (j : Nat) (y : La), j < k → l[j]? = some y → y.p ≠ p) → (k : Int) = R) := Lib.hid (fun k x hx hp hlow => by
    rw [← hR.out]
    unfold findI
    have hk := (List.getElem?_eq_some_iff.1 hx)
    have : l.findIdx? (fun x => decide (x.p = p)) = some k := List.findIdx?_eq_some_iff_getElem.2 ⟨hk.1, by rw [hk.2]; simpa using hp, fun j hj => by
      have h1 := hlow j _ hj (List.getElem?_eq_getElem (by have := hk.1; omega))
      simpa using h1⟩
    rw [this])
  have hno : Hid ((∀ x ∈ l, x.p ≠ p) → R = -1) := Lib.hid (fun hlow => by
    rw [← hR.out]
    unfold findI
    have : l.findIdx? (fun x => decide (x.p = p)) = none := List.findIdx?_eq_none_iff.2 (fun x hx => by simpa using hlow x hx)
    rw [this])
  rw [hR.out]
  obtain ⟨N, hN⟩ : ∃ N, Hid (l.length = N) := ⟨_, Lib.hid rfl⟩
  rw [hN.out] at hn ⊢
  replace h := Lib.hid h
  clear hR
  go_enter Try.func36, Try.ntmps36
  go_wp2_with fail
  go_loopg [9] N (fun ga i wr => ∃ k : Nat, k ≤ N ∧ N ≤ k + ga ∧ i = .int .i64 k ∧ Hid ((∀ (j : Nat) (y : La), j < k → l[j]? = some y → y.p ≠ p) ∧ Below w.heap.size w wr))
  case atStart => exact ⟨0, by omega, by omega, rfl, Lib.hid ⟨fun j y hj => by omega, Below.refl _ _⟩⟩
  case round =>
    obtain ⟨k, hk, hg, rfl, hrel⟩ := hrel
    generalize wr = wo at *
    obtain ⟨hlow, hB⟩ := hrel.out
    clear hrel
    by_cases hlt : k < N
    · obtain ⟨x, hx⟩ : ∃ x, l[k]? = some x := ⟨_, List.getElem?_eq_getElem (by have := hN.out; omega)⟩
      obtain ⟨g, rfl, c0, c1, c2, c3⟩ := (h.out.below hB).cell hx
      have hB1 := Lib.hid (grewAlloc hB (.cells #[.int .i64 x.p, .int .i64 x.s, .int .i64 x.n, .int .i64 x.o] 49))
      have hki : (k : Int) < (N : Int) := by omega
      by_cases hp : x.p = p
      · have hkR := hyes.out k x hx hp hlow
        have e1 : (x.p == p) = true := by simpa using hp
        subst hkR
        replace hp := Lib.hid hp
        replace hx := Lib.hid hx
        clear hlow hB
        go_wp2_with fail
        go_ret
        exact ⟨rfl, hB1.out⟩
      · have e1 : (x.p == p) = false := by simpa using hp
        have hfin := Lib.hid (And.intro (show ∀ (j : Nat) (y : La), j < k + 1 → l[j]? = some y → y.p ≠ p from fun j y hj hy => by
          by_cases e : j < k
          · exact hlow j y e hy
          · obtain rfl : j = k := by omega
            rw [hx] at hy; cases hy; exact hp) hB1.out)
        replace hp := Lib.hid hp
        replace hx := Lib.hid hx
        clear hlow hB hB1
        go_wp2_with fail
        go_roundg (gk - 1)
        case measure => omega
        case rel => exact ⟨k + 1, by omega, by omega, by go_num, hfin⟩
    · obtain rfl : k = N := by omega
      obtain rfl := hno.out (fun x hx => by
        obtain ⟨j, hj⟩ := List.getElem?_of_mem hx
        exact hlow j x (by have := (List.getElem?_eq_some_iff.1 hj).1; have := hN.out; omega) hj)
      replace hB := Lib.hid hB
      clear hlow
      go_wp2_with fail
      go_ret
      exact ⟨rfl, hB.out⟩

abbrev chkA (r : Int × Bool × Int) : Value := .agg #[.int .i64 r.1, .bool r.2.1, .int .i64 r.2.2]
theorem below3 {w V : World} {q : Nat} {a : Int} {b : Bool} {c : Int} (hB : Below w.heap.size w V) (hq : w.heap.size ≤ q) : Below w.heap.size w (V.setCells q 0 [.int .i64 a, .bool b, .int .i64 c]) := Z.below_store hB hq (Nat.le_refl _) 0 _
set_option maxRecDepth 100000 in
set_option maxHeartbeats 4000000 in
theorem rcheck_any (A : Option Addr) (c : Nat) (l : List La) (p s n : Int) (w : World) (h : LaL w A l) (hok : TabOk l) :
    Calls Try.prog 22 #[.slice A l.length c, .int .i64 p, .int .i64 s, .int .i64 n] w fun e w' => e = .returned (chkA (chkF l p s n)) ∧ Below w.heap.size w w' := by
  obtain ⟨V, hV⟩ : ∃ V, Hid (V = w.alloc (.cells #[.int .i64 0, .bool false, .int .i64 0] 54)) := ⟨_, Lib.hid rfl⟩
  have hb0 : Below w.heap.size w V := by rw [hV.out]; exact grewAlloc (Below.refl _ _) _
  have hX : Whole V w.heap.size 54 [.int .i64 0, .bool false, .int .i64 0] := by rw [hV.out]; exact Whole.new w _ _
  obtain ⟨q, hq⟩ : ∃ q, Hid (w.heap.size = q) := ⟨_, Lib.hid rfl⟩
  have hqw : w.heap.size ≤ q := by rw [hq.out]; exact Nat.le_refl _
  rw [hq.out] at hX
  have h1 := h.below hb0
  have hmay := rmay18_any p s n V
  obtain ⟨r, hr⟩ : ∃ r, Hid (chkF l p s n = r) := ⟨_, Lib.hid rfl⟩
  have hrr := hr.out
  rw [hr.out]
  unfold chkF at hrr
  have hfew := hok.few
  by_cases c0 : ¬ okB p s n 0
  · rw [if_pos c0] at hrr
    rw [decide_eq_false c0] at hmay
    subst hrr
    have x0 := hX.cell 0
    have x1 := hX.cell 1
    have x2 := hX.cell 2
    have f0 := hX.frozen 0
    have f1 := hX.frozen 1
    have f2 := hX.frozen 2
    have hX2 : Whole (V.setCells q 0 [.int .i64 0, .bool false, .int .i64 1]) q 54 [.int .i64 0, .bool false, .int .i64 1] := hX.store 0 [.int .i64 0, .bool false, .int .i64 1] (by simp)
    have e0 := hX2.cell 0
    have e1 := hX2.cell 1
    have e2 := hX2.cell 2
    simp only [List.getElem?_cons_zero, List.getElem?_cons_succ] at x0 x1 x2 e0 e1 e2
    have hB9 := Lib.hid (below3 (q := q) (a := 0) (b := false) (c := 1) hb0 hqw)
    simp only [World.setCells, Nat.zero_add, Nat.reduceAdd] at e0 e1 e2
    replace hmay := Lib.hid hmay
    clear hr h hok h1 hX hX2 hb0 c0
    go_enter Try.func22, Try.ntmps22
    go_upto_region 1 with fail
    rw [← show V = _ from hV.out, hq.out]
    clear hV hq
    go_wp2_with fail
    refine hmay.out.mono ?_
    rintro e w1 ⟨rfl, rfl⟩
    go_wp2_with fail
    exact bodyPost_ret (v := chkA (0, false, 1)) (by simp [results, Try.results22, go_sem, e0, e1, e2]) rfl ⟨rfl, hB9.out⟩
  replace c0 := Classical.not_not.1 c0
  rw [if_neg (fun e => e c0)] at hrr
  rw [decide_eq_true c0] at hmay
  have hf := rfind_any A c l p V h1 (by omega)
  replace hmay := Lib.hid hmay
  cases hg : getL l p with
  | none =>
    rw [findI_none hg] at hf
    have hgv : getV l p = ⟨0, 0, 0, 0⟩ := by unfold getV; rw [hg]; rfl
    have hhas : hasL l p = false := by unfold hasL; rw [hg]; rfl
    rw [hgv, hhas] at hrr
    dsimp only at hrr
    have hn1 := c0.2.2.1.1
    rw [if_neg (by omega)] at hrr
    replace hf := Lib.hid hf
    obtain ⟨N, hN⟩ : ∃ N, Hid (l.length = N) := ⟨_, Lib.hid rfl⟩
    rw [hN.out] at hf hrr hfew ⊢
    by_cases c1 : 0 + 0 ≠ s
    · rw [if_pos c1] at hrr
      subst hrr
      have b1 : (s == 0) = false := by rw [beq_eq_false_iff_ne]; omega
      have b2 : (s != 0) = true := by simp; omega
      replace c1 := Lib.hid c1
      clear hr h hok h1 c0 hg hgv hhas hn1 hN
      go_enter Try.func22, Try.ntmps22
      go_upto_region 1 with fail
      rw [← show V = _ from hV.out, hq.out]
      clear hV hq
      go_wp2_with fail
      refine hmay.out.mono ?_
      rintro e w1 ⟨rfl, rfl⟩
      go_wp2_with fail
      refine hf.out.mono ?_
      rintro e w2 ⟨rfl, hb2⟩
      have hXw := hX.below hb2 hX.lt
      have hBw := grew hb0 hb2
      clear hf hX hb0 hb2
      have x0 := hXw.cell 0
      have x1 := hXw.cell 1
      have x2 := hXw.cell 2
      have f0 := hXw.frozen 0
      have f1 := hXw.frozen 1
      have f2 := hXw.frozen 2
      have hX2 : Whole (w2.setCells q 0 [.int .i64 0, .bool false, .int .i64 33]) q 54 [.int .i64 0, .bool false, .int .i64 33] := hXw.store 0 [.int .i64 0, .bool false, .int .i64 33] (by simp)
      have e0 := hX2.cell 0
      have e1 := hX2.cell 1
      have e2 := hX2.cell 2
      simp only [List.getElem?_cons_zero, List.getElem?_cons_succ] at x0 x1 x2 e0 e1 e2
      have hB9 := Lib.hid (below3 (q := q) (a := 0) (b := false) (c := 33) hBw hqw)
      simp only [World.setCells, Nat.zero_add, Nat.reduceAdd] at e0 e1 e2
      clear hXw hX2 hBw
      go_wp2_with fail
      exact bodyPost_ret (v := chkA (0, false, 33)) (by simp [results, Try.results22, go_sem, e0, e1, e2]) rfl ⟨rfl, hB9.out⟩
    · rw [if_neg c1] at hrr
      have hs0 : s = 0 := by omega
      subst hs0
      clear c1
      by_cases c2 : N < 16
      · rw [if_pos (.inr c2)] at hrr
        subst hrr
        have b3 : ((N : Int) == 16) = false := by rw [beq_eq_false_iff_ne]; omega
        have b4 : ¬ (N : Int) = 16 := by omega
        have b5 : ¬ N = 16 := by omega
        clear hr h hok h1 c0 hg hgv hhas hn1 hN
        go_enter Try.func22, Try.ntmps22
        go_upto_region 1 with fail
        rw [← show V = _ from hV.out, hq.out]
        clear hV hq
        go_wp2_with fail
        refine hmay.out.mono ?_
        rintro e w1 ⟨rfl, rfl⟩
        go_wp2_with fail
        refine hf.out.mono ?_
        rintro e w2 ⟨rfl, hb2⟩
        have hXw := hX.below hb2 hX.lt
        have hBw := grew hb0 hb2
        clear hf hX hb0 hb2
        have x0 := hXw.cell 0
        have x1 := hXw.cell 1
        have x2 := hXw.cell 2
        have f0 := hXw.frozen 0
        have f1 := hXw.frozen 1
        have f2 := hXw.frozen 2
        have hX2 : Whole (w2.setCells q 0 [.int .i64 0, .bool false, .int .i64 0]) q 54 [.int .i64 0, .bool false, .int .i64 0] := hXw.store 0 [.int .i64 0, .bool false, .int .i64 0] (by simp)
        have e0 := hX2.cell 0
        have e1 := hX2.cell 1
        have e2 := hX2.cell 2
        simp only [List.getElem?_cons_zero, List.getElem?_cons_succ] at x0 x1 x2 e0 e1 e2
        have hB9 := Lib.hid (below3 (q := q) (a := 0) (b := false) (c := 0) hBw hqw)
        simp only [World.setCells, Nat.zero_add, Nat.reduceAdd] at e0 e1 e2
        clear hXw hX2 hBw
        go_wp2_with fail
        exact bodyPost_ret (v := chkA (0, false, 0)) (by simp [results, Try.results22, go_sem, e0, e1, e2]) rfl ⟨rfl, hB9.out⟩
      · rw [if_neg (by simpa using c2)] at hrr
        subst hrr
        obtain rfl : N = 16 := by omega
        clear hr h hok h1 c0 hg hgv hhas hn1 hN c2
        go_enter Try.func22, Try.ntmps22
        go_upto_region 1 with fail
        rw [← show V = _ from hV.out, hq.out]
        clear hV hq
        go_wp2_with fail
        refine hmay.out.mono ?_
        rintro e w1 ⟨rfl, rfl⟩
        go_wp2_with fail
        refine hf.out.mono ?_
        rintro e w2 ⟨rfl, hb2⟩
        have hXw := hX.below hb2 hX.lt
        have hBw := grew hb0 hb2
        clear hf hX hb0 hb2
        have x0 := hXw.cell 0
        have x1 := hXw.cell 1
        have x2 := hXw.cell 2
        have f0 := hXw.frozen 0
        have f1 := hXw.frozen 1
        have f2 := hXw.frozen 2
        have hX2 : Whole (w2.setCells q 0 [.int .i64 0, .bool false, .int .i64 5]) q 54 [.int .i64 0, .bool false, .int .i64 5] := hXw.store 0 [.int .i64 0, .bool false, .int .i64 5] (by simp)
        have e0 := hX2.cell 0
        have e1 := hX2.cell 1
        have e2 := hX2.cell 2
        simp only [List.getElem?_cons_zero, List.getElem?_cons_succ] at x0 x1 x2 e0 e1 e2
        have hB9 := Lib.hid (below3 (q := q) (a := 0) (b := false) (c := 5) hBw hqw)
        simp only [World.setCells, Nat.zero_add, Nat.reduceAdd] at e0 e1 e2
        clear hXw hX2 hBw
        go_wp2_with fail
        exact bodyPost_ret (v := chkA (0, false, 5)) (by simp [results, Try.results22, go_sem, e0, e1, e2]) rfl ⟨rfl, hB9.out⟩
  | some x =>
    obtain ⟨k, hk, hx⟩ := findI_some hg
    rw [hk] at hf
    have hgv : getV l p = x := by unfold getV; rw [hg]; rfl
    have hhas : hasL l p = true := by unfold hasL; rw [hg]; rfl
    rw [hgv, hhas] at hrr
    have hxo := hok.ok x (List.mem_of_getElem? hx)
    obtain ⟨_, ⟨s0, s1⟩, ⟨n0, n1⟩, ⟨o0, o1⟩⟩ := hxo
    have hklt := (List.getElem?_eq_some_iff.1 hx).1
    have hk0 : ¬ (k : Int) < 0 := by omega
    have hk00 : (0 : Int) ≤ (k : Int) := by omega
    have hwsn : IntKind.i64.wrap (x.s + x.n) = x.s + x.n := IntWalk.i64_in _ (by omega)
    obtain ⟨N, hN⟩ : ∃ N, Hid (l.length = N) := ⟨_, Lib.hid rfl⟩
    rw [hN.out] at hf hfew hklt ⊢
    have hkN : (k : Int) < (N : Int) := by omega
    have hcell := Lib.hid (fun W (hb : Below V.heap.size V W) => (h1.below hb).cell hx)
    replace hf := Lib.hid hf
    by_cases c1 : x.s = s ∧ x.n = n
    · rw [if_pos c1] at hrr
      subst hrr
      have b1 : (x.s == s) = true := by simp [c1.1]
      have b2 : (x.n == n) = true := by simp [c1.2]
      replace c1 := Lib.hid c1
      replace hx := Lib.hid hx
      clear hr h hok h1 c0 hg hgv hhas hN hk
      go_enter Try.func22, Try.ntmps22
      go_upto_region 1 with fail
      rw [← show V = _ from hV.out, hq.out]
      clear hV hq
      go_wp2_with fail
      refine hmay.out.mono ?_
      rintro e w1 ⟨rfl, rfl⟩
      go_wp2_with fail
      refine hf.out.mono ?_
      rintro e w2 ⟨rfl, hb2⟩
      obtain ⟨g, rfl, k0, k1, k2, k3⟩ := hcell.out w2 hb2
      have hXw := hX.below hb2 hX.lt
      have hBw := grew hb0 hb2
      clear hf hX hb0 hb2 hcell
      have x0 := hXw.cell 0
      have x1 := hXw.cell 1
      have x2 := hXw.cell 2
      have f0 := hXw.frozen 0
      have f1 := hXw.frozen 1
      have f2 := hXw.frozen 2
      have hX2 : Whole (w2.setCells q 0 [.int .i64 x.o, .bool true, .int .i64 0]) q 54 [.int .i64 x.o, .bool true, .int .i64 0] := hXw.store 0 [.int .i64 x.o, .bool true, .int .i64 0] (by simp)
      have e0 := hX2.cell 0
      have e1 := hX2.cell 1
      have e2 := hX2.cell 2
      simp only [List.getElem?_cons_zero, List.getElem?_cons_succ] at x0 x1 x2 e0 e1 e2
      have hB9 := Lib.hid (below3 (q := q) (a := x.o) (b := true) (c := 0) hBw hqw)
      simp only [World.setCells, Nat.zero_add, Nat.reduceAdd] at e0 e1 e2
      clear hXw hX2 hBw
      go_wp2_with fail
      exact bodyPost_ret (v := chkA (x.o, true, 0)) (by simp [results, Try.results22, go_sem, e0, e1, e2]) rfl ⟨rfl, hB9.out⟩
    · rw [if_neg c1] at hrr
      have hcmp : Hid (((x.s == s) = true ∧ (x.n == n) = false) ∨ (x.s == s) = false) := Lib.hid (by
        by_cases e : x.s = s
        · exact .inl ⟨by simp [e], by simpa using fun e2 => c1 ⟨e, e2⟩⟩
        · exact .inr (by simpa using e))
      replace c1 := Lib.hid c1
      replace hx := Lib.hid hx
      by_cases c2 : x.s + x.n ≠ s
      · rw [if_pos c2] at hrr
        subst hrr
        have b3 : (s == x.s + x.n) = false := by rw [beq_eq_false_iff_ne]; exact fun e => c2 e.symm
        replace c2 := Lib.hid c2
        clear hr h hok h1 c0 hg hgv hhas hN hk
        rcases hcmp.out with ⟨b1, b2⟩ | b1
        all_goals
          clear hcmp
          go_enter Try.func22, Try.ntmps22
          go_upto_region 1 with fail
          rw [← show V = _ from hV.out, hq.out]
          clear hV hq
          go_wp2_with fail
          refine hmay.out.mono ?_
          rintro e w1 ⟨rfl, rfl⟩
          go_wp2_with fail
          refine hf.out.mono ?_
          rintro e w2 ⟨rfl, hb2⟩
          obtain ⟨g, rfl, k0, k1, k2, k3⟩ := hcell.out w2 hb2
          have hXw := hX.below hb2 hX.lt
          have hBw := grew hb0 hb2
          clear hf hX hb0 hb2 hcell
          go_upto_region 12 with fail
          go_quiet (fail)
          clear k0 k1 k2 k3
          have hXn := hXw.drewN nq
          have hBn : Below w.heap.size w (w2.drewN nq) := (fun (h : Below w.heap.size w w2) => ⟨h.os, h.tape, h.output, h.size, h.block⟩) hBw
          clear hXw hBw
          generalize w2.drewN nq = w3 at *
          have x0 := hXn.cell 0
          have x1 := hXn.cell 1
          have x2 := hXn.cell 2
          have f0 := hXn.frozen 0
          have f1 := hXn.frozen 1
          have f2 := hXn.frozen 2
          have hX2 : Whole (w3.setCells q 0 [.int .i64 0, .bool false, .int .i64 33]) q 54 [.int .i64 0, .bool false, .int .i64 33] := hXn.store 0 [.int .i64 0, .bool false, .int .i64 33] (by simp)
          have e0 := hX2.cell 0
          have e1 := hX2.cell 1
          have e2 := hX2.cell 2
          simp only [List.getElem?_cons_zero, List.getElem?_cons_succ] at x0 x1 x2 e0 e1 e2
          have hB9 := Lib.hid (below3 (q := q) (a := 0) (b := false) (c := 33) hBn hqw)
          simp only [World.setCells, Nat.zero_add, Nat.reduceAdd] at e0 e1 e2
          clear hXn hX2 hBn
          go_wp2_with fail
          exact bodyPost_ret (v := chkA (0, false, 33)) (by simp [results, Try.results22, go_sem, e0, e1, e2]) rfl ⟨rfl, hB9.out⟩
      · rw [if_neg c2, if_pos (.inl rfl)] at hrr
        subst hrr
        have b3 : (s == x.s + x.n) = true := by rw [beq_iff_eq]; exact (Classical.not_not.1 c2).symm
        replace c2 := Lib.hid c2
        clear hr h hok h1 c0 hg hgv hhas hN hk
        rcases hcmp.out with ⟨b1, b2⟩ | b1
        all_goals
          clear hcmp
          go_enter Try.func22, Try.ntmps22
          go_upto_region 1 with fail
          rw [← show V = _ from hV.out, hq.out]
          clear hV hq
          go_wp2_with fail
          refine hmay.out.mono ?_
          rintro e w1 ⟨rfl, rfl⟩
          go_wp2_with fail
          refine hf.out.mono ?_
          rintro e w2 ⟨rfl, hb2⟩
          obtain ⟨g, rfl, k0, k1, k2, k3⟩ := hcell.out w2 hb2
          have hXw := hX.below hb2 hX.lt
          have hBw := grew hb0 hb2
          clear hf hX hb0 hb2 hcell
          go_upto_region 12 with fail
          go_quiet (fail)
          clear k0 k1 k2 k3
          have hXn := hXw.drewN nq
          have hBn : Below w.heap.size w (w2.drewN nq) := (fun (h : Below w.heap.size w w2) => ⟨h.os, h.tape, h.output, h.size, h.block⟩) hBw
          clear hXw hBw
          generalize w2.drewN nq = w3 at *
          have x0 := hXn.cell 0
          have x1 := hXn.cell 1
          have x2 := hXn.cell 2
          have f0 := hXn.frozen 0
          have f1 := hXn.frozen 1
          have f2 := hXn.frozen 2
          have hX2 : Whole (w3.setCells q 0 [.int .i64 0, .bool false, .int .i64 0]) q 54 [.int .i64 0, .bool false, .int .i64 0] := hXn.store 0 [.int .i64 0, .bool false, .int .i64 0] (by simp)
          have e0 := hX2.cell 0
          have e1 := hX2.cell 1
          have e2 := hX2.cell 2
          simp only [List.getElem?_cons_zero, List.getElem?_cons_succ] at x0 x1 x2 e0 e1 e2
          have hB9 := Lib.hid (below3 (q := q) (a := 0) (b := false) (c := 0) hBn hqw)
          simp only [World.setCells, Nat.zero_add, Nat.reduceAdd] at e0 e1 e2
          clear hXn hX2 hBn
          go_wp2_with fail
          exact bodyPost_ret (v := chkA (0, false, 0)) (by simp [results, Try.results22, go_sem, e0, e1, e2]) rfl ⟨rfl, hB9.out⟩
end Go.Proofs.Ytbbeapglkdkajaa.W
