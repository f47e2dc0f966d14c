/- The definition's table: Note that is done. -/
import Derived.Test.YtbbeapglkdkajaaDdU
namespace Go.Proofs.Ytbbeapglkdkajaa.W
open Go.RowKit Go.Sort
open Go.Proofs.Ytbbeapglkdkajaa.M Go.Proofs.Ytbbeapglkdkajaa.D Go.Proofs.Ytbbeapglkdkajaa.Z
set_option linter.unusedVariables false
set_option linter.unusedSimpArgs false

theorem ownLt {w : World} {B : Nat} {e : TypeId} {sz n : Nat} {v : Value} {xs : List Value} (h : w.ownsRow B e sz v n xs) {k : Nat} (hk : v.ownBlock = some k) : k < w.heap.size := by
  rcases h.2 with ⟨rfl, _⟩ | ⟨g, cap, cur, rfl, _, hg, _⟩
  · cases hk
  · have e2 : g = k := by simpa [Value.ownBlock] using hk
    subst e2
    exact (Array.getElem?_eq_some_iff.1 hg).1
set_option maxRecDepth 100000 in
set_option maxHeartbeats 8000000 in
theorem rnote_yes (A : Option Addr) (c : Nat) (l : List La) (x : La) (w : World) (h : LaL w A l) (hok : TabOk l) (hx : noteE l x = 0) :
    Calls Try.prog 19 #[.slice A l.length c, .agg #[.int .i64 x.p, .int .i64 x.s, .int .i64 x.n, .int .i64 x.o]] w fun e w' => ∃ A2 c2, e = .returned (noteA A2 (noteL l x).length c2 0) ∧ LaL w' A2 (noteL l x) ∧ Below w.heap.size w w' := by
  obtain ⟨V, hV⟩ : ∃ V, Hid (V = (w.alloc (.cells #[.int .i64 x.p, .int .i64 x.s, .int .i64 x.n, .int .i64 x.o] 49)).alloc (.cells #[.slice none 0 0, .int .i64 0] 46)) := ⟨_, Lib.hid rfl⟩
  have hb0 : Below w.heap.size w V := by rw [hV.out]; exact grewAlloc (grewAlloc (Below.refl _ _) _) _
  have hX : Whole V w.heap.size 49 [.int .i64 x.p, .int .i64 x.s, .int .i64 x.n, .int .i64 x.o] := by rw [hV.out]; exact (Whole.new w _ _).alloc _
  have hR : Whole V (w.heap.size + 1) 46 [.slice none 0 0, .int .i64 0] := by
    rw [hV.out]
    have := Whole.new (w.alloc (.cells #[.int .i64 x.p, .int .i64 x.s, .int .i64 x.n, .int .i64 x.o] 49)) 46 [.slice none 0 0, .int .i64 0]
    simpa using this
  obtain ⟨q, hq⟩ : ∃ q, Hid (w.heap.size = q) := ⟨_, Lib.hid rfl⟩
  obtain ⟨rb, hrb⟩ : ∃ q, Hid (w.heap.size + 1 = q) := ⟨_, Lib.hid rfl⟩
  have hrw : w.heap.size ≤ rb := by rw [← hrb.out]; omega
  rw [hq.out] at hX
  rw [hrb.out] at hR
  obtain ⟨x0, x1, x2, x3⟩ := la4Cells hX
  have hfew := hok.few
  have hmay := rmay18_any x.p x.s x.n V
  have hxk : x.ok ∧ (hasL l x.p = true ∨ l.length < 16) := by
    unfold noteE at hx
    by_cases c0 : ¬ x.ok
    · rw [if_pos c0] at hx; omega
    · rw [if_neg c0] at hx
      refine ⟨Classical.not_not.1 c0, Classical.byContradiction fun e => ?_⟩
      rw [if_neg e] at hx
      omega
  obtain ⟨c1, c2, c3, o0, o1⟩ := id hxk.1
  have oB : okB x.p x.s x.n 0 := ⟨c1, c2, c3, by decide⟩
  rw [decide_eq_true oB] at hmay
  have no0 : ¬ x.o < 0 := by omega
  have no1 : ¬ 1048576 < x.o := by omega
  have hf := rfind_any A c l x.p V (h.below hb0) (by omega)
  obtain ⟨N, hN⟩ : ∃ N, Hid (l.length = N) := ⟨_, Lib.hid rfl⟩
  have hcase : (∃ k : Nat, findI l x.p = (k : Int)) ∨ (findI l x.p = -1 ∧ N ≠ 16) := by
    cases hg : getL l x.p with
    | some y =>
      obtain ⟨k, hk, _⟩ := findI_some hg
      exact .inl ⟨k, hk⟩
    | none =>
      refine .inr ⟨findI_none hg, ?_⟩
      have hh : hasL l x.p = false := by unfold hasL; rw [hg]; rfl
      have := hxk.2.resolve_left (by rw [hh]; decide)
      have := hN.out
      omega
  have hfin0 : Hid (∀ os b, runN x (l.take N) = (os, b) → (if b = false then os ++ [x] else os) = noteL l x) := Lib.hid (fun os b e => by
    rw [List.take_of_length_le (by have := hN.out; omega)] at e
    have h1 := runN_note (x := x) hok.rise
    rw [e] at h1
    exact h1)
  have hstep : Hid (∀ k y, l[k]? = some y → runN x (l.take (k + 1)) = stepN x (runN x (l.take k)) y) := Lib.hid (fun k y => runN_take)
  have hlen0 : Hid (∀ k os b, k ≤ N → runN x (l.take k) = (os, b) → os.length ≤ 100) := Lib.hid (fun k os b hk e => by
    have h1 := runN_len x (l.take k)
    rw [e] at h1
    have h2 : (l.take k).length ≤ 16 := by rw [List.length_take]; omega
    simp only at h1
    omega)
  rw [hN.out] at hf ⊢
  replace hmay := Lib.hid hmay
  replace hf := Lib.hid hf
  replace h := Lib.hid h
  have hN16 : N ≤ 16 := by have := hN.out; omega
  clear hx hxk c1 c2 c3 oB hok hfew
  go_enter Try.func19, Try.ntmps19
  go_upto_region 1 with fail
  rw [← show V = _ from hV.out, hrb.out, hq.out]
  clear hV hq hrb
  go_wp2_with fail
  refine hmay.out.mono ?_
  rintro e w1 ⟨rfl, rfl⟩
  go_wp2_with fail
  refine hf.out.mono ?_
  rintro e w2 ⟨rfl, hb2⟩
  have hX2 := hX.below hb2 hX.lt
  have hR2 := hR.below hb2 hR.lt
  have hB2 := grew hb0 hb2
  have hl2 := h.out.below hB2
  have hP : Hid (Whole w2 q 49 [.int .i64 x.p, .int .i64 x.s, .int .i64 x.n, .int .i64 x.o] ∧ Whole w2 rb 46 [.slice none 0 0, .int .i64 0] ∧ Below w.heap.size w w2 ∧ LaL w2 A l) := Lib.hid ⟨hX2, hR2, hB2, hl2⟩
  have hS : Hid (runN x (l.take 0) = ([], false) ∧ w2.ownsRow w2.heap.size 49 4 (.slice none 0 0) 0 (laRows []) ∧ Below w2.heap.size w2 w2) := Lib.hid ⟨rfl, own_nilL, Below.refl _ _⟩
  clear hX hR hb0 hb2 hX2 hR2 hB2 hl2 hf hmay x0 x1 x2 x3
  have hgo : ((∃ k : Nat, findI l x.p = (k : Int) ∧ ¬ (k : Int) < 0) ∨ (findI l x.p = -1 ∧ N ≠ 16 ∧ ¬ (N : Int) = 16 ∧ ((N : Int) == 16) = false)) := by
    rcases hcase with ⟨k, hk⟩ | ⟨h1, h2⟩
    · exact .inl ⟨k, hk, by omega⟩
    · exact .inr ⟨h1, h2, by omega, by rw [beq_eq_false_iff_ne]; omega⟩
  rcases hgo with ⟨k0, hk0, hk1⟩ | ⟨hk0, hk1, hk2, hk3⟩
  all_goals
    rw [hk0]
    clear hk0 hcase
    go_wp2_with fail
    go_loopg [5, 6, 43] N (fun ga ov bv ix wr => ∃ (k : Nat) (os : List La) (b : Bool) (O : Option Addr) (oc : Nat), k ≤ N ∧ N ≤ k + ga ∧ ix = .int .i64 k ∧ bv = .bool b ∧ ov = .slice O os.length oc ∧ Hid (runN x (l.take k) = (os, b) ∧ wr.ownsRow w2.heap.size 49 4 (.slice O os.length oc) os.length (laRows os) ∧ Below w2.heap.size w2 wr))
    case atStart => exact ⟨0, [], false, none, 0, by omega, by omega, rfl, rfl, rfl, hS⟩
    case round =>
      clear hS
      obtain ⟨k, os, b, O, oc, hk, hg, rfl, rfl, rfl, hrel⟩ := hrel
      generalize wr = wo at *
      obtain ⟨hrun, how, hB⟩ := hrel.out
      clear hrel
      have hos := hlen0.out k os b hk hrun
      have hXo := hP.out.1.below hB hP.out.1.lt
      obtain ⟨x0, x1, x2, x3⟩ := la4Cells hXo
      by_cases hlt : k < N
      · obtain ⟨y, hy⟩ : ∃ y, l[k]? = some y := ⟨_, List.getElem?_eq_getElem (by have := hN.out; omega)⟩
        obtain ⟨g, rfl, c0, c1, c2, c3⟩ := (hP.out.2.2.2.below hB).cell hy
        have hst := hstep.out k y hy
        rw [hrun] at hst
        obtain ⟨W1, hW1⟩ : ∃ V, Hid (V = wo.alloc (.cells #[.int .i64 y.p, .int .i64 y.s, .int .i64 y.n, .int .i64 y.o] 49)) := ⟨_, Lib.hid rfl⟩
        have hb1 : Below wo.heap.size wo W1 := by rw [hW1.out]; exact grewAlloc (Below.refl _ _) _
        have hY : Whole W1 wo.heap.size 49 [.int .i64 y.p, .int .i64 y.s, .int .i64 y.n, .int .i64 y.o] := by rw [hW1.out]; exact Whole.new wo _ _
        have hX1 := hXo.below hb1 hXo.lt
        have hB1 : Below w2.heap.size w2 W1 := hB.trans (hb1.mono hB.size)
        have how1 : W1.ownsRow w2.heap.size 49 4 (.slice O os.length oc) os.length (laRows os) := by rw [hW1.out]; exact how.alloc _
        have hne : some wo.heap.size ≠ (Value.slice O os.length oc).ownBlock := fun e => by have := ownLt how e.symm; omega
        obtain ⟨yb, hyb⟩ : ∃ q, Hid (wo.heap.size = q) := ⟨_, Lib.hid rfl⟩
        rw [hyb.out] at hY hne
        obtain ⟨z0, z1, z2, z3⟩ := la4Cells hX1
        obtain ⟨y0, y1, y2, y3⟩ := la4Cells hY
        obtain ⟨wb, hwb⟩ : ∃ b, Hid (W1.heap.size = b) := ⟨_, Lib.hid rfl⟩
        have hki : (k : Int) < (N : Int) := by omega
        replace hy := Lib.hid hy
        replace hX1 := Lib.hid hX1
        replace hY := Lib.hid hY
        replace hB1 := Lib.hid hB1
        replace how1 := Lib.hid how1
        replace hne := Lib.hid hne
        clear hrun how hB hXo hb1
        go_upto_region 10 with fail
        rw [← show W1 = _ from hW1.out, hyb.out]
        clear hW1 hyb x0 x1 x2 x3 c0 c1 c2 c3
        cases b with
        | true =>
          by_cases e : y.p = x.p
          · have e1 : (y.p == x.p) = true := by simpa using e
            have e2 : (y.p != x.p) = false := by simpa using e
            have hfin : Hid (runN x (l.take (k + 1)) = (os, true) ∧ W1.ownsRow w2.heap.size 49 4 (.slice O os.length oc) os.length (laRows os) ∧ Below w2.heap.size w2 W1) := Lib.hid ⟨by rw [hst]; unfold stepN; simp [e], how1.out, hB1.out⟩
            replace e := Lib.hid e
            clear hst how1 hB1 hX1 hY
            go_wp2_with fail
            go_roundg (gk - 1)
            case measure => omega
            case rel => exact ⟨k + 1, os, true, O, oc, by omega, by omega, by go_num, rfl, by first | rfl | (simp only [List.length_append, List.length_singleton]), hfin⟩
          · have e1 : (y.p == x.p) = false := by simpa using e
            have e2 : (y.p != x.p) = true := by simpa using e
            have hst2 : Hid (runN x (l.take (k + 1)) = (os ++ [y], true)) := Lib.hid (by rw [hst]; unfold stepN; simp [e])
            replace e := Lib.hid e
            clear hst
            go_wp2_with (with_reducible refine zAppend _ _ _ rfl ?_)
            refine Lib.hid ?_
            refine la_app (w0 := w2) rfl _ _ rfl O _ oc os rfl rfl how1.out hB1.out y wb hwb.out (by first | rfl | (rw [hwb.out]; rfl)) (by first | omega | (rw [List.length_append, List.length_singleton]; omega)) ?_
            intro g5 cap5 w5 how5 hB5 hgr5
            have hfin : Hid (runN x (l.take (k + 1)) = (os ++ [y], true) ∧ w5.ownsRow w2.heap.size 49 4 (.slice (some ⟨g5, 0, none⟩) (os ++ [y]).length cap5) (os ++ [y]).length (laRows (os ++ [y])) ∧ Below w2.heap.size w2 w5) := Lib.hid ⟨hst2.out, by rw [List.length_append, List.length_singleton]; exact how5, hB5⟩
            clear hst2 how1 hB1 hX1 hY how5 hB5 hgr5
            go_wp2_with fail
            go_roundg (gk - 1)
            case measure => omega
            case rel => exact ⟨k + 1, os ++ [y], true, some ⟨g5, 0, none⟩, cap5, by omega, by omega, by go_num, rfl, by first | rfl | (simp only [List.length_append, List.length_singleton]), hfin⟩
        | false =>
          by_cases c1 : x.p ≤ y.p
          · by_cases e : y.p = x.p
            · have e1 : (y.p == x.p) = true := by simpa using e
              have e2 : (y.p != x.p) = false := by simpa using e
              have hst2 : Hid (runN x (l.take (k + 1)) = (os ++ [x], true)) := Lib.hid (by rw [hst]; unfold stepN; simp [e, c1])
              replace e := Lib.hid e
              clear hst
              go_wp2_with (with_reducible refine zAppend _ _ _ rfl ?_)
              refine Lib.hid ?_
              refine la_app (w0 := w2) rfl _ _ rfl O _ oc os rfl rfl how1.out hB1.out x wb hwb.out (by first | rfl | (rw [hwb.out]; rfl)) (by first | omega | (rw [List.length_append, List.length_singleton]; omega)) ?_
              intro g5 cap5 w5 how5 hB5 hgr5
              have hY5 := (hY.out.alloc (.cells #[.int .i64 x.p, .int .i64 x.s, .int .i64 x.n, .int .i64 x.o] 49)).kept hgr5 hne.out
              have hX5 := hP.out.1.below hB5 hP.out.1.lt
              have hfin : Hid (runN x (l.take (k + 1)) = (os ++ [x], true) ∧ w5.ownsRow w2.heap.size 49 4 (.slice (some ⟨g5, 0, none⟩) (os ++ [x]).length cap5) (os ++ [x]).length (laRows (os ++ [x])) ∧ Below w2.heap.size w2 w5) := Lib.hid ⟨hst2.out, by rw [List.length_append, List.length_singleton]; exact how5, hB5⟩
              have p0 := (la4Cells hY5).1
              have p1 := (la4Cells hX5).1
              clear hst2 how1 hB1 hX1 hY how5 hB5 hgr5 hY5 hX5 z0 z1 z2 z3 y0 y1 y2 y3
              go_wp2_with fail
              go_roundg (gk - 1)
              case measure => omega
              case rel => exact ⟨k + 1, os ++ [x], true, some ⟨g5, 0, none⟩, cap5, by omega, by omega, by go_num, rfl, by first | rfl | (simp only [List.length_append, List.length_singleton]), hfin⟩
            · have e1 : (y.p == x.p) = false := by simpa using e
              have e2 : (y.p != x.p) = true := by simpa using e
              have hst2 : Hid (runN x (l.take (k + 1)) = (os ++ [x] ++ [y], true)) := Lib.hid (by rw [hst]; unfold stepN; simp [e, c1])
              replace e := Lib.hid e
              clear hst
              go_wp2_with (with_reducible refine zAppend _ _ _ rfl ?_)
              refine Lib.hid ?_
              refine la_app (w0 := w2) rfl _ _ rfl O _ oc os rfl rfl how1.out hB1.out x wb hwb.out (by first | rfl | (rw [hwb.out]; rfl)) (by first | omega | (rw [List.length_append, List.length_singleton]; omega)) ?_
              intro g5 cap5 w5 how5 hB5 hgr5
              have hY5 := (hY.out.alloc (.cells #[.int .i64 x.p, .int .i64 x.s, .int .i64 x.n, .int .i64 x.o] 49)).kept hgr5 hne.out
              have hX5 := hP.out.1.below hB5 hP.out.1.lt
              obtain ⟨p0, p1, p2, p3⟩ := la4Cells hY5
              have s0 := (la4Cells hX5).1
              have how5' : Hid (w5.ownsRow w2.heap.size 49 4 (.slice (some ⟨g5, 0, none⟩) (os.length + 1) cap5) (os.length + 1) (laRows (os ++ [x]))) := Lib.hid how5
              replace hB5 := Lib.hid hB5
              obtain ⟨wb5, hwb5⟩ : ∃ b, Hid (w5.heap.size = b) := ⟨_, Lib.hid rfl⟩
              clear how1 hB1 hX1 hY how5 hgr5 hY5 hX5 z0 z1 z2 z3 y0 y1 y2 y3
              go_wp2_with (with_reducible refine zAppend _ _ _ rfl ?_)
              refine Lib.hid ?_
              refine la_app (w0 := w2) rfl _ _ rfl (some ⟨g5, 0, none⟩) (os.length + 1) cap5 (os ++ [x]) (by rw [List.length_append, List.length_singleton]) rfl how5'.out hB5.out y wb5 hwb5.out (by first | rfl | (rw [hwb5.out]; rfl)) (by omega) ?_
              intro g6 cap6 w6 how6 hB6 hgr6
              have hfin : Hid (runN x (l.take (k + 1)) = (os ++ [x] ++ [y], true) ∧ w6.ownsRow w2.heap.size 49 4 (.slice (some ⟨g6, 0, none⟩) (os ++ [x] ++ [y]).length cap6) (os ++ [x] ++ [y]).length (laRows (os ++ [x] ++ [y])) ∧ Below w2.heap.size w2 w6) := Lib.hid ⟨hst2.out, by simp only [List.length_append, List.length_singleton]; exact how6, hB6⟩
              clear hst2 how6 hB6 hgr6 how5' hB5 p0 p1 p2 p3 s0
              go_wp2_with fail
              go_roundg (gk - 1)
              case measure => omega
              case rel => exact ⟨k + 1, os ++ [x] ++ [y], true, some ⟨g6, 0, none⟩, cap6, by omega, by omega, by go_num, rfl, by first | rfl | (simp only [List.length_append, List.length_singleton]), hfin⟩
          · have e : ¬ y.p = x.p := by omega
            have c2 : y.p < x.p := by omega
            have e1 : (y.p == x.p) = false := by simpa using e
            have e2 : (y.p != x.p) = true := by simpa using e
            have hst2 : Hid (runN x (l.take (k + 1)) = (os ++ [y], false)) := Lib.hid (by rw [hst]; unfold stepN; simp [e, c1])
            replace e := Lib.hid e
            clear hst
            go_wp2_with (with_reducible refine zAppend _ _ _ rfl ?_)
            refine Lib.hid ?_
            refine la_app (w0 := w2) rfl _ _ rfl O _ oc os rfl rfl how1.out hB1.out y wb hwb.out (by first | rfl | (rw [hwb.out]; rfl)) (by first | omega | (rw [List.length_append, List.length_singleton]; omega)) ?_
            intro g5 cap5 w5 how5 hB5 hgr5
            have hfin : Hid (runN x (l.take (k + 1)) = (os ++ [y], false) ∧ w5.ownsRow w2.heap.size 49 4 (.slice (some ⟨g5, 0, none⟩) (os ++ [y]).length cap5) (os ++ [y]).length (laRows (os ++ [y])) ∧ Below w2.heap.size w2 w5) := Lib.hid ⟨hst2.out, by rw [List.length_append, List.length_singleton]; exact how5, hB5⟩
            clear hst2 how1 hB1 hX1 hY how5 hB5 hgr5
            go_wp2_with fail
            go_roundg (gk - 1)
            case measure => omega
            case rel => exact ⟨k + 1, os ++ [y], false, some ⟨g5, 0, none⟩, cap5, by omega, by omega, by go_num, rfl, by first | rfl | (simp only [List.length_append, List.length_singleton]), hfin⟩
      · obtain rfl : k = N := by omega
        have hfn0 := hfin0.out os b hrun
        cases b with
        | true =>
          rw [if_neg (by decide)] at hfn0
          have hfn := Lib.hid hfn0
          clear hfn0
          have hR9 := hP.out.2.1.below hB hP.out.2.1.lt
          have hB8 := hP.out.2.2.1.trans (hB.mono hP.out.2.2.1.size)
          have r0 := hR9.cell 0
          have r1 := hR9.cell 1
          have f0 := hR9.frozen 0
          have f1 := hR9.frozen 1
          have hR8 : Whole (wo.setCells rb 0 [.slice O (os).length oc, .int .i64 0]) rb 46 [.slice O (os).length oc, .int .i64 0] := hR9.store 0 [.slice O (os).length oc, .int .i64 0] (by simp)
          have e0 := hR8.cell 0
          have e1 := hR8.cell 1
          simp only [List.getElem?_cons_zero, List.getElem?_cons_succ] at r0 r1 e0 e1
          have hB9 := Lib.hid (noted_above (q := rb) (a := .slice O (os).length oc) (b := .int .i64 0) hB8 hrw)
          have hL9 : Hid (LaL (wo.setCells rb 0 [.slice O (os).length oc, .int .i64 0]) O (os)) := Lib.hid ((laL_own how rfl).kept ((Kept.refl (fun q => q = rb) wo).setCells (.inl rfl) 0 [.slice O (os).length oc, .int .i64 0]) (fun g cur hg e => (hg.ne hR9 (by decide)) e))
          simp only [World.setCells, Nat.zero_add, Nat.reduceAdd] at e0 e1
          clear hR9 hR8 hB8 how hrun hXo hB x0 x1 x2 x3
          go_wp2_with fail
          refine bodyPost_ret (v := noteA O os.length oc 0) (by simp [results, Try.results19, go_sem, e0, e1]) rfl ⟨O, oc, ?_, ?_, hB9.out⟩
          · rw [← hfn.out]
          · rw [← hfn.out]; exact hL9.out
        | false =>
          rw [if_pos rfl] at hfn0
          have hfn := Lib.hid hfn0
          clear hfn0
          obtain ⟨wb, hwb⟩ : ∃ b, Hid (wo.heap.size = b) := ⟨_, Lib.hid rfl⟩
          replace how := Lib.hid how
          replace hB := Lib.hid hB
          clear hrun hXo
          go_wp2_with (with_reducible refine zAppend _ _ _ rfl ?_)
          refine Lib.hid ?_
          refine la_app (w0 := w2) rfl _ _ rfl O _ oc os rfl rfl how.out hB.out x wb hwb.out (by first | rfl | (rw [hwb.out]; rfl)) (by first | omega | (rw [List.length_append, List.length_singleton]; omega)) ?_
          intro g5 cap5 w5 how5 hB5 hgr5
          have how5' : w5.ownsRow w2.heap.size 49 4 (.slice (some ⟨g5, 0, none⟩) (os ++ [x]).length cap5) (os ++ [x]).length (laRows (os ++ [x])) := by rw [List.length_append, List.length_singleton]; exact how5
          have hR9 := hP.out.2.1.below hB5 hP.out.2.1.lt
          have hB8 := hP.out.2.2.1.trans (hB5.mono hP.out.2.2.1.size)
          have r0 := hR9.cell 0
          have r1 := hR9.cell 1
          have f0 := hR9.frozen 0
          have f1 := hR9.frozen 1
          have hR8 : Whole (w5.setCells rb 0 [.slice (some ⟨g5, 0, none⟩) (os ++ [x]).length cap5, .int .i64 0]) rb 46 [.slice (some ⟨g5, 0, none⟩) (os ++ [x]).length cap5, .int .i64 0] := hR9.store 0 [.slice (some ⟨g5, 0, none⟩) (os ++ [x]).length cap5, .int .i64 0] (by simp)
          have e0 := hR8.cell 0
          have e1 := hR8.cell 1
          simp only [List.getElem?_cons_zero, List.getElem?_cons_succ] at r0 r1 e0 e1
          have hB9 := Lib.hid (noted_above (q := rb) (a := .slice (some ⟨g5, 0, none⟩) (os ++ [x]).length cap5) (b := .int .i64 0) hB8 hrw)
          have hL9 : Hid (LaL (w5.setCells rb 0 [.slice (some ⟨g5, 0, none⟩) (os ++ [x]).length cap5, .int .i64 0]) (some ⟨g5, 0, none⟩) (os ++ [x])) := Lib.hid ((laL_own how5' rfl).kept ((Kept.refl (fun q => q = rb) w5).setCells (.inl rfl) 0 [.slice (some ⟨g5, 0, none⟩) (os ++ [x]).length cap5, .int .i64 0]) (fun g cur hg e => (hg.ne hR9 (by decide)) e))
          simp only [World.setCells, Nat.zero_add, Nat.reduceAdd] at e0 e1
          rw [show os.length + 1 = (os ++ [x]).length by rw [List.length_append, List.length_singleton]]
          obtain ⟨M, hM⟩ : ∃ M, Hid ((os ++ [x]).length = M) := ⟨_, Lib.hid rfl⟩
          rw [hM.out] at e0 e1 hB9 hL9 ⊢
          clear hR9 hR8 hB8 how how5 how5' hgr5 hB hB5 x0 x1 x2 x3
          go_wp2_with fail
          refine bodyPost_ret (v := noteA (some ⟨g5, 0, none⟩) M cap5 0) (by simp [results, Try.results19, go_sem, e0, e1]) rfl ⟨some ⟨g5, 0, none⟩, cap5, ?_, ?_, hB9.out⟩
          · rw [← hfn.out, hM.out]
          · rw [← hfn.out]; exact hL9.out
end Go.Proofs.Ytbbeapglkdkajaa.W
