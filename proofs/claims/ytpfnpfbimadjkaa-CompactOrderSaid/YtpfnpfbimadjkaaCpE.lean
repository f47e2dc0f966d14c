/- Layer 21's definition: put, View; the law's large, four. -/
import Derived.Test.YtpfnpfbimadjkaaCpC
import Derived.Test.YtpfnpfbimadjkaaCpD
namespace Go.Proofs.Ytpfnpfbimadjkaa.W
open Go.RowKit Go.Sort
open Go.Proofs.Ytpfnpfbimadjkaa.M Go.Proofs.Ytpfnpfbimadjkaa.D Go.Proofs.Ytpfnpfbimadjkaa.Z
set_option linter.unusedVariables false
set_option linter.unusedSimpArgs false

theorem insF_at {x y : Rc} {l : List Rc} {a : Nat} (h : l[a]? = some y) : insF x (l.drop a) = if kb x < kb y then x :: y :: l.drop (a + 1) else y :: insF x (l.drop (a + 1)) := by rw [drop_of h]; rfl
/-- What is left to be put. -/
def restF : Bool → Rc → List Rc → List Rc
  | true, _, l => l
  | false, x, l => insF x l
theorem less_yes {x y : Rc} (h1 : kb x < kb y) : Op.bytesLess y.key.toList x.key.toList = false ∧ (y.key.toList == x.key.toList) = false := by
  rw [bytesLess_eq, keyEq, Lib.toList_data, Lib.toList_data]
  exact ⟨decide_eq_false (fun h => List.lt_irrefl _ (List.lt_trans h1 h)), decide_eq_false (fun h => by rw [h] at h1; exact List.lt_irrefl _ h1)⟩
theorem less_no {x y : Rc} (h1 : ¬ kb x < kb y) : (Op.bytesLess y.key.toList x.key.toList = true ∧ (y.key.toList == x.key.toList) = false) ∨ (Op.bytesLess y.key.toList x.key.toList = false ∧ (y.key.toList == x.key.toList) = true) := by
  rw [bytesLess_eq, keyEq, Lib.toList_data, Lib.toList_data]
  by_cases h3 : kb y = kb x
  · exact .inr ⟨decide_eq_false (by show ¬ kb y < kb x; rw [h3]; exact List.lt_irrefl _), decide_eq_true h3⟩
  · exact .inl ⟨decide_eq_true (kb_tri h1 (fun h => h3 h.symm)), decide_eq_false h3⟩
theorem own_lt {W : World} {B n : Nat} {e : TypeId} {sz : Nat} {v : Value} {l : List Value} (h : W.ownsRow B e sz v n l) {k : Nat} (hk : v.ownBlock = some k) : k < W.heap.size := by
  rcases h.2 with ⟨hv, _⟩ | ⟨g, cap, cur, hv, _, hb, _⟩
  · rw [hv] at hk; cases hk
  · rw [hv] at hk
    have : g = k := by simpa [Value.ownBlock] using hk
    rw [← this]
    exact (Array.getElem?_eq_some_iff.1 hb).1
set_option maxRecDepth 100000 in
set_option maxHeartbeats 4000000 in
theorem rput_any (va : Option Addr) (c : Nat) (rs : List Rc) (x : Rc) (w : World) (h : RcAt w va rs) (hn : rs.length ≤ 1000) :
    Calls Try.prog 34 #[.slice va rs.length c, .agg #[.int .i64 x.off, .int .i64 x.tick, .string x.key, .string x.val, .bool x.gone, .int .i64 x.prod, .int .i64 x.seq, .int .i64 x.frm]] w fun e w' => ∃ A cc, e = .returned (.slice A (insF x rs).length cc) ∧ RcAt w' A (insF x rs) ∧ Below w.heap.size w w' := by
  obtain ⟨V, hV⟩ : ∃ V, Hid (V = w.alloc (.cells #[.int .i64 x.off, .int .i64 x.tick, .string x.key, .string x.val, .bool x.gone, .int .i64 x.prod, .int .i64 x.seq, .int .i64 x.frm] 32)) := ⟨_, Lib.hid rfl⟩
  have hb0 : Below w.heap.size w V := by rw [hV.out]; exact grewAlloc (Below.refl _ _) _
  have hX0 : Whole V w.heap.size 32 (rcL x) := by rw [hV.out]; exact Whole.new w _ _
  obtain ⟨q, hq⟩ : ∃ q, Hid (w.heap.size = q) := ⟨_, Lib.hid rfl⟩
  rw [hq.out] at hX0
  obtain ⟨N, hN⟩ : ∃ N, Hid (rs.length = N) := ⟨_, Lib.hid rfl⟩
  have hall : rs.drop N = [] := by rw [← hN.out, List.drop_length]
  rw [hN.out] at hn ⊢
  obtain ⟨R, hR⟩ : ∃ R, Hid (insF x rs = R) := ⟨_, Lib.hid rfl⟩
  rw [hR.out]
  obtain ⟨i0, hi0, hz0, hz1, hz2⟩ := info_parts infoRk
  have hin := Lib.hid (h.below hb0)
  have hst : Hid (insF x (rs.drop 0) = R) := Lib.hid (by rw [List.drop_zero]; exact hR.out)
  have hat : Hid (∀ a y, rs[a]? = some y → insF x (rs.drop a) = if kb x < kb y then x :: y :: rs.drop (a + 1) else y :: insF x (rs.drop (a + 1))) := Lib.hid (fun a y hy => insF_at hy)
  replace hall := Lib.hid hall
  replace hX0 := Lib.hid hX0
  replace hb0 := Lib.hid hb0
  clear h
  go_enter Try.func34, Try.ntmps34
  go_upto_region 1 with fail
  rw [← show V = _ from hV.out, hq.out]
  clear hV
  go_wp2_with fail
  go_loopg [5, 6, 11] N (fun ga v d i wr => ∃ (a m cc : Nat) (A : Option Addr) (dn : Bool), a ≤ N ∧ N ≤ a + ga ∧ i = .int .i64 (a : Int) ∧ v = .slice A m cc ∧ d = .bool dn ∧ m ≤ a + dn.toNat ∧ Hid (∃ K : List Rc, K.length = m ∧ K ++ restF dn x (rs.drop a) = R ∧ wr.ownsRow V.heap.size 32 8 (.slice A m cc) m (rcRows K) ∧ Below V.heap.size V wr))
  case atStart => exact ⟨0, 0, 0, none, false, by omega, by omega, rfl, rfl, rfl, Nat.zero_le _, Lib.hid ⟨[], rfl, (by rw [List.nil_append]; exact hst.out), own_nilK, Below.refl _ _⟩⟩
  case round =>
    clear hst
    obtain ⟨a, m, cc, A, dn, ha, hg, rfl, rfl, rfl, hma, hrel⟩ := hrel
    generalize wr = wo at *
    obtain ⟨K, hKl, hKt, how, hbl⟩ := hrel.out
    clear hrel
    by_cases hlt : a < N
    · obtain ⟨r, hr⟩ : ∃ r, rs[a]? = some r := ⟨_, List.getElem?_eq_getElem (by have := hN.out; omega)⟩
      obtain ⟨b, o, e, c0, c1, c2, c3, c4, c5, c6, c7⟩ := (hin.out.below hbl).get hr
      obtain ⟨W1, hW1⟩ : ∃ W1, Hid (W1 = wo.alloc (.cells #[.int .i64 r.off, .int .i64 r.tick, .string r.key, .string r.val, .bool r.gone, .int .i64 r.prod, .int .i64 r.seq, .int .i64 r.frm] 32)) := ⟨_, Lib.hid rfl⟩
      have hb1 : Below wo.heap.size wo W1 := by rw [hW1.out]; exact grewAlloc (Below.refl _ _) _
      have hX1 : Whole W1 wo.heap.size 32 (rcL r) := by rw [hW1.out]; exact Whole.new wo _ _
      have how1 := Lib.hid (own_below how hb1)
      have hB1 := Lib.hid (grew hbl hb1)
      have hfar : Hid (∀ k, (Value.slice A m cc).ownBlock = some k → k < wo.heap.size) := Lib.hid (fun k hk => own_lt how hk)
      have hX2 := hX0.out.below hB1.out hX0.out.lt
      have hat1 := hat.out a r hr
      have hdr := drop_of hr
      obtain ⟨xb, hxb⟩ : ∃ xb, Hid (wo.heap.size = xb) := ⟨_, Lib.hid rfl⟩
      rw [hxb.out] at hX1
      have hxl : V.heap.size ≤ xb := by rw [← hxb.out]; exact hbl.size
      rw [hxb.out] at hfar
      obtain ⟨x0, x1, x2, x3, x4, x5, x6, x7⟩ := recCells hX1
      obtain ⟨y0, y1, y2, y3, y4, y5, y6, y7⟩ := recCells hX2
      have hki : (a : Int) < (N : Int) := by omega
      replace hX1 := Lib.hid hX1
      replace hr := Lib.hid hr
      clear how hbl hb1 hX2
      subst e
      have hm1 : m ≤ 1000000 := by have : dn.toNat ≤ 1 := Bool.toNat_le dn; omega
      cases dn with
      | true =>
        have hma0 : m ≤ a + 1 := hma
        have hK1 := Lib.hid (show (K ++ [r]) ++ rs.drop (a + 1) = R by rw [List.append_assoc, ← hKt, hdr]; rfl)
        clear hKt hat1 hdr
        go_upto_region 6 with fail
        rw [← show W1 = _ from hW1.out, hxb.out]
        clear hW1 hxb c0 c1 c2 c3 c4 c5 c6 c7
        go_wp2_with (with_reducible refine zAppend _ _ _ rfl ?_)
        refine Lib.hid ?_
        refine wpList_append_lies _ rfl _ _ 22 rfl V.heap.size 32 i0 _ 8 80 Try.underlying22 hi0 hz0 hz1 hz2 rfl (by omega) _ _ _ rfl (how1.out.alloc _) _ 1 1 (rcL r) rfl rfl (World.news_of_block (heap_alloc_new _ _)) (by simp [Value.oneCell']) (by omega) (by unfold maxLen; omega) (by omega) (by have := hB1.out.size; simp; omega) (W1.heap.size + 1) (by simp) ?_
        intro gg cap2 w5 hown5 hgrow5 hat5 hlt5
        have hb5 : Below V.heap.size V w5 := below_grow (hB1.out.alloc hB1.out.size _) hgrow5 (by have := hB1.out.size; simp; omega) (fun k hk => ownFar how1.out k hk)
        have hfin : Hid (∃ K : List Rc, K.length = m + 1 ∧ K ++ restF true x (rs.drop (a + 1)) = R ∧ w5.ownsRow V.heap.size 32 8 (.slice (some ⟨gg, 0, none⟩) (m + 1) cap2) (m + 1) (rcRows K) ∧ Below V.heap.size V w5) := Lib.hid ⟨K ++ [r], by simp [hKl], hK1.out, by
          rw [show rcRows (K ++ [r]) = rcRows K ++ rcL r from by simp [rcRows]]
          exact hown5, hb5⟩
        clear hown5 hgrow5 hat5 hb5 how1 hB1 x0 x1 x2 x3 x4 x5 x6 x7 hK1
        go_wp2_with fail
        go_roundg (gk - 1)
        case measure => omega
        case rel => exact ⟨a + 1, m + 1, cap2, some ⟨gg, 0, none⟩, true, by omega, by omega, by go_num, rfl, rfl, (by show m + 1 ≤ a + 1 + 1; omega), hfin⟩
      | false =>
        have hma0 : m ≤ a + 0 := hma
        by_cases hlt2 : kb x < kb r
        · have hK1 := Lib.hid (show (K ++ [x] ++ [r]) ++ rs.drop (a + 1) = R by rw [← hKt, show restF false x (rs.drop a) = insF x (rs.drop a) from rfl, hat1, if_pos hlt2]; simp)
          obtain ⟨hgt, hge⟩ := less_yes hlt2
          clear hKt hat1 hdr hlt2
          go_upto_region 6 with fail
          rw [← show W1 = _ from hW1.out, hxb.out]
          clear hW1 hxb c0 c1 c2 c3 c4 c5 c6 c7
          go_wp2_with (with_reducible refine zAppend _ _ _ rfl ?_)
          refine Lib.hid ?_
          refine wpList_append_lies _ rfl _ _ 22 rfl V.heap.size 32 i0 _ 8 80 Try.underlying22 hi0 hz0 hz1 hz2 rfl (by omega) _ _ _ rfl (how1.out.alloc _) _ 1 1 (rcL x) rfl rfl (World.news_of_block (heap_alloc_new _ _)) (by simp [Value.oneCell']) (by omega) (by unfold maxLen; omega) (by omega) (by have := hB1.out.size; simp; omega) (W1.heap.size + 1) (by simp) ?_
          intro gg cap2 w5 hown5 hgrow5 hat5 hlt5
          have hb5 : Below V.heap.size V w5 := below_grow (hB1.out.alloc hB1.out.size _) hgrow5 (by have := hB1.out.size; simp; omega) (fun k hk => ownFar how1.out k hk)
          have hne5 : ∀ k, (Value.slice A m cc).ownBlock = some k → k ≠ xb := fun k hk e => by
            have h1 := hfar.out k hk
            omega
          have hX5 : Whole w5 xb 32 (rcL r) := (hX1.out.alloc (.cells #[.int .i64 x.off, .int .i64 x.tick, .string x.key, .string x.val, .bool x.gone, .int .i64 x.prod, .int .i64 x.seq, .int .i64 x.frm] 32)).kept hgrow5 (fun e => hne5 xb e.symm rfl)
          have how5 := Lib.hid hown5
          have hB5 := Lib.hid hb5
          clear x0 x1 x2 x3 x4 x5 x6 x7 hown5 hgrow5 hat5 hb5 how1 hB1 hX1 hlt5
          obtain ⟨x0, x1, x2, x3, x4, x5, x6, x7⟩ := recCells hX5
          go_wp2_with (with_reducible refine zAppend _ _ _ rfl ?_)
          refine Lib.hid ?_
          refine wpList_append_lies _ rfl _ _ 22 rfl V.heap.size 32 i0 _ 8 80 Try.underlying22 hi0 hz0 hz1 hz2 rfl (by omega) _ _ _ rfl (how5.out.alloc _) _ 1 1 (rcL r) rfl rfl (World.news_of_block (heap_alloc_new _ _)) (by simp [Value.oneCell']) (by omega) (by unfold maxLen; omega) (by omega) (by have := hB5.out.size; simp; omega) (w5.heap.size + 1) (by simp) ?_
          intro g2 cap3 w6 hown6 hgrow6 hat6 hlt6
          have hb6 : Below V.heap.size V w6 := below_grow (hB5.out.alloc hB5.out.size _) hgrow6 (by have := hB5.out.size; simp; omega) (fun k hk => ownFar how5.out k hk)
          have hfin : Hid (∃ K : List Rc, K.length = m + 1 + 1 ∧ K ++ restF true x (rs.drop (a + 1)) = R ∧ w6.ownsRow V.heap.size 32 8 (.slice (some ⟨g2, 0, none⟩) (m + 1 + 1) cap3) (m + 1 + 1) (rcRows K) ∧ Below V.heap.size V w6) := Lib.hid ⟨K ++ [x] ++ [r], by simp [hKl], hK1.out, by
            rw [show rcRows (K ++ [x] ++ [r]) = rcRows K ++ rcL x ++ rcL r from by simp [rcRows]]
            exact hown6, hb6⟩
          clear hown6 hgrow6 hat6 hb6 how5 hB5 x0 x1 x2 x3 x4 x5 x6 x7 hK1
          go_wp2_with fail
          go_roundg (gk - 1)
          case measure => omega
          case rel => exact ⟨a + 1, m + 1 + 1, cap3, some ⟨g2, 0, none⟩, true, by omega, by omega, by go_num, rfl, rfl, (by show m + 1 + 1 ≤ a + 1 + 1; omega), hfin⟩
        · have hK1 := Lib.hid (show (K ++ [r]) ++ insF x (rs.drop (a + 1)) = R by rw [← hKt, show restF false x (rs.drop a) = insF x (rs.drop a) from rfl, hat1, if_neg hlt2]; simp)
          have hln := less_no hlt2
          clear hKt hat1 hdr hlt2
          rcases hln with ⟨hgt, hge⟩ | ⟨hgt, hge⟩
          · go_upto_region 6 with fail
            rw [← show W1 = _ from hW1.out, hxb.out]
            clear hW1 hxb c0 c1 c2 c3 c4 c5 c6 c7
            go_wp2_with (with_reducible refine zAppend _ _ _ rfl ?_)
            refine Lib.hid ?_
            refine wpList_append_lies _ rfl _ _ 22 rfl V.heap.size 32 i0 _ 8 80 Try.underlying22 hi0 hz0 hz1 hz2 rfl (by omega) _ _ _ rfl (how1.out.alloc _) _ 1 1 (rcL r) rfl rfl (World.news_of_block (heap_alloc_new _ _)) (by simp [Value.oneCell']) (by omega) (by unfold maxLen; omega) (by omega) (by have := hB1.out.size; simp; omega) (W1.heap.size + 1) (by simp) ?_
            intro gg cap2 w5 hown5 hgrow5 hat5 hlt5
            have hb5 : Below V.heap.size V w5 := below_grow (hB1.out.alloc hB1.out.size _) hgrow5 (by have := hB1.out.size; simp; omega) (fun k hk => ownFar how1.out k hk)
            have hfin : Hid (∃ K : List Rc, K.length = m + 1 ∧ K ++ restF false x (rs.drop (a + 1)) = R ∧ w5.ownsRow V.heap.size 32 8 (.slice (some ⟨gg, 0, none⟩) (m + 1) cap2) (m + 1) (rcRows K) ∧ Below V.heap.size V w5) := Lib.hid ⟨K ++ [r], by simp [hKl], hK1.out, by
              rw [show rcRows (K ++ [r]) = rcRows K ++ rcL r from by simp [rcRows]]
              exact hown5, hb5⟩
            clear hown5 hgrow5 hat5 hb5 how1 hB1 x0 x1 x2 x3 x4 x5 x6 x7 hK1
            go_wp2_with fail
            go_roundg (gk - 1)
            case measure => omega
            case rel => exact ⟨a + 1, m + 1, cap2, some ⟨gg, 0, none⟩, false, by omega, by omega, by go_num, rfl, rfl, (by show m + 1 ≤ a + 1 + 0; omega), hfin⟩
          · go_upto_region 6 with fail
            rw [← show W1 = _ from hW1.out, hxb.out]
            clear hW1 hxb c0 c1 c2 c3 c4 c5 c6 c7
            go_wp2_with (with_reducible refine zAppend _ _ _ rfl ?_)
            refine Lib.hid ?_
            refine wpList_append_lies _ rfl _ _ 22 rfl V.heap.size 32 i0 _ 8 80 Try.underlying22 hi0 hz0 hz1 hz2 rfl (by omega) _ _ _ rfl (how1.out.alloc _) _ 1 1 (rcL r) rfl rfl (World.news_of_block (heap_alloc_new _ _)) (by simp [Value.oneCell']) (by omega) (by unfold maxLen; omega) (by omega) (by have := hB1.out.size; simp; omega) (W1.heap.size + 1) (by simp) ?_
            intro gg cap2 w5 hown5 hgrow5 hat5 hlt5
            have hb5 : Below V.heap.size V w5 := below_grow (hB1.out.alloc hB1.out.size _) hgrow5 (by have := hB1.out.size; simp; omega) (fun k hk => ownFar how1.out k hk)
            have hfin : Hid (∃ K : List Rc, K.length = m + 1 ∧ K ++ restF false x (rs.drop (a + 1)) = R ∧ w5.ownsRow V.heap.size 32 8 (.slice (some ⟨gg, 0, none⟩) (m + 1) cap2) (m + 1) (rcRows K) ∧ Below V.heap.size V w5) := Lib.hid ⟨K ++ [r], by simp [hKl], hK1.out, by
              rw [show rcRows (K ++ [r]) = rcRows K ++ rcL r from by simp [rcRows]]
              exact hown5, hb5⟩
            clear hown5 hgrow5 hat5 hb5 how1 hB1 x0 x1 x2 x3 x4 x5 x6 x7 hK1
            go_wp2_with fail
            go_roundg (gk - 1)
            case measure => omega
            case rel => exact ⟨a + 1, m + 1, cap2, some ⟨gg, 0, none⟩, false, by omega, by omega, by go_num, rfl, rfl, (by show m + 1 ≤ a + 1 + 0; omega), hfin⟩
    · obtain rfl : a = N := by omega
      rw [hall.out] at hKt
      cases dn with
      | true =>
        have hfin : Hid (R.length = m ∧ RcAt wo A R ∧ Below w.heap.size w wo) := Lib.hid (by
          have e : K ++ [] = R := hKt
          rw [List.append_nil] at e
          rw [← e]
          exact ⟨hKl, rcAt_own how hKl, grew hb0.out hbl⟩)
        clear how hbl hKl hKt hX0
        go_wp2_with fail
        go_ret
        exact ⟨A, cc, by rw [hfin.out.1]; rfl, hfin.out.2⟩
      | false =>
        have hma0 : m ≤ a + 0 := hma
        have hKe := Lib.hid (show K ++ [x] = R from hKt)
        have hX2 := hX0.out.below hbl hX0.out.lt
        obtain ⟨y0, y1, y2, y3, y4, y5, y6, y7⟩ := recCells hX2
        have how1 := Lib.hid how
        have hB1 := Lib.hid hbl
        clear how hbl hKt hX2
        go_wp2_with (with_reducible refine zAppend _ _ _ rfl ?_)
        refine Lib.hid ?_
        refine wpList_append_lies _ rfl _ _ 22 rfl V.heap.size 32 i0 _ 8 80 Try.underlying22 hi0 hz0 hz1 hz2 rfl (by omega) _ _ _ rfl (how1.out.alloc _) _ 1 1 (rcL x) rfl rfl (World.news_of_block (heap_alloc_new _ _)) (by simp [Value.oneCell']) (by omega) (by unfold maxLen; omega) (by omega) (by have := hB1.out.size; simp; omega) (wo.heap.size + 1) (by simp) ?_
        intro gg cap2 w5 hown5 hgrow5 hat5 hlt5
        have hb5 : Below V.heap.size V w5 := below_grow (hB1.out.alloc hB1.out.size _) hgrow5 (by have := hB1.out.size; simp; omega) (fun k hk => ownFar how1.out k hk)
        have hfin : Hid (R.length = m + 1 ∧ RcAt w5 (some ⟨gg, 0, none⟩) R ∧ Below w.heap.size w w5) := Lib.hid (by
          rw [← hKe.out]
          have hl : (K ++ [x]).length = m + 1 := by rw [List.length_append, hKl]; rfl
          refine ⟨hl, rcAt_own (va := some ⟨gg, 0, none⟩) (n := m + 1) (c := cap2) (B := V.heap.size) ?_ hl, grew hb0.out hb5⟩
          rw [show rcRows (K ++ [x]) = rcRows K ++ rcL x from by simp [rcRows]]
          exact hown5)
        clear hown5 hgrow5 hat5 hb5 how1 hB1 y0 y1 y2 y3 y4 y5 y6 y7
        go_wp2_with fail
        go_ret
        exact ⟨_, _, by rw [hfin.out.1]; rfl, hfin.out.2⟩
end Go.Proofs.Ytpfnpfbimadjkaa.W
