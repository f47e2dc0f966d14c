/- Package batch's Records. -/
import Derived.Test.YtbbeapglkdkajaaBtC
namespace Go.Proofs.Ytbbeapglkdkajaa.W
open Go.RowKit Go.Sort
open Go.Proofs.Ytbbeapglkdkajaa.M Go.Proofs.Ytbbeapglkdkajaa.D Go.Proofs.Ytbbeapglkdkajaa.Z
set_option linter.unusedVariables false
set_option linter.unusedSimpArgs false

/-- The records of a batch (17.2). -/
def recsF (h : Rc) (ps : List Pr) : List Rc := ps.mapIdx (behF h)
theorem recsF_len (h : Rc) (ps : List Pr) : (recsF h ps).length = ps.length := by unfold recsF; simp
theorem recsF_at (h : Rc) (ps : List Pr) (k : Nat) : (recsF h ps)[k]? = (ps[k]?).map (behF h k) := by unfold recsF; rw [List.getElem?_mapIdx]
theorem recsF_take {h : Rc} {ps : List Pr} {k : Nat} {p : Pr} (hp : ps[k]? = some p) : (recsF h ps).take (k + 1) = (recsF h ps).take k ++ [behF h k p] := by
  rw [List.take_add_one, recsF_at, hp]
  rfl
set_option maxRecDepth 100000 in
set_option maxHeartbeats 4000000 in
theorem records_no (hd : Rc) (va : Option Addr) (c : Nat) (ps : List Pr) (w : World) (h : PrAt w va ps) (hn : ps.length ≤ 1000) (x : Int) (hx : rightF ps = x) (hx0 : x = 1 ∨ x = 2) :
    Calls Try.prog 15 #[.agg #[.int .i64 hd.off, .int .i64 hd.tick, .string hd.key, .string hd.val, .bool hd.gone, .int .i64 hd.prod, .int .i64 hd.seq, .int .i64 hd.frm], .slice va ps.length c] w fun e w' => e = .returned (.tuple #[.slice none 0 0, .int .i64 x]) ∧ Below w.heap.size w w' := by
  obtain ⟨V, hV⟩ : ∃ V, Hid (V = w.alloc (.cells #[.int .i64 hd.off, .int .i64 hd.tick, .string hd.key, .string hd.val, .bool hd.gone, .int .i64 hd.prod, .int .i64 hd.seq, .int .i64 hd.frm] 33)) := ⟨_, Lib.hid rfl⟩
  have hb0 : Below w.heap.size w V := by rw [hV.out]; exact grewAlloc (Below.refl _ _) _
  have hr := Lib.hid (right_any va c ps V (h.below hb0) hn)
  rw [hx] at hr
  obtain ⟨N, hN⟩ : ∃ N, Hid (ps.length = N) := ⟨_, Lib.hid rfl⟩
  rw [hN.out] at hr ⊢
  replace hb0 := Lib.hid hb0
  clear h hx
  rcases hx0 with rfl | rfl
  all_goals
    go_enter Try.func15, Try.ntmps15
    go_upto_region 1 with fail
    rw [← show V = _ from hV.out]
    clear hV
    go_wp2_with fail
    refine hr.out.mono ?_
    rintro e w1 ⟨rfl, hb⟩
    have hB := Lib.hid (grew hb0.out hb)
    clear hb0 hb hr
    go_wp2_with fail
    go_ret2
    exact ⟨rfl, hB.out⟩
set_option maxRecDepth 100000 in
set_option maxHeartbeats 4000000 in
theorem records_by (hd : Rc) (va : Option Addr) (c : Nat) (ps : List Pr) (w : World) (h : PrAt w va ps) (hn : ps.length ≤ 1000) (hx : rightF ps = 0) (B : Bool) (hB : (recsF hd ps).all Rc.may = B) :
    Calls Try.prog 15 #[.agg #[.int .i64 hd.off, .int .i64 hd.tick, .string hd.key, .string hd.val, .bool hd.gone, .int .i64 hd.prod, .int .i64 hd.seq, .int .i64 hd.frm], .slice va ps.length c] w fun e w' => ∃ q, e = .returned (if B then .tuple #[.slice (some ⟨q, 0, none⟩) ps.length ps.length, .int .i64 0] else .tuple #[.slice none 0 0, .int .i64 20]) ∧ RcAt w' (some ⟨q, 0, none⟩) (recsF hd ps) ∧ Below w.heap.size w w' ∧ w.heap.size ≤ q := by
  obtain ⟨V, hV⟩ : ∃ V, Hid (V = w.alloc (.cells #[.int .i64 hd.off, .int .i64 hd.tick, .string hd.key, .string hd.val, .bool hd.gone, .int .i64 hd.prod, .int .i64 hd.seq, .int .i64 hd.frm] 33)) := ⟨_, Lib.hid rfl⟩
  have hb0 : Below w.heap.size w V := by rw [hV.out]; exact grewAlloc (Below.refl _ _) _
  have hH0 : Whole V w.heap.size 33 (rcL hd) := by rw [hV.out]; exact Whole.new w _ _
  have hr := Lib.hid (right_any va c ps V (h.below hb0) hn)
  rw [hx] at hr
  obtain ⟨hb, hhb⟩ : ∃ hb, Hid (w.heap.size = hb) := ⟨_, Lib.hid rfl⟩
  rw [hhb.out] at hH0
  obtain ⟨i0, hi0, hz0, hz1, hz2⟩ := info_parts infoRd
  obtain ⟨cs, hcs, hmk⟩ := run_makeB (P := Try.prog) 30 33 i0 _ Try.underlying30 hi0 hz0 ps.length 8 80 hz1 hz2 (by omega) (by omega) w
  obtain ⟨N, hN⟩ : ∃ N, Hid (ps.length = N) := ⟨_, Lib.hid rfl⟩
  have hal : ∀ W, ∀ A c, RcAt W A (recsF hd ps) → Calls Try.prog 33 #[.slice A (recsF hd ps).length c, .func (.func 34) #[] #[]] W fun e w' => e = .returned (.bool ((recsF hd ps).all Rc.may)) ∧ Below W.heap.size W w' := fun W A c hW => qall_any Rc.may 34 (fun _ _ => by kernel_rfl) (fun p W => may_any p.off p.tick p.key p.val p.gone p.prod p.seq p.frm W) A c (recsF hd ps) W hW (by rw [recsF_len]; omega)
  rw [recsF_len, hB] at hal
  obtain ⟨F, hF⟩ : ∃ F, Hid (recsF hd ps = F) := ⟨_, Lib.hid rfl⟩
  have hstep : Hid (∀ k p, ps[k]? = some p → rcRows (F.take (k + 1)) = rcRows (F.take k) ++ rcL (behF hd k p)) := Lib.hid (fun k p hp => by
    rw [← hF.out, recsF_take hp, rcRows_append]
    simp [rcRows])
  have hFl : F.length = N := by rw [← hF.out, recsF_len, hN.out]
  rw [hF.out] at hal ⊢
  rw [hN.out] at hr hcs hmk hn hal ⊢
  replace hb0 := Lib.hid hb0
  replace hH0 := Lib.hid hH0
  replace h := Lib.hid h
  replace hal := Lib.hid hal
  have hbe := Lib.hid (fun (a : Nat) (p : Pr) W => behind17_any hd a p W)
  clear hi0 hz0 hz1 hz2 hx hB
  go_enter Try.func15, Try.ntmps15
  go_upto_region 1 with fail
  rw [← show V = _ from hV.out, hhb.out]
  clear hV
  go_wp2_with fail
  refine hr.out.mono ?_
  rintro e w1 ⟨rfl, hb1⟩
  have hH1 := hH0.out.below hb1 hH0.out.lt
  have hB1 := grew hb0.out hb1
  obtain ⟨V2, hV2⟩ : ∃ V, Hid (V = w1.alloc (.cells cs 33)) := ⟨_, Lib.hid rfl⟩
  have hX : MadeRow V2 w1.heap.size 33 8 N 0 (rcRows (F.take 0)) := ⟨cs.toList, by rw [hV2.out]; have := Whole.new w1 33 cs.toList; simpa using this, by simpa using hcs, by simp [rcRows]⟩
  have hH2 : Whole V2 hb 33 (rcL hd) := by rw [hV2.out]; exact hH1.alloc _
  have hB2 : Below w.heap.size w V2 := by rw [hV2.out]; exact grewAlloc hB1 _
  have hqh : hb ≠ w1.heap.size := by have := hH1.lt; omega
  have hqw : w.heap.size ≤ w1.heap.size := hB1.size
  obtain ⟨q, hq⟩ : ∃ q, Hid (w1.heap.size = q) := ⟨_, Lib.hid rfl⟩
  rw [hq.out] at hX hqh hqw
  have hS := Lib.hid (And.intro hX (And.intro hH2 hB2))
  clear hX hH2 hB2 hH1 hB1 hb0 hH0 hb1 hr hhb
  go_upto_region 5 with fail
  rw [← show V2 = _ from hV2.out, hq.out]
  clear hV2 hmk hq
  go_wp2_with fail
  go_loopg [20] N (fun ga i wr => ∃ k : Nat, k ≤ N ∧ N ≤ k + ga ∧ i = .int .i64 k ∧ Hid (MadeRow wr q 33 8 N k (rcRows (F.take k)) ∧ Whole wr hb 33 (rcL hd) ∧ Below w.heap.size w wr))
  case atStart => exact ⟨0, by omega, by omega, rfl, hS⟩
  case round =>
    clear hS
    obtain ⟨k, hk, hg, rfl, hrel⟩ := hrel
    generalize wr = wo at *
    by_cases hlt : k < N
    · obtain ⟨p, hp⟩ : ∃ p, ps[k]? = some p := ⟨_, List.getElem?_eq_getElem (by have := hN.out; omega)⟩
      obtain ⟨b, o, rfl, c0, c1, c2⟩ := (h.out.below hrel.out.2.2).get hp
      have hst := Lib.hid (hstep.out k p hp)
      obtain ⟨W1, hW1⟩ : ∃ W1, Hid (W1 = wo.alloc (.cells #[.string p.key, .string p.val, .bool p.gone] 26)) := ⟨_, Lib.hid rfl⟩
      have hb1 : Below wo.heap.size wo W1 := by rw [hW1.out]; exact grewAlloc (Below.refl _ _) _
      have hX1 : Whole W1 wo.heap.size 26 (prL p) := by rw [hW1.out]; exact Whole.new wo _ _
      obtain ⟨xb, hxb⟩ : ∃ xb, Hid (wo.heap.size = xb) := ⟨_, Lib.hid rfl⟩
      rw [hxb.out] at hX1
      obtain ⟨x0, x1, x2⟩ := prCells hX1
      have hH1 := hrel.out.2.1.below hb1 hrel.out.2.1.lt
      obtain ⟨y0, y1, y2, y3, y4, y5, y6, y7⟩ := recCells hH1
      have hM1 := Lib.hid (hrel.out.1.below hb1)
      have hB1 := Lib.hid (grew hrel.out.2.2 hb1)
      have hki : (k : Int) < (N : Int) := by omega
      have hbk := Lib.hid (hbe.out k p W1)
      replace hH1 := Lib.hid hH1
      replace hp := Lib.hid hp
      clear hrel hb1 hX1
      go_upto_region 8 with fail
      rw [← show W1 = _ from hW1.out, hxb.out]
      clear hW1 hxb
      go_wp2_with fail
      refine hbk.out.mono ?_
      rintro e w2 ⟨rfl, hb2⟩
      obtain ⟨R, hR⟩ : ∃ R, Hid (behF hd k p = R) := ⟨_, Lib.hid rfl⟩
      rw [hR.out] at hst ⊢
      have hH3 := Lib.hid (hH1.out.below hb2 hH1.out.lt)
      have hM3 := Lib.hid (hM1.out.below hb2)
      have hB3 := Lib.hid (grew hB1.out hb2)
      clear hbk hH1 hM1 hB1 hb2 x0 x1 x2 y0 y1 y2 y3 y4 y5 y6 y7 c0 c1 c2
      go_wp2_with (with_reducible refine zStore _ _ _ rfl ?_)
      refine Lib.hid ?_
      refine wpList_store_mid rfl 33 _ _ rfl q (k * 8) #[.int .i64 R.off, .int .i64 R.tick, .string R.key, .string R.val, .bool R.gone, .int .i64 R.prod, .int .i64 R.seq, .int .i64 R.frm] (by first | rfl | simp) rfl (hM3.out.there hlt _ rfl) sizeRd (by simp [Value.oneCell']) ?_
      have hfin := Lib.hid (And.intro (hM3.out.put (vs := rcL R) rfl hlt) (And.intro (hH3.out.far hqh (k * 8) (rcL R)) (Z.below_store hB3.out (c := q) hqw (Nat.le_refl _) (k * 8) (rcL R))))
      rw [← hst.out] at hfin
      clear hH3 hM3 hB3 hst
      go_wp2_with fail
      go_roundg (gk - 1)
      case measure => omega
      case rel => exact ⟨k + 1, by omega, by omega, by go_num, hfin⟩
    · obtain rfl : k = N := by omega
      obtain ⟨h1, h2, h3⟩ := hrel.out
      rw [List.take_of_length_le (by omega)] at h1
      have hat := rcAt_own (h1.own (B := 0) (Nat.zero_le _) (by omega)) hFl
      have hcall := Lib.hid (hal.out wo _ k hat)
      replace hat := Lib.hid hat
      replace h3 := Lib.hid h3
      clear hrel h1 h2 hal
      cases B
      all_goals
        go_wp2_with fail
        refine hcall.out.mono ?_
        rintro e w2 ⟨rfl, hb2⟩
        have hfin := Lib.hid (And.intro (hat.out.below hb2) (And.intro (grew h3.out hb2) hqw))
        clear hat h3 hb2 hcall
        go_wp2_with fail
        go_ret2
        first
          | exact ⟨q, rfl, hfin.out⟩
          | exact ⟨rfl, q, hfin.out⟩
theorem RcAt.far {W W' : World} {q hb : Nat} {rs : List Rc} (h : RcAt W (some ⟨q, 0, none⟩) rs) (hk : Kept (fun k => k = hb) W W') (hne : q ≠ hb) : RcAt W' (some ⟨q, 0, none⟩) rs := fun i r hi => by
  obtain ⟨b, o, e, h2, h3⟩ := h i r hi
  cases e
  exact ⟨q, 0, rfl, Nat.lt_of_lt_of_le h2 hk.size, fun j v hj => (World.cell?_of_block (hk.block q h2 hne)).trans (h3 j v hj)⟩
end Go.Proofs.Ytbbeapglkdkajaa.W
