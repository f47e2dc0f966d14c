/- Layer 19's definition: Trim, Bytes, Fetch. -/
import Derived.Test.YtahljbjgenepaaaPtS
namespace Go.Proofs.Ytahljbjgenepaaa.W
open Go.RowKit Go.Sort
open Go.Proofs.Ytahljbjgenepaaa.M Go.Proofs.Ytahljbjgenepaaa.D Go.Proofs.Ytahljbjgenepaaa.Z
set_option linter.unusedVariables false
set_option linter.unusedSimpArgs false

/-- The records from an offset on. -/
def geL (n : Int) (rs : List Rc) : List Rc := rs.filter (fun r => decide (n ≤ r.off))
theorem geL_take {n : Int} {rs : List Rc} {k : Nat} {r : Rc} (h : rs[k]? = some r) : geL n (rs.take (k + 1)) = geL n (rs.take k) ++ (if n ≤ r.off then [r] else []) := by
  unfold geL
  rw [List.take_add_one, h, List.filter_append]
  congr 1
  by_cases e : n ≤ r.off <;> simp [e]
theorem geL_all {n : Int} : ∀ {rs : List Rc}, (∀ r ∈ rs, n ≤ r.off) → geL n rs = rs := fun h => List.filter_eq_self.2 fun r hr => decide_eq_true (h r hr)
theorem geL_drop (n : Int) : ∀ rs : List Rc, risL rs → geL n rs = rs.drop (cutN n rs) := by
  intro rs
  induction rs with
  | nil => intro _; rfl
  | cons r t ih =>
    intro h
    unfold cutN
    rw [List.takeWhile_cons]
    by_cases e : r.off < n
    · have e2 : geL n (r :: t) = geL n t := by unfold geL; rw [List.filter_cons, if_neg (by simp; omega)]
      rw [e2, ih h.2]
      simp only [e, decide_true, if_true, List.length_cons, List.drop_succ_cons]
      rfl
    · simp only [e, decide_false, Bool.false_eq_true, if_false, List.length_nil, List.drop_zero]
      exact geL_all (fun x hx => by
        rcases List.mem_cons.1 hx with rfl | hx
        · omega
        · have := h.1 x hx; omega)
theorem own_nilP {W : World} {B : Nat} {e : TypeId} {sz : Nat} : W.ownsRow B e sz (.slice none 0 0) 0 [] := ⟨by simp, .inl ⟨rfl, rfl⟩⟩
set_option maxRecDepth 100000 in
set_option maxHeartbeats 4000000 in
theorem rtrim_any (vr : Option Addr) (cr : Nat) (d : Pd) (n : Int) (w : World) (h : RcAt w vr d.rs) (hn : d.rs.length ≤ 90000) (hr : risL d.rs) :
    Calls Try.prog 32 #[.agg #[.slice vr d.rs.length cr, .int .i64 d.st, .int .i64 d.nx, .int .i64 d.sn], .int .i64 n] w (DidPost w vr d.rs none [] (d.trim n).2 (d.trim n).1) := by
  obtain ⟨V, hV, hb0, hP, hR⟩ := did_boxes w vr d.rs.length cr d.st d.nx d.sn
  have hlo : w.heap.size ≤ w.heap.size + 1 := by omega
  obtain ⟨q, hq⟩ : ∃ q, Hid (w.heap.size = q) := ⟨_, Lib.hid rfl⟩
  rw [hq.out] at hP hR
  have hlo : w.heap.size ≤ q + 1 := by rw [← hq.out]; exact hlo
  obtain ⟨p0, p1, p2, p3⟩ := cells4 hP
  obtain ⟨r0, r1, r2, r3, r4⟩ := cells5 hR
  obtain ⟨z0, z1, z2, z3, z4⟩ := frozen5 hR
  obtain ⟨N, hN⟩ : ∃ N, Hid (d.rs.length = N) := ⟨_, Lib.hid rfl⟩
  rw [hN.out] at p0 hP ⊢
  have hVN : Hid (V = (w.alloc (.cells #[.slice vr N cr, .int .i64 d.st, .int .i64 d.nx, .int .i64 d.sn] 29)).alloc (.cells #[.slice none 0 0, .int .i64 0, .int .i64 0, .int .i64 0, .int .i64 0] 36)) := Lib.hid (by rw [hV.out, hN.out])
  clear hV
  rw [hN.out] at hn
  unfold Pd.trim
  by_cases h1 : n < d.st ∨ d.nx < n
  · rw [if_pos h1]
    replace hR := Lib.hid hR
    clear hP
    rcases (show n < d.st ∨ (d.st ≤ n ∧ d.nx < n) by omega) with k1 | ⟨k1, k2⟩
    all_goals
      clear h1
      go_enter Try.func32, Try.ntmps32
      go_upto_region 1 with fail
      rw [← show V = _ from hVN.out, hq.out]
      clear hVN
      obtain ⟨f1, f2⟩ := did_laid (v0 := .slice vr N cr) (v1 := .int .i64 d.st) (v2 := .int .i64 d.nx) (v3 := .int .i64 d.sn) (v4 := .int .i64 34) hR.out hb0 hlo
      obtain ⟨e0, e1, e2, e3, e4⟩ := cells5 f1
      simp only [World.setCells, Nat.zero_add, Nat.reduceAdd] at e0 e1 e2 e3 e4
      have hfin : Hid (RcAt (V.setCells (q + 1) 0 [.slice vr N cr, .int .i64 d.st, .int .i64 d.nx, .int .i64 d.sn, .int .i64 34]) vr d.rs ∧ Below w.heap.size w (V.setCells (q + 1) 0 [.slice vr N cr, .int .i64 d.st, .int .i64 d.nx, .int .i64 d.sn, .int .i64 34])) := Lib.hid ⟨h.below f2, f2⟩
      simp only [World.setCells, Nat.zero_add, Nat.reduceAdd] at hfin
      clear f1 f2
      clear h hb0
      go_wp2_with fail
      exact bodyPost_ret (v := .agg #[.slice vr N cr, .int .i64 d.st, .int .i64 d.nx, .int .i64 d.sn, .int .i64 34]) (by simp [results, Try.results32, go_sem, e0, e1, e2, e3, e4]) rfl ⟨vr, cr, by rw [← hN.out], hfin.out.1, fun hne q h => .inl ⟨h, hne⟩, hfin.out.2⟩
  · rw [if_neg h1]
    have k1 : d.st ≤ n := by omega
    have k2 : n ≤ d.nx := by omega
    have hge := geL_drop n d.rs hr
    rw [← hge]
    have hall := Lib.hid (show d.rs.take N = d.rs from by rw [← hN.out, List.take_length])
    have hmx : ∀ w : World, (Builtin.max_ #[3, 3] 3 #[.int .i64 d.sn, .int .i64 n]).run Try.prog w = .ok (.int .i64 (max d.sn n)) w := fun w => by
      have := run_max_int2 (P := Try.prog) (w := w) #[3, 3] 3 .i64 .i64 d.sn n
      rwa [show (if n > d.sn then n else d.sn) = max d.sn n by split <;> omega] at this
    obtain ⟨mx, hmxx⟩ : ∃ x, Hid (max d.sn n = x) := ⟨_, Lib.hid rfl⟩
    rw [hmxx.out] at hmx ⊢
    obtain ⟨i0, hi0, hz0, hz1, hz2⟩ := info_parts infoRp
    obtain ⟨rs, hrs⟩ : ∃ rs, Hid (d.rs = rs) := ⟨_, Lib.hid rfl⟩
    rw [hrs.out] at h hall hN ⊢
    have hat := Lib.hid (h.below hb0)
    have hqV : Hid (q + 1 < V.heap.size) := Lib.hid hR.lt
    replace hR := Lib.hid hR
    replace hP := Lib.hid hP
    replace hb0 := Lib.hid hb0
    clear h1 hge hr r0 r1 r2 r3 r4 z0 z1 z2 z3 z4 h
    go_enter Try.func32, Try.ntmps32
    go_upto_region 1 with fail
    rw [← show V = _ from hVN.out, hq.out]
    clear hVN
    go_wp2_with fail
    go_loopg [5, 23] N (fun ga v i wr => ∃ (k a cc : Nat) (A : Option Addr), k ≤ N ∧ N ≤ k + ga ∧ i = .int .i64 (k : Int) ∧ v = .slice A a cc ∧ a ≤ k ∧ Hid ((geL n (rs.take k)).length = a ∧ wr.ownsRow V.heap.size 40 8 (.slice A a cc) a (rcRows (geL n (rs.take k))) ∧ Below V.heap.size V wr))
    case atStart => exact ⟨0, 0, 0, none, by omega, by omega, rfl, rfl, by omega, Lib.hid ⟨by simp [geL], own_nilP, Below.refl _ _⟩⟩
    case round =>
      obtain ⟨k, a, cc, A, hk, hg, rfl, rfl, hak, hrel⟩ := hrel
      generalize wr = wo at *
      obtain ⟨h1, h2, hbl⟩ := hrel.out
      by_cases hlt : k < N
      · obtain ⟨r, hr⟩ : ∃ r, rs[k]? = some r := ⟨_, List.getElem?_eq_getElem (by have := hN.out; omega)⟩
        obtain ⟨b, o, rfl, c0, c1, c2, c3, c4, c5, c6, c7⟩ := (hat.out.below hbl).get hr
        obtain ⟨W1, hW1⟩ : ∃ W1, Hid (W1 = wo.alloc (.cells #[.int .i64 r.off, .int .i64 r.tick, .string r.key, .string r.val, .bool r.gone, .int .i64 r.prod, .int .i64 r.seq, .int .i64 r.frm] 40)) := ⟨_, Lib.hid rfl⟩
        have hb1 : Below wo.heap.size wo W1 := by rw [hW1.out]; exact grewAlloc (Below.refl _ _) _
        have hX1 : Whole W1 wo.heap.size 40 (rcL r) := by rw [hW1.out]; exact Whole.new wo _ _
        have how1 : Hid (W1.ownsRow V.heap.size 40 8 (.slice A a cc) a (rcRows (geL n (rs.take k)))) := Lib.hid (own_of_kept (own := fun _ => False) h2 (Kept.of_below hb1) (fun _ _ e => e))
        have hK1 := Lib.hid (grew hbl hb1)
        have hBk := geL_take (n := n) hr
        have hki : (k : Int) < (N : Int) := by omega
        obtain ⟨xb, hxb⟩ : ∃ xb, Hid (wo.heap.size = xb) := ⟨_, Lib.hid rfl⟩
        rw [hxb.out] at hX1
        obtain ⟨x0, x1, x2, x3, x4, x5, x6, x7⟩ := recCells hX1
        replace hr := Lib.hid hr
        clear hrel h2 hbl hb1 hX1
        go_upto_region 7 with fail
        rw [← show W1 = _ from hW1.out, hxb.out]
        clear hW1 hxb c0 c1 c2 c3 c4 c5 c6 c7
        by_cases hf : n ≤ r.off
        · rw [if_pos hf] at hBk
          replace hBk := Lib.hid hBk
          go_wp2_with (with_reducible refine zAppend _ _ _ rfl ?_)
          refine Lib.hid ?_
          refine wpList_append_lies _ rfl _ _ 27 rfl V.heap.size 40 i0 _ 8 80 Try.underlying27 hi0 hz0 hz1 hz2 rfl (by omega) _ _ _ rfl (how1.out.alloc _) _ 1 1 (rcL r) rfl rfl (World.news_of_block (heap_alloc_new _ _)) (by simp [Value.oneCell']) (by omega) (by unfold maxLen; omega) (by omega) (by have := hK1.out.size; simp; omega) (W1.heap.size + 1) (by simp) ?_
          intro gg cap2 w5 hown5 hgrow5 hat5 hlt5
          have hk5 : Below V.heap.size V w5 := (((Kept.of_below (own := fun _ => False) hK1.out).alloc _).grown hgrow5 (fun k hk => .inr (ownFar how1.out k hk))).below (Nat.le_refl _) (fun _ e => e.elim)
          have hfin : Hid ((geL n (rs.take (k + 1))).length = a + 1 ∧ w5.ownsRow V.heap.size 40 8 (.slice (some ⟨gg, 0, none⟩) (a + 1) cap2) (a + 1) (rcRows (geL n (rs.take (k + 1)))) ∧ Below V.heap.size V w5) := Lib.hid ⟨by rw [hBk.out, List.length_append, h1]; rfl, by
            rw [hBk.out, rcRows_append, show rcRows [r] = rcL r from by simp [rcRows]]
            exact hown5, hk5⟩
          clear hown5 hgrow5 hat5 hk5 how1 hK1 x0 x1 x2 x3 x4 x5 x6 x7
          go_wp2_with fail
          go_roundg (gk - 1)
          case measure => omega
          case rel => exact ⟨k + 1, a + 1, cap2, some ⟨gg, 0, none⟩, by omega, by omega, by go_num, rfl, by omega, hfin⟩
        · rw [if_neg hf, List.append_nil] at hBk
          have hfin : Hid ((geL n (rs.take (k + 1))).length = a ∧ W1.ownsRow V.heap.size 40 8 (.slice A a cc) a (rcRows (geL n (rs.take (k + 1)))) ∧ Below V.heap.size V W1) := Lib.hid ⟨by rw [hBk, h1], by rw [hBk]; exact how1.out, hK1.out⟩
          have hf2 : r.off < n := by omega
          clear hBk how1 hK1
          go_wp2_with fail
          go_roundg (gk - 1)
          case measure => omega
          case rel => exact ⟨k + 1, a, cc, A, by omega, by omega, by go_num, rfl, by omega, hfin⟩
      · obtain rfl : k = N := by omega
        rw [hall.out] at h1 h2
        obtain ⟨hro, hq2⟩ := RowO.of_own h2 h1
        have hP2 := hP.out.below hbl hP.out.lt
        have hR2 := hR.out.below hbl hR.out.lt
        have hb2 := Lib.hid (hb0.out.trans (hbl.mono hb0.out.size))
        replace hro := Lib.hid hro
        have hq3 : Hid (∀ k, ownB A k → w.heap.size ≤ k) := Lib.hid (fun k hk => Nat.le_trans hb0.out.size (hq2 k hk))
        clear p0 p1 p2 p3 h2 hq2 hbl hrel
        obtain ⟨p0, p1, p2, p3⟩ := cells4 hP2
        obtain ⟨r0, r1, r2, r3, r4⟩ := cells5 hR2
        obtain ⟨z0, z1, z2, z3, z4⟩ := frozen5 hR2
        replace hR2 := Lib.hid hR2
        replace hP2 := Lib.hid hP2
        replace h1 := Lib.hid h1
        obtain ⟨f1, f2⟩ := did_laid (v0 := .slice A a cc) (v1 := .int .i64 n) (v2 := .int .i64 d.nx) (v3 := .int .i64 mx) (v4 := .int .i64 0) hR2.out hb2.out hlo
        obtain ⟨e0, e1, e2, e3, e4⟩ := cells5 f1
        simp only [World.setCells, Nat.zero_add, Nat.reduceAdd] at e0 e1 e2 e3 e4
        have hfin : Hid (RcAt (wo.setCells (q + 1) 0 [.slice A a cc, .int .i64 n, .int .i64 d.nx, .int .i64 mx, .int .i64 0]) A (geL n rs) ∧ Below w.heap.size w (wo.setCells (q + 1) 0 [.slice A a cc, .int .i64 n, .int .i64 d.nx, .int .i64 mx, .int .i64 0])) := Lib.hid ⟨(hro.out.far_did hR2.out 0 _).at_, f2⟩
        simp only [World.setCells, Nat.zero_add, Nat.reduceAdd] at hfin
        clear f1 f2
        go_wp2_with fail
        exact bodyPost_ret (v := .agg #[.slice A a cc, .int .i64 n, .int .i64 d.nx, .int .i64 mx, .int .i64 0]) (by simp [results, Try.results32, go_sem, e0, e1, e2, e3, e4]) rfl ⟨A, cc, by rw [h1.out], hfin.out.1, fun _ k hk => .inr (.inr (hq3.out k hk)), hfin.out.2⟩
set_option maxRecDepth 100000 in
set_option maxHeartbeats 4000000 in
theorem rbytes_any (vr : Option Addr) (cr : Nat) (d : Pd) (w : World) (h : RcAt w vr d.rs) (hn : d.rs.length ≤ 90000) (hok : ∀ r ∈ d.rs, r.ok) :
    Calls Try.prog 35 #[.agg #[.slice vr d.rs.length cr, .int .i64 d.st, .int .i64 d.nx, .int .i64 d.sn]] w fun e w' => e = .returned (.int .i64 ((packL d.rs).length : Int)) ∧ Below w.heap.size w w' := by
  obtain ⟨rs, hrs⟩ : ∃ rs, Hid (d.rs = rs) := ⟨_, Lib.hid rfl⟩
  rw [hrs.out] at h hn hok ⊢
  obtain ⟨N, hN⟩ : ∃ N, Hid (rs.length = N) := ⟨_, Lib.hid rfl⟩
  rw [hN.out] at hn ⊢
  obtain ⟨V, hV⟩ : ∃ V, Hid (V = w.alloc (.cells #[.slice vr N cr, .int .i64 d.st, .int .i64 d.nx, .int .i64 d.sn] 29)) := ⟨_, Lib.hid rfl⟩
  have hb0 : Below w.heap.size w V := by rw [hV.out]; exact grewAlloc (Below.refl _ _) _
  have hP : Whole V w.heap.size 29 [.slice vr N cr, .int .i64 d.st, .int .i64 d.nx, .int .i64 d.sn] := by rw [hV.out]; exact Whole.new w _ _
  obtain ⟨q, hq⟩ : ∃ q, Hid (w.heap.size = q) := ⟨_, Lib.hid rfl⟩
  rw [hq.out] at hP
  have p0 : V.cell? ⟨q, 0, none⟩ = some (.slice vr N cr) := hP.cell 0
  have hat := Lib.hid h
  have he := Lib.hid (fun (r : Rc) (hr : r.ok) W => renc_yes r.off r.tick r.key r.val r.gone r.prod r.seq r.frm W hr)
  have hsum : Hid (∀ (a : Nat) (r : Rc), rs[a]? = some r → r.ok → (packL (rs.take (a + 1))).length = (packL (rs.take a)).length + (recL r).length ∧ (recL r).length ≤ 300) := Lib.hid (fun a r hr hro => by
    have h1 := recL_bounds hro
    obtain ⟨_, _, _, _, _, _, hk, hv, _⟩ := hro
    refine ⟨?_, by omega⟩
    rw [List.take_add_one, hr]
    show (packL (rs.take a ++ [r])).length = _
    rw [packL_snoc, List.length_append])
  have hall := Lib.hid (show rs.take N = rs from by rw [← hN.out, List.take_length])
  replace hok := Lib.hid hok
  replace hb0 := Lib.hid hb0
  clear h hP
  go_enter Try.func35, Try.ntmps35
  go_upto_region 1 with fail
  rw [← show V = _ from hV.out, hq.out]
  clear hV
  go_wp2_with fail
  go_loopg [3, 9] N (fun ga nv i wr => ∃ a s : Nat, a ≤ N ∧ N ≤ a + ga ∧ i = .int .i64 (a : Int) ∧ nv = .int .i64 (s : Int) ∧ s ≤ 300 * a ∧ Hid ((packL (rs.take a)).length = s ∧ Below w.heap.size w wr))
  case atStart => exact ⟨0, 0, by omega, by omega, rfl, rfl, by omega, Lib.hid ⟨by simp [packL], hb0.out⟩⟩
  case round =>
    obtain ⟨a, s, ha, hg, rfl, rfl, hs3, hrel⟩ := hrel
    generalize wr = wo at *
    by_cases hlt : a < N
    · obtain ⟨r, hr⟩ : ∃ r, rs[a]? = some r := ⟨_, List.getElem?_eq_getElem (by have := hN.out; omega)⟩
      obtain ⟨b, o, rfl, c0, c1, c2, c3, c4, c5, c6, c7⟩ := (hat.out.below hrel.out.2).get hr
      have hro := hok.out r (List.mem_of_getElem? hr)
      have her := he.out r hro
      have hsr := hsum.out a r hr hro
      rw [hrel.out.1] at hsr
      obtain ⟨S8, hS8⟩ : ∃ S, Hid (B (recL r) = S) := ⟨_, Lib.hid rfl⟩
      have hz8 : S8.size = (recL r).length := by rw [← hS8.out, B_size]
      rw [show (Rc.mk r.off r.tick r.key r.val r.gone r.prod r.seq r.frm) = r from rfl, hS8.out] at her
      obtain ⟨Z, hZ⟩ : ∃ Z, Hid ((recL r).length = Z) := ⟨_, Lib.hid rfl⟩
      rw [hZ.out] at hsr hz8
      have hw1 : IntKind.i64.wrap ((s : Int) + (S8.size : Int)) = ((s + Z : Nat) : Int) := by rw [IntWalk.i64_in _ (by omega)]; omega
      have hB1 := Lib.hid (grewAlloc hrel.out.2 (.cells #[.int .i64 r.off, .int .i64 r.tick, .string r.key, .string r.val, .bool r.gone, .int .i64 r.prod, .int .i64 r.seq, .int .i64 r.frm] 40))
      have hki : (a : Int) < (N : Int) := by omega
      obtain ⟨e1, e2⟩ := hsr
      have e3 : s + Z ≤ 300 * (a + 1) := by omega
      obtain ⟨T, hT⟩ : ∃ T, Hid (s + Z = T) := ⟨_, Lib.hid rfl⟩
      rw [hT.out] at hw1 e1 e3
      replace e1 := Lib.hid e1
      replace her := Lib.hid her
      replace hr := Lib.hid hr
      replace hz8 := Lib.hid hz8
      clear hrel hro
      go_wp2_with fail
      refine (her.out _).mono ?_
      rintro _ w2 ⟨rfl, hb2⟩
      have hfin := Lib.hid (And.intro e1.out (grew hB1.out hb2))
      clear hb2 hB1 her c0 c1 c2 c3 c4 c5 c6 c7
      go_wp2_with fail
      go_roundg (gk - 1)
      case measure => omega
      case rel => exact ⟨a + 1, T, by omega, by omega, by go_num, (by go_num), e3, hfin⟩
    · obtain rfl : a = N := by omega
      have e1 := hrel.out.1
      rw [hall.out] at e1
      have hfin := Lib.hid hrel.out.2
      replace e1 := Lib.hid e1
      clear hrel
      go_wp2_with fail
      go_ret
      exact ⟨by rw [e1.out]; rfl, hfin.out⟩
end Go.Proofs.Ytahljbjgenepaaa.W
