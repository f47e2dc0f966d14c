/- Layer 21's definition: last, Keep, put, View. -/
import Derived.Test.YtpfnpfbimadjkaaCpB
import Derived.Test.YtpfnpfbimadjkaaOpenRcC
namespace Go.Proofs.Ytpfnpfbimadjkaa.W
open Go.RowKit Go.Sort
open Go.Proofs.Ytpfnpfbimadjkaa.M Go.Proofs.Ytpfnpfbimadjkaa.D Go.Proofs.Ytpfnpfbimadjkaa.Z
set_option linter.unusedVariables false
set_option linter.unusedSimpArgs false

set_option maxRecDepth 100000 in
/-- The records from a place on. -/
theorem from_rc (va : Option Addr) (c k : Nat) (rs : List Rc) (hk : k ≤ rs.length) (hc : rs.length ≤ c) : ∃ (A : Option Addr) (C : Nat), (∀ W, (Instr.slice 22 (.slice va rs.length c) (some (.int .i64 (k : Int))) none none).run Try.prog W = .ok (.slice A (rs.length - k) C) W) ∧ rs.length - k ≤ C ∧ ∀ W, RcAt W va rs → RcAt W A (rs.drop k) := by
  refine ⟨if c = k then va else va.map (·.add (k * 8)), c - k, fun W => ?_, by omega, fun W h i r hi => ?_⟩
  · rw [run_slice_l (P := Try.prog) (w := W) 22 va rs.length c Try.underlying22 .i64 (k : Int) (by omega) (by omega)]
    rw [show Try.prog.elem 22 = 32 from by kernel_rfl, Try.sizeOf32]
    simp [Result.andThen, sliced]
  · rw [List.getElem?_drop] at hi
    obtain ⟨b, o, e, h1, h2⟩ := h (k + i) r hi
    have hil := (List.getElem?_eq_some_iff.1 hi).1
    rw [if_neg (by omega), e]
    refine ⟨b, o + k * 8, by simp [Addr.add], h1, fun j v hj => ?_⟩
    have := h2 j v hj
    rw [show o + k * 8 + i * 8 + j = o + (k + i) * 8 + j from by omega]
    exact this
theorem laterL_at {k : List UInt8} {l : List Rc} {a : Nat} {r : Rc} (h : l[a]? = some r) : laterL k (l.drop a) = (decide (kb r = k) || laterL k (l.drop (a + 1))) := by rw [drop_of h]; rfl
theorem keyEq (x y : Rc) : (x.key.toList == y.key.toList) = decide (kb x = kb y) := by
  unfold kb
  rw [← Lib.toList_data, ← Lib.toList_data, Bool.eq_iff_iff]
  simp
set_option maxRecDepth 100000 in
set_option maxHeartbeats 4000000 in
theorem rlast_any (va : Option Addr) (c : Nat) (rs : List Rc) (i : Nat) (r0 : Rc) (w : World) (h : RcAt w va rs) (hn : rs.length ≤ 1000) (hc : rs.length ≤ c) (hi : rs[i]? = some r0) :
    Calls Try.prog 30 #[.slice va rs.length c, .int .i64 (i : Int)] w fun e w' => e = .returned (.bool (!laterL (kb r0) (rs.drop (i + 1)))) ∧ Below w.heap.size w w' := by
  have hil := (List.getElem?_eq_some_iff.1 hi).1
  obtain ⟨A2, C2, hsl, _, hat⟩ := from_rc va c (i + 1) rs (by omega) hc
  have h2 := hat w h
  obtain ⟨T, hT⟩ : ∃ T, Hid (rs.drop (i + 1) = T) := ⟨_, Lib.hid rfl⟩
  have hTl : Hid (T.length = rs.length - (i + 1)) := Lib.hid (by rw [← hT.out, List.length_drop])
  rw [hT.out] at h2 ⊢
  obtain ⟨L, hL⟩ : ∃ L, Hid (rs.length - (i + 1) = L) := ⟨_, Lib.hid rfl⟩
  rw [hL.out] at hsl hTl
  obtain ⟨N, hN⟩ : ∃ N, Hid (rs.length = N) := ⟨_, Lib.hid rfl⟩
  rw [hN.out] at hn hil hsl ⊢
  have hLn : L ≤ 1000 := by have := hL.out; have := hN.out; omega
  obtain ⟨B, hB⟩ : ∃ B, Hid ((!laterL (kb r0) T) = B) := ⟨_, Lib.hid rfl⟩
  rw [hB.out]
  have hyes : Hid (∀ (k : Nat) (r : Rc), T[k]? = some r → laterL (kb r0) T = laterL (kb r0) (T.drop k) → kb r = kb r0 → B = false) := Lib.hid (fun k r hr e1 e2 => by
    rw [← hB.out, e1, laterL_at hr, decide_eq_true e2]; rfl)
  have hno : Hid (∀ (k : Nat) (r : Rc), T[k]? = some r → laterL (kb r0) T = laterL (kb r0) (T.drop k) → kb r ≠ kb r0 → laterL (kb r0) T = laterL (kb r0) (T.drop (k + 1))) := Lib.hid (fun k r hr e1 e2 => by
    rw [e1, laterL_at hr, decide_eq_false e2]; rfl)
  have hend : Hid (laterL (kb r0) T = laterL (kb r0) (T.drop L) → B = true) := Lib.hid (fun e => by
    rw [← hB.out, e, ← hTl.out, List.drop_length]; rfl)
  rw [show ((i + 1 : Nat) : Int) = (i : Int) + 1 from by omega] at hsl
  have hw1 : IntKind.i64.wrap ((i : Int) + 1) = (i : Int) + 1 := by rw [IntWalk.i64_in _ (by omega)]
  have hiN : (i : Int) < (N : Int) := by omega
  have hi0 : (0 : Int) ≤ (i : Int) := by omega
  replace h := Lib.hid h
  replace h2 := Lib.hid h2
  replace hi := Lib.hid hi
  clear hc hat
  go_enter Try.func30, Try.ntmps30
  go_wp2_with fail
  go_loopg [12] L (fun ga ix wr => ∃ k : Nat, k ≤ L ∧ L ≤ k + ga ∧ ix = .int .i64 (k : Int) ∧ Hid (laterL (kb r0) T = laterL (kb r0) (T.drop k) ∧ Below w.heap.size w wr))
  case atStart => exact ⟨0, by omega, by omega, rfl, Lib.hid ⟨rfl, Below.refl _ _⟩⟩
  case round =>
    obtain ⟨k, hk, hg, rfl, hrel⟩ := hrel
    generalize wr = wo at *
    obtain ⟨e1, hb⟩ := hrel.out
    clear hrel
    by_cases hlt : k < L
    · obtain ⟨r, hr⟩ : ∃ r, T[k]? = some r := ⟨_, List.getElem?_eq_getElem (by have := hTl.out; omega)⟩
      obtain ⟨b2, o2, rfl, c0, c1, c2, c3, c4, c5, c6, c7⟩ := (h2.out.below hb).get hr
      obtain ⟨W1, hW1⟩ : ∃ W1, Hid (W1 = wo.alloc (.cells #[.int .i64 r.off, .int .i64 r.tick, .string r.key, .string r.val, .bool r.gone, .int .i64 r.prod, .int .i64 r.seq, .int .i64 r.frm] 32)) := ⟨_, Lib.hid rfl⟩
      have hb1 : Below wo.heap.size wo W1 := by rw [hW1.out]; exact grewAlloc (Below.refl _ _) _
      have hX1 : Whole W1 wo.heap.size 32 (rcL r) := by rw [hW1.out]; exact Whole.new wo _ _
      have hB1 := grew hb hb1
      obtain ⟨b3, o3, rfl, d0, d1, d2, _⟩ := (h.out.below hB1).get hi.out
      obtain ⟨xb, hxb⟩ : ∃ xb, Hid (wo.heap.size = xb) := ⟨_, Lib.hid rfl⟩
      rw [hxb.out] at hX1
      have x2 : W1.cell? ⟨xb, 2, none⟩ = some (.string r.key) := hX1.cell 2
      have hki : (k : Int) < (L : Int) := by omega
      have hD := Lib.hid hB1.drew
      obtain ⟨ky, hky⟩ : ∃ ky, Hid (r.key = ky) := ⟨_, Lib.hid rfl⟩
      obtain ⟨k0, hk0⟩ : ∃ ky, Hid (r0.key = ky) := ⟨_, Lib.hid rfl⟩
      have hke := keyEq r r0
      rw [hky.out, hk0.out] at hke
      rw [hky.out] at x2
      rw [hk0.out] at d2
      have hyes1 := Lib.hid (hyes.out k r hr e1)
      have hno1 := Lib.hid (hno.out k r hr e1)
      replace hr := Lib.hid hr
      clear hb hb1 hX1 hB1 d0 d1
      go_upto_region 4 with fail
      rw [← show W1 = _ from hW1.out, hxb.out]
      clear hW1 hxb c0 c1 c2 c3 c4 c5 c6 c7
      by_cases hq : kb r = kb r0
      · have hbf := hyes1.out hq
        rw [decide_eq_true hq] at hke
        subst hbf
        clear hyes1 hno1 e1 hq hyes hno hend hB
        go_region
        all_goals
          go_wp2_with fail
          go_ret
          exact ⟨rfl, hD.out⟩
      · have hnx := Lib.hid (And.intro (hno1.out hq) hD.out)
        rw [decide_eq_false hq] at hke
        clear hyes1 hno1 e1 hq
        go_region
        all_goals
          go_wp2_with fail
          go_roundg (gk - 1)
          case measure => omega
          case rel => exact ⟨k + 1, by omega, by omega, by go_num, hnx⟩
    · obtain rfl : k = L := by omega
      have hbt := hend.out e1
      subst hbt
      replace hb := Lib.hid hb
      clear e1
      go_wp2_with fail
      go_ret
      exact ⟨rfl, hb.out⟩

set_option maxRecDepth 100000 in
set_option maxHeartbeats 4000000 in
theorem rkeep_any (va : Option Addr) (c : Nat) (rs : List Rc) (dead : Int) (w : World) (h : RcAt w va rs) (hn : rs.length ≤ 1000) (hc : rs.length ≤ c) :
    Calls Try.prog 13 #[.slice va rs.length c, .int .i64 dead] w fun e w' => ∃ A cc, e = .returned (.slice A (keepF dead rs).length cc) ∧ RcAt w' A (keepF dead rs) ∧ Below w.heap.size w w' := by
  have hla := Lib.hid (fun a r W (hW : RcAt W va rs) (hr : rs[a]? = some r) => rlast_any va c rs a r W hW hn hc hr)
  obtain ⟨N, hN⟩ : ∃ N, Hid (rs.length = N) := ⟨_, Lib.hid rfl⟩
  have hall : rs.drop N = [] := by rw [← hN.out, List.drop_length]
  rw [hN.out] at hn hla ⊢
  obtain ⟨i0, hi0, hz0, hz1, hz2⟩ := info_parts infoRk
  replace h := Lib.hid h
  replace hall := Lib.hid hall
  clear hc
  go_enter Try.func13, Try.ntmps13
  go_wp2_with fail
  go_loopg [5, 10] N (fun ga v i wr => ∃ (a n cc : Nat) (A : Option Addr), a ≤ N ∧ N ≤ a + ga ∧ i = .int .i64 (a : Int) ∧ v = .slice A n cc ∧ n ≤ a ∧ Hid (∃ K : List Rc, K.length = n ∧ K ++ keepF dead (rs.drop a) = keepF dead rs ∧ wr.ownsRow w.heap.size 32 8 (.slice A n cc) n (rcRows K) ∧ Below w.heap.size w wr))
  case atStart => exact ⟨0, 0, 0, none, by omega, by omega, rfl, rfl, by omega, Lib.hid ⟨[], rfl, by simp, own_nilK, Below.refl _ _⟩⟩
  case round =>
    obtain ⟨a, n, cc, A, ha, hg, rfl, rfl, hna, hrel⟩ := hrel
    generalize wr = wo at *
    obtain ⟨K, hKl, hK, how, hbl⟩ := hrel.out
    clear hrel
    by_cases hlt : a < N
    · obtain ⟨r, hr⟩ : ∃ r, rs[a]? = some r := ⟨_, List.getElem?_eq_getElem (by have := hN.out; omega)⟩
      have hl1 := fun W hW => hla.out a r W hW hr
      obtain ⟨b, o, e, c0, c1, c2, c3, c4, c5, c6, c7⟩ := (h.out.below hbl).get hr
      obtain ⟨W1, hW1⟩ : ∃ W1, Hid (W1 = wo.alloc (.cells #[.int .i64 r.off, .int .i64 r.tick, .string r.key, .string r.val, .bool r.gone, .int .i64 r.prod, .int .i64 r.seq, .int .i64 r.frm] 32)) := ⟨_, Lib.hid rfl⟩
      have hb2 : Below wo.heap.size wo W1 := by rw [hW1.out]; exact grewAlloc (Below.refl _ _) _
      have hX1 : Whole W1 wo.heap.size 32 (rcL r) := by rw [hW1.out]; exact Whole.new wo _ _
      have how1 := Lib.hid (own_below how hb2)
      have hB1 := Lib.hid (grew hbl hb2)
      have hl2 := hl1 W1 (h.out.below hB1.out)
      have hkf := keepF_at (dead := dead) hr
      have hyes : Hid (keptB dead r (rs.drop (a + 1)) = true → K ++ ([r] ++ keepF dead (rs.drop (a + 1))) = keepF dead rs) := Lib.hid (fun e => by rw [← hK, hkf, if_pos e]; rfl)
      have hno : Hid (keptB dead r (rs.drop (a + 1)) = false → K ++ keepF dead (rs.drop (a + 1)) = keepF dead rs) := Lib.hid (fun e => by rw [← hK, hkf, if_neg (by simp [e])])
      obtain ⟨xb, hxb⟩ : ∃ xb, Hid (wo.heap.size = xb) := ⟨_, Lib.hid rfl⟩
      rw [hxb.out] at hX1
      obtain ⟨x0, x1, x2, x3, x4, x5, x6, x7⟩ := recCells hX1
      replace hX1 := Lib.hid hX1
      have hki : (a : Int) < (N : Int) := by omega
      have hbv : keptB dead r (rs.drop (a + 1)) = (decide (kb r = []) || (!laterL (kb r) (rs.drop (a + 1)) && !(r.gone && decide (r.tick < dead)))) := rfl
      rw [hbv] at hyes hno
      clear how hbl hb2 hkf hK hbv hl1
      subst e
      by_cases hk : kb r = []
      · have hk2 : r.key.toList.isEmpty = true := by rw [kb_nil.1 hk]; rfl
        have hk3 : r.key.toList = [] := kb_nil.1 hk
        replace hyes := Lib.hid (hyes.out (by simp [hk]))
        replace hr := Lib.hid hr
        clear hl2 hno hk
        go_upto_region 5 with fail
        rw [← show W1 = _ from hW1.out, hxb.out]
        clear hW1 hxb c0 c1 c2 c3 c4 c5 c6 c7
        go_wp2_with (with_reducible refine zAppend _ _ _ rfl ?_)
        refine Lib.hid ?_
        refine wpList_append_lies _ rfl _ _ 22 rfl w.heap.size 32 i0 _ 8 80 Try.underlying22 hi0 hz0 hz1 hz2 rfl (by omega) _ _ _ rfl (how1.out.alloc _) _ 1 1 (rcL r) rfl rfl (World.news_of_block (heap_alloc_new _ _)) (by simp [Value.oneCell']) (by omega) (by unfold maxLen; omega) (by omega) (by have := hB1.out.size; simp; omega) (W1.heap.size + 1) (by simp) ?_
        intro gg cap2 w5 hown5 hgrow5 hat5 hlt5
        have hb5 : Below w.heap.size w w5 := below_grow (hB1.out.alloc hB1.out.size _) hgrow5 (by have := hB1.out.size; simp; omega) (fun k hk => ownFar how1.out k hk)
        have hfin : Hid (∃ K : List Rc, K.length = n + 1 ∧ K ++ keepF dead (rs.drop (a + 1)) = keepF dead rs ∧ w5.ownsRow w.heap.size 32 8 (.slice (some ⟨gg, 0, none⟩) (n + 1) cap2) (n + 1) (rcRows K) ∧ Below w.heap.size w w5) := Lib.hid ⟨K ++ [r], by rw [List.length_append, hKl]; rfl, by rw [List.append_assoc]; exact hyes.out, by
          rw [rcRows_append, show rcRows [r] = rcL r from by simp [rcRows]]
          exact hown5, hb5⟩
        clear hown5 hgrow5 hat5 hb5 how1 hB1 x0 x1 x2 x3 x4 x5 x6 x7 hyes
        go_wp2_with fail
        go_roundg (gk - 1)
        case measure => omega
        case rel => exact ⟨a + 1, n + 1, cap2, some ⟨gg, 0, none⟩, by omega, by omega, by go_num, rfl, by omega, hfin⟩
      · have hk2 : r.key.toList.isEmpty = false := by simpa using fun e => hk (kb_nil.2 e)
        have hk3 : ¬ r.key.toList = [] := fun e => hk (kb_nil.2 e)
        cases hl0 : laterL (kb r) (rs.drop (a + 1)) with
        | true =>
          rw [hl0] at hno hl2
          replace hno := Lib.hid (hno.out (by simp [hk]))
          replace hr := Lib.hid hr
          replace hl2 := Lib.hid hl2
          clear hyes hk hl0
          go_upto_region 5 with fail
          rw [← show W1 = _ from hW1.out, hxb.out]
          clear hW1 hxb c0 c1 c2 c3 c4 c5 c6 c7 hX1
          go_wp2_with fail
          refine hl2.out.mono ?_
          rintro _ w2 ⟨rfl, hb3⟩
          have hfin : Hid (∃ K : List Rc, K.length = n ∧ K ++ keepF dead (rs.drop (a + 1)) = keepF dead rs ∧ w2.ownsRow w.heap.size 32 8 (.slice A n cc) n (rcRows K) ∧ Below w.heap.size w w2) := Lib.hid ⟨K, hKl, hno.out, own_below how1.out hb3, grew hB1.out hb3⟩
          clear how1 hB1 hno hb3
          go_wp2_with fail
          go_roundg (gk - 1)
          case measure => omega
          case rel => exact ⟨a + 1, n, cc, A, by omega, by omega, by go_num, rfl, by omega, hfin⟩
        | false =>
          rw [hl0] at hno hyes hl2
          replace hl2 := Lib.hid hl2
          by_cases hde : r.gone = true ∧ r.tick < dead
          · obtain ⟨hd1, hd2⟩ := hde
            replace hno := Lib.hid (hno.out (by simp [hk, hd1, hd2]))
            replace hr := Lib.hid hr
            clear hyes hk hl0
            obtain ⟨fo, ft, fk, fv, fg, fp, fs, ff⟩ := r
            dsimp only at hd1 hd2
            subst hd1
            go_upto_region 5 with fail
            rw [← show W1 = _ from hW1.out, hxb.out]
            clear hW1 hxb c0 c1 c2 c3 c4 c5 c6 c7
            go_wp2_with fail
            refine hl2.out.mono ?_
            rintro _ w2 ⟨rfl, hb3⟩
            have hX2 := hX1.out.below hb3 hX1.out.lt
            have hfin : Hid (∃ K : List Rc, K.length = n ∧ K ++ keepF dead (rs.drop (a + 1)) = keepF dead rs ∧ w2.ownsRow w.heap.size 32 8 (.slice A n cc) n (rcRows K) ∧ Below w.heap.size w w2) := Lib.hid ⟨K, hKl, hno.out, own_below how1.out hb3, grew hB1.out hb3⟩
            clear x0 x1 x2 x3 x4 x5 x6 x7 how1 hB1 hb3 hX1 hno
            obtain ⟨x0, x1, x2, x3, x4, x5, x6, x7⟩ := recCells hX2
            clear hX2
            go_wp2_with fail
            go_roundg (gk - 1)
            case measure => omega
            case rel => exact ⟨a + 1, n, cc, A, by omega, by omega, by go_num, rfl, by omega, hfin⟩
          · have hde2 : r.gone = false ∨ dead ≤ r.tick := by
              cases hgo : r.gone with
              | false => exact .inl rfl
              | true => exact .inr (Int.not_lt.1 fun e => hde ⟨hgo, e⟩)
            replace hyes := Lib.hid (hyes.out (by rcases hde2 with e | e <;> simp [hk, e]))
            replace hr := Lib.hid hr
            clear hno hk hl0 hde
            rcases hde2 with hgo | htk
            · obtain ⟨fo, ft, fk, fv, fg, fp, fs, ff⟩ := r
              dsimp only at hgo
              subst hgo
              go_upto_region 5 with fail
              rw [← show W1 = _ from hW1.out, hxb.out]
              clear hW1 hxb c0 c1 c2 c3 c4 c5 c6 c7
              go_wp2_with fail
              refine hl2.out.mono ?_
              rintro _ w2 ⟨rfl, hb3⟩
              have hX2 := hX1.out.below hb3 hX1.out.lt
              have how2 := Lib.hid (own_below how1.out hb3)
              have hB2 := Lib.hid (grew hB1.out hb3)
              clear x0 x1 x2 x3 x4 x5 x6 x7 how1 hB1 hb3 hX1
              obtain ⟨x0, x1, x2, x3, x4, x5, x6, x7⟩ := recCells hX2
              clear hX2
              go_wp2_with (with_reducible refine zAppend _ _ _ rfl ?_)
              refine Lib.hid ?_
              refine wpList_append_lies _ rfl _ _ 22 rfl w.heap.size 32 i0 _ 8 80 Try.underlying22 hi0 hz0 hz1 hz2 rfl (by omega) _ _ _ rfl (how2.out.alloc _) _ 1 1 (rcL ⟨fo, ft, fk, fv, false, fp, fs, ff⟩) rfl rfl (World.news_of_block (heap_alloc_new _ _)) (by simp [Value.oneCell']) (by omega) (by unfold maxLen; omega) (by omega) (by have := hB2.out.size; simp; omega) (w2.heap.size + 1) (by simp) ?_
              intro gg cap2 w5 hown5 hgrow5 hat5 hlt5
              have hb5 : Below w.heap.size w w5 := below_grow (hB2.out.alloc hB2.out.size _) hgrow5 (by have := hB2.out.size; simp; omega) (fun k hk => ownFar how2.out k hk)
              have hfin : Hid (∃ K : List Rc, K.length = n + 1 ∧ K ++ keepF dead (rs.drop (a + 1)) = keepF dead rs ∧ w5.ownsRow w.heap.size 32 8 (.slice (some ⟨gg, 0, none⟩) (n + 1) cap2) (n + 1) (rcRows K) ∧ Below w.heap.size w w5) := Lib.hid ⟨K ++ [⟨fo, ft, fk, fv, false, fp, fs, ff⟩], by rw [List.length_append, hKl]; rfl, by rw [List.append_assoc]; exact hyes.out, by
                rw [rcRows_append, show rcRows [⟨fo, ft, fk, fv, false, fp, fs, ff⟩] = rcL ⟨fo, ft, fk, fv, false, fp, fs, ff⟩ from by simp [rcRows]]
                exact hown5, hb5⟩
              clear hown5 hgrow5 hat5 hb5 how2 hB2 x0 x1 x2 x3 x4 x5 x6 x7 hyes
              go_wp2_with fail
              go_roundg (gk - 1)
              case measure => omega
              case rel => exact ⟨a + 1, n + 1, cap2, some ⟨gg, 0, none⟩, by omega, by omega, by go_num, rfl, by omega, hfin⟩
            · cases hgo : r.gone with
              | false =>
                obtain ⟨fo, ft, fk, fv, fg, fp, fs, ff⟩ := r
                dsimp only at hgo
                subst hgo
                go_upto_region 5 with fail
                rw [← show W1 = _ from hW1.out, hxb.out]
                clear hW1 hxb c0 c1 c2 c3 c4 c5 c6 c7
                go_wp2_with fail
                refine hl2.out.mono ?_
                rintro _ w2 ⟨rfl, hb3⟩
                have hX2 := hX1.out.below hb3 hX1.out.lt
                have how2 := Lib.hid (own_below how1.out hb3)
                have hB2 := Lib.hid (grew hB1.out hb3)
                clear x0 x1 x2 x3 x4 x5 x6 x7 how1 hB1 hb3 hX1
                obtain ⟨x0, x1, x2, x3, x4, x5, x6, x7⟩ := recCells hX2
                clear hX2
                go_wp2_with (with_reducible refine zAppend _ _ _ rfl ?_)
                refine Lib.hid ?_
                refine wpList_append_lies _ rfl _ _ 22 rfl w.heap.size 32 i0 _ 8 80 Try.underlying22 hi0 hz0 hz1 hz2 rfl (by omega) _ _ _ rfl (how2.out.alloc _) _ 1 1 (rcL ⟨fo, ft, fk, fv, false, fp, fs, ff⟩) rfl rfl (World.news_of_block (heap_alloc_new _ _)) (by simp [Value.oneCell']) (by omega) (by unfold maxLen; omega) (by omega) (by have := hB2.out.size; simp; omega) (w2.heap.size + 1) (by simp) ?_
                intro gg cap2 w5 hown5 hgrow5 hat5 hlt5
                have hb5 : Below w.heap.size w w5 := below_grow (hB2.out.alloc hB2.out.size _) hgrow5 (by have := hB2.out.size; simp; omega) (fun k hk => ownFar how2.out k hk)
                have hfin : Hid (∃ K : List Rc, K.length = n + 1 ∧ K ++ keepF dead (rs.drop (a + 1)) = keepF dead rs ∧ w5.ownsRow w.heap.size 32 8 (.slice (some ⟨gg, 0, none⟩) (n + 1) cap2) (n + 1) (rcRows K) ∧ Below w.heap.size w w5) := Lib.hid ⟨K ++ [⟨fo, ft, fk, fv, false, fp, fs, ff⟩], by rw [List.length_append, hKl]; rfl, by rw [List.append_assoc]; exact hyes.out, by
                  rw [rcRows_append, show rcRows [⟨fo, ft, fk, fv, false, fp, fs, ff⟩] = rcL ⟨fo, ft, fk, fv, false, fp, fs, ff⟩ from by simp [rcRows]]
                  exact hown5, hb5⟩
                clear hown5 hgrow5 hat5 hb5 how2 hB2 x0 x1 x2 x3 x4 x5 x6 x7 hyes
                go_wp2_with fail
                go_roundg (gk - 1)
                case measure => omega
                case rel => exact ⟨a + 1, n + 1, cap2, some ⟨gg, 0, none⟩, by omega, by omega, by go_num, rfl, by omega, hfin⟩
              | true =>
                obtain ⟨fo, ft, fk, fv, fg, fp, fs, ff⟩ := r
                dsimp only at hgo htk
                subst hgo
                have htk2 : decide (ft < dead) = false := decide_eq_false (by omega)
                go_upto_region 5 with fail
                rw [← show W1 = _ from hW1.out, hxb.out]
                clear hW1 hxb c0 c1 c2 c3 c4 c5 c6 c7
                go_wp2_with fail
                refine hl2.out.mono ?_
                rintro _ w2 ⟨rfl, hb3⟩
                have hX2 := hX1.out.below hb3 hX1.out.lt
                have how2 := Lib.hid (own_below how1.out hb3)
                have hB2 := Lib.hid (grew hB1.out hb3)
                clear x0 x1 x2 x3 x4 x5 x6 x7 how1 hB1 hb3 hX1
                obtain ⟨x0, x1, x2, x3, x4, x5, x6, x7⟩ := recCells hX2
                clear hX2
                go_wp2_with (with_reducible refine zAppend _ _ _ rfl ?_)
                refine Lib.hid ?_
                refine wpList_append_lies _ rfl _ _ 22 rfl w.heap.size 32 i0 _ 8 80 Try.underlying22 hi0 hz0 hz1 hz2 rfl (by omega) _ _ _ rfl (how2.out.alloc _) _ 1 1 (rcL ⟨fo, ft, fk, fv, true, fp, fs, ff⟩) rfl rfl (World.news_of_block (heap_alloc_new _ _)) (by simp [Value.oneCell']) (by omega) (by unfold maxLen; omega) (by omega) (by have := hB2.out.size; simp; omega) (w2.heap.size + 1) (by simp) ?_
                intro gg cap2 w5 hown5 hgrow5 hat5 hlt5
                have hb5 : Below w.heap.size w w5 := below_grow (hB2.out.alloc hB2.out.size _) hgrow5 (by have := hB2.out.size; simp; omega) (fun k hk => ownFar how2.out k hk)
                have hfin : Hid (∃ K : List Rc, K.length = n + 1 ∧ K ++ keepF dead (rs.drop (a + 1)) = keepF dead rs ∧ w5.ownsRow w.heap.size 32 8 (.slice (some ⟨gg, 0, none⟩) (n + 1) cap2) (n + 1) (rcRows K) ∧ Below w.heap.size w w5) := Lib.hid ⟨K ++ [⟨fo, ft, fk, fv, true, fp, fs, ff⟩], by rw [List.length_append, hKl]; rfl, by rw [List.append_assoc]; exact hyes.out, by
                  rw [rcRows_append, show rcRows [⟨fo, ft, fk, fv, true, fp, fs, ff⟩] = rcL ⟨fo, ft, fk, fv, true, fp, fs, ff⟩ from by simp [rcRows]]
                  exact hown5, hb5⟩
                clear hown5 hgrow5 hat5 hb5 how2 hB2 x0 x1 x2 x3 x4 x5 x6 x7 hyes
                go_wp2_with fail
                go_roundg (gk - 1)
                case measure => omega
                case rel => exact ⟨a + 1, n + 1, cap2, some ⟨gg, 0, none⟩, by omega, by omega, by go_num, rfl, by omega, hfin⟩
    · obtain rfl : a = N := by omega
      rw [hall.out, show keepF dead [] = [] from rfl, List.append_nil] at hK
      subst hK
      have hfin : Hid ((keepF dead rs).length = n ∧ RcAt wo A (keepF dead rs) ∧ Below w.heap.size w wo) := Lib.hid ⟨hKl, rcAt_own how hKl, hbl⟩
      clear how hbl hKl
      go_wp2_with fail
      go_ret
      exact ⟨A, cc, by rw [hfin.out.1]; rfl, hfin.out.2⟩
end Go.Proofs.Ytpfnpfbimadjkaa.W
