/- For every two numbers and all calls the law PoolActs returns true: what any calls make of any pool is as the definition tells. No condition. -/
import Derived.Test.YtoegohofmhijgaaRows
import Derived.Test.YtoegohofmhijgaaPlX
import Derived.ChangeOld
import Derived.ShutString
import Derived.Deep.LoopGhost
import Derived.Deep.RegionHeld3
namespace Go.Proofs.Ytoegohofmhijgaa.poolActs
open Go.ChangeShapes Go.WideShapes Go.ChangeAt Go.RowKit
open Go.Proofs.Ytoegohofmhijgaa.M (grew grewAlloc GoodO Tk Cl Gv ofP open_arr2)
open Go.Proofs.Ytoegohofmhijgaa.W Go.Proofs.Ytoegohofmhijgaa.D Go.Proofs.Ytoegohofmhijgaa.Z
set_option linter.unusedVariables false

set_option maxRecDepth 100000 in
set_option maxHeartbeats 8000000 in
theorem walk (x0 x1 : Int) (a : Option Addr) (n cap : Nat) (z : Nat → PAct) (w : World) (_ : (Lit.int .i64 x0).wf = true) (_ : (Lit.int .i64 x1).wf = true) (hz : PActs w a n cap z) :
    Calls Try.prog 3 #[.agg #[.int .i64 x0, .int .i64 x1], .slice a n cap] w fun e w' => e = .returned (.bool true) ∧ Below w.heap.size w w' := by
  have hB := (Below.refl w.heap.size w).alloc (Nat.le_refl _) (.cells #[.int .i64 x0, .int .i64 x1] 22)
  have hX := Whole.new w 22 [.int .i64 x0, .int .i64 x1]
  obtain ⟨W, hW⟩ : ∃ W, Hid (W = w.alloc (.cells #[.int .i64 x0, .int .i64 x1] 22)) := ⟨_, Lib.hid rfl⟩
  replace hB : Below w.heap.size w W := by rw [hW.out]; exact hB
  replace hX : Whole W w.heap.size 22 [.int .i64 x0, .int .i64 x1] := by rw [hW.out]; exact hX
  have hWz : Hid (W.heap.size = w.heap.size + 1) := Lib.hid (by rw [hW.out]; simp)
  have a0 : W.cell? ⟨w.heap.size, 0, none⟩ = some (.int .i64 x0) := hX.cell 0
  have a1 : W.cell? ⟨w.heap.size, 1, none⟩ = some (.int .i64 x1) := hX.cell 1
  by_cases hn : n ≤ 60
  · have ok1 : decide (60 < (n : Int)) = false := by simp; omega
    by_cases hm : 6 ≤ x0 ∧ x0 ≤ 64 ∧ 0 ≤ x1 ∧ x1 ≤ 65535
    · obtain ⟨N, rfl⟩ : ∃ p : Nat, x0 = (p : Int) := ⟨x0.toNat, by omega⟩
      obtain ⟨ep, rfl⟩ : ∃ p : Nat, x1 = (p : Int) := ⟨x1.toNat, by omega⟩
      have hnew := Lib.hid (pnew_yes N ep W (by omega) (by omega) (by omega))
      have hmay := Lib.hid (fun W => rmayP_any (N : Int) (ep : Int) W)
      rw [show decide (6 ≤ (N : Int) ∧ (N : Int) ≤ 64 ∧ 0 ≤ (ep : Int) ∧ (ep : Int) ≤ 65535) = true from by rw [decide_eq_true_iff]; exact hm] at hmay
      have hrn := Lib.hid (fun W => rnewP_any N (ep : Int) W (by omega) (by omega))
      replace hX := Lib.hid hX
      replace hB := Lib.hid hB
      replace hz := Lib.hid hz
      go_enter Try.func3, Try.ntmps3
      go_wp2_with fail
      rw [← hW.out]
      clear hW
      refine hnew.out.mono ?_
      rintro ee w2 ⟨rfl, hp, hb2⟩
      have hX2 := hX.out.below hb2 hX.out.lt
      have hB2 := grew hB.out hb2
      rw [hWz.out] at hp ⊢
      generalize hq : w.heap.size = q at *
      replace hp := Lib.hid hp
      clear hX hB hb2 hnew a0 a1
      have a0 : w2.cell? ⟨q, 0, none⟩ = some (.int .i64 (N : Int)) := hX2.cell 0
      have a1 : w2.cell? ⟨q, 1, none⟩ = some (.int .i64 (ep : Int)) := hX2.cell 1
      go_wp2_with fail
      refine (hmay.out _).mono ?_
      rintro ee w3 ⟨rfl, rfl⟩
      go_wp2_with fail
      refine (hrn.out _).mono ?_
      rintro ee w4 ⟨r, c, rfl, hr, hb4⟩
      have hwq : q + 1 + 1 < w2.heap.size := hp.out.box.lt
      have hP4 := hp.out.grow hb4
      have hB4 : Below q w w4 := hB2.trans (hb4.mono (by omega))
      have hsz := hb4.size
      have hV0 := Whole.new w4 32 [.slice (some ⟨r, 0, none⟩) N c, .int .i64 (ep : Int), .int .i64 0]
      have hbl := (Below.refl w4.heap.size w4).alloc (Nat.le_refl _) (.cells #[.slice (some ⟨r, 0, none⟩) N c, .int .i64 (ep : Int), .int .i64 0] 32)
      have hlz : (List.replicate N (0 : Int)).length = N := List.length_replicate
      have hst0 : PSt (w4.alloc (.cells #[.slice (some ⟨r, 0, none⟩) N c, .int .i64 (ep : Int), .int .i64 0] 32)) q w (q + 1 + 1) (q + 1) w4.heap.size w2.heap.size (List.replicate N 0) ep 0 r c :=
        ⟨hP4.grow hbl, by rw [hlz]; exact hV0, hr.grow hbl, hB4.trans (hbl.mono (by omega)), by omega⟩
      have hgood := GoodO.zero N
      have hcell : Hid (∀ k, k < n → ∃ b o, a = some ⟨b, o, none⟩ ∧ ∀ W', Below q w W' → W'.cell? ⟨b, o + k * 3, none⟩ = some (.int .i64 (z k).kind) ∧ W'.cell? ⟨b, o + k * 3 + 1, none⟩ = some (.int .i64 (z k).seg) ∧ W'.cell? ⟨b, o + k * 3 + 2, none⟩ = some (.int .i64 (z k).log)) := Lib.hid (fun k hk => by
        obtain ⟨b, o, e, h1, h2, h3⟩ := hz.out.cell k hk
        refine ⟨b, o, e, fun W' hb => ?_⟩
        rw [← hq] at hb
        exact ⟨(hb.cell (World.block_lt_of_cell? w _ h1)).trans h1, (hb.cell (World.block_lt_of_cell? w _ h2)).trans h2, (hb.cell (World.block_lt_of_cell? w _ h3)).trans h3⟩)
      obtain ⟨V0, hV⟩ : ∃ V0, Hid (V0 = w4.alloc (.cells #[.slice (some ⟨r, 0, none⟩) N c, .int .i64 (ep : Int), .int .i64 0] 32)) := ⟨_, Lib.hid rfl⟩
      rw [← hV.out] at hst0
      have hN64 : N ≤ 64 := by omega
      have hN6 : 6 ≤ N := by omega
      have he : ep < 65536 := by omega
      generalize hwbd : w4.heap.size = wb at *
      generalize hB0d : w2.heap.size = B0 at *
      generalize hpbd : q + 1 + 1 = pb at *
      generalize hpad : q + 1 = pa at *
      replace hst0 := Lib.hid hst0
      replace hgood := Lib.hid hgood
      replace hlz := Lib.hid hlz
      clear hmay hrn hz hX2 hB2 hp hr hb4 hwq hP4 hB4 hsz hV0 hbl a0 a1 hm
      go_wp2_with fail
      rw [← hV.out]
      try rw [hwbd]
      clear hV hwbd
      go_loopg [50] n (fun ga i wr => ∃ (k : Nat) (l : List Int) (ct r c : Nat), k ≤ n ∧ n ≤ k + ga ∧ i = .int .i64 k ∧ ct ≤ k ∧ Hid (l.length = N) ∧ Hid (GoodO l) ∧ Hid (PSt wr q w pb pa wb B0 l ep ct r c))
      case atStart => exact ⟨0, _, 0, r, c, by omega, by omega, rfl, by omega, hlz, hgood, hst0⟩
      case round =>
        clear hst0 hgood hlz
        obtain ⟨k, l, ct, r, c, hk, hgk, rfl, hct, hlN, hgo, hst⟩ := hrel
        by_cases hlt : k < n
        · have hl2 : (k : Int) < (n : Int) := by omega
          obtain ⟨b, o, rfl, hcc⟩ := hcell.out k hlt
          obtain ⟨c0, c1, c2⟩ := hcc wr hst.out.since
          clear hcc
          generalize (z k).kind = kd at *
          generalize (z k).seg = sg at *
          generalize (z k).log = lg at *
          by_cases h0 : kd = 0
          · subst h0
            obtain ⟨seg, st, er, l', ct', htk⟩ := Go.Proofs.Ytoegohofmhijgaa.M.tk_any l ep ct lg
            have hbA := (Below.refl wr.heap.size wr).alloc (Nat.le_refl _) (.cells #[.int .i64 0, .int .i64 sg, .int .i64 lg] 35)
            have hst1 := hst.out.grow hbA (by have := hst.out.big; omega)
            have hA := Whole.new wr 35 [.int .i64 0, .int .i64 sg, .int .i64 lg]
            have hlb := hst.out.big
            have hfar := hst.out.far
            have hwbl := hst.out.var_.lt
            obtain ⟨V1, hV1⟩ : ∃ V1, Hid (V1 = wr.alloc (.cells #[.int .i64 0, .int .i64 sg, .int .i64 lg] 35)) := ⟨_, Lib.hid rfl⟩
            rw [← hV1.out] at hst1
            replace hA : Whole V1 wr.heap.size 35 [.int .i64 0, .int .i64 sg, .int .i64 lg] := by rw [hV1.out]; exact hA
            generalize habd : wr.heap.size = ab at *
            have hl64o : l.length ≤ 64 := by rw [hlN.out]; exact hN64
            have htake := Lib.hid (ptake_any hst1.pool hl64o he htk)
            have hctb := Lib.hid htk.count
            replace htk := Lib.hid htk
            replace hst1 := Lib.hid hst1
            have n1 : (seg != seg) = false := by simp
            have n2 : ((st : Int) != (st : Int)) = false := by simp
            have n3 : (er != er) = false := by simp
            clear hbA
            go_wp2_with fail
            rw [← hV1.out]
            clear hV1 c0 c1 c2
            refine htake.out.mono ?_
            rintro ee w5 ⟨rfl, hp5, hk5⟩
            have hhf := hst1.out.half hp5 hk5
            have hA5 := hA.of_kept hk5 (fun e => by rcases e with e | e <;> omega)
            have hw5 := hhf.var_.lt
            have hw5a := hA5.lt
            have v0 : w5.cell? ⟨wb, 0, none⟩ = some (.slice (some ⟨r, 0, none⟩) l.length c) := hhf.var_.cell 0
            have v1 : w5.cell? ⟨wb, 1, none⟩ = some (.int .i64 (ep : Int)) := hhf.var_.cell 1
            have v2 : w5.cell? ⟨wb, 2, none⟩ = some (.int .i64 (ct : Int)) := hhf.var_.cell 2
            have sa : w5.cell? ⟨ab, 2, none⟩ = some (.int .i64 lg) := hA5.cell 2
            have hrt := Lib.hid (rtake_any hhf.row (by omega) c ep ct hl64o he htk.out)
            replace hhf := Lib.hid hhf
            clear hp5 hk5 hA htake hst1
            go_wp2_with fail
            refine hrt.out.mono ?_
            rintro ee w6 ⟨r', c', rfl, hr6, hb6⟩
            have hbT := (Below.refl w6.heap.size w6).alloc (Nat.le_refl _) (.cells (tookV r' l.length c' (ep : Int) (ct' : Int) seg (st : Int) er).toArray 40)
            have hhf6 := (hhf.out.grow hb6).grow hbT
            have hA6 := (hA5.below hb6 hA5.lt).alloc (.cells (tookV r' l.length c' (ep : Int) (ct' : Int) seg (st : Int) er).toArray 40)
            have hr7 := hr6.grow hbT
            have hlen' : Hid (l'.length = l.length) := Lib.hid htk.out.len
            have hne := hhf6.ne hr7 (by rw [hlen'.out, hlN.out]; omega)
            have hth := Lib.hid (hhf6.var_.there 0 3 (by simp))
            have hfull0 := hhf6.full (c' := c') hlen'.out hr7 hne
            have hA7 := hA6.far (c := wb) (by omega) 0 [.slice (some ⟨r', 0, none⟩) l.length c', .int .i64 (ep : Int), .int .i64 (ct' : Int)]
            obtain ⟨V2, hV2⟩ : ∃ V2, Hid (V2 = w6.alloc (.cells (tookV r' l.length c' (ep : Int) (ct' : Int) seg (st : Int) er).toArray 40)) := ⟨_, Lib.hid rfl⟩
            rw [← hV2.out] at hth hfull0 hA7
            clear hrt hb6 hbT hhf6 hA6 hr7 hr6 hne v0 v1 v2 sa hA5
            go_wp2_with (with_reducible refine zStore 32 _ _ rfl ?_)
            refine Lib.hid ?_
            rw [show w6.alloc (.cells #[.slice (some ⟨r', 0, none⟩) l.length c', .int .i64 (ep : Int), .int .i64 (ct' : Int), .int .i64 seg, .int .u32 (st : Int), .int .i64 er] 40) = V2 from hV2.out.symm]
            clear hV2
            refine wpList_store_mid rfl 32 _ _ rfl wb 0 #[.slice (some ⟨r', 0, none⟩) l.length c', .int .i64 (ep : Int), .int .i64 (ct' : Int)] rfl rfl hth.out sizeP3 (by simp [Value.oneCell']) ?_
            have sa := hA7.cell 2
            simp only [List.getElem?_cons_zero, List.getElem?_cons_succ] at sa
            rw [show (#[.slice (some ⟨r', 0, none⟩) l.length c', .int .i64 (ep : Int), .int .i64 (ct' : Int)] : Array Value).toList = [.slice (some ⟨r', 0, none⟩) l.length c', .int .i64 (ep : Int), .int .i64 (ct' : Int)] from rfl]
            have hfull := Lib.hid hfull0
            clear hfull0 hA7 hth hhf
            generalize V2.setCells wb 0 [.slice (some ⟨r', 0, none⟩) l.length c', .int .i64 (ep : Int), .int .i64 (ct' : Int)] = V3 at *
            have hN' : Hid (l'.length = N) := Lib.hid (by rw [hlen'.out]; exact hlN.out)
            have hgo' : Hid (GoodO l') := Lib.hid (htk.out.good hgo.out)
            have hl64 : Hid (l'.length ≤ 64) := Lib.hid (by rw [hN'.out]; exact hN64)
            have hstd : Hid (PSt V3.drew q w pb pa wb B0 l' ep ct' r' c') := Lib.hid (hfull.out.grow (drewS (Below.refl _ _) 1) (by have := hfull.out.big; omega))
            have v0 : V3.cell? ⟨wb, 0, none⟩ = some (.slice (some ⟨r', 0, none⟩) l'.length c') := hfull.out.var_.cell 0
            have v1 : V3.cell? ⟨wb, 1, none⟩ = some (.int .i64 (ep : Int)) := hfull.out.var_.cell 1
            have v2 : V3.cell? ⟨wb, 2, none⟩ = some (.int .i64 (ct' : Int)) := hfull.out.var_.cell 2
            have d0 : V3.drew.cell? ⟨wb, 0, none⟩ = some (.slice (some ⟨r', 0, none⟩) l'.length c') := v0
            have d1 : V3.drew.cell? ⟨wb, 1, none⟩ = some (.int .i64 (ep : Int)) := v1
            have d2 : V3.drew.cell? ⟨wb, 2, none⟩ = some (.int .i64 (ct' : Int)) := v2
            have da : V3.drew.cell? ⟨ab, 2, none⟩ = some (.int .i64 lg) := sa
            have hsame := Lib.hid (fun (W' : World) (h : PSt W' q w pb pa wb B0 l' ep ct' r' c') => sameP_any h.pool h.row c' (ep : Int) (ct' : Int) hl64.out hgo'.out)
            have hof := Lib.hid (fun (W' : World) (h : PSt W' q w pb pa wb B0 l' ep ct' r' c') => pof_any h.pool hl64.out hgo'.out lg)
            have hrof := Lib.hid (fun (W' : World) (h : PSt W' q w pb pa wb B0 l' ep ct' r' c') => rof_any h.row hl64.out c' (ep : Int) (ct' : Int) lg)
            have hol := Lib.hid (ofP_len l' lg hl64.out)
            have hgr : Hid (∀ (W1 W2 : World), PSt W1 q w pb pa wb B0 l' ep ct' r' c' → Below W1.heap.size W1 W2 → PSt W2 q w pb pa wb B0 l' ep ct' r' c') := Lib.hid (fun W1 W2 h hb => h.grow hb (by have := h.big; omega))
            go_wp2_with fail
            generalize hN9 : l'.length = N9 at *
            generalize ofP l' lg = xs at *
            go_region_held3 (fun w' => w'.cell? ⟨wb, 0, none⟩ = some (.slice (some ⟨r', 0, none⟩) N9 c') ∧ w'.cell? ⟨wb, 1, none⟩ = some (.int .i64 (ep : Int)) ∧ w'.cell? ⟨wb, 2, none⟩ = some (.int .i64 (ct' : Int)) ∧ w'.cell? ⟨ab, 2, none⟩ = some (.int .i64 lg)) (first | exact ⟨v0, v1, v2, sa⟩ | exact ⟨d0, d1, d2, da⟩ | exact ⟨e0, e1, e2, ea⟩ | exact ⟨f0, f1, f2, fa⟩ | exact ⟨g0, g1, g2, ga⟩ | exact ⟨i0, i1, i2, ia⟩) (first
              | (go_at_call 17; (with_reducible refine (hsame.out _ hstd.out).mono ?_); rintro ee w7 ⟨rfl, hb7⟩; have e0 := keepX hb7 d0; have e1 := keepX hb7 d1; have e2 := keepX hb7 d2; have ea := keepX hb7 da; have hst7 := Lib.hid (hgr.out _ _ hstd.out hb7))
              | (go_at_call 19; (with_reducible refine (hof.out _ hst7.out).mono ?_); rintro ee w8 ⟨A1, k1, rfl, ht1, hb8, _⟩; have f0 := keepX hb8 e0; have f1 := keepX hb8 e1; have f2 := keepX hb8 e2; have fa := keepX hb8 ea; have hst8 := Lib.hid (hgr.out _ _ hst7.out hb8))
              | (go_at_call 20; (with_reducible refine (hrof.out _ hst8.out).mono ?_); rintro ee w9 ⟨A2, k2, rfl, ht2, hb9⟩; have g0 := keepX hb9 f0; have g1 := keepX hb9 f1; have g2 := keepX hb9 f2; have ga := keepX hb9 fa; have hst9 := Lib.hid (hgr.out _ _ hst8.out hb9); have hins := Lib.hid (pints_any A1 A2 k1 k2 xs w9 (ht1.grow hb9) ht2 hol.out))
              | (go_at_call 18; (with_reducible refine hins.out.mono ?_); rintro ee w10 ⟨rfl, hb10⟩; have i0 := keepX hb10 g0; have i1 := keepX hb10 g1; have i2 := keepX hb10 g2; have ia := keepX hb10 ga; have hst10 := Lib.hid (hgr.out _ _ hst9.out hb10)))
            all_goals
              go_wp2_with fail
              go_roundg (gk - 1)
              case measure => omega
              case rel => exact ⟨k + 1, l', ct', r', c', by omega, by omega, by go_num, by have := hctb.out; omega, by rw [hN9]; exact hN', hgo', hst10⟩
          · by_cases h1 : kd = 1
            · subst h1
              obtain ⟨er, l', htk⟩ := Go.Proofs.Ytoegohofmhijgaa.M.cl_any l sg lg
              have hbA := (Below.refl wr.heap.size wr).alloc (Nat.le_refl _) (.cells #[.int .i64 1, .int .i64 sg, .int .i64 lg] 35)
              have hst1 := hst.out.grow hbA (by have := hst.out.big; omega)
              have hA := Whole.new wr 35 [.int .i64 1, .int .i64 sg, .int .i64 lg]
              have hlb := hst.out.big
              have hfar := hst.out.far
              have hwbl := hst.out.var_.lt
              obtain ⟨V1, hV1⟩ : ∃ V1, Hid (V1 = wr.alloc (.cells #[.int .i64 1, .int .i64 sg, .int .i64 lg] 35)) := ⟨_, Lib.hid rfl⟩
              have u0 : (wr.alloc (.cells #[.int .i64 1, .int .i64 sg, .int .i64 lg] 35)).cell? ⟨wb, 0, none⟩ = some (.slice (some ⟨r, 0, none⟩) l.length c) := hst1.var_.cell 0
              have u1 : (wr.alloc (.cells #[.int .i64 1, .int .i64 sg, .int .i64 lg] 35)).cell? ⟨wb, 1, none⟩ = some (.int .i64 (ep : Int)) := hst1.var_.cell 1
              have u2 : (wr.alloc (.cells #[.int .i64 1, .int .i64 sg, .int .i64 lg] 35)).cell? ⟨wb, 2, none⟩ = some (.int .i64 (ct : Int)) := hst1.var_.cell 2
              rw [← hV1.out] at hst1
              replace hA : Whole V1 wr.heap.size 35 [.int .i64 1, .int .i64 sg, .int .i64 lg] := by rw [hV1.out]; exact hA
              generalize habd : wr.heap.size = ab at *
              have hl64o : l.length ≤ 64 := by rw [hlN.out]; exact hN64
              have hrc := Lib.hid (rclaim_any hst1.row (by have := hst1.var_.lt; omega) c (ep : Int) (ct : Int) hl64o htk)
              have hctb : Hid (ct ≤ ct + 1) := Lib.hid (Nat.le_succ ct)
              replace htk := Lib.hid htk
              replace hst1 := Lib.hid hst1
              have n3 : (er != er) = false := by simp
              clear hbA
              go_wp2_with fail
              rw [← hV1.out]
              clear hV1 c0 c1 c2 u0 u1 u2
              refine hrc.out.mono ?_
              rintro ee w5 ⟨r', c', rfl, hr5, hb5⟩
              have hbT := (Below.refl w5.heap.size w5).alloc (Nat.le_refl _) (.cells (didV r' l.length c' (ep : Int) (ct : Int) er).toArray 43)
              have hst5 := (hst1.out.grow hb5 (by have := hst1.out.big; omega))
              have hst6 := hst5.grow hbT (by have := hst5.big; omega)
              have hA6 := (hA.below hb5 hA.lt).alloc (.cells (didV r' l.length c' (ep : Int) (ct : Int) er).toArray 43)
              have hA5l := (hA.below hb5 hA.lt).lt
              have hT := Whole.new w5 43 (didV r' l.length c' (ep : Int) (ct : Int) er)
              have hr6 := hr5.grow hbT
              obtain ⟨V2, hV2⟩ : ∃ V2, Hid (V2 = w5.alloc (.cells #[.slice (some ⟨r', 0, none⟩) l.length c', .int .i64 (ep : Int), .int .i64 (ct : Int), .int .i64 er] 43)) := ⟨_, Lib.hid rfl⟩
              replace hst6 : PSt V2 q w pb pa wb B0 l ep ct r c := by rw [hV2.out]; exact hst6
              replace hA6 : Whole V2 ab 35 [.int .i64 1, .int .i64 sg, .int .i64 lg] := by rw [hV2.out]; exact hA6
              replace hT : Whole V2 w5.heap.size 43 (didV r' l.length c' (ep : Int) (ct : Int) er) := by rw [hV2.out]; exact hT
              replace hr6 : Rp V2 B0 r' l' := by rw [hV2.out]; exact hr6
              generalize htbd : w5.heap.size = tb at *
              have hw5b := hst5.var_.lt
              rw [htbd] at hw5b
              clear hst5 hb5 hr5 hbT hrc hA hst1
              have hob : ¬ Own2 pb pa ab := fun e => by rcases e with e | e <;> omega
              have hot : ¬ Own2 pb pa tb := fun e => by rcases e with e | e <;> omega
              have hstd := Lib.hid (hst6.grow (drewS (Below.refl _ _) 1) (by have := hst6.big; omega) : PSt V2.drew q w pb pa wb B0 l ep ct r c)
              have s1 : V2.cell? ⟨ab, 1, none⟩ = some (.int .i64 sg) := hA6.cell 1
              have s2 : V2.cell? ⟨ab, 2, none⟩ = some (.int .i64 lg) := hA6.cell 2
              have s3 : V2.cell? ⟨tb, 3, none⟩ = some (.int .i64 er) := hT.cell 3
              have d1 : V2.drew.cell? ⟨ab, 1, none⟩ = some (.int .i64 sg) := s1
              have d2 : V2.drew.cell? ⟨ab, 2, none⟩ = some (.int .i64 lg) := s2
              have d3 : V2.drew.cell? ⟨tb, 3, none⟩ = some (.int .i64 er) := s3
              have t0 : V2.drew.cell? ⟨tb, 0, none⟩ = some (.slice (some ⟨r', 0, none⟩) l.length c') := hT.cell 0
              have t1 : V2.drew.cell? ⟨tb, 1, none⟩ = some (.int .i64 (ep : Int)) := hT.cell 1
              have t2 : V2.drew.cell? ⟨tb, 2, none⟩ = some (.int .i64 (ct : Int)) := hT.cell 2
              have hpc : Hid (∀ W' : World, PSt W' q w pb pa wb B0 l ep ct r c → Calls Try.prog 14 #[.pointer (some ⟨pb, 0, none⟩), .int .i64 sg, .int .i64 lg] W' fun e w' => e = .returned (.int .i64 er) ∧ Pl w' pb pa l' ep ct ∧ Kept (Own2 pb pa) W' w') := Lib.hid (fun W' h => pclaim_any h.pool htk.out)
              have hrd : Rp V2.drew B0 r' l' := hr6.grow (drewS (Below.refl _ _) 1)
              replace hrd := Lib.hid hrd
              have hAd : Hid (Whole V2.drew ab 35 [.int .i64 1, .int .i64 sg, .int .i64 lg]) := Lib.hid (hA6.drewN 1)
              clear hst6 hA6 hT hr6
              go_wp2_with fail
              rw [← hV2.out]
              clear hV2
              go_region_held3 (fun w' => w'.cell? ⟨ab, 1, none⟩ = some (.int .i64 sg) ∧ w'.cell? ⟨ab, 2, none⟩ = some (.int .i64 lg) ∧ w'.cell? ⟨tb, 3, none⟩ = some (.int .i64 er)) (first | exact ⟨s1, s2, s3⟩ | exact ⟨d1, d2, d3⟩ | exact ⟨e1, e2, e3⟩) (first
                | (go_at_call 14; (with_reducible refine (hpc.out _ hstd.out).mono ?_); rintro ee w7 ⟨rfl, hp7, hk7⟩; have e1 := keepK hk7 d1 hob; have e2 := keepK hk7 d2 hob; have e3 := keepK hk7 d3 hot))
              have hhf7 := hstd.out.half hp7 hk7
              have hr7 := hrd.out.kept (by omega) (by omega) hk7
              have q0 := keepK hk7 t0 hot
              have q1 := keepK hk7 t1 hot
              have q2 := keepK hk7 t2 hot
              have hA7 := hAd.out.of_kept hk7 hob
              have hlen' : Hid (l'.length = l.length) := Lib.hid htk.out.len
              have hne := hhf7.ne hr7 (by rw [hlen'.out, hlN.out]; omega)
              have hth := Lib.hid (hhf7.var_.there 0 3 (by simp))
              have hfull0 := hhf7.full (c' := c') hlen'.out hr7 hne
              have hA8 := hA7.far (c := wb) (by omega) 0 [.slice (some ⟨r', 0, none⟩) l.length c', .int .i64 (ep : Int), .int .i64 (ct : Int)]
              clear hhf7 hr7 hA7 hne hstd hpc hrd hAd hp7 hk7 s1 s2 s3 d1 d2 d3 t0 t1 t2 e1 e2 e3
              go_wp2_with (with_reducible refine zStore 32 _ _ rfl ?_)
              refine Lib.hid ?_
              refine wpList_store_mid rfl 32 _ _ rfl wb 0 #[.slice (some ⟨r', 0, none⟩) l.length c', .int .i64 (ep : Int), .int .i64 (ct : Int)] rfl rfl hth.out sizeP3 (by simp [Value.oneCell']) ?_
              have sa := hA8.cell 2
              simp only [List.getElem?_cons_zero, List.getElem?_cons_succ] at sa
              rw [show (#[.slice (some ⟨r', 0, none⟩) l.length c', .int .i64 (ep : Int), .int .i64 (ct : Int)] : Array Value).toList = [.slice (some ⟨r', 0, none⟩) l.length c', .int .i64 (ep : Int), .int .i64 (ct : Int)] from rfl]
              have hfull := Lib.hid hfull0
              clear hfull0 hA8 hth q0 q1 q2
              generalize w7.setCells wb 0 [.slice (some ⟨r', 0, none⟩) l.length c', .int .i64 (ep : Int), .int .i64 (ct : Int)] = V3 at *
              have hN' : Hid (l'.length = N) := Lib.hid (by rw [hlen'.out]; exact hlN.out)
              have hgo' : Hid (GoodO l') := Lib.hid (htk.out.good hgo.out)
              have hl64 : Hid (l'.length ≤ 64) := Lib.hid (by rw [hN'.out]; exact hN64)
              have hstd : Hid (PSt V3.drew q w pb pa wb B0 l' ep ct r' c') := Lib.hid (hfull.out.grow (drewS (Below.refl _ _) 1) (by have := hfull.out.big; omega))
              have v0 : V3.cell? ⟨wb, 0, none⟩ = some (.slice (some ⟨r', 0, none⟩) l'.length c') := hfull.out.var_.cell 0
              have v1 : V3.cell? ⟨wb, 1, none⟩ = some (.int .i64 (ep : Int)) := hfull.out.var_.cell 1
              have v2 : V3.cell? ⟨wb, 2, none⟩ = some (.int .i64 (ct : Int)) := hfull.out.var_.cell 2
              have d0 : V3.drew.cell? ⟨wb, 0, none⟩ = some (.slice (some ⟨r', 0, none⟩) l'.length c') := v0
              have d1 : V3.drew.cell? ⟨wb, 1, none⟩ = some (.int .i64 (ep : Int)) := v1
              have d2 : V3.drew.cell? ⟨wb, 2, none⟩ = some (.int .i64 (ct : Int)) := v2
              have da : V3.drew.cell? ⟨ab, 2, none⟩ = some (.int .i64 lg) := sa
              have hsame := Lib.hid (fun (W' : World) (h : PSt W' q w pb pa wb B0 l' ep ct r' c') => sameP_any h.pool h.row c' (ep : Int) (ct : Int) hl64.out hgo'.out)
              have hof := Lib.hid (fun (W' : World) (h : PSt W' q w pb pa wb B0 l' ep ct r' c') => pof_any h.pool hl64.out hgo'.out lg)
              have hrof := Lib.hid (fun (W' : World) (h : PSt W' q w pb pa wb B0 l' ep ct r' c') => rof_any h.row hl64.out c' (ep : Int) (ct : Int) lg)
              have hol := Lib.hid (ofP_len l' lg hl64.out)
              have hgr : Hid (∀ (W1 W2 : World), PSt W1 q w pb pa wb B0 l' ep ct r' c' → Below W1.heap.size W1 W2 → PSt W2 q w pb pa wb B0 l' ep ct r' c') := Lib.hid (fun W1 W2 h hb => h.grow hb (by have := h.big; omega))
              go_wp2_with fail
              generalize hN9 : l'.length = N9 at *
              generalize ofP l' lg = xs at *
              go_region_held3 (fun w' => w'.cell? ⟨wb, 0, none⟩ = some (.slice (some ⟨r', 0, none⟩) N9 c') ∧ w'.cell? ⟨wb, 1, none⟩ = some (.int .i64 (ep : Int)) ∧ w'.cell? ⟨wb, 2, none⟩ = some (.int .i64 (ct : Int)) ∧ w'.cell? ⟨ab, 2, none⟩ = some (.int .i64 lg)) (first | exact ⟨v0, v1, v2, sa⟩ | exact ⟨d0, d1, d2, da⟩ | exact ⟨e0, e1, e2, ea⟩ | exact ⟨f0, f1, f2, fa⟩ | exact ⟨g0, g1, g2, ga⟩ | exact ⟨i0, i1, i2, ia⟩) (first
                | (go_at_call 17; (with_reducible refine (hsame.out _ hstd.out).mono ?_); rintro ee w7 ⟨rfl, hb7⟩; have e0 := keepX hb7 d0; have e1 := keepX hb7 d1; have e2 := keepX hb7 d2; have ea := keepX hb7 da; have hst7 := Lib.hid (hgr.out _ _ hstd.out hb7))
                | (go_at_call 19; (with_reducible refine (hof.out _ hst7.out).mono ?_); rintro ee w8 ⟨A1, k1, rfl, ht1, hb8, _⟩; have f0 := keepX hb8 e0; have f1 := keepX hb8 e1; have f2 := keepX hb8 e2; have fa := keepX hb8 ea; have hst8 := Lib.hid (hgr.out _ _ hst7.out hb8))
                | (go_at_call 20; (with_reducible refine (hrof.out _ hst8.out).mono ?_); rintro ee w9 ⟨A2, k2, rfl, ht2, hb9⟩; have g0 := keepX hb9 f0; have g1 := keepX hb9 f1; have g2 := keepX hb9 f2; have ga := keepX hb9 fa; have hst9 := Lib.hid (hgr.out _ _ hst8.out hb9); have hins := Lib.hid (pints_any A1 A2 k1 k2 xs w9 (ht1.grow hb9) ht2 hol.out))
                | (go_at_call 18; (with_reducible refine hins.out.mono ?_); rintro ee w10 ⟨rfl, hb10⟩; have i0 := keepX hb10 g0; have i1 := keepX hb10 g1; have i2 := keepX hb10 g2; have ia := keepX hb10 ga; have hst10 := Lib.hid (hgr.out _ _ hst9.out hb10)))
              all_goals
                go_wp2_with fail
                go_roundg (gk - 1)
                case measure => omega
                case rel => exact ⟨k + 1, l', ct, r', c', by omega, by omega, by go_num, by have := hctb.out; omega, by rw [hN9]; exact hN', hgo', hst10⟩
            · obtain ⟨er, l', htk⟩ := Go.Proofs.Ytoegohofmhijgaa.M.gv_any l sg
              have b0 : (kd == 0) = false := by simp [h0]
              have b1 : (kd == 1) = false := by simp [h1]
              have hbA := (Below.refl wr.heap.size wr).alloc (Nat.le_refl _) (.cells #[.int .i64 kd, .int .i64 sg, .int .i64 lg] 35)
              have hst1 := hst.out.grow hbA (by have := hst.out.big; omega)
              have hA := Whole.new wr 35 [.int .i64 kd, .int .i64 sg, .int .i64 lg]
              have hlb := hst.out.big
              have hfar := hst.out.far
              have hwbl := hst.out.var_.lt
              obtain ⟨V1, hV1⟩ : ∃ V1, Hid (V1 = wr.alloc (.cells #[.int .i64 kd, .int .i64 sg, .int .i64 lg] 35)) := ⟨_, Lib.hid rfl⟩
              have u0 : (wr.alloc (.cells #[.int .i64 kd, .int .i64 sg, .int .i64 lg] 35)).cell? ⟨wb, 0, none⟩ = some (.slice (some ⟨r, 0, none⟩) l.length c) := hst1.var_.cell 0
              have u1 : (wr.alloc (.cells #[.int .i64 kd, .int .i64 sg, .int .i64 lg] 35)).cell? ⟨wb, 1, none⟩ = some (.int .i64 (ep : Int)) := hst1.var_.cell 1
              have u2 : (wr.alloc (.cells #[.int .i64 kd, .int .i64 sg, .int .i64 lg] 35)).cell? ⟨wb, 2, none⟩ = some (.int .i64 (ct : Int)) := hst1.var_.cell 2
              rw [← hV1.out] at hst1
              replace hA : Whole V1 wr.heap.size 35 [.int .i64 kd, .int .i64 sg, .int .i64 lg] := by rw [hV1.out]; exact hA
              generalize habd : wr.heap.size = ab at *
              have hl64o : l.length ≤ 64 := by rw [hlN.out]; exact hN64
              have hrc := Lib.hid (rgive_any hst1.row (by have := hst1.var_.lt; omega) c (ep : Int) (ct : Int) hl64o htk)
              have hctb : Hid (ct ≤ ct + 1) := Lib.hid (Nat.le_succ ct)
              replace htk := Lib.hid htk
              replace hst1 := Lib.hid hst1
              have n3 : (er != er) = false := by simp
              clear hbA
              go_wp2_with fail
              rw [← hV1.out]
              clear hV1 c0 c1 c2 u0 u1 u2
              refine hrc.out.mono ?_
              rintro ee w5 ⟨r', c', rfl, hr5, hb5⟩
              have hbT := (Below.refl w5.heap.size w5).alloc (Nat.le_refl _) (.cells (didV r' l.length c' (ep : Int) (ct : Int) er).toArray 43)
              have hst5 := (hst1.out.grow hb5 (by have := hst1.out.big; omega))
              have hst6 := hst5.grow hbT (by have := hst5.big; omega)
              have hA6 := (hA.below hb5 hA.lt).alloc (.cells (didV r' l.length c' (ep : Int) (ct : Int) er).toArray 43)
              have hA5l := (hA.below hb5 hA.lt).lt
              have hT := Whole.new w5 43 (didV r' l.length c' (ep : Int) (ct : Int) er)
              have hr6 := hr5.grow hbT
              obtain ⟨V2, hV2⟩ : ∃ V2, Hid (V2 = w5.alloc (.cells #[.slice (some ⟨r', 0, none⟩) l.length c', .int .i64 (ep : Int), .int .i64 (ct : Int), .int .i64 er] 43)) := ⟨_, Lib.hid rfl⟩
              replace hst6 : PSt V2 q w pb pa wb B0 l ep ct r c := by rw [hV2.out]; exact hst6
              replace hA6 : Whole V2 ab 35 [.int .i64 kd, .int .i64 sg, .int .i64 lg] := by rw [hV2.out]; exact hA6
              replace hT : Whole V2 w5.heap.size 43 (didV r' l.length c' (ep : Int) (ct : Int) er) := by rw [hV2.out]; exact hT
              replace hr6 : Rp V2 B0 r' l' := by rw [hV2.out]; exact hr6
              generalize htbd : w5.heap.size = tb at *
              have hw5b := hst5.var_.lt
              rw [htbd] at hw5b
              clear hst5 hb5 hr5 hbT hrc hA hst1
              have hob : ¬ Own2 pb pa ab := fun e => by rcases e with e | e <;> omega
              have hot : ¬ Own2 pb pa tb := fun e => by rcases e with e | e <;> omega
              have hstd := Lib.hid (hst6.grow (drewS (Below.refl _ _) 1) (by have := hst6.big; omega) : PSt V2.drew q w pb pa wb B0 l ep ct r c)
              have s1 : V2.cell? ⟨ab, 1, none⟩ = some (.int .i64 sg) := hA6.cell 1
              have s2 : V2.cell? ⟨ab, 2, none⟩ = some (.int .i64 lg) := hA6.cell 2
              have s3 : V2.cell? ⟨tb, 3, none⟩ = some (.int .i64 er) := hT.cell 3
              have d1 : V2.drew.cell? ⟨ab, 1, none⟩ = some (.int .i64 sg) := s1
              have d2 : V2.drew.cell? ⟨ab, 2, none⟩ = some (.int .i64 lg) := s2
              have d3 : V2.drew.cell? ⟨tb, 3, none⟩ = some (.int .i64 er) := s3
              have t0 : V2.drew.cell? ⟨tb, 0, none⟩ = some (.slice (some ⟨r', 0, none⟩) l.length c') := hT.cell 0
              have t1 : V2.drew.cell? ⟨tb, 1, none⟩ = some (.int .i64 (ep : Int)) := hT.cell 1
              have t2 : V2.drew.cell? ⟨tb, 2, none⟩ = some (.int .i64 (ct : Int)) := hT.cell 2
              have hpc : Hid (∀ W' : World, PSt W' q w pb pa wb B0 l ep ct r c → Calls Try.prog 16 #[.pointer (some ⟨pb, 0, none⟩), .int .i64 sg] W' fun e w' => e = .returned (.int .i64 er) ∧ Pl w' pb pa l' ep ct ∧ Kept (Own2 pb pa) W' w') := Lib.hid (fun W' h => pgive_any h.pool htk.out)
              have hrd : Rp V2.drew B0 r' l' := hr6.grow (drewS (Below.refl _ _) 1)
              replace hrd := Lib.hid hrd
              have hAd : Hid (Whole V2.drew ab 35 [.int .i64 kd, .int .i64 sg, .int .i64 lg]) := Lib.hid (hA6.drewN 1)
              clear hst6 hA6 hT hr6
              go_wp2_with fail
              rw [← hV2.out]
              clear hV2
              go_region_held3 (fun w' => w'.cell? ⟨ab, 1, none⟩ = some (.int .i64 sg) ∧ w'.cell? ⟨ab, 2, none⟩ = some (.int .i64 lg) ∧ w'.cell? ⟨tb, 3, none⟩ = some (.int .i64 er)) (first | exact ⟨s1, s2, s3⟩ | exact ⟨d1, d2, d3⟩ | exact ⟨e1, e2, e3⟩) (first
                | (go_at_call 16; (with_reducible refine (hpc.out _ hstd.out).mono ?_); rintro ee w7 ⟨rfl, hp7, hk7⟩; have e1 := keepK hk7 d1 hob; have e2 := keepK hk7 d2 hob; have e3 := keepK hk7 d3 hot))
              have hhf7 := hstd.out.half hp7 hk7
              have hr7 := hrd.out.kept (by omega) (by omega) hk7
              have q0 := keepK hk7 t0 hot
              have q1 := keepK hk7 t1 hot
              have q2 := keepK hk7 t2 hot
              have hA7 := hAd.out.of_kept hk7 hob
              have hlen' : Hid (l'.length = l.length) := Lib.hid htk.out.len
              have hne := hhf7.ne hr7 (by rw [hlen'.out, hlN.out]; omega)
              have hth := Lib.hid (hhf7.var_.there 0 3 (by simp))
              have hfull0 := hhf7.full (c' := c') hlen'.out hr7 hne
              have hA8 := hA7.far (c := wb) (by omega) 0 [.slice (some ⟨r', 0, none⟩) l.length c', .int .i64 (ep : Int), .int .i64 (ct : Int)]
              clear hhf7 hr7 hA7 hne hstd hpc hrd hAd hp7 hk7 s1 s2 s3 d1 d2 d3 t0 t1 t2 e1 e2 e3
              go_wp2_with (with_reducible refine zStore 32 _ _ rfl ?_)
              refine Lib.hid ?_
              refine wpList_store_mid rfl 32 _ _ rfl wb 0 #[.slice (some ⟨r', 0, none⟩) l.length c', .int .i64 (ep : Int), .int .i64 (ct : Int)] rfl rfl hth.out sizeP3 (by simp [Value.oneCell']) ?_
              have sa := hA8.cell 2
              simp only [List.getElem?_cons_zero, List.getElem?_cons_succ] at sa
              rw [show (#[.slice (some ⟨r', 0, none⟩) l.length c', .int .i64 (ep : Int), .int .i64 (ct : Int)] : Array Value).toList = [.slice (some ⟨r', 0, none⟩) l.length c', .int .i64 (ep : Int), .int .i64 (ct : Int)] from rfl]
              have hfull := Lib.hid hfull0
              clear hfull0 hA8 hth q0 q1 q2
              generalize w7.setCells wb 0 [.slice (some ⟨r', 0, none⟩) l.length c', .int .i64 (ep : Int), .int .i64 (ct : Int)] = V3 at *
              have hN' : Hid (l'.length = N) := Lib.hid (by rw [hlen'.out]; exact hlN.out)
              have hgo' : Hid (GoodO l') := Lib.hid (htk.out.good hgo.out)
              have hl64 : Hid (l'.length ≤ 64) := Lib.hid (by rw [hN'.out]; exact hN64)
              have hstd : Hid (PSt V3.drew q w pb pa wb B0 l' ep ct r' c') := Lib.hid (hfull.out.grow (drewS (Below.refl _ _) 1) (by have := hfull.out.big; omega))
              have v0 : V3.cell? ⟨wb, 0, none⟩ = some (.slice (some ⟨r', 0, none⟩) l'.length c') := hfull.out.var_.cell 0
              have v1 : V3.cell? ⟨wb, 1, none⟩ = some (.int .i64 (ep : Int)) := hfull.out.var_.cell 1
              have v2 : V3.cell? ⟨wb, 2, none⟩ = some (.int .i64 (ct : Int)) := hfull.out.var_.cell 2
              have d0 : V3.drew.cell? ⟨wb, 0, none⟩ = some (.slice (some ⟨r', 0, none⟩) l'.length c') := v0
              have d1 : V3.drew.cell? ⟨wb, 1, none⟩ = some (.int .i64 (ep : Int)) := v1
              have d2 : V3.drew.cell? ⟨wb, 2, none⟩ = some (.int .i64 (ct : Int)) := v2
              have da : V3.drew.cell? ⟨ab, 2, none⟩ = some (.int .i64 lg) := sa
              have hsame := Lib.hid (fun (W' : World) (h : PSt W' q w pb pa wb B0 l' ep ct r' c') => sameP_any h.pool h.row c' (ep : Int) (ct : Int) hl64.out hgo'.out)
              have hof := Lib.hid (fun (W' : World) (h : PSt W' q w pb pa wb B0 l' ep ct r' c') => pof_any h.pool hl64.out hgo'.out lg)
              have hrof := Lib.hid (fun (W' : World) (h : PSt W' q w pb pa wb B0 l' ep ct r' c') => rof_any h.row hl64.out c' (ep : Int) (ct : Int) lg)
              have hol := Lib.hid (ofP_len l' lg hl64.out)
              have hgr : Hid (∀ (W1 W2 : World), PSt W1 q w pb pa wb B0 l' ep ct r' c' → Below W1.heap.size W1 W2 → PSt W2 q w pb pa wb B0 l' ep ct r' c') := Lib.hid (fun W1 W2 h hb => h.grow hb (by have := h.big; omega))
              go_wp2_with fail
              generalize hN9 : l'.length = N9 at *
              generalize ofP l' lg = xs at *
              go_region_held3 (fun w' => w'.cell? ⟨wb, 0, none⟩ = some (.slice (some ⟨r', 0, none⟩) N9 c') ∧ w'.cell? ⟨wb, 1, none⟩ = some (.int .i64 (ep : Int)) ∧ w'.cell? ⟨wb, 2, none⟩ = some (.int .i64 (ct : Int)) ∧ w'.cell? ⟨ab, 2, none⟩ = some (.int .i64 lg)) (first | exact ⟨v0, v1, v2, sa⟩ | exact ⟨d0, d1, d2, da⟩ | exact ⟨e0, e1, e2, ea⟩ | exact ⟨f0, f1, f2, fa⟩ | exact ⟨g0, g1, g2, ga⟩ | exact ⟨i0, i1, i2, ia⟩) (first
                | (go_at_call 17; (with_reducible refine (hsame.out _ hstd.out).mono ?_); rintro ee w7 ⟨rfl, hb7⟩; have e0 := keepX hb7 d0; have e1 := keepX hb7 d1; have e2 := keepX hb7 d2; have ea := keepX hb7 da; have hst7 := Lib.hid (hgr.out _ _ hstd.out hb7))
                | (go_at_call 19; (with_reducible refine (hof.out _ hst7.out).mono ?_); rintro ee w8 ⟨A1, k1, rfl, ht1, hb8, _⟩; have f0 := keepX hb8 e0; have f1 := keepX hb8 e1; have f2 := keepX hb8 e2; have fa := keepX hb8 ea; have hst8 := Lib.hid (hgr.out _ _ hst7.out hb8))
                | (go_at_call 20; (with_reducible refine (hrof.out _ hst8.out).mono ?_); rintro ee w9 ⟨A2, k2, rfl, ht2, hb9⟩; have g0 := keepX hb9 f0; have g1 := keepX hb9 f1; have g2 := keepX hb9 f2; have ga := keepX hb9 fa; have hst9 := Lib.hid (hgr.out _ _ hst8.out hb9); have hins := Lib.hid (pints_any A1 A2 k1 k2 xs w9 (ht1.grow hb9) ht2 hol.out))
                | (go_at_call 18; (with_reducible refine hins.out.mono ?_); rintro ee w10 ⟨rfl, hb10⟩; have i0 := keepX hb10 g0; have i1 := keepX hb10 g1; have i2 := keepX hb10 g2; have ia := keepX hb10 ga; have hst10 := Lib.hid (hgr.out _ _ hst9.out hb10)))
              all_goals
                go_wp2_with fail
                go_roundg (gk - 1)
                case measure => omega
                case rel => exact ⟨k + 1, l', ct, r', c', by omega, by omega, by go_num, by have := hctb.out; omega, by rw [hN9]; exact hN', hgo', hst10⟩
        · obtain rfl : k = n := by omega
          have hl2 : ¬ (k : Int) < (k : Int) := by omega
          have v0 : wr.cell? ⟨wb, 0, none⟩ = some (.slice (some ⟨r, 0, none⟩) l.length c) := hst.out.var_.cell 0
          have v1 : wr.cell? ⟨wb, 1, none⟩ = some (.int .i64 (ep : Int)) := hst.out.var_.cell 1
          have v2 : wr.cell? ⟨wb, 2, none⟩ = some (.int .i64 (ct : Int)) := hst.out.var_.cell 2
          have hsame := Lib.hid (sameP_any hst.out.pool hst.out.row c (ep : Int) (ct : Int) (by rw [hlN.out]; exact hN64) hgo.out)
          clear hcell
          go_wp2_with fail
          refine hsame.out.mono ?_
          rintro ee w5 ⟨rfl, hb5⟩
          have hst5 := Lib.hid (hst.out.grow hb5 (by have := hst.out.big; omega))
          clear hb5 hsame v0 v1 v2
          go_wp2_with fail
          refine (six_any _).mono ?_
          rintro ee w6 ⟨rfl, hb6⟩
          have hfin := hst5.out.grow hb6 (by have := hst5.out.big; omega)
          go_wp2_with fail
          go_ret
          exact ⟨rfl, by rw [hq]; exact hfin.since⟩
    · have hnew := Lib.hid (pnew_no x0 x1 W hm)
      have hmay := Lib.hid (fun W => rmayP_any x0 x1 W)
      rw [show decide (6 ≤ x0 ∧ x0 ≤ 64 ∧ 0 ≤ x1 ∧ x1 ≤ 65535) = false from by rw [decide_eq_false_iff_not]; exact hm] at hmay
      replace hX := Lib.hid hX
      replace hB := Lib.hid hB
      clear hz hm
      go_enter Try.func3, Try.ntmps3
      go_wp2_with fail
      rw [← hW.out]
      clear hW
      refine hnew.out.mono ?_
      rintro ee w2 ⟨rfl, hb2⟩
      have hX2 := hX.out.below hb2 hX.out.lt
      have hB2 := Lib.hid (grew hB.out hb2)
      have b0 : w2.cell? ⟨w.heap.size, 0, none⟩ = some (.int .i64 x0) := hX2.cell 0
      have b1 : w2.cell? ⟨w.heap.size, 1, none⟩ = some (.int .i64 x1) := hX2.cell 1
      clear hX hB hb2 hnew a0 a1 hX2
      go_wp2_with fail
      refine (hmay.out _).mono ?_
      rintro ee w3 ⟨rfl, rfl⟩
      go_wp2_with fail
      refine (six_any _).mono ?_
      rintro ee w6 ⟨rfl, hb6⟩
      go_wp2_with fail
      go_ret
      exact ⟨rfl, grew hB2.out hb6⟩
  · have ok1 : (60 : Int) < (n : Int) := by omega
    replace hB := Lib.hid hB
    clear hz hX a0 a1
    go_enter Try.func3, Try.ntmps3
    go_wp2_with fail
    rw [← hW.out]
    refine (six_any _).mono ?_
    rintro ee w6 ⟨rfl, hb6⟩
    go_wp2_with fail
    go_ret
    exact ⟨rfl, grew hB.out hb6⟩

theorem own : ownKnob Try.prog.godebug = none := by kernel_rfl
theorem laidOut : laidOutB Try.prog = true := by kernel_rfl

set_option maxRecDepth 100000 in
theorem lifted (os : Os) (started : os.Started) (H : Type) (enc : TypeId × Value → H) :
    ReturnsInHanded {} Try.checked os 3 .any (Rows.poolActsSpec.pre6 enc Try.prog Try.f3 Rows.poolActsRow.domain false) (Rows.poolActsSpec.post enc Try.prog Try.f3 false true false false) := by
  refine returnsInHanded_of_change (C := Try.checked) own started (by kernel_rfl) Try.func3
    (ChangeSpec.witness6 (enc := enc) (C := Try.checked) false ⟨#[], #[.agg #[.int .i64 0, .int .i64 0], .slice none 0 0], []⟩ 8 (by kernel_rfl) (by kernel_rfl) (by kernel_rfl) (by kernel_rfl)) ?_
  intro W base args ds gs before hval0 hW hcnd _
  have hval : ∀ (j : Nat) t v, Try.f3.params[j]? = some t → args[j]? = some v → Value.okWide Try.prog W .any base t v := hval0
  have hW' := hW
  obtain ⟨p, q, hA0, hV, rfl, hfz, hnd⟩ := hW
  have hA : DataW.TrodAll enc Try.prog W 0 (fun _ => true) true Try.f3.params.toList args.toList ds p := hA0
  rw [Try.params3] at hA hval
  obtain ⟨v0, vs0, d0, ds0, p0, q0, hargs, rfl, rfl, h0, r0⟩ := trodAll_cons hA
  obtain ⟨v1, vs1, d1, ds1, p1, q1, rfl, rfl, rfl, h1, r1⟩ := trodAll_cons r0
  obtain ⟨rfl, rfl, rfl⟩ := trodAll_nil r1
  obtain rfl : args = #[v0, v1] := by cases args; simp_all
  obtain ⟨rfl, rfl⟩ := trodVars_none hV
  have k0 := h0
  have lt0 : ∀ x ∈ p0, x.block < W.heap.size := by obtain ⟨m, hm⟩ := k0; exact DataW.trod_lt m _ _ _ hm
  obtain ⟨x0_0, x0_1, rfl, w0_0, w0_1⟩ := open_arr2 Try.underlying22 Try.underlying3 (by kernel_rfl) (by kernel_rfl) (hval 0 22 v0 rfl rfl) h0
  obtain ⟨a1, len1, cap1, rfl⟩ := okWide_slice Try.underlying23 (hval 1 23 v1 rfl rfl)
  have k1 := h1
  have lt1 : ∀ x ∈ p1, x.block < W.heap.size := by obtain ⟨m, hm⟩ := k1; exact DataW.trod_lt m _ _ _ hm
  obtain ⟨z1, w1⟩ := open_pacts h1
  clear hA0 hval0
  refine (walk x0_0 x0_1 a1 len1 cap1 z1 W w0_0 w0_1 w1).mono fun e W' ⟨he, bel⟩ => ?_
  subst he
  exact ⟨_, rfl, _, _, _, [], _, [], hW', trodAll_mk1 (shut_bool Try.underlying4 _), (trodAll_cons_mk (Below.trod laidOut (by kernel_rfl) (of_decide_eq_true (by kernel_rfl)) k0 bel lt0) (trodAll_cons_mk (Below.trod laidOut (by kernel_rfl) (of_decide_eq_true (by kernel_rfl)) k1 bel lt1) trodAll_mk0)), rfl, bel.frame _, fun h => by cases h⟩

theorem over : Rows.poolActsRow.holds Try.pinned (OpenSpec.ofChange Rows.poolActsSpec) :=
  OpenClaim.holds_of_wide 3 Try.f3 rfl rfl rfl rfl rfl rfl rfl ⟨rfl, rfl, rfl, rfl, rfl⟩ rfl rfl rfl rfl rfl (by kernel_rfl) Try.func3 (by kernel_rfl)
    (of_decide_eq_true (by kernel_rfl)) (by unfold Func.isWrapper; first | (rw [if_pos (by decide +kernel)]; kernel_rfl) | (rw [if_neg (by decide +kernel)]; exact ⟨rfl, rfl⟩))
    (fun os started H enc _ => lifted os started H enc)

/-- The statement. -/
theorem proved : Rows.PoolActsSaid := over
#print axioms proved

end Go.Proofs.Ytoegohofmhijgaa.poolActs
