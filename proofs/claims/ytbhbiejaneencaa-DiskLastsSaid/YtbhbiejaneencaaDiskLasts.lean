/- For every row of acts and every row of keeps the law DiskLasts returns true: behind a flush what is read lies there; behind a crash what lies there is read. -/
import Derived.Test.YtbhbiejaneencaaRows
import Derived.Test.YtbhbiejaneencaaDiskKeeps
import Derived.Test.YtbhbiejaneencaaTwo
namespace Go.Proofs.Ytbhbiejaneencaa.diskLasts
open Go.ChangeShapes Go.WideShapes Go.ChangeAt Go.RowKit
open Go.Proofs.Ytbhbiejaneencaa.D
set_option linter.unusedVariables false

set_option maxHeartbeats 4000000 in
set_option maxRecDepth 100000 in
theorem walk (av : Value) (xs : List Act1) (kv : Value) (kl : List (Int × Int)) (w : World) (hA : Acts w av xs) (hK : Keeps w kv kl) :
    Calls Try.prog 5 #[av, kv] w fun e w' => e = .returned (.bool true) ∧ Below w.heap.size w w' := by
  obtain ⟨is, his, hs0, hs1, hs2⟩ := info_parts infoStr
  obtain ⟨ka, cap, rfl, hle, hcap, hx⟩ := hA.form
  replace hx := Lib.hid hx
  obtain ⟨kka, kkc, rfl⟩ := hK.len
  obtain ⟨m, hm⟩ : ∃ m, Hid (xs.length = m) := ⟨_, Lib.hid rfl⟩
  obtain ⟨km, hkm⟩ : ∃ m, Hid (kl.length = m) := ⟨_, Lib.hid rfl⟩
  have hget : Hid (∀ j, j < m → ∃ q, xs[j]? = some q) := fun j hj => ⟨_, List.getElem?_eq_getElem (by rw [hm.out]; exact hj)⟩
  unfold maxLen at hcap
  have hL := large_any _ xs w hA
  rw [hm.out] at hle hL ⊢
  rw [hkm.out] at hK ⊢
  clear hA
  replace hL := Lib.hid hL
  replace hK := Lib.hid hK
  cases hlb : largeB xs <;> rw [hlb] at hL <;> replace hlb := Lib.hid hlb
  · by_cases hkg : 40 < km
    · go_enter Try.func5, Try.ntmps5
      go_wp2_with fail
      refine hL.out.mono ?_
      rintro e w0 ⟨rfl, hb0⟩
      clear hL
      go_wp2_with fail
      refine (torn_any _).mono ?_
      rintro e w1 ⟨rfl, hb1⟩
      have hbel := hb0.trans (hb1.mono hb0.size)
      go_wp2_with fail
      go_ret
      exact ⟨rfl, hbel⟩
    · obtain ⟨hx40, hk40⟩ := large_no hlb.out
      rw [hm.out] at hx40
      replace hk40 := Lib.hid hk40
      go_enter Try.func5, Try.ntmps5
      go_wp2_with fail
      refine hL.out.mono ?_
      rintro e w0 ⟨rfl, hb0⟩
      clear hL
      go_wp2_with fail
      refine (new_in 8 _ (by decide) (by decide)).mono ?_
      rintro e w1 ⟨rfl, hd1, hb1⟩
      have hsz0 := hb0.size
      obtain ⟨B, hB⟩ : ∃ B, Hid (w0.heap.size = B) := ⟨_, Lib.hid rfl⟩
      rw [hB.out] at hd1 hb1 hsz0
      rw [hB.out]
      have hB1 : B ≤ w1.heap.size := by have := hd1.lying.lt; omega
      go_wp2_with fail
      refine (new_in 8 _ (by decide) (by decide)).mono ?_
      rintro e w2 ⟨rfl, hd2, hb2⟩
      obtain ⟨D, hD⟩ : ∃ D, Hid (w1.heap.size = D) := ⟨_, Lib.hid rfl⟩
      have htwo : Hid (∃ v u, Two B w0 w2 ⟨B + 1, B, (runs (zeros 8) (xs.take 0)).1, (runs (zeros 8) (xs.take 0)).2⟩ ⟨D + 1, D, (runs (zeros 8) (xs.take 0)).1, (runs (zeros 8) (xs.take 0)).2⟩ v u) := by
        rw [← hD.out]
        refine Lib.hid ⟨_, _, Two.new (a := ⟨B + 1, B, zeros 8, []⟩) hd1 (fun k hk => ?_) hB1 hb1 ⟨rfl, hd2, hb2⟩⟩
        rcases hk with e | e | e
        · have e' : k = B + 1 := e
          omega
        · have e' : k = B := e
          omega
        · cases e
      rw [hD.out]
      clear hd1 hd2 hb1 hb2 hB1
      go_wp2_with fail
      go_loopg [42] m (fun ga i wr => ∃ j : Nat, j ≤ m ∧ m ≤ j + ga ∧ i = .int .i64 j ∧ Hid (∃ v u, Two B w0 wr ⟨B + 1, B, (runs (zeros 8) (xs.take j)).1, (runs (zeros 8) (xs.take j)).2⟩ ⟨D + 1, D, (runs (zeros 8) (xs.take j)).1, (runs (zeros 8) (xs.take j)).2⟩ v u) ∧ (runs (zeros 8) (xs.take j)).2.length ≤ j ∧ Hid ((runs (zeros 8) (xs.take j)).1.length = 8))
      case atStart => exact ⟨0, by omega, by omega, rfl, htwo, by simp [runs], Lib.hid (by simp [runs, zeros])⟩
      case round =>
        obtain ⟨j, hj, hg, rfl, htw, hwl, hl8⟩ := hrel
        clear htwo
        by_cases hlt : j < m
        · obtain ⟨x, hxj⟩ := hget.out j hlt
          obtain ⟨v, u, ht⟩ := htw.out
          have hbw : Below w.heap.size w wr := hb0.trans ((show Below w0.heap.size w0 wr by rw [hB.out]; exact ht.bel).mono hb0.size)
          obtain ⟨hat, b, o, xv, rfl, hbl, k0, k1, k2, k3, k4, hkv⟩ := hx.out j x hxj
          obtain ⟨xka, xcap, rfl⟩ := hkv.len
          have r0 := keepCell hbw k0
          have r1 := keepCell hbw k1
          have r2 := keepCell hbw k2
          have r3 := keepCell hbw k3
          have r4 := keepCell hbw k4
          have hks := hk40.out x (List.mem_of_getElem? hxj)
          have hst : Hid (runs (zeros 8) (xs.take (j + 1)) = (actL (runs (zeros 8) (xs.take j)).1 (runs (zeros 8) (xs.take j)).2 x, actW (runs (zeros 8) (xs.take j)).1.length (runs (zeros 8) (xs.take j)).2 x)) := by
            rw [List.take_add_one, hxj, show (some x).toList = [x] from rfl, runs_snoc]; exact Lib.hid rfl
          have hfar : Hid (∀ k, x.kl ≠ [] → (Value.slice xka x.kl.length xcap).ownBlock = some k → k < B) := fun k hne hk => by
            have := keeps_far hkv hne hk; omega
          have hbal := allocBelow wr (.cells #[.int .i64 x.kind, .int .i64 x.at_, .int .i64 x.n, .int .u8 (x.c.toNat : Int), .slice xka x.kl.length xcap] 36)
          have htA := Lib.hid (ht.below hbal)
          have hkw := Lib.hid ((hkv.below hbw).below hbal)
          have hbox := Whole.new wr 36 [.int .i64 x.kind, .int .i64 x.at_, .int .i64 x.n, .int .u8 (x.c.toNat : Int), .slice xka x.kl.length xcap]
          have hone := ht.one
          have hmineb : Hid (¬ mine (B + 1) B v wr.heap.size) := fun hmi => by have := hone.mine_lt hmi; omega
          replace hbox := Lib.hid hbox
          clear k0 k1 k2 k3 k4 hone ht
          replace hxj := Lib.hid hxj
          replace hkv := Lib.hid hkv
          go_wp2_with fail
          refine (done_any (B + 1) B v _ _ _ x.kind x.at_ x.n x.c _ x.kl htA.out.one hat (by show (runs (zeros 8) (xs.take j)).2.length ≤ 100000; omega) hkw.out (fun k hne hk hmi => by have h1 := hfar.out k hne hk; have h2 := htA.out.low1 k hmi; omega) (by omega)).mono ?_
          rintro e w3 ⟨rfl, hdid⟩
          obtain ⟨v', ht3⟩ := htA.out.turn hdid
          have hk3 := hdid.kept
          have hlt4 : wr.heap.size < (wr.alloc (.cells #[.int .i64 x.kind, .int .i64 x.at_, .int .i64 x.n, .int .u8 (x.c.toNat : Int), .slice xka x.kl.length xcap] 36)).heap.size := by simp
          have q0 := (hk3.cell hlt4 hmineb.out 0).trans (hbox.out.cell 0)
          have q1 := (hk3.cell hlt4 hmineb.out 1).trans (hbox.out.cell 1)
          have q2 := (hk3.cell hlt4 hmineb.out 2).trans (hbox.out.cell 2)
          have q3 := (hk3.cell hlt4 hmineb.out 3).trans (hbox.out.cell 3)
          have q4 := (hk3.cell hlt4 hmineb.out 4).trans (hbox.out.cell 4)
          simp only [List.getElem?_cons_succ, List.getElem?_cons_zero] at q0 q1 q2 q3 q4
          have hbw3 : Below w.heap.size w w3 := hb0.trans ((show Below w0.heap.size w0 w3 by rw [hB.out]; exact ht3.bel).mono hb0.size)
          have hkw3 := Lib.hid (hkv.out.below hbw3)
          replace ht3 := Lib.hid ht3
          clear hk3 hlt4 hdid hbw3 hbw r0 r1 r2 r3 r4 hbal
          go_wp2_with fail
          refine (done_any (D + 1) D u _ _ _ x.kind x.at_ x.n x.c _ x.kl ht3.out.two hat (by show (runs (zeros 8) (xs.take j)).2.length ≤ 100000; omega) hkw3.out (fun k hne hk hmi => by have h1 := hfar.out k hne hk; have h2 := ht3.out.low2 k hmi; omega) (by omega)).mono ?_
          rintro e w4 ⟨rfl, hdid⟩
          obtain ⟨u', ht4⟩ := ht3.out.swap.turn hdid
          have htw4 : Hid (∃ v u, Two B w0 w4 ⟨B + 1, B, (runs (zeros 8) (xs.take (j + 1))).1, (runs (zeros 8) (xs.take (j + 1))).2⟩ ⟨D + 1, D, (runs (zeros 8) (xs.take (j + 1))).1, (runs (zeros 8) (xs.take (j + 1))).2⟩ v u) := by
            rw [hst.out]
            exact Lib.hid ⟨v', u', ht4.swap⟩
          have hwl3 : (runs (zeros 8) (xs.take (j + 1))).2.length ≤ j + 1 := by
            rw [hst.out]
            exact Nat.le_trans (actW_len _ _ _) (by omega)
          have hl83 : Hid ((runs (zeros 8) (xs.take (j + 1))).1.length = 8) := by
            rw [hst.out]
            exact Lib.hid ((actL_len _ _ _).trans hl8.out)
          clear hdid ht4 hst hwl q0 q1 q2 q3 q4
          go_wp2_with fail
          go_roundg (gk - 1)
          case measure => omega
          case rel => exact ⟨j + 1, by omega, by omega, by go_num, htw4, hwl3, hl83⟩
        · obtain rfl : j = m := by omega
          have htk : xs.take j = xs := by rw [← hm.out, List.take_length]
          rw [htk] at htw hwl hl8
          clear htk
          obtain ⟨L8, hL8⟩ : ∃ L, Hid ((runs (zeros 8) xs).1 = L) := ⟨_, Lib.hid rfl⟩
          obtain ⟨ws, hws⟩ : ∃ L, Hid ((runs (zeros 8) xs).2 = L) := ⟨_, Lib.hid rfl⟩
          rw [hL8.out, hws.out] at htw
          rw [hws.out] at hwl
          rw [hL8.out] at hl8
          obtain ⟨v, u, ht⟩ := htw.out
          replace ht := Lib.hid ht
          clear htw hL8 hws hx
          generalize wr = wo at *
          generalize gk = g0 at *
          have hr8 : Hid (∀ q, q < 8 → ∃ s, L8[q]? = some s ∧ (⟨(rd ws q s).toArray⟩ : ByteArray) = readB L8 ws q) := fun q hq => by
            obtain ⟨s, hs⟩ : ∃ s, L8[q]? = some s := ⟨_, List.getElem?_eq_getElem (by rw [hl8.out]; exact hq)⟩
            exact ⟨s, hs, by unfold readB; rw [hs]; rfl⟩
          go_wp2_with fail
          go_loopg [11, 53] 8 (fun ga tv i wq => ∃ q : Nat, q ≤ 8 ∧ 8 ≤ q + ga ∧ i = .int .i64 q ∧ Below wo.heap.size wo wq ∧ Hid (wq.ownsRow wo.heap.size 9 1 tv q ((List.range q).map fun i => .string (readB L8 ws i))))
          case atStart => exact ⟨0, by omega, by omega, rfl, Below.refl _ _, Lib.hid ⟨rfl, .inl ⟨rfl, rfl⟩⟩⟩
          case round =>
            obtain ⟨q, hq8, hq, rfl, hbq, howq⟩ := hrel
            generalize wr = wq at *
            generalize gk = g1 at *
            by_cases hlq : q < 8
            · obtain ⟨s, hs, hseenB⟩ := hr8.out q hlq
              have hrd := Lib.hid (read_in (B + 1) B v L8 ws wq q s (ht.out.one.below hbq) hs (by omega))
              rw [hseenB] at hrd
              obtain ⟨S, hS⟩ : ∃ S, Hid (readB L8 ws q = S) := ⟨_, Lib.hid rfl⟩
              rw [hS.out] at hrd
              replace hs := Lib.hid hs
              replace hseenB := Lib.hid hseenB
              have hsq := hbq.size
              go_wp2_with fail
              refine hrd.out.mono ?_
              rintro e w4 ⟨rfl, rfl⟩
              clear hrd
              go_wp2_with (with_reducible refine stopAppend _ _ _ rfl ?_)
              refine Lib.hid ?_
              refine wpList_append_lies _ rfl _ _ 29 rfl wo.heap.size 9 is _ 1 16 Try.underlying29 his hs0 hs1 hs2 rfl (by omega) _ _ _ rfl (howq.out.alloc _) _ 1 1 [.string S] rfl rfl (World.news_of_block (heap_alloc_new _ _)) (by simp [Value.oneCell']) (by omega) (by unfold maxLen; omega) (by omega) (by simp; omega) (wq.heap.size + 1) (by simp) ?_
              intro gg cap2 w5 hown5 hgrow5 hat5 hlt5
              have hbq5 : Below wo.heap.size wo w5 := (((Kept.of_below (own := fun b => wo.heap.size ≤ b) hbq).alloc _).grown hgrow5 (fun k hk => .inl (own_far howq.out k hk))).below (Nat.le_refl _) (fun _ h => h)
              have hown6 : Hid (w5.ownsRow wo.heap.size 9 1 (.slice (some ⟨gg, 0, none⟩) (q + 1) cap2) (q + 1) ((List.range (q + 1)).map fun i => .string (readB L8 ws i))) := by
                rw [List.range_succ, List.map_append, List.map_cons, List.map_nil, hS.out]; exact Lib.hid hown5
              clear hown5 hgrow5 hat5
              go_wp2_with fail
              go_roundg (g1 - 1)
              case measure => omega
              case rel => exact ⟨q + 1, by omega, by omega, by go_num, hbq5, hown6⟩
            · obtain rfl : q = 8 := by omega
              obtain ⟨gg, wcap, rfl, hwc1, hwc2, hwB, hwlt, hwcell⟩ := str_own (by omega) howq.out
              unfold maxLen at hwc2
              have htq := Lib.hid (ht.out.below hbq)
              have hin8 : ∀ p ∈ ws, p.1 < 8 := fun p hp => by have := ht.out.one.within p hp; rw [show (⟨B + 1, B, L8, ws⟩ : One).lie.length = 8 from hl8.out] at this; exact this
              have hall := span_all (len := 8) (ws := ws) hin8
              have hmi1 : ∀ k, wo.heap.size ≤ k → ¬ mine (B + 1) B v k := fun k hk hmi => by have := ht.out.one.mine_lt (k := k) hmi; omega
              have hmi2 : ∀ k, wo.heap.size ≤ k → ¬ mine (D + 1) D u k := fun k hk hmi => by have := ht.out.two.mine_lt (k := k) hmi; omega
              have hfl := flush_in (B + 1) B v L8 ws wq 0 8 htq.out.one (by rw [show L8.length = 8 from hl8.out]; exact Nat.le_refl _) (by omega)
              rw [hall.1, hall.2] at hfl
              replace hall := Lib.hid hall
              replace hwcell := Lib.hid hwcell
              replace hmi1 := Lib.hid hmi1
              replace hmi2 := Lib.hid hmi2
              replace hin8 := Lib.hid hin8
              replace hfl := Lib.hid hfl
              clear howq
              go_wp2_with fail
              refine hfl.out.mono ?_
              rintro e w5 ⟨rfl, hturn⟩
              obtain ⟨v5, ht5⟩ := htq.out.turn hturn
              have hk5 := Lib.hid hturn.kept
              replace ht5 := Lib.hid ht5
              have hbw5 : Below w.heap.size w w5 := hb0.trans ((show Below w0.heap.size w0 w5 by rw [hB.out]; exact ht5.out.bel).mono hb0.size)
              have hkk := Lib.hid (hK.out.below hbw5)
              have hcr := crash_in (D + 1) D u L8 ws w5 0 8 _ kl ht5.out.two (by rw [show L8.length = 8 from hl8.out]; exact Nat.le_refl _) (by omega) hkk.out (fun k hne hk hmi => by have h1 := keeps_far hK.out hne hk; have h2 := ht5.out.low2 k hmi; omega) (by rw [hkm.out]; omega)
              rw [hall.out.1, hall.out.2] at hcr
              replace hcr := Lib.hid hcr
              clear hfl hturn hbw5
              go_wp2_with fail
              refine hcr.out.mono ?_
              rintro e w6 ⟨rfl, hturn⟩
              obtain ⟨u6, ht6⟩ := ht5.out.swap.turn hturn
              have hcell : Hid (∀ q, q < 8 → w6.cell? ⟨gg, q, none⟩ = some (.string (readB L8 ws q))) := fun q hq => by
                have c0 := hwcell.out q (.string (readB L8 ws q)) (by rw [List.getElem?_map, List.getElem?_range hq]; rfl)
                have c1 := (hk5.out.cell hwlt (hmi1.out gg hwB) q).trans c0
                exact (hturn.kept.cell (World.block_lt_of_cell? w5 _ c1) (hmi2.out gg hwB) q).trans c1
              have hl1 : Hid (∀ q, q < 8 → ∃ s, (laid L8 ws)[q]? = some s ∧ (⟨s.toArray⟩ : ByteArray) = readB L8 ws q) := fun q hq => by
                obtain ⟨s, hs, he⟩ := hr8.out q hq
                exact ⟨_, laid_at ws L8 q s hs, he⟩
              have hl2 : Hid (∀ q, q < 8 → ∃ s, (kepts ws L8 kl)[q]? = some s) := fun q hq => ⟨_, List.getElem?_eq_getElem (by rw [kepts_len, hl8.out]; exact hq)⟩
              have hbel6 : Hid (Below w.heap.size w w6) := Lib.hid (hb0.trans ((show Below w0.heap.size w0 w6 by rw [hB.out]; exact ht6.bel).mono hb0.size))
              replace ht6 := Lib.hid ht6
              clear hcr hturn hwcell
              go_wp2_with fail
              go_loopg [74] 8 (fun ga i wz => ∃ q : Nat, q ≤ 8 ∧ 8 ≤ q + ga ∧ i = .int .i64 q ∧ w6 = wz)
              case atStart => exact ⟨0, by omega, by omega, rfl, rfl⟩
              case round =>
                obtain ⟨y, hy8, hyg, rfl, rfl⟩ := hrel
                generalize gk = g3 at *
                by_cases hly : y < 8
                · obtain ⟨s, hs, he⟩ := hl1.out y hly
                  obtain ⟨t, htt⟩ := hl2.out y hly
                  have hcy := hcell.out y hly
                  have hc1 := lies_in (B + 1) B v5 (laid L8 ws) [] w6 y s ht6.out.two hs
                  have hc2 := lies_in (D + 1) D u6 (kepts ws L8 kl) [] w6 y t ht6.out.one htt
                  have hc3 := read_in (D + 1) D u6 (kepts ws L8 kl) [] w6 y t ht6.out.one htt (by decide)
                  rw [show rd [] y t = t from rfl] at hc3
                  rw [he] at hc1
                  obtain ⟨S, hS⟩ : ∃ S, Hid (readB L8 ws y = S) := ⟨_, Lib.hid rfl⟩
                  obtain ⟨T, hT⟩ : ∃ T : ByteArray, Hid (⟨t.toArray⟩ = T) := ⟨_, Lib.hid rfl⟩
                  rw [hS.out] at hc1 hcy
                  rw [hT.out] at hc2 hc3
                  replace hc1 := Lib.hid hc1
                  replace hc2 := Lib.hid hc2
                  replace hc3 := Lib.hid hc3
                  replace hs := Lib.hid hs
                  replace he := Lib.hid he
                  replace htt := Lib.hid htt
                  go_wp2_with fail
                  refine hc1.out.mono ?_
                  rintro e w7 ⟨rfl, rfl⟩
                  go_wp2_with fail
                  refine hc2.out.mono ?_
                  rintro e w7 ⟨rfl, rfl⟩
                  go_wp2_with fail
                  refine hc3.out.mono ?_
                  rintro e w7 ⟨rfl, rfl⟩
                  clear hc1 hc2 hc3
                  go_wp2_with fail
                  go_roundg (g3 - 1)
                  case measure => omega
                  case rel => exact ⟨y + 1, by omega, by omega, by go_num, rfl⟩
                · obtain rfl : y = 8 := by omega
                  have hw1 := waiting_in (B + 1) B v5 (laid L8 ws) [] w6 0 8 ht6.out.two (by rw [laid_len, hl8.out]; exact Nat.le_refl _) (by decide)
                  simp only [List.filter_nil, List.length_nil] at hw1
                  replace hw1 := Lib.hid hw1
                  go_wp2_with fail
                  refine hw1.out.mono ?_
                  rintro e w7 ⟨rfl, hb7⟩
                  have hw2 := waiting_in (D + 1) D u6 (kepts ws L8 kl) [] w7 0 8 (ht6.out.one.below hb7) (by rw [kepts_len, hl8.out]; exact Nat.le_refl _) (by decide)
                  simp only [List.filter_nil, List.length_nil] at hw2
                  replace hw2 := Lib.hid hw2
                  clear hw1
                  go_wp2_with fail
                  refine hw2.out.mono ?_
                  rintro e w8 ⟨rfl, hb8⟩
                  clear hw2
                  go_wp2_with fail
                  refine (torn_any _).mono ?_
                  rintro e w9 ⟨rfl, hb9⟩
                  have z1 := hbel6.out.trans (hb7.mono hbel6.out.size)
                  have z2 := z1.trans (hb8.mono z1.size)
                  have z3 := z2.trans (hb9.mono z2.size)
                  go_wp2_with fail
                  go_ret
                  exact ⟨rfl, z3⟩
  · go_enter Try.func5, Try.ntmps5
    go_wp2_with fail
    refine hL.out.mono ?_
    rintro e w0 ⟨rfl, hb0⟩
    clear hL
    go_wp2_with fail
    refine (torn_any _).mono ?_
    rintro e w1 ⟨rfl, hb1⟩
    have hbel := hb0.trans (hb1.mono hb0.size)
    go_wp2_with fail
    go_ret
    exact ⟨rfl, hbel⟩

theorem own : ownKnob Try.prog.godebug = none := by kernel_rfl
theorem laidOut : laidOutB Try.prog = true := by kernel_rfl

set_option maxRecDepth 100000 in
theorem lifted (os : Os) (started : os.Started) (H : Type) (enc : TypeId × Value → H) :
    ReturnsInHanded {} Try.checked os 5 .any (Rows.diskLastsSpec.pre6 enc Try.prog Try.f5 Rows.diskLastsRow.domain false) (Rows.diskLastsSpec.post enc Try.prog Try.f5 false true false false) := by
  refine returnsInHanded_of_change (C := Try.checked) own started (by kernel_rfl) Try.func5
    (ChangeSpec.witness6 (enc := enc) (C := Try.checked) false ⟨#[], #[.slice none 0 0, .slice none 0 0], []⟩ 8 (by kernel_rfl) (by kernel_rfl) (by kernel_rfl) (by kernel_rfl)) ?_
  intro W base args ds gs before hval0 hW hcnd _
  have hval : ∀ (j : Nat) t v, Try.f5.params[j]? = some t → args[j]? = some v → Value.okWide Try.prog W .any base t v := hval0
  have hW' := hW
  obtain ⟨p, q, hA0, hV, rfl, hfz, hnd⟩ := hW
  have hA : DataW.TrodAll enc Try.prog W 0 (fun _ => true) true Try.f5.params.toList args.toList ds p := hA0
  rw [Try.params5] at hA hval
  obtain ⟨v0, vs0, d0, ds0, p0, q0, hargs, rfl, rfl, h0, r0⟩ := trodAll_cons hA
  obtain ⟨v1, vs1, d1, ds1, p1, q1, rfl, rfl, rfl, h1, r1⟩ := trodAll_cons r0
  obtain ⟨rfl, rfl, rfl⟩ := trodAll_nil r1
  obtain rfl : args = #[v0, v1] := by cases args; simp_all
  obtain ⟨rfl, rfl⟩ := trodVars_none hV
  have k0 := h0
  have lt0 : ∀ x ∈ p0, x.block < W.heap.size := by obtain ⟨m, hm⟩ := k0; exact DataW.trod_lt m _ _ _ hm
  obtain ⟨a0, len0, cap0, rfl⟩ := okWide_slice Try.underlying22 (hval 0 22 v0 rfl rfl)
  obtain ⟨fu0, hf0⟩ := h0
  obtain ⟨xs0, w0⟩ := D.open_acts (show DataW.trod enc Try.prog W 0 (fun _ => true) true fu0 22 [.slice a0 len0 cap0] = some _ from hf0)
  have k1 := h1
  have lt1 : ∀ x ∈ p1, x.block < W.heap.size := by obtain ⟨m, hm⟩ := k1; exact DataW.trod_lt m _ _ _ hm
  obtain ⟨a1, len1, cap1, rfl⟩ := okWide_slice Try.underlying34 (hval 1 34 v1 rfl rfl)
  obtain ⟨fu1, hf1⟩ := h1
  obtain ⟨xs1, w1⟩ := D.open_keeps (show DataW.trod enc Try.prog W 0 (fun _ => true) true fu1 34 [.slice a1 len1 cap1] = some _ from hf1)
  clear hA0 hval0
  refine (walk (.slice a0 len0 cap0) xs0 (.slice a1 len1 cap1) xs1 W w0 w1).mono fun e W' ⟨he, bel⟩ => ?_
  subst he
  exact ⟨_, rfl, _, _, _, [], _, [], hW', trodAll_mk1 (shut_bool Try.underlying4 _), (trodAll_cons_mk (Below.trod laidOut (by kernel_rfl) (of_decide_eq_true (by kernel_rfl)) k0 bel lt0) (trodAll_cons_mk (Below.trod laidOut (by kernel_rfl) (of_decide_eq_true (by kernel_rfl)) k1 bel lt1) trodAll_mk0)), rfl, bel.frame _, fun h => by cases h⟩

theorem over : Rows.diskLastsRow.holds Try.pinned (OpenSpec.ofChange Rows.diskLastsSpec) :=
  OpenClaim.holds_of_wide 5 Try.f5 rfl rfl rfl rfl rfl rfl rfl ⟨rfl, rfl, rfl, rfl, rfl⟩ rfl rfl rfl rfl rfl (by kernel_rfl) Try.func5 (by kernel_rfl)
    (of_decide_eq_true (by kernel_rfl)) (by unfold Func.isWrapper; first | (rw [if_pos (by decide +kernel)]; kernel_rfl) | (rw [if_neg (by decide +kernel)]; exact ⟨rfl, rfl⟩))
    (fun os started H enc _ => lifted os started H enc)

/-- The statement. -/
theorem proved : Rows.DiskLastsSaid := over
#print axioms proved

end Go.Proofs.Ytbhbiejaneencaa.diskLasts
