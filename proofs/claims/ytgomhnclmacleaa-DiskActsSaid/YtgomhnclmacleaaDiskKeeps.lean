/- For every row of acts the law DiskKeeps returns true: a crash that keeps all writes whole, in order, leaves what was read. -/
import Derived.Test.YtgomhnclmacleaaRows
import Derived.Test.YtgomhnclmacleaaRuns
import Derived.ChangeOld
namespace Go.Proofs.Ytgomhnclmacleaa.D
open Go.RowKit
set_option linter.unusedVariables false
theorem infoStr : (Try.prog.info? 9).map (fun i => (i.zero, i.size, i.bytes)) = some (some (.string ByteArray.empty), 1, 16) := by kernel_rfl
theorem infoKeep : (Try.prog.info? 52).map (fun i => (i.zero, i.size, i.bytes)) = some (some (.agg #[.int .i64 0, .int .i64 0]), 2, 16) := by kernel_rfl
theorem keeps_far {w : World} {kv : Value} {kl : List (Int × Int)} (h : Keeps w kv kl) (hne : kl ≠ []) {b : Nat} (hb : kv.ownBlock = some b) : b < w.heap.size := by
  obtain ⟨ka, cap, rfl, _, _, h4⟩ := h.form
  obtain ⟨q, hq⟩ : ∃ q, kl[0]? = some q := by
    cases kl with
    | nil => exact absurd rfl hne
    | cons q l => exact ⟨q, rfl⟩
  obtain ⟨b', o, rfl, h5, _⟩ := h4 0 q hq
  have e2 : b' = b := by simpa [Value.ownBlock] using hb
  omega
theorem large_no {xs : List Act1} (h : largeB xs = false) : xs.length ≤ 40 ∧ ∀ x ∈ xs, x.kl.length ≤ 40 := by
  unfold largeB at h
  rw [Bool.or_eq_false_iff, List.any_eq_false] at h
  refine ⟨by simpa using h.1, fun x hx => ?_⟩
  have := h.2 x hx
  simpa using this
theorem stopMin {P : Program} {w : World} {ops : Array Oper} {rest : List Oper} {o : Oper} {a : Act} {Q : Exit → Act → World → Prop} (x y : Operand) (t u : TypeId)
    (ho : o.op = .call { callee := .builtin .min, args := #[x, y], argTypes := #[t, u] }) (h : Hid (wpList P ops Q (o :: rest) a w)) : wpList P ops Q (o :: rest) a w := h
/-- Keeps, as cells. -/
def krow (q : Int × Int) : List Value := [.int .i64 q.1, .int .i64 q.2]
theorem krow_even (kl : List (Int × Int)) : Even 2 (kl.map krow) := fun r hr => by
  obtain ⟨p, _, rfl⟩ := List.mem_map.1 hr
  rfl
theorem keeps_own {w : World} {B : Nat} {kv : Value} {kl : List (Int × Int)} (h : w.ownsRow B 52 2 kv kl.length (kl.map krow).flatten) : Keeps w kv kl := by
  rcases h.2 with ⟨h1, h2⟩ | ⟨k, cap, cur, h1, hB, h2, h3, h4, h5, h6⟩
  · have : kl = [] := List.eq_nil_of_length_eq_zero h2
    subst this
    exact ⟨none, 0, h1, by decide, by decide, fun j q hq => by simp at hq⟩
  · have hW : Whole w k 52 cur.toList := by simpa [Whole] using h2
    have hlt := hW.lt
    rw [← List.take_append_drop (kl.length * 2) cur.toList, h6] at hW
    refine ⟨some ⟨k, 0, none⟩, cap, h1, h3, h4, fun j q hq => ⟨k, 0, rfl, hlt, ?_⟩⟩
    have hr := row_app hW (krow_even kl) (show (kl.map krow)[j]? = some (krow q) by rw [List.getElem?_map, hq]; rfl)
    rw [Nat.zero_add]
    exact ⟨hr 0 _ rfl, hr 1 _ rfl⟩
theorem str_own {w : World} {B n : Nat} {t : TypeId} {tv : Value} {rows : List Value} (hn : 0 < n) (h : w.ownsRow B t 1 tv n rows) :
    ∃ gg cap, tv = .slice (some ⟨gg, 0, none⟩) n cap ∧ n ≤ cap ∧ cap ≤ maxLen ∧ B ≤ gg ∧ gg < w.heap.size ∧ ∀ i u, rows[i]? = some u → w.cell? ⟨gg, i, none⟩ = some u := by
  rcases h with ⟨h0, ⟨h1, h2⟩ | ⟨k, cap, cur, h1, hB, h2, h3, h4, h5, h6⟩⟩
  · omega
  · have hW : Whole w k t cur.toList := by simpa [Whole] using h2
    refine ⟨k, cap, h1, h3, h4, hB, hW.lt, fun i u hu => ?_⟩
    rw [hW.cell]
    have hi : i < rows.length := (List.getElem?_eq_some_iff.1 hu).1
    rw [← h6, List.getElem?_take, if_pos (by omega)] at hu
    exact hu
/-- What is read of a sector. -/
def readB (lie : List (List UInt8)) (ws : List (Nat × List UInt8)) (i : Nat) : ByteArray := ⟨(rd ws i ((lie[i]?).getD [])).toArray⟩
end Go.Proofs.Ytgomhnclmacleaa.D

namespace Go.Proofs.Ytgomhnclmacleaa.diskKeeps
open Go.ChangeShapes Go.WideShapes Go.ChangeAt Go.RowKit
open Go.Proofs.Ytgomhnclmacleaa.D
set_option linter.unusedVariables false

set_option maxHeartbeats 4000000 in
set_option maxRecDepth 100000 in
theorem walk (av : Value) (xs : List Act1) (w : World) (hA : Acts w av xs) :
    Calls Try.prog 6 #[av] w fun e w' => e = .returned (.bool true) ∧ Below w.heap.size w w' := by
  obtain ⟨is, his, hs0, hs1, hs2⟩ := info_parts infoStr
  obtain ⟨ik, hik, hk0, hk1, hk2⟩ := info_parts infoKeep
  obtain ⟨ka, cap, rfl, hle, hcap, hx⟩ := hA.form
  replace hx := Lib.hid hx
  obtain ⟨m, hm⟩ : ∃ m, Hid (xs.length = m) := ⟨_, Lib.hid rfl⟩
  have hget : Hid (∀ j, j < m → ∃ q, xs[j]? = some q) := fun j hj => ⟨_, List.getElem?_eq_getElem (by rw [hm.out]; exact hj)⟩
  unfold maxLen at hcap
  have hL := large_any _ xs w hA
  rw [hm.out] at hle hL ⊢
  clear hA
  replace hL := Lib.hid hL
  cases hlb : largeB xs <;> rw [hlb] at hL <;> replace hlb := Lib.hid hlb
  · obtain ⟨hx40, hk40⟩ := large_no hlb.out
    rw [hm.out] at hx40
    replace hk40 := Lib.hid hk40
    go_enter Try.func6, Try.ntmps6
    go_wp2_with fail
    refine hL.out.mono ?_
    rintro e w0 ⟨rfl, hb0⟩
    clear hL
    go_wp2_with fail
    refine (new_in 8 _ (by decide) (by decide)).mono ?_
    rintro e w1 ⟨rfl, hd1, hb1⟩
    have hsz0 := hb0.size
    obtain ⟨B, hB⟩ : ∃ B, Hid (w0.heap.size = B) := ⟨_, Lib.hid rfl⟩
    rw [hB.out] at hd1 hb1 hsz0
    rw [hB.out]
    have hown1 : Hid (Own B w0 w1 (B + 1) B (runs (zeros 8) (xs.take 0)).1 (runs (zeros 8) (xs.take 0)).2) := Lib.hid ⟨⟨_, hd1, fun k hk => by cases hk⟩, hb1⟩
    have hB1 : B ≤ w1.heap.size := by have := hd1.lying.lt; omega
    clear hd1
    go_wp2_with fail
    go_loopg [26] m (fun ga i wr => ∃ j : Nat, j ≤ m ∧ m ≤ j + ga ∧ i = .int .i64 j ∧ B ≤ wr.heap.size ∧ Hid (Own B w0 wr (B + 1) B (runs (zeros 8) (xs.take j)).1 (runs (zeros 8) (xs.take j)).2) ∧ (runs (zeros 8) (xs.take j)).2.length ≤ j ∧ Hid ((runs (zeros 8) (xs.take j)).1.length = 8))
    case atStart => exact ⟨0, by omega, by omega, rfl, hB1, hown1, by simp [runs], Lib.hid (by simp [runs, zeros])⟩
    case round =>
      obtain ⟨j, hj, hg, rfl, hBr, hown, hwl, hl8⟩ := hrel
      clear hown1 hb1 hB1
      by_cases hlt : j < m
      · obtain ⟨x, hxj⟩ := hget.out j hlt
        obtain ⟨⟨v, hdk, hvo⟩, hbr⟩ := hown.out
        have hbw : Below w.heap.size w wr := hb0.trans ((show Below w0.heap.size w0 wr by rw [hB.out]; exact hbr).mono hb0.size)
        obtain ⟨hat, b, o, kv, rfl, hbl, k0, k1, k2, k3, k4, hkv⟩ := hx.out j x hxj
        obtain ⟨kka, kcap, rfl⟩ := hkv.len
        have r0 := keepCell hbw k0
        have r1 := keepCell hbw k1
        have r2 := keepCell hbw k2
        have r3 := keepCell hbw k3
        have r4 := keepCell hbw k4
        have hks := hk40.out x (List.mem_of_getElem? hxj)
        have hst : Hid (runs (zeros 8) (xs.take (j + 1)) = (actL (runs (zeros 8) (xs.take j)).1 (runs (zeros 8) (xs.take j)).2 x, actW (runs (zeros 8) (xs.take j)).1.length (runs (zeros 8) (xs.take j)).2 x)) := by
          rw [List.take_add_one, hxj, show (some x).toList = [x] from rfl, runs_snoc]; exact Lib.hid rfl
        have hkw := Lib.hid (hkv.below hbw)
        have hkn : Hid (∀ k, x.kl ≠ [] → (Value.slice kka x.kl.length kcap).ownBlock = some k → ¬ mine (B + 1) B v k) := fun k hne hk hmi => by
          have h1 := keeps_far hkv hne hk
          rcases hmi with e | e | e
          · omega
          · omega
          · have := hvo k e; omega
        clear k0 k1 k2 k3 k4 hkv
        replace hxj := Lib.hid hxj
        replace hdk := Lib.hid hdk
        replace hvo := Lib.hid hvo
        have hbal := allocBelow wr (.cells #[.int .i64 x.kind, .int .i64 x.at_, .int .i64 x.n, .int .u8 (x.c.toNat : Int), .slice kka x.kl.length kcap] 36)
        go_wp2_with fail
        refine (done_any (B + 1) B v _ _ _ x.kind x.at_ x.n x.c _ x.kl (hdk.out.below hbal) hat (by omega) (hkw.out.below hbal) hkn.out (by omega)).mono ?_
        rintro e w3 ⟨rfl, hdid⟩
        have hown3 : Hid (Own B w0 w3 (B + 1) B (runs (zeros 8) (xs.take (j + 1))).1 (runs (zeros 8) (xs.take (j + 1))).2) := by
          rw [hst.out]
          exact Lib.hid (Own.turned (by omega) (Nat.le_refl _) hvo.out (hbr.trans (hbal.mono hBr)) (Nat.le_trans hBr hbal.size) hdid)
        have hB3 : B ≤ w3.heap.size := Nat.le_trans (Nat.le_trans hBr hbal.size) hdid.kept.size
        have hwl3 : (runs (zeros 8) (xs.take (j + 1))).2.length ≤ j + 1 := by
          rw [hst.out]
          exact Nat.le_trans (actW_len _ _ _) (by omega)
        have hl83 : Hid ((runs (zeros 8) (xs.take (j + 1))).1.length = 8) := by
          rw [hst.out]
          exact Lib.hid ((actL_len _ _ _).trans hl8.out)
        clear hdid hst r0 r1 r2 r3 r4 hwl hbal hbw hbr
        go_wp2_with fail
        go_roundg (gk - 1)
        case measure => omega
        case rel => exact ⟨j + 1, by omega, by omega, by go_num, hB3, hown3, hwl3, hl83⟩
      · obtain rfl : j = m := by omega
        have htk : xs.take j = xs := by rw [← hm.out, List.take_length]
        rw [htk] at hown hwl hl8
        clear htk
        generalize wr = wo at *
        generalize gk = g0 at *
        obtain ⟨L8, hL8⟩ : ∃ L, Hid ((runs (zeros 8) xs).1 = L) := ⟨_, Lib.hid rfl⟩
        obtain ⟨ws, hws⟩ : ∃ L, Hid ((runs (zeros 8) xs).2 = L) := ⟨_, Lib.hid rfl⟩
        rw [hL8.out, hws.out] at hown
        rw [hws.out] at hwl
        rw [hL8.out] at hl8
        obtain ⟨⟨v, hdk, hvo⟩, hbr⟩ := hown.out
        replace hdk := Lib.hid hdk
        replace hvo := Lib.hid hvo
        clear hown hL8 hws hx
        have hr8 : Hid (∀ q, q < 8 → ∃ s, L8[q]? = some s ∧ (⟨(rd ws q s).toArray⟩ : ByteArray) = readB L8 ws q) := fun q hq => by
          obtain ⟨s, hs⟩ : ∃ s, L8[q]? = some s := ⟨_, List.getElem?_eq_getElem (by rw [hl8.out]; exact hq)⟩
          exact ⟨s, hs, by unfold readB; rw [hs]; rfl⟩
        go_wp2_with fail
        go_loopg [7, 34] 8 (fun ga tv i wq => ∃ q : Nat, q ≤ 8 ∧ 8 ≤ q + ga ∧ i = .int .i64 q ∧ Below wo.heap.size wo wq ∧ Hid (wq.ownsRow wo.heap.size 9 1 tv q ((List.range q).map fun i => .string (readB L8 ws i))))
        case atStart => exact ⟨0, by omega, by omega, rfl, Below.refl _ _, Lib.hid ⟨rfl, .inl ⟨rfl, rfl⟩⟩⟩
        case round =>
          obtain ⟨q, hq8, hq, rfl, hbq, howq⟩ := hrel
          generalize wr = wq at *
          generalize gk = g1 at *
          by_cases hlq : q < 8
          · obtain ⟨s, hs, hseenB⟩ := hr8.out q hlq
            have hrd := Lib.hid (read_in (B + 1) B v L8 ws wq q s (hdk.out.below hbq) hs (by omega))
            rw [hseenB] at hrd
            obtain ⟨S, hS⟩ : ∃ S, Hid (readB L8 ws q = S) := ⟨_, Lib.hid rfl⟩
            rw [hS.out] at hrd
            replace hs := Lib.hid hs
            replace hseenB := Lib.hid hseenB
            have hsq := hbq.size
            go_wp2_with fail
            refine hrd.out.mono ?_
            rintro e w4 ⟨rfl, rfl⟩
            clear hrd
            go_wp2_with (with_reducible refine stopAppend _ _ _ rfl ?_)
            refine Lib.hid ?_
            refine wpList_append_lies _ rfl _ _ 29 rfl wo.heap.size 9 is _ 1 16 Try.underlying29 his hs0 hs1 hs2 rfl (by omega) _ _ _ rfl (howq.out.alloc _) _ 1 1 [.string S] rfl rfl (World.news_of_block (heap_alloc_new _ _)) (by simp [Value.oneCell']) (by omega) (by unfold maxLen; omega) (by omega) (by simp; omega) (wq.heap.size + 1) (by simp) ?_
            intro gg cap2 w5 hown5 hgrow5 hat5 hlt5
            have hbq5 : Below wo.heap.size wo w5 := (((Kept.of_below (own := fun b => wo.heap.size ≤ b) hbq).alloc _).grown hgrow5 (fun k hk => .inl (own_far howq.out k hk))).below (Nat.le_refl _) (fun _ h => h)
            have hown6 : Hid (w5.ownsRow wo.heap.size 9 1 (.slice (some ⟨gg, 0, none⟩) (q + 1) cap2) (q + 1) ((List.range (q + 1)).map fun i => .string (readB L8 ws i))) := by
              rw [List.range_succ, List.map_append, List.map_cons, List.map_nil, hS.out]; exact Lib.hid hown5
            clear hown5 hgrow5 hat5
            go_wp2_with fail
            go_roundg (g1 - 1)
            case measure => omega
            case rel => exact ⟨q + 1, by omega, by omega, by go_num, hbq5, hown6⟩
          · obtain rfl : q = 8 := by omega
            obtain ⟨gg, wcap, rfl, hwc1, hwc2, hwB, hwlt, hwcell⟩ := str_own (by omega) howq.out
            unfold maxLen at hwc2
            have hdq := Lib.hid (hdk.out.below hbq)
            have hall := span_all (len := 8) (ws := ws) (fun p hp => by have := hdk.out.within p hp; rw [hl8.out] at this; exact this)
            have hwt := Lib.hid (waiting_in (B + 1) B v L8 ws wq 0 8 hdq.out (by rw [hl8.out]; exact Nat.le_refl _) (by omega))
            rw [hall.1] at hwt
            obtain ⟨n, hn⟩ : ∃ n, Hid (ws.length = n) := ⟨_, Lib.hid rfl⟩
            rw [hn.out] at hwt hwl
            have hmin : Hid (min (n : Int) 100 = (n : Int)) := Lib.hid (by omega)
            replace hall := Lib.hid hall
            replace hwcell := Lib.hid hwcell
            have hsq := hbq.size
            clear howq
            go_wp2_with fail
            refine hwt.out.mono ?_
            rintro e w4 ⟨rfl, hb4⟩
            clear hwt
            go_wp2_with (with_reducible refine stopMin _ _ _ _ rfl ?_)
            refine Lib.hid ?_
            refine wpList_min rfl _ _ _ _ rfl (n : Int) 100 rfl rfl ?_
            rw [hmin.out]
            go_wp2_with fail
            go_loopg [11, 53] n (fun ga kv i we => ∃ q : Nat, q ≤ n ∧ n ≤ q + ga ∧ i = .int .i64 q ∧ Below w4.heap.size w4 we ∧ Hid (we.ownsRow w4.heap.size 52 2 kv q ((allKeeps q).map krow).flatten))
            case atStart => exact ⟨0, by omega, by omega, rfl, Below.refl _ _, Lib.hid ⟨rfl, .inl ⟨rfl, rfl⟩⟩⟩
            case round =>
              obtain ⟨z, hzn, hzg, rfl, hbe, howe⟩ := hrel
              generalize wr = we at *
              generalize gk = g2 at *
              have hse := hbe.size
              by_cases hlz : z < n
              · go_wp2_with (with_reducible refine stopAppend _ _ _ rfl ?_)
                refine Lib.hid ?_
                refine wpList_append_lies _ rfl _ _ 34 rfl w4.heap.size 52 ik _ 2 16 Try.underlying34 hik hk0 hk1 hk2 rfl (by omega) _ _ _ rfl (howe.out.alloc _) _ 1 1 (krow ((z : Int), (64 : Int))) rfl rfl (World.news_of_block (heap_alloc_new _ _)) (by simp [krow, Value.oneCell']) (by omega) (by unfold maxLen; omega) (by omega) (by simp; omega) (we.heap.size + 1) (by simp) ?_
                intro ge cap2 w5 hown5 hgrow5 hat5 hlt5
                have hbe5 : Below w4.heap.size w4 w5 := (((Kept.of_below (own := fun b => w4.heap.size ≤ b) hbe).alloc _).grown hgrow5 (fun k hk => .inl (own_far howe.out k hk))).below (Nat.le_refl _) (fun _ h => h)
                have hown6 : Hid (w5.ownsRow w4.heap.size 52 2 (.slice (some ⟨ge, 0, none⟩) (z + 1) cap2) (z + 1) ((allKeeps (z + 1)).map krow).flatten) := by
                  rw [allKeeps_succ, List.map_append, List.flatten_append, List.map_cons, List.map_nil, List.flatten_cons, List.flatten_nil, List.append_nil]; exact Lib.hid hown5
                clear hown5 hgrow5 hat5
                go_wp2_with fail
                go_roundg (g2 - 1)
                case measure => omega
                case rel => exact ⟨z + 1, by omega, by omega, by go_num, hbe5, hown6⟩
              · obtain rfl : z = n := by omega
                have hde := Lib.hid (hdq.out.below (hb4.trans (hbe.mono hb4.size)))
                have hs4 := hb4.size
                have hdl := hdk.out.obj.lt
                have hgl := hdk.out.lying.lt
                have howe' := howe.out
                have hol := own_far howe'
                rw [show we.ownsRow w4.heap.size 52 2 u11 z = we.ownsRow w4.heap.size 52 2 u11 (allKeeps z).length by rw [allKeeps_len]] at howe'
                have hkee := Lib.hid (keeps_own howe')
                have hmi : ∀ k, wo.heap.size ≤ k → ¬ mine (B + 1) B v k := fun k hk hmi => by
                  rcases hmi with e | e | e
                  · omega
                  · omega
                  · have := hdk.out.own_lt k e; omega
                have hkn : Hid (∀ k, allKeeps z ≠ [] → u11.ownBlock = some k → ¬ mine (B + 1) B v k) := fun k _ hk => hmi k (by have := hol k hk; omega)
                replace hol := Lib.hid hol
                replace hmi := Lib.hid hmi
                clear howe'
                go_wp2_with fail
                refine (crash_in (B + 1) B v L8 ws _ 0 8 _ (allKeeps z) hde.out (by rw [hl8.out]; exact Nat.le_refl _) (by rw [hn.out]; omega) hkee.out hkn.out (by rw [allKeeps_len]; omega)).mono ?_
                rintro e w5 ⟨rfl, v5, hd5, hv5, hk5⟩
                rw [hall.out.1, hall.out.2] at hd5
                have hsee : Hid (∀ q, q < 8 → ∃ s, (kepts ws L8 (allKeeps z))[q]? = some s ∧ (⟨(rd [] q s).toArray⟩ : ByteArray) = readB L8 ws q) := fun q hq => by
                  obtain ⟨s, hs, he⟩ := hr8.out q hq
                  refine ⟨_, by rw [← hn.out]; exact kept_all_read hdk.out.lie64 hdk.out.ws64 hdk.out.within hs, ?_⟩
                  rw [← he]; rfl
                have hkall : Kept (fun b => B ≤ b) w0 w5 := by
                  have p1 : Kept (fun b => B ≤ b) w0 wo := Kept.of_below (show Below w0.heap.size w0 wo by rw [hB.out]; exact hbr)
                  have p2 : Kept (fun b => B ≤ b) wo wq := Kept.of_below hbq
                  have p3 : Kept (fun b => B ≤ b) wq we := Kept.of_below (hb4.trans (hbe.mono hb4.size))
                  refine p1.trans (p2.trans (p3.trans (hk5.mono fun b _ hm' => ?_)))
                  rcases hm' with e | e | e
                  · omega
                  · omega
                  · exact hvo.out b e
                have hbel5 : Below w.heap.size w w5 := hb0.trans ((show Below w0.heap.size w0 w5 by rw [hB.out]; exact hkall.below (Nat.le_of_eq hB.out.symm) (fun _ h => h)).mono hb0.size)
                have hcell : Hid (∀ q, q < 8 → w5.cell? ⟨gg, q, none⟩ = some (.string (readB L8 ws q))) := fun q hq => by
                  have c0 := hwcell.out q (.string (readB L8 ws q)) (by rw [List.getElem?_map, List.getElem?_range hq]; rfl)
                  have c1 := keepCell hb4 c0
                  have c2 := keepCell hbe c1
                  exact (hk5.cell (World.block_lt_of_cell? we _ c2) (hmi.out gg hwB) q).trans c2
                replace hd5 := Lib.hid hd5
                replace hbel5 := Lib.hid hbel5
                clear hk5 hv5 hkall hwcell
                go_wp2_with fail
                go_loopg [65] 8 (fun ga i wz => ∃ q : Nat, q ≤ 8 ∧ 8 ≤ q + ga ∧ i = .int .i64 q ∧ w5 = wz)
                case atStart => exact ⟨0, by omega, by omega, rfl, rfl⟩
                case round =>
                  obtain ⟨y, hy8, hyg, rfl, rfl⟩ := hrel
                  generalize gk = g3 at *
                  by_cases hly : y < 8
                  · obtain ⟨s, hs, he⟩ := hsee.out y hly
                    have hcy := hcell.out y hly
                    have hrd := read_in (B + 1) B v5 _ [] w5 y s hd5.out hs (by decide)
                    rw [he] at hrd
                    obtain ⟨S, hS⟩ : ∃ S, Hid (readB L8 ws y = S) := ⟨_, Lib.hid rfl⟩
                    rw [hS.out] at hrd hcy
                    replace hrd := Lib.hid hrd
                    replace hs := Lib.hid hs
                    replace he := Lib.hid he
                    go_wp2_with fail
                    refine hrd.out.mono ?_
                    rintro e w6 ⟨rfl, rfl⟩
                    clear hrd
                    go_wp2_with fail
                    go_roundg (g3 - 1)
                    case measure => omega
                    case rel => exact ⟨y + 1, by omega, by omega, by go_num, rfl⟩
                  · obtain rfl : y = 8 := by omega
                    go_wp2_with fail
                    refine (torn_any _).mono ?_
                    rintro e w6 ⟨rfl, hb6⟩
                    have hbel6 := hbel5.out.trans (hb6.mono hbel5.out.size)
                    go_wp2_with fail
                    go_ret
                    exact ⟨rfl, hbel6⟩
  · go_enter Try.func6, Try.ntmps6
    go_wp2_with fail
    refine hL.out.mono ?_
    rintro e w0 ⟨rfl, hb0⟩
    clear hL
    go_wp2_with fail
    refine (torn_any _).mono ?_
    rintro e w1 ⟨rfl, hb1⟩
    have hbel := hb0.trans (hb1.mono hb0.size)
    go_wp2_with fail
    go_ret
    exact ⟨rfl, hbel⟩

theorem own : ownKnob Try.prog.godebug = none := by kernel_rfl
theorem laidOut : laidOutB Try.prog = true := by kernel_rfl

set_option maxRecDepth 100000 in
theorem lifted (os : Os) (started : os.Started) (H : Type) (enc : TypeId × Value → H) :
    ReturnsInHanded {} Try.checked os 6 .any (Rows.diskKeepsSpec.pre6 enc Try.prog Try.f6 Rows.diskKeepsRow.domain false) (Rows.diskKeepsSpec.post enc Try.prog Try.f6 false true false false) := by
  refine returnsInHanded_of_change (C := Try.checked) own started (by kernel_rfl) Try.func6
    (ChangeSpec.witness6 (enc := enc) (C := Try.checked) false ⟨#[], #[.slice none 0 0], []⟩ 8 (by kernel_rfl) (by kernel_rfl) (by kernel_rfl) (by kernel_rfl)) ?_
  intro W base args ds gs before hval0 hW hcnd _
  have hval : ∀ (j : Nat) t v, Try.f6.params[j]? = some t → args[j]? = some v → Value.okWide Try.prog W .any base t v := hval0
  have hW' := hW
  obtain ⟨p, q, hA0, hV, rfl, hfz, hnd⟩ := hW
  have hA : DataW.TrodAll enc Try.prog W 0 (fun _ => true) true Try.f6.params.toList args.toList ds p := hA0
  rw [Try.params6] at hA hval
  obtain ⟨v0, vs0, d0, ds0, p0, q0, hargs, rfl, rfl, h0, r0⟩ := trodAll_cons hA
  obtain ⟨rfl, rfl, rfl⟩ := trodAll_nil r0
  obtain rfl : args = #[v0] := by cases args; simp_all
  obtain ⟨rfl, rfl⟩ := trodVars_none hV
  have k0 := h0
  have lt0 : ∀ x ∈ p0, x.block < W.heap.size := by obtain ⟨m, hm⟩ := k0; exact DataW.trod_lt m _ _ _ hm
  obtain ⟨a0, len0, cap0, rfl⟩ := okWide_slice Try.underlying22 (hval 0 22 v0 rfl rfl)
  obtain ⟨fu0, hf0⟩ := h0
  obtain ⟨xs0, w0⟩ := D.open_acts (show DataW.trod enc Try.prog W 0 (fun _ => true) true fu0 22 [.slice a0 len0 cap0] = some _ from hf0)
  clear hA0 hval0
  refine (walk (.slice a0 len0 cap0) xs0 W w0).mono fun e W' ⟨he, bel⟩ => ?_
  subst he
  exact ⟨_, rfl, _, _, _, [], _, [], hW', trodAll_mk1 (shut_bool Try.underlying4 _), (trodAll_cons_mk (Below.trod laidOut (by kernel_rfl) (of_decide_eq_true (by kernel_rfl)) k0 bel lt0) trodAll_mk0), rfl, bel.frame _, fun h => by cases h⟩

theorem over : Rows.diskKeepsRow.holds Try.pinned (OpenSpec.ofChange Rows.diskKeepsSpec) :=
  OpenClaim.holds_of_wide 6 Try.f6 rfl rfl rfl rfl rfl rfl rfl ⟨rfl, rfl, rfl, rfl, rfl⟩ rfl rfl rfl rfl rfl (by kernel_rfl) Try.func6 (by kernel_rfl)
    (of_decide_eq_true (by kernel_rfl)) (by unfold Func.isWrapper; first | (rw [if_pos (by decide +kernel)]; kernel_rfl) | (rw [if_neg (by decide +kernel)]; exact ⟨rfl, rfl⟩))
    (fun os started H enc _ => lifted os started H enc)

/-- The statement. -/
theorem proved : Rows.DiskKeepsSaid := over
#print axioms proved

end Go.Proofs.Ytgomhnclmacleaa.diskKeeps
