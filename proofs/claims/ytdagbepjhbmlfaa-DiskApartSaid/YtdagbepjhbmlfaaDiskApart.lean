/- For every row of acts and every act the law DiskApart returns true: what is done with a span changes nothing of a sector beyond it. -/
import Derived.Test.YtdagbepjhbmlfaaRows
import Derived.Test.YtdagbepjhbmlfaaDiskKeeps
import Derived.Test.YtdagbepjhbmlfaaApart
namespace Go.Proofs.Ytdagbepjhbmlfaa.D
open Go.RowKit
set_option linter.unusedVariables false
theorem own_blk_lt {w : World} {B n size : Nat} {t : TypeId} {tv : Value} {rows : List Value} (h : w.ownsRow B t size tv n rows) : ∀ k, tv.ownBlock = some k → k < w.heap.size := fun k hk => by
  rcases h with ⟨h0, ⟨rfl, h2⟩ | ⟨g, cap, cur, rfl, hB, h2, h3⟩⟩
  · cases hk
  · have e2 : g = k := by simpa [Value.ownBlock] using hk
    subst e2
    exact (Array.getElem?_eq_some_iff.1 h2).1
theorem ownForm {w : World} {B n size : Nat} {t : TypeId} {tv : Value} {rows : List Value} (h : w.ownsRow B t size tv n rows) : (tv = .slice none 0 0 ∧ n = 0) ∨ ∃ g cap, tv = .slice (some ⟨g, 0, none⟩) n cap := by
  rcases h with ⟨_, h1 | ⟨g, cap, cur, rfl, _⟩⟩
  · exact .inl h1
  · exact .inr ⟨g, cap, rfl⟩
/-- What lies in a sector. -/
def liesB (lie : List (List UInt8)) (i : Nat) : ByteArray := ⟨((lie[i]?).getD []).toArray⟩
theorem apart_bytes {LL : List (List UInt8)} {ws : List (Nat × List UInt8)} {k : Int} {f nn : Nat} (hk : k = 1 ∨ k = 2) (hok : spanOk LL.length f nn) (hl : LL.length = 12) (c : UInt8) (kl : List (Int × Int)) {q : Nat} (hq : q < 12) :
    ∃ s, (actL LL ws ⟨k, f, nn, c, kl⟩)[q]? = some s ∧ (¬ (f ≤ q ∧ q < f + nn) → (⟨(rd (actW LL.length ws ⟨k, f, nn, c, kl⟩) q s).toArray⟩ : ByteArray) = readB LL ws q ∧ (⟨s.toArray⟩ : ByteArray) = liesB LL q) := by
  obtain ⟨s, hs⟩ : ∃ s, (actL LL ws ⟨k, f, nn, c, kl⟩)[q]? = some s := ⟨_, List.getElem?_eq_getElem (by rw [actL_len]; omega)⟩
  refine ⟨s, hs, fun h => ?_⟩
  obtain ⟨h1, h2⟩ := act_apart (lie := LL) (ws := ws) f nn c kl hk hok h
  rw [hs] at h1
  unfold readB liesB
  rw [← h1, h2]
  exact ⟨rfl, rfl⟩
theorem apart_disk {w : World} {d g : Nat} {v : Value} {LL : List (List UInt8)} {ws : List (Nat × List UInt8)} {k : Int} {f nn : Nat} {c : UInt8} {kl : List (Int × Int)} (hd : Dk w d g v (actL LL ws ⟨k, f, nn, c, kl⟩) (actW LL.length ws ⟨k, f, nn, c, kl⟩)) (hk : k = 1 ∨ k = 2) (hok : spanOk LL.length f nn) (hl : LL.length = 12) :
    ∃ L7 W7, Dk w d g v L7 W7 ∧ W7.length ≤ ws.length + 1 ∧ ∀ q, q < 12 → ∃ s, L7[q]? = some s ∧ (¬ (f ≤ q ∧ q < f + nn) → (⟨(rd W7 q s).toArray⟩ : ByteArray) = readB LL ws q ∧ (⟨s.toArray⟩ : ByteArray) = liesB LL q) :=
  ⟨_, _, hd, actW_len _ _ _, fun q hq => apart_bytes hk hok hl c kl hq⟩
end Go.Proofs.Ytdagbepjhbmlfaa.D

namespace Go.Proofs.Ytdagbepjhbmlfaa.diskApart
open Go.ChangeShapes Go.WideShapes Go.ChangeAt Go.RowKit
open Go.Proofs.Ytdagbepjhbmlfaa.D
set_option linter.unusedVariables false

set_option maxHeartbeats 2000000 in
set_option maxRecDepth 100000 in
/-- Where the law answers by torn alone. -/
theorem walk_torn (av : Value) (xs : List Act1) (k at_ n : Int) (c : UInt8) (kv : Value) (kl : List (Int × Int)) (w : World) (hA : Acts w av xs) (hK : Keeps w kv kl) (h : largeB xs = true ∨ (k ≠ 1 ∧ k ≠ 2) ∨ 40 < kl.length) :
    Calls Try.prog 4 #[av, actV k at_ n c kv] w fun e w' => e = .returned (.bool true) ∧ Below w.heap.size w w' := by
  obtain ⟨kka, kkc, rfl⟩ := hK.len
  obtain ⟨km, hkm⟩ : ∃ m, Hid (kl.length = m) := ⟨_, Lib.hid rfl⟩
  rw [hkm.out] at h ⊢
  obtain ⟨W, hW⟩ : ∃ W, Hid (W = w.alloc (.cells #[.int .i64 k, .int .i64 at_, .int .i64 n, .int .u8 (c.toNat : Int), .slice kka km kkc] 36)) := ⟨_, Lib.hid rfl⟩
  have hbW : Below w.heap.size w W := by rw [hW.out]; exact allocBelow w _
  have hall := fun i => (Whole.new w 36 [.int .i64 k, .int .i64 at_, .int .i64 n, .int .u8 (c.toNat : Int), .slice kka km kkc]).cell i
  have c0 : W.cell? ⟨w.heap.size, 0, none⟩ = some (.int .i64 k) := by rw [hW.out]; exact hall 0
  have c4 : W.cell? ⟨w.heap.size, 4, none⟩ = some (.slice kka km kkc) := by rw [hW.out]; exact hall 4
  clear hall hK
  have hL := Lib.hid (large_any _ xs W (hA.below hbW))
  clear hA
  have hfin : Hid (∀ w0 w1, Below W.heap.size W w0 → Below w0.heap.size w0 w1 → Below w.heap.size w w1) := fun w0 w1 h1 h2 => hbW.trans ((h1.trans (h2.mono h1.size)).mono hbW.size)
  cases hlb : largeB xs <;> rw [hlb] at hL h <;> replace hlb := Lib.hid hlb
  · by_cases k1 : k = 1
    · subst k1
      have hg : 40 < km := by rcases h with h | h | h <;> simp_all
      clear h
      go_enter Try.func4, Try.ntmps4
      go_wp2_with fail
      rw [← hW.out]
      refine hL.out.mono ?_
      rintro e w0 ⟨rfl, hb0⟩
      have d0 := keepCell hb0 c0
      have d4 := keepCell hb0 c4
      clear hL hW
      go_wp2_with fail
      refine (torn_any _).mono ?_
      rintro e w1 ⟨rfl, hb1⟩
      have hbel := hfin.out w0 w1 hb0 hb1
      go_wp2_with fail
      go_ret
      exact ⟨rfl, hbel⟩
    · have n1 : (k != 1) = true := by simpa using k1
      by_cases k2 : k = 2
      · subst k2
        have hg : 40 < km := by rcases h with h | h | h <;> simp_all
        clear h
        go_enter Try.func4, Try.ntmps4
        go_wp2_with fail
        rw [← hW.out]
        refine hL.out.mono ?_
        rintro e w0 ⟨rfl, hb0⟩
        have d0 := keepCell hb0 c0
        have d4 := keepCell hb0 c4
        clear hL hW
        go_wp2_with fail
        refine (torn_any _).mono ?_
        rintro e w1 ⟨rfl, hb1⟩
        have hbel := hfin.out w0 w1 hb0 hb1
        go_wp2_with fail
        go_ret
        exact ⟨rfl, hbel⟩
      · have n2 : (k != 2) = true := by simpa using k2
        clear h
        go_enter Try.func4, Try.ntmps4
        go_wp2_with fail
        rw [← hW.out]
        refine hL.out.mono ?_
        rintro e w0 ⟨rfl, hb0⟩
        have d0 := keepCell hb0 c0
        have d4 := keepCell hb0 c4
        clear hL hW
        go_wp2_with fail
        refine (torn_any _).mono ?_
        rintro e w1 ⟨rfl, hb1⟩
        have hbel := hfin.out w0 w1 hb0 hb1
        go_wp2_with fail
        go_ret
        exact ⟨rfl, hbel⟩
  · clear h
    go_enter Try.func4, Try.ntmps4
    go_wp2_with fail
    rw [← hW.out]
    refine hL.out.mono ?_
    rintro e w0 ⟨rfl, hb0⟩
    have d0 := keepCell hb0 c0
    have d4 := keepCell hb0 c4
    clear hL hW
    go_wp2_with fail
    refine (torn_any _).mono ?_
    rintro e w1 ⟨rfl, hb1⟩
    have hbel := hfin.out w0 w1 hb0 hb1
    go_wp2_with fail
    go_ret
    exact ⟨rfl, hbel⟩

set_option maxHeartbeats 6000000 in
set_option maxRecDepth 100000 in
theorem walk_main (av : Value) (xs : List Act1) (k at_ n : Int) (c : UInt8) (kv : Value) (kl : List (Int × Int)) (w : World) (hA : Acts w av xs) (hK : Keeps w kv kl) (hbig : at_ ≤ 9223372036854775807) (hlb : Hid (largeB xs = false)) (hkk : k = 1 ∨ k = 2) (hkl : kl.length ≤ 40) :
    Calls Try.prog 4 #[av, actV k at_ n c kv] w fun e w' => e = .returned (.bool true) ∧ Below w.heap.size w w' := by
  obtain ⟨is, his, hs0, hs1, hs2⟩ := info_parts infoStr
  obtain ⟨kka, kkc, rfl⟩ := hK.len
  obtain ⟨W, hW⟩ : ∃ W, Hid (W = w.alloc (.cells #[.int .i64 k, .int .i64 at_, .int .i64 n, .int .u8 (c.toNat : Int), .slice kka kl.length kkc] 36)) := ⟨_, Lib.hid rfl⟩
  have hbW : Below w.heap.size w W := by rw [hW.out]; exact allocBelow w _
  have hWs : W.heap.size = w.heap.size + 1 := by rw [hW.out]; simp
  have hall := fun i => (Whole.new w 36 [.int .i64 k, .int .i64 at_, .int .i64 n, .int .u8 (c.toNat : Int), .slice kka kl.length kkc]).cell i
  have c0 : W.cell? ⟨w.heap.size, 0, none⟩ = some (.int .i64 k) := by rw [hW.out]; exact hall 0
  have c1 : W.cell? ⟨w.heap.size, 1, none⟩ = some (.int .i64 at_) := by rw [hW.out]; exact hall 1
  have c2 : W.cell? ⟨w.heap.size, 2, none⟩ = some (.int .i64 n) := by rw [hW.out]; exact hall 2
  have c3 : W.cell? ⟨w.heap.size, 3, none⟩ = some (.int .u8 (c.toNat : Int)) := by rw [hW.out]; exact hall 3
  have c4 : W.cell? ⟨w.heap.size, 4, none⟩ = some (.slice kka kl.length kkc) := by rw [hW.out]; exact hall 4
  clear hall
  have hA1 := hA.below hbW
  obtain ⟨ka, cap, rfl, hle, hcap, hx⟩ := hA1.form
  replace hx := Lib.hid hx
  obtain ⟨m, hm⟩ : ∃ m, Hid (xs.length = m) := ⟨_, Lib.hid rfl⟩
  have hget : Hid (∀ j, j < m → ∃ q, xs[j]? = some q) := fun j hj => ⟨_, List.getElem?_eq_getElem (by rw [hm.out]; exact hj)⟩
  unfold maxLen at hcap
  have hL := large_any _ xs W hA1
  rw [hlb.out] at hL
  rw [hm.out] at hle hL ⊢
  obtain ⟨hx40, hk40⟩ := large_no hlb.out
  rw [hm.out] at hx40
  replace hk40 := Lib.hid hk40
  clear hA hA1
  replace hL := Lib.hid hL
  replace hK := Lib.hid (hK.below hbW)
  obtain ⟨km, hkm⟩ : ∃ m, Hid (kl.length = m) := ⟨_, Lib.hid rfl⟩
  rw [hkm.out] at hkl c4 hK ⊢
  rw [hkm.out] at hW
  rcases hkk with rfl | rfl
  all_goals
    go_enter Try.func4, Try.ntmps4
    go_wp2_with fail
    rw [← hW.out]
    refine hL.out.mono ?_
    rintro e w0 ⟨rfl, hb0⟩
    have d0 := keepCell hb0 c0
    have d1 := keepCell hb0 c1
    have d2 := keepCell hb0 c2
    have d3 := keepCell hb0 c3
    have d4 := keepCell hb0 c4
    clear hL hW
    go_wp2_with fail
    refine (new_in 12 _ (by decide) (by decide)).mono ?_
    rintro e w1 ⟨rfl, hd1, hb1⟩
    have hsz0 := hb0.size
    obtain ⟨B, hB⟩ : ∃ B, Hid (w0.heap.size = B) := ⟨_, Lib.hid rfl⟩
    rw [hB.out] at hd1 hb1 hsz0
    rw [hB.out]
    have hown1 : Hid (Own B w0 w1 (B + 1) B (runs (zeros 12) (xs.take 0)).1 (runs (zeros 12) (xs.take 0)).2) := Lib.hid ⟨⟨_, hd1, fun k hk => by cases hk⟩, hb1⟩
    have hB1 : B ≤ w1.heap.size := by have := hd1.lying.lt; omega
    clear hd1
    go_wp2_with fail
    go_loopg [46] m (fun ga i wr => ∃ j : Nat, j ≤ m ∧ m ≤ j + ga ∧ i = .int .i64 j ∧ B ≤ wr.heap.size ∧ Hid (Own B w0 wr (B + 1) B (runs (zeros 12) (xs.take j)).1 (runs (zeros 12) (xs.take j)).2) ∧ (runs (zeros 12) (xs.take j)).2.length ≤ j ∧ Hid ((runs (zeros 12) (xs.take j)).1.length = 12))
    case atStart => exact ⟨0, by omega, by omega, rfl, hB1, hown1, by simp [runs], Lib.hid (by simp [runs, zeros])⟩
    case round =>
      obtain ⟨j, hj, hg, rfl, hBr, hown, hwl, hl8⟩ := hrel
      clear hown1 hb1 hB1
      by_cases hlt : j < m
      · obtain ⟨x, hxj⟩ := hget.out j hlt
        obtain ⟨⟨v, hdk, hvo⟩, hbr⟩ := hown.out
        have hbw : Below W.heap.size W wr := hb0.trans ((show Below w0.heap.size w0 wr by rw [hB.out]; exact hbr).mono hb0.size)
        obtain ⟨hat, b, o, xv, rfl, hbl, k0, k1, k2, k3, k4, hkv⟩ := hx.out j x hxj
        obtain ⟨xka, xcap, rfl⟩ := hkv.len
        have r0 := keepCell hbw k0
        have r1 := keepCell hbw k1
        have r2 := keepCell hbw k2
        have r3 := keepCell hbw k3
        have r4 := keepCell hbw k4
        have hks := hk40.out x (List.mem_of_getElem? hxj)
        have hst : Hid (runs (zeros 12) (xs.take (j + 1)) = (actL (runs (zeros 12) (xs.take j)).1 (runs (zeros 12) (xs.take j)).2 x, actW (runs (zeros 12) (xs.take j)).1.length (runs (zeros 12) (xs.take j)).2 x)) := by
          rw [List.take_add_one, hxj, show (some x).toList = [x] from rfl, runs_snoc]; exact Lib.hid rfl
        have hkw := Lib.hid (hkv.below hbw)
        have hkn : Hid (∀ k, x.kl ≠ [] → (Value.slice xka x.kl.length xcap).ownBlock = some k → ¬ mine (B + 1) B v k) := fun k hne hk hmi => by
          have h1 := keeps_far hkv hne hk
          rcases hmi with e | e | e
          · omega
          · omega
          · have := hvo k e; omega
        clear k0 k1 k2 k3 k4 hkv
        replace hxj := Lib.hid hxj
        replace hdk := Lib.hid hdk
        replace hvo := Lib.hid hvo
        have hbal := allocBelow wr (.cells #[.int .i64 x.kind, .int .i64 x.at_, .int .i64 x.n, .int .u8 (x.c.toNat : Int), .slice xka x.kl.length xcap] 36)
        go_wp2_with fail
        refine (done_any (B + 1) B v _ _ _ x.kind x.at_ x.n x.c _ x.kl (hdk.out.below hbal) hat (by omega) (hkw.out.below hbal) hkn.out (by omega)).mono ?_
        rintro e w3 ⟨rfl, hdid⟩
        have hown3 : Hid (Own B w0 w3 (B + 1) B (runs (zeros 12) (xs.take (j + 1))).1 (runs (zeros 12) (xs.take (j + 1))).2) := by
          rw [hst.out]
          exact Lib.hid (Own.turned (by omega) (Nat.le_refl _) hvo.out (hbr.trans (hbal.mono hBr)) (Nat.le_trans hBr hbal.size) hdid)
        have hB3 : B ≤ w3.heap.size := Nat.le_trans (Nat.le_trans hBr hbal.size) hdid.kept.size
        have hwl3 : (runs (zeros 12) (xs.take (j + 1))).2.length ≤ j + 1 := by
          rw [hst.out]
          exact Nat.le_trans (actW_len _ _ _) (by omega)
        have hl83 : Hid ((runs (zeros 12) (xs.take (j + 1))).1.length = 12) := by
          rw [hst.out]
          exact Lib.hid ((actL_len _ _ _).trans hl8.out)
        clear hdid hst r0 r1 r2 r3 r4 hwl hbal hbw hbr
        go_wp2_with fail
        go_roundg (gk - 1)
        case measure => omega
        case rel => exact ⟨j + 1, by omega, by omega, by go_num, hB3, hown3, hwl3, hl83⟩
      · obtain rfl : j = m := by omega
        have htk : xs.take j = xs := by rw [← hm.out, List.take_length]
        rw [htk] at hown hwl hl8
        clear htk
        obtain ⟨LL, hLL⟩ : ∃ L, Hid ((runs (zeros 12) xs).1 = L) := ⟨_, Lib.hid rfl⟩
        obtain ⟨ws, hws⟩ : ∃ L, Hid ((runs (zeros 12) xs).2 = L) := ⟨_, Lib.hid rfl⟩
        rw [hLL.out, hws.out] at hown
        rw [hws.out] at hwl
        rw [hLL.out] at hl8
        obtain ⟨⟨v, hdk, hvo⟩, hbr⟩ := hown.out
        have hbW1 : Below W.heap.size W wr := hb0.trans ((show Below w0.heap.size w0 wr by rw [hB.out]; exact hbr).mono hb0.size)
        replace hdk := Lib.hid hdk
        replace hvo := Lib.hid hvo
        clear hown hLL hws hx d0 d1 d2 d3 d4
        generalize wr = wo at *
        generalize gk = g0 at *
        have hr8 : Hid (∀ q, q < 12 → ∃ s, LL[q]? = some s ∧ (⟨(rd ws q s).toArray⟩ : ByteArray) = readB LL ws q ∧ (⟨s.toArray⟩ : ByteArray) = liesB LL q) := fun q hq => by
          obtain ⟨s, hs⟩ : ∃ s, LL[q]? = some s := ⟨_, List.getElem?_eq_getElem (by rw [hl8.out]; exact hq)⟩
          exact ⟨s, hs, by unfold readB; rw [hs]; rfl, by unfold liesB; rw [hs]; rfl⟩
        go_wp2_with fail
        go_loopg [9, 10, 54] 12 (fun ga tv uv i wq => ∃ q : Nat, q ≤ 12 ∧ 12 ≤ q + ga ∧ i = .int .i64 q ∧ Below wo.heap.size wo wq ∧ Hid (wq.ownsRow wo.heap.size 9 1 tv q ((List.range q).map fun i => .string (readB LL ws i))) ∧ Hid (wq.ownsRow wo.heap.size 9 1 uv q ((List.range q).map fun i => .string (liesB LL i))) ∧ Hid (∀ k, tv.ownBlock = some k → uv.ownBlock ≠ some k))
        case atStart => exact ⟨0, by omega, by omega, rfl, Below.refl _ _, Lib.hid ⟨rfl, .inl ⟨rfl, rfl⟩⟩, Lib.hid ⟨rfl, .inl ⟨rfl, rfl⟩⟩, Lib.hid (fun k hk => by cases hk)⟩
        case round =>
          obtain ⟨q, hq8, hq, rfl, hbq, howq, how2, hapart⟩ := hrel
          generalize wr = wq at *
          generalize gk = g1 at *
          by_cases hlq : q < 12
          · obtain ⟨s, hs, he1, he2⟩ := hr8.out q hlq
            have hrd := Lib.hid (read_in (B + 1) B v LL ws wq q s (hdk.out.below hbq) hs (by omega))
            have hli := Lib.hid (lies_in (B + 1) B v LL ws wq q s (hdk.out.below hbq) hs)
            rw [he1] at hrd
            rw [he2] at hli
            obtain ⟨S, hS⟩ : ∃ S, Hid (readB LL ws q = S) := ⟨_, Lib.hid rfl⟩
            obtain ⟨T, hT⟩ : ∃ S, Hid (liesB LL q = S) := ⟨_, Lib.hid rfl⟩
            rw [hS.out] at hrd
            rw [hT.out] at hli
            replace hs := Lib.hid hs
            replace he1 := Lib.hid he1
            replace he2 := Lib.hid he2
            have hsq := hbq.size
            go_wp2_with fail
            refine hrd.out.mono ?_
            rintro e w4 ⟨rfl, rfl⟩
            clear hrd
            go_wp2_with fail
            refine hli.out.mono ?_
            rintro e w4 ⟨rfl, rfl⟩
            clear hli
            go_wp2_with (with_reducible refine stopAppend _ _ _ rfl ?_)
            refine Lib.hid ?_
            refine wpList_append_lies _ rfl _ _ 29 rfl wo.heap.size 9 is _ 1 16 Try.underlying29 his hs0 hs1 hs2 rfl (by omega) _ _ _ rfl (howq.out.alloc _) _ 1 1 [.string S] rfl rfl (World.news_of_block (heap_alloc_new _ _)) (by simp [Value.oneCell']) (by omega) (by unfold maxLen; omega) (by omega) (by simp; omega) (wq.heap.size + 1) (by simp) ?_
            intro gg cap2 w5 hown5 hgrow5 hat5 hlt5
            have hbq5 : Below wo.heap.size wo w5 := (((Kept.of_below (own := fun b => wo.heap.size ≤ b) hbq).alloc _).grown hgrow5 (fun k hk => .inl (own_far howq.out k hk))).below (Nat.le_refl _) (fun _ h => h)
            have hown6 : Hid (w5.ownsRow wo.heap.size 9 1 (.slice (some ⟨gg, 0, none⟩) (q + 1) cap2) (q + 1) ((List.range (q + 1)).map fun i => .string (readB LL ws i))) := by
              rw [List.range_succ, List.map_append, List.map_cons, List.map_nil, hS.out]; exact Lib.hid hown5
            have how5 : w5.ownsRow wo.heap.size 9 1 u10 q ((List.range q).map fun i => .string (liesB LL i)) := own_of_kept how2.out (own := fun b => u9.ownBlock = some b) ((Kept.of_below (allocBelow wq _)).grown hgrow5 (fun k hk => .inl hk)) (fun k hk hk2 => hapart.out k hk2 hk)
            have hap5 : ∀ k, u10.ownBlock = some k → k ≠ gg := fun k hk e => by
              subst e
              rcases hat5 with h1 | h1
              · exact hapart.out k h1 hk
              · have := own_blk_lt how2.out k hk; omega
            have hsz5 : wq.heap.size ≤ w5.heap.size := by have := hgrow5.size; simp at this; omega
            replace how5 := Lib.hid how5
            replace hap5 := Lib.hid hap5
            clear hown5 hgrow5 hat5 howq how2 hapart hbq
            go_wp2_with (with_reducible refine stopAppend _ _ _ rfl ?_)
            refine Lib.hid ?_
            refine wpList_append_lies _ rfl _ _ 29 rfl wo.heap.size 9 is _ 1 16 Try.underlying29 his hs0 hs1 hs2 rfl (by omega) _ _ _ rfl (how5.out.alloc _) _ 1 1 [.string T] rfl rfl (World.news_of_block (heap_alloc_new _ _)) (by simp [Value.oneCell']) (by omega) (by unfold maxLen; omega) (by omega) (by simp; omega) (w5.heap.size + 1) (by simp) ?_
            intro g2 cap3 w6 hown7 hgrow7 hat7 hlt7
            have hbq6 : Below wo.heap.size wo w6 := (((Kept.of_below (own := fun b => wo.heap.size ≤ b) hbq5).alloc _).grown hgrow7 (fun k hk => .inl (own_far how5.out k hk))).below (Nat.le_refl _) (fun _ h => h)
            have hown8 : Hid (w6.ownsRow wo.heap.size 9 1 (.slice (some ⟨g2, 0, none⟩) (q + 1) cap3) (q + 1) ((List.range (q + 1)).map fun i => .string (liesB LL i))) := by
              rw [List.range_succ, List.map_append, List.map_cons, List.map_nil, hT.out]; exact Lib.hid hown7
            have hown9 : Hid (w6.ownsRow wo.heap.size 9 1 (.slice (some ⟨gg, 0, none⟩) (q + 1) cap2) (q + 1) ((List.range (q + 1)).map fun i => .string (readB LL ws i))) := Lib.hid (own_of_kept hown6.out (own := fun b => u10.ownBlock = some b) ((Kept.of_below (allocBelow w5 _)).grown hgrow7 (fun k hk => .inl hk)) (fun k hk hk2 => by
              have e2 : gg = k := by simpa [Value.ownBlock] using hk
              exact hap5.out k hk2 e2.symm))
            have hap9 : Hid (∀ k, (Value.slice (some ⟨gg, 0, none⟩) (q + 1) cap2).ownBlock = some k → (Value.slice (some ⟨g2, 0, none⟩) (q + 1) cap3).ownBlock ≠ some k) := Lib.hid (fun k hk hk2 => by
              have e2 : gg = k := by simpa [Value.ownBlock] using hk
              have e3 : g2 = k := by simpa [Value.ownBlock] using hk2
              rcases hat7 with h1 | h1
              · exact hap5.out g2 h1 (e3.trans e2.symm)
              · omega)
            clear hown7 hgrow7 hat7 how5 hown6 hap5 hbq5
            go_wp2_with fail
            go_roundg (g1 - 1)
            case measure => omega
            case rel => exact ⟨q + 1, by omega, by omega, by go_num, hbq6, hown9, hown8, hap9⟩
          · obtain rfl : q = 12 := by omega
            have hbl := own_blk_lt howq.out
            obtain ⟨gg, wcap, rfl, hwc1, hwc2, hwB, hwlt, hwcell⟩ := str_own (by omega) howq.out
            obtain ⟨g2, lcap, rfl, hlc1, hlc2, hlB, hllt, hlcell⟩ := str_own (by omega) how2.out
            unfold maxLen at hwc2 hlc2
            have hdq := hdk.out.below hbq
            have hbWq : Below W.heap.size W wq := hbW1.trans (hbq.mono hbW1.size)
            have e0 := keepCell hbWq c0
            have e1 := keepCell hbWq c1
            have e2 := keepCell hbWq c2
            have e3 := keepCell hbWq c3
            have e4 := keepCell hbWq c4
            have hmine : Hid (∀ b, (W.heap.size > b ∨ wo.heap.size ≤ b) → ¬ mine (B + 1) B v b) := Lib.hid (fun b hb hmi => by
              have l1 := hdk.out.obj.lt
              have l2 := hdk.out.lying.lt
              rcases hmi with e | e | e
              · omega
              · omega
              · have := hvo.out b e
                have l3 := hdk.out.own_lt b e
                omega)
            have hkn : Hid (∀ b, kl ≠ [] → (Value.slice kka km kkc).ownBlock = some b → ¬ mine (B + 1) B v b) := Lib.hid (fun b hne hb => hmine.out b (.inl (keeps_far hK.out hne hb)))
            have hKq := Lib.hid (hK.out.below hbWq)
            have hdn1 := Lib.hid (fun (kk : Int) => done_any (B + 1) B v LL ws wq kk at_ n c _ kl hdq hbig (by omega) hKq.out hkn.out (by rw [hkm.out]; omega))
            have hszq : W.heap.size ≤ wq.heap.size := hbWq.size
            have hbqw : Below w.heap.size w wq := hbW.trans (hbWq.mono hbW.size)
            have hw8 := hl8.out
            clear hdq howq how2 hapart hbl hKq hkn
            replace hwcell := Lib.hid hwcell
            replace hlcell := Lib.hid hlcell
            replace hbqw := Lib.hid hbqw
            replace hbWq := Lib.hid hbWq
            go_wp2_with fail
            refine (hdn1.out _).mono ?_
            rintro e w7 ⟨rfl, hdid⟩
            rw [actE_zero (by decide), hw8]
            clear hdn1
            obtain ⟨v7, hd7, hv7, hk7⟩ := hdid
            have hb7 : Hid (Below w.heap.size w w7) := Lib.hid (by
              have hbk : Below w.heap.size wq w7 := ⟨hk7.os, hk7.tape, hk7.output, hk7.size, fun b hb => hk7.block b (by omega) (hmine.out b (.inl (by omega)))⟩
              exact hbqw.out.trans hbk)
            by_cases hok : spanOk 12 at_ n
            · rw [if_pos hok]
              obtain ⟨f, rfl⟩ := Int.eq_ofNat_of_zero_le hok.1
              obtain ⟨nn, rfl⟩ := Int.eq_ofNat_of_zero_le hok.2.1
              have hfn : f + nn ≤ 12 := by have := hok.2.2; omega
              have y1 : w7.cell? ⟨w.heap.size, 1, none⟩ = some (.int .i64 f) := (hk7.cell (by omega) (hmine.out _ (.inl (by omega))) 1).trans e1
              have y2 : w7.cell? ⟨w.heap.size, 2, none⟩ = some (.int .i64 nn) := (hk7.cell (by omega) (hmine.out _ (.inl (by omega))) 2).trans e2
              have x1 : Hid (∀ q, q < 12 → w7.cell? ⟨gg, q, none⟩ = some (.string (readB LL ws q))) := Lib.hid (fun q hq => (hk7.cell hwlt (hmine.out _ (.inr hwB)) q).trans (hwcell.out q _ (by rw [List.getElem?_map, List.getElem?_range hq]; rfl)))
              have x2 : Hid (∀ q, q < 12 → w7.cell? ⟨g2, q, none⟩ = some (.string (liesB LL q))) := Lib.hid (fun q hq => (hk7.cell hllt (hmine.out _ (.inr hlB)) q).trans (hlcell.out q _ (by rw [List.getElem?_map, List.getElem?_range hq]; rfl)))
              rw [← hw8] at hok
              obtain ⟨L7, W7, hD7, hW7, hap⟩ := apart_disk hd7 (by decide) hok hw8
              replace hap := Lib.hid hap
              replace hD7 := Lib.hid hD7
              have hr7 := Lib.hid (fun q s (hs : L7[q]? = some s) => read_in (B + 1) B v7 L7 W7 w7 q s hD7.out hs (by omega))
              have hl7 := Lib.hid (fun q s (hs : L7[q]? = some s) => lies_in (B + 1) B v7 L7 W7 w7 q s hD7.out hs)
              clear hd7 hv7 hk7 hok hwcell hlcell
              go_wp2_with fail
              go_loopg [89] 12 (fun ga i wr => ∃ p : Nat, p ≤ 12 ∧ 12 ≤ p + ga ∧ i = .int .i64 p ∧ wr = w7)
              case atStart => exact ⟨0, by omega, by omega, rfl, rfl⟩
              case round =>
                obtain ⟨p, hp, hpg, rfl, rfl⟩ := hrel
                by_cases hlp : p < 12
                · obtain ⟨s, hs, hsame⟩ := hap.out p hlp
                  have hrd := Lib.hid (hr7.out p s hs)
                  have hli := Lib.hid (hl7.out p s hs)
                  have z1 := x1.out p hlp
                  have z2 := x2.out p hlp
                  replace hs := Lib.hid hs
                  by_cases h1 : p < f
                  · obtain ⟨g1, g2'⟩ := hsame (by omega)
                    rw [g1] at hrd
                    rw [g2'] at hli
                    obtain ⟨R, hR⟩ : ∃ S, Hid (readB LL ws p = S) := ⟨_, Lib.hid rfl⟩
                    obtain ⟨T, hT⟩ : ∃ S, Hid (liesB LL p = S) := ⟨_, Lib.hid rfl⟩
                    rw [hR.out] at hrd z1
                    rw [hT.out] at hli z2
                    clear hsame g1 g2' hR hT
                    go_wp2_with fail
                    refine hrd.out.mono ?_
                    rintro e w8 ⟨rfl, rfl⟩
                    clear hrd
                    go_wp2_with fail
                    refine hli.out.mono ?_
                    rintro e w8 ⟨rfl, rfl⟩
                    clear hli
                    go_wp2_with fail
                    go_roundg (gk - 1)
                    case measure => omega
                    case rel => exact ⟨p + 1, by omega, by omega, by go_num, rfl⟩
                  · have d1 : decide ((p : Int) < f) = false := decide_eq_false (by omega)
                    by_cases h2 : f + nn ≤ p
                    · obtain ⟨g1, g2'⟩ := hsame (by omega)
                      rw [g1] at hrd
                      rw [g2'] at hli
                      obtain ⟨R, hR⟩ : ∃ S, Hid (readB LL ws p = S) := ⟨_, Lib.hid rfl⟩
                      obtain ⟨T, hT⟩ : ∃ S, Hid (liesB LL p = S) := ⟨_, Lib.hid rfl⟩
                      rw [hR.out] at hrd z1
                      rw [hT.out] at hli z2
                      have d2 : (nn : Int) ≤ (p : Int) - f := by omega
                      clear hsame g1 g2' hR hT
                      go_wp2_with fail
                      refine hrd.out.mono ?_
                      rintro e w8 ⟨rfl, rfl⟩
                      clear hrd
                      go_wp2_with fail
                      refine hli.out.mono ?_
                      rintro e w8 ⟨rfl, rfl⟩
                      clear hli
                      go_wp2_with fail
                      go_roundg (gk - 1)
                      case measure => omega
                      case rel => exact ⟨p + 1, by omega, by omega, by go_num, rfl⟩
                    · have d2 : decide ((nn : Int) ≤ (p : Int) - f) = false := decide_eq_false (by omega)
                      have d3 : (p : Int) - f < nn := by omega
                      obtain ⟨R, hR⟩ : ∃ S, Hid ((⟨(rd W7 p s).toArray⟩ : ByteArray) = S) := ⟨_, Lib.hid rfl⟩
                      obtain ⟨T, hT⟩ : ∃ S, Hid ((⟨s.toArray⟩ : ByteArray) = S) := ⟨_, Lib.hid rfl⟩
                      rw [hR.out] at hrd
                      rw [hT.out] at hli
                      clear hsame hR hT z1 z2
                      go_wp2_with fail
                      refine hrd.out.mono ?_
                      rintro e w8 ⟨rfl, rfl⟩
                      clear hrd
                      go_wp2_with fail
                      refine hli.out.mono ?_
                      rintro e w8 ⟨rfl, rfl⟩
                      clear hli
                      go_wp2_with fail
                      go_roundg (gk - 1)
                      case measure => omega
                      case rel => exact ⟨p + 1, by omega, by omega, by go_num, rfl⟩
                · obtain rfl : p = 12 := by omega
                  clear hr7 hl7 hap x1 x2 y1 y2
                  go_wp2_with fail
                  refine (torn_any _).mono ?_
                  rintro e w9 ⟨rfl, hb9⟩
                  have hb10 := hb7.out.trans (hb9.mono hb7.out.size)
                  clear hb9 hb7
                  go_wp2_with fail
                  go_ret
                  exact ⟨rfl, hb10⟩
            · rw [if_neg hok]
              clear hd7 hv7 hk7
              go_wp2_with fail
              refine (torn_any _).mono ?_
              rintro e w9 ⟨rfl, hb9⟩
              have hb10 := hb7.out.trans (hb9.mono hb7.out.size)
              clear hb9 hb7
              go_wp2_with fail
              go_ret
              exact ⟨rfl, hb10⟩
theorem walk (av : Value) (xs : List Act1) (k at_ n c : Int) (kv : Value) (kl : List (Int × Int)) (w : World) (hA : Acts w av xs) (wk : (Lit.int .i64 k).wf = true) (wa : (Lit.int .i64 at_).wf = true) (wn : (Lit.int .i64 n).wf = true) (wc : (Lit.int .u8 c).wf = true) (hK : Keeps w kv kl) :
    Calls Try.prog 4 #[av, .agg #[.int .i64 k, .int .i64 at_, .int .i64 n, .int .u8 c, kv]] w fun e w' => e = .returned (.bool true) ∧ Below w.heap.size w w' := by
  obtain ⟨c, rfl⟩ := byte_of wc
  by_cases h : largeB xs = true ∨ (k ≠ 1 ∧ k ≠ 2) ∨ 40 < kl.length
  · exact walk_torn av xs k at_ n c kv kl w hA hK h
  · have h1 : largeB xs = false := by
      cases hl : largeB xs
      · rfl
      · exact absurd (.inl hl) h
    exact walk_main av xs k at_ n c kv kl w hA hK (i64_top wa) (Lib.hid h1) (by
      by_cases h2 : k = 1
      · exact .inl h2
      · by_cases h3 : k = 2
        · exact .inr h3
        · exact absurd (.inr (.inl ⟨h2, h3⟩)) h) (by
      by_cases h2 : 40 < kl.length
      · exact absurd (.inr (.inr h2)) h
      · omega)

theorem own : ownKnob Try.prog.godebug = none := by kernel_rfl
theorem laidOut : laidOutB Try.prog = true := by kernel_rfl

set_option maxRecDepth 100000 in
theorem lifted (os : Os) (started : os.Started) (H : Type) (enc : TypeId × Value → H) :
    ReturnsInHanded {} Try.checked os 4 .any (Rows.diskApartSpec.pre6 enc Try.prog Try.f4 Rows.diskApartRow.domain false) (Rows.diskApartSpec.post enc Try.prog Try.f4 false true false false) := by
  refine returnsInHanded_of_change (C := Try.checked) own started (by kernel_rfl) Try.func4
    (ChangeSpec.witness6 (enc := enc) (C := Try.checked) false ⟨#[], #[.slice none 0 0, .agg #[.int .i64 0, .int .i64 0, .int .i64 0, .int .u8 0, .slice none 0 0]], []⟩ 8 (by kernel_rfl) (by kernel_rfl) (by kernel_rfl) (by kernel_rfl)) ?_
  intro W base args ds gs before hval0 hW hcnd _
  have hval : ∀ (j : Nat) t v, Try.f4.params[j]? = some t → args[j]? = some v → Value.okWide Try.prog W .any base t v := hval0
  have hW' := hW
  obtain ⟨p, q, hA0, hV, rfl, hfz, hnd⟩ := hW
  have hA : DataW.TrodAll enc Try.prog W 0 (fun _ => true) true Try.f4.params.toList args.toList ds p := hA0
  rw [Try.params4] at hA hval
  obtain ⟨v0, vs0, d0, ds0, p0, q0, hargs, rfl, rfl, h0, r0⟩ := trodAll_cons hA
  obtain ⟨v1, vs1, d1, ds1, p1, q1, rfl, rfl, rfl, h1, r1⟩ := trodAll_cons r0
  obtain ⟨rfl, rfl, rfl⟩ := trodAll_nil r1
  obtain rfl : args = #[v0, v1] := by cases args; simp_all
  obtain ⟨rfl, rfl⟩ := trodVars_none hV
  have k0 := h0
  have lt0 : ∀ x ∈ p0, x.block < W.heap.size := by obtain ⟨m, hm⟩ := k0; exact DataW.trod_lt m _ _ _ hm
  obtain ⟨a0, len0, cap0, rfl⟩ := okWide_slice Try.underlying22 (hval 0 22 v0 rfl rfl)
  obtain ⟨fu0, hf0⟩ := h0
  obtain ⟨xs0, w0⟩ := D.open_acts (show DataW.trod enc Try.prog W 0 (fun _ => true) true fu0 22 [.slice a0 len0 cap0] = some _ from hf0)
  have k1 := h1
  have lt1 : ∀ x ∈ p1, x.block < W.heap.size := by obtain ⟨m, hm⟩ := k1; exact DataW.trod_lt m _ _ _ hm
  obtain ⟨ak1, aa1, an1, ac1, av1, al1, rfl, wk1, wa1, wn1, wc1, w1⟩ := D.open_act (hval 1 36 v1 rfl rfl) h1
  clear hA0 hval0
  refine (walk (.slice a0 len0 cap0) xs0 ak1 aa1 an1 ac1 av1 al1 W w0 wk1 wa1 wn1 wc1 w1).mono fun e W' ⟨he, bel⟩ => ?_
  subst he
  exact ⟨_, rfl, _, _, _, [], _, [], hW', trodAll_mk1 (shut_bool Try.underlying4 _), (trodAll_cons_mk (Below.trod laidOut (by kernel_rfl) (of_decide_eq_true (by kernel_rfl)) k0 bel lt0) (trodAll_cons_mk (Below.trod laidOut (by kernel_rfl) (of_decide_eq_true (by kernel_rfl)) k1 bel lt1) trodAll_mk0)), rfl, bel.frame _, fun h => by cases h⟩

theorem over : Rows.diskApartRow.holds Try.pinned (OpenSpec.ofChange Rows.diskApartSpec) :=
  OpenClaim.holds_of_wide 4 Try.f4 rfl rfl rfl rfl rfl rfl rfl ⟨rfl, rfl, rfl, rfl, rfl⟩ rfl rfl rfl rfl rfl (by kernel_rfl) Try.func4 (by kernel_rfl)
    (of_decide_eq_true (by kernel_rfl)) (by unfold Func.isWrapper; first | (rw [if_pos (by decide +kernel)]; kernel_rfl) | (rw [if_neg (by decide +kernel)]; exact ⟨rfl, rfl⟩))
    (fun os started H enc _ => lifted os started H enc)

/-- The statement. -/
theorem proved : Rows.DiskApartSaid := over
#print axioms proved

end Go.Proofs.Ytdagbepjhbmlfaa.diskApart
