/- The document's disk without a span's writes. -/
import Derived.Test.YtgomhnclmacleaaProg
import Derived.Test.YtgomhnclmacleaaRef3
namespace Go.Proofs.Ytgomhnclmacleaa.D
open Go.RowKit
open Go.Proofs.Ytgomhnclmacleaa.Z
set_option linter.unusedVariables false

theorem Kept.of_below' {own : Nat → Prop} {a b : World} {B : Nat} (h : Below B a b) (hB : a.heap.size = B) : Kept own a b := by subst hB; exact Kept.of_below h
theorem sizeRD : (Try.prog.info? 32).map (·.size) = some 2 := by kernel_rfl
section
variable (lv wv : Value) (lie : List (List UInt8)) (ws : List (Nat × List UInt8)) (w : World)
set_option maxHeartbeats 4000000 in
set_option maxRecDepth 100000 in
theorem rwithout_any (f n : Nat) (h : RD w lv wv lie ws) (hfn : f + n ≤ 8192) (hws : ws.length ≤ 100) :
    Calls Try.prog 79 #[.agg #[lv, wv], .int .i64 f, .int .i64 n] w fun e w' => ∃ v, e = .returned (.agg #[lv, v]) ∧ RW w' v (ws.filter (keepB f n)) ∧ Below w.heap.size w w' := by
  obtain ⟨i0, hi0, hz0, hz1, hz2⟩ := info_parts infoRWrite
  obtain ⟨wa, wc, rfl, h1, h2, h3⟩ := h.waits.form
  obtain ⟨la, lc, rfl, _⟩ := h.lies.form
  have hwi := Lib.hid h.within
  unfold maxLen at h2
  have hget : Hid (∀ k, k < ws.length → ∃ d, ws[k]? = some d) := Lib.hid (fun k hk => ⟨_, List.getElem?_eq_getElem hk⟩)
  obtain ⟨m, hm⟩ : ∃ n, Hid (ws.length = n) := ⟨_, Lib.hid rfl⟩
  obtain ⟨ln, hln⟩ : ∃ n, Hid (lie.length = n) := ⟨_, Lib.hid rfl⟩
  rw [hm.out] at h1 hget hws ⊢
  rw [hln.out]
  obtain ⟨B0, hB0⟩ : ∃ n, Hid (w.heap.size = n) := ⟨_, Lib.hid rfl⟩
  obtain ⟨W, hW⟩ : ∃ W, Hid (W = (w.alloc (.cells #[.slice la ln lc, .slice wa m wc] 32)).alloc (.cells #[.slice none 0 0, .slice none 0 0] 32)) := ⟨_, Lib.hid rfl⟩
  have hWs : W.heap.size = B0 + 2 := by rw [hW.out]; simp [hB0.out]
  have hbW : Below w.heap.size w W := by rw [hW.out]; exact (allocBelow w _).alloc (by simp) _
  have hX : Whole W B0 32 [.slice la ln lc, .slice wa m wc] := by rw [hW.out, ← hB0.out]; exact (Whole.new w _ _).alloc _
  have hY : Whole W (B0 + 1) 32 [.slice none 0 0, .slice none 0 0] := by
    have h := Whole.new (w.alloc (.cells #[.slice la ln lc, .slice wa m wc] 32)) 32 [.slice none 0 0, .slice none 0 0]
    rw [show (w.alloc (.cells #[.slice la ln lc, .slice wa m wc] 32)).heap.size = B0 + 1 by simp [hB0.out]] at h
    rw [hW.out]; exact h
  have y1 : W.cell? ⟨B0, 1, none⟩ = some (.slice wa m wc) := hX.cell 1
  have hcell : Hid (∀ k d, ws[k]? = some d → ∃ b, wa = some ⟨b, 0, none⟩ ∧ ∀ w', Below w.heap.size w w' → w'.cell? ⟨b, k * 2, none⟩ = some (.int .i64 (d.1 : Int)) ∧ w'.cell? ⟨b, k * 2 + 1, none⟩ = some (strV d.2)) := Lib.hid (fun k d hk => by
    obtain ⟨b, e, e1, e2⟩ := h3 k d hk
    exact ⟨b, e, fun w' hb => ⟨keepCell hb e1, keepCell hb e2⟩⟩)
  have hlen : Hid (∀ k, ((ws.take k).filter (keepB f n)).length ≤ k) := Lib.hid (fun k => Nat.le_trans (List.length_filter_le _ _) (by simp; omega))
  have hww : Hid (∀ w', Below (B0 + 2) W w' → Below w.heap.size w w') := Lib.hid (fun w' h => hbW.trans (h.mono (by have := hB0.out; omega)))
  replace hX := Lib.hid hX
  replace hY := Lib.hid hY
  clear h h3 hbW
  go_enter Try.func79, Try.ntmps79
  go_wp2_with (with_reducible refine zLoad 30 _ rfl ?_)
  rw [← hW.out, hB0.out]
  clear hW
  refine Lib.hid ?_
  go_wp2_with fail
  go_loopg [7, 13] m (fun ga v i wr => ∃ k : Nat, k ≤ m ∧ m ≤ k + ga ∧ i = .int .i64 k ∧ Hid (Below (B0 + 2) W wr) ∧ Hid (wr.ownsRow (B0 + 2) 129 2 v ((ws.take k).filter (keepB f n)).length (((ws.take k).filter (keepB f n)).map rwrow).flatten))
  case atStart => exact ⟨0, by omega, by omega, rfl, Lib.hid (Below.refl _ _), Lib.hid ⟨rfl, .inl ⟨rfl, rfl⟩⟩⟩
  case round =>
    obtain ⟨k, hk, hg, rfl, hb, how⟩ := hrel
    generalize wr = wo at *
    have hso : B0 + 2 ≤ wo.heap.size := by have := hb.out.size; omega
    by_cases hlt : k < m
    · obtain ⟨d, hd⟩ := hget.out k hlt
      obtain ⟨b, rfl, hc⟩ := hcell.out k d hd
      obtain ⟨c0, c1⟩ := hc wo (hww.out wo hb.out)
      clear hc
      have hft := Lib.hid (filt_take (P := keepB f n) hd)
      have hd8 := hwi.out d (List.mem_of_getElem? hd)
      have hlk := hlen.out k
      obtain ⟨x, s⟩ := d
      obtain ⟨Bs, hBs⟩ : ∃ v : ByteArray, Hid (⟨s.toArray⟩ = v) := ⟨_, Lib.hid rfl⟩
      unfold strV at c1
      simp only at c0 c1 hd8
      rw [hBs.out] at c1
      obtain ⟨W2, hW2⟩ : ∃ W, Hid (W = wo.alloc (.cells #[.int .i64 (x : Int), .string Bs] 129)) := ⟨_, Lib.hid rfl⟩
      have hbw : Below wo.heap.size wo W2 := by rw [hW2.out]; exact allocBelow wo _
      have v0 : W2.cell? ⟨wo.heap.size, 0, none⟩ = some (.int .i64 (x : Int)) := by rw [hW2.out]; exact (Whole.new wo 129 [.int .i64 (x : Int), .string Bs]).cell 0
      have v1 : W2.cell? ⟨wo.heap.size, 1, none⟩ = some (.string Bs) := by rw [hW2.out]; exact (Whole.new wo 129 [.int .i64 (x : Int), .string Bs]).cell 1
      have hb2 : Hid (Below (B0 + 2) W W2) := Lib.hid (hb.out.trans (hbw.mono hso))
      have hown2 := Lib.hid (own_of_kept how.out (Kept.of_below (own := fun _ => False) hbw) (fun _ _ h => h))
      have hs2 := hb2.out.size
      clear how hb hbw hd
      by_cases g1 : x < f
      · have hp : keepB f n (x, s) = true := by simp [keepB, spanB]; omega
        rw [hp, if_pos rfl] at hft
        clear hp
        obtain ⟨L0, hL0⟩ : ∃ L, Hid (((ws.take k).filter (keepB f n)).length = L) := ⟨_, Lib.hid rfl⟩
        have hll : ((ws.take (k + 1)).filter (keepB f n)).length = L0 + 1 := by rw [← hL0.out, hft.out]; simp
        rw [hL0.out] at hown2 hlk
        go_wp2_with (with_reducible refine zLoad 3 _ rfl ?_)
        rw [← hW2.out]
        clear hW2 c0 c1
        refine Lib.hid ?_
        go_wp2_with (with_reducible refine zAppend _ _ _ rfl ?_)
        refine Lib.hid ?_
        refine wpList_append_lies _ rfl _ _ 30 rfl (B0 + 2) 129 i0 _ 2 24 Try.underlying30 hi0 hz0 hz1 hz2 rfl (by omega) _ _ _ rfl (hown2.out.alloc _) _ 1 1 [.int .i64 (x : Int), .string Bs] rfl rfl (World.news_of_block (heap_alloc_new _ _)) (by simp [Value.oneCell']) (by omega) (by unfold maxLen; omega) (by omega) (by simp; omega) (W2.heap.size + 1) (by simp) ?_
        intro gg cap2 w5 hown5 hgrow5 hat5 hlt5
        have hb5 : Hid (Below (B0 + 2) W w5) := Lib.hid ((((Kept.of_below' (own := fun b => B0 + 2 ≤ b) hb2.out hWs).alloc _).grown hgrow5 (fun k hk => .inl (ownFar hown2.out k hk))).below (by omega) (fun _ h => h))
        have hown6 : Hid (w5.ownsRow (B0 + 2) 129 2 (.slice (some ⟨gg, 0, none⟩) (L0 + 1) cap2) ((ws.take (k + 1)).filter (keepB f n)).length (((ws.take (k + 1)).filter (keepB f n)).map rwrow).flatten) := by
          rw [hll, hft.out, List.map_append, List.flatten_append, List.map_cons, List.map_nil, List.flatten_cons, List.flatten_nil, List.append_nil]
          rw [show rwrow (x, s) = [.int .i64 (x : Int), .string Bs] by rw [← hBs.out]; rfl]
          exact Lib.hid hown5
        clear hown5 hgrow5 hat5 hown2 hb2 hft hL0 hll v0 v1
        go_wp2_with fail
        go_roundg (gk - 1)
        case measure => omega
        case rel => exact ⟨k + 1, by omega, by omega, by go_num, hb5, hown6⟩
      have g1' : f ≤ x := by omega
      have dg : decide ((x : Int) < f) = false := decide_eq_false (by omega)
      by_cases g2 : f + n ≤ x
      · have hp : keepB f n (x, s) = true := by simp [keepB, spanB]; omega
        rw [hp, if_pos rfl] at hft
        clear hp g1
        obtain ⟨L0, hL0⟩ : ∃ L, Hid (((ws.take k).filter (keepB f n)).length = L) := ⟨_, Lib.hid rfl⟩
        have hll : ((ws.take (k + 1)).filter (keepB f n)).length = L0 + 1 := by rw [← hL0.out, hft.out]; simp
        rw [hL0.out] at hown2 hlk
        go_wp2_with (with_reducible refine zLoad 3 _ rfl ?_)
        rw [← hW2.out]
        clear hW2 c0 c1
        refine Lib.hid ?_
        go_wp2_with (with_reducible refine zAppend _ _ _ rfl ?_)
        refine Lib.hid ?_
        refine wpList_append_lies _ rfl _ _ 30 rfl (B0 + 2) 129 i0 _ 2 24 Try.underlying30 hi0 hz0 hz1 hz2 rfl (by omega) _ _ _ rfl (hown2.out.alloc _) _ 1 1 [.int .i64 (x : Int), .string Bs] rfl rfl (World.news_of_block (heap_alloc_new _ _)) (by simp [Value.oneCell']) (by omega) (by unfold maxLen; omega) (by omega) (by simp; omega) (W2.heap.size + 1) (by simp) ?_
        intro gg cap2 w5 hown5 hgrow5 hat5 hlt5
        have hb5 : Hid (Below (B0 + 2) W w5) := Lib.hid ((((Kept.of_below' (own := fun b => B0 + 2 ≤ b) hb2.out hWs).alloc _).grown hgrow5 (fun k hk => .inl (ownFar hown2.out k hk))).below (by omega) (fun _ h => h))
        have hown6 : Hid (w5.ownsRow (B0 + 2) 129 2 (.slice (some ⟨gg, 0, none⟩) (L0 + 1) cap2) ((ws.take (k + 1)).filter (keepB f n)).length (((ws.take (k + 1)).filter (keepB f n)).map rwrow).flatten) := by
          rw [hll, hft.out, List.map_append, List.flatten_append, List.map_cons, List.map_nil, List.flatten_cons, List.flatten_nil, List.append_nil]
          rw [show rwrow (x, s) = [.int .i64 (x : Int), .string Bs] by rw [← hBs.out]; rfl]
          exact Lib.hid hown5
        clear hown5 hgrow5 hat5 hown2 hb2 hft hL0 hll v0 v1
        go_wp2_with fail
        go_roundg (gk - 1)
        case measure => omega
        case rel => exact ⟨k + 1, by omega, by omega, by go_num, hb5, hown6⟩
      · have hsk : Hid (((ws.take (k + 1)).filter (keepB f n)) = (ws.take k).filter (keepB f n)) := Lib.hid (by
          have hp : keepB f n (x, s) = false := by simp [keepB, spanB]; omega
          rw [hft.out, if_neg (by rw [hp]; decide), List.append_nil])
        have g2' : x < f + n := by omega
        clear hft g1 g2
        rw [← hsk.out] at hown2
        go_wp2_with (with_reducible refine zLoad 3 _ rfl ?_)
        rw [← hW2.out]
        clear hW2 c0 c1
        refine Lib.hid ?_
        go_wp2_with fail
        go_roundg (gk - 1)
        case measure => omega
        case rel => exact ⟨k + 1, by omega, by omega, by go_num, hb2, hown2⟩
    · obtain rfl : k = m := by omega
      have htk : ws.take k = ws := by rw [← hm.out, List.take_length]
      rw [htk] at how
      have hbk : Below W.heap.size W wo := by rw [hWs]; exact hb.out
      have z0 : wo.cell? ⟨B0, 0, none⟩ = some (.slice la ln lc) := keepCell hbk (hX.out.cell 0)
      have hY2 : Whole wo (B0 + 1) 32 [.slice none 0 0, .slice none 0 0] := hY.out.below hbk (by omega)
      generalize u7 = v at *
      obtain ⟨L1, hL1⟩ : ∃ L, Hid ((ws.filter (keepB f n)).length = L) := ⟨_, Lib.hid rfl⟩
      obtain ⟨va, vc, hvv, _⟩ := (RW.own how.out).form
      rw [hL1.out] at hvv
      subst hvv
      have hth := Lib.hid (hY2.there 0 2 (by simp))
      have hY3 := hY2.store 0 [.slice la ln lc, .slice va L1 vc] (by simp)
      rw [show splice [(.slice none 0 0 : Value), .slice none 0 0] 0 [.slice la ln lc, .slice va L1 vc] = [.slice la ln lc, .slice va L1 vc] from rfl] at hY3
      have hkv : Kept (fun b => b = B0 + 1) wo (wo.setCells (B0 + 1) 0 [.slice la ln lc, .slice va L1 vc]) := (Kept.refl (fun b => b = B0 + 1) wo).setCells (c := B0 + 1) (.inl rfl) _ _
      obtain ⟨V, hV⟩ : ∃ V, Hid (V = wo.setCells (B0 + 1) 0 [.slice la ln lc, .slice va L1 vc]) := ⟨_, Lib.hid rfl⟩
      rw [← hV.out] at hY3 hkv
      have hR := Lib.hid (RW.own (own_of_kept how.out hkv (fun q hq e => by have := ownFar how.out q hq; omega)))
      have hbV : Hid (Below w.heap.size w V) := Lib.hid ((hww.out wo hb.out).trans (hkv.below (by have := hB0.out; omega) (fun q hq => by have := hB0.out; omega)))
      have p0 : V.cell? ⟨B0 + 1, 0, none⟩ = some (.slice la ln lc) := hY3.cell 0
      have p1 : V.cell? ⟨B0 + 1, 1, none⟩ = some (.slice va L1 vc) := hY3.cell 1
      clear how hcell hlen hY2 hY3 hkv hbk hb
      go_wp2_with (with_reducible refine zStore 32 _ _ rfl ?_)
      refine Lib.hid ?_
      refine wpList_store_mid rfl 32 _ _ rfl (B0 + 1) 0 #[.slice la ln lc, .slice va L1 vc] rfl rfl hth.out sizeRD (by simp [Value.oneCell']) ?_
      rw [show (#[.slice la ln lc, .slice va L1 vc] : Array Value).toList = [.slice la ln lc, .slice va L1 vc] from rfl, ← hV.out]
      clear hV
      go_wp2_with fail
      refine bodyPost_ret (v := .agg #[.slice la ln lc, .slice va L1 vc]) (by simp [results, Try.results79, go_sem, p0, p1]) rfl ⟨_, rfl, hR.out, hbV.out⟩
end
end Go.Proofs.Ytgomhnclmacleaa.D
