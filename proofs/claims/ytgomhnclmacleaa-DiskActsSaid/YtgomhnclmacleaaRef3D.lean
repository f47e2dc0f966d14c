/- What is read of the document's disk; a write that is let wait. -/
import Derived.Test.YtgomhnclmacleaaProg
import Derived.Test.YtgomhnclmacleaaRef3C
namespace Go.Proofs.Ytgomhnclmacleaa.D
open Go.RowKit
open Go.Proofs.Ytgomhnclmacleaa.Z
set_option linter.unusedVariables false

theorem rd_take' {ws : List (Nat × List UInt8)} {a k : Nat} {s : List UInt8} {p : Nat × List UInt8} (h : ws[k]? = some p) : rd (ws.take (k + 1)) a s = if p.1 = a then p.2 else rd (ws.take k) a s := by
  unfold rd
  rw [List.take_add_one, h, show (some p).toList = [p] from rfl, List.foldl_append]
  rfl
theorem ret_val {a b : Value} (h : a = b) : Ending.returned a = .returned b := by rw [h]
section
variable (lv wv : Value) (lie : List (List UInt8)) (ws : List (Nat × List UInt8)) (w : World)
set_option maxHeartbeats 2000000 in
theorem rread_any (a : Nat) (s : List UInt8) (h : RD w lv wv lie ws) (hs : lie[a]? = some s) :
    Calls Try.prog 60 #[.agg #[lv, wv], .int .i64 a] w fun e w' => e = .returned (strV (rd ws a s)) ∧ Below w.heap.size w w' := by
  obtain ⟨wa, wc, rfl, h1, h2, h3⟩ := h.waits.form
  obtain ⟨la, lc, rfl, hl1, hl2, hl3⟩ := h.lies.form
  have ha : a < lie.length := (List.getElem?_eq_some_iff.1 hs).1
  obtain ⟨lb, rfl, hlc⟩ := hl3 a s hs
  have hfew := h.few
  have hwi := Lib.hid h.within
  unfold maxLen at h2 hl2
  have hget : Hid (∀ k, k < ws.length → ∃ d, ws[k]? = some d) := Lib.hid (fun k hk => ⟨_, List.getElem?_eq_getElem hk⟩)
  obtain ⟨m, hm⟩ : ∃ n, Hid (ws.length = n) := ⟨_, Lib.hid rfl⟩
  obtain ⟨ln, hln⟩ : ∃ n, Hid (lie.length = n) := ⟨_, Lib.hid rfl⟩
  rw [hm.out] at h1 hget ⊢
  rw [hln.out] at ha hfew hl1 ⊢
  obtain ⟨W, hW⟩ : ∃ W, Hid (W = w.alloc (.cells #[.slice (some ⟨lb, 0, none⟩) ln lc, .slice wa m wc] 32)) := ⟨_, Lib.hid rfl⟩
  have hbW : Below w.heap.size w W := by rw [hW.out]; exact allocBelow w _
  have y0 : W.cell? ⟨w.heap.size, 0, none⟩ = some (.slice (some ⟨lb, 0, none⟩) ln lc) := by rw [hW.out]; exact (Whole.new w 32 [.slice (some ⟨lb, 0, none⟩) ln lc, .slice wa m wc]).cell 0
  have y1 : W.cell? ⟨w.heap.size, 1, none⟩ = some (.slice wa m wc) := by rw [hW.out]; exact (Whole.new w 32 [.slice (some ⟨lb, 0, none⟩) ln lc, .slice wa m wc]).cell 1
  have hl0 := keepCell hbW hlc
  obtain ⟨S0, hS0⟩ : ∃ v : ByteArray, Hid (⟨s.toArray⟩ = v) := ⟨_, Lib.hid rfl⟩
  unfold strV at hl0
  rw [hS0.out] at hl0
  have hcell : Hid (∀ k d, ws[k]? = some d → ∃ b, wa = some ⟨b, 0, none⟩ ∧ ∀ w', Below w.heap.size w w' → w'.cell? ⟨b, k * 2, none⟩ = some (.int .i64 (d.1 : Int)) ∧ w'.cell? ⟨b, k * 2 + 1, none⟩ = some (strV d.2)) := Lib.hid (fun k d hk => by
    obtain ⟨b, e, e1, e2⟩ := h3 k d hk
    exact ⟨b, e, fun w' hb => ⟨keepCell hb e1, keepCell hb e2⟩⟩)
  have z0 : (0 : Int) ≤ a := by omega
  have z1 : (a : Int) < ln := by omega
  replace hs := Lib.hid hs
  replace hbW := Lib.hid hbW
  clear h h3 hl3 hlc
  go_enter Try.func60, Try.ntmps60
  go_wp2_with (with_reducible refine zLoad 29 _ rfl ?_)
  rw [← hW.out]
  clear hW
  refine Lib.hid ?_
  go_wp2_with fail
  go_loopg [5, 16] m (fun ga v i wr => ∃ k : Nat, k ≤ m ∧ m ≤ k + ga ∧ i = .int .i64 k ∧ Hid (Below w.heap.size w wr) ∧ v = strV (rd (ws.take k) a s))
  case atStart => exact ⟨0, by omega, by omega, rfl, hbW, by rw [← hS0.out]; rfl⟩
  case round =>
    obtain ⟨k, hk, hg, rfl, hb, rfl⟩ := hrel
    generalize wr = wo at *
    by_cases hlt : k < m
    · obtain ⟨d, hd⟩ := hget.out k hlt
      obtain ⟨b, rfl, hc⟩ := hcell.out k d hd
      obtain ⟨c0, c1⟩ := hc wo hb.out
      clear hc
      have hrt := Lib.hid (rd_take' (a := a) (s := s) hd)
      have hd8 := hwi.out d (List.mem_of_getElem? hd)
      obtain ⟨x, t⟩ := d
      obtain ⟨Bs, hBs⟩ : ∃ v : ByteArray, Hid (⟨t.toArray⟩ = v) := ⟨_, Lib.hid rfl⟩
      unfold strV at c1
      simp only at c0 c1 hd8
      rw [hBs.out] at c1
      obtain ⟨R0, hR0⟩ : ∃ v : ByteArray, Hid (⟨(rd (ws.take k) a s).toArray⟩ = v) := ⟨_, Lib.hid rfl⟩
      unfold strV
      rw [hR0.out]
      have hb2 : Hid (Below w.heap.size w (wo.alloc (.cells #[.int .i64 (x : Int), .string Bs] 129))) := Lib.hid (hb.out.alloc hb.out.size _)
      clear hd hb
      by_cases g1 : x = a
      · have q1 : ((x : Int) == (a : Int)) = true := by simp [g1]
        have hnew : Hid (Value.string Bs = strV (rd (ws.take (k + 1)) a s)) := Lib.hid (by rw [hrt.out, if_pos g1, ← hBs.out]; rfl)
        clear g1 hrt hBs hR0
        go_wp2_with fail
        go_roundg (gk - 1)
        case measure => omega
        case rel => exact ⟨k + 1, by omega, by omega, by go_num, hb2, hnew.out⟩
      · have q1 : ((x : Int) == (a : Int)) = false := by rw [beq_eq_false_iff_ne]; omega
        have hnew : Hid (Value.string R0 = strV (rd (ws.take (k + 1)) a s)) := Lib.hid (by rw [hrt.out, if_neg g1, ← hR0.out]; rfl)
        clear g1 hrt hBs hR0
        go_wp2_with fail
        go_roundg (gk - 1)
        case measure => omega
        case rel => exact ⟨k + 1, by omega, by omega, by go_num, hb2, hnew.out⟩
    · obtain rfl : k = m := by omega
      have htk : ws.take k = ws := by rw [← hm.out, List.take_length]
      rw [htk]
      obtain ⟨R0, hR0⟩ : ∃ v : ByteArray, Hid (⟨(rd ws a s).toArray⟩ = v) := ⟨_, Lib.hid rfl⟩
      unfold strV
      rw [hR0.out]
      clear htk hcell
      go_wp2_with fail
      go_ret
      exact ⟨ret_val (by unfold strV; rw [hR0.out]; rfl), hb.out⟩
theorem wait_end {w wo : World} {B0 : Nat} {lv v : Value} {rows : List (Nat × List UInt8)} {cs : List Value} (hv : wo.ownsRow (B0 + 2) 129 2 v rows.length (rows.map rwrow).flatten) (hY : Whole wo (B0 + 1) 32 cs) (hb : Below w.heap.size w wo) (hB : w.heap.size ≤ B0 + 1) (hcs : cs = [.slice none 0 0, .slice none 0 0]) :
    ∃ V, wo.setCells (B0 + 1) 0 [lv, v] = V ∧ RW V v rows ∧ Below w.heap.size w V ∧ V.cell? ⟨B0 + 1, 0, none⟩ = some lv ∧ V.cell? ⟨B0 + 1, 1, none⟩ = some v := by
  subst hcs
  have hY3 := hY.store 0 [lv, v] (by simp)
  have hkv : Kept (fun b => b = B0 + 1) wo (wo.setCells (B0 + 1) 0 [lv, v]) := (Kept.refl (fun b => b = B0 + 1) wo).setCells (c := B0 + 1) (.inl rfl) _ _
  exact ⟨_, rfl, RW.own (own_of_kept hv hkv (fun q hq e => by have := ownFar hv q hq; omega)), hb.trans (hkv.below hb.size (fun q hq => by omega)), hY3.cell 0, hY3.cell 1⟩
theorem rrow_news {w : World} {b : Nat} {ws : List (Nat × List UInt8)} (h : ∀ i p, ws[i]? = some p → w.cell? ⟨b, i * 2, none⟩ = some (.int .i64 (p.1 : Int)) ∧ w.cell? ⟨b, i * 2 + 1, none⟩ = some (strV p.2)) : ∀ j u, (ws.map rwrow).flatten[j]? = some u → w.cell? ((⟨b, 0, none⟩ : Addr).add j) = some u := fun j u hu => by
  have hj : j < ws.length * 2 := by
    have := (List.getElem?_eq_some_iff.1 hu).1
    rw [flat_len (rwrow_even ws), List.length_map] at this
    exact this
  obtain ⟨p, hp⟩ : ∃ p, ws[j / 2]? = some p := ⟨_, List.getElem?_eq_getElem (by omega)⟩
  obtain ⟨c0, c1⟩ := h _ p hp
  have e : j = (j / 2) * 2 + j % 2 := by omega
  rw [e, flat_at (rwrow_even ws) (j / 2) (j % 2) (Nat.mod_lt _ (by omega)), List.getElem?_map, hp] at hu
  rw [Addr.add_mid, Nat.zero_add]
  rcases (by omega : j % 2 = 0 ∨ j % 2 = 1) with h0 | h0 <;> rw [h0] at hu
  · rw [e, h0, Nat.add_zero, ← hu]; exact c0
  · rw [e, h0, ← hu]; exact c1
set_option maxHeartbeats 4000000 in
set_option maxRecDepth 100000 in
theorem rwrite_any (a : Nat) (s : List UInt8) (h : RD w lv wv lie ws) (hws : ws.length ≤ 100) (ha : a < 8192) :
    Calls Try.prog 56 #[.agg #[lv, wv], .int .i64 a, strV s] w fun e w' => ∃ v, e = .returned (.agg #[lv, v]) ∧ RW w' v (ws ++ [(a, s)]) ∧ Below w.heap.size w w' := by
  obtain ⟨i0, hi0, hz0, hz1, hz2⟩ := info_parts infoRWrite
  obtain ⟨wa, wc, rfl, h1, h2, h3⟩ := h.waits.form
  obtain ⟨la, lc, rfl, _⟩ := h.lies.form
  unfold maxLen at h2
  have hL := Lib.hid h.lies
  obtain ⟨m, hm⟩ : ∃ n, Hid (ws.length = n) := ⟨_, Lib.hid rfl⟩
  obtain ⟨ln, hln⟩ : ∃ n, Hid (lie.length = n) := ⟨_, Lib.hid rfl⟩
  rw [hm.out] at h1 hws ⊢
  rw [hln.out]
  obtain ⟨S, hS⟩ : ∃ v : ByteArray, Hid (⟨s.toArray⟩ = v) := ⟨_, Lib.hid rfl⟩
  unfold strV
  rw [hS.out]
  obtain ⟨B0, hB0⟩ : ∃ n, Hid (w.heap.size = n) := ⟨_, Lib.hid rfl⟩
  obtain ⟨W, hW⟩ : ∃ W, Hid (W = (w.alloc (.cells #[.slice la ln lc, .slice wa m wc] 32)).alloc (.cells #[.slice none 0 0, .slice none 0 0] 32)) := ⟨_, Lib.hid rfl⟩
  have hWs : W.heap.size = B0 + 2 := by rw [hW.out]; simp [hB0.out]
  have hbW : Below w.heap.size w W := by rw [hW.out]; exact (allocBelow w _).alloc (by simp) _
  have hX : Whole W B0 32 [.slice la ln lc, .slice wa m wc] := by rw [hW.out, ← hB0.out]; exact (Whole.new w _ _).alloc _
  have hY : Whole W (B0 + 1) 32 [.slice none 0 0, .slice none 0 0] := by
    have h := Whole.new (w.alloc (.cells #[.slice la ln lc, .slice wa m wc] 32)) 32 [.slice none 0 0, .slice none 0 0]
    rw [show (w.alloc (.cells #[.slice la ln lc, .slice wa m wc] 32)).heap.size = B0 + 1 by simp [hB0.out]] at h
    rw [hW.out]; exact h
  have y1 : W.cell? ⟨B0, 1, none⟩ = some (.slice wa m wc) := hX.cell 1
  have hww : Hid (∀ w', Below (B0 + 2) W w' → Below w.heap.size w w') := Lib.hid (fun w' h => hbW.trans (h.mono (by have := hB0.out; omega)))
  have h3W : Hid (∀ i p, ws[i]? = some p → ∃ b, wa = some ⟨b, 0, none⟩ ∧ W.cell? ⟨b, i * 2, none⟩ = some (.int .i64 (p.1 : Int)) ∧ W.cell? ⟨b, i * 2 + 1, none⟩ = some (strV p.2)) := Lib.hid (fun i p hp => by
    obtain ⟨b, e, e1, e2⟩ := h3 i p hp
    exact ⟨b, e, keepCell hbW e1, keepCell hbW e2⟩)
  have hWge : B0 + 2 ≤ W.heap.size := by omega
  have hWle : W.heap.size ≤ B0 + 2 := by omega
  replace hWs := Lib.hid hWs
  replace hX := Lib.hid hX
  replace hY := Lib.hid hY
  clear h h3 hbW
  go_enter Try.func56, Try.ntmps56
  go_wp2_with (with_reducible refine zLoad 30 _ rfl ?_)
  rw [← hW.out, hB0.out]
  clear hW
  refine Lib.hid ?_
  by_cases hm0 : m = 0
  · subst hm0
    have hnil : ws = [] := List.eq_nil_of_length_eq_zero hm.out
    have hownN : Hid (W.ownsRow (B0 + 2) 129 2 (.slice none 0 0) 0 ([] : List Value)) := Lib.hid ⟨rfl, .inl ⟨rfl, rfl⟩⟩
    cases wa
    · go_wp2_with (with_reducible refine stopBuild 30 _ rfl ?_)
      refine Lib.hid ?_
      go_wp2_with (with_reducible refine zAppend _ _ _ rfl ?_)
      refine Lib.hid ?_
      refine wpList_append_lies _ rfl _ _ 30 rfl (B0 + 2) 129 i0 _ 2 24 Try.underlying30 hi0 hz0 hz1 hz2 rfl (by omega) _ _ _ rfl (hownN.out.alloc _) _ 1 1 [.int .i64 (a : Int), .string S] rfl rfl (World.news_of_block (heap_alloc_new _ _)) (by simp [Value.oneCell']) (by omega) (by unfold maxLen; omega) (by omega) (by simp; omega) (W.heap.size + 1) (by simp) ?_
      intro gg cap2 w6 hown6 hgrow6 hat6 hlt6
      have hb6 : Hid (Below (B0 + 2) W w6) := Lib.hid ((((Kept.of_below' (own := fun b => B0 + 2 ≤ b) (Below.refl _ _) hWs.out).alloc _).grown hgrow6 (fun k hk => .inl (ownFar hownN.out k hk))).below (by omega) (fun _ h => h))
      have hown7 : Hid (w6.ownsRow (B0 + 2) 129 2 (.slice (some ⟨gg, 0, none⟩) (0 + 1) cap2) (ws ++ [(a, s)]).length ((ws ++ [(a, s)]).map rwrow).flatten) := by
        rw [hnil]
        rw [show (([] ++ [(a, s)] : List (Nat × List UInt8)).map rwrow).flatten = [] ++ [.int .i64 (a : Int), .string S] by rw [← hS.out]; rfl]
        exact Lib.hid hown6
      clear hown6 hgrow6 hat6 hownN h3W
      have hbk : Below W.heap.size W w6 := by rw [hWs.out]; exact hb6.out
      have z0 : w6.cell? ⟨B0, 0, none⟩ = some (.slice la ln lc) := keepCell hbk (hX.out.cell 0)
      have hY2 : Whole w6 (B0 + 1) 32 [.slice none 0 0, .slice none 0 0] := hY.out.below hbk (by omega)
      have hth := Lib.hid (hY2.there 0 2 (by simp))
      have hend := Lib.hid (fun (v : Value) (hv : w6.ownsRow (B0 + 2) 129 2 v (ws ++ [(a, s)]).length ((ws ++ [(a, s)]).map rwrow).flatten) => wait_end (lv := .slice la ln lc) hv hY2 (hww.out w6 hb6.out) (by have := hB0.out; omega) rfl)
      obtain ⟨V, hV, hR, hbV, p0, p1⟩ := hend.out _ hown7.out
      replace hV := Lib.hid hV
      clear hend hown7 hY2 hbk hb6
      go_wp2_with (with_reducible refine zStore 32 _ _ rfl ?_)
      refine Lib.hid ?_
      refine wpList_store_mid rfl 32 _ _ rfl (B0 + 1) 0 _ rfl rfl hth.out sizeRD (by simp [Value.oneCell']) ?_
      rw [hV.out]
      clear hV
      go_wp2_with fail
      refine bodyPost_ret (v := .agg #[.slice la ln lc, _]) (by simp [results, Try.results56, go_sem, p0, p1]) rfl ⟨_, rfl, hR, hbV⟩
    · go_wp2_with (with_reducible refine stopBuild 30 _ rfl ?_)
      refine Lib.hid ?_
      go_wp2_with (with_reducible refine zAppend _ _ _ rfl ?_)
      refine Lib.hid ?_
      refine wpList_append_lies _ rfl _ _ 30 rfl (B0 + 2) 129 i0 _ 2 24 Try.underlying30 hi0 hz0 hz1 hz2 rfl (by omega) _ _ _ rfl (hownN.out.alloc _) _ 1 1 [.int .i64 (a : Int), .string S] rfl rfl (World.news_of_block (heap_alloc_new _ _)) (by simp [Value.oneCell']) (by omega) (by unfold maxLen; omega) (by omega) (by simp; omega) (W.heap.size + 1) (by simp) ?_
      intro gg cap2 w6 hown6 hgrow6 hat6 hlt6
      have hb6 : Hid (Below (B0 + 2) W w6) := Lib.hid ((((Kept.of_below' (own := fun b => B0 + 2 ≤ b) (Below.refl _ _) hWs.out).alloc _).grown hgrow6 (fun k hk => .inl (ownFar hownN.out k hk))).below (by omega) (fun _ h => h))
      have hown7 : Hid (w6.ownsRow (B0 + 2) 129 2 (.slice (some ⟨gg, 0, none⟩) (0 + 1) cap2) (ws ++ [(a, s)]).length ((ws ++ [(a, s)]).map rwrow).flatten) := by
        rw [hnil]
        rw [show (([] ++ [(a, s)] : List (Nat × List UInt8)).map rwrow).flatten = [] ++ [.int .i64 (a : Int), .string S] by rw [← hS.out]; rfl]
        exact Lib.hid hown6
      clear hown6 hgrow6 hat6 hownN h3W
      have hbk : Below W.heap.size W w6 := by rw [hWs.out]; exact hb6.out
      have z0 : w6.cell? ⟨B0, 0, none⟩ = some (.slice la ln lc) := keepCell hbk (hX.out.cell 0)
      have hY2 : Whole w6 (B0 + 1) 32 [.slice none 0 0, .slice none 0 0] := hY.out.below hbk (by omega)
      have hth := Lib.hid (hY2.there 0 2 (by simp))
      have hend := Lib.hid (fun (v : Value) (hv : w6.ownsRow (B0 + 2) 129 2 v (ws ++ [(a, s)]).length ((ws ++ [(a, s)]).map rwrow).flatten) => wait_end (lv := .slice la ln lc) hv hY2 (hww.out w6 hb6.out) (by have := hB0.out; omega) rfl)
      obtain ⟨V, hV, hR, hbV, p0, p1⟩ := hend.out _ hown7.out
      replace hV := Lib.hid hV
      clear hend hown7 hY2 hbk hb6
      go_wp2_with (with_reducible refine zStore 32 _ _ rfl ?_)
      refine Lib.hid ?_
      refine wpList_store_mid rfl 32 _ _ rfl (B0 + 1) 0 _ rfl rfl hth.out sizeRD (by simp [Value.oneCell']) ?_
      rw [hV.out]
      clear hV
      go_wp2_with fail
      refine bodyPost_ret (v := .agg #[.slice la ln lc, _]) (by simp [results, Try.results56, go_sem, p0, p1]) rfl ⟨_, rfl, hR, hbV⟩
  · obtain ⟨p0, hp0⟩ : ∃ p, ws[0]? = some p := ⟨_, List.getElem?_eq_getElem (by rw [hm.out]; omega)⟩
    obtain ⟨b, rfl, _⟩ := h3W.out 0 p0 hp0
    have hnews := Lib.hid (rrow_news (w := W) (b := b) (ws := ws) (fun i p hp => by
      obtain ⟨b', e, h⟩ := h3W.out i p hp
      cases e
      exact h))
    clear hp0
    go_wp2_with (with_reducible refine zAppend _ _ _ rfl ?_)
    refine Lib.hid ?_
    refine wpList_append_lies _ rfl _ _ 30 rfl (B0 + 2) 129 i0 _ 2 24 Try.underlying30 hi0 hz0 hz1 hz2 rfl (by omega) (.slice none 0 0) 0 [] rfl ⟨rfl, .inl ⟨rfl, rfl⟩⟩ ⟨b, 0, none⟩ m wc (ws.map rwrow).flatten rfl (by rw [flat_len (rwrow_even ws), List.length_map, hm.out]) hnews.out ?c2 (by omega) (by unfold maxLen; omega) (by omega) (by omega) W.heap.size rfl ?_
    case c2 =>
      intro u hu
      obtain ⟨l, hl1, hl2⟩ := List.mem_flatten.1 hu
      obtain ⟨k, _, rfl⟩ := List.mem_map.1 hl1
      simp only [rwrow, List.mem_cons, List.mem_nil_iff, or_false] at hl2
      rcases hl2 with rfl | rfl <;> rfl
    intro g5 cap5 w5 hown5 hgrow5 hat5 hlt5
    rw [Nat.zero_add, List.nil_append] at hown5
    rw [Nat.zero_add]
    have hb5 : Below (B0 + 2) W w5 := ((Kept.of_below' (own := fun b => B0 + 2 ≤ b) (Below.refl _ _) hWs.out).grown hgrow5 (fun k hk => by cases hk)).below (by omega) (fun _ h => h)
    replace hown5 := Lib.hid hown5
    have hsz5 := hb5.size
    clear hgrow5 hat5 hnews h3W
    go_wp2_with (with_reducible refine zAppend _ _ _ rfl ?_)
    refine Lib.hid ?_
    refine wpList_append_lies _ rfl _ _ 30 rfl (B0 + 2) 129 i0 _ 2 24 Try.underlying30 hi0 hz0 hz1 hz2 rfl (by omega) _ _ _ rfl (hown5.out.alloc _) _ 1 1 [.int .i64 (a : Int), .string S] rfl rfl (World.news_of_block (heap_alloc_new _ _)) (by simp [Value.oneCell']) (by omega) (by unfold maxLen; omega) (by omega) (by simp; omega) (w5.heap.size + 1) (by simp) ?_
    intro gg cap2 w6 hown6 hgrow6 hat6 hlt6
    have hb6 : Hid (Below (B0 + 2) W w6) := Lib.hid ((((Kept.of_below' (own := fun b => B0 + 2 ≤ b) hb5 hWs.out).alloc _).grown hgrow6 (fun k hk => .inl (ownFar hown5.out k hk))).below (by omega) (fun _ h => h))
    have hown7 : Hid (w6.ownsRow (B0 + 2) 129 2 (.slice (some ⟨gg, 0, none⟩) (m + 1) cap2) (ws ++ [(a, s)]).length ((ws ++ [(a, s)]).map rwrow).flatten) := by
      rw [List.map_append, List.flatten_append, List.length_append, hm.out]
      rw [show ([(a, s)].map rwrow).flatten = [.int .i64 (a : Int), .string S] by rw [← hS.out]; rfl]
      exact Lib.hid hown6
    clear hown6 hgrow6 hat6 hown5 hb5 hm0
    have hbk : Below W.heap.size W w6 := by rw [hWs.out]; exact hb6.out
    have z0 : w6.cell? ⟨B0, 0, none⟩ = some (.slice la ln lc) := keepCell hbk (hX.out.cell 0)
    have hY2 : Whole w6 (B0 + 1) 32 [.slice none 0 0, .slice none 0 0] := hY.out.below hbk (by omega)
    have hth := Lib.hid (hY2.there 0 2 (by simp))
    have hend := Lib.hid (fun (v : Value) (hv : w6.ownsRow (B0 + 2) 129 2 v (ws ++ [(a, s)]).length ((ws ++ [(a, s)]).map rwrow).flatten) => wait_end (lv := .slice la ln lc) hv hY2 (hww.out w6 hb6.out) (by have := hB0.out; omega) rfl)
    obtain ⟨V, hV, hR, hbV, p0, p1⟩ := hend.out _ hown7.out
    replace hV := Lib.hid hV
    clear hend hown7 hY2 hbk hb6
    go_wp2_with (with_reducible refine zStore 32 _ _ rfl ?_)
    refine Lib.hid ?_
    refine wpList_store_mid rfl 32 _ _ rfl (B0 + 1) 0 _ rfl rfl hth.out sizeRD (by simp [Value.oneCell']) ?_
    rw [hV.out]
    clear hV
    go_wp2_with fail
    refine bodyPost_ret (v := .agg #[.slice la ln lc, _]) (by simp [results, Try.results56, go_sem, p0, p1]) rfl ⟨_, rfl, hR, hbV⟩
end
end Go.Proofs.Ytgomhnclmacleaa.D
