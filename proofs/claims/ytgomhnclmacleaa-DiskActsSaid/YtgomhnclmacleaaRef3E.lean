/- A flush of the document's disk; how many writes a span has. -/
import Derived.Test.YtgomhnclmacleaaProg
import Derived.Test.YtgomhnclmacleaaRef3D
namespace Go.Proofs.Ytgomhnclmacleaa.D
open Go.RowKit
open Go.Proofs.Ytgomhnclmacleaa.Z
set_option linter.unusedVariables false

theorem laid_take {lie : List (List UInt8)} {l : List (Nat × List UInt8)} {k : Nat} {p : Nat × List UInt8} (h : l[k]? = some p) : laid lie (l.take (k + 1)) = (laid lie (l.take k)).set p.1 p.2 := by
  unfold laid
  rw [List.take_add_one, h, show (some p).toList = [p] from rfl, List.foldl_append]
  rfl
theorem cell_two {w : World} {b : Nat} {x y : Value} {t : TypeId} (h : Whole w b t [x, y]) {i : Nat} {v : Value} (hv : w.cell? ⟨b, i, none⟩ = some v) : v = x ∨ v = y := by
  rw [h.cell] at hv
  match i, hv with
  | 0, hv => exact .inl (by simpa using hv.symm)
  | 1, hv => exact .inr (by simpa using hv.symm)
theorem RL.store {w : World} {b : Nat} {t : TypeId} {a1 a2 : Option Addr} {n1 n2 c1 c2 : Nat} {v : Value} {lie : List (List UInt8)} (h : RL w v lie) (hW : Whole w b t [.slice a1 n1 c1, .slice a2 n2 c2]) (cs : List Value) : RL (w.setCells b 0 cs) v lie := by
  obtain ⟨a, cap, h1, h2, h3, h4⟩ := h.form
  refine ⟨⟨a, cap, h1, h2, h3, fun i s hs => ?_⟩, fun q e n => TypedAt.setCells b cs 0 w (h.typed q e n)⟩
  obtain ⟨b', e, hc⟩ := h4 i s hs
  refine ⟨b', e, ?_⟩
  have hne : b' ≠ b := fun e2 => by
    subst e2
    rcases cell_two hW hc with h | h <;> cases h
  have hk : Kept (fun q => q = b) w (w.setCells b 0 cs) := (Kept.refl (fun q => q = b) w).setCells (c := b) (.inl rfl) _ _
  rw [hk.cell (World.block_lt_of_cell? w _ hc) hne]
  exact hc
theorem RW.store {w : World} {b : Nat} {t : TypeId} {a1 a2 : Option Addr} {n1 n2 c1 c2 : Nat} {v : Value} {ws : List (Nat × List UInt8)} (h : RW w v ws) (hW : Whole w b t [.slice a1 n1 c1, .slice a2 n2 c2]) (cs : List Value) : RW (w.setCells b 0 cs) v ws := by
  obtain ⟨a, cap, h1, h2, h3, h4⟩ := h.form
  refine ⟨⟨a, cap, h1, h2, h3, fun i s hs => ?_⟩, fun q e n => TypedAt.setCells b cs 0 w (h.typed q e n)⟩
  obtain ⟨b', e, hc, hc2⟩ := h4 i s hs
  have hne : b' ≠ b := fun e2 => by
    subst e2
    rcases cell_two hW hc with h | h <;> cases h
  have hk : Kept (fun q => q = b) w (w.setCells b 0 cs) := (Kept.refl (fun q => q = b) w).setCells (c := b) (.inl rfl) _ _
  refine ⟨b', e, ?_, ?_⟩
  · rw [hk.cell (World.block_lt_of_cell? w _ hc) hne]; exact hc
  · rw [hk.cell (World.block_lt_of_cell? w _ hc) hne]; exact hc2
section
variable (lv wv : Value) (lie : List (List UInt8)) (ws : List (Nat × List UInt8)) (w : World)
set_option maxHeartbeats 4000000 in
set_option maxRecDepth 100000 in
theorem rflush_any (f n : Nat) (h : RD w lv wv lie ws) (hfn : f + n ≤ lie.length) (hws : ws.length ≤ 100) (hin : ∀ p ∈ ws, p.1 < lie.length) :
    Calls Try.prog 58 #[.agg #[lv, wv], .int .i64 f, .int .i64 n] w fun e w' => ∃ v u, e = .returned (.agg #[v, u]) ∧ RL w' v (laid lie (ws.filter (spanB f n))) ∧ RW w' u (ws.filter (keepB f n)) ∧ Below w.heap.size w w' := by
  have hfew := h.few
  obtain ⟨wa, wc, rfl, h1, h2, _⟩ := h.waits.form
  obtain ⟨la, lc, rfl, hl1, hl2, _⟩ := h.lies.form
  obtain ⟨m, hm⟩ : ∃ n, Hid (ws.length = n) := ⟨_, Lib.hid rfl⟩
  obtain ⟨ln, hln⟩ : ∃ n, Hid (lie.length = n) := ⟨_, Lib.hid rfl⟩
  obtain ⟨B0, hB0⟩ : ∃ n, Hid (w.heap.size = n) := ⟨_, Lib.hid rfl⟩
  obtain ⟨W, hW⟩ : ∃ W, Hid (W = ((w.alloc (.cells #[.slice la ln lc, .slice wa m wc] 32)).alloc (.cells #[.slice none 0 0, .slice none 0 0] 32)).alloc (.cells #[.slice la ln lc, .slice wa m wc] 32)) := ⟨_, Lib.hid rfl⟩
  have hWs : W.heap.size = B0 + 3 := by rw [hW.out]; simp [hB0.out]
  have hbW : Below w.heap.size w W := by rw [hW.out]; exact ((allocBelow w _).alloc (by simp) _).alloc (by simp; omega) _
  have hs1 : (w.alloc (.cells #[.slice la ln lc, .slice wa m wc] 32)).heap.size = B0 + 1 := by simp [hB0.out]
  have hs2 : ((w.alloc (.cells #[.slice la ln lc, .slice wa m wc] 32)).alloc (.cells #[.slice none 0 0, .slice none 0 0] 32)).heap.size = B0 + 1 + 1 := by simp [hB0.out]
  have hX : Whole W B0 32 [.slice la ln lc, .slice wa m wc] := by rw [hW.out, ← hB0.out]; exact ((Whole.new w _ _).alloc _).alloc _
  have hY : Whole W (B0 + 1) 32 [.slice none 0 0, .slice none 0 0] := by
    have h := Whole.new (w.alloc (.cells #[.slice la ln lc, .slice wa m wc] 32)) 32 [.slice none 0 0, .slice none 0 0]
    rw [hs1] at h
    rw [hW.out]; exact h.alloc _
  have hZ : Whole W (B0 + 1 + 1) 32 [.slice la ln lc, .slice wa m wc] := by
    have h := Whole.new ((w.alloc (.cells #[.slice la ln lc, .slice wa m wc] 32)).alloc (.cells #[.slice none 0 0, .slice none 0 0] 32)) 32 [.slice la ln lc, .slice wa m wc]
    rw [hs2] at h
    rw [hW.out]; exact h
  clear hs1 hs2
  have hwts : Hid (∀ w', Below w.heap.size w w' → RW w' (.slice wa m wc) ws) := Lib.hid (fun w' hb => by
    have hh := h.waits.below hb
    rw [hm.out] at hh
    exact hh)
  have hRDW : RD W (.slice la ln lc) (.slice wa m wc) lie ws := by
    have hh := h.below hbW
    rw [hln.out, hm.out] at hh
    exact hh
  rw [hln.out, hm.out]
  have hIn := Lib.hid (rin_any _ _ lie ws W f n hRDW (by omega) hws)
  have y0 : W.cell? ⟨B0, 0, none⟩ = some (.slice la ln lc) := hX.cell 0
  have y1 : W.cell? ⟨B0, 1, none⟩ = some (.slice wa m wc) := hX.cell 1
  replace hX := Lib.hid hX
  replace hY := Lib.hid hY
  replace hZ := Lib.hid hZ
  replace hRDW := Lib.hid hRDW
  replace hWs := Lib.hid hWs
  replace hbW := Lib.hid hbW
  clear h
  go_enter Try.func58, Try.ntmps58
  go_wp2_with fail
  rw [← hW.out, hB0.out]
  refine hIn.out.mono ?_
  rintro e w1 ⟨fv, rfl, hF, hb1⟩
  clear hW hIn
  obtain ⟨F, hFF⟩ : ∃ F, Hid (ws.filter (spanB f n) = F) := ⟨_, Lib.hid rfl⟩
  have hFin : Hid (∀ p ∈ F, p.1 < lie.length) := Lib.hid (fun p hp => by rw [← hFF.out] at hp; exact hin p (List.mem_filter.1 hp).1)
  rw [hFF.out] at hF
  obtain ⟨fa, fc, rfl, hf1, hf2, hf3⟩ := hF.form
  obtain ⟨L, hL⟩ : ∃ L, Hid (F.length = L) := ⟨_, Lib.hid rfl⟩
  unfold maxLen at hf2
  have hget : Hid (∀ k, k < F.length → ∃ d, F[k]? = some d) := Lib.hid (fun k hk => ⟨_, List.getElem?_eq_getElem hk⟩)
  rw [hL.out] at hf1 hget ⊢
  have hZ1 : Hid (Whole w1 (B0 + 1 + 1) 32 [.slice la ln lc, .slice wa m wc]) := Lib.hid (hZ.out.below hb1 (by have := hWs.out; omega))
  have hk1 : Hid (Kept (fun q => q = B0 + 1 + 1) W w1) := Lib.hid (Kept.of_below hb1)
  have hRL1 : Hid (RL w1 (.slice la ln lc) (laid lie (F.take 0))) := Lib.hid (hRDW.out.lies.below hb1)
  have hcell : Hid (∀ k d, F[k]? = some d → ∃ b, fa = some ⟨b, 0, none⟩ ∧ ∀ w', Kept (fun q => q = B0 + 1 + 1) w1 w' → w'.cell? ⟨b, k * 2, none⟩ = some (.int .i64 (d.1 : Int)) ∧ w'.cell? ⟨b, k * 2 + 1, none⟩ = some (strV d.2)) := Lib.hid (fun k d hk => by
    obtain ⟨b, e, e1, e2⟩ := hf3 k d hk
    have hne : b ≠ B0 + 1 + 1 := fun h => by
      subst h
      rcases cell_two hZ1.out e1 with h | h <;> cases h
    refine ⟨b, e, fun w' hkk => ⟨?_, ?_⟩⟩
    · rw [hkk.cell (World.block_lt_of_cell? w1 _ e1) hne]; exact e1
    · rw [hkk.cell (World.block_lt_of_cell? w1 _ e1) hne]; exact e2)
  have hb01 : Hid (Below w.heap.size w w1) := Lib.hid (hbW.out.trans (hb1.mono hbW.out.size))
  have hkw : Hid (∀ w', Kept (fun q => q = B0 + 1 + 1) w1 w' → Below w.heap.size w w') := Lib.hid (fun w' h => hb01.out.trans (h.below hb01.out.size (fun q hq => by have := hB0.out; omega)))
  have hX1 : Hid (Whole w1 B0 32 [.slice la ln lc, .slice wa m wc]) := Lib.hid (hX.out.below hb1 (by have := hWs.out; omega))
  have hY1 : Hid (Whole w1 (B0 + 1) 32 [.slice none 0 0, .slice none 0 0]) := Lib.hid (hY.out.below hb1 (by have := hWs.out; omega))
  have hs1 : B0 + 3 ≤ w1.heap.size := by have := hWs.out; have := hb1.size; omega
  clear hX hY hZ hb1 hF hf3 y0 y1 hRDW hbW hWs
  go_wp2_with fail
  go_loopg [16] L (fun ga i wr => ∃ k : Nat, ∃ va : Option Addr, ∃ vc : Nat, k ≤ L ∧ L ≤ k + ga ∧ i = .int .i64 k ∧ Hid (Kept (fun q => q = B0 + 1 + 1) w1 wr) ∧ Hid (Whole wr (B0 + 1 + 1) 32 [.slice va ln vc, .slice wa m wc]) ∧ Hid (RL wr (.slice va ln vc) (laid lie (F.take k))))
  case atStart => exact ⟨0, la, lc, by omega, by omega, rfl, Lib.hid (Kept.refl _ _), hZ1, hRL1⟩
  case round =>
    clear hZ1 hRL1
    obtain ⟨k, va, vc, hk, hg, rfl, hK, hZk, hRk⟩ := hrel
    generalize wr = wo at *
    by_cases hlt : k < L
    · obtain ⟨d, hd⟩ := hget.out k hlt
      obtain ⟨b, rfl, hc⟩ := hcell.out k d hd
      obtain ⟨c0, c1⟩ := hc wo hK.out
      clear hc
      have hlt' := Lib.hid (laid_take (lie := lie) hd)
      have hdin := hFin.out d (List.mem_of_getElem? hd)
      obtain ⟨x, s⟩ := d
      unfold strV at c1
      simp only at c0 c1 hdin
      obtain ⟨Bs, hBs⟩ : ∃ v : ByteArray, Hid (⟨s.toArray⟩ = v) := ⟨_, Lib.hid rfl⟩
      rw [hBs.out] at c1
      obtain ⟨W2, hW2⟩ : ∃ W, Hid (W = wo.alloc (.cells #[.int .i64 (x : Int), .string Bs] 129)) := ⟨_, Lib.hid rfl⟩
      have hbw : Below wo.heap.size wo W2 := by rw [hW2.out]; exact allocBelow wo _
      have v0 : W2.cell? ⟨wo.heap.size, 0, none⟩ = some (.int .i64 (x : Int)) := by rw [hW2.out]; exact (Whole.new wo 129 [.int .i64 (x : Int), .string Bs]).cell 0
      have v1 : W2.cell? ⟨wo.heap.size, 1, none⟩ = some (.string Bs) := by rw [hW2.out]; exact (Whole.new wo 129 [.int .i64 (x : Int), .string Bs]).cell 1
      have hZ2 := hZk.out.below hbw hZk.out.lt
      have u0 : W2.cell? ⟨B0 + 1 + 1, 0, none⟩ = some (.slice va ln vc) := hZ2.cell 0
      have u1 : W2.cell? ⟨B0 + 1 + 1, 1, none⟩ = some (.slice wa m wc) := hZ2.cell 1
      have hK2 : Kept (fun q => q = B0 + 1 + 1) w1 W2 := hK.out.trans (Kept.of_below hbw)
      have hlen : (laid lie (F.take k)).length = ln := by rw [laid_len]; exact hln.out
      have hRD2 : RD W2 (.slice va ln vc) (.slice wa m wc) (laid lie (F.take k)) ws := ⟨hRk.out.below hbw, hwts.out W2 (hkw.out W2 hK2), by rw [hlen, ← hln.out]; exact hfew, fun p hp => by have := hin p hp; omega⟩
      have hset := Lib.hid (rset_any _ _ _ _ W2 x s hRD2 (by rw [hlen, ← hln.out]; exact hdin))
      rw [← hlt'.out] at hset
      rw [show strV s = .string Bs by rw [← hBs.out]; rfl] at hset
      replace hZ2 := Lib.hid hZ2
      replace hK2 := Lib.hid hK2
      clear hRD2 hRk hZk hK hbw hlt' hd
      go_wp2_with (with_reducible refine zLoad 32 _ rfl ?_)
      rw [← hW2.out]
      clear hW2 c0 c1
      refine Lib.hid ?_
      go_wp2_with fail
      refine hset.out.mono ?_
      rintro e w3 ⟨nv, rfl, hRn, hb3⟩
      clear hset
      have hlen2 : (laid lie (F.take (k + 1))).length = ln := by rw [laid_len]; exact hln.out
      obtain ⟨na, nc, hnv, _⟩ := hRn.form
      rw [hlen2] at hnv
      subst hnv
      have hZ3 := hZ2.out.below hb3 hZ2.out.lt
      have hth := Lib.hid (hZ3.there 0 2 (by simp))
      obtain ⟨V, hV⟩ : ∃ V, Hid (V = w3.setCells (B0 + 1 + 1) 0 [.slice na ln nc, .slice wa m wc]) := ⟨_, Lib.hid rfl⟩
      have hK5 : Hid (Kept (fun q => q = B0 + 1 + 1) w1 V) := Lib.hid (by rw [hV.out]; exact (hK2.out.trans (Kept.of_below hb3)).setCells (c := B0 + 1 + 1) (.inl rfl) _ _)
      have hZ5 : Hid (Whole V (B0 + 1 + 1) 32 [.slice na ln nc, .slice wa m wc]) := Lib.hid (by rw [hV.out]; exact hZ3.store 0 [.slice na ln nc, .slice wa m wc] (by simp))
      have hR5 : Hid (RL V (.slice na ln nc) (laid lie (F.take (k + 1)))) := Lib.hid (by rw [hV.out]; exact hRn.store hZ3 _)
      clear hRn hb3 hZ3 hZ2 hK2 hlen2
      go_wp2_with (with_reducible refine zStore 32 _ _ rfl ?_)
      refine Lib.hid ?_
      refine wpList_store_mid rfl 32 _ _ rfl (B0 + 1 + 1) 0 #[.slice na ln nc, .slice wa m wc] rfl rfl hth.out sizeRD (by simp [Value.oneCell']) ?_
      rw [show (#[.slice na ln nc, .slice wa m wc] : Array Value).toList = [.slice na ln nc, .slice wa m wc] from rfl, ← hV.out]
      clear hV hth
      go_wp2_with fail
      go_roundg (gk - 1)
      case measure => omega
      case rel => exact ⟨k + 1, na, nc, by omega, by omega, by go_num, hK5, hZ5, hR5⟩
    · obtain rfl : k = L := by omega
      have htk : F.take k = F := by rw [← hL.out, List.take_length]
      rw [htk] at hRk
      have hbwo := hkw.out wo hK.out
      have u0 : wo.cell? ⟨B0 + 1 + 1, 0, none⟩ = some (.slice va ln vc) := hZk.out.cell 0
      have u1 : wo.cell? ⟨B0 + 1 + 1, 1, none⟩ = some (.slice wa m wc) := hZk.out.cell 1
      have hlenF : (laid lie F).length = ln := by rw [laid_len]; exact hln.out
      have hRDo : RD wo (.slice va ln vc) (.slice wa m wc) (laid lie F) ws := ⟨hRk.out, hwts.out wo hbwo, by rw [hlenF, ← hln.out]; exact hfew, fun p hp => by have := hin p hp; omega⟩
      have hwo := Lib.hid (rwithout_any _ _ _ _ wo f n hRDo (by omega) hws)
      have hYo : Hid (Whole wo (B0 + 1) 32 [.slice none 0 0, .slice none 0 0]) := Lib.hid (hY1.out.of_kept hK.out (by omega))
      replace hbwo := Lib.hid hbwo
      clear hRDo hZk hK hcell htk hX1 hY1 hkw
      go_wp2_with fail
      refine hwo.out.mono ?_
      rintro e w3 ⟨nu, rfl, hRu, hb3⟩
      clear hwo
      obtain ⟨L2, hL2⟩ : ∃ L, Hid ((ws.filter (keepB f n)).length = L) := ⟨_, Lib.hid rfl⟩
      obtain ⟨na, nc, hnu, _⟩ := hRu.form
      rw [hL2.out] at hnu
      subst hnu
      have hY3 := hYo.out.below hb3 hYo.out.lt
      have hth := Lib.hid (hY3.there 0 2 (by simp))
      obtain ⟨V, hV⟩ : ∃ V, Hid (V = w3.setCells (B0 + 1) 0 [.slice va ln vc, .slice na L2 nc]) := ⟨_, Lib.hid rfl⟩
      have hRL5 : Hid (RL V (.slice va ln vc) (laid lie F)) := Lib.hid (by rw [hV.out]; exact (hRk.out.below hb3).store hY3 _)
      have hRW5 : Hid (RW V (.slice na L2 nc) (ws.filter (keepB f n))) := Lib.hid (by rw [hV.out]; exact hRu.store hY3 _)
      have hY5 : Whole V (B0 + 1) 32 [.slice va ln vc, .slice na L2 nc] := by rw [hV.out]; exact hY3.store 0 [.slice va ln vc, .slice na L2 nc] (by simp)
      have hkv : Kept (fun q => q = B0 + 1) w3 V := by rw [hV.out]; exact (Kept.refl (fun q => q = B0 + 1) w3).setCells (c := B0 + 1) (.inl rfl) _ _
      have hb3w := hbwo.out.trans (hb3.mono hbwo.out.size)
      have hbV : Hid (Below w.heap.size w V) := Lib.hid (hb3w.trans (hkv.below hb3w.size (fun q hq => by have := hB0.out; omega)))
      have p0 : V.cell? ⟨B0 + 1, 0, none⟩ = some (.slice va ln vc) := hY5.cell 0
      have p1 : V.cell? ⟨B0 + 1, 1, none⟩ = some (.slice na L2 nc) := hY5.cell 1
      clear hRu hRk hb3 hY3 hYo hY5 hkv hb3w
      go_wp2_with (with_reducible refine zStore 32 _ _ rfl ?_)
      refine Lib.hid ?_
      refine wpList_store_mid rfl 32 _ _ rfl (B0 + 1) 0 #[.slice va ln vc, .slice na L2 nc] rfl rfl hth.out sizeRD (by simp [Value.oneCell']) ?_
      rw [show (#[.slice va ln vc, .slice na L2 nc] : Array Value).toList = [.slice va ln vc, .slice na L2 nc] from rfl, ← hV.out]
      clear hV hth
      go_wp2_with fail
      refine bodyPost_ret (v := .agg #[.slice va ln vc, .slice na L2 nc]) (by simp [results, Try.results58, go_sem, p0, p1]) rfl ⟨_, _, rfl, by rw [hFF.out]; exact hRL5.out, hRW5.out, hbV.out⟩
end
end Go.Proofs.Ytgomhnclmacleaa.D
