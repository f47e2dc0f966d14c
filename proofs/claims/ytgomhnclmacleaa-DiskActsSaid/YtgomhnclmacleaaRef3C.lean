/- The document's disk with something else on a sector. -/
import Derived.Test.YtgomhnclmacleaaProg
import Derived.Test.YtgomhnclmacleaaRef3B
namespace Go.Proofs.Ytgomhnclmacleaa.D
open Go.RowKit
open Go.Proofs.Ytgomhnclmacleaa.Z
set_option linter.unusedVariables false

theorem set_take {lie : List (List UInt8)} {a k : Nat} {s x : List UInt8} (hx : lie[k]? = some x) : (lie.set a s).take (k + 1) = (lie.set a s).take k ++ [if a = k then s else x] := by
  have hk : k < lie.length := (List.getElem?_eq_some_iff.1 hx).1
  rw [List.take_add_one, List.getElem?_set]
  by_cases e : a = k
  · subst e; simp [hk]
  · simp [e, hx]
section
variable (lv wv : Value) (lie : List (List UInt8)) (ws : List (Nat × List UInt8)) (w : World)
set_option maxHeartbeats 4000000 in
set_option maxRecDepth 100000 in
theorem rset_any (a : Nat) (s : List UInt8) (h : RD w lv wv lie ws) (ha : a < lie.length) :
    Calls Try.prog 78 #[.agg #[lv, wv], .int .i64 a, strV s] w fun e w' => ∃ v, e = .returned (.agg #[v, wv]) ∧ RL w' v (lie.set a s) ∧ Below w.heap.size w w' := by
  obtain ⟨is, his, hs0, hs1, hs2⟩ := info_parts infoStr
  obtain ⟨wa, wc, rfl, _⟩ := h.waits.form
  obtain ⟨la, lc, rfl, h1, h2, h3⟩ := h.lies.form
  have hfew := h.few
  unfold maxLen at h2
  have hget : Hid (∀ k, k < lie.length → ∃ d, lie[k]? = some d) := Lib.hid (fun k hk => ⟨_, List.getElem?_eq_getElem hk⟩)
  obtain ⟨m, hm⟩ : ∃ n, Hid (ws.length = n) := ⟨_, Lib.hid rfl⟩
  obtain ⟨ln, hln⟩ : ∃ n, Hid (lie.length = n) := ⟨_, Lib.hid rfl⟩
  rw [hln.out] at h1 hget ha hfew ⊢
  rw [hm.out]
  obtain ⟨S, hS⟩ : ∃ v : ByteArray, Hid (⟨s.toArray⟩ = v) := ⟨_, Lib.hid rfl⟩
  unfold strV
  rw [hS.out]
  obtain ⟨B0, hB0⟩ : ∃ n, Hid (w.heap.size = n) := ⟨_, Lib.hid rfl⟩
  obtain ⟨W, hW⟩ : ∃ W, Hid (W = (w.alloc (.cells #[.slice la ln lc, .slice wa m wc] 32)).alloc (.cells #[.slice none 0 0, .slice none 0 0] 32)) := ⟨_, Lib.hid rfl⟩
  have hWs : W.heap.size = B0 + 2 := by rw [hW.out]; simp [hB0.out]
  have hbW : Below w.heap.size w W := by rw [hW.out]; exact (allocBelow w _).alloc (by simp) _
  have hX : Whole W B0 32 [.slice la ln lc, .slice wa m wc] := by rw [hW.out, ← hB0.out]; exact (Whole.new w _ _).alloc _
  have hY : Whole W (B0 + 1) 32 [.slice none 0 0, .slice none 0 0] := by
    have h := Whole.new (w.alloc (.cells #[.slice la ln lc, .slice wa m wc] 32)) 32 [.slice none 0 0, .slice none 0 0]
    rw [show (w.alloc (.cells #[.slice la ln lc, .slice wa m wc] 32)).heap.size = B0 + 1 by simp [hB0.out]] at h
    rw [hW.out]; exact h
  have y1 : W.cell? ⟨B0, 0, none⟩ = some (.slice la ln lc) := hX.cell 0
  have hcell : Hid (∀ k d, lie[k]? = some d → ∃ b, la = some ⟨b, 0, none⟩ ∧ ∀ w', Below w.heap.size w w' → w'.cell? ⟨b, k, none⟩ = some (strV d)) := Lib.hid (fun k d hk => by
    obtain ⟨b, e, e1⟩ := h3 k d hk
    exact ⟨b, e, fun w' hb => keepCell hb e1⟩)
  have hww : Hid (∀ w', Below (B0 + 2) W w' → Below w.heap.size w w') := Lib.hid (fun w' h => hbW.trans (h.mono (by have := hB0.out; omega)))
  replace hX := Lib.hid hX
  replace hY := Lib.hid hY
  clear h h3 hbW
  go_enter Try.func78, Try.ntmps78
  go_wp2_with (with_reducible refine zLoad 29 _ rfl ?_)
  rw [← hW.out, hB0.out]
  clear hW
  refine Lib.hid ?_
  go_wp2_with fail
  go_loopg [7, 13] ln (fun ga v i wr => ∃ k : Nat, k ≤ ln ∧ ln ≤ k + ga ∧ i = .int .i64 k ∧ Hid (Below (B0 + 2) W wr) ∧ Hid (wr.ownsRow (B0 + 2) 9 1 v k (((lie.set a s).take k).map strV)))
  case atStart => exact ⟨0, by omega, by omega, rfl, Lib.hid (Below.refl _ _), Lib.hid ⟨rfl, .inl ⟨rfl, rfl⟩⟩⟩
  case round =>
    obtain ⟨k, hk, hg, rfl, hb, how⟩ := hrel
    generalize wr = wo at *
    have hso : B0 + 2 ≤ wo.heap.size := by have := hb.out.size; omega
    by_cases hlt : k < ln
    · obtain ⟨d, hd⟩ := hget.out k hlt
      obtain ⟨b, rfl, hc⟩ := hcell.out k d hd
      have c0 := hc wo (hww.out wo hb.out)
      clear hc
      have hft := Lib.hid (set_take (a := a) (s := s) hd)
      obtain ⟨Bs, hBs⟩ : ∃ v : ByteArray, Hid (⟨d.toArray⟩ = v) := ⟨_, Lib.hid rfl⟩
      unfold strV at c0
      rw [hBs.out] at c0
      clear hd
      by_cases g1 : k = a
      · have q1 : ((k : Int) == (a : Int)) = true := by simp [g1]
        rw [if_pos g1.symm] at hft
        clear g1
        go_wp2_with (with_reducible refine zAppend _ _ _ rfl ?_)
        refine Lib.hid ?_
        refine wpList_append_lies _ rfl _ _ 29 rfl (B0 + 2) 9 is _ 1 16 Try.underlying29 his hs0 hs1 hs2 rfl (by omega) _ _ _ rfl (how.out.alloc _) _ 1 1 [.string S] rfl rfl (World.news_of_block (heap_alloc_new _ _)) (by simp [Value.oneCell']) (by omega) (by unfold maxLen; omega) (by omega) (by simp; omega) (wo.heap.size + 1) (by simp) ?_
        intro gg cap2 w5 hown5 hgrow5 hat5 hlt5
        have hb5 : Hid (Below (B0 + 2) W w5) := Lib.hid ((((Kept.of_below' (own := fun b => B0 + 2 ≤ b) hb.out hWs).alloc _).grown hgrow5 (fun k hk => .inl (ownFar how.out k hk))).below (by omega) (fun _ h => h))
        have hown6 : Hid (w5.ownsRow (B0 + 2) 9 1 (.slice (some ⟨gg, 0, none⟩) (k + 1) cap2) (k + 1) (((lie.set a s).take (k + 1)).map strV)) := by
          rw [hft.out, List.map_append, List.map_cons, List.map_nil]
          rw [show strV s = .string S by rw [← hS.out]; rfl]
          exact Lib.hid hown5
        clear hown5 hgrow5 hat5 how hb hft
        go_wp2_with fail
        go_roundg (gk - 1)
        case measure => omega
        case rel => exact ⟨k + 1, by omega, by omega, by go_num, hb5, hown6⟩
      · have q1 : ((k : Int) == (a : Int)) = false := by rw [beq_eq_false_iff_ne]; omega
        rw [if_neg (fun e => g1 e.symm)] at hft
        clear g1
        go_wp2_with (with_reducible refine zAppend _ _ _ rfl ?_)
        refine Lib.hid ?_
        refine wpList_append_lies _ rfl _ _ 29 rfl (B0 + 2) 9 is _ 1 16 Try.underlying29 his hs0 hs1 hs2 rfl (by omega) _ _ _ rfl (how.out.alloc _) _ 1 1 [.string Bs] rfl rfl (World.news_of_block (heap_alloc_new _ _)) (by simp [Value.oneCell']) (by omega) (by unfold maxLen; omega) (by omega) (by simp; omega) (wo.heap.size + 1) (by simp) ?_
        intro gg cap2 w5 hown5 hgrow5 hat5 hlt5
        have hb5 : Hid (Below (B0 + 2) W w5) := Lib.hid ((((Kept.of_below' (own := fun b => B0 + 2 ≤ b) hb.out hWs).alloc _).grown hgrow5 (fun k hk => .inl (ownFar how.out k hk))).below (by omega) (fun _ h => h))
        have hown6 : Hid (w5.ownsRow (B0 + 2) 9 1 (.slice (some ⟨gg, 0, none⟩) (k + 1) cap2) (k + 1) (((lie.set a s).take (k + 1)).map strV)) := by
          rw [hft.out, List.map_append, List.map_cons, List.map_nil]
          rw [show strV d = .string Bs by rw [← hBs.out]; rfl]
          exact Lib.hid hown5
        clear hown5 hgrow5 hat5 how hb hft
        go_wp2_with fail
        go_roundg (gk - 1)
        case measure => omega
        case rel => exact ⟨k + 1, by omega, by omega, by go_num, hb5, hown6⟩
    · obtain rfl : k = ln := by omega
      have htk : (lie.set a s).take k = lie.set a s := List.take_of_length_le (by rw [List.length_set, hln.out]; exact Nat.le_refl _)
      rw [htk] at how
      have hbk : Below W.heap.size W wo := by rw [hWs]; exact hb.out
      have z1 : wo.cell? ⟨B0, 1, none⟩ = some (.slice wa m wc) := keepCell hbk (hX.out.cell 1)
      have hY2 : Whole wo (B0 + 1) 32 [.slice none 0 0, .slice none 0 0] := hY.out.below hbk (by omega)
      have hlk : (lie.set a s).length = k := by rw [List.length_set]; exact hln.out
      generalize u7 = v at *
      have how2 : Hid (wo.ownsRow (B0 + 2) 9 1 v (lie.set a s).length ((lie.set a s).map strV)) := by rw [hlk]; exact how
      obtain ⟨va, vc, hvv, _⟩ := (RL.own how2.out).form
      rw [hlk] at hvv
      subst hvv
      have hth := Lib.hid (hY2.there 0 2 (by simp))
      have hY3 := hY2.store 0 [.slice va k vc, .slice wa m wc] (by simp)
      rw [show splice [(.slice none 0 0 : Value), .slice none 0 0] 0 [.slice va k vc, .slice wa m wc] = [.slice va k vc, .slice wa m wc] from rfl] at hY3
      have hkv : Kept (fun b => b = B0 + 1) wo (wo.setCells (B0 + 1) 0 [.slice va k vc, .slice wa m wc]) := (Kept.refl (fun b => b = B0 + 1) wo).setCells (c := B0 + 1) (.inl rfl) _ _
      obtain ⟨V, hV⟩ : ∃ V, Hid (V = wo.setCells (B0 + 1) 0 [.slice va k vc, .slice wa m wc]) := ⟨_, Lib.hid rfl⟩
      rw [← hV.out] at hY3 hkv
      have hR := Lib.hid (RL.own (own_of_kept how2.out hkv (fun q hq e => by have := ownFar how2.out q hq; omega)))
      have hbV : Hid (Below w.heap.size w V) := Lib.hid ((hww.out wo hb.out).trans (hkv.below (by have := hB0.out; omega) (fun q hq => by have := hB0.out; omega)))
      have p0 : V.cell? ⟨B0 + 1, 0, none⟩ = some (.slice va k vc) := hY3.cell 0
      have p1 : V.cell? ⟨B0 + 1, 1, none⟩ = some (.slice wa m wc) := hY3.cell 1
      clear how how2 hcell hY2 hY3 hkv hbk hb
      go_wp2_with (with_reducible refine zStore 32 _ _ rfl ?_)
      refine Lib.hid ?_
      refine wpList_store_mid rfl 32 _ _ rfl (B0 + 1) 0 #[.slice va k vc, .slice wa m wc] rfl rfl hth.out sizeRD (by simp [Value.oneCell']) ?_
      rw [show (#[.slice va k vc, .slice wa m wc] : Array Value).toList = [.slice va k vc, .slice wa m wc] from rfl, ← hV.out]
      clear hV
      go_wp2_with fail
      refine bodyPost_ret (v := .agg #[.slice va k vc, .slice wa m wc]) (by simp [results, Try.results78, go_sem, p0, p1]) rfl ⟨_, rfl, hR.out, hbV.out⟩
end
end Go.Proofs.Ytgomhnclmacleaa.D
