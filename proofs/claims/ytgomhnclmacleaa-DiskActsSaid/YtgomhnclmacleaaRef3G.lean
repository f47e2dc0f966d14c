/- The document's new disk. -/
import Derived.Test.YtgomhnclmacleaaProg
import Derived.Test.YtgomhnclmacleaaRef3F
namespace Go.Proofs.Ytgomhnclmacleaa.D
open Go.RowKit
open Go.Proofs.Ytgomhnclmacleaa.Z
set_option linter.unusedVariables false

section
variable (w : World)
set_option maxHeartbeats 4000000 in
set_option maxRecDepth 100000 in
theorem rnew_any (n : Nat) (hn : n ≤ 8192) :
    Calls Try.prog 16 #[.int .i64 n] w fun e w' => ∃ v, e = .returned (.agg #[v, .slice none 0 0]) ∧ RL w' v (zeros n) ∧ Below w.heap.size w w' := by
  obtain ⟨is, his, hs0, hs1, hs2⟩ := info_parts infoStr
  obtain ⟨i0, hi0, hz0, hz1, hz2⟩ := info_parts infoByte
  have hmk := fun W => run_make_rowN (P := Try.prog) 89 5 i0 _ Try.underlying89 hi0 hz0 .i64 .i64 64 (by rw [hz2]; omega) (by omega) W
  rw [hz1, show (Value.int .u8 0).cells = Array.replicate 1 (.int .u8 0) from rfl] at hmk
  obtain ⟨cs, hcs⟩ : ∃ cs, Hid (madeCells (Array.replicate 1 (Value.int .u8 0)) (64 * 1) = cs) := ⟨_, Lib.hid rfl⟩
  rw [hcs.out] at hmk
  replace hmk : ∀ W : World, (Instr.makeSlice 89 (.int .i64 64) (.int .i64 64)).run Try.prog W = .ok (.slice (some ⟨W.heap.size, 0, none⟩) 64 64) (W.alloc (.cells cs 5)) := fun W => hmk W
  have hl : cs.toList = List.replicate 64 (.int .u8 0) := by rw [← hcs.out, made_one _ _ _ (by omega)]
  obtain ⟨Z, hZ⟩ : ∃ Z : ByteArray, Hid (⟨(List.replicate 64 (0 : UInt8)).toArray⟩ = Z) := ⟨_, Lib.hid rfl⟩
  obtain ⟨B0, hB0⟩ : ∃ n, Hid (w.heap.size = n) := ⟨_, Lib.hid rfl⟩
  obtain ⟨W1, hW1⟩ : ∃ W, Hid (W = (w.alloc (.cells #[.slice none 0 0, .slice none 0 0] 32)).alloc (.cells cs 5)) := ⟨_, Lib.hid rfl⟩
  have hs1' : (w.alloc (.cells #[.slice none 0 0, .slice none 0 0] 32)).heap.size = B0 + 1 := by simp [hB0.out]
  have hcv : (convert 89 9 (.slice (some ⟨B0 + 1, 0, none⟩) 64 64)).run Try.prog W1 = .ok (.string Z) W1 := by
    have hr : W1.rangeAt (B0 + 1) 0 (bytesV (fillL 0)) := by
      have e : bytesV (fillL 0) = List.replicate 64 (Value.int .u8 0) := by simp [bytesV, fillL, u8v]
      rw [e, ← hl, hW1.out, ← hs1']
      have := Whole.new (w.alloc (.cells #[.slice none 0 0, .slice none 0 0] 32)) 5 cs.toList
      exact Whole.range this
    have hcv := convBytes 64 hr
    rw [show (fillL 0).length = 64 by simp [fillL]] at hcv
    rw [← hZ.out]
    exact hcv
  go_enter Try.func16, Try.ntmps16
  go_wp2_with fail
  rw [← hW1.out, hcv]
  have hW1s : W1.heap.size = B0 + 2 := by rw [hW1.out]; simp [hB0.out]
  have hb1 : Below w.heap.size w W1 := by rw [hW1.out]; exact (allocBelow w _).alloc (by simp) _
  have hX : Whole W1 B0 32 [.slice none 0 0, .slice none 0 0] := by rw [hW1.out, ← hB0.out]; exact (Whole.new w _ _).alloc _
  obtain ⟨W, hW⟩ : ∃ W, Hid (W = W1.alloc (.cells #[.slice none 0 0, .slice none 0 0] 32)) := ⟨_, Lib.hid rfl⟩
  have hWs : W.heap.size = B0 + 3 := by rw [hW.out]; simp [hW1s]
  have hbW : Hid (Below w.heap.size w W) := Lib.hid (by rw [hW.out]; exact hb1.alloc hb1.size _)
  have hX2 : Hid (Whole W B0 32 [.slice none 0 0, .slice none 0 0]) := Lib.hid (by rw [hW.out]; exact hX.alloc _)
  have hY2 : Hid (Whole W (B0 + 2) 32 [.slice none 0 0, .slice none 0 0]) := Lib.hid (by rw [hW.out, ← hW1s]; exact Whole.new W1 _ _)
  clear hX hb1 hmk hl hcs hcv
  go_wp2_with fail
  rw [← hW.out, hB0.out]
  clear hW
  have hk0 : Hid (Kept (fun q => q = B0 + 2 ∨ B0 + 3 ≤ q) W W) := Lib.hid (Kept.refl _ _)
  replace hWs := Lib.hid hWs
  go_loopg [9] n (fun ga i wr => ∃ k : Nat, ∃ va : Option Addr, ∃ vc : Nat, k ≤ n ∧ n ≤ k + ga ∧ i = .int .i64 k ∧ Hid (Whole wr (B0 + 2) 32 [.slice va k vc, .slice none 0 0]) ∧ Hid (wr.ownsRow (B0 + 3) 9 1 (.slice va k vc) k (List.replicate k (.string Z))) ∧ Hid (Kept (fun q => q = B0 + 2 ∨ B0 + 3 ≤ q) W wr))
  case atStart => exact ⟨0, none, 0, by omega, by omega, rfl, hY2, Lib.hid ⟨rfl, .inl ⟨rfl, rfl⟩⟩, hk0⟩
  case round =>
    obtain ⟨k, va, vc, hk, hg, rfl, hY, how, hK⟩ := hrel
    generalize wr = wo at *
    clear hY2 hk0
    have hso : B0 + 3 ≤ wo.heap.size := by have := hK.out.size; have := hWs.out; omega
    have c0 : wo.cell? ⟨B0 + 2, 0, none⟩ = some (.slice va k vc) := hY.out.cell 0
    by_cases hlt : k < n
    · go_wp2_with (with_reducible refine zAppend _ _ _ rfl ?_)
      refine Lib.hid ?_
      refine wpList_append_lies _ rfl _ _ 29 rfl (B0 + 3) 9 is _ 1 16 Try.underlying29 his hs0 hs1 hs2 rfl (by omega) _ _ _ rfl (how.out.alloc _) _ 1 1 [.string Z] rfl rfl (World.news_of_block (heap_alloc_new _ _)) (by simp [Value.oneCell']) (by omega) (by unfold maxLen; omega) (by omega) (by simp; omega) (wo.heap.size + 1) (by simp) ?_
      intro gg cap2 w5 hown5 hgrow5 hat5 hlt5
      have hkk : Kept (fun q => B0 + 3 ≤ q) wo w5 := ((Kept.refl (fun q => B0 + 3 ≤ q) wo).alloc _).grown hgrow5 (fun k hk => .inl (ownFar how.out k hk))
      have hY5 := hY.out.of_kept hkk (by omega)
      have hst := Lib.hid (hY5.store 0 [.slice (some ⟨gg, 0, none⟩) (k + 1) cap2] (by simp))
      have hfr := hY5.frozen 0
      have d0 : w5.cell? ⟨B0 + 2, 0, none⟩ = some (.slice va k vc) := hY5.cell 0
      have hkv : Kept (fun b => b = B0 + 2) w5 (w5.setCells (B0 + 2) 0 [.slice (some ⟨gg, 0, none⟩) (k + 1) cap2]) := (Kept.refl (fun b => b = B0 + 2) w5).setCells (c := B0 + 2) (.inl rfl) _ _
      have hown6 := Lib.hid (own_of_kept hown5 hkv (fun q hq e => by have := ownFar hown5 q hq; omega))
      have hK6 : Hid (Kept (fun q => q = B0 + 2 ∨ B0 + 3 ≤ q) W (w5.setCells (B0 + 2) 0 [.slice (some ⟨gg, 0, none⟩) (k + 1) cap2])) := Lib.hid ((hK.out.trans (hkk.mono fun _ _ h => .inr h)).trans (hkv.mono fun _ _ h => .inl h))
      rw [← List.replicate_succ'] at hown6
      clear hown5 hgrow5 hat5 hY5 hkk hkv how hY hK c0
      go_wp2_with fail
      go_roundg (gk - 1)
      case measure => omega
      case rel => exact ⟨k + 1, _, cap2, by omega, by omega, by go_num, hst, hown6, hK6⟩
    · obtain rfl : k = n := by omega
      have x0 : wo.cell? ⟨B0 + 2, 1, none⟩ = some (.slice none 0 0) := hY.out.cell 1
      have hR : RL wo (.slice va k vc) (zeros k) := by
        have h := RL.own (w := wo) (B := B0 + 3) (v := .slice va k vc) (lie := zeros k) (by
          have e : (zeros k).map strV = List.replicate k (.string Z) := by rw [← hZ.out]; simp [zeros, strV]
          rw [e, show (zeros k).length = k by simp [zeros]]; exact how.out)
        exact h
      have hX3 := hX2.out.of_kept hK.out (by omega)
      have hth := Lib.hid (hX3.there 0 2 (by simp))
      obtain ⟨V, hV⟩ : ∃ V, Hid (V = wo.setCells B0 0 [.slice va k vc, .slice none 0 0]) := ⟨_, Lib.hid rfl⟩
      have hRV : Hid (RL V (.slice va k vc) (zeros k)) := Lib.hid (by rw [hV.out]; exact hR.store hX3 _)
      have hX5 : Whole V B0 32 [.slice va k vc, .slice none 0 0] := by rw [hV.out]; exact hX3.store 0 [.slice va k vc, .slice none 0 0] (by simp)
      have hkv : Kept (fun q => q = B0) wo V := by rw [hV.out]; exact (Kept.refl (fun q => q = B0) wo).setCells (c := B0) (.inl rfl) _ _
      have hbo : Below w.heap.size w wo := hbW.out.trans (hK.out.below hbW.out.size (fun q hq => by have := hB0.out; omega))
      have hbV : Hid (Below w.heap.size w V) := Lib.hid (hbo.trans (hkv.below hbo.size (fun q hq => by have := hB0.out; omega)))
      have p0 : V.cell? ⟨B0, 0, none⟩ = some (.slice va k vc) := hX5.cell 0
      have p1 : V.cell? ⟨B0, 1, none⟩ = some (.slice none 0 0) := hX5.cell 1
      clear hR hX3 hX5 hkv hbo how hK
      go_wp2_with (with_reducible refine zStore 32 _ _ rfl ?_)
      refine Lib.hid ?_
      refine wpList_store_mid rfl 32 _ _ rfl B0 0 #[.slice va k vc, .slice none 0 0] rfl rfl hth.out sizeRD (by simp [Value.oneCell']) ?_
      rw [show (#[.slice va k vc, .slice none 0 0] : Array Value).toList = [.slice va k vc, .slice none 0 0] from rfl, ← hV.out]
      clear hV hth
      go_wp2_with fail
      refine bodyPost_ret (v := .agg #[.slice va k vc, .slice none 0 0]) (by simp [results, Try.results16, go_sem, p0, p1]) rfl ⟨_, rfl, hRV.out, hbV.out⟩
end
end Go.Proofs.Ytgomhnclmacleaa.D
