/- The definition's pool: set, Of, Take, Claim, Give, New, May. -/
import Derived.Test.YtoegohofmhijgaaPlR
namespace Go.Proofs.Ytoegohofmhijgaa.W
open Go.RowKit
open Go.Proofs.Ytoegohofmhijgaa.M Go.Proofs.Ytoegohofmhijgaa.D Go.Proofs.Ytoegohofmhijgaa.Z
set_option linter.unusedVariables false

theorem sizeP3 : (Try.prog.info? 32).map (·.size) = some 3 := by kernel_rfl
section
variable {w : World} {B0 r : Nat} {l : List Int}
set_option maxHeartbeats 4000000 in
set_option maxRecDepth 100000 in
theorem rsetP_any (h : Rp w B0 r l) (c : Nat) (ep ct g : Int) (hn : l.length ≤ 64) (s : Nat) (hs : s < l.length) :
    Calls Try.prog 29 #[rv r l.length c ep ct, .int .i64 (s : Int), .int .i64 g] w fun e w' => ∃ r' c', e = .returned (rv r' l.length c' ep ct) ∧ Rp w' w.heap.size r' (l.set s g) ∧ Below w.heap.size w w' := by
  obtain ⟨is, his, hs0, hs1, hs2⟩ := info_parts infoI
  obtain ⟨B1, hB1⟩ : ∃ n, Hid (w.heap.size = n) := ⟨_, Lib.hid rfl⟩
  have hX := (Whole.new w 32 [.slice (some ⟨r, 0, none⟩) l.length c, .int .i64 ep, .int .i64 ct]).alloc (.cells #[.slice none 0 0, .int .i64 0, .int .i64 0] 32)
  have hY := Whole.new (w.alloc (.cells #[.slice (some ⟨r, 0, none⟩) l.length c, .int .i64 ep, .int .i64 ct] 32)) 32 [.slice none 0 0, .int .i64 0, .int .i64 0]
  rw [show (w.alloc (.cells #[.slice (some ⟨r, 0, none⟩) l.length c, .int .i64 ep, .int .i64 ct] 32)).heap.size = w.heap.size + 1 from by simp] at hY
  have hbW := grewAlloc ((Below.refl w.heap.size w).alloc (Nat.le_refl _) (.cells #[.slice (some ⟨r, 0, none⟩) l.length c, .int .i64 ep, .int .i64 ct] 32)) (.cells #[.slice none 0 0, .int .i64 0, .int .i64 0] 32)
  have hWs : ((w.alloc (.cells #[.slice (some ⟨r, 0, none⟩) l.length c, .int .i64 ep, .int .i64 ct] 32)).alloc (.cells #[.slice none 0 0, .int .i64 0, .int .i64 0] 32)).heap.size = w.heap.size + 2 := by simp
  have hR := h.grow hbW
  obtain ⟨W, hW⟩ : ∃ W, Hid (W = (w.alloc (.cells #[.slice (some ⟨r, 0, none⟩) l.length c, .int .i64 ep, .int .i64 ct] 32)).alloc (.cells #[.slice none 0 0, .int .i64 0, .int .i64 0] 32)) := ⟨_, Lib.hid rfl⟩
  rw [← hW.out] at hX hY hbW hWs hR
  rw [hB1.out] at hX hY hWs hbW
  have hcell : Hid (∀ k (hk : k < l.length), ∃ o : Int, l[k]? = some o ∧ ∀ w', Below (B1 + 2) W w' → w'.cell? ⟨r, k, none⟩ = some (.int .i64 o)) := Lib.hid (fun k hk => ⟨l[k], List.getElem?_eq_getElem hk, fun w' hb => by
    have hc := hR.at_ k _ (List.getElem?_eq_getElem hk)
    rw [← hWs] at hb
    exact (hb.cell (World.block_lt_of_cell? W _ hc)).trans hc⟩)
  have hsetl : Hid ((l.set s g).length = l.length) := Lib.hid (by simp)
  have htake : Hid (∀ k o, l[k]? = some o → (l.set s g).take (k + 1) = (l.set s g).take k ++ [if k = s then g else o]) := Lib.hid (fun k o ho => set_take l s k g o ho)
  obtain ⟨L, hL⟩ : ∃ L, Hid (l.set s g = L) := ⟨_, Lib.hid rfl⟩
  rw [hL.out] at hsetl htake ⊢
  have hn0 : 0 < l.length := by omega
  rw [hB1.out]
  obtain ⟨n, hnn⟩ : ∃ n, Hid (l.length = n) := ⟨_, Lib.hid rfl⟩
  rw [hnn.out] at hn hs hX hsetl hn0 hcell hW ⊢
  replace hX := Lib.hid hX
  replace hY := Lib.hid hY
  replace hbW := Lib.hid hbW
  clear h hR hL hnn
  go_enter Try.func29, Try.ntmps29
  go_wp2_with fail
  rw [← hW.out, hB1.out]
  clear hW
  go_loopg [7, 13] n (fun ga v i wr => ∃ k : Nat, k ≤ n ∧ n ≤ k + ga ∧ i = .int .i64 k ∧ Hid (Below (B1 + 2) W wr) ∧ Hid (wr.ownsRow (B1 + 2) 3 1 v k (rowP (L.take k))))
  case atStart => exact ⟨0, by omega, by omega, rfl, Lib.hid (Below.refl _ _), Lib.hid ⟨rfl, .inl ⟨rfl, rfl⟩⟩⟩
  case round =>
    obtain ⟨k, hk, hg, rfl, hb, how⟩ := hrel
    generalize wr = wo at *
    have hso : B1 + 2 ≤ wo.heap.size := by have := hb.out.size; omega
    by_cases hlt : k < n
    · have hl2 : (k : Int) < (n : Int) := by omega
      obtain ⟨o, ho, hc⟩ := hcell.out k hlt
      have c0 := hc wo hb.out
      have hft := htake.out k o ho
      clear hc ho
      by_cases g1 : k = s
      · have q1 : ((k : Int) == (s : Int)) = true := by simp [g1]
        rw [if_pos g1] at hft
        replace hft := Lib.hid hft
        clear g1
        go_wp2_with (with_reducible refine zAppend _ _ _ rfl ?_)
        refine Lib.hid ?_
        refine wpList_append_lies _ rfl _ _ 30 rfl (B1 + 2) 3 is _ 1 8 Try.underlying30 his hs0 hs1 hs2 rfl (by omega) _ _ _ rfl (how.out.alloc _) _ 1 1 [.int .i64 g] rfl rfl (World.news_of_block (heap_alloc_new _ _)) (by simp [Value.oneCell']) (by omega) (by unfold maxLen; omega) (by omega) (by simp; omega) (wo.heap.size + 1) (by simp) ?_
        intro gg cap2 w5 hown5 hgrow5 hat5 hlt5
        have hb5 : Hid (Below (B1 + 2) W w5) := Lib.hid ((((Kept.of_below (own := fun b => B1 + 2 ≤ b) (by rw [hWs]; exact hb.out)).alloc _).grown hgrow5 (fun k hk => .inl (ownFar how.out k hk))).below (by omega) (fun _ h => h))
        have hown6 : Hid (w5.ownsRow (B1 + 2) 3 1 (.slice (some ⟨gg, 0, none⟩) (k + 1) cap2) (k + 1) (rowP (L.take (k + 1)))) := by
          rw [hft.out]; unfold rowP at *; rw [List.map_append]; exact Lib.hid hown5
        clear hown5 hgrow5 hat5 how hb hft
        go_wp2_with fail
        go_roundg (gk - 1)
        case measure => omega
        case rel => exact ⟨k + 1, by omega, by omega, by go_num, hb5, hown6⟩
      · have q1 : ((k : Int) == (s : Int)) = false := by rw [beq_eq_false_iff_ne]; omega
        rw [if_neg g1] at hft
        replace hft := Lib.hid hft
        clear g1
        go_wp2_with (with_reducible refine zAppend _ _ _ rfl ?_)
        refine Lib.hid ?_
        refine wpList_append_lies _ rfl _ _ 30 rfl (B1 + 2) 3 is _ 1 8 Try.underlying30 his hs0 hs1 hs2 rfl (by omega) _ _ _ rfl (how.out.alloc _) _ 1 1 [.int .i64 o] rfl rfl (World.news_of_block (heap_alloc_new _ _)) (by simp [Value.oneCell']) (by omega) (by unfold maxLen; omega) (by omega) (by simp; omega) (wo.heap.size + 1) (by simp) ?_
        intro gg cap2 w5 hown5 hgrow5 hat5 hlt5
        have hb5 : Hid (Below (B1 + 2) W w5) := Lib.hid ((((Kept.of_below (own := fun b => B1 + 2 ≤ b) (by rw [hWs]; exact hb.out)).alloc _).grown hgrow5 (fun k hk => .inl (ownFar how.out k hk))).below (by omega) (fun _ h => h))
        have hown6 : Hid (w5.ownsRow (B1 + 2) 3 1 (.slice (some ⟨gg, 0, none⟩) (k + 1) cap2) (k + 1) (rowP (L.take (k + 1)))) := by
          rw [hft.out]; unfold rowP at *; rw [List.map_append]; exact Lib.hid hown5
        clear hown5 hgrow5 hat5 how hb hft
        go_wp2_with fail
        go_roundg (gk - 1)
        case measure => omega
        case rel => exact ⟨k + 1, by omega, by omega, by go_num, hb5, hown6⟩
    · obtain rfl : k = n := by omega
      have htk : L.take k = L := List.take_of_length_le (by rw [hsetl.out]; exact Nat.le_refl _)
      rw [htk] at how
      obtain ⟨gg, c2, hv, _, _, hBg, hltg, hcl⟩ := ownCells hn0 how.out
      generalize u7 = v7 at *
      subst hv
      have hbk : Below W.heap.size W wo := by rw [hWs]; exact hb.out
      have z1 : wo.cell? ⟨B1, 1, none⟩ = some (.int .i64 ep) := ((hX.out.below hbk hX.out.lt).cell 1)
      have z2 : wo.cell? ⟨B1, 2, none⟩ = some (.int .i64 ct) := ((hX.out.below hbk hX.out.lt).cell 2)
      have hY2 : Whole wo (B1 + 1) 32 [.slice none 0 0, .int .i64 0, .int .i64 0] := hY.out.below hbk (by omega)
      have hth := Lib.hid (hY2.there 0 3 (by simp))
      have hY3 := hY2.store 0 [.slice (some ⟨gg, 0, none⟩) k c2, .int .i64 ep, .int .i64 ct] (by simp)
      rw [show splice [(.slice none 0 0 : Value), .int .i64 0, .int .i64 0] 0 [.slice (some ⟨gg, 0, none⟩) k c2, .int .i64 ep, .int .i64 ct] = [.slice (some ⟨gg, 0, none⟩) k c2, .int .i64 ep, .int .i64 ct] from rfl] at hY3
      have hkv : Kept (fun b => b = B1 + 1) wo (wo.setCells (B1 + 1) 0 [.slice (some ⟨gg, 0, none⟩) k c2, .int .i64 ep, .int .i64 ct]) := (Kept.refl (fun b => b = B1 + 1) wo).setCells (c := B1 + 1) (.inl rfl) _ _
      obtain ⟨V, hV⟩ : ∃ V, Hid (V = wo.setCells (B1 + 1) 0 [.slice (some ⟨gg, 0, none⟩) k c2, .int .i64 ep, .int .i64 ct]) := ⟨_, Lib.hid rfl⟩
      rw [← hV.out] at hY3 hkv
      have hR2 : Hid (Rp V B1 gg L) := Lib.hid ⟨by omega, fun j o hj => by
        have hc := hcl j _ (rowP_at hj)
        have hb' := hkv.block gg hltg (by omega)
        rw [← hc]
        unfold World.cell?
        simp only [hb']⟩
      have hbV : Hid (Below w.heap.size w V) := Lib.hid (by
        have e1 : Below B1 W wo := ⟨hbk.os, hbk.tape, hbk.output, hbk.size, fun q hq => hbk.block q (by omega)⟩
        have e2 := hkv.below (B := B1) (by omega) (fun q hq => by omega)
        rw [hB1.out]
        exact (hbW.out.trans e1).trans e2)
      have p0 : V.cell? ⟨B1 + 1, 0, none⟩ = some (.slice (some ⟨gg, 0, none⟩) k c2) := hY3.cell 0
      have p1 : V.cell? ⟨B1 + 1, 1, none⟩ = some (.int .i64 ep) := hY3.cell 1
      have p2 : V.cell? ⟨B1 + 1, 2, none⟩ = some (.int .i64 ct) := hY3.cell 2
      clear how hcell hY2 hY3 hkv hbk hb hcl htk
      go_wp2_with (with_reducible refine zStore 32 _ _ rfl ?_)
      refine Lib.hid ?_
      refine wpList_store_mid rfl 32 _ _ rfl (B1 + 1) 0 #[.slice (some ⟨gg, 0, none⟩) k c2, .int .i64 ep, .int .i64 ct] rfl rfl hth.out sizeP3 (by simp [Value.oneCell']) ?_
      rw [show (#[.slice (some ⟨gg, 0, none⟩) k c2, .int .i64 ep, .int .i64 ct] : Array Value).toList = [.slice (some ⟨gg, 0, none⟩) k c2, .int .i64 ep, .int .i64 ct] from rfl, ← hV.out]
      clear hV
      go_wp2_with fail
      refine bodyPost_ret (v := rv gg k c2 ep ct) (by simp [results, Try.results29, go_sem, p0, p1, p2]) rfl ⟨gg, c2, rfl, hR2.out, by have := hbV.out; rw [hB1.out] at this; exact this⟩
end
end Go.Proofs.Ytoegohofmhijgaa.W
