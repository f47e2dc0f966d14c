/- The definition's pool: Take, Claim, Give, Of, New, May. -/
import Derived.Test.YtoegohofmhijgaaPlS
import Derived.Test.YtoegohofmhijgaaPlD
namespace Go.Proofs.Ytoegohofmhijgaa.W
open Go.RowKit
open Go.Proofs.Ytoegohofmhijgaa.M Go.Proofs.Ytoegohofmhijgaa.D Go.Proofs.Ytoegohofmhijgaa.Z
set_option linter.unusedVariables false

theorem sizeT6 : (Try.prog.info? 40).map (·.size) = some 6 := by kernel_rfl
theorem sizeD4 : (Try.prog.info? 43).map (·.size) = some 4 := by kernel_rfl
abbrev tookV (r n c : Nat) (ep ct seg st er : Int) : List Value := [.slice (some ⟨r, 0, none⟩) n c, .int .i64 ep, .int .i64 ct, .int .i64 seg, .int .u32 st, .int .i64 er]
abbrev took0 : List Value := [.slice none 0 0, .int .i64 0, .int .i64 0, .int .i64 0, .int .u32 0, .int .i64 0]
theorem tookV_one (r n c : Nat) (ep ct seg st er : Int) : ∀ v ∈ tookV r n c ep ct seg st er, v.oneCell' = true := by
  intro v hv; simp at hv; rcases hv with h | h | h | h | h | h <;> rw [h] <;> rfl
abbrev didV (r n c : Nat) (ep ct er : Int) : List Value := [.slice (some ⟨r, 0, none⟩) n c, .int .i64 ep, .int .i64 ct, .int .i64 er]
abbrev did0 : List Value := [.slice none 0 0, .int .i64 0, .int .i64 0, .int .i64 0]
theorem didV_one (r n c : Nat) (ep ct er : Int) : ∀ v ∈ didV r n c ep ct er, v.oneCell' = true := by
  intro v hv; simp at hv; rcases hv with h | h | h | h <;> rw [h] <;> rfl
theorem cell_off {w : World} {b q : Nat} (hne : b ≠ q) {i o : Nat} (v : Value) {x : Option Value} (_ : x = x) : (w.setCell ⟨q, o, none⟩ v).cell? ⟨b, i, none⟩ = w.cell? ⟨b, i, none⟩ := by
  have h := heap_setCells_far q hne [v] o w
  unfold World.cell?
  have e : (w.setCells q o [v]) = w.setCell ⟨q, o, none⟩ v := rfl
  rw [e] at h
  simp only [h]
section
variable {w : World} {B0 r : Nat} {l : List Int}
set_option maxHeartbeats 4000000 in
set_option maxRecDepth 100000 in
theorem rtake_arg (h : Rp w B0 r l) (c : Nat) (ep ct g : Int) (hg : okG g = false) :
    Calls Try.prog 12 #[rv r l.length c ep ct, .int .i64 g] w fun e w' => e = .returned (.agg (tookV r l.length c ep ct 0 0 1).toArray) ∧ Below w.heap.size w w' := by
  have hlg := fun W => rlog_any g W
  rw [hg] at hlg
  replace hlg := Lib.hid hlg
  have hB := Lib.hid (grewAlloc ((Below.refl w.heap.size w).alloc (Nat.le_refl _) (.cells #[.slice (some ⟨r, 0, none⟩) l.length c, .int .i64 ep, .int .i64 ct] 32)) (.cells (tookV r l.length c ep ct 0 0 1).toArray 40))
  generalize l.length = n at *
  clear h hg
  go_enter Try.func12, Try.ntmps12
  go_wp2_with fail
  refine (hlg.out _).mono ?_
  rintro ee w1 ⟨rfl, rfl⟩
  go_wp2_with fail
  exact bodyPost_ret (v := .agg (tookV r n c ep ct 0 0 1).toArray) (by simp [results, Try.results12, go_sem]) rfl ⟨rfl, hB.out⟩
set_option maxHeartbeats 4000000 in
set_option maxRecDepth 100000 in
theorem rtake_none (h : Rp w B0 r l) (c : Nat) (ep : Int) (ct : Nat) (g : Int) (hn : l.length ≤ 64) (hg : okG g = true) (hf : Full l ∨ 65536 ≤ ct) :
    Calls Try.prog 12 #[rv r l.length c ep (ct : Int), .int .i64 g] w fun e w' => e = .returned (.agg (tookV r l.length c ep ct 0 0 32).toArray) ∧ Below w.heap.size w w' := by
  have hlg := fun W => rlog_any g W
  rw [hg] at hlg
  replace hlg := Lib.hid hlg
  have hX := (Whole.new w 32 [.slice (some ⟨r, 0, none⟩) l.length c, .int .i64 ep, .int .i64 (ct : Int)]).alloc (.cells took0.toArray 40)
  have hY := Whole.new (w.alloc (.cells #[.slice (some ⟨r, 0, none⟩) l.length c, .int .i64 ep, .int .i64 (ct : Int)] 32)) 40 took0
  rw [show (w.alloc (.cells #[.slice (some ⟨r, 0, none⟩) l.length c, .int .i64 ep, .int .i64 (ct : Int)] 32)).heap.size = w.heap.size + 1 from by simp] at hY
  have hB := grewAlloc ((Below.refl w.heap.size w).alloc (Nat.le_refl _) (.cells #[.slice (some ⟨r, 0, none⟩) l.length c, .int .i64 ep, .int .i64 (ct : Int)] 32)) (.cells took0.toArray 40)
  have hR := h.grow hB
  have hfi : ∃ i : Int, (i < 0 ∨ 65535 < (ct : Int)) ∧ Calls Try.prog 28 #[rv r l.length c ep (ct : Int)] ((w.alloc (.cells #[.slice (some ⟨r, 0, none⟩) l.length c, .int .i64 ep, .int .i64 (ct : Int)] 32)).alloc (.cells took0.toArray 40)) fun e w' => e = .returned (.int .i64 i) ∧ Below ((w.alloc (.cells #[.slice (some ⟨r, 0, none⟩) l.length c, .int .i64 ep, .int .i64 (ct : Int)] 32)).alloc (.cells took0.toArray 40)).heap.size ((w.alloc (.cells #[.slice (some ⟨r, 0, none⟩) l.length c, .int .i64 ep, .int .i64 (ct : Int)] 32)).alloc (.cells took0.toArray 40)) w' := by
    rcases first_or l with ⟨k, hk⟩ | hfl
    · rcases hf with h1 | h1
      · exact absurd hk.1 (h1 k)
      · exact ⟨k, .inr (by omega), rfirst_hit hR c ep ct hn k hk⟩
    · exact ⟨-1, .inl (by omega), rfirst_miss hR c ep ct hn hfl⟩
  obtain ⟨i, hi, hfi⟩ := hfi
  obtain ⟨W, hW⟩ : ∃ W, Hid (W = (w.alloc (.cells #[.slice (some ⟨r, 0, none⟩) l.length c, .int .i64 ep, .int .i64 (ct : Int)] 32)).alloc (.cells took0.toArray 40)) := ⟨_, Lib.hid rfl⟩
  rw [← hW.out] at hX hY hB hfi
  have x0 : W.cell? ⟨w.heap.size, 0, none⟩ = some (.slice (some ⟨r, 0, none⟩) l.length c) := hX.cell 0
  have x1 : W.cell? ⟨w.heap.size, 1, none⟩ = some (.int .i64 ep) := hX.cell 1
  have x2 : W.cell? ⟨w.heap.size, 2, none⟩ = some (.int .i64 (ct : Int)) := hX.cell 2
  generalize l.length = n at *
  replace hfi := Lib.hid hfi
  replace hX := Lib.hid hX
  replace hY := Lib.hid hY
  replace hB := Lib.hid hB
  clear h hg hf hR
  go_enter Try.func12, Try.ntmps12
  go_wp2_with fail
  rw [← hW.out]
  clear hW
  refine (hlg.out _).mono ?_
  rintro ee w1 ⟨rfl, rfl⟩
  go_wp2_with fail
  refine hfi.out.mono ?_
  rintro ee w2 ⟨rfl, hb2⟩
  replace hX := Lib.hid (hX.out.below hb2 hX.out.lt)
  replace hY := Lib.hid (hY.out.below hb2 hY.out.lt)
  replace hB := Lib.hid (grew hB.out hb2)
  clear hb2 hfi x0 x1 x2
  have x0 : w2.cell? ⟨w.heap.size, 0, none⟩ = some (.slice (some ⟨r, 0, none⟩) n c) := hX.out.cell 0
  have x1 : w2.cell? ⟨w.heap.size, 1, none⟩ = some (.int .i64 ep) := hX.out.cell 1
  have x2 : w2.cell? ⟨w.heap.size, 2, none⟩ = some (.int .i64 (ct : Int)) := hX.out.cell 2
  by_cases h0 : i < 0
  · go_wp2_with (with_reducible refine zStore 40 _ _ rfl ?_)
    refine Lib.hid ?_
    refine wpList_store_mid rfl 40 _ _ rfl (w.heap.size + 1) 0 (tookV r n c ep ct 0 0 32).toArray rfl rfl (hY.out.there 0 6 (by simp)) sizeT6 (all_oneCell_toArray (tookV_one r n c ep ct 0 0 32)) ?_
    go_wp2_with fail
    have hfin := whole_all hY.out (vs := tookV r n c ep ct 0 0 32) rfl
    exact bodyPost_ret (result_cell Try.results12 rfl hfin.range Try.underlying40 rfl sizeT6) rfl ⟨rfl, below_store hB.out (by omega) (Nat.le_refl _) 0 _⟩
  · have h1 : 65535 < (ct : Int) := by omega
    go_wp2_with (with_reducible refine zStore 40 _ _ rfl ?_)
    refine Lib.hid ?_
    refine wpList_store_mid rfl 40 _ _ rfl (w.heap.size + 1) 0 (tookV r n c ep ct 0 0 32).toArray rfl rfl (hY.out.there 0 6 (by simp)) sizeT6 (all_oneCell_toArray (tookV_one r n c ep ct 0 0 32)) ?_
    go_wp2_with fail
    have hfin := whole_all hY.out (vs := tookV r n c ep ct 0 0 32) rfl
    exact bodyPost_ret (result_cell Try.results12 rfl hfin.range Try.underlying40 rfl sizeT6) rfl ⟨rfl, below_store hB.out (by omega) (Nat.le_refl _) 0 _⟩
set_option maxHeartbeats 4000000 in
set_option maxRecDepth 100000 in
theorem rtake_done (h : Rp w B0 r l) (c ep ct : Nat) (g : Int) (hn : l.length ≤ 64) (he : ep < 65536) (hc : ct < 65536) (hg : okG g = true) (k : Nat) (hk : FirstAt l k) :
    Calls Try.prog 12 #[rv r l.length c (ep : Int) (ct : Int), .int .i64 g] w fun e w' => ∃ r' c', e = .returned (.agg (tookV r' l.length c' ep ((ct + 1 : Nat) : Int) k ((65536 * ep + ct : Nat) : Int) 0).toArray) ∧ Rp w' w.heap.size r' (l.set k g) ∧ Below w.heap.size w w' := by
  have hlg := fun W => rlog_any g W
  rw [hg] at hlg
  replace hlg := Lib.hid hlg
  have hkl : k < l.length := (List.getElem?_eq_some_iff.1 hk.1).1
  have hX := (Whole.new w 32 [.slice (some ⟨r, 0, none⟩) l.length c, .int .i64 (ep : Int), .int .i64 (ct : Int)]).alloc (.cells took0.toArray 40)
  have hY := Whole.new (w.alloc (.cells #[.slice (some ⟨r, 0, none⟩) l.length c, .int .i64 (ep : Int), .int .i64 (ct : Int)] 32)) 40 took0
  rw [show (w.alloc (.cells #[.slice (some ⟨r, 0, none⟩) l.length c, .int .i64 (ep : Int), .int .i64 (ct : Int)] 32)).heap.size = w.heap.size + 1 from by simp] at hY
  have hB := grewAlloc ((Below.refl w.heap.size w).alloc (Nat.le_refl _) (.cells #[.slice (some ⟨r, 0, none⟩) l.length c, .int .i64 (ep : Int), .int .i64 (ct : Int)] 32)) (.cells took0.toArray 40)
  have hR := h.grow hB
  obtain ⟨W, hW⟩ : ∃ W, Hid (W = (w.alloc (.cells #[.slice (some ⟨r, 0, none⟩) l.length c, .int .i64 (ep : Int), .int .i64 (ct : Int)] 32)).alloc (.cells took0.toArray 40)) := ⟨_, Lib.hid rfl⟩
  rw [← hW.out] at hX hY hB hR
  have hfi := Lib.hid (rfirst_hit hR c ep ct hn k hk)
  have hse := Lib.hid (fun (V : World) (hb : Below W.heap.size W V) => rsetP_any (hR.grow hb) c ep ct g hn k hkl)
  have x0 : W.cell? ⟨w.heap.size, 0, none⟩ = some (.slice (some ⟨r, 0, none⟩) l.length c) := hX.cell 0
  have x1 : W.cell? ⟨w.heap.size, 1, none⟩ = some (.int .i64 (ep : Int)) := hX.cell 1
  have x2 : W.cell? ⟨w.heap.size, 2, none⟩ = some (.int .i64 (ct : Int)) := hX.cell 2
  obtain ⟨v, hv⟩ : ∃ v : Nat, Hid (65536 * ep + ct = v) := ⟨_, Lib.hid rfl⟩
  rw [hv.out]
  have v1 : 65536 * (ep : Int) + (ct : Int) = (v : Int) := by have := hv.out; omega
  have v2 : v ≤ 4294967295 := by have := hv.out; omega
  have v3 : IntKind.i64.wrap (65536 * (ep : Int)) = 65536 * (ep : Int) := IntWalk.i64_in _ (by omega)
  have v4 : IntKind.i64.wrap (65536 * (ep : Int) + (ct : Int)) = (v : Int) := (IntWalk.i64_in _ (by omega)).trans v1
  have v5 : IntKind.u32.wrap (65536 * (ep : Int) + (ct : Int)) = (v : Int) := (IntWalk.u32_in _ (by omega)).trans v1
  have v6 : IntKind.u32.wrap (v : Int) = (v : Int) := IntWalk.u32_in _ (by omega)
  have k0 : decide ((k : Int) < 0) = false := by simp
  have k1 : decide (65535 < (ct : Int)) = false := by simp; omega
  have hLz : Hid ((l.set k g).length = l.length) := Lib.hid (by simp)
  obtain ⟨L, hL⟩ : ∃ L, Hid (l.set k g = L) := ⟨_, Lib.hid rfl⟩
  rw [hL.out] at hse hLz ⊢
  generalize l.length = n at *
  replace hX := Lib.hid hX
  replace hY := Lib.hid hY
  replace hB := Lib.hid hB
  clear h hg hk hR hL hv
  go_enter Try.func12, Try.ntmps12
  go_wp2_with fail
  rw [← hW.out]
  clear hW
  refine (hlg.out _).mono ?_
  rintro ee w1 ⟨rfl, rfl⟩
  go_wp2_with fail
  refine hfi.out.mono ?_
  rintro ee w2 ⟨rfl, hb2⟩
  have hb2' := Lib.hid hb2
  replace hX := Lib.hid (hX.out.below hb2 hX.out.lt)
  replace hY := Lib.hid (hY.out.below hb2 hY.out.lt)
  replace hB := Lib.hid (grew hB.out hb2)
  clear hb2 hfi x0 x1 x2
  have x0 : w2.cell? ⟨w.heap.size, 0, none⟩ = some (.slice (some ⟨r, 0, none⟩) n c) := hX.out.cell 0
  have x1 : w2.cell? ⟨w.heap.size, 1, none⟩ = some (.int .i64 (ep : Int)) := hX.out.cell 1
  have x2 : w2.cell? ⟨w.heap.size, 2, none⟩ = some (.int .i64 (ct : Int)) := hX.out.cell 2
  go_wp2_with fail
  refine (hse.out _ hb2'.out).mono ?_
  rintro ee w3 ⟨r', c', rfl, hR3, hb3⟩
  have hry : Hid (w.heap.size + 1 < r') := Lib.hid (by have h1 := hY.out.lt; have h2 := hR3.lo; omega)
  have hlt3 : w.heap.size + 1 < w3.heap.size := (hY.out.below hb3 hY.out.lt).lt
  replace hX := Lib.hid ((hX.out.below hb3 hX.out.lt).alloc (.cells #[.slice (some ⟨r', 0, none⟩) n c', .int .i64 (ep : Int), .int .i64 (ct : Int)] 32))
  replace hY := Lib.hid ((hY.out.below hb3 hY.out.lt).alloc (.cells #[.slice (some ⟨r', 0, none⟩) n c', .int .i64 (ep : Int), .int .i64 (ct : Int)] 32))
  have hQ := Whole.new w3 32 [.slice (some ⟨r', 0, none⟩) n c', .int .i64 (ep : Int), .int .i64 (ct : Int)]
  have hrne : r' ≠ w3.heap.size := by
    obtain ⟨o, ho⟩ : ∃ o, L[k]? = some o := ⟨_, List.getElem?_eq_getElem (by rw [hLz.out]; exact hkl)⟩
    have := World.block_lt_of_cell? w3 _ (hR3.at_ k o ho)
    simp at this
    omega
  have hBw := hB.out.size
  replace hR3 := Lib.hid ((hR3.grow ((Below.refl _ _).alloc (Nat.le_refl _) (.cells #[.slice (some ⟨r', 0, none⟩) n c', .int .i64 (ep : Int), .int .i64 (ct : Int)] 32))).mono (show w.heap.size ≤ w2.heap.size from hBw))
  replace hB := Lib.hid (grewAlloc (grew hB.out hb3) (.cells #[.slice (some ⟨r', 0, none⟩) n c', .int .i64 (ep : Int), .int .i64 (ct : Int)] 32))
  clear hb3 hse x0 x1 x2 hb2'
  have u2 : (w3.alloc (.cells #[.slice (some ⟨r', 0, none⟩) n c', .int .i64 (ep : Int), .int .i64 (ct : Int)] 32)).cell? ⟨w.heap.size, 2, none⟩ = some (.int .i64 (ct : Int)) := hX.out.cell 2
  obtain ⟨V0, hV⟩ : ∃ V0, Hid (V0 = w3.alloc (.cells #[.slice (some ⟨r', 0, none⟩) n c', .int .i64 (ep : Int), .int .i64 (ct : Int)] 32)) := ⟨_, Lib.hid rfl⟩
  rw [← hV.out] at hX hY hQ hR3 hB
  generalize hqq : w3.heap.size = q at *
  have x1 : V0.cell? ⟨w.heap.size, 1, none⟩ = some (.int .i64 (ep : Int)) := hX.out.cell 1
  have x2 : V0.cell? ⟨w.heap.size, 2, none⟩ = some (.int .i64 (ct : Int)) := hX.out.cell 2
  have q2 : V0.cell? ⟨q, 2, none⟩ = some (.int .i64 (ct : Int)) := hQ.cell 2
  have qf : V0.frozen? ⟨q, 2, none⟩ = false := hQ.frozen 2
  have hqw : w.heap.size ≠ q := by omega
  have hqy : w.heap.size + 1 ≠ q := by omega
  have hX1 := hX.out.far (c := q) hqw 2 [.int .i64 ((ct : Int) + 1)]
  have hY1 := Lib.hid (hY.out.far (c := q) hqy 2 [.int .i64 ((ct : Int) + 1)])
  have hQ1 := hQ.store 2 [.int .i64 ((ct : Int) + 1)] (by simp)
  have y1 : (V0.setCell ⟨q, 2, none⟩ (.int .i64 ((ct : Int) + 1))).cell? ⟨w.heap.size, 1, none⟩ = some (.int .i64 (ep : Int)) := hX1.cell 1
  have y2 : (V0.setCell ⟨q, 2, none⟩ (.int .i64 ((ct : Int) + 1))).cell? ⟨w.heap.size, 2, none⟩ = some (.int .i64 (ct : Int)) := hX1.cell 2
  have z0 : (V0.setCell ⟨q, 2, none⟩ (.int .i64 ((ct : Int) + 1))).cell? ⟨q, 0, none⟩ = some (.slice (some ⟨r', 0, none⟩) n c') := hQ1.cell 0
  have z1 : (V0.setCell ⟨q, 2, none⟩ (.int .i64 ((ct : Int) + 1))).cell? ⟨q, 1, none⟩ = some (.int .i64 (ep : Int)) := hQ1.cell 1
  have z2 : (V0.setCell ⟨q, 2, none⟩ (.int .i64 ((ct : Int) + 1))).cell? ⟨q, 2, none⟩ = some (.int .i64 ((ct : Int) + 1)) := hQ1.cell 2
  have hrq : Hid (Rp (V0.setCell ⟨q, 2, none⟩ (.int .i64 ((ct : Int) + 1))) w.heap.size r' L) := Lib.hid ⟨hR3.out.lo, fun j o hj => by
    have hc := hR3.out.at_ j o hj
    have hl := World.block_lt_of_cell? V0 _ hc
    have hne : r' ≠ q := hrne
    rw [← hc]
    exact cell_off hne _ (x := none) rfl⟩
  have hBq := Lib.hid (below_store hB.out (c := q) (by omega) (Nat.le_refl _) 2 [.int .i64 ((ct : Int) + 1)])
  clear hX hY hQ hR3 hX1 hQ1
  go_wp2_with (with_reducible refine zStore 3 _ _ rfl ?_)
  rw [← hV.out]
  clear hV
  refine Lib.hid ?_
  go_wp2_with (with_reducible refine zStore 40 _ _ rfl ?_)
  refine Lib.hid ?_
  refine wpList_store_mid rfl 40 _ _ rfl (w.heap.size + 1) 0 (tookV r' n c' ep ((ct : Int) + 1) k v 0).toArray rfl rfl (hY1.out.there 0 6 (by simp)) sizeT6 (all_oneCell_toArray (tookV_one r' n c' ep ((ct : Int) + 1) k v 0)) ?_
  go_wp2_with fail
  have hfin := whole_all hY1.out (vs := tookV r' n c' ep ((ct : Int) + 1) k v 0) rfl
  have hrz : Rp ((V0.setCell ⟨q, 2, none⟩ (.int .i64 ((ct : Int) + 1))).setCells (w.heap.size + 1) 0 (tookV r' n c' ep ((ct : Int) + 1) k v 0)) w.heap.size r' L := ⟨hrq.out.lo, fun j o hj => by
    have hc := hrq.out.at_ j o hj
    have hne : r' ≠ w.heap.size + 1 := by have := hry.out; omega
    have h2 := heap_setCells_far (w.heap.size + 1) hne (tookV r' n c' ep ((ct : Int) + 1) k v 0) 0 (V0.setCell ⟨q, 2, none⟩ (.int .i64 ((ct : Int) + 1)))
    rw [← hc]
    unfold World.cell?
    simp only [h2]⟩
  exact bodyPost_ret (result_cell Try.results12 rfl hfin.range Try.underlying40 rfl sizeT6) rfl ⟨r', c', rfl, hrz, below_store hBq.out (by omega) (Nat.le_refl _) 0 _⟩
def rcSep : Nat := 0
set_option maxHeartbeats 4000000 in
set_option maxRecDepth 100000 in
theorem rclaim_20 (h : Rp w B0 r l) (c : Nat) (ep ct : Int) (s : Int) (g : Int) (hn : l.length ≤ 64) (hs : ¬ (0 ≤ s ∧ s < (l.length : Int))) :
    Calls Try.prog 13 #[rv r l.length c ep ct, .int .i64 s, .int .i64 g] w fun e w' => e = .returned (.agg (didV r l.length c ep ct 20).toArray) ∧ Below w.heap.size w w' := by
  have his := fun (W : World) => ris_any (w := W) (r := r) l.length c ep ct s
  rw [show decide (0 ≤ s ∧ s < (l.length : Int)) = false from by rw [decide_eq_false_iff_not]; omega] at his
  replace his := Lib.hid his
  have hX := (Whole.new w 32 [.slice (some ⟨r, 0, none⟩) l.length c, .int .i64 ep, .int .i64 ct]).alloc (.cells did0.toArray 43)
  have hY := Whole.new (w.alloc (.cells #[.slice (some ⟨r, 0, none⟩) l.length c, .int .i64 ep, .int .i64 ct] 32)) 43 did0
  rw [show (w.alloc (.cells #[.slice (some ⟨r, 0, none⟩) l.length c, .int .i64 ep, .int .i64 ct] 32)).heap.size = w.heap.size + 1 from by simp] at hY
  have hB := grewAlloc ((Below.refl w.heap.size w).alloc (Nat.le_refl _) (.cells #[.slice (some ⟨r, 0, none⟩) l.length c, .int .i64 ep, .int .i64 ct] 32)) (.cells did0.toArray 43)
  have hR := Lib.hid (h.grow hB)
  obtain ⟨W, hW⟩ : ∃ W, Hid (W = (w.alloc (.cells #[.slice (some ⟨r, 0, none⟩) l.length c, .int .i64 ep, .int .i64 ct] 32)).alloc (.cells did0.toArray 43)) := ⟨_, Lib.hid rfl⟩
  rw [← hW.out] at hX hY hB hR
  have x0 : W.cell? ⟨w.heap.size, 0, none⟩ = some (.slice (some ⟨r, 0, none⟩) l.length c) := hX.cell 0
  have x1 : W.cell? ⟨w.heap.size, 1, none⟩ = some (.int .i64 ep) := hX.cell 1
  have x2 : W.cell? ⟨w.heap.size, 2, none⟩ = some (.int .i64 ct) := hX.cell 2
  replace hX := Lib.hid hX
  replace hY := Lib.hid hY
  replace hB := Lib.hid hB
  have hbW0 := Lib.hid (Below.refl W.heap.size W)
  generalize hln : l.length = n at *
  clear h
  go_enter Try.func13, Try.ntmps13
  go_wp2_with fail
  rw [← hW.out]
  clear hW
  refine (his.out _).mono ?_
  rintro ee w1 ⟨rfl, hb1⟩
  replace hX := Lib.hid (hX.out.below hb1 hX.out.lt)
  replace hY := Lib.hid (hY.out.below hb1 hY.out.lt)
  replace hB := Lib.hid (grew hB.out hb1)
  replace hR := Lib.hid (hR.out.grow hb1)
  replace hbW0 := Lib.hid (grew hbW0.out hb1)
  clear hb1 x0 x1 x2
  have x0 : w1.cell? ⟨w.heap.size, 0, none⟩ = some (.slice (some ⟨r, 0, none⟩) n c) := hX.out.cell 0
  have x1 : w1.cell? ⟨w.heap.size, 1, none⟩ = some (.int .i64 ep) := hX.out.cell 1
  have x2 : w1.cell? ⟨w.heap.size, 2, none⟩ = some (.int .i64 ct) := hX.out.cell 2
  go_wp2_with (with_reducible refine zStore 43 _ _ rfl ?_)
  refine Lib.hid ?_
  refine wpList_store_mid rfl 43 _ _ rfl (w.heap.size + 1) 0 (didV r n c ep ct 20).toArray rfl rfl (hY.out.there 0 4 (by simp)) sizeD4 (all_oneCell_toArray (didV_one r n c ep ct 20)) ?_
  go_wp2_with fail
  have hfin := whole_all hY.out (vs := didV r n c ep ct 20) rfl
  exact bodyPost_ret (result_cell Try.results13 rfl hfin.range Try.underlying43 rfl sizeD4) rfl ⟨rfl, below_store hB.out (by omega) (Nat.le_refl _) 0 _⟩
set_option maxHeartbeats 4000000 in
set_option maxRecDepth 100000 in
theorem rclaim_1 (h : Rp w B0 r l) (c : Nat) (ep ct : Int) (s : Int) (g : Int) (hn : l.length ≤ 64) (hs : 0 ≤ s ∧ s < (l.length : Int)) (hg : okG g = false) :
    Calls Try.prog 13 #[rv r l.length c ep ct, .int .i64 s, .int .i64 g] w fun e w' => e = .returned (.agg (didV r l.length c ep ct 1).toArray) ∧ Below w.heap.size w w' := by
  have his := fun (W : World) => ris_any (w := W) (r := r) l.length c ep ct s
  rw [show decide (0 ≤ s ∧ s < (l.length : Int)) = true from by rw [decide_eq_true_iff]; omega] at his
  replace his := Lib.hid his
  have hlg := fun W => rlog_any g W
  rw [hg] at hlg
  replace hlg := Lib.hid hlg
  have hX := (Whole.new w 32 [.slice (some ⟨r, 0, none⟩) l.length c, .int .i64 ep, .int .i64 ct]).alloc (.cells did0.toArray 43)
  have hY := Whole.new (w.alloc (.cells #[.slice (some ⟨r, 0, none⟩) l.length c, .int .i64 ep, .int .i64 ct] 32)) 43 did0
  rw [show (w.alloc (.cells #[.slice (some ⟨r, 0, none⟩) l.length c, .int .i64 ep, .int .i64 ct] 32)).heap.size = w.heap.size + 1 from by simp] at hY
  have hB := grewAlloc ((Below.refl w.heap.size w).alloc (Nat.le_refl _) (.cells #[.slice (some ⟨r, 0, none⟩) l.length c, .int .i64 ep, .int .i64 ct] 32)) (.cells did0.toArray 43)
  have hR := Lib.hid (h.grow hB)
  obtain ⟨W, hW⟩ : ∃ W, Hid (W = (w.alloc (.cells #[.slice (some ⟨r, 0, none⟩) l.length c, .int .i64 ep, .int .i64 ct] 32)).alloc (.cells did0.toArray 43)) := ⟨_, Lib.hid rfl⟩
  rw [← hW.out] at hX hY hB hR
  have x0 : W.cell? ⟨w.heap.size, 0, none⟩ = some (.slice (some ⟨r, 0, none⟩) l.length c) := hX.cell 0
  have x1 : W.cell? ⟨w.heap.size, 1, none⟩ = some (.int .i64 ep) := hX.cell 1
  have x2 : W.cell? ⟨w.heap.size, 2, none⟩ = some (.int .i64 ct) := hX.cell 2
  replace hX := Lib.hid hX
  replace hY := Lib.hid hY
  replace hB := Lib.hid hB
  have hbW0 := Lib.hid (Below.refl W.heap.size W)
  generalize hln : l.length = n at *
  clear h
  go_enter Try.func13, Try.ntmps13
  go_wp2_with fail
  rw [← hW.out]
  clear hW
  refine (his.out _).mono ?_
  rintro ee w1 ⟨rfl, hb1⟩
  replace hX := Lib.hid (hX.out.below hb1 hX.out.lt)
  replace hY := Lib.hid (hY.out.below hb1 hY.out.lt)
  replace hB := Lib.hid (grew hB.out hb1)
  replace hR := Lib.hid (hR.out.grow hb1)
  replace hbW0 := Lib.hid (grew hbW0.out hb1)
  clear hb1 x0 x1 x2
  have x0 : w1.cell? ⟨w.heap.size, 0, none⟩ = some (.slice (some ⟨r, 0, none⟩) n c) := hX.out.cell 0
  have x1 : w1.cell? ⟨w.heap.size, 1, none⟩ = some (.int .i64 ep) := hX.out.cell 1
  have x2 : w1.cell? ⟨w.heap.size, 2, none⟩ = some (.int .i64 ct) := hX.out.cell 2
  go_wp2_with fail
  refine (hlg.out _).mono ?_
  rintro ee w2 ⟨rfl, rfl⟩
  go_wp2_with (with_reducible refine zStore 43 _ _ rfl ?_)
  refine Lib.hid ?_
  refine wpList_store_mid rfl 43 _ _ rfl (w.heap.size + 1) 0 (didV r n c ep ct 1).toArray rfl rfl (hY.out.there 0 4 (by simp)) sizeD4 (all_oneCell_toArray (didV_one r n c ep ct 1)) ?_
  go_wp2_with fail
  have hfin := whole_all hY.out (vs := didV r n c ep ct 1) rfl
  exact bodyPost_ret (result_cell Try.results13 rfl hfin.range Try.underlying43 rfl sizeD4) rfl ⟨rfl, below_store hB.out (by omega) (Nat.le_refl _) 0 _⟩
set_option maxHeartbeats 4000000 in
set_option maxRecDepth 100000 in
theorem rclaim_8 (h : Rp w B0 r l) (c : Nat) (ep ct : Int) (k : Nat) (g : Int) (hn : l.length ≤ 64) (hg : okG g = true) (hc : ∃ o, l[k]? = some o ∧ o ≠ 0) :
    Calls Try.prog 13 #[rv r l.length c ep ct, .int .i64 (k : Int), .int .i64 g] w fun e w' => e = .returned (.agg (didV r l.length c ep ct 8).toArray) ∧ Below w.heap.size w w' := by
  obtain ⟨o, ho, h0⟩ := hc
  have hv0 : Hid (l[k]? = some o) := Lib.hid ho
  have hne0 : (o != 0) = true := by simp [h0]
  have hne1 : (o == 0) = false := by simp [h0]
  have hkl : k < l.length := (List.getElem?_eq_some_iff.1 hv0.out).1
  have hki : (k : Int) < (l.length : Int) := by omega
  have his := fun (W : World) => ris_any (w := W) (r := r) l.length c ep ct (k : Int)
  rw [show decide (0 ≤ (k : Int) ∧ (k : Int) < (l.length : Int)) = true from by rw [decide_eq_true_iff]; omega] at his
  replace his := Lib.hid his
  have hlg := fun W => rlog_any g W
  rw [hg] at hlg
  replace hlg := Lib.hid hlg
  have hX := (Whole.new w 32 [.slice (some ⟨r, 0, none⟩) l.length c, .int .i64 ep, .int .i64 ct]).alloc (.cells did0.toArray 43)
  have hY := Whole.new (w.alloc (.cells #[.slice (some ⟨r, 0, none⟩) l.length c, .int .i64 ep, .int .i64 ct] 32)) 43 did0
  rw [show (w.alloc (.cells #[.slice (some ⟨r, 0, none⟩) l.length c, .int .i64 ep, .int .i64 ct] 32)).heap.size = w.heap.size + 1 from by simp] at hY
  have hB := grewAlloc ((Below.refl w.heap.size w).alloc (Nat.le_refl _) (.cells #[.slice (some ⟨r, 0, none⟩) l.length c, .int .i64 ep, .int .i64 ct] 32)) (.cells did0.toArray 43)
  have hR := Lib.hid (h.grow hB)
  obtain ⟨W, hW⟩ : ∃ W, Hid (W = (w.alloc (.cells #[.slice (some ⟨r, 0, none⟩) l.length c, .int .i64 ep, .int .i64 ct] 32)).alloc (.cells did0.toArray 43)) := ⟨_, Lib.hid rfl⟩
  rw [← hW.out] at hX hY hB hR
  have x0 : W.cell? ⟨w.heap.size, 0, none⟩ = some (.slice (some ⟨r, 0, none⟩) l.length c) := hX.cell 0
  have x1 : W.cell? ⟨w.heap.size, 1, none⟩ = some (.int .i64 ep) := hX.cell 1
  have x2 : W.cell? ⟨w.heap.size, 2, none⟩ = some (.int .i64 ct) := hX.cell 2
  replace hX := Lib.hid hX
  replace hY := Lib.hid hY
  replace hB := Lib.hid hB
  have hbW0 := Lib.hid (Below.refl W.heap.size W)
  generalize hln : l.length = n at *
  clear h
  go_enter Try.func13, Try.ntmps13
  go_wp2_with fail
  rw [← hW.out]
  clear hW
  refine (his.out _).mono ?_
  rintro ee w1 ⟨rfl, hb1⟩
  replace hX := Lib.hid (hX.out.below hb1 hX.out.lt)
  replace hY := Lib.hid (hY.out.below hb1 hY.out.lt)
  replace hB := Lib.hid (grew hB.out hb1)
  replace hR := Lib.hid (hR.out.grow hb1)
  replace hbW0 := Lib.hid (grew hbW0.out hb1)
  clear hb1 x0 x1 x2
  have x0 : w1.cell? ⟨w.heap.size, 0, none⟩ = some (.slice (some ⟨r, 0, none⟩) n c) := hX.out.cell 0
  have x1 : w1.cell? ⟨w.heap.size, 1, none⟩ = some (.int .i64 ep) := hX.out.cell 1
  have x2 : w1.cell? ⟨w.heap.size, 2, none⟩ = some (.int .i64 ct) := hX.out.cell 2
  have xk := hR.out.at_ k _ hv0.out
  go_wp2_with fail
  refine (hlg.out _).mono ?_
  rintro ee w2 ⟨rfl, rfl⟩
  go_wp2_with (with_reducible refine zStore 43 _ _ rfl ?_)
  refine Lib.hid ?_
  refine wpList_store_mid rfl 43 _ _ rfl (w.heap.size + 1) 0 (didV r n c ep ct 8).toArray rfl rfl (hY.out.there 0 4 (by simp)) sizeD4 (all_oneCell_toArray (didV_one r n c ep ct 8)) ?_
  go_wp2_with fail
  have hfin := whole_all hY.out (vs := didV r n c ep ct 8) rfl
  exact bodyPost_ret (result_cell Try.results13 rfl hfin.range Try.underlying43 rfl sizeD4) rfl ⟨rfl, below_store hB.out (by omega) (Nat.le_refl _) 0 _⟩
set_option maxHeartbeats 4000000 in
set_option maxRecDepth 100000 in
theorem rclaim_0 (h : Rp w B0 r l) (c : Nat) (ep ct : Int) (k : Nat) (g : Int) (hn : l.length ≤ 64) (hg : okG g = true) (hc : l[k]? = some 0) :
    Calls Try.prog 13 #[rv r l.length c ep ct, .int .i64 (k : Int), .int .i64 g] w fun e w' => ∃ r' c', e = .returned (.agg (didV r' l.length c' ep ct 0).toArray) ∧ Rp w' w.heap.size r' (l.set k g) ∧ Below w.heap.size w w' := by
  have hv0 : Hid (l[k]? = some 0) := Lib.hid hc
  have hkl : k < l.length := (List.getElem?_eq_some_iff.1 hv0.out).1
  have hki : (k : Int) < (l.length : Int) := by omega
  have his := fun (W : World) => ris_any (w := W) (r := r) l.length c ep ct (k : Int)
  rw [show decide (0 ≤ (k : Int) ∧ (k : Int) < (l.length : Int)) = true from by rw [decide_eq_true_iff]; omega] at his
  replace his := Lib.hid his
  have hlg := fun W => rlog_any g W
  rw [hg] at hlg
  replace hlg := Lib.hid hlg
  have hX := (Whole.new w 32 [.slice (some ⟨r, 0, none⟩) l.length c, .int .i64 ep, .int .i64 ct]).alloc (.cells did0.toArray 43)
  have hY := Whole.new (w.alloc (.cells #[.slice (some ⟨r, 0, none⟩) l.length c, .int .i64 ep, .int .i64 ct] 32)) 43 did0
  rw [show (w.alloc (.cells #[.slice (some ⟨r, 0, none⟩) l.length c, .int .i64 ep, .int .i64 ct] 32)).heap.size = w.heap.size + 1 from by simp] at hY
  have hB := grewAlloc ((Below.refl w.heap.size w).alloc (Nat.le_refl _) (.cells #[.slice (some ⟨r, 0, none⟩) l.length c, .int .i64 ep, .int .i64 ct] 32)) (.cells did0.toArray 43)
  have hR := Lib.hid (h.grow hB)
  obtain ⟨W, hW⟩ : ∃ W, Hid (W = (w.alloc (.cells #[.slice (some ⟨r, 0, none⟩) l.length c, .int .i64 ep, .int .i64 ct] 32)).alloc (.cells did0.toArray 43)) := ⟨_, Lib.hid rfl⟩
  rw [← hW.out] at hX hY hB hR
  have hse := Lib.hid (fun (V : World) (hb : Below W.heap.size W V) => rsetP_any (hR.out.grow hb) c ep ct g hn k hkl)
  have hLz : Hid ((l.set k g).length = l.length) := Lib.hid (by simp)
  obtain ⟨L, hL⟩ : ∃ L, Hid (l.set k g = L) := ⟨_, Lib.hid rfl⟩
  rw [hL.out] at hse hLz ⊢
  have x0 : W.cell? ⟨w.heap.size, 0, none⟩ = some (.slice (some ⟨r, 0, none⟩) l.length c) := hX.cell 0
  have x1 : W.cell? ⟨w.heap.size, 1, none⟩ = some (.int .i64 ep) := hX.cell 1
  have x2 : W.cell? ⟨w.heap.size, 2, none⟩ = some (.int .i64 ct) := hX.cell 2
  replace hX := Lib.hid hX
  replace hY := Lib.hid hY
  replace hB := Lib.hid hB
  have hbW0 := Lib.hid (Below.refl W.heap.size W)
  generalize hln : l.length = n at *
  clear h hL
  go_enter Try.func13, Try.ntmps13
  go_wp2_with fail
  rw [← hW.out]
  clear hW
  refine (his.out _).mono ?_
  rintro ee w1 ⟨rfl, hb1⟩
  replace hX := Lib.hid (hX.out.below hb1 hX.out.lt)
  replace hY := Lib.hid (hY.out.below hb1 hY.out.lt)
  replace hB := Lib.hid (grew hB.out hb1)
  replace hR := Lib.hid (hR.out.grow hb1)
  replace hbW0 := Lib.hid (grew hbW0.out hb1)
  clear hb1 x0 x1 x2
  have x0 : w1.cell? ⟨w.heap.size, 0, none⟩ = some (.slice (some ⟨r, 0, none⟩) n c) := hX.out.cell 0
  have x1 : w1.cell? ⟨w.heap.size, 1, none⟩ = some (.int .i64 ep) := hX.out.cell 1
  have x2 : w1.cell? ⟨w.heap.size, 2, none⟩ = some (.int .i64 ct) := hX.out.cell 2
  have xk := hR.out.at_ k _ hv0.out
  go_wp2_with fail
  refine (hlg.out _).mono ?_
  rintro ee w2 ⟨rfl, rfl⟩
  go_wp2_with fail
  refine (hse.out _ hbW0.out).mono ?_
  rintro ee w3 ⟨r', c', rfl, hR3, hb3⟩
  have hry : Hid (w.heap.size + 1 < r') := Lib.hid (by have h1 := hY.out.lt; have h2 := hR3.lo; omega)
  replace hY := Lib.hid (hY.out.below hb3 hY.out.lt)
  replace hB := Lib.hid (grew hB.out hb3)
  replace hR3 := Lib.hid hR3
  clear hb3 hse x0 x1 x2 xk
  go_wp2_with (with_reducible refine zStore 43 _ _ rfl ?_)
  refine Lib.hid ?_
  refine wpList_store_mid rfl 43 _ _ rfl (w.heap.size + 1) 0 (didV r' n c' ep ct 0).toArray rfl rfl (hY.out.there 0 4 (by simp)) sizeD4 (all_oneCell_toArray (didV_one r' n c' ep ct 0)) ?_
  go_wp2_with fail
  have hfin := whole_all hY.out (vs := didV r' n c' ep ct 0) rfl
  have hrz : Rp (w3.setCells (w.heap.size + 1) 0 (didV r' n c' ep ct 0)) w.heap.size r' L := ⟨by have := hry.out; omega, fun j o hj => by
    have hc := hR3.out.at_ j o hj
    have hne : r' ≠ w.heap.size + 1 := by have := hry.out; omega
    have h2 := heap_setCells_far (w.heap.size + 1) hne (didV r' n c' ep ct 0) 0 w3
    rw [← hc]
    unfold World.cell?
    simp only [h2]⟩
  exact bodyPost_ret (result_cell Try.results13 rfl hfin.range Try.underlying43 rfl sizeD4) rfl ⟨r', c', rfl, hrz, below_store hB.out (by omega) (Nat.le_refl _) 0 _⟩
set_option maxHeartbeats 4000000 in
set_option maxRecDepth 100000 in
theorem rgive_20 (h : Rp w B0 r l) (c : Nat) (ep ct : Int) (s : Int) (hn : l.length ≤ 64) (hs : ¬ (0 ≤ s ∧ s < (l.length : Int))) :
    Calls Try.prog 15 #[rv r l.length c ep ct, .int .i64 s] w fun e w' => e = .returned (.agg (didV r l.length c ep ct 20).toArray) ∧ Below w.heap.size w w' := by
  have his := fun (W : World) => ris_any (w := W) (r := r) l.length c ep ct s
  rw [show decide (0 ≤ s ∧ s < (l.length : Int)) = false from by rw [decide_eq_false_iff_not]; omega] at his
  replace his := Lib.hid his
  have hX := (Whole.new w 32 [.slice (some ⟨r, 0, none⟩) l.length c, .int .i64 ep, .int .i64 ct]).alloc (.cells did0.toArray 43)
  have hY := Whole.new (w.alloc (.cells #[.slice (some ⟨r, 0, none⟩) l.length c, .int .i64 ep, .int .i64 ct] 32)) 43 did0
  rw [show (w.alloc (.cells #[.slice (some ⟨r, 0, none⟩) l.length c, .int .i64 ep, .int .i64 ct] 32)).heap.size = w.heap.size + 1 from by simp] at hY
  have hB := grewAlloc ((Below.refl w.heap.size w).alloc (Nat.le_refl _) (.cells #[.slice (some ⟨r, 0, none⟩) l.length c, .int .i64 ep, .int .i64 ct] 32)) (.cells did0.toArray 43)
  have hR := Lib.hid (h.grow hB)
  obtain ⟨W, hW⟩ : ∃ W, Hid (W = (w.alloc (.cells #[.slice (some ⟨r, 0, none⟩) l.length c, .int .i64 ep, .int .i64 ct] 32)).alloc (.cells did0.toArray 43)) := ⟨_, Lib.hid rfl⟩
  rw [← hW.out] at hX hY hB hR
  have x0 : W.cell? ⟨w.heap.size, 0, none⟩ = some (.slice (some ⟨r, 0, none⟩) l.length c) := hX.cell 0
  have x1 : W.cell? ⟨w.heap.size, 1, none⟩ = some (.int .i64 ep) := hX.cell 1
  have x2 : W.cell? ⟨w.heap.size, 2, none⟩ = some (.int .i64 ct) := hX.cell 2
  replace hX := Lib.hid hX
  replace hY := Lib.hid hY
  replace hB := Lib.hid hB
  have hbW0 := Lib.hid (Below.refl W.heap.size W)
  generalize hln : l.length = n at *
  clear h
  go_enter Try.func15, Try.ntmps15
  go_wp2_with fail
  rw [← hW.out]
  clear hW
  refine (his.out _).mono ?_
  rintro ee w1 ⟨rfl, hb1⟩
  replace hX := Lib.hid (hX.out.below hb1 hX.out.lt)
  replace hY := Lib.hid (hY.out.below hb1 hY.out.lt)
  replace hB := Lib.hid (grew hB.out hb1)
  replace hR := Lib.hid (hR.out.grow hb1)
  replace hbW0 := Lib.hid (grew hbW0.out hb1)
  clear hb1 x0 x1 x2
  have x0 : w1.cell? ⟨w.heap.size, 0, none⟩ = some (.slice (some ⟨r, 0, none⟩) n c) := hX.out.cell 0
  have x1 : w1.cell? ⟨w.heap.size, 1, none⟩ = some (.int .i64 ep) := hX.out.cell 1
  have x2 : w1.cell? ⟨w.heap.size, 2, none⟩ = some (.int .i64 ct) := hX.out.cell 2
  go_wp2_with (with_reducible refine zStore 43 _ _ rfl ?_)
  refine Lib.hid ?_
  refine wpList_store_mid rfl 43 _ _ rfl (w.heap.size + 1) 0 (didV r n c ep ct 20).toArray rfl rfl (hY.out.there 0 4 (by simp)) sizeD4 (all_oneCell_toArray (didV_one r n c ep ct 20)) ?_
  go_wp2_with fail
  have hfin := whole_all hY.out (vs := didV r n c ep ct 20) rfl
  exact bodyPost_ret (result_cell Try.results15 rfl hfin.range Try.underlying43 rfl sizeD4) rfl ⟨rfl, below_store hB.out (by omega) (Nat.le_refl _) 0 _⟩
set_option maxHeartbeats 4000000 in
set_option maxRecDepth 100000 in
theorem rgive_6 (h : Rp w B0 r l) (c : Nat) (ep ct : Int) (k : Nat) (hn : l.length ≤ 64) (hc : l[k]? = some 0) :
    Calls Try.prog 15 #[rv r l.length c ep ct, .int .i64 (k : Int)] w fun e w' => e = .returned (.agg (didV r l.length c ep ct 6).toArray) ∧ Below w.heap.size w w' := by
  have hv0 : Hid (l[k]? = some 0) := Lib.hid hc
  have hkl : k < l.length := (List.getElem?_eq_some_iff.1 hv0.out).1
  have hki : (k : Int) < (l.length : Int) := by omega
  have his := fun (W : World) => ris_any (w := W) (r := r) l.length c ep ct (k : Int)
  rw [show decide (0 ≤ (k : Int) ∧ (k : Int) < (l.length : Int)) = true from by rw [decide_eq_true_iff]; omega] at his
  replace his := Lib.hid his
  have hX := (Whole.new w 32 [.slice (some ⟨r, 0, none⟩) l.length c, .int .i64 ep, .int .i64 ct]).alloc (.cells did0.toArray 43)
  have hY := Whole.new (w.alloc (.cells #[.slice (some ⟨r, 0, none⟩) l.length c, .int .i64 ep, .int .i64 ct] 32)) 43 did0
  rw [show (w.alloc (.cells #[.slice (some ⟨r, 0, none⟩) l.length c, .int .i64 ep, .int .i64 ct] 32)).heap.size = w.heap.size + 1 from by simp] at hY
  have hB := grewAlloc ((Below.refl w.heap.size w).alloc (Nat.le_refl _) (.cells #[.slice (some ⟨r, 0, none⟩) l.length c, .int .i64 ep, .int .i64 ct] 32)) (.cells did0.toArray 43)
  have hR := Lib.hid (h.grow hB)
  obtain ⟨W, hW⟩ : ∃ W, Hid (W = (w.alloc (.cells #[.slice (some ⟨r, 0, none⟩) l.length c, .int .i64 ep, .int .i64 ct] 32)).alloc (.cells did0.toArray 43)) := ⟨_, Lib.hid rfl⟩
  rw [← hW.out] at hX hY hB hR
  have x0 : W.cell? ⟨w.heap.size, 0, none⟩ = some (.slice (some ⟨r, 0, none⟩) l.length c) := hX.cell 0
  have x1 : W.cell? ⟨w.heap.size, 1, none⟩ = some (.int .i64 ep) := hX.cell 1
  have x2 : W.cell? ⟨w.heap.size, 2, none⟩ = some (.int .i64 ct) := hX.cell 2
  replace hX := Lib.hid hX
  replace hY := Lib.hid hY
  replace hB := Lib.hid hB
  have hbW0 := Lib.hid (Below.refl W.heap.size W)
  generalize hln : l.length = n at *
  clear h
  go_enter Try.func15, Try.ntmps15
  go_wp2_with fail
  rw [← hW.out]
  clear hW
  refine (his.out _).mono ?_
  rintro ee w1 ⟨rfl, hb1⟩
  replace hX := Lib.hid (hX.out.below hb1 hX.out.lt)
  replace hY := Lib.hid (hY.out.below hb1 hY.out.lt)
  replace hB := Lib.hid (grew hB.out hb1)
  replace hR := Lib.hid (hR.out.grow hb1)
  replace hbW0 := Lib.hid (grew hbW0.out hb1)
  clear hb1 x0 x1 x2
  have x0 : w1.cell? ⟨w.heap.size, 0, none⟩ = some (.slice (some ⟨r, 0, none⟩) n c) := hX.out.cell 0
  have x1 : w1.cell? ⟨w.heap.size, 1, none⟩ = some (.int .i64 ep) := hX.out.cell 1
  have x2 : w1.cell? ⟨w.heap.size, 2, none⟩ = some (.int .i64 ct) := hX.out.cell 2
  have xk := hR.out.at_ k _ hv0.out
  go_wp2_with (with_reducible refine zStore 43 _ _ rfl ?_)
  refine Lib.hid ?_
  refine wpList_store_mid rfl 43 _ _ rfl (w.heap.size + 1) 0 (didV r n c ep ct 6).toArray rfl rfl (hY.out.there 0 4 (by simp)) sizeD4 (all_oneCell_toArray (didV_one r n c ep ct 6)) ?_
  go_wp2_with fail
  have hfin := whole_all hY.out (vs := didV r n c ep ct 6) rfl
  exact bodyPost_ret (result_cell Try.results15 rfl hfin.range Try.underlying43 rfl sizeD4) rfl ⟨rfl, below_store hB.out (by omega) (Nat.le_refl _) 0 _⟩
set_option maxHeartbeats 4000000 in
set_option maxRecDepth 100000 in
theorem rgive_0 (h : Rp w B0 r l) (c : Nat) (ep ct : Int) (k : Nat) (hn : l.length ≤ 64) (hc : ∃ o, l[k]? = some o ∧ o ≠ 0) :
    Calls Try.prog 15 #[rv r l.length c ep ct, .int .i64 (k : Int)] w fun e w' => ∃ r' c', e = .returned (.agg (didV r' l.length c' ep ct 0).toArray) ∧ Rp w' w.heap.size r' (l.set k 0) ∧ Below w.heap.size w w' := by
  obtain ⟨o, ho, h0⟩ := hc
  have hv0 : Hid (l[k]? = some o) := Lib.hid ho
  have hne0 : (o != 0) = true := by simp [h0]
  have hne1 : (o == 0) = false := by simp [h0]
  have hkl : k < l.length := (List.getElem?_eq_some_iff.1 hv0.out).1
  have hki : (k : Int) < (l.length : Int) := by omega
  have his := fun (W : World) => ris_any (w := W) (r := r) l.length c ep ct (k : Int)
  rw [show decide (0 ≤ (k : Int) ∧ (k : Int) < (l.length : Int)) = true from by rw [decide_eq_true_iff]; omega] at his
  replace his := Lib.hid his
  have hX := (Whole.new w 32 [.slice (some ⟨r, 0, none⟩) l.length c, .int .i64 ep, .int .i64 ct]).alloc (.cells did0.toArray 43)
  have hY := Whole.new (w.alloc (.cells #[.slice (some ⟨r, 0, none⟩) l.length c, .int .i64 ep, .int .i64 ct] 32)) 43 did0
  rw [show (w.alloc (.cells #[.slice (some ⟨r, 0, none⟩) l.length c, .int .i64 ep, .int .i64 ct] 32)).heap.size = w.heap.size + 1 from by simp] at hY
  have hB := grewAlloc ((Below.refl w.heap.size w).alloc (Nat.le_refl _) (.cells #[.slice (some ⟨r, 0, none⟩) l.length c, .int .i64 ep, .int .i64 ct] 32)) (.cells did0.toArray 43)
  have hR := Lib.hid (h.grow hB)
  obtain ⟨W, hW⟩ : ∃ W, Hid (W = (w.alloc (.cells #[.slice (some ⟨r, 0, none⟩) l.length c, .int .i64 ep, .int .i64 ct] 32)).alloc (.cells did0.toArray 43)) := ⟨_, Lib.hid rfl⟩
  rw [← hW.out] at hX hY hB hR
  have hse := Lib.hid (fun (V : World) (hb : Below W.heap.size W V) => rsetP_any (hR.out.grow hb) c ep ct 0 hn k hkl)
  have hLz : Hid ((l.set k 0).length = l.length) := Lib.hid (by simp)
  obtain ⟨L, hL⟩ : ∃ L, Hid (l.set k 0 = L) := ⟨_, Lib.hid rfl⟩
  rw [hL.out] at hse hLz ⊢
  have x0 : W.cell? ⟨w.heap.size, 0, none⟩ = some (.slice (some ⟨r, 0, none⟩) l.length c) := hX.cell 0
  have x1 : W.cell? ⟨w.heap.size, 1, none⟩ = some (.int .i64 ep) := hX.cell 1
  have x2 : W.cell? ⟨w.heap.size, 2, none⟩ = some (.int .i64 ct) := hX.cell 2
  replace hX := Lib.hid hX
  replace hY := Lib.hid hY
  replace hB := Lib.hid hB
  have hbW0 := Lib.hid (Below.refl W.heap.size W)
  generalize hln : l.length = n at *
  clear h hL
  go_enter Try.func15, Try.ntmps15
  go_wp2_with fail
  rw [← hW.out]
  clear hW
  refine (his.out _).mono ?_
  rintro ee w1 ⟨rfl, hb1⟩
  replace hX := Lib.hid (hX.out.below hb1 hX.out.lt)
  replace hY := Lib.hid (hY.out.below hb1 hY.out.lt)
  replace hB := Lib.hid (grew hB.out hb1)
  replace hR := Lib.hid (hR.out.grow hb1)
  replace hbW0 := Lib.hid (grew hbW0.out hb1)
  clear hb1 x0 x1 x2
  have x0 : w1.cell? ⟨w.heap.size, 0, none⟩ = some (.slice (some ⟨r, 0, none⟩) n c) := hX.out.cell 0
  have x1 : w1.cell? ⟨w.heap.size, 1, none⟩ = some (.int .i64 ep) := hX.out.cell 1
  have x2 : w1.cell? ⟨w.heap.size, 2, none⟩ = some (.int .i64 ct) := hX.out.cell 2
  have xk := hR.out.at_ k _ hv0.out
  go_wp2_with fail
  refine (hse.out _ hbW0.out).mono ?_
  rintro ee w3 ⟨r', c', rfl, hR3, hb3⟩
  have hry : Hid (w.heap.size + 1 < r') := Lib.hid (by have h1 := hY.out.lt; have h2 := hR3.lo; omega)
  replace hY := Lib.hid (hY.out.below hb3 hY.out.lt)
  replace hB := Lib.hid (grew hB.out hb3)
  replace hR3 := Lib.hid hR3
  clear hb3 hse x0 x1 x2 xk
  go_wp2_with (with_reducible refine zStore 43 _ _ rfl ?_)
  refine Lib.hid ?_
  refine wpList_store_mid rfl 43 _ _ rfl (w.heap.size + 1) 0 (didV r' n c' ep ct 0).toArray rfl rfl (hY.out.there 0 4 (by simp)) sizeD4 (all_oneCell_toArray (didV_one r' n c' ep ct 0)) ?_
  go_wp2_with fail
  have hfin := whole_all hY.out (vs := didV r' n c' ep ct 0) rfl
  have hrz : Rp (w3.setCells (w.heap.size + 1) 0 (didV r' n c' ep ct 0)) w.heap.size r' L := ⟨by have := hry.out; omega, fun j o hj => by
    have hc := hR3.out.at_ j o hj
    have hne : r' ≠ w.heap.size + 1 := by have := hry.out; omega
    have h2 := heap_setCells_far (w.heap.size + 1) hne (didV r' n c' ep ct 0) 0 w3
    rw [← hc]
    unfold World.cell?
    simp only [h2]⟩
  exact bodyPost_ret (result_cell Try.results15 rfl hfin.range Try.underlying43 rfl sizeD4) rfl ⟨r', c', rfl, hrz, below_store hB.out (by omega) (Nat.le_refl _) 0 _⟩
end
end Go.Proofs.Ytoegohofmhijgaa.W
