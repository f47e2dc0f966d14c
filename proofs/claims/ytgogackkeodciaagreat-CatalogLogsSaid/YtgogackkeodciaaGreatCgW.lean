/- Package catalog: Spec. -/
import Derived.Test.YtgogackkeodciaaGreatCgV
namespace Go.Proofs.YtgogackkeodciaaGreat.W
open Go.RowKit Go.Sort
open Go.Proofs.YtgogackkeodciaaGreat.M Go.Proofs.YtgogackkeodciaaGreat.D Go.Proofs.YtgogackkeodciaaGreat.Z
set_option linter.unusedVariables false
set_option linter.unusedSimpArgs false

theorem sizeSpW : (Tryz.prog.info? 31).map (·.size) = some 5 := by kernel_rfl
/-- What Spec tells. -/
def specF (T : List To) (nm : ByteArray) : Sp × Int := match findT T nm with
  | some x => (x.sp, 0)
  | none => (zSp, 6)
theorem kR5 {rb : Nat} {V w : World} (h : Kept (fun q => q = rb) V w) (c0 c1 c2 c3 c4 : Value) : Kept (fun q => q = rb) V (((((w.setCell ⟨rb, 0, none⟩ c0).setCell ⟨rb, 1, none⟩ c1).setCell ⟨rb, 2, none⟩ c2).setCell ⟨rb, 3, none⟩ c3).setCell ⟨rb, 4, none⟩ c4) := h.setCells (c := rb) (.inl rfl) 0 [c0, c1, c2, c3, c4]
set_option maxRecDepth 100000 in
set_option maxHeartbeats 4000000 in
theorem spec_of_any {B0 : Nat} (cb : Nat) (m : Option Nat) (T : List To) (n : Int) (c : Nat) (nm : ByteArray) (w : World) (h : CaAt B0 w cb m T n c) (x : Sp) (er : Int) (hs : specF T nm = (x, er)) :
    Calls Tryz.prog 15 #[.pointer (some ⟨cb, 0, none⟩), .string nm] w fun e w' => e = .returned (.tuple #[.agg #[.string x.nm, .int .i64 x.parts, .int .i64 x.age, .int .i64 x.size, .bool x.comp], .int .i64 er]) ∧ Below w.heap.size w w' := by
  obtain ⟨V, hV⟩ : ∃ V, Hid (V = w.alloc (.cells #[.string ⟨#[]⟩, .int .i64 0, .int .i64 0, .int .i64 0, .bool false] 31)) := ⟨_, Lib.hid rfl⟩
  have hB : Below w.heap.size w V := by rw [hV.out]; exact grewAlloc (Below.refl _ _) _
  have hR : Whole V w.heap.size 31 [.string ⟨#[]⟩, .int .i64 0, .int .i64 0, .int .i64 0, .bool false] := by rw [hV.out]; exact Whole.new w _ _
  obtain ⟨rb, hrb⟩ : ∃ q, Hid (w.heap.size = q) := ⟨_, Lib.hid rfl⟩
  rw [hrb.out] at hR
  have hrw : w.heap.size ≤ rb := by have := hrb.out; omega
  have hcr : cb ≠ rb := by have := h.at_.box.lt; omega
  have hC := h.below hB
  have hha := has23_any cb m T n c nm V hC
  replace hB := Lib.hid hB
  replace hR := Lib.hid hR
  unfold specF at hs
  cases hf : findT T nm with
  | none =>
    rw [hf] at hs
    simp only [Prod.mk.injEq] at hs
    obtain ⟨rfl, rfl⟩ := hs
    rw [show hasT T nm = false by unfold hasT; rw [hf]; rfl] at hha
    replace hha := Lib.hid hha
    clear h hC hf hcr
    go_enter Tryz.func15, Tryz.ntmps15
    go_upto_region 1 with fail
    rw [← show V = _ from hV.out, hrb.out]
    clear hV hrb
    go_wp2_with fail
    refine hha.out.mono ?_
    rintro _ W2 ⟨rfl, b2⟩
    have hR2 := hR.out.below b2 hR.out.lt
    have r0 : W2.cell? ⟨rb, 0, none⟩ = some (.string ⟨#[]⟩) := hR2.cell 0
    have r1 : W2.cell? ⟨rb, 1, none⟩ = some (.int .i64 0) := hR2.cell 1
    have r2 : W2.cell? ⟨rb, 2, none⟩ = some (.int .i64 0) := hR2.cell 2
    have r3 : W2.cell? ⟨rb, 3, none⟩ = some (.int .i64 0) := hR2.cell 3
    have r4 : W2.cell? ⟨rb, 4, none⟩ = some (.bool false) := hR2.cell 4
    have f0 := hR2.frozen 0
    have f1 := hR2.frozen 1
    have f2 := hR2.frozen 2
    have f3 := hR2.frozen 3
    have f4 := hR2.frozen 4
    have hend : Hid (Whole (W2.setCells rb 0 [.string ⟨#[]⟩, .int .i64 0, .int .i64 0, .int .i64 0, .bool false]) rb 31 [.string ⟨#[]⟩, .int .i64 0, .int .i64 0, .int .i64 0, .bool false]) := Lib.hid (whole_all hR2 rfl)
    have hB9 : Hid (Below w.heap.size w (W2.setCells rb 0 [.string ⟨#[]⟩, .int .i64 0, .int .i64 0, .int .i64 0, .bool false])) := Lib.hid (below_store (grew hB.out b2) hrw (Nat.le_refl _) 0 [.string ⟨#[]⟩, .int .i64 0, .int .i64 0, .int .i64 0, .bool false])
    clear hR2 b2 hha
    go_wp2_with fail
    exact bodyPost_ret (result_cell_tmp Tryz.results15 rfl rfl hend.out.range Tryz.underlying31 rfl sizeSpW) rfl ⟨rfl, hB9.out⟩
  | some t =>
    rw [hf] at hs
    simp only [Prod.mk.injEq] at hs
    obtain ⟨rfl, rfl⟩ := hs
    rw [show hasT T nm = true by unfold hasT; rw [hf]; rfl] at hha
    replace hha := Lib.hid hha
    obtain ⟨htm, htn⟩ := h.ok.find.1 hf
    have hto := h.ok.ok t htm
    have hnz := h.ok.name_ne htm
    obtain ⟨k, hk⟩ : ∃ k : Nat, t.slot = (k : Int) := ⟨t.slot.toNat, by have := hto.2.1; omega⟩
    have hk8 : k < 8 := by have := hto.2.1; omega
    have hk8i : (k : Int) < 8 := by omega
    have hSk : spAt T k = t.sp := by
      have := spAt_of h.ok htm
      rw [hk] at this
      exact this
    have hsl : Hid (∀ W, Below V.heap.size V W → Calls Tryz.prog 42 #[.pointer (some ⟨cb, 0, none⟩), .string nm] W fun e w' => e = .returned (.int .i64 (k : Int)) ∧ Below W.heap.size W w') := Lib.hid (fun W hb => by
      have := slot_any cb m _ _ n c nm W (hC.at_.below hb)
      rwa [idx_name h.ok (by rw [← htn]; omega), show slotI T nm = (k : Int) by unfold slotI; rw [hf]; exact hk] at this)
    have hcl : Hid (∀ W, Below V.heap.size V W → ∀ W', Kept (fun q => q = rb) W W' → ∀ i v, (spL t.sp)[i]? = some v → W'.cell? ⟨cb, k * 5 + i, none⟩ = some v) := Lib.hid (fun W hb W' hkp i v hv => by
      have hc2 := (hC.at_.below hb)
      rw [(hc2.box.of_kept hkp hcr).cell, ctL_sp hc2.eight _ _ hk8 (List.getElem?_eq_some_iff.1 hv).1 (spAt_range T hk8), hSk]
      exact hv)
    obtain ⟨⟨tn, pa, ag, sz, cp⟩, sl, ms⟩ := t
    dsimp only at hcl ⊢
    clear h hC hf htm htn hto hnz hk hSk
    go_enter Tryz.func15, Tryz.ntmps15
    go_upto_region 1 with fail
    rw [← show V = _ from hV.out, hrb.out]
    clear hV hrb
    go_wp2_with fail
    refine hha.out.mono ?_
    rintro _ W2 ⟨rfl, b2⟩
    have hcx := hcl.out W2 b2
    have d0 : ∀ W', Kept (fun q => q = rb) W2 W' → W'.cell? ⟨cb, k * 5, none⟩ = some (.string tn) := fun W' hkp => hcx W' hkp 0 _ rfl
    have d1 : ∀ W', Kept (fun q => q = rb) W2 W' → W'.cell? ⟨cb, k * 5 + 1, none⟩ = some (.int .i64 pa) := fun W' hkp => hcx W' hkp 1 _ rfl
    have d2 : ∀ W', Kept (fun q => q = rb) W2 W' → W'.cell? ⟨cb, k * 5 + 2, none⟩ = some (.int .i64 ag) := fun W' hkp => hcx W' hkp 2 _ rfl
    have d3 : ∀ W', Kept (fun q => q = rb) W2 W' → W'.cell? ⟨cb, k * 5 + 3, none⟩ = some (.int .i64 sz) := fun W' hkp => hcx W' hkp 3 _ rfl
    have d4 : ∀ W', Kept (fun q => q = rb) W2 W' → W'.cell? ⟨cb, k * 5 + 4, none⟩ = some (.bool cp) := fun W' hkp => hcx W' hkp 4 _ rfl
    have s10 : Kept (fun q => q = rb) W2 W2 := Kept.refl _ _
    have s10d : Kept (fun q => q = rb) W2 W2.drew := kD (Kept.refl _ _)
    have hs2 := Lib.hid (hsl.out W2.drew (grew b2 (Below.refl _ _).drew))
    have hB2 := Lib.hid (grew hB.out b2)
    have hR2 := Lib.hid (hR.out.below b2 hR.out.lt)
    clear hha hcx hcl hsl b2 hB hR
    go_upto_region 5 with fail
    go_region_held3 (fun w' => Kept (fun q => q = rb) W2 w') (with_reducible first | assumption | exact kR5 (by assumption) _ _ _ _ _) (first
      | (go_at_call 42; (with_reducible refine hs2.out.mono ?_); rintro _ y1 ⟨rfl, b1⟩; have b11 : Below W2.heap.size W2 y1 := grew (Below.refl _ _).drew b1; have s11 : Kept (fun q => q = rb) W2 y1 := Kept.of_below b11; have hR5 := hR2.out.below b11 hR2.out.lt; have r0 : y1.cell? ⟨rb, 0, none⟩ = some (.string ⟨#[]⟩) := hR5.cell 0; have r1 : y1.cell? ⟨rb, 1, none⟩ = some (.int .i64 0) := hR5.cell 1; have r2 : y1.cell? ⟨rb, 2, none⟩ = some (.int .i64 0) := hR5.cell 2; have r3 : y1.cell? ⟨rb, 3, none⟩ = some (.int .i64 0) := hR5.cell 3; have r4 : y1.cell? ⟨rb, 4, none⟩ = some (.bool false) := hR5.cell 4; have f0 := hR5.frozen 0; have f1 := hR5.frozen 1; have f2 := hR5.frozen 2; have f3 := hR5.frozen 3; have f4 := hR5.frozen 4; have hend : Hid (Whole (y1.setCells rb 0 [.string tn, .int .i64 pa, .int .i64 ag, .int .i64 sz, .bool cp]) rb 31 [.string tn, .int .i64 pa, .int .i64 ag, .int .i64 sz, .bool cp]) := Lib.hid (whole_all hR5 rfl); have hB9 : Hid (Below w.heap.size w (y1.setCells rb 0 [.string tn, .int .i64 pa, .int .i64 ag, .int .i64 sz, .bool cp])) := Lib.hid (below_store (grew hB2.out b11) hrw (Nat.le_refl _) 0 [.string tn, .int .i64 pa, .int .i64 ag, .int .i64 sz, .bool cp])))
    all_goals
      clear d0 d1 d2 d3 d4 hs2
      go_wp2_with fail
      exact bodyPost_ret (result_cell_tmp Tryz.results15 rfl rfl hend.out.range Tryz.underlying31 rfl sizeSpW) rfl ⟨rfl, hB9.out⟩
end Go.Proofs.YtgogackkeodciaaGreat.W
