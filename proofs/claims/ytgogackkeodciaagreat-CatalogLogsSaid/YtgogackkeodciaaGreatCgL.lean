/- Package catalog: New, Count, Log, Meta. -/
import Derived.Test.YtgogackkeodciaaGreatCgK
namespace Go.Proofs.YtgogackkeodciaaGreat.W
open Go.RowKit Go.Sort
open Go.Proofs.YtgogackkeodciaaGreat.M Go.Proofs.YtgogackkeodciaaGreat.D Go.Proofs.YtgogackkeodciaaGreat.Z
set_option linter.unusedVariables false
set_option linter.unusedSimpArgs false

abbrev zCat : Array Value := #[.string ⟨#[]⟩, .int .i64 0, .int .i64 0, .int .i64 0, .bool false, .string ⟨#[]⟩, .int .i64 0, .int .i64 0, .int .i64 0, .bool false, .string ⟨#[]⟩, .int .i64 0, .int .i64 0, .int .i64 0, .bool false, .string ⟨#[]⟩, .int .i64 0, .int .i64 0, .int .i64 0, .bool false, .string ⟨#[]⟩, .int .i64 0, .int .i64 0, .int .i64 0, .bool false, .string ⟨#[]⟩, .int .i64 0, .int .i64 0, .int .i64 0, .bool false, .string ⟨#[]⟩, .int .i64 0, .int .i64 0, .int .i64 0, .bool false, .string ⟨#[]⟩, .int .i64 0, .int .i64 0, .int .i64 0, .bool false, .map none, .int .i64 0]
theorem new23_any (w : World) : Calls Tryz.prog 8 #[] w fun e w' => e = .returned (.pointer (some ⟨w.heap.size, 0, none⟩)) ∧ CaAt w.heap.size w' w.heap.size none [] 0 0 ∧ Below w.heap.size w w' := by
  have hB := Lib.hid ((Below.refl w.heap.size w).alloc (Nat.le_refl _) (.cells zCat 67))
  have hC : Hid (CaAt w.heap.size (w.alloc (.cells zCat 67)) w.heap.size none [] 0 0) := Lib.hid ⟨CatOk.nil, Whole.new w _ _, rfl, .inl ⟨rfl, fun a q => rfl⟩, Nat.le_refl _, fun _ e => by cases e⟩
  go_enter Tryz.func8, Tryz.ntmps8
  go_wp2_with fail
  go_ret
  exact ⟨rfl, hC.out, hB.out⟩
theorem count23_any {B0 : Nat} (cb : Nat) (m : Option Nat) (T : List To) (n : Int) (c : Nat) (w : World) (h : CaAt B0 w cb m T n c) :
    Calls Tryz.prog 20 #[.pointer (some ⟨cb, 0, none⟩)] w fun e w' => e = .returned (.int .i64 n) ∧ w = w' := by
  have c41 : w.cell? ⟨cb, 41, none⟩ = some (.int .i64 n) := by rw [h.at_.box.cell, ctL_cnt h.at_.eight]
  clear h
  go_enter Tryz.func20, Tryz.ntmps20
  go_wp2_with fail
  go_ret
  exact ⟨rfl, rfl⟩
def logF (T : List To) (nm : ByteArray) (p : Int) : Int × Int := if (metaT T nm p).isSome = true then (4 + 4 * slotI T nm + p, 0) else (0, 6)
set_option maxRecDepth 100000 in
set_option maxHeartbeats 2000000 in
theorem log23_any {B0 : Nat} (cb : Nat) (m : Option Nat) (T : List To) (n : Int) (c : Nat) (nm : ByteArray) (p : Int) (w : World) (h : CaAt B0 w cb m T n c) (h0 : nm.size ≤ maxLen) (h1 : (Lit.int .i64 p).wf = true) :
    Calls Tryz.prog 16 #[.pointer (some ⟨cb, 0, none⟩), .agg #[.string nm, .int .i64 p]] w fun e w' => e = .returned (.tuple #[.int .i64 (logF T nm p).1, .int .i64 (logF T nm p).2]) ∧ Below w.heap.size w w' := by
  obtain ⟨V, hV⟩ : ∃ V, Hid (V = w.alloc (.cells #[.string nm, .int .i64 p] 33)) := ⟨_, Lib.hid rfl⟩
  have hB : Below w.heap.size w V := by rw [hV.out]; exact grewAlloc (Below.refl _ _) _
  have hX : Whole V w.heap.size 33 [.string nm, .int .i64 p] := by rw [hV.out]; exact Whole.new w _ _
  obtain ⟨xb, hxb⟩ : ∃ q, Hid (w.heap.size = q) := ⟨_, Lib.hid rfl⟩
  rw [hxb.out] at hX
  have hC := h.below hB
  have q0 : V.cell? ⟨xb, 0, none⟩ = some (.string nm) := hX.cell 0
  have q1 : V.cell? ⟨xb, 1, none⟩ = some (.int .i64 p) := hX.cell 1
  have hhp := hasPlace_any cb m _ _ n c nm p V hC.at_ h0 h1
  replace hB := Lib.hid hB
  cases hm : (metaT T nm p).isSome with
  | false =>
    rw [hm] at hhp
    have hl : logF T nm p = (0, 6) := by unfold logF; rw [hm]; rfl
    rw [hl]
    replace hhp := Lib.hid hhp
    clear h hX hC hm hl
    go_enter Tryz.func16, Tryz.ntmps16
    go_upto_region 1 with fail
    rw [← show V = _ from hV.out, hxb.out]
    clear hV hxb
    go_wp2_with fail
    refine hhp.out.mono ?_
    rintro _ w2 ⟨rfl, hb2⟩
    have hB2 := Lib.hid (grew hB.out hb2)
    clear hb2 hhp q0 q1
    go_wp2_with fail
    go_ret2
    exact ⟨rfl, hB2.out⟩
  | true =>
    rw [hm] at hhp
    obtain ⟨y, hy⟩ := Option.isSome_iff_exists.1 hm
    obtain ⟨t, ht, hp0, hg, _⟩ := metaT_some h.ok hy
    obtain ⟨htm, htn⟩ := h.ok.find.1 ht
    have hpar := h.ok.parts htm
    have hplt := (List.getElem?_eq_some_iff.1 hg).1
    have hnz := h.ok.name_ne htm
    have hsl8 := (h.ok.ok t htm).2.1
    obtain ⟨k, hk⟩ : ∃ k : Nat, t.slot = (k : Int) := ⟨t.slot.toNat, by omega⟩
    have hk8 : k < 8 := by omega
    have hsI : slotI T nm = (k : Int) := by unfold slotI; rw [ht]; exact hk
    have hl : logF T nm p = (4 + 4 * (k : Int) + p, 0) := by unfold logF; rw [hm, hsI]; rfl
    rw [hl]
    have hsl : Hid (∀ W, Below V.heap.size V W → Calls Tryz.prog 42 #[.pointer (some ⟨cb, 0, none⟩), .string nm] W fun e w' => e = .returned (.int .i64 (k : Int)) ∧ Below W.heap.size W w') := Lib.hid (fun W hb => by
      have := slot_any cb m _ _ n c nm W (hC.at_.below hb)
      rwa [idx_name h.ok (by rw [← htn]; omega), hsI] at this)
    have w1 : IntKind.i64.wrap (4 * (k : Int)) = 4 * (k : Int) := IntWalk.i64_in _ (by omega)
    have w2 : IntKind.i64.wrap (4 + 4 * (k : Int)) = 4 + 4 * (k : Int) := IntWalk.i64_in _ (by omega)
    have w3 : IntKind.i64.wrap (4 + 4 * (k : Int) + p) = 4 + 4 * (k : Int) + p := IntWalk.i64_in _ (by omega)
    have hX0 := Lib.hid hX
    replace hhp := Lib.hid hhp
    clear h hX hC hm hl hy ht htm htn hpar hplt hnz hsl8 hk hsI hg hp0
    go_enter Tryz.func16, Tryz.ntmps16
    go_upto_region 1 with fail
    rw [← show V = _ from hV.out, hxb.out]
    clear hV hxb
    go_wp2_with fail
    refine hhp.out.mono ?_
    rintro _ W3 ⟨rfl, hb3⟩
    have r0 : ∀ W, Below W3.heap.size W3 W → W.cell? ⟨xb, 0, none⟩ = some (.string nm) := fun W hb => ((hX0.out.below hb3 hX0.out.lt).below hb (hX0.out.below hb3 hX0.out.lt).lt).cell 0
    have r1 : ∀ W, Below W3.heap.size W3 W → W.cell? ⟨xb, 1, none⟩ = some (.int .i64 p) := fun W hb => ((hX0.out.below hb3 hX0.out.lt).below hb (hX0.out.below hb3 hX0.out.lt).lt).cell 1
    have s10 : Below W3.heap.size W3 W3 := Below.refl _ _
    have s10d : Below W3.heap.size W3 W3.drew := (Below.refl _ _).drew
    have hs3 := Lib.hid (fun W (hb : Below W3.heap.size W3 W) => hsl.out W (grew hb3 hb))
    have hB3 := Lib.hid (grew hB.out hb3)
    clear hhp hX0 hsl q0 q1 hb3 hB
    go_upto_region 5 with fail
    go_region_held3 (fun w' => Below W3.heap.size W3 w') (with_reducible first | assumption) (first
      | (go_at_call 42; (with_reducible refine (hs3.out _ (by first | with_reducible exact s10d | with_reducible exact s10)).mono ?_); rintro _ y1 ⟨rfl, b1⟩; have s11 : Below W3.heap.size W3 y1 := grew (by first | exact s10d | exact s10) b1))
    all_goals
      rename_i hHeld
      have hb9 := Lib.hid (grew hB3.out hHeld)
      clear hHeld r0 r1 hs3
      go_wp2_with fail
      go_ret2
      exact ⟨rfl, hb9.out⟩
end Go.Proofs.YtgogackkeodciaaGreat.W
