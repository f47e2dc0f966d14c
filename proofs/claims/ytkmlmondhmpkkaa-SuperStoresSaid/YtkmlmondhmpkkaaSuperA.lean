/- Results that are variables of many cells; nothing of the program. The walks of package super's numbers. The walk of package super's lay. The walk of package super's read. Arrays of bytes that are held against one another. The walks of package super's Encode and Decode. -/
import Derived.WalkKit
import Derived.Deep.MidRow
import Derived.Test.YtkmlmondhmpkkaaFlat
import Derived.Test.YtkmlmondhmpkkaaProg
import Derived.Test.YtkmlmondhmpkkaaSuperM
import Derived.Test.YtkmlmondhmpkkaaSeal
import Derived.Test.YtkmlmondhmpkkaaCrc
import Derived.Test.YtkmlmondhmpkkaaCrash
import Derived.Test.YtkmlmondhmpkkaaSuperN
import Derived.Deep.LoopGhost
import Derived.Deep.RegionHeld3
import Derived.ChangeKeysEq
import Derived.Test.YtkmlmondhmpkkaaQuietB
section
namespace Go.Proofs.Ytkmlmondhmpkkaa.Z
open Go.RowKit
open Go.Proofs.Ytkmlmondhmpkkaa.D
set_option linter.unusedVariables false

theorem result_cell {P : Program} {fn : Func} {tmps : Array Value} {w : World} {r b : Nat} {t : TypeId} {cs : List Value} {d : TypeDesc} (hr : fn.results = #[.cell r t]) (hp : tmps.getD r undef = .pointer (some ⟨b, 0, none⟩))
    (hc : w.rangeAt b 0 cs) (hu : P.underlying t = some d) (hd : d.isRow = true) (hi : (P.info? t).map (·.size) = some cs.length) : (results fn tmps).run P w = .ok (.agg cs.toArray) w := by
  have h1 := run_loadVar_mid (P := P) w b 0 t cs d hc hu hd hi
  have hp' : tmps[r]?.getD undef = .pointer (some ⟨b, 0, none⟩) := by simpa using hp
  simp [results, hr, hp', asAddr, h1]
theorem result_cell_tmp {P : Program} {fn : Func} {tmps : Array Value} {w : World} {r b s : Nat} {t : TypeId} {v : Value} {cs : List Value} {d : TypeDesc} (hr : fn.results = #[.cell r t, .tmp s]) (hp : tmps.getD r undef = .pointer (some ⟨b, 0, none⟩)) (hv : tmps.getD s undef = v)
    (hc : w.rangeAt b 0 cs) (hu : P.underlying t = some d) (hd : d.isRow = true) (hi : (P.info? t).map (·.size) = some cs.length) : (results fn tmps).run P w = .ok (.tuple #[.agg cs.toArray, v]) w := by
  have h1 := run_loadVar_mid (P := P) w b 0 t cs d hc hu hd hi
  have hp' : tmps[r]?.getD undef = .pointer (some ⟨b, 0, none⟩) := by simpa using hp
  have hv' : tmps[s]?.getD undef = v := by simpa using hv
  simp [results, hr, hp', hv', asAddr, h1]
/-- A block's cells all stored anew. -/
theorem whole_all {w : World} {b : Nat} {t : TypeId} {cs vs : List Value} (h : Whole w b t cs) (hl : vs.length = cs.length) : Whole (w.setCells b 0 vs) b t vs := by
  have e := h.store 0 vs (by omega)
  have e2 : splice cs 0 vs = vs := by unfold splice; rw [List.take_zero, List.nil_append, Nat.zero_add, hl, List.drop_length, List.append_nil]
  rw [e2] at e
  exact e
/-- Three blocks of a call's own. -/
theorem three_boxes (w : World) (t1 t2 t3 : TypeId) (x y z : List Value) : ∃ W, W = ((w.alloc (.cells x.toArray t1)).alloc (.cells y.toArray t2)).alloc (.cells z.toArray t3) ∧
    Whole W w.heap.size t1 x ∧ Whole W (w.heap.size + 1) t2 y ∧ Whole W (w.heap.size + 1 + 1) t3 z ∧ Below w.heap.size w W := by
  refine ⟨_, rfl, ((Whole.new w t1 x).alloc _).alloc _, ?_, ?_, (((Below.refl _ _).alloc (Nat.le_refl _) _).alloc (by simp) _).alloc (by simp; omega) _⟩
  · have h := (Whole.new (w.alloc (.cells x.toArray t1)) t2 y).alloc (.cells z.toArray t3)
    simpa using h
  · have h := Whole.new ((w.alloc (.cells x.toArray t1)).alloc (.cells y.toArray t2)) t3 z
    simpa using h
theorem below_store {B : Nat} {a w : World} (h : Below B a w) {c : Nat} (hc : B ≤ c) (hs : B ≤ a.heap.size) (o : Nat) (vs : List Value) : Below B a (w.setCells c o vs) :=
  h.trans (((Kept.refl (fun q => q = c) w).setCells (c := c) (.inl rfl) o vs).below (Nat.le_trans hs h.size) (fun k e => by omega))
end Go.Proofs.Ytkmlmondhmpkkaa.Z
end
section
namespace Go.Proofs.Ytkmlmondhmpkkaa.W
open Go.RowKit
open Go.Proofs.Ytkmlmondhmpkkaa.M Go.Proofs.Ytkmlmondhmpkkaa.D Go.Proofs.Ytkmlmondhmpkkaa.Z
set_option linter.unusedVariables false

theorem sizeU32 : (Try.prog.info? 22).map (·.size) = some 1 := by kernel_rfl
theorem sizeN5 : (Try.prog.info? 84).map (·.size) = some 5 := by kernel_rfl
theorem sizeS5 : (Try.prog.info? 43).map (·.size) = some 5 := by kernel_rfl
abbrev u32s (a b c d e : Int) : List Value := [.int .u32 a, .int .u32 b, .int .u32 c, .int .u32 d, .int .u32 e]
theorem u32s_one (a b c d e : Int) : ∀ v ∈ u32s a b c d e, v.oneCell' = true := by intro v hv; simp at hv; rcases hv with h | h | h | h | h <;> rw [h] <;> rfl

theorem place_any (a b c d e : Int) (w : World) (h0 : 0 ≤ a) (h1 : a ≤ 4294967295) :
    Calls Try.prog 22 #[.agg #[.int .u32 a, .int .u32 b, .int .u32 c, .int .u32 d, .int .u32 e]] w fun x w' => x = .returned (.int .i64 (a % 2)) ∧ Below w.heap.size w w' := by
  go_enter Try.func22, Try.ntmps22
  go_wp2_with fail
  go_ret
  exact ⟨rfl, (Below.refl _ _).alloc (Nat.le_refl _) _⟩
theorem suFixed_any (a : Int) (w : World) (h0 : 0 ≤ a) (h1 : a ≤ 4294967295) :
    Calls Try.prog 52 #[.int .u32 a] w fun e w' => e = .returned (.string (B (fx a 4))) ∧ Below w.heap.size w w' := by
  have hf := Lib.hid (fits_small a 4 (by show a / 4294967296 = 0; omega) (by omega) (by omega))
  go_enter Try.func52, Try.ntmps52
  go_wp2_with fail
  refine (fixed_yes a 4 _ h0 (by omega) hf.out).mono ?_
  rintro e w1 ⟨rfl, hb⟩
  go_wp2_with fail
  go_ret
  exact ⟨rfl, hb⟩
set_option maxHeartbeats 1000000 in
theorem numbersOf_any (a b c d e : Int) (w : World) :
    Calls Try.prog 40 #[.agg #[.int .u32 a, .int .u32 b, .int .u32 c, .int .u32 d, .int .u32 e]] w fun x w' => x = .returned (.agg #[.int .u32 a, .int .u32 b, .int .u32 c, .int .u32 d, .int .u32 e]) ∧ Below w.heap.size w w' := by
  go_enter Try.func40, Try.ntmps40
  go_wp2_with fail
  obtain ⟨W, hW, hX, hR, hN, hB⟩ := three_boxes w 43 84 84 (u32s a b c d e) (u32s 0 0 0 0 0) (u32s a b 0 0 0)
  rw [← hW]
  clear hW
  have hsrc : Hid (∀ j v, ([.int .u32 c, .int .u32 d, .int .u32 e] : List Value)[j]? = some v → W.drew.cell? (Addr.add ⟨w.heap.size, 2, none⟩ j) = some v) := Lib.hid fun j u hu => by
    rw [Addr.add_mid]
    show W.cell? _ = _
    rw [hX.cell, Nat.add_comm]
    exact hu
  have hth : Hid (W.drew.there (w.heap.size + 1 + 1) 2 3) := Lib.hid ((hN.drewN 1).there 2 3 (by simp))
  have h1 : Hid (∀ v ∈ ([.int .u32 c, .int .u32 d, .int .u32 e] : List Value), v.oneCell' = true) := Lib.hid fun v hv => by
    simp at hv; rcases hv with h | h | h <;> rw [h] <;> rfl
  have hN2 : Whole (W.drew.setCells (w.heap.size + 1 + 1) 2 [.int .u32 c, .int .u32 d, .int .u32 e]) (w.heap.size + 1 + 1) 84 (u32s a b c d e) := (hN.drewN 1).store 2 [.int .u32 c, .int .u32 d, .int .u32 e] (by simp)
  have hR2 : Whole (W.drew.setCells (w.heap.size + 1 + 1) 2 [.int .u32 c, .int .u32 d, .int .u32 e]) (w.heap.size + 1) 84 (u32s 0 0 0 0 0) := (hR.drewN 1).far (c := w.heap.size + 1 + 1) (by omega) 2 [.int .u32 c, .int .u32 d, .int .u32 e]
  have hB2 : Below w.heap.size w (W.drew.setCells (w.heap.size + 1 + 1) 2 [.int .u32 c, .int .u32 d, .int .u32 e]) := below_store (drewS hB 1) (c := w.heap.size + 1 + 1) (by omega) (Nat.le_refl _) 2 [.int .u32 c, .int .u32 d, .int .u32 e]
  clear hX hR hN hB
  replace hN2 := Lib.hid hN2
  replace hR2 := Lib.hid hR2
  replace hB2 := Lib.hid hB2
  go_region_law ((refine step_copy_cells (by rfl) _ _ _ _ (by rfl) 22 Try.underlying112 sizeU32 (w.heap.size + 1 + 1) 2 3 3 ⟨w.heap.size, 2, none⟩ 3 3 (by rfl) (by rfl) [.int .u32 c, .int .u32 d, .int .u32 e] (by rfl) hsrc.out hth.out h1.out ?_))
  all_goals
    clear hsrc hth h1
    generalize W.drew.setCells (w.heap.size + 1 + 1) 2 [.int .u32 c, .int .u32 d, .int .u32 e] = W2 at *
    go_wp2_with (with_reducible refine zLoad 84 _ rfl ?_)
    refine Lib.hid ?_
    refine wpList_load_mid rfl 84 _ rfl (w.heap.size + 1 + 1) 0 rfl (u32s a b c d e) _ hN2.out.range Try.underlying84 rfl sizeN5 ?_
    go_wp2_with (with_reducible refine zStore 84 _ _ rfl ?_)
    refine Lib.hid ?_
    refine wpList_store_mid rfl 84 _ _ rfl (w.heap.size + 1) 0 (u32s a b c d e).toArray rfl rfl (hR2.out.there 0 5 (by simp)) sizeN5 (all_oneCell_toArray (u32s_one a b c d e)) ?_
    go_wp2_with fail
    have hfin := whole_all hR2.out (vs := u32s a b c d e) rfl
    exact bodyPost_ret (result_cell Try.results40 rfl hfin.range Try.underlying84 rfl sizeN5) rfl ⟨rfl, below_store hB2.out (by omega) (Nat.le_refl _) 0 _⟩
set_option maxHeartbeats 1000000 in
theorem superOf_any (a b c d e : Int) (w : World) :
    Calls Try.prog 38 #[.agg #[.int .u32 a, .int .u32 b, .int .u32 c, .int .u32 d, .int .u32 e]] w fun x w' => x = .returned (.agg #[.int .u32 a, .int .u32 b, .int .u32 c, .int .u32 d, .int .u32 e]) ∧ Below w.heap.size w w' := by
  go_enter Try.func38, Try.ntmps38
  go_wp2_with fail
  obtain ⟨W, hW, hX, hR, hN, hB⟩ := three_boxes w 84 43 43 (u32s a b c d e) (u32s 0 0 0 0 0) (u32s a b 0 0 0)
  rw [← hW]
  clear hW
  have hsrc : Hid (∀ j v, ([.int .u32 c, .int .u32 d, .int .u32 e] : List Value)[j]? = some v → W.drew.cell? (Addr.add ⟨w.heap.size, 2, none⟩ j) = some v) := Lib.hid fun j u hu => by
    rw [Addr.add_mid]
    show W.cell? _ = _
    rw [hX.cell, Nat.add_comm]
    exact hu
  have hth : Hid (W.drew.there (w.heap.size + 1 + 1) 2 3) := Lib.hid ((hN.drewN 1).there 2 3 (by simp))
  have h1 : Hid (∀ v ∈ ([.int .u32 c, .int .u32 d, .int .u32 e] : List Value), v.oneCell' = true) := Lib.hid fun v hv => by
    simp at hv; rcases hv with h | h | h <;> rw [h] <;> rfl
  have hN2 : Whole (W.drew.setCells (w.heap.size + 1 + 1) 2 [.int .u32 c, .int .u32 d, .int .u32 e]) (w.heap.size + 1 + 1) 43 (u32s a b c d e) := (hN.drewN 1).store 2 [.int .u32 c, .int .u32 d, .int .u32 e] (by simp)
  have hR2 : Whole (W.drew.setCells (w.heap.size + 1 + 1) 2 [.int .u32 c, .int .u32 d, .int .u32 e]) (w.heap.size + 1) 43 (u32s 0 0 0 0 0) := (hR.drewN 1).far (c := w.heap.size + 1 + 1) (by omega) 2 [.int .u32 c, .int .u32 d, .int .u32 e]
  have hB2 : Below w.heap.size w (W.drew.setCells (w.heap.size + 1 + 1) 2 [.int .u32 c, .int .u32 d, .int .u32 e]) := below_store (drewS hB 1) (c := w.heap.size + 1 + 1) (by omega) (Nat.le_refl _) 2 [.int .u32 c, .int .u32 d, .int .u32 e]
  clear hX hR hN hB
  replace hN2 := Lib.hid hN2
  replace hR2 := Lib.hid hR2
  replace hB2 := Lib.hid hB2
  go_region_law ((refine step_copy_cells (by rfl) _ _ _ _ (by rfl) 22 Try.underlying112 sizeU32 (w.heap.size + 1 + 1) 2 3 3 ⟨w.heap.size, 2, none⟩ 3 3 (by rfl) (by rfl) [.int .u32 c, .int .u32 d, .int .u32 e] (by rfl) hsrc.out hth.out h1.out ?_))
  all_goals
    clear hsrc hth h1
    generalize W.drew.setCells (w.heap.size + 1 + 1) 2 [.int .u32 c, .int .u32 d, .int .u32 e] = W2 at *
    go_wp2_with (with_reducible refine zLoad 43 _ rfl ?_)
    refine Lib.hid ?_
    refine wpList_load_mid rfl 43 _ rfl (w.heap.size + 1 + 1) 0 rfl (u32s a b c d e) _ hN2.out.range Try.underlying43 rfl sizeS5 ?_
    go_wp2_with (with_reducible refine zStore 43 _ _ rfl ?_)
    refine Lib.hid ?_
    refine wpList_store_mid rfl 43 _ _ rfl (w.heap.size + 1) 0 (u32s a b c d e).toArray rfl rfl (hR2.out.there 0 5 (by simp)) sizeS5 (all_oneCell_toArray (u32s_one a b c d e)) ?_
    go_wp2_with fail
    have hfin := whole_all hR2.out (vs := u32s a b c d e) rfl
    exact bodyPost_ret (result_cell Try.results38 rfl hfin.range Try.underlying43 rfl sizeS5) rfl ⟨rfl, below_store hB2.out (by omega) (Nat.le_refl _) 0 _⟩
end Go.Proofs.Ytkmlmondhmpkkaa.W
end
section
namespace Go.Proofs.Ytkmlmondhmpkkaa.W
open Go.RowKit
open Go.Proofs.Ytkmlmondhmpkkaa.M Go.Proofs.Ytkmlmondhmpkkaa.D Go.Proofs.Ytkmlmondhmpkkaa.Z
set_option linter.unusedVariables false

theorem lenLaid : Try.prog.arrayLen 87 = 52 := by kernel_rfl
theorem elemLaid : Try.prog.elem 87 = 5 := by kernel_rfl
theorem sizeLaid : (Try.prog.info? 87).map (·.size) = some 52 := by kernel_rfl
theorem laid_from (b p : Nat) (hp : p < 52) (w : World) :
    (Instr.sliceAt 87 (.pointer (some ⟨b, 0, none⟩)) (some (.int .i64 (p : Int))) none none).run Try.prog w = .ok (.slice (some ⟨b, p, none⟩) (52 - p) (52 - p)) w := by
  rw [run_sliceAt_array_l w 87 ⟨b, 0, none⟩ (by rw [lenLaid, elemLaid]; exact Try.underlying87) .i64 (p : Int) (by omega) (by rw [lenLaid]; omega), elemLaid, sizeOf1, lenLaid]
  have hne : ¬ 52 = p := by omega
  simp [slicedAt, Result.andThen, Addr.add_mid, hne]
theorem laid_to (b p : Nat) (hp : p ≤ 52) (w : World) :
    (Instr.sliceAt 87 (.pointer (some ⟨b, 0, none⟩)) none (some (.int .i64 (p : Int))) none).run Try.prog w = .ok (.slice (some ⟨b, 0, none⟩) p 52) w := by
  rw [run_sliceAt_array_h w 87 ⟨b, 0, none⟩ (by rw [lenLaid, elemLaid]; exact Try.underlying87) .i64 (p : Int) (by omega) (by rw [lenLaid]; omega), elemLaid, sizeOf1, lenLaid]
  simp [slicedAt, Result.andThen, Addr.add_mid]
theorem index5 (t : TypeId) (el : TypeId) (ht : Try.prog.underlying t = some (.array 5 el)) (hel : ∀ w, (Go.sizeOf el).run Try.prog w = .ok 1 w) (hag : ∀ w, (isAgg el).run Try.prog w = .ok false w) (a b c d e : Nat) (k : Nat) (hk : k < 5) (w : World) :
    (Instr.index t (.agg #[.int .u32 a, .int .u32 b, .int .u32 c, .int .u32 d, .int .u32 e]) (.int .i64 (k : Int))).run Try.prog w = .ok (.int .u32 (nu a b c d e k : Nat)) w := by
  match k, hk with
  | 0, _ => simp [Instr.index, run_underlying ht, asIntOf, hel, hag, nu, go_sem]
  | 1, _ => simp [Instr.index, run_underlying ht, asIntOf, hel, hag, nu, go_sem]
  | 2, _ => simp [Instr.index, run_underlying ht, asIntOf, hel, hag, nu, go_sem]
  | 3, _ => simp [Instr.index, run_underlying ht, asIntOf, hel, hag, nu, go_sem]
  | 4, _ => simp [Instr.index, run_underlying ht, asIntOf, hel, hag, nu, go_sem]
theorem sizeU32' : ∀ w, (Go.sizeOf 22).run Try.prog w = .ok 1 w := fun w => by kernel_rfl
theorem aggU32 : ∀ w, (isAgg 22).run Try.prog w = .ok false w := fun w => by kernel_rfl
set_option maxRecDepth 100000 in
set_option maxHeartbeats 4000000 in
theorem lay_any (a b c d e : Nat) (w : World) (ha : a < 4294967296) (hb : b < 4294967296) (hc : c < 4294967296) (hd : d < 4294967296) (he : e < 4294967296) :
    Calls Try.prog 39 #[.agg #[.int .u32 a, .int .u32 b, .int .u32 c, .int .u32 d, .int .u32 e]] w fun x w' => x = .returned (.agg (bytesV (dataU a b c d e)).toArray) ∧ Below w.heap.size w w' := by
  have hnl := fun k => nu_lt ha hb hc hd he k
  have hlen := preU_len (nu a b c d e)
  have hhead := preU_head a b c d e
  have hix := index5 84 22 Try.underlying84 sizeU32' aggU32 a b c d e
  have hdat := padV_data a b c d e
  have hdl : Hid ((bytesV (dataU a b c d e)).length = 52) := Lib.hid (by rw [bytesV_len, dataU_len])
  have hd1 : Hid (∀ v ∈ bytesV (dataU a b c d e), v.oneCell' = true) := Lib.hid (bytesV_one _)
  obtain ⟨D, hD⟩ : ∃ D, Hid (bytesV (dataU a b c d e) = D) := ⟨_, Lib.hid rfl⟩
  rw [hD.out] at hdat hdl hd1 ⊢
  obtain ⟨f, hf⟩ : ∃ f, Hid (nu a b c d e = f) := ⟨_, Lib.hid rfl⟩
  rw [hf.out] at hnl hlen hhead hix
  obtain ⟨W, hW, hX, hR, hN, hB⟩ := three_boxes w 84 87 87 (u32s a b c d e) (List.replicate 52 (.int .u8 0)) (List.replicate 52 (.int .u8 0))
  rw [← padV_zero] at hN
  subst hW
  replace hnl := Lib.hid hnl
  replace hlen := Lib.hid hlen
  replace hhead := Lib.hid hhead
  replace hix := Lib.hid hix
  replace hdat := Lib.hid hdat
  replace hX := Lib.hid hX
  replace hR := Lib.hid hR
  replace hN := Lib.hid hN
  replace hB := Lib.hid hB
  go_enter Try.func39, Try.ntmps39
  go_wp2_with (with_reducible refine zCopy _ _ _ _ rfl ?_)
  refine Lib.hid ?_
  refine wpList_copy_text rfl _ _ rfl (w.heap.size + 1 + 1) 0 52 52 rfl ⟨#[0x57, 0x4c]⟩ rfl (by decide) 87 _ hN.out (by rw [padV_len _ (by simp)]; decide) ?_
  intro W2 hN2 hk2 hsz2
  replace hk2 := hk2 (fun q => q = w.heap.size + 1 + 1) _ (.inl rfl) (Kept.refl _ _)
  have hX2 := Lib.hid (hX.out.of_kept hk2 (by omega))
  have hR2 := Lib.hid (hR.out.of_kept hk2 (by omega))
  have hB2 := Lib.hid (hB.out.trans (hk2.below hB.out.size (fun k e => by omega)))
  have hN3 : Hid (Whole W2 (w.heap.size + 1 + 1) 87 (padV (preU f 0))) := Lib.hid (by
    have e := padV_more [] [0x57, 0x4c] (by simp)
    rw [List.nil_append] at e
    exact e ▸ hN2)
  clear hX hR hN hB hN2 hk2 hsz2
  go_wp2_with (with_reducible refine zLoad 84 _ rfl ?_)
  refine Lib.hid ?_
  refine wpList_load_mid rfl 84 _ rfl w.heap.size 0 rfl (u32s a b c d e) _ hX2.out.range Try.underlying84 rfl sizeN5 ?_
  go_wp2_with fail
  clear hX2
  go_loopg [4, 11] 5 (fun ga p i wr => ∃ k : Nat, k ≤ 5 ∧ 5 ≤ k + ga ∧ p = .int .i64 ((2 + 4 * k : Nat) : Int) ∧ i = .int .i64 k ∧ Hid (Whole wr (w.heap.size + 1 + 1) 87 (padV (preU f k)) ∧ Whole wr (w.heap.size + 1) 87 (List.replicate 52 (.int .u8 0)) ∧ Below w.heap.size w wr))
  case atStart => exact ⟨0, by omega, by omega, rfl, rfl, Lib.hid ⟨hN3.out, hR2.out, hB2.out⟩⟩
  case round =>
    clear hN3 hR2 hB2
    obtain ⟨k, hk, hg, rfl, rfl, hrow⟩ := hrel
    by_cases hlt : k < 5
    · obtain ⟨p, hp⟩ : ∃ p : Nat, Hid (2 + 4 * k = p) := ⟨_, Lib.hid rfl⟩
      have hp22 : p ≤ 18 := by have := hp.out; omega
      have hi := hix.out k hlt
      obtain ⟨v, hv⟩ : ∃ v : Nat, Hid (f k = v) := ⟨_, Lib.hid rfl⟩
      have hvl : v < 4294967296 := by rw [← hv.out]; exact hnl.out k
      rw [hv.out] at hi
      rw [hp.out]
      have hfx := Lib.hid (fun W => suFixed_any (v : Int) W (by omega) (by omega))
      have hfz : (B (fx (v : Int) 4)).size = 4 := fx_size _ _
      obtain ⟨F, hF⟩ : ∃ F, Hid (B (fx (v : Int) 4) = F) := ⟨_, Lib.hid rfl⟩
      rw [hF.out] at hfx hfz
      have hsl := laid_from (w.heap.size + 1 + 1) p (by omega)
      have hm : Hid (Nat.min F.size (52 - p) = 4) := Lib.hid (by rw [hfz]; exact Nat.min_eq_left (by omega))
      have hth : Hid (wr.there (w.heap.size + 1 + 1) p 4) := Lib.hid (hrow.out.1.there p 4 (by rw [padV_len _ (by rw [hlen.out]; omega)]; omega))
      have hF4 : Hid (F.data.toList.take 4 = F.data.toList) := Lib.hid (List.take_of_length_le (by simp; omega))
      have hsp : Hid (splice (padV (preU f k)) p (bytesV F.data.toList) = padV (preU f (k + 1))) := Lib.hid (by
        have e := padV_more (preU f k) (fx (f k : Int) 4) (by rw [hlen.out, fx_length]; omega)
        rw [hlen.out, hp.out, hv.out] at e
        rw [← hF.out, B_data, e]
        show _ = padV (preU f k ++ fx (f k : Int) 4)
        rw [hv.out])
      have hps : IntKind.i64.wrap ((p : Int) + 4) = (p : Int) + 4 := IntWalk.i64_in _ (by omega)
      have hp4 : Hid (((2 + 4 * (k + 1) : Nat) : Int) = (p : Int) + 4) := Lib.hid (by have := hp.out; omega)
      clear hp
      go_wp2_with fail
      go_region_held3 (fun w' => True) (trivial) (first
        | (go_at_call 52; (with_reducible refine (hfx.out _).mono ?_); rintro e w5 ⟨rfl, hb5⟩; have hb5 : Below wr.heap.size wr w5 := ⟨hb5.os, hb5.tape, hb5.output, hb5.size, hb5.block⟩; have hN5 := Lib.hid (hrow.out.1.below hb5 hrow.out.1.lt); have hth5 : Hid (w5.there (w.heap.size + 1 + 1) p 4) := Lib.hid (hN5.out.there p 4 (by rw [padV_len _ (by rw [hlen.out]; omega)]; omega)))
        | (refine step_copy_str (by rfl) _ _ _ _ (by rfl) 5 Try.underlying39 sizeU8' (w.heap.size + 1 + 1) p (52 - p) (52 - p) (by rfl) F (by rfl) 4 hm.out hth5.out ?_))
      rw [hF4.out]
      have hFl : F.data.toList.length = 4 := by simpa using hfz
      have hN6 : Hid (Whole (w5.setCells (w.heap.size + 1 + 1) p (bytesV F.data.toList)) (w.heap.size + 1 + 1) 87 (padV (preU f (k + 1)))) := Lib.hid (by
        have h := hN5.out.store p (bytesV F.data.toList) (by rw [bytesV_len, hFl, padV_len _ (by rw [hlen.out]; omega)]; omega)
        rw [hsp.out] at h
        exact h)
      have hR6 := Lib.hid ((hrow.out.2.1.below hb5 hrow.out.2.1.lt).far (c := w.heap.size + 1 + 1) (by omega) p (bytesV F.data.toList))
      have hB6 := Lib.hid (below_store (grew hrow.out.2.2 hb5) (c := w.heap.size + 1 + 1) (by omega) (Nat.le_refl _) p (bytesV F.data.toList))
      clear hN5 hth5 hb5
      generalize w5.setCells (w.heap.size + 1 + 1) p (bytesV F.data.toList) = W6 at *
      go_wp2_with fail
      go_roundg (gk - 1)
      case measure => omega
      case rel => exact ⟨k + 1, by omega, by omega, by rw [hp4.out], by go_num, Lib.hid ⟨hN6.out, hR6.out, hB6.out⟩⟩
    · obtain rfl : k = 5 := by omega
      rw [show ((2 + 4 * 5 : Nat) : Int) = 22 from rfl, show ((5 : Nat) : Int) = 5 from rfl]
      have hhl := headU_len a b c d e
      have hH : (B (headU a b c d e)).size = 22 := by rw [B_size, hhl]
      have hcr := fun W => crc_any 0 (B (headU a b c d e)) W (by omega) (by omega)
      rw [B_data] at hcr
      have hcl := crc_lt 0 (headU a b c d e)
      have hcv : (convert 39 9 (.slice (some ⟨w.heap.size + 1 + 1, 0, none⟩) 22 52)).run Try.prog wr = .ok (.string (B (headU a b c d e))) wr := by
        have h := run_convert_bytes_back (P := Try.prog) wr 39 9 5 ⟨w.heap.size + 1 + 1, 0, none⟩ 52 (headU a b c d e) Try.underlying39 Try.underlying5 Try.underlying9 (fun j hj => by
          rw [show (⟨w.heap.size + 1 + 1, 0, none⟩ : Addr).add j = ⟨w.heap.size + 1 + 1, j, none⟩ from by simp [Addr.add]; try omega]
          rw [hrow.out.1.cell, hhead.out]
          exact padV_row _ _ hj)
        rw [hhl] at h
        exact h
      have hto : ∀ W : World, (Instr.sliceAt 87 (.pointer (some ⟨w.heap.size + 1 + 1, 0, none⟩)) none (some (.int .i64 22)) none).run Try.prog W = .ok (.slice (some ⟨w.heap.size + 1 + 1, 0, none⟩) 22 52) W := fun W => laid_to (w.heap.size + 1 + 1) 22 (by omega) W
      have hsl : ∀ W : World, (Instr.sliceAt 87 (.pointer (some ⟨w.heap.size + 1 + 1, 0, none⟩)) (some (.int .i64 22)) none none).run Try.prog W = .ok (.slice (some ⟨w.heap.size + 1 + 1, 22, none⟩) 30 30) W := fun W => laid_from (w.heap.size + 1 + 1) 22 (by omega) W
      obtain ⟨C, hC⟩ : ∃ C : Nat, Hid (crc 0 (headU a b c d e) = C) := ⟨_, Lib.hid rfl⟩
      rw [hC.out] at hcl hcr hdat
      have hfx := Lib.hid (fun W => suFixed_any (C : Int) W (by omega) (by omega))
      have hfz : (B (fx (C : Int) 4)).size = 4 := fx_size _ _
      have hsp : Hid (splice (padV (preU f 5)) 22 (bytesV (fx (C : Int) 4)) = D) := Lib.hid (by
        have e := padV_more (headU a b c d e) (fx (C : Int) 4) (by rw [hhl, fx_length]; omega)
        rw [hhl, hdat.out] at e
        rw [hhead.out, e])
      obtain ⟨F, hF⟩ : ∃ F, Hid (B (fx (C : Int) 4) = F) := ⟨_, Lib.hid rfl⟩
      have hFd : Hid (fx (C : Int) 4 = F.data.toList) := Lib.hid (by rw [← hF.out, B_data])
      rw [hF.out] at hfx hfz
      rw [hFd.out] at hsp
      have hFl : F.data.toList.length = 4 := by simpa using hfz
      have hm : Hid (Nat.min F.size 30 = 4) := Lib.hid (by rw [hfz]; rfl)
      have hF4 : Hid (F.data.toList.take 4 = F.data.toList) := Lib.hid (List.take_of_length_le (by omega))
      obtain ⟨H, hHH⟩ : ∃ H, Hid (B (headU a b c d e) = H) := ⟨_, Lib.hid rfl⟩
      rw [hHH.out] at hcv hcr hH
      replace hcr : ∀ W : World, Calls Try.prog 53 #[.int .u32 0, .string H] W fun e w' => e = .returned (.int .u32 (C : Nat)) ∧ W = w' := fun W => hcr W
      have hN5z : Hid ((padV (preU f 5)).length = 52) := Lib.hid (padV_len _ (by rw [hlen.out]; omega))
      replace hcr := Lib.hid hcr
      clear hhl hdat hix hnl hhead hlen
      go_wp2_with fail
      refine (hcr.out _).mono ?_
      rintro e w4 ⟨rfl, rfl⟩
      go_wp2_with fail
      go_region_held3 (fun w' => True) (trivial) (first
        | (go_at_call 52; (with_reducible refine (hfx.out _).mono ?_); rintro e w5 ⟨rfl, hb5⟩; have hb5 : Below wr.heap.size wr w5 := ⟨hb5.os, hb5.tape, hb5.output, hb5.size, hb5.block⟩; have hN5 := Lib.hid (hrow.out.1.below hb5 hrow.out.1.lt); have hth5 : Hid (w5.there (w.heap.size + 1 + 1) 22 4) := Lib.hid (hN5.out.there 22 4 (by rw [hN5z.out]; omega)))
        | (refine step_copy_str (by rfl) _ _ _ _ (by rfl) 5 Try.underlying39 sizeU8' (w.heap.size + 1 + 1) 22 30 30 (by rfl) F (by rfl) 4 hm.out hth5.out ?_))
      rw [hF4.out]
      have hN6 : Hid (Whole (w5.setCells (w.heap.size + 1 + 1) 22 (bytesV F.data.toList)) (w.heap.size + 1 + 1) 87 D) := Lib.hid (by
        have h := hN5.out.store 22 (bytesV F.data.toList) (by rw [bytesV_len, hFl, hN5z.out]; omega)
        rw [hsp.out] at h
        exact h)
      have hR6 := Lib.hid ((hrow.out.2.1.below hb5 hrow.out.2.1.lt).far (c := w.heap.size + 1 + 1) (by omega) 22 (bytesV F.data.toList))
      have hB6 := Lib.hid (below_store (grew hrow.out.2.2 hb5) (c := w.heap.size + 1 + 1) (by omega) (Nat.le_refl _) 22 (bytesV F.data.toList))
      clear hN5 hth5 hb5 hcv hsl hto hcr
      generalize w5.setCells (w.heap.size + 1 + 1) 22 (bytesV F.data.toList) = W6 at *
      go_wp2_with (with_reducible refine zLoad 87 _ rfl ?_)
      refine Lib.hid ?_
      refine wpList_load_mid rfl 87 _ rfl (w.heap.size + 1 + 1) 0 rfl D _ hN6.out.range Try.underlying87 rfl (by rw [hdl.out]; exact sizeLaid) ?_
      go_wp2_with (with_reducible refine zStore 87 _ _ rfl ?_)
      refine Lib.hid ?_
      refine wpList_store_mid rfl 87 _ _ rfl (w.heap.size + 1) 0 D.toArray rfl rfl (hR6.out.there 0 D.toArray.size (by simp [hdl.out])) (by rw [List.size_toArray, hdl.out]; exact sizeLaid) (all_oneCell_toArray hd1.out) ?_
      go_wp2_with fail
      have hfin := whole_all hR6.out (vs := D) (by rw [hdl.out]; rfl)
      exact bodyPost_ret (result_cell Try.results39 rfl hfin.range Try.underlying87 rfl (by rw [hdl.out]; exact sizeLaid)) rfl ⟨rfl, below_store hB6.out (by omega) (Nat.le_refl _) 0 _⟩
end Go.Proofs.Ytkmlmondhmpkkaa.W
end
section
namespace Go.Proofs.Ytkmlmondhmpkkaa.W
open Go.RowKit
open Go.Proofs.Ytkmlmondhmpkkaa.M Go.Proofs.Ytkmlmondhmpkkaa.D Go.Proofs.Ytkmlmondhmpkkaa.Z
set_option linter.unusedVariables false

set_option maxHeartbeats 4000000 in
theorem suRead_any (x : ByteArray) (w : World) (hx : x.size = 52) :
    Calls Try.prog 37 #[.string x] w fun e w' => e = .returned (.agg #[.int .u32 (numU x 0 : Nat), .int .u32 (numU x 1 : Nat), .int .u32 (numU x 2 : Nat), .int .u32 (numU x 3 : Nat), .int .u32 (numU x 4 : Nat)]) ∧ Below w.heap.size w w' := by
  have hR : Whole ((w.alloc (.cells #[.int .u32 0, .int .u32 0, .int .u32 0, .int .u32 0, .int .u32 0] 84)).alloc (.cells #[.int .u32 0, .int .u32 0, .int .u32 0, .int .u32 0, .int .u32 0] 84)) w.heap.size 84 (u32s 0 0 0 0 0) := (Whole.new w 84 (u32s 0 0 0 0 0)).alloc _
  have hN : Whole ((w.alloc (.cells #[.int .u32 0, .int .u32 0, .int .u32 0, .int .u32 0, .int .u32 0] 84)).alloc (.cells #[.int .u32 0, .int .u32 0, .int .u32 0, .int .u32 0, .int .u32 0] 84)) (w.heap.size + 1) 84 (u32s 0 0 0 0 0) := by
    have h := Whole.new (w.alloc (.cells #[.int .u32 0, .int .u32 0, .int .u32 0, .int .u32 0, .int .u32 0] 84)) 84 (u32s 0 0 0 0 0)
    simpa using h
  have hB : Below w.heap.size w ((w.alloc (.cells #[.int .u32 0, .int .u32 0, .int .u32 0, .int .u32 0, .int .u32 0] 84)).alloc (.cells #[.int .u32 0, .int .u32 0, .int .u32 0, .int .u32 0, .int .u32 0] 84)) := grewAlloc (grewAlloc (Below.refl _ w) _) _
  have hfin : Hid (toldV x 5 = u32s (numU x 0 : Nat) (numU x 1 : Nat) (numU x 2 : Nat) (numU x 3 : Nat) (numU x 4 : Nat)) := Lib.hid rfl
  have hnl := Lib.hid (numU_lt x)
  have hnd : Hid (∀ i, M.rd (x.extract (2 + 4 * i) (6 + 4 * i)).data.toList = numU x i) := Lib.hid fun i => rfl
  obtain ⟨f, hf⟩ : ∃ f, Hid (numU x = f) := ⟨_, Lib.hid rfl⟩
  rw [hf.out] at hfin hnl hnd ⊢
  obtain ⟨a, e0⟩ : ∃ a, Hid (f 0 = a) := ⟨_, Lib.hid rfl⟩
  obtain ⟨b, e1⟩ : ∃ a, Hid (f 1 = a) := ⟨_, Lib.hid rfl⟩
  obtain ⟨c, e2⟩ : ∃ a, Hid (f 2 = a) := ⟨_, Lib.hid rfl⟩
  obtain ⟨d, e3⟩ : ∃ a, Hid (f 3 = a) := ⟨_, Lib.hid rfl⟩
  obtain ⟨e, e4⟩ : ∃ a, Hid (f 4 = a) := ⟨_, Lib.hid rfl⟩
  rw [e0.out, e1.out, e2.out, e3.out, e4.out] at hfin ⊢
  have hset := Lib.hid (toldV_set x)
  rw [hf.out] at hset
  have hat := Lib.hid (toldV_at x)
  replace hR := Lib.hid hR
  replace hN := Lib.hid hN
  replace hB := Lib.hid hB
  go_enter Try.func37, Try.ntmps37
  go_wp2_with fail
  go_loopg [8] 5 (fun ga i wr => ∃ k : Nat, k ≤ 5 ∧ 5 ≤ k + ga ∧ i = .int .i64 k ∧ Hid (Whole wr (w.heap.size + 1) 84 (toldV x k) ∧ Whole wr w.heap.size 84 (u32s 0 0 0 0 0) ∧ Below w.heap.size w wr))
  case atStart => exact ⟨0, by omega, by omega, rfl, Lib.hid ⟨hN.out, hR.out, hB.out⟩⟩
  case round =>
    clear hN hR hB
    obtain ⟨k, hk, hg, rfl, hrow⟩ := hrel
    by_cases hlt : k < 5
    · have hc : wr.cell? ⟨w.heap.size + 1, k, none⟩ = some (.int .u32 0) := (hrow.out.1.cell k).trans (hat.out k hlt)
      have hfr := hrow.out.1.frozen k
      have hnl5 := hnl.out k
      have hnd5 := Lib.hid (hnd.out k)
      obtain ⟨v, hv⟩ : ∃ v : Nat, Hid (f k = v) := ⟨_, Lib.hid rfl⟩
      rw [hv.out] at hnl5 hnd5
      have hez : (x.extract (2 + 4 * k) (6 + 4 * k)).size = 4 := by simp; omega
      have hst : Hid (Whole (wr.setCell ⟨w.heap.size + 1, k, none⟩ (.int .u32 (v : Nat))) (w.heap.size + 1) 84 (toldV x (k + 1))) := Lib.hid (by
        have h := hrow.out.1.store k [.int .u32 (v : Nat)] (by rw [toldV_len]; simp; omega)
        rw [splice_1 _ _ _ (by rw [toldV_len]; exact hlt)] at h
        have e := hset.out k
        rw [hv.out] at e
        rw [e] at h
        exact h)
      have hR2 : Hid (Whole (wr.setCell ⟨w.heap.size + 1, k, none⟩ (.int .u32 (v : Nat))) w.heap.size 84 (u32s 0 0 0 0 0)) := Lib.hid (hrow.out.2.1.far (c := w.heap.size + 1) (by omega) k [.int .u32 (v : Nat)])
      have hB2 : Hid (Below w.heap.size w (wr.setCell ⟨w.heap.size + 1, k, none⟩ (.int .u32 (v : Nat)))) := Lib.hid (below_store hrow.out.2.2 (c := w.heap.size + 1) (by omega) (Nat.le_refl _) k [.int .u32 (v : Nat)])
      go_wp2_with fail
      rw [show 2 + k * 4 + 4 = 6 + 4 * k from by omega, show 2 + k * 4 = 2 + 4 * k from by omega]
      refine (read_any _ _ (by omega) (by omega)).mono ?_
      rintro ee w5 ⟨rfl, rfl⟩
      rw [hnd5.out]
      go_wp2_with fail
      go_roundg (gk - 1)
      case measure => omega
      case rel => exact ⟨k + 1, by omega, by omega, by go_num, Lib.hid ⟨hst.out, hR2.out, hB2.out⟩⟩
    · obtain rfl : k = 5 := by omega
      rw [hfin.out] at hrow
      rw [show ((5 : Nat) : Int) = 5 from rfl]
      clear hat hset hnd hnl hfin
      go_wp2_with (with_reducible refine zLoad 84 _ rfl ?_)
      refine Lib.hid ?_
      refine wpList_load_mid rfl 84 _ rfl (w.heap.size + 1) 0 rfl (u32s a b c d e) _ hrow.out.1.range Try.underlying84 rfl sizeN5 ?_
      go_wp2_with (with_reducible refine zStore 84 _ _ rfl ?_)
      refine Lib.hid ?_
      refine wpList_store_mid rfl 84 _ _ rfl w.heap.size 0 (u32s a b c d e).toArray rfl rfl (hrow.out.2.1.there 0 5 (by simp)) sizeN5 (all_oneCell_toArray (u32s_one a b c d e)) ?_
      go_wp2_with fail
      have hend := whole_all hrow.out.2.1 (vs := u32s a b c d e) rfl
      exact bodyPost_ret (result_cell Try.results37 rfl hend.range Try.underlying84 rfl sizeN5) rfl ⟨rfl, below_store hrow.out.2.2 (Nat.le_refl _) (Nat.le_refl _) 0 _⟩
end Go.Proofs.Ytkmlmondhmpkkaa.W
end
section
namespace Go.Proofs.Ytkmlmondhmpkkaa.D
open Go.RowKit
set_option linter.unusedVariables false

theorem aggU8 : ∀ w, (isAgg 5).run Try.prog w = .ok false w := fun w => by kernel_rfl
theorem cellsU8' : Try.prog.cellsOf 5 = 1 := by kernel_rfl
theorem info_u8 : ∃ i, Try.prog.info? 5 = some i := by
  obtain ⟨i, hi, _⟩ := Option.map_eq_some_iff.1 (show (Try.prog.info? 5).map (·.size) = some 1 from by kernel_rfl)
  exact ⟨i, hi⟩
theorem eq_items (d : Nat) (l m : List UInt8) (w : World) : ∀ is : List Nat, (∀ i ∈ is, i < l.length ∧ i < m.length) →
    (Op.eqItems (d + 1) 5 1 (bytesV l).toArray (bytesV m).toArray is).run Try.prog w = .ok (decide (∀ i ∈ is, l[i]? = m[i]?)) w
  | [], _ => by simp [Op.eqItems]
  | i :: is, h => by
    obtain ⟨h1, h2⟩ := h i (by simp)
    have ih := eq_items d l m w is (fun j hj => h j (by simp [hj]))
    have p1 : (part 5 (bytesV l).toArray (i * 1)).run Try.prog w = .ok (u8v l[i]) w := by
      simp [part, bytesV, h1]
    have p2 : (part 5 (bytesV m).toArray (i * 1)).run Try.prog w = .ok (u8v m[i]) w := by
      simp [part, bytesV, h2]
    have p3 : (Op.equalIn (d + 1) 5 (u8v l[i]) (u8v m[i])).run Try.prog w = .ok (((l[i].toNat : Int)) == (m[i].toNat : Int)) w := run_equalIn_int w d 5 .u8 .u8 _ _ Try.underlying5
    simp only [Op.eqItems, Sem.run_bind, p1, p2, p3, Result.andThen_ok]
    by_cases e : l[i] = m[i]
    · have e2 : l[i]? = m[i]? := by rw [List.getElem?_eq_getElem h1, List.getElem?_eq_getElem h2, e]
      rw [show ((l[i].toNat : Int) == (m[i].toNat : Int)) = true from by rw [e]; simp]
      simp only [Bool.not_true, Bool.false_eq_true, if_false, ih]
      exact congrArg (fun b => Result.ok b w) (by rw [decide_eq_decide]; simp [e2])
    · have e3 : ((l[i].toNat : Int) == (m[i].toNat : Int)) = false := by
        rw [beq_eq_false_iff_ne]
        intro h
        exact e (UInt8.toNat_inj.1 (Int.ofNat.inj h))
      rw [e3]
      simp only [Bool.not_false, if_true, Sem.run_pure]
      refine congrArg (fun b => Result.ok b w) (Eq.symm ?_)
      rw [decide_eq_false_iff_not]
      intro h
      have := h i (by simp)
      rw [List.getElem?_eq_getElem h1, List.getElem?_eq_getElem h2] at this
      exact e (Option.some.inj this)
/-- Two arrays of n bytes. -/
theorem equal_bytes (t : TypeId) (n : Nat) (ht : Try.prog.underlying t = some (.array n 5)) (l m : List UInt8) (hl : l.length = n) (hm : m.length = n) (w : World) :
    (Op.equalIn 10000 t (.agg (bytesV l).toArray) (.agg (bytesV m).toArray)).run Try.prog w = .ok (decide (l = m)) w := by
  obtain ⟨i, hi⟩ := info_u8
  rw [run_equalIn_array w 9999 _ _ ht hi, cellsU8', eq_items 9998 l m w (List.range n) (fun j hj => by simp at hj; omega)]
  refine congrArg (fun b => Result.ok b w) ?_
  rw [decide_eq_decide]
  constructor
  · intro h
    apply List.ext_getElem?
    intro j
    by_cases hj : j < n
    · exact h j (by simpa using hj)
    · rw [List.getElem?_eq_none (by omega), List.getElem?_eq_none (by omega)]
  · rintro rfl j _; rfl
end Go.Proofs.Ytkmlmondhmpkkaa.D
end
section
namespace Go.Proofs.Ytkmlmondhmpkkaa.W
open Go.RowKit Go.Sort
open Go.Proofs.Ytkmlmondhmpkkaa.M Go.Proofs.Ytkmlmondhmpkkaa.D Go.Proofs.Ytkmlmondhmpkkaa.Z
set_option linter.unusedVariables false

set_option maxRecDepth 100000 in
set_option maxHeartbeats 4000000 in
theorem suEncode_any (a b c d e : Nat) (w : World) (ha : a < 4294967296) (hb : b < 4294967296) (hc : c < 4294967296) (hd : d < 4294967296) (he : e < 4294967296) :
    Calls Try.prog 20 #[.agg #[.int .u32 a, .int .u32 b, .int .u32 c, .int .u32 d, .int .u32 e]] w fun x w' => x = .returned (.string (B (superU a b c d e))) ∧ Below w.heap.size w w' := by
  have hn := Lib.hid (fun W => numbersOf_any (a : Int) b c d e W)
  have hl := fun W => lay_any a b c d e W ha hb hc hd he
  have hs := fun W => seal_yes a 1 (B (dataU a b c d e)) W ha (by omega) (by omega) (by rw [B_size, dataU_len])
  rw [B_data] at hs
  have hdl := dataU_len a b c d e
  unfold superU
  obtain ⟨D, hD⟩ : ∃ D, Hid (dataU a b c d e = D) := ⟨_, Lib.hid rfl⟩
  rw [hD.out] at hl hs hdl ⊢
  obtain ⟨S, hS⟩ : ∃ S, Hid (B (sealL a 1 D) = S) := ⟨_, Lib.hid rfl⟩
  rw [hS.out] at hs ⊢
  obtain ⟨T, hT⟩ : ∃ T, Hid (B D = T) := ⟨_, Lib.hid rfl⟩
  rw [hT.out] at hs
  have hvl : Hid ((bytesV D).length = 52) := Lib.hid (by rw [bytesV_len, hdl])
  replace hl := Lib.hid hl
  replace hs : ∀ W : World, Calls Try.prog 12 #[.int .u32 a, .int .i64 1, .string T] W fun e w' => e = .returned (.tuple #[.string S, .int .i64 0]) ∧ Below W.heap.size W w' := fun W => hs W
  replace hs := Lib.hid hs
  replace hdl := Lib.hid hdl
  go_enter Try.func20, Try.ntmps20
  go_wp2_with fail
  have hX := Whole.new w 43 (u32s a b c d e)
  have hB := (Below.refl w.heap.size w).alloc (Nat.le_refl _) (.cells (u32s a b c d e).toArray 43)
  refine (hn.out _).mono ?_
  rintro ee w1 ⟨rfl, hb1⟩
  replace hX := hX.below hb1 hX.lt
  replace hB := grew hB hb1
  clear hb1
  go_wp2_with fail
  refine (hl.out _).mono ?_
  rintro ee w2 ⟨rfl, hb2⟩
  replace hX := hX.below hb2 hX.lt
  replace hB := grew hB hb2
  clear hb2
  go_wp2_with (with_reducible refine zStore 87 _ _ rfl ?_)
  refine Lib.hid ?_
  refine wpList_fresh rfl 87 _ _ rfl w2.heap.size rfl (bytesV D) rfl w2 _ rfl rfl (by rw [hvl.out]; rfl) (by rw [hvl.out]; exact sizeLaid) (bytesV_one D) ?_
  intro w3 hN hb3 hsz3
  replace hX := hX.below hb3 hX.lt
  replace hB := grew hB hb3
  clear hb3 hsz3
  go_wp2_with fail
  simp only [Act.put]
  have g0 : ∀ dd os, (grow (redrawn w3 dd) os).cell? ⟨w.heap.size, 0, none⟩ = some (.int .u32 a) := fun dd os => (hX.below (below_regrown w3 dd os) hX.lt).cell 0
  have hcv : ∀ dd os, (convert 39 9 (.slice (some ⟨w2.heap.size, 0, none⟩) 52 52)).run Try.prog (grow (redrawn w3 dd) os) = .ok (.string T) (grow (redrawn w3 dd) os) := fun dd os => by
    have h := (rowOf (hN.below (below_regrown w3 dd os) hN.lt)).back (P := Try.prog) 39 9 5 52 52 hdl.out.symm Try.underlying39 Try.underlying5 Try.underlying9
    rw [hT.out] at h
    exact h
  have cs := Lib.hid (regrown_any hs.out w3)
  clear hX hN
  refine wp_region_quiet_below (by kernel_rfl) (by kernel_rfl) ?_
  repeat (go_big_quiet_step (exact cs.out _ _))
  refine wpQuiet_nil ?_
  intro _ hw'
  obtain ⟨⟨dq, osq⟩, hw''⟩ := hw'
  subst hw''
  have hB4 := grew hB (below_regrown w3 dq osq)
  clear g0 hcv cs hB
  go_wp2_with fail
  go_ret
  exact ⟨rfl, hB4⟩
end Go.Proofs.Ytkmlmondhmpkkaa.W
end
