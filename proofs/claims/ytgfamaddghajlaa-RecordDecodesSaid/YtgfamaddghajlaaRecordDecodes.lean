/- For every string the law RecordDecodes returns true: the record with which bytes begin is that of the definition, or there is none. No condition. -/
import Derived.Test.YtgfamaddghajlaaRows
import Derived.Test.YtgfamaddghajlaaRcOne
import Derived.Test.YtgfamaddghajlaaOpenRc
import Derived.ChangeOld
import Derived.ShutString
import Derived.Deep.Cut
namespace Go.Proofs.Ytgfamaddghajlaa.recordDecodes
open Go.ChangeShapes Go.WideShapes Go.ChangeAt Go.RowKit Go.Sort
open Go.ChangeMaps (open_string shut_string)
open Go.Proofs.Ytgfamaddghajlaa.M Go.Proofs.Ytgfamaddghajlaa.W Go.Proofs.Ytgfamaddghajlaa.D Go.Proofs.Ytgfamaddghajlaa.Z
set_option linter.unusedVariables false
set_option linter.unusedSimpArgs false

set_option maxRecDepth 100000 in
set_option maxHeartbeats 4000000 in
theorem walk (a0 : ByteArray) (w : World) (w0 : a0.size ≤ maxLen) :
    Calls Try.prog 4 #[.string a0] w fun e w' => e = .returned (.bool true) ∧ Below w.heap.size w w' := by
  unfold maxLen at w0
  by_cases hl : 400 < a0.size
  · have hli : (400 : Int) < (a0.size : Int) := by omega
    have hB := Lib.hid (Below.refl w.heap.size w)
    go_enter Try.func4, Try.ntmps4
    go_wp2_with fail
    refine (rone_any _).mono ?_
    rintro e u1 ⟨rfl, hb⟩
    have hBn := Lib.hid (grew hB.out hb)
    clear hB hb 
    have hB := hBn
    clear hBn
    go_wp2_with fail
    go_ret
    exact ⟨rfl, hB.out⟩
  have hli : (a0.size : Int) ≤ 400 := by omega
  rcases hr : recAt a0 0 with _ | ⟨r, q⟩
  · have hde := fun W => dec_no a0 W (by omega) hr
    have hrd := Lib.hid (fun W => rdec_none a0 W (by omega) hr)
    have hsq := fun W => same_rc rc0 ⟨rfl, rfl, Nat.zero_le _, Nat.zero_le _, rfl, rfl, rfl⟩ W
    replace hde := Lib.hid hde
    clear hr
    go_enter Try.func4, Try.ntmps4
    go_wp2_with fail
    refine (hde.out _).mono ?_
    rintro e w1 ⟨rfl, hb1⟩
    obtain ⟨b3, hb3⟩ : ∃ b, Hid (w1.heap.size = b) := ⟨_, Lib.hid rfl⟩
    have hX := Whole.new w1 23 [.int .i64 0, .int .i64 0, .string ⟨#[]⟩, .string ⟨#[]⟩, .bool false, .int .i64 0, .int .i64 0, .int .i64 0]
    rw [hb3.out] at hX
    have hB := grewAlloc hb1 (.cells #[.int .i64 0, .int .i64 0, .string ⟨#[]⟩, .string ⟨#[]⟩, .bool false, .int .i64 0, .int .i64 0, .int .i64 0] 23)
    obtain ⟨W2, hW2⟩ : ∃ W, Hid (W = w1.alloc (.cells #[.int .i64 0, .int .i64 0, .string ⟨#[]⟩, .string ⟨#[]⟩, .bool false, .int .i64 0, .int .i64 0, .int .i64 0] 23)) := ⟨_, Lib.hid rfl⟩
    rw [← show W2 = _ from hW2.out] at hX hB
    replace hX := Lib.hid hX
    replace hB := Lib.hid hB
    clear hb1
    go_upto_region 4 with fail
    rw [← show W2 = _ from hW2.out, hb3.out]
    clear hW2
    go_wp2_with fail
    refine (hrd.out _).mono ?_
    rintro e w3 ⟨rfl, hb3'⟩
    have hX3 := hX.out.below hb3' hX.out.lt
    have hB3 := grew hB.out hb3'
    obtain ⟨b4, hb4⟩ : ∃ b, Hid (w3.heap.size = b) := ⟨_, Lib.hid rfl⟩
    have hG0 := Whole.new w3 35 [.int .i64 0, .int .i64 0, .string ⟨#[]⟩, .string ⟨#[]⟩, .bool false, .int .i64 0, .int .i64 0, .int .i64 0, .int .i64 0, .bool false]
    rw [hb4.out] at hG0
    have hK3 : Kept (fun q => q = b4) w3 ((w3.alloc (.cells #[.int .i64 0, .int .i64 0, .string ⟨#[]⟩, .string ⟨#[]⟩, .bool false, .int .i64 0, .int .i64 0, .int .i64 0, .int .i64 0, .bool false] 35)).setCells b4 0 [.int .i64 0, .int .i64 0, .string ⟨#[]⟩, .string ⟨#[]⟩, .bool false, .int .i64 0, .int .i64 0, .int .i64 0, .int .i64 0, .bool false]) := ((Kept.refl (fun q => q = b4) w3).alloc _).setCells (c := b4) (.inl rfl) 0 _
    have hG3 := Z.whole_all hG0 (vs := [.int .i64 0, .int .i64 0, .string ⟨#[]⟩, .string ⟨#[]⟩, .bool false, .int .i64 0, .int .i64 0, .int .i64 0, .int .i64 0, .bool false]) rfl
    obtain ⟨W4, hW4⟩ : ∃ W, Hid (W = (w3.alloc (.cells #[.int .i64 0, .int .i64 0, .string ⟨#[]⟩, .string ⟨#[]⟩, .bool false, .int .i64 0, .int .i64 0, .int .i64 0, .int .i64 0, .bool false] 35)).setCells b4 0 [.int .i64 0, .int .i64 0, .string ⟨#[]⟩, .string ⟨#[]⟩, .bool false, .int .i64 0, .int .i64 0, .int .i64 0, .int .i64 0, .bool false]) := ⟨_, Lib.hid rfl⟩
    rw [← show W4 = _ from hW4.out] at hK3 hG3
    have hlx := hX3.lt
    have hX4 := hX3.of_kept hK3 (by have := hb4.out; omega)
    have hB4 := hB3.trans (hK3.below (B := w.heap.size) hB3.size (fun k e => by have := hb4.out; have := hB3.size; omega))
    have g0 : W4.cell? ⟨b4, 0, none⟩ = _ := hG3.cell 0
    have g1 : W4.cell? ⟨b4, 1, none⟩ = _ := hG3.cell 1
    have g2 : W4.cell? ⟨b4, 2, none⟩ = _ := hG3.cell 2
    have g3 : W4.cell? ⟨b4, 3, none⟩ = _ := hG3.cell 3
    have g4 : W4.cell? ⟨b4, 4, none⟩ = _ := hG3.cell 4
    have g5 : W4.cell? ⟨b4, 5, none⟩ = _ := hG3.cell 5
    have g6 : W4.cell? ⟨b4, 6, none⟩ = _ := hG3.cell 6
    have g7 : W4.cell? ⟨b4, 7, none⟩ = _ := hG3.cell 7
    have g8 : W4.cell? ⟨b4, 8, none⟩ = _ := hG3.cell 8
    have g9 : W4.cell? ⟨b4, 9, none⟩ = _ := hG3.cell 9
    simp only [List.getElem?_cons_zero, List.getElem?_cons_succ] at g0 g1 g2 g3 g4 g5 g6 g7 g8 g9
    obtain ⟨x0, x1, x2, x3, x4, x5, x6, x7⟩ := recCells hX4
    replace hB4 := Lib.hid hB4
    replace hG0 := Lib.hid hG0
    clear hX hB hb3' hX3 hB3 hK3 hG3 hX4 hlx
    go_wp2_with (with_reducible refine zStore 35 _ _ rfl ?_)
    refine Lib.hid ?_
    rw [hb4.out]
    refine wpList_store_mid rfl 35 _ _ rfl b4 0 #[.int .i64 0, .int .i64 0, .string ⟨#[]⟩, .string ⟨#[]⟩, .bool false, .int .i64 0, .int .i64 0, .int .i64 0, .int .i64 0, .bool false] rfl rfl (hG0.out.there 0 10 (by simp)) sizeG10 (by simp [Value.oneCell']) ?_
    rw [← show W4 = _ from hW4.out]
    clear hW4 hG0
    go_wp2_with fail
    refine (rone_any _).mono ?_
    rintro e w9 ⟨rfl, hb9⟩
    have hfin := Lib.hid (grew hB4.out hb9)
    clear g0 g1 g2 g3 g4 g5 g6 g7 g8 g9 x0 x1 x2 x3 x4 x5 x6 x7 hb9 hB4
    go_wp2_with fail
    go_ret
    exact ⟨rfl, hfin.out⟩
  · have hde := Lib.hid (fun W => dec_yes a0 r q W (by omega) hr)
    have hrd := Lib.hid (fun W => rdec_some a0 r q W (by omega) hr)
    have hsq := fun W => same_rc r (ok_wf (recAt_back hr (Nat.zero_le _)).1) W
    clear hr
    go_enter Try.func4, Try.ntmps4
    go_wp2_with fail
    refine (hde.out _).mono ?_
    rintro e w1 ⟨rfl, hb1⟩
    obtain ⟨b3, hb3⟩ : ∃ b, Hid (w1.heap.size = b) := ⟨_, Lib.hid rfl⟩
    have hX := Whole.new w1 23 [.int .i64 r.off, .int .i64 r.tick, .string r.key, .string r.val, .bool r.gone, .int .i64 r.prod, .int .i64 r.seq, .int .i64 r.frm]
    rw [hb3.out] at hX
    have hB := grewAlloc hb1 (.cells #[.int .i64 r.off, .int .i64 r.tick, .string r.key, .string r.val, .bool r.gone, .int .i64 r.prod, .int .i64 r.seq, .int .i64 r.frm] 23)
    obtain ⟨W2, hW2⟩ : ∃ W, Hid (W = w1.alloc (.cells #[.int .i64 r.off, .int .i64 r.tick, .string r.key, .string r.val, .bool r.gone, .int .i64 r.prod, .int .i64 r.seq, .int .i64 r.frm] 23)) := ⟨_, Lib.hid rfl⟩
    rw [← show W2 = _ from hW2.out] at hX hB
    replace hX := Lib.hid hX
    replace hB := Lib.hid hB
    clear hb1
    go_upto_region 4 with fail
    rw [← show W2 = _ from hW2.out, hb3.out]
    clear hW2
    go_wp2_with fail
    refine (hrd.out _).mono ?_
    rintro e w3 ⟨rfl, hb3'⟩
    have hX3 := hX.out.below hb3' hX.out.lt
    have hB3 := grew hB.out hb3'
    obtain ⟨b4, hb4⟩ : ∃ b, Hid (w3.heap.size = b) := ⟨_, Lib.hid rfl⟩
    have hG0 := Whole.new w3 35 [.int .i64 0, .int .i64 0, .string ⟨#[]⟩, .string ⟨#[]⟩, .bool false, .int .i64 0, .int .i64 0, .int .i64 0, .int .i64 0, .bool false]
    rw [hb4.out] at hG0
    have hK3 : Kept (fun q => q = b4) w3 ((w3.alloc (.cells #[.int .i64 0, .int .i64 0, .string ⟨#[]⟩, .string ⟨#[]⟩, .bool false, .int .i64 0, .int .i64 0, .int .i64 0, .int .i64 0, .bool false] 35)).setCells b4 0 [.int .i64 r.off, .int .i64 r.tick, .string r.key, .string r.val, .bool r.gone, .int .i64 r.prod, .int .i64 r.seq, .int .i64 r.frm, .int .i64 (q : Int), .bool true]) := ((Kept.refl (fun q => q = b4) w3).alloc _).setCells (c := b4) (.inl rfl) 0 _
    have hG3 := Z.whole_all hG0 (vs := [.int .i64 r.off, .int .i64 r.tick, .string r.key, .string r.val, .bool r.gone, .int .i64 r.prod, .int .i64 r.seq, .int .i64 r.frm, .int .i64 (q : Int), .bool true]) rfl
    obtain ⟨W4, hW4⟩ : ∃ W, Hid (W = (w3.alloc (.cells #[.int .i64 0, .int .i64 0, .string ⟨#[]⟩, .string ⟨#[]⟩, .bool false, .int .i64 0, .int .i64 0, .int .i64 0, .int .i64 0, .bool false] 35)).setCells b4 0 [.int .i64 r.off, .int .i64 r.tick, .string r.key, .string r.val, .bool r.gone, .int .i64 r.prod, .int .i64 r.seq, .int .i64 r.frm, .int .i64 (q : Int), .bool true]) := ⟨_, Lib.hid rfl⟩
    rw [← show W4 = _ from hW4.out] at hK3 hG3
    have hlx := hX3.lt
    have hX4 := hX3.of_kept hK3 (by have := hb4.out; omega)
    have hB4 := hB3.trans (hK3.below (B := w.heap.size) hB3.size (fun k e => by have := hb4.out; have := hB3.size; omega))
    have g0 : W4.cell? ⟨b4, 0, none⟩ = _ := hG3.cell 0
    have g1 : W4.cell? ⟨b4, 1, none⟩ = _ := hG3.cell 1
    have g2 : W4.cell? ⟨b4, 2, none⟩ = _ := hG3.cell 2
    have g3 : W4.cell? ⟨b4, 3, none⟩ = _ := hG3.cell 3
    have g4 : W4.cell? ⟨b4, 4, none⟩ = _ := hG3.cell 4
    have g5 : W4.cell? ⟨b4, 5, none⟩ = _ := hG3.cell 5
    have g6 : W4.cell? ⟨b4, 6, none⟩ = _ := hG3.cell 6
    have g7 : W4.cell? ⟨b4, 7, none⟩ = _ := hG3.cell 7
    have g8 : W4.cell? ⟨b4, 8, none⟩ = _ := hG3.cell 8
    have g9 : W4.cell? ⟨b4, 9, none⟩ = _ := hG3.cell 9
    simp only [List.getElem?_cons_zero, List.getElem?_cons_succ] at g0 g1 g2 g3 g4 g5 g6 g7 g8 g9
    obtain ⟨x0, x1, x2, x3, x4, x5, x6, x7⟩ := recCells hX4
    replace hB4 := Lib.hid hB4
    replace hG0 := Lib.hid hG0
    clear hX hB hb3' hX3 hB3 hK3 hG3 hX4 hlx
    go_wp2_with (with_reducible refine zStore 35 _ _ rfl ?_)
    refine Lib.hid ?_
    rw [hb4.out]
    refine wpList_store_mid rfl 35 _ _ rfl b4 0 #[.int .i64 r.off, .int .i64 r.tick, .string r.key, .string r.val, .bool r.gone, .int .i64 r.prod, .int .i64 r.seq, .int .i64 r.frm, .int .i64 (q : Int), .bool true] rfl rfl (hG0.out.there 0 10 (by simp)) sizeG10 (by simp [Value.oneCell']) ?_
    rw [← show W4 = _ from hW4.out]
    clear hW4 hG0
    go_wp2_with fail
    refine (rone_any _).mono ?_
    rintro e w9 ⟨rfl, hb9⟩
    have hfin := Lib.hid (grew hB4.out hb9)
    clear g0 g1 g2 g3 g4 g5 g6 g7 g8 g9 x0 x1 x2 x3 x4 x5 x6 x7 hb9 hB4
    go_wp2_with fail
    go_ret
    exact ⟨rfl, hfin.out⟩


theorem own : ownKnob Try.prog.godebug = none := by kernel_rfl
theorem laidOut : laidOutB Try.prog = true := by kernel_rfl

set_option maxRecDepth 100000 in
theorem lifted (os : Os) (started : os.Started) (H : Type) (enc : TypeId × Value → H) :
    ReturnsInHanded {} Try.checked os 4 .any (Rows.recordDecodesSpec.pre6 enc Try.prog Try.f4 Rows.recordDecodesRow.domain false) (Rows.recordDecodesSpec.post enc Try.prog Try.f4 false true false false) := by
  refine returnsInHanded_of_change (C := Try.checked) own started (by kernel_rfl) Try.func4
    (ChangeSpec.witness6 (enc := enc) (C := Try.checked) false ⟨#[], #[.string ByteArray.empty], []⟩ 8 (by kernel_rfl) (by kernel_rfl) (by kernel_rfl) (by kernel_rfl)) ?_
  intro W base args ds gs before hval0 hW hcnd _
  have hval : ∀ (j : Nat) t v, Try.f4.params[j]? = some t → args[j]? = some v → Value.okWide Try.prog W .any base t v := hval0
  have hW' := hW
  obtain ⟨p, q, hA0, hV, rfl, hfz, hnd⟩ := hW
  have hA : DataW.TrodAll enc Try.prog W 0 (fun _ => true) true Try.f4.params.toList args.toList ds p := hA0
  rw [Try.params4] at hA hval
  obtain ⟨v0, vs0, d0, ds0, p0, q0, hargs, rfl, rfl, h0, r0⟩ := trodAll_cons hA
  obtain ⟨rfl, rfl, rfl⟩ := trodAll_nil r0
  obtain rfl : args = #[v0] := by cases args; simp_all
  obtain ⟨rfl, rfl⟩ := trodVars_none hV
  obtain ⟨a0, rfl, rfl, rfl, w0⟩ := open_string Try.underlying9 (hval 0 9 v0 rfl rfl) h0
  clear hA0 hval0
  refine (walk a0 W w0).mono fun e W' ⟨he, bel⟩ => ?_
  subst he
  exact ⟨_, rfl, _, _, _, [], [], [], hW', trodAll_mk1 (shut_bool Try.underlying4 _), (trodAll_cons_mk (shut_string Try.underlying9 w0) trodAll_mk0), rfl, bel.frame _, fun h => by cases h⟩

theorem over : Rows.recordDecodesRow.holds Try.pinned (OpenSpec.ofChange Rows.recordDecodesSpec) :=
  OpenClaim.holds_of_wide 4 Try.f4 rfl rfl rfl rfl rfl rfl rfl ⟨rfl, rfl, rfl, rfl, rfl⟩ rfl rfl rfl rfl rfl (by kernel_rfl) Try.func4 (by kernel_rfl)
    (of_decide_eq_true (by kernel_rfl)) (by unfold Func.isWrapper; first | (rw [if_pos (by decide +kernel)]; kernel_rfl) | (rw [if_neg (by decide +kernel)]; exact ⟨rfl, rfl⟩))
    (fun os started H enc _ => lifted os started H enc)

/-- The statement. -/
theorem proved : Rows.RecordDecodesSaid := over
#print axioms proved

end Go.Proofs.Ytgfamaddghajlaa.recordDecodes
