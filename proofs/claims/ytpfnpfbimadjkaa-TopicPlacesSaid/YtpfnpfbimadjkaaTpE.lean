/- Layer 22: the fields' readers, and read. -/
import Derived.Test.YtpfnpfbimadjkaaTpD
import Derived.Laws.EntriesVeiled
import Derived.Deep.RegionHeld3
namespace Go.Proofs.Ytpfnpfbimadjkaa.W
open Go.RowKit Go.Sort
open Go.Proofs.Ytpfnpfbimadjkaa.M Go.Proofs.Ytpfnpfbimadjkaa.D Go.Proofs.Ytpfnpfbimadjkaa.Z
set_option linter.unusedVariables false
set_option linter.unusedSimpArgs false

theorem cellFarT {w : World} {b x i o : Nat} {u v : Value} (h : w.cell? ⟨x, i, none⟩ = some v) (hne : x ≠ b) : (w.setCell ⟨b, o, none⟩ u).cell? ⟨x, i, none⟩ = some v :=
  (World.cell?_of_block (heap_setCells_far b hne [u] o w)).trans h
theorem slice_from0 (s : ByteArray) (W : World) : (Instr.sliceAt 9 (.string s) (some (.int .i64 0)) none none).run Try.prog W = .ok (.string s) W := by
  have h1 : (0 : Int) ≤ (s.size : Int) := by omega
  simp [go_sem, h1, Try.underlying9, ext_all]
theorem ext_le (s : ByteArray) (p : Nat) (hs : s.size ≤ 100000) : (s.extract p s.size).size ≤ 100000 := by rw [ByteArray.size_extract]; omega
theorem slice_from22 (s : ByteArray) (p : Nat) (hp : p ≤ s.size) (W : World) : (Instr.sliceAt 9 (.string s) (some (.int .i64 (p : Int))) none none).run Try.prog W = .ok (.string (s.extract p s.size)) W := by
  have h1 : (p : Int) ≤ (s.size : Int) := by omega
  simp [go_sem, h1, Try.underlying9]
set_option maxRecDepth 100000 in
set_option maxHeartbeats 4000000 in
theorem nameF_any (b tb : Nat) (s x : ByteArray) (n e : Int) (c0 c1 c2 c3 c4 : Value) (w : World) (hb : Whole w b 71 [.pointer (some ⟨tb, 0, none⟩)]) (ht : Whole w tb 34 [c0, c1, c2, c3, c4]) (hne : b ≠ tb) (hs : s.size ≤ 100000) (hu : untx s = (x, n, e)) :
    Calls Try.prog 52 #[.string s, .pointer (some ⟨b, 0, none⟩)] w fun r w' => r = .returned (.tuple #[.int .i64 n, .int .i64 e]) ∧ Whole w' tb 34 [.string x, c1, c2, c3, c4] ∧ Kept (fun q => q = tb) w w' := by
  have hun := fun W => untext_any s W (by omega)
  rw [hu] at hun
  replace hun := Lib.hid hun
  have p0 : w.cell? ⟨b, 0, none⟩ = some (.pointer (some ⟨tb, 0, none⟩)) := hb.cell 0
  have hD : Below w.heap.size w w.drew := (Below.refl _ _).drew
  have htd := Lib.hid ht
  have hfin : Hid (∀ W, Below w.heap.size w W → (W.cell? ⟨tb, 0, none⟩ = some c0 ∧ W.frozen? ⟨tb, 0, none⟩ = false) ∧ Whole (W.setCell ⟨tb, 0, none⟩ (.string x)) tb 34 [.string x, c1, c2, c3, c4] ∧ Kept (fun q => q = tb) w (W.setCell ⟨tb, 0, none⟩ (.string x))) := Lib.hid (fun W hW => by
    have h1 := htd.out.below hW htd.out.lt
    exact ⟨⟨h1.cell 0, h1.frozen 0⟩, h1.store 0 [.string x] (by simp), (show Kept (fun q => q = tb) w W from Kept.of_below hW).setCells (c := tb) (.inl rfl) 0 [.string x]⟩)
  clear hb ht hu
  go_enter Try.func52, Try.ntmps52
  go_wp2_with fail
  go_region_held3 (fun w' => w'.cell? ⟨b, 0, none⟩ = some (.pointer (some ⟨tb, 0, none⟩))) (first | assumption | exact cellFarT d0 hne | (go_keep)) (first
    | (go_at_call 53; (with_reducible refine (hun.out _).mono ?_); rintro _ w2 ⟨rfl, hb2⟩; have hB2 := grew hD hb2; have d0 := keepZ hB2 p0; obtain ⟨⟨z0, z1⟩, hF1, hF2⟩ := hfin.out w2 hB2; replace hF1 := Lib.hid hF1; replace hF2 := Lib.hid hF2; replace hB2 := Lib.hid hB2; replace hb2 := Lib.hid hb2))
  all_goals
    go_wp2_with fail
    go_ret2
    exact ⟨rfl, hF1.out, hF2.out⟩
theorem splice_one (cs : List Value) (k : Nat) (v : Value) (h : k < cs.length) : splice cs k [v] = cs.set k v := by
  unfold splice
  rw [List.set_eq_take_append_cons_drop, if_pos h]
  rfl
set_option maxRecDepth 100000 in
set_option maxHeartbeats 4000000 in
theorem numberF_any (b tb k : Nat) (s : ByteArray) (v n e : Int) (cs : List Value) (w : World) (hb : Whole w b 73 [.pointer (some ⟨tb, k, none⟩)]) (ht : Whole w tb 34 cs) (hk : k < cs.length) (hs : s.size ≤ 100000) (hu : unch s.data.toList = (v, n, e)) :
    Calls Try.prog 54 #[.string s, .pointer (some ⟨b, 0, none⟩)] w fun r w' => r = .returned (.tuple #[.int .i64 n, .int .i64 e]) ∧ Whole w' tb 34 (cs.set k (.int .i64 (wrap64 v))) ∧ Kept (fun q => q = tb) w w' := by
  have hun := fun W => unchain_any s W (by omega)
  rw [hu] at hun
  replace hun := Lib.hid hun
  have p0 : w.cell? ⟨b, 0, none⟩ = some (.pointer (some ⟨tb, k, none⟩)) := hb.cell 0
  obtain ⟨ck, hck⟩ : ∃ c, cs[k]? = some c := ⟨_, List.getElem?_eq_getElem hk⟩
  have z0 : w.cell? ⟨tb, k, none⟩ = some ck := (ht.cell k).trans hck
  have z1 : w.frozen? ⟨tb, k, none⟩ = false := ht.frozen k
  have hfin : Hid (Whole (w.setCell ⟨tb, k, none⟩ (.int .i64 (wrap64 v))) tb 34 (cs.set k (.int .i64 (wrap64 v))) ∧ Kept (fun q => q = tb) w (w.setCell ⟨tb, k, none⟩ (.int .i64 (wrap64 v)))) := Lib.hid ⟨by
    have := ht.store k [.int .i64 (wrap64 v)] (by simp; omega)
    rw [splice_one cs k _ hk] at this
    exact this, (Kept.refl (fun q => q = tb) w).setCells (c := tb) (.inl rfl) k [.int .i64 (wrap64 v)]⟩
  clear hb ht hu hck hk
  go_enter Try.func54, Try.ntmps54
  go_wp2_with fail
  refine (hun.out _).mono ?_
  rintro _ w2 ⟨rfl, rfl⟩
  go_wp2_with fail
  go_ret2
  exact ⟨rfl, hfin.out⟩
set_option maxRecDepth 100000 in
set_option maxHeartbeats 4000000 in
theorem flagF_no (b : Nat) (s : ByteArray) (w : World) (hu : flagAt s.data.toList 0 = none) :
    Calls Try.prog 56 #[.string s, .pointer (some ⟨b, 0, none⟩)] w fun r w' => r = .returned (.tuple #[.int .i64 0, .int .i64 4]) ∧ w = w' := by
  by_cases h0 : s.size = 0
  · have e1 : s.toList = [] := (toList_nil s).2 h0
    have e2 : s.toList.isEmpty = true := by rw [e1]; rfl
    clear hu h0
    go_enter Try.func56, Try.ntmps56
    go_wp2_with fail
    go_ret2
    exact ⟨rfl, rfl⟩
  · have e1 : ¬ s.toList = [] := fun h => h0 ((toList_nil s).1 h)
    have e2 : s.toList.isEmpty = false := by simpa using e1
    have hpos : 0 < s.size := by omega
    have hix := idx_nat (P := Try.prog) 9 Try.underlying9 s .i64 0 hpos
    have hl0 : 0 < s.data.toList.length := by simpa using hpos
    have hb1 : 1 < bt s.data.toList 0 := by
      unfold flagAt at hu
      rw [List.getElem?_eq_getElem hl0] at hu
      dsimp only at hu
      rw [bt_get _ 0 _ (List.getElem?_eq_getElem hl0)]
      by_cases hx : (s.data.toList[0]).toNat ≤ 1
      · rw [if_pos hx] at hu; cases hu
      · omega
    obtain ⟨f, hf⟩ : ∃ f, Hid (bt s.data.toList 0 = f) := ⟨_, Lib.hid rfl⟩
    rw [hf.out] at hb1 hix
    have hb1i : (1 : Int) < (f : Int) := by omega
    simp only [Int.natCast_zero] at hix
    clear hu h0 hl0 hpos
    go_enter Try.func56, Try.ntmps56
    go_wp2_with fail
    go_ret2
    exact ⟨rfl, rfl⟩
set_option maxRecDepth 100000 in
set_option maxHeartbeats 4000000 in
theorem flagF_yes (b tb : Nat) (s : ByteArray) (f : Nat) (c0 c1 c2 c3 c4 : Value) (w : World) (hb : Whole w b 75 [.pointer (some ⟨tb, 4, none⟩)]) (ht : Whole w tb 34 [c0, c1, c2, c3, c4]) (hu : flagAt s.data.toList 0 = some f) :
    Calls Try.prog 56 #[.string s, .pointer (some ⟨b, 0, none⟩)] w fun r w' => r = .returned (.tuple #[.int .i64 1, .int .i64 0]) ∧ Whole w' tb 34 [c0, c1, c2, c3, .bool (decide (f = 1))] ∧ Kept (fun q => q = tb) w w' := by
  obtain ⟨hpos, hbt, hf1⟩ : 0 < s.size ∧ bt s.data.toList 0 = f ∧ f ≤ 1 := by
    unfold flagAt at hu
    cases hl : s.data.toList[0]? with
    | none => rw [hl] at hu; cases hu
    | some x =>
      rw [hl] at hu
      dsimp only at hu
      have hp := (List.getElem?_eq_some_iff.1 hl).1
      by_cases hx : x.toNat ≤ 1
      · rw [if_pos hx] at hu
        cases hu
        exact ⟨by simpa using hp, bt_get _ 0 _ hl, hx⟩
      · rw [if_neg hx] at hu; cases hu
  have e1 : ¬ s.toList = [] := fun h => by have := (toList_nil s).1 h; omega
  have e2 : s.toList.isEmpty = false := by simpa using e1
  have hix := idx_nat (P := Try.prog) 9 Try.underlying9 s .i64 0 hpos
  rw [hbt] at hix
  simp only [Int.natCast_zero] at hix
  have p0 : w.cell? ⟨b, 0, none⟩ = some (.pointer (some ⟨tb, 4, none⟩)) := hb.cell 0
  have z0 : w.cell? ⟨tb, 4, none⟩ = some c4 := ht.cell 4
  have z1 : w.frozen? ⟨tb, 4, none⟩ = false := ht.frozen 4
  have hfi : (f : Int) ≤ 1 := by omega
  obtain ⟨B, hB⟩ : ∃ B, Hid (decide (f = 1) = B) := ⟨_, Lib.hid rfl⟩
  have hBe : ((f : Int) == 1) = B := by rw [← hB.out, Bool.eq_iff_iff]; simp; omega
  have hBd : decide ((f : Int) = 1) = B := by rw [← hB.out, Bool.eq_iff_iff]; simp; omega
  rw [hB.out]
  have hfin : Hid (∀ d, Whole ((w.drewN d).setCell ⟨tb, 4, none⟩ (.bool B)) tb 34 [c0, c1, c2, c3, .bool B] ∧ Kept (fun q => q = tb) w ((w.drewN d).setCell ⟨tb, 4, none⟩ (.bool B))) := Lib.hid (fun d => ⟨(ht.drewN d).store 4 [.bool B] (by simp), ((Kept.refl (fun q => q = tb) w).drewN d).setCells (c := tb) (.inl rfl) 4 [.bool B]⟩)
  clear hb ht hu hpos hbt
  go_enter Try.func56, Try.ntmps56
  go_wp2_with fail
  go_region
  all_goals
    go_wp2_with fail
    go_ret2
    exact ⟨rfl, hfin.out 1⟩
/-- What read is told of: the topic that is read, the readers, each with its place. -/
structure RdS (W : World) (tb fb b1 b2 b3 b4 b5 : Nat) (cs : List Value) : Prop where
  t : Whole W tb 34 cs
  f : Whole W fb 69 [(.func (.func 52) #[] #[.pointer (some ⟨b1, 0, none⟩)]), (.func (.func 54) #[] #[.pointer (some ⟨b2, 0, none⟩)]), (.func (.func 54) #[] #[.pointer (some ⟨b3, 0, none⟩)]), (.func (.func 54) #[] #[.pointer (some ⟨b4, 0, none⟩)]), (.func (.func 56) #[] #[.pointer (some ⟨b5, 0, none⟩)])]
  p1 : Whole W b1 71 [.pointer (some ⟨tb, 0, none⟩)]
  p2 : Whole W b2 73 [.pointer (some ⟨tb, 1, none⟩)]
  p3 : Whole W b3 73 [.pointer (some ⟨tb, 2, none⟩)]
  p4 : Whole W b4 73 [.pointer (some ⟨tb, 3, none⟩)]
  p5 : Whole W b5 75 [.pointer (some ⟨tb, 4, none⟩)]
  nf : fb ≠ tb
  n1 : b1 ≠ tb
  n2 : b2 ≠ tb
  n3 : b3 ≠ tb
  n4 : b4 ≠ tb
  n5 : b5 ≠ tb
theorem RdS.kept {W W' : World} {tb fb b1 b2 b3 b4 b5 : Nat} {cs cs' : List Value} (h : RdS W tb fb b1 b2 b3 b4 b5 cs) (hk : Kept (fun q => q = tb) W W') (ht : Whole W' tb 34 cs') : RdS W' tb fb b1 b2 b3 b4 b5 cs' :=
  ⟨ht, h.f.of_kept hk h.nf, h.p1.of_kept hk h.n1, h.p2.of_kept hk h.n2, h.p3.of_kept hk h.n3, h.p4.of_kept hk h.n4, h.p5.of_kept hk h.n5, h.nf, h.n1, h.n2, h.n3, h.n4, h.n5⟩
set_option maxRecDepth 100000 in
set_option maxHeartbeats 4000000 in
theorem read_0 (tb fb b1 b2 b3 b4 b5 : Nat) (s : ByteArray) (w : World) (h : RdS w tb fb b1 b2 b3 b4 b5 [.string ⟨#[]⟩, .int .i64 0, .int .i64 0, .int .i64 0, .bool false]) (hs : s.size ≤ 100000)   (h0 : txAt s 0 = none) :
    Calls Try.prog 39 #[.string s, .slice (some ⟨fb, 0, none⟩) 5 5] w fun r w' => ((∃ er : Int, er ≠ 0 ∧ r = .returned (.tuple #[.int .i64 0, .int .i64 er]))) ∧ Kept (fun q => q = tb) w w' := by
  have hsl : s.data.toList.length = s.size := by simp
  have eg1 : ∀ args W, (callFunc 52 args).run Try.prog W = .ok (.enter 52 args) W := fun _ _ => by kernel_rfl
  have eg2 : ∀ args W, (callFunc 54 args).run Try.prog W = .ok (.enter 54 args) W := fun _ _ => by kernel_rfl
  have eg3 : ∀ args W, (callFunc 56 args).run Try.prog W = .ok (.enter 56 args) W := fun _ _ => by kernel_rfl
  obtain ⟨x, n, er, hU0, her⟩ := txAt_no h0
  have z0 := fun W => slice_from0 s W
  rw [ext_all] at hU0
  have her2 : (er != 0) = true := by simpa using her
  have C0 := Lib.hid (fun W (hW : RdS W tb fb b1 b2 b3 b4 b5 [.string ⟨#[]⟩, .int .i64 0, .int .i64 0, .int .i64 0, .bool false]) => nameF_any b1 tb s x n er _ _ _ _ _ W hW.p1 hW.t hW.n1 hs hU0)
  have hK0 := Lib.hid (Kept.refl (fun q => q = tb) w)
  replace h := Lib.hid h
  clear hU0 h0
  go_enter Try.func39, Try.ntmps39
  go_wp2_with fail
  refine wp_loop_rounds 6 ?_
  rw [rounds_succ]
  have d0 : w.cell? ⟨fb, 0, none⟩ = some (.func (.func 52) #[] #[.pointer (some ⟨b1, 0, none⟩)]) := h.out.f.cell 0
  go_wp2_with fail
  refine (C0.out _ h.out).mono ?_
  rintro _ w1 ⟨rfl, ht1, hk1⟩
  have hK1 := Lib.hid (hK0.out.trans hk1)
  clear ht1 hk1 d0
  go_wp2_with fail
  go_ret2
  exact ⟨⟨er, her, rfl⟩, hK1.out⟩
set_option maxRecDepth 100000 in
set_option maxHeartbeats 4000000 in
theorem read_1 (tb fb b1 b2 b3 b4 b5 : Nat) (s : ByteArray) (w : World) (h : RdS w tb fb b1 b2 b3 b4 b5 [.string ⟨#[]⟩, .int .i64 0, .int .i64 0, .int .i64 0, .bool false]) (hs : s.size ≤ 100000) (nm : ByteArray) (p0 : Nat) (h0 : txAt s 0 = some (nm, p0)) (h1 : chAt s.data.toList p0 = none) :
    Calls Try.prog 39 #[.string s, .slice (some ⟨fb, 0, none⟩) 5 5] w fun r w' => ((∃ er : Int, er ≠ 0 ∧ r = .returned (.tuple #[.int .i64 0, .int .i64 er]))) ∧ Kept (fun q => q = tb) w w' := by
  have hsl : s.data.toList.length = s.size := by simp
  have eg1 : ∀ args W, (callFunc 52 args).run Try.prog W = .ok (.enter 52 args) W := fun _ _ => by kernel_rfl
  have eg2 : ∀ args W, (callFunc 54 args).run Try.prog W = .ok (.enter 54 args) W := fun _ _ => by kernel_rfl
  have eg3 : ∀ args W, (callFunc 56 args).run Try.prog W = .ok (.enter 56 args) W := fun _ _ => by kernel_rfl
  obtain ⟨hU0, hp0⟩ := txAt_yes h0
  have z0 := fun W => slice_from0 s W
  rw [ext_all] at hU0
  have C0 := Lib.hid (fun W (hW : RdS W tb fb b1 b2 b3 b4 b5 [.string ⟨#[]⟩, .int .i64 0, .int .i64 0, .int .i64 0, .bool false]) => nameF_any b1 tb s nm (p0 : Int) 0 _ _ _ _ _ W hW.p1 hW.t hW.n1 hs hU0)
  have z1 := slice_from22 s p0 hp0
  obtain ⟨er, hU1, her⟩ := chAt_no h1
  have her2 : (er != 0) = true := by simpa using her
  have C1 := Lib.hid (fun W (hW : RdS W tb fb b1 b2 b3 b4 b5 [.string nm, .int .i64 0, .int .i64 0, .int .i64 0, .bool false]) => numberF_any b2 tb 1 (s.extract p0 s.size) 0 0 er _ W hW.p2 hW.t (by simp) (ext_le s _ hs) (by rw [ext_drop]; exact hU1))
  have hK0 := Lib.hid (Kept.refl (fun q => q = tb) w)
  replace h := Lib.hid h
  clear hU0 hU1 h0 h1
  go_enter Try.func39, Try.ntmps39
  go_wp2_with fail
  refine wp_loop_rounds 6 ?_
  rw [rounds_succ]
  have d0 : w.cell? ⟨fb, 0, none⟩ = some (.func (.func 52) #[] #[.pointer (some ⟨b1, 0, none⟩)]) := h.out.f.cell 0
  go_wp2_with fail
  refine (C0.out _ h.out).mono ?_
  rintro _ w1 ⟨rfl, ht1, hk1⟩
  have hK1 := Lib.hid (hK0.out.trans hk1)
  have g1 := Lib.hid (h.out.kept hk1 ht1)
  clear ht1 hk1 d0
  go_wp2_with fail
  rw [rounds_succ]
  have d1 : w1.cell? ⟨fb, 1, none⟩ = some (.func (.func 54) #[] #[.pointer (some ⟨b2, 0, none⟩)]) := g1.out.f.cell 1
  go_wp2_with fail
  refine (C1.out _ g1.out).mono ?_
  rintro _ w2 ⟨rfl, ht2, hk2⟩
  have hK2 := Lib.hid (hK1.out.trans hk2)
  clear ht2 hk2 d1
  go_wp2_with fail
  go_ret2
  exact ⟨⟨er, her, rfl⟩, hK2.out⟩
set_option maxRecDepth 100000 in
set_option maxHeartbeats 4000000 in
theorem read_2 (tb fb b1 b2 b3 b4 b5 : Nat) (s : ByteArray) (w : World) (h : RdS w tb fb b1 b2 b3 b4 b5 [.string ⟨#[]⟩, .int .i64 0, .int .i64 0, .int .i64 0, .bool false]) (hs : s.size ≤ 100000) (nm : ByteArray) (p0 : Nat) (v1 : Int) (p1 : Nat) (h0 : txAt s 0 = some (nm, p0)) (h1 : chAt s.data.toList p0 = some (v1, p1)) (h2 : chAt s.data.toList p1 = none) :
    Calls Try.prog 39 #[.string s, .slice (some ⟨fb, 0, none⟩) 5 5] w fun r w' => ((∃ er : Int, er ≠ 0 ∧ r = .returned (.tuple #[.int .i64 0, .int .i64 er]))) ∧ Kept (fun q => q = tb) w w' := by
  have hsl : s.data.toList.length = s.size := by simp
  have eg1 : ∀ args W, (callFunc 52 args).run Try.prog W = .ok (.enter 52 args) W := fun _ _ => by kernel_rfl
  have eg2 : ∀ args W, (callFunc 54 args).run Try.prog W = .ok (.enter 54 args) W := fun _ _ => by kernel_rfl
  have eg3 : ∀ args W, (callFunc 56 args).run Try.prog W = .ok (.enter 56 args) W := fun _ _ => by kernel_rfl
  obtain ⟨hU0, hp0⟩ := txAt_yes h0
  have z0 := fun W => slice_from0 s W
  rw [ext_all] at hU0
  have C0 := Lib.hid (fun W (hW : RdS W tb fb b1 b2 b3 b4 b5 [.string ⟨#[]⟩, .int .i64 0, .int .i64 0, .int .i64 0, .bool false]) => nameF_any b1 tb s nm (p0 : Int) 0 _ _ _ _ _ W hW.p1 hW.t hW.n1 hs hU0)
  have z1 := slice_from22 s p0 hp0
  obtain ⟨n1, hU1, hq1, hp1, vl1, vh1⟩ := chAt_yes h1 (by omega)
  have C1 := Lib.hid (fun W (hW : RdS W tb fb b1 b2 b3 b4 b5 [.string nm, .int .i64 0, .int .i64 0, .int .i64 0, .bool false]) => numberF_any b2 tb 1 (s.extract p0 s.size) v1 (n1 : Int) 0 _ W hW.p2 hW.t (by simp) (ext_le s _ hs) (by rw [ext_drop]; exact hU1))
  have hw1 : IntKind.i64.wrap ((p0 : Int) + (n1 : Int)) = (p1 : Int) := by rw [IntWalk.i64_in _ (by omega)]; omega
  have z2 := slice_from22 s p1 (by omega)
  obtain ⟨er, hU2, her⟩ := chAt_no h2
  have her2 : (er != 0) = true := by simpa using her
  have C2 := Lib.hid (fun W (hW : RdS W tb fb b1 b2 b3 b4 b5 [.string nm, .int .i64 (wrap64 v1), .int .i64 0, .int .i64 0, .bool false]) => numberF_any b3 tb 2 (s.extract p1 s.size) 0 0 er _ W hW.p3 hW.t (by simp) (ext_le s _ hs) (by rw [ext_drop]; exact hU2))
  have hK0 := Lib.hid (Kept.refl (fun q => q = tb) w)
  replace h := Lib.hid h
  clear hU0 hU1 hU2 h0 h1 h2 hq1 vl1 vh1
  go_enter Try.func39, Try.ntmps39
  go_wp2_with fail
  refine wp_loop_rounds 6 ?_
  rw [rounds_succ]
  have d0 : w.cell? ⟨fb, 0, none⟩ = some (.func (.func 52) #[] #[.pointer (some ⟨b1, 0, none⟩)]) := h.out.f.cell 0
  go_wp2_with fail
  refine (C0.out _ h.out).mono ?_
  rintro _ w1 ⟨rfl, ht1, hk1⟩
  have hK1 := Lib.hid (hK0.out.trans hk1)
  have g1 := Lib.hid (h.out.kept hk1 ht1)
  clear ht1 hk1 d0
  go_wp2_with fail
  rw [rounds_succ]
  have d1 : w1.cell? ⟨fb, 1, none⟩ = some (.func (.func 54) #[] #[.pointer (some ⟨b2, 0, none⟩)]) := g1.out.f.cell 1
  go_wp2_with fail
  refine (C1.out _ g1.out).mono ?_
  rintro _ w2 ⟨rfl, ht2, hk2⟩
  have hK2 := Lib.hid (hK1.out.trans hk2)
  have g2 := Lib.hid (g1.out.kept hk2 ht2)
  clear ht2 hk2 d1
  go_wp2_with fail
  rw [rounds_succ]
  have d2 : w2.cell? ⟨fb, 2, none⟩ = some (.func (.func 54) #[] #[.pointer (some ⟨b3, 0, none⟩)]) := g2.out.f.cell 2
  go_wp2_with fail
  refine (C2.out _ g2.out).mono ?_
  rintro _ w3 ⟨rfl, ht3, hk3⟩
  have hK3 := Lib.hid (hK2.out.trans hk3)
  clear ht3 hk3 d2
  go_wp2_with fail
  go_ret2
  exact ⟨⟨er, her, rfl⟩, hK3.out⟩
set_option maxRecDepth 100000 in
set_option maxHeartbeats 4000000 in
theorem read_3 (tb fb b1 b2 b3 b4 b5 : Nat) (s : ByteArray) (w : World) (h : RdS w tb fb b1 b2 b3 b4 b5 [.string ⟨#[]⟩, .int .i64 0, .int .i64 0, .int .i64 0, .bool false]) (hs : s.size ≤ 100000) (nm : ByteArray) (p0 : Nat) (v1 : Int) (p1 : Nat) (v2 : Int) (p2 : Nat) (h0 : txAt s 0 = some (nm, p0)) (h1 : chAt s.data.toList p0 = some (v1, p1)) (h2 : chAt s.data.toList p1 = some (v2, p2)) (h3 : chAt s.data.toList p2 = none) :
    Calls Try.prog 39 #[.string s, .slice (some ⟨fb, 0, none⟩) 5 5] w fun r w' => ((∃ er : Int, er ≠ 0 ∧ r = .returned (.tuple #[.int .i64 0, .int .i64 er]))) ∧ Kept (fun q => q = tb) w w' := by
  have hsl : s.data.toList.length = s.size := by simp
  have eg1 : ∀ args W, (callFunc 52 args).run Try.prog W = .ok (.enter 52 args) W := fun _ _ => by kernel_rfl
  have eg2 : ∀ args W, (callFunc 54 args).run Try.prog W = .ok (.enter 54 args) W := fun _ _ => by kernel_rfl
  have eg3 : ∀ args W, (callFunc 56 args).run Try.prog W = .ok (.enter 56 args) W := fun _ _ => by kernel_rfl
  obtain ⟨hU0, hp0⟩ := txAt_yes h0
  have z0 := fun W => slice_from0 s W
  rw [ext_all] at hU0
  have C0 := Lib.hid (fun W (hW : RdS W tb fb b1 b2 b3 b4 b5 [.string ⟨#[]⟩, .int .i64 0, .int .i64 0, .int .i64 0, .bool false]) => nameF_any b1 tb s nm (p0 : Int) 0 _ _ _ _ _ W hW.p1 hW.t hW.n1 hs hU0)
  have z1 := slice_from22 s p0 hp0
  obtain ⟨n1, hU1, hq1, hp1, vl1, vh1⟩ := chAt_yes h1 (by omega)
  have C1 := Lib.hid (fun W (hW : RdS W tb fb b1 b2 b3 b4 b5 [.string nm, .int .i64 0, .int .i64 0, .int .i64 0, .bool false]) => numberF_any b2 tb 1 (s.extract p0 s.size) v1 (n1 : Int) 0 _ W hW.p2 hW.t (by simp) (ext_le s _ hs) (by rw [ext_drop]; exact hU1))
  have hw1 : IntKind.i64.wrap ((p0 : Int) + (n1 : Int)) = (p1 : Int) := by rw [IntWalk.i64_in _ (by omega)]; omega
  have z2 := slice_from22 s p1 (by omega)
  obtain ⟨n2, hU2, hq2, hp2, vl2, vh2⟩ := chAt_yes h2 (by omega)
  have C2 := Lib.hid (fun W (hW : RdS W tb fb b1 b2 b3 b4 b5 [.string nm, .int .i64 (wrap64 v1), .int .i64 0, .int .i64 0, .bool false]) => numberF_any b3 tb 2 (s.extract p1 s.size) v2 (n2 : Int) 0 _ W hW.p3 hW.t (by simp) (ext_le s _ hs) (by rw [ext_drop]; exact hU2))
  have hw2 : IntKind.i64.wrap ((p1 : Int) + (n2 : Int)) = (p2 : Int) := by rw [IntWalk.i64_in _ (by omega)]; omega
  have z3 := slice_from22 s p2 (by omega)
  obtain ⟨er, hU3, her⟩ := chAt_no h3
  have her2 : (er != 0) = true := by simpa using her
  have C3 := Lib.hid (fun W (hW : RdS W tb fb b1 b2 b3 b4 b5 [.string nm, .int .i64 (wrap64 v1), .int .i64 (wrap64 v2), .int .i64 0, .bool false]) => numberF_any b4 tb 3 (s.extract p2 s.size) 0 0 er _ W hW.p4 hW.t (by simp) (ext_le s _ hs) (by rw [ext_drop]; exact hU3))
  have hK0 := Lib.hid (Kept.refl (fun q => q = tb) w)
  replace h := Lib.hid h
  clear hU0 hU1 hU2 hU3 h0 h1 h2 h3 hq1 vl1 vh1 hq2 vl2 vh2
  go_enter Try.func39, Try.ntmps39
  go_wp2_with fail
  refine wp_loop_rounds 6 ?_
  rw [rounds_succ]
  have d0 : w.cell? ⟨fb, 0, none⟩ = some (.func (.func 52) #[] #[.pointer (some ⟨b1, 0, none⟩)]) := h.out.f.cell 0
  go_wp2_with fail
  refine (C0.out _ h.out).mono ?_
  rintro _ w1 ⟨rfl, ht1, hk1⟩
  have hK1 := Lib.hid (hK0.out.trans hk1)
  have g1 := Lib.hid (h.out.kept hk1 ht1)
  clear ht1 hk1 d0
  go_wp2_with fail
  rw [rounds_succ]
  have d1 : w1.cell? ⟨fb, 1, none⟩ = some (.func (.func 54) #[] #[.pointer (some ⟨b2, 0, none⟩)]) := g1.out.f.cell 1
  go_wp2_with fail
  refine (C1.out _ g1.out).mono ?_
  rintro _ w2 ⟨rfl, ht2, hk2⟩
  have hK2 := Lib.hid (hK1.out.trans hk2)
  have g2 := Lib.hid (g1.out.kept hk2 ht2)
  clear ht2 hk2 d1
  go_wp2_with fail
  rw [rounds_succ]
  have d2 : w2.cell? ⟨fb, 2, none⟩ = some (.func (.func 54) #[] #[.pointer (some ⟨b3, 0, none⟩)]) := g2.out.f.cell 2
  go_wp2_with fail
  refine (C2.out _ g2.out).mono ?_
  rintro _ w3 ⟨rfl, ht3, hk3⟩
  have hK3 := Lib.hid (hK2.out.trans hk3)
  have g3 := Lib.hid (g2.out.kept hk3 ht3)
  clear ht3 hk3 d2
  go_wp2_with fail
  rw [rounds_succ]
  have d3 : w3.cell? ⟨fb, 3, none⟩ = some (.func (.func 54) #[] #[.pointer (some ⟨b4, 0, none⟩)]) := g3.out.f.cell 3
  go_wp2_with fail
  refine (C3.out _ g3.out).mono ?_
  rintro _ w4 ⟨rfl, ht4, hk4⟩
  have hK4 := Lib.hid (hK3.out.trans hk4)
  clear ht4 hk4 d3
  go_wp2_with fail
  go_ret2
  exact ⟨⟨er, her, rfl⟩, hK4.out⟩
set_option maxRecDepth 100000 in
set_option maxHeartbeats 4000000 in
theorem read_4 (tb fb b1 b2 b3 b4 b5 : Nat) (s : ByteArray) (w : World) (h : RdS w tb fb b1 b2 b3 b4 b5 [.string ⟨#[]⟩, .int .i64 0, .int .i64 0, .int .i64 0, .bool false]) (hs : s.size ≤ 100000) (nm : ByteArray) (p0 : Nat) (v1 : Int) (p1 : Nat) (v2 : Int) (p2 : Nat) (v3 : Int) (p3 : Nat) (h0 : txAt s 0 = some (nm, p0)) (h1 : chAt s.data.toList p0 = some (v1, p1)) (h2 : chAt s.data.toList p1 = some (v2, p2)) (h3 : chAt s.data.toList p2 = some (v3, p3)) (h4 : flagAt s.data.toList p3 = none) :
    Calls Try.prog 39 #[.string s, .slice (some ⟨fb, 0, none⟩) 5 5] w fun r w' => ((∃ er : Int, er ≠ 0 ∧ r = .returned (.tuple #[.int .i64 0, .int .i64 er]))) ∧ Kept (fun q => q = tb) w w' := by
  have hsl : s.data.toList.length = s.size := by simp
  have eg1 : ∀ args W, (callFunc 52 args).run Try.prog W = .ok (.enter 52 args) W := fun _ _ => by kernel_rfl
  have eg2 : ∀ args W, (callFunc 54 args).run Try.prog W = .ok (.enter 54 args) W := fun _ _ => by kernel_rfl
  have eg3 : ∀ args W, (callFunc 56 args).run Try.prog W = .ok (.enter 56 args) W := fun _ _ => by kernel_rfl
  obtain ⟨hU0, hp0⟩ := txAt_yes h0
  have z0 := fun W => slice_from0 s W
  rw [ext_all] at hU0
  have C0 := Lib.hid (fun W (hW : RdS W tb fb b1 b2 b3 b4 b5 [.string ⟨#[]⟩, .int .i64 0, .int .i64 0, .int .i64 0, .bool false]) => nameF_any b1 tb s nm (p0 : Int) 0 _ _ _ _ _ W hW.p1 hW.t hW.n1 hs hU0)
  have z1 := slice_from22 s p0 hp0
  obtain ⟨n1, hU1, hq1, hp1, vl1, vh1⟩ := chAt_yes h1 (by omega)
  have C1 := Lib.hid (fun W (hW : RdS W tb fb b1 b2 b3 b4 b5 [.string nm, .int .i64 0, .int .i64 0, .int .i64 0, .bool false]) => numberF_any b2 tb 1 (s.extract p0 s.size) v1 (n1 : Int) 0 _ W hW.p2 hW.t (by simp) (ext_le s _ hs) (by rw [ext_drop]; exact hU1))
  have hw1 : IntKind.i64.wrap ((p0 : Int) + (n1 : Int)) = (p1 : Int) := by rw [IntWalk.i64_in _ (by omega)]; omega
  have z2 := slice_from22 s p1 (by omega)
  obtain ⟨n2, hU2, hq2, hp2, vl2, vh2⟩ := chAt_yes h2 (by omega)
  have C2 := Lib.hid (fun W (hW : RdS W tb fb b1 b2 b3 b4 b5 [.string nm, .int .i64 (wrap64 v1), .int .i64 0, .int .i64 0, .bool false]) => numberF_any b3 tb 2 (s.extract p1 s.size) v2 (n2 : Int) 0 _ W hW.p3 hW.t (by simp) (ext_le s _ hs) (by rw [ext_drop]; exact hU2))
  have hw2 : IntKind.i64.wrap ((p1 : Int) + (n2 : Int)) = (p2 : Int) := by rw [IntWalk.i64_in _ (by omega)]; omega
  have z3 := slice_from22 s p2 (by omega)
  obtain ⟨n3, hU3, hq3, hp3, vl3, vh3⟩ := chAt_yes h3 (by omega)
  have C3 := Lib.hid (fun W (hW : RdS W tb fb b1 b2 b3 b4 b5 [.string nm, .int .i64 (wrap64 v1), .int .i64 (wrap64 v2), .int .i64 0, .bool false]) => numberF_any b4 tb 3 (s.extract p2 s.size) v3 (n3 : Int) 0 _ W hW.p4 hW.t (by simp) (ext_le s _ hs) (by rw [ext_drop]; exact hU3))
  have hw3 : IntKind.i64.wrap ((p2 : Int) + (n3 : Int)) = (p3 : Int) := by rw [IntWalk.i64_in _ (by omega)]; omega
  have z4 := slice_from22 s p3 (by omega)
  have hfl : flagAt (s.extract p3 s.size).data.toList 0 = flagAt s.data.toList p3 := by rw [ext_drop]; unfold flagAt; rw [List.getElem?_drop, Nat.add_zero]
  have her2 : ((4 : Int) != 0) = true := rfl
  have C4 := Lib.hid (fun W => flagF_no b5 (s.extract p3 s.size) W (by rw [hfl]; exact h4))
  have hK0 := Lib.hid (Kept.refl (fun q => q = tb) w)
  replace h := Lib.hid h
  clear hU0 hU1 hU2 hU3 h0 h1 h2 h3 h4 hq1 vl1 vh1 hq2 vl2 vh2 hq3 vl3 vh3 hfl
  go_enter Try.func39, Try.ntmps39
  go_wp2_with fail
  refine wp_loop_rounds 6 ?_
  rw [rounds_succ]
  have d0 : w.cell? ⟨fb, 0, none⟩ = some (.func (.func 52) #[] #[.pointer (some ⟨b1, 0, none⟩)]) := h.out.f.cell 0
  go_wp2_with fail
  refine (C0.out _ h.out).mono ?_
  rintro _ w1 ⟨rfl, ht1, hk1⟩
  have hK1 := Lib.hid (hK0.out.trans hk1)
  have g1 := Lib.hid (h.out.kept hk1 ht1)
  clear ht1 hk1 d0
  go_wp2_with fail
  rw [rounds_succ]
  have d1 : w1.cell? ⟨fb, 1, none⟩ = some (.func (.func 54) #[] #[.pointer (some ⟨b2, 0, none⟩)]) := g1.out.f.cell 1
  go_wp2_with fail
  refine (C1.out _ g1.out).mono ?_
  rintro _ w2 ⟨rfl, ht2, hk2⟩
  have hK2 := Lib.hid (hK1.out.trans hk2)
  have g2 := Lib.hid (g1.out.kept hk2 ht2)
  clear ht2 hk2 d1
  go_wp2_with fail
  rw [rounds_succ]
  have d2 : w2.cell? ⟨fb, 2, none⟩ = some (.func (.func 54) #[] #[.pointer (some ⟨b3, 0, none⟩)]) := g2.out.f.cell 2
  go_wp2_with fail
  refine (C2.out _ g2.out).mono ?_
  rintro _ w3 ⟨rfl, ht3, hk3⟩
  have hK3 := Lib.hid (hK2.out.trans hk3)
  have g3 := Lib.hid (g2.out.kept hk3 ht3)
  clear ht3 hk3 d2
  go_wp2_with fail
  rw [rounds_succ]
  have d3 : w3.cell? ⟨fb, 3, none⟩ = some (.func (.func 54) #[] #[.pointer (some ⟨b4, 0, none⟩)]) := g3.out.f.cell 3
  go_wp2_with fail
  refine (C3.out _ g3.out).mono ?_
  rintro _ w4 ⟨rfl, ht4, hk4⟩
  have hK4 := Lib.hid (hK3.out.trans hk4)
  have g4 := Lib.hid (g3.out.kept hk4 ht4)
  clear ht4 hk4 d3
  go_wp2_with fail
  rw [rounds_succ]
  have d4 : w4.cell? ⟨fb, 4, none⟩ = some (.func (.func 56) #[] #[.pointer (some ⟨b5, 0, none⟩)]) := g4.out.f.cell 4
  go_wp2_with fail
  refine (C4.out _).mono ?_
  rintro _ w5 ⟨rfl, rfl⟩
  clear d4
  go_wp2_with fail
  go_ret2
  exact ⟨⟨4, by omega, rfl⟩, hK4.out⟩
set_option maxRecDepth 100000 in
set_option maxHeartbeats 4000000 in
theorem read_5 (tb fb b1 b2 b3 b4 b5 : Nat) (s : ByteArray) (w : World) (h : RdS w tb fb b1 b2 b3 b4 b5 [.string ⟨#[]⟩, .int .i64 0, .int .i64 0, .int .i64 0, .bool false]) (hs : s.size ≤ 100000) (nm : ByteArray) (p0 : Nat) (v1 : Int) (p1 : Nat) (v2 : Int) (p2 : Nat) (v3 : Int) (p3 : Nat) (fl : Nat) (h0 : txAt s 0 = some (nm, p0)) (h1 : chAt s.data.toList p0 = some (v1, p1)) (h2 : chAt s.data.toList p1 = some (v2, p2)) (h3 : chAt s.data.toList p2 = some (v3, p3)) (h4 : flagAt s.data.toList p3 = some fl) :
    Calls Try.prog 39 #[.string s, .slice (some ⟨fb, 0, none⟩) 5 5] w fun r w' => (r = .returned (.tuple #[.int .i64 ((p3 + 1 : Nat) : Int), .int .i64 0]) ∧ Whole w' tb 34 [.string nm, .int .i64 (wrap64 v1), .int .i64 (wrap64 v2), .int .i64 (wrap64 v3), .bool (decide (fl = 1))]) ∧ Kept (fun q => q = tb) w w' := by
  have hsl : s.data.toList.length = s.size := by simp
  have eg1 : ∀ args W, (callFunc 52 args).run Try.prog W = .ok (.enter 52 args) W := fun _ _ => by kernel_rfl
  have eg2 : ∀ args W, (callFunc 54 args).run Try.prog W = .ok (.enter 54 args) W := fun _ _ => by kernel_rfl
  have eg3 : ∀ args W, (callFunc 56 args).run Try.prog W = .ok (.enter 56 args) W := fun _ _ => by kernel_rfl
  obtain ⟨hU0, hp0⟩ := txAt_yes h0
  have z0 := fun W => slice_from0 s W
  rw [ext_all] at hU0
  have C0 := Lib.hid (fun W (hW : RdS W tb fb b1 b2 b3 b4 b5 [.string ⟨#[]⟩, .int .i64 0, .int .i64 0, .int .i64 0, .bool false]) => nameF_any b1 tb s nm (p0 : Int) 0 _ _ _ _ _ W hW.p1 hW.t hW.n1 hs hU0)
  have z1 := slice_from22 s p0 hp0
  obtain ⟨n1, hU1, hq1, hp1, vl1, vh1⟩ := chAt_yes h1 (by omega)
  have C1 := Lib.hid (fun W (hW : RdS W tb fb b1 b2 b3 b4 b5 [.string nm, .int .i64 0, .int .i64 0, .int .i64 0, .bool false]) => numberF_any b2 tb 1 (s.extract p0 s.size) v1 (n1 : Int) 0 _ W hW.p2 hW.t (by simp) (ext_le s _ hs) (by rw [ext_drop]; exact hU1))
  have hw1 : IntKind.i64.wrap ((p0 : Int) + (n1 : Int)) = (p1 : Int) := by rw [IntWalk.i64_in _ (by omega)]; omega
  have z2 := slice_from22 s p1 (by omega)
  obtain ⟨n2, hU2, hq2, hp2, vl2, vh2⟩ := chAt_yes h2 (by omega)
  have C2 := Lib.hid (fun W (hW : RdS W tb fb b1 b2 b3 b4 b5 [.string nm, .int .i64 (wrap64 v1), .int .i64 0, .int .i64 0, .bool false]) => numberF_any b3 tb 2 (s.extract p1 s.size) v2 (n2 : Int) 0 _ W hW.p3 hW.t (by simp) (ext_le s _ hs) (by rw [ext_drop]; exact hU2))
  have hw2 : IntKind.i64.wrap ((p1 : Int) + (n2 : Int)) = (p2 : Int) := by rw [IntWalk.i64_in _ (by omega)]; omega
  have z3 := slice_from22 s p2 (by omega)
  obtain ⟨n3, hU3, hq3, hp3, vl3, vh3⟩ := chAt_yes h3 (by omega)
  have C3 := Lib.hid (fun W (hW : RdS W tb fb b1 b2 b3 b4 b5 [.string nm, .int .i64 (wrap64 v1), .int .i64 (wrap64 v2), .int .i64 0, .bool false]) => numberF_any b4 tb 3 (s.extract p2 s.size) v3 (n3 : Int) 0 _ W hW.p4 hW.t (by simp) (ext_le s _ hs) (by rw [ext_drop]; exact hU3))
  have hw3 : IntKind.i64.wrap ((p2 : Int) + (n3 : Int)) = (p3 : Int) := by rw [IntWalk.i64_in _ (by omega)]; omega
  have z4 := slice_from22 s p3 (by omega)
  have hfl : flagAt (s.extract p3 s.size).data.toList 0 = flagAt s.data.toList p3 := by rw [ext_drop]; unfold flagAt; rw [List.getElem?_drop, Nat.add_zero]
  have C4 := Lib.hid (fun W (hW : RdS W tb fb b1 b2 b3 b4 b5 [.string nm, .int .i64 (wrap64 v1), .int .i64 (wrap64 v2), .int .i64 (wrap64 v3), .bool false]) => flagF_yes b5 tb (s.extract p3 s.size) fl _ _ _ _ _ W hW.p5 hW.t (by rw [hfl]; exact h4))
  have hw4 : IntKind.i64.wrap ((p3 : Int) + 1) = ((p3 + 1 : Nat) : Int) := by rw [IntWalk.i64_in _ (by omega)]; omega
  have hK0 := Lib.hid (Kept.refl (fun q => q = tb) w)
  replace h := Lib.hid h
  clear hU0 hU1 hU2 hU3 h0 h1 h2 h3 h4 hq1 vl1 vh1 hq2 vl2 vh2 hq3 vl3 vh3 hfl
  go_enter Try.func39, Try.ntmps39
  go_wp2_with fail
  refine wp_loop_rounds 6 ?_
  rw [rounds_succ]
  have d0 : w.cell? ⟨fb, 0, none⟩ = some (.func (.func 52) #[] #[.pointer (some ⟨b1, 0, none⟩)]) := h.out.f.cell 0
  go_wp2_with fail
  refine (C0.out _ h.out).mono ?_
  rintro _ w1 ⟨rfl, ht1, hk1⟩
  have hK1 := Lib.hid (hK0.out.trans hk1)
  have g1 := Lib.hid (h.out.kept hk1 ht1)
  clear ht1 hk1 d0
  go_wp2_with fail
  rw [rounds_succ]
  have d1 : w1.cell? ⟨fb, 1, none⟩ = some (.func (.func 54) #[] #[.pointer (some ⟨b2, 0, none⟩)]) := g1.out.f.cell 1
  go_wp2_with fail
  refine (C1.out _ g1.out).mono ?_
  rintro _ w2 ⟨rfl, ht2, hk2⟩
  have hK2 := Lib.hid (hK1.out.trans hk2)
  have g2 := Lib.hid (g1.out.kept hk2 ht2)
  clear ht2 hk2 d1
  go_wp2_with fail
  rw [rounds_succ]
  have d2 : w2.cell? ⟨fb, 2, none⟩ = some (.func (.func 54) #[] #[.pointer (some ⟨b3, 0, none⟩)]) := g2.out.f.cell 2
  go_wp2_with fail
  refine (C2.out _ g2.out).mono ?_
  rintro _ w3 ⟨rfl, ht3, hk3⟩
  have hK3 := Lib.hid (hK2.out.trans hk3)
  have g3 := Lib.hid (g2.out.kept hk3 ht3)
  clear ht3 hk3 d2
  go_wp2_with fail
  rw [rounds_succ]
  have d3 : w3.cell? ⟨fb, 3, none⟩ = some (.func (.func 54) #[] #[.pointer (some ⟨b4, 0, none⟩)]) := g3.out.f.cell 3
  go_wp2_with fail
  refine (C3.out _ g3.out).mono ?_
  rintro _ w4 ⟨rfl, ht4, hk4⟩
  have hK4 := Lib.hid (hK3.out.trans hk4)
  have g4 := Lib.hid (g3.out.kept hk4 ht4)
  clear ht4 hk4 d3
  go_wp2_with fail
  rw [rounds_succ]
  have d4 : w4.cell? ⟨fb, 4, none⟩ = some (.func (.func 56) #[] #[.pointer (some ⟨b5, 0, none⟩)]) := g4.out.f.cell 4
  go_wp2_with fail
  refine (C4.out _ g4.out).mono ?_
  rintro _ w5 ⟨rfl, ht5, hk5⟩
  have hK5 := Lib.hid (hK4.out.trans hk5)
  have g5 := Lib.hid (g4.out.kept hk5 ht5)
  clear ht5 hk5 d4
  go_wp2_with fail
  rw [rounds_succ]
  go_wp2_with fail
  go_ret2
  exact ⟨⟨rfl, g5.out.t⟩, hK5.out⟩
end Go.Proofs.Ytpfnpfbimadjkaa.W
