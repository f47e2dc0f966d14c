/- Layer 22: the fields' readers, and read. Layer 22: Decode. -/
import Derived.Test.YtgogackkeodciaaGreatTpD
import Derived.Laws.EntriesVeiled
import Derived.Deep.RegionHeld3
section
namespace Go.Proofs.YtgogackkeodciaaGreat.W
open Go.RowKit Go.Sort
open Go.Proofs.YtgogackkeodciaaGreat.M Go.Proofs.YtgogackkeodciaaGreat.D Go.Proofs.YtgogackkeodciaaGreat.Z
set_option linter.unusedVariables false
set_option linter.unusedSimpArgs false

theorem cellFarT {w : World} {b x i o : Nat} {u v : Value} (h : w.cell? ⟨x, i, none⟩ = some v) (hne : x ≠ b) : (w.setCell ⟨b, o, none⟩ u).cell? ⟨x, i, none⟩ = some v :=
  (World.cell?_of_block (heap_setCells_far b hne [u] o w)).trans h
theorem slice_from0 (s : ByteArray) (W : World) : (Instr.sliceAt 9 (.string s) (some (.int .i64 0)) none none).run Tryz.prog W = .ok (.string s) W := by
  have h1 : (0 : Int) ≤ (s.size : Int) := by omega
  simp [go_sem, h1, Tryz.underlying9, ext_all]
theorem ext_le (s : ByteArray) (p : Nat) (hs : s.size ≤ 100000) : (s.extract p s.size).size ≤ 100000 := by rw [ByteArray.size_extract]; omega
theorem slice_from22 (s : ByteArray) (p : Nat) (hp : p ≤ s.size) (W : World) : (Instr.sliceAt 9 (.string s) (some (.int .i64 (p : Int))) none none).run Tryz.prog W = .ok (.string (s.extract p s.size)) W := by
  have h1 : (p : Int) ≤ (s.size : Int) := by omega
  simp [go_sem, h1, Tryz.underlying9]
set_option maxRecDepth 100000 in
set_option maxHeartbeats 4000000 in
theorem nameF_any (b tb : Nat) (s x : ByteArray) (n e : Int) (c0 c1 c2 c3 c4 : Value) (w : World) (hb : Whole w b 201 [.pointer (some ⟨tb, 0, none⟩)]) (ht : Whole w tb 31 [c0, c1, c2, c3, c4]) (hne : b ≠ tb) (hs : s.size ≤ 100000) (hu : untx s = (x, n, e)) :
    Calls Tryz.prog 132 #[.string s, .pointer (some ⟨b, 0, none⟩)] w fun r w' => r = .returned (.tuple #[.int .i64 n, .int .i64 e]) ∧ Whole w' tb 31 [.string x, c1, c2, c3, c4] ∧ Kept (fun q => q = tb) w w' := by
  have hun := fun W => untext_any s W (by omega)
  rw [hu] at hun
  replace hun := Lib.hid hun
  have p0 : w.cell? ⟨b, 0, none⟩ = some (.pointer (some ⟨tb, 0, none⟩)) := hb.cell 0
  have hD : Below w.heap.size w w.drew := (Below.refl _ _).drew
  have htd := Lib.hid ht
  have hfin : Hid (∀ W, Below w.heap.size w W → (W.cell? ⟨tb, 0, none⟩ = some c0 ∧ W.frozen? ⟨tb, 0, none⟩ = false) ∧ Whole (W.setCell ⟨tb, 0, none⟩ (.string x)) tb 31 [.string x, c1, c2, c3, c4] ∧ Kept (fun q => q = tb) w (W.setCell ⟨tb, 0, none⟩ (.string x))) := Lib.hid (fun W hW => by
    have h1 := htd.out.below hW htd.out.lt
    exact ⟨⟨h1.cell 0, h1.frozen 0⟩, h1.store 0 [.string x] (by simp), (show Kept (fun q => q = tb) w W from Kept.of_below hW).setCells (c := tb) (.inl rfl) 0 [.string x]⟩)
  clear hb ht hu
  go_enter Tryz.func132, Tryz.ntmps132
  go_wp2_with fail
  go_region_held3 (fun w' => w'.cell? ⟨b, 0, none⟩ = some (.pointer (some ⟨tb, 0, none⟩))) (first | assumption | exact cellFarT d0 hne | (go_keep)) (first
    | (go_at_call 112; (with_reducible refine (hun.out _).mono ?_); rintro _ w2 ⟨rfl, hb2⟩; have hB2 := grew hD hb2; have d0 := keepZ hB2 p0; obtain ⟨⟨z0, z1⟩, hF1, hF2⟩ := hfin.out w2 hB2; replace hF1 := Lib.hid hF1; replace hF2 := Lib.hid hF2; replace hB2 := Lib.hid hB2; replace hb2 := Lib.hid hb2))
  all_goals
    go_wp2_with fail
    go_ret2
    exact ⟨rfl, hF1.out, hF2.out⟩
theorem splice_one (cs : List Value) (k : Nat) (v : Value) (h : k < cs.length) : splice cs k [v] = cs.set k v := by
  unfold splice
  rw [List.set_eq_take_append_cons_drop, if_pos h]
  rfl
set_option maxRecDepth 100000 in
set_option maxHeartbeats 4000000 in
theorem numberF_any (b tb k : Nat) (s : ByteArray) (v n e : Int) (cs : List Value) (w : World) (hb : Whole w b 191 [.pointer (some ⟨tb, k, none⟩)]) (ht : Whole w tb 31 cs) (hk : k < cs.length) (hs : s.size ≤ 100000) (hu : unch s.data.toList = (v, n, e)) :
    Calls Tryz.prog 133 #[.string s, .pointer (some ⟨b, 0, none⟩)] w fun r w' => r = .returned (.tuple #[.int .i64 n, .int .i64 e]) ∧ Whole w' tb 31 (cs.set k (.int .i64 (wrap64 v))) ∧ Kept (fun q => q = tb) w w' := by
  have hun := fun W => unchain_any s W (by omega)
  rw [hu] at hun
  replace hun := Lib.hid hun
  have p0 : w.cell? ⟨b, 0, none⟩ = some (.pointer (some ⟨tb, k, none⟩)) := hb.cell 0
  obtain ⟨ck, hck⟩ : ∃ c, cs[k]? = some c := ⟨_, List.getElem?_eq_getElem hk⟩
  have z0 : w.cell? ⟨tb, k, none⟩ = some ck := (ht.cell k).trans hck
  have z1 : w.frozen? ⟨tb, k, none⟩ = false := ht.frozen k
  have hfin : Hid (Whole (w.setCell ⟨tb, k, none⟩ (.int .i64 (wrap64 v))) tb 31 (cs.set k (.int .i64 (wrap64 v))) ∧ Kept (fun q => q = tb) w (w.setCell ⟨tb, k, none⟩ (.int .i64 (wrap64 v)))) := Lib.hid ⟨by
    have := ht.store k [.int .i64 (wrap64 v)] (by simp; omega)
    rw [splice_one cs k _ hk] at this
    exact this, (Kept.refl (fun q => q = tb) w).setCells (c := tb) (.inl rfl) k [.int .i64 (wrap64 v)]⟩
  clear hb ht hu hck hk
  go_enter Tryz.func133, Tryz.ntmps133
  go_wp2_with fail
  refine (hun.out _).mono ?_
  rintro _ w2 ⟨rfl, rfl⟩
  go_wp2_with fail
  go_ret2
  exact ⟨rfl, hfin.out⟩
set_option maxRecDepth 100000 in
set_option maxHeartbeats 4000000 in
theorem flagF_no (b : Nat) (s : ByteArray) (w : World) (hu : flagAt s.data.toList 0 = none) :
    Calls Tryz.prog 134 #[.string s, .pointer (some ⟨b, 0, none⟩)] w fun r w' => r = .returned (.tuple #[.int .i64 0, .int .i64 4]) ∧ w = w' := by
  by_cases h0 : s.size = 0
  · have e1 : s.toList = [] := (toList_nil s).2 h0
    have e2 : s.toList.isEmpty = true := by rw [e1]; rfl
    clear hu h0
    go_enter Tryz.func134, Tryz.ntmps134
    go_wp2_with fail
    go_ret2
    exact ⟨rfl, rfl⟩
  · have e1 : ¬ s.toList = [] := fun h => h0 ((toList_nil s).1 h)
    have e2 : s.toList.isEmpty = false := by simpa using e1
    have hpos : 0 < s.size := by omega
    have hix := idx_nat (P := Tryz.prog) 9 Tryz.underlying9 s .i64 0 hpos
    have hl0 : 0 < s.data.toList.length := by simpa using hpos
    have hb1 : 1 < bt s.data.toList 0 := by
      unfold flagAt at hu
      rw [List.getElem?_eq_getElem hl0] at hu
      dsimp only at hu
      rw [bt_get _ 0 _ (List.getElem?_eq_getElem hl0)]
      by_cases hx : (s.data.toList[0]).toNat ≤ 1
      · rw [if_pos hx] at hu; cases hu
      · omega
    obtain ⟨f, hf⟩ : ∃ f, Hid (bt s.data.toList 0 = f) := ⟨_, Lib.hid rfl⟩
    rw [hf.out] at hb1 hix
    have hb1i : (1 : Int) < (f : Int) := by omega
    simp only [Int.natCast_zero] at hix
    clear hu h0 hl0 hpos
    go_enter Tryz.func134, Tryz.ntmps134
    go_wp2_with fail
    go_ret2
    exact ⟨rfl, rfl⟩
set_option maxRecDepth 100000 in
set_option maxHeartbeats 4000000 in
theorem flagF_yes (b tb : Nat) (s : ByteArray) (f : Nat) (c0 c1 c2 c3 c4 : Value) (w : World) (hb : Whole w b 204 [.pointer (some ⟨tb, 4, none⟩)]) (ht : Whole w tb 31 [c0, c1, c2, c3, c4]) (hu : flagAt s.data.toList 0 = some f) :
    Calls Tryz.prog 134 #[.string s, .pointer (some ⟨b, 0, none⟩)] w fun r w' => r = .returned (.tuple #[.int .i64 1, .int .i64 0]) ∧ Whole w' tb 31 [c0, c1, c2, c3, .bool (decide (f = 1))] ∧ Kept (fun q => q = tb) w w' := by
  obtain ⟨hpos, hbt, hf1⟩ : 0 < s.size ∧ bt s.data.toList 0 = f ∧ f ≤ 1 := by
    unfold flagAt at hu
    cases hl : s.data.toList[0]? with
    | none => rw [hl] at hu; cases hu
    | some x =>
      rw [hl] at hu
      dsimp only at hu
      have hp := (List.getElem?_eq_some_iff.1 hl).1
      by_cases hx : x.toNat ≤ 1
      · rw [if_pos hx] at hu
        cases hu
        exact ⟨by simpa using hp, bt_get _ 0 _ hl, hx⟩
      · rw [if_neg hx] at hu; cases hu
  have e1 : ¬ s.toList = [] := fun h => by have := (toList_nil s).1 h; omega
  have e2 : s.toList.isEmpty = false := by simpa using e1
  have hix := idx_nat (P := Tryz.prog) 9 Tryz.underlying9 s .i64 0 hpos
  rw [hbt] at hix
  simp only [Int.natCast_zero] at hix
  have p0 : w.cell? ⟨b, 0, none⟩ = some (.pointer (some ⟨tb, 4, none⟩)) := hb.cell 0
  have z0 : w.cell? ⟨tb, 4, none⟩ = some c4 := ht.cell 4
  have z1 : w.frozen? ⟨tb, 4, none⟩ = false := ht.frozen 4
  have hfi : (f : Int) ≤ 1 := by omega
  obtain ⟨B, hB⟩ : ∃ B, Hid (decide (f = 1) = B) := ⟨_, Lib.hid rfl⟩
  have hBe : ((f : Int) == 1) = B := by rw [← hB.out, Bool.eq_iff_iff]; simp; omega
  have hBd : decide ((f : Int) = 1) = B := by rw [← hB.out, Bool.eq_iff_iff]; simp; omega
  rw [hB.out]
  have hfin : Hid (∀ d, Whole ((w.drewN d).setCell ⟨tb, 4, none⟩ (.bool B)) tb 31 [c0, c1, c2, c3, .bool B] ∧ Kept (fun q => q = tb) w ((w.drewN d).setCell ⟨tb, 4, none⟩ (.bool B))) := Lib.hid (fun d => ⟨(ht.drewN d).store 4 [.bool B] (by simp), ((Kept.refl (fun q => q = tb) w).drewN d).setCells (c := tb) (.inl rfl) 4 [.bool B]⟩)
  clear hb ht hu hpos hbt
  go_enter Tryz.func134, Tryz.ntmps134
  go_wp2_with fail
  go_region
  all_goals
    go_wp2_with fail
    go_ret2
    exact ⟨rfl, hfin.out 1⟩
/-- What read is told of: the topic that is read, the readers, each with its place. -/
structure RdS (W : World) (tb fb b1 b2 b3 b4 b5 : Nat) (cs : List Value) : Prop where
  t : Whole W tb 31 cs
  f : Whole W fb 199 [(.func (.func 132) #[] #[.pointer (some ⟨b1, 0, none⟩)]), (.func (.func 133) #[] #[.pointer (some ⟨b2, 0, none⟩)]), (.func (.func 133) #[] #[.pointer (some ⟨b3, 0, none⟩)]), (.func (.func 133) #[] #[.pointer (some ⟨b4, 0, none⟩)]), (.func (.func 134) #[] #[.pointer (some ⟨b5, 0, none⟩)])]
  p1 : Whole W b1 201 [.pointer (some ⟨tb, 0, none⟩)]
  p2 : Whole W b2 191 [.pointer (some ⟨tb, 1, none⟩)]
  p3 : Whole W b3 191 [.pointer (some ⟨tb, 2, none⟩)]
  p4 : Whole W b4 191 [.pointer (some ⟨tb, 3, none⟩)]
  p5 : Whole W b5 204 [.pointer (some ⟨tb, 4, none⟩)]
  nf : fb ≠ tb
  n1 : b1 ≠ tb
  n2 : b2 ≠ tb
  n3 : b3 ≠ tb
  n4 : b4 ≠ tb
  n5 : b5 ≠ tb
theorem RdS.kept {W W' : World} {tb fb b1 b2 b3 b4 b5 : Nat} {cs cs' : List Value} (h : RdS W tb fb b1 b2 b3 b4 b5 cs) (hk : Kept (fun q => q = tb) W W') (ht : Whole W' tb 31 cs') : RdS W' tb fb b1 b2 b3 b4 b5 cs' :=
  ⟨ht, h.f.of_kept hk h.nf, h.p1.of_kept hk h.n1, h.p2.of_kept hk h.n2, h.p3.of_kept hk h.n3, h.p4.of_kept hk h.n4, h.p5.of_kept hk h.n5, h.nf, h.n1, h.n2, h.n3, h.n4, h.n5⟩
set_option maxRecDepth 100000 in
set_option maxHeartbeats 4000000 in
theorem read_0 (tb fb b1 b2 b3 b4 b5 : Nat) (s : ByteArray) (w : World) (h : RdS w tb fb b1 b2 b3 b4 b5 [.string ⟨#[]⟩, .int .i64 0, .int .i64 0, .int .i64 0, .bool false]) (hs : s.size ≤ 100000)   (h0 : txAt s 0 = none) :
    Calls Tryz.prog 122 #[.string s, .slice (some ⟨fb, 0, none⟩) 5 5] w fun r w' => ((∃ er : Int, er ≠ 0 ∧ r = .returned (.tuple #[.int .i64 0, .int .i64 er]))) ∧ Kept (fun q => q = tb) w w' := by
  have hsl : s.data.toList.length = s.size := by simp
  have eg1 : ∀ args W, (callFunc 132 args).run Tryz.prog W = .ok (.enter 132 args) W := fun _ _ => by kernel_rfl
  have eg2 : ∀ args W, (callFunc 133 args).run Tryz.prog W = .ok (.enter 133 args) W := fun _ _ => by kernel_rfl
  have eg3 : ∀ args W, (callFunc 134 args).run Tryz.prog W = .ok (.enter 134 args) W := fun _ _ => by kernel_rfl
  obtain ⟨x, n, er, hU0, her⟩ := txAt_no h0
  have z0 := fun W => slice_from0 s W
  rw [ext_all] at hU0
  have her2 : (er != 0) = true := by simpa using her
  have C0 := Lib.hid (fun W (hW : RdS W tb fb b1 b2 b3 b4 b5 [.string ⟨#[]⟩, .int .i64 0, .int .i64 0, .int .i64 0, .bool false]) => nameF_any b1 tb s x n er _ _ _ _ _ W hW.p1 hW.t hW.n1 hs hU0)
  have hK0 := Lib.hid (Kept.refl (fun q => q = tb) w)
  replace h := Lib.hid h
  clear hU0 h0
  go_enter Tryz.func122, Tryz.ntmps122
  go_wp2_with fail
  refine wp_loop_rounds 6 ?_
  rw [rounds_succ]
  have d0 : w.cell? ⟨fb, 0, none⟩ = some (.func (.func 132) #[] #[.pointer (some ⟨b1, 0, none⟩)]) := h.out.f.cell 0
  go_wp2_with fail
  refine (C0.out _ h.out).mono ?_
  rintro _ w1 ⟨rfl, ht1, hk1⟩
  have hK1 := Lib.hid (hK0.out.trans hk1)
  clear ht1 hk1 d0
  go_wp2_with fail
  go_ret2
  exact ⟨⟨er, her, rfl⟩, hK1.out⟩
set_option maxRecDepth 100000 in
set_option maxHeartbeats 4000000 in
theorem read_1 (tb fb b1 b2 b3 b4 b5 : Nat) (s : ByteArray) (w : World) (h : RdS w tb fb b1 b2 b3 b4 b5 [.string ⟨#[]⟩, .int .i64 0, .int .i64 0, .int .i64 0, .bool false]) (hs : s.size ≤ 100000) (nm : ByteArray) (p0 : Nat) (h0 : txAt s 0 = some (nm, p0)) (h1 : chAt s.data.toList p0 = none) :
    Calls Tryz.prog 122 #[.string s, .slice (some ⟨fb, 0, none⟩) 5 5] w fun r w' => ((∃ er : Int, er ≠ 0 ∧ r = .returned (.tuple #[.int .i64 0, .int .i64 er]))) ∧ Kept (fun q => q = tb) w w' := by
  have hsl : s.data.toList.length = s.size := by simp
  have eg1 : ∀ args W, (callFunc 132 args).run Tryz.prog W = .ok (.enter 132 args) W := fun _ _ => by kernel_rfl
  have eg2 : ∀ args W, (callFunc 133 args).run Tryz.prog W = .ok (.enter 133 args) W := fun _ _ => by kernel_rfl
  have eg3 : ∀ args W, (callFunc 134 args).run Tryz.prog W = .ok (.enter 134 args) W := fun _ _ => by kernel_rfl
  obtain ⟨hU0, hp0⟩ := txAt_yes h0
  have z0 := fun W => slice_from0 s W
  rw [ext_all] at hU0
  have C0 := Lib.hid (fun W (hW : RdS W tb fb b1 b2 b3 b4 b5 [.string ⟨#[]⟩, .int .i64 0, .int .i64 0, .int .i64 0, .bool false]) => nameF_any b1 tb s nm (p0 : Int) 0 _ _ _ _ _ W hW.p1 hW.t hW.n1 hs hU0)
  have z1 := slice_from22 s p0 hp0
  obtain ⟨er, hU1, her⟩ := chAt_no h1
  have her2 : (er != 0) = true := by simpa using her
  have C1 := Lib.hid (fun W (hW : RdS W tb fb b1 b2 b3 b4 b5 [.string nm, .int .i64 0, .int .i64 0, .int .i64 0, .bool false]) => numberF_any b2 tb 1 (s.extract p0 s.size) 0 0 er _ W hW.p2 hW.t (by simp) (ext_le s _ hs) (by rw [ext_drop]; exact hU1))
  have hK0 := Lib.hid (Kept.refl (fun q => q = tb) w)
  replace h := Lib.hid h
  clear hU0 hU1 h0 h1
  go_enter Tryz.func122, Tryz.ntmps122
  go_wp2_with fail
  refine wp_loop_rounds 6 ?_
  rw [rounds_succ]
  have d0 : w.cell? ⟨fb, 0, none⟩ = some (.func (.func 132) #[] #[.pointer (some ⟨b1, 0, none⟩)]) := h.out.f.cell 0
  go_wp2_with fail
  refine (C0.out _ h.out).mono ?_
  rintro _ w1 ⟨rfl, ht1, hk1⟩
  have hK1 := Lib.hid (hK0.out.trans hk1)
  have g1 := Lib.hid (h.out.kept hk1 ht1)
  clear ht1 hk1 d0
  go_wp2_with fail
  rw [rounds_succ]
  have d1 : w1.cell? ⟨fb, 1, none⟩ = some (.func (.func 133) #[] #[.pointer (some ⟨b2, 0, none⟩)]) := g1.out.f.cell 1
  go_wp2_with fail
  refine (C1.out _ g1.out).mono ?_
  rintro _ w2 ⟨rfl, ht2, hk2⟩
  have hK2 := Lib.hid (hK1.out.trans hk2)
  clear ht2 hk2 d1
  go_wp2_with fail
  go_ret2
  exact ⟨⟨er, her, rfl⟩, hK2.out⟩
set_option maxRecDepth 100000 in
set_option maxHeartbeats 4000000 in
theorem read_2 (tb fb b1 b2 b3 b4 b5 : Nat) (s : ByteArray) (w : World) (h : RdS w tb fb b1 b2 b3 b4 b5 [.string ⟨#[]⟩, .int .i64 0, .int .i64 0, .int .i64 0, .bool false]) (hs : s.size ≤ 100000) (nm : ByteArray) (p0 : Nat) (v1 : Int) (p1 : Nat) (h0 : txAt s 0 = some (nm, p0)) (h1 : chAt s.data.toList p0 = some (v1, p1)) (h2 : chAt s.data.toList p1 = none) :
    Calls Tryz.prog 122 #[.string s, .slice (some ⟨fb, 0, none⟩) 5 5] w fun r w' => ((∃ er : Int, er ≠ 0 ∧ r = .returned (.tuple #[.int .i64 0, .int .i64 er]))) ∧ Kept (fun q => q = tb) w w' := by
  have hsl : s.data.toList.length = s.size := by simp
  have eg1 : ∀ args W, (callFunc 132 args).run Tryz.prog W = .ok (.enter 132 args) W := fun _ _ => by kernel_rfl
  have eg2 : ∀ args W, (callFunc 133 args).run Tryz.prog W = .ok (.enter 133 args) W := fun _ _ => by kernel_rfl
  have eg3 : ∀ args W, (callFunc 134 args).run Tryz.prog W = .ok (.enter 134 args) W := fun _ _ => by kernel_rfl
  obtain ⟨hU0, hp0⟩ := txAt_yes h0
  have z0 := fun W => slice_from0 s W
  rw [ext_all] at hU0
  have C0 := Lib.hid (fun W (hW : RdS W tb fb b1 b2 b3 b4 b5 [.string ⟨#[]⟩, .int .i64 0, .int .i64 0, .int .i64 0, .bool false]) => nameF_any b1 tb s nm (p0 : Int) 0 _ _ _ _ _ W hW.p1 hW.t hW.n1 hs hU0)
  have z1 := slice_from22 s p0 hp0
  obtain ⟨n1, hU1, hq1, hp1, vl1, vh1⟩ := chAt_yes h1 (by omega)
  have C1 := Lib.hid (fun W (hW : RdS W tb fb b1 b2 b3 b4 b5 [.string nm, .int .i64 0, .int .i64 0, .int .i64 0, .bool false]) => numberF_any b2 tb 1 (s.extract p0 s.size) v1 (n1 : Int) 0 _ W hW.p2 hW.t (by simp) (ext_le s _ hs) (by rw [ext_drop]; exact hU1))
  have hw1 : IntKind.i64.wrap ((p0 : Int) + (n1 : Int)) = (p1 : Int) := by rw [IntWalk.i64_in _ (by omega)]; omega
  have z2 := slice_from22 s p1 (by omega)
  obtain ⟨er, hU2, her⟩ := chAt_no h2
  have her2 : (er != 0) = true := by simpa using her
  have C2 := Lib.hid (fun W (hW : RdS W tb fb b1 b2 b3 b4 b5 [.string nm, .int .i64 (wrap64 v1), .int .i64 0, .int .i64 0, .bool false]) => numberF_any b3 tb 2 (s.extract p1 s.size) 0 0 er _ W hW.p3 hW.t (by simp) (ext_le s _ hs) (by rw [ext_drop]; exact hU2))
  have hK0 := Lib.hid (Kept.refl (fun q => q = tb) w)
  replace h := Lib.hid h
  clear hU0 hU1 hU2 h0 h1 h2 hq1 vl1 vh1
  go_enter Tryz.func122, Tryz.ntmps122
  go_wp2_with fail
  refine wp_loop_rounds 6 ?_
  rw [rounds_succ]
  have d0 : w.cell? ⟨fb, 0, none⟩ = some (.func (.func 132) #[] #[.pointer (some ⟨b1, 0, none⟩)]) := h.out.f.cell 0
  go_wp2_with fail
  refine (C0.out _ h.out).mono ?_
  rintro _ w1 ⟨rfl, ht1, hk1⟩
  have hK1 := Lib.hid (hK0.out.trans hk1)
  have g1 := Lib.hid (h.out.kept hk1 ht1)
  clear ht1 hk1 d0
  go_wp2_with fail
  rw [rounds_succ]
  have d1 : w1.cell? ⟨fb, 1, none⟩ = some (.func (.func 133) #[] #[.pointer (some ⟨b2, 0, none⟩)]) := g1.out.f.cell 1
  go_wp2_with fail
  refine (C1.out _ g1.out).mono ?_
  rintro _ w2 ⟨rfl, ht2, hk2⟩
  have hK2 := Lib.hid (hK1.out.trans hk2)
  have g2 := Lib.hid (g1.out.kept hk2 ht2)
  clear ht2 hk2 d1
  go_wp2_with fail
  rw [rounds_succ]
  have d2 : w2.cell? ⟨fb, 2, none⟩ = some (.func (.func 133) #[] #[.pointer (some ⟨b3, 0, none⟩)]) := g2.out.f.cell 2
  go_wp2_with fail
  refine (C2.out _ g2.out).mono ?_
  rintro _ w3 ⟨rfl, ht3, hk3⟩
  have hK3 := Lib.hid (hK2.out.trans hk3)
  clear ht3 hk3 d2
  go_wp2_with fail
  go_ret2
  exact ⟨⟨er, her, rfl⟩, hK3.out⟩
set_option maxRecDepth 100000 in
set_option maxHeartbeats 4000000 in
theorem read_3 (tb fb b1 b2 b3 b4 b5 : Nat) (s : ByteArray) (w : World) (h : RdS w tb fb b1 b2 b3 b4 b5 [.string ⟨#[]⟩, .int .i64 0, .int .i64 0, .int .i64 0, .bool false]) (hs : s.size ≤ 100000) (nm : ByteArray) (p0 : Nat) (v1 : Int) (p1 : Nat) (v2 : Int) (p2 : Nat) (h0 : txAt s 0 = some (nm, p0)) (h1 : chAt s.data.toList p0 = some (v1, p1)) (h2 : chAt s.data.toList p1 = some (v2, p2)) (h3 : chAt s.data.toList p2 = none) :
    Calls Tryz.prog 122 #[.string s, .slice (some ⟨fb, 0, none⟩) 5 5] w fun r w' => ((∃ er : Int, er ≠ 0 ∧ r = .returned (.tuple #[.int .i64 0, .int .i64 er]))) ∧ Kept (fun q => q = tb) w w' := by
  have hsl : s.data.toList.length = s.size := by simp
  have eg1 : ∀ args W, (callFunc 132 args).run Tryz.prog W = .ok (.enter 132 args) W := fun _ _ => by kernel_rfl
  have eg2 : ∀ args W, (callFunc 133 args).run Tryz.prog W = .ok (.enter 133 args) W := fun _ _ => by kernel_rfl
  have eg3 : ∀ args W, (callFunc 134 args).run Tryz.prog W = .ok (.enter 134 args) W := fun _ _ => by kernel_rfl
  obtain ⟨hU0, hp0⟩ := txAt_yes h0
  have z0 := fun W => slice_from0 s W
  rw [ext_all] at hU0
  have C0 := Lib.hid (fun W (hW : RdS W tb fb b1 b2 b3 b4 b5 [.string ⟨#[]⟩, .int .i64 0, .int .i64 0, .int .i64 0, .bool false]) => nameF_any b1 tb s nm (p0 : Int) 0 _ _ _ _ _ W hW.p1 hW.t hW.n1 hs hU0)
  have z1 := slice_from22 s p0 hp0
  obtain ⟨n1, hU1, hq1, hp1, vl1, vh1⟩ := chAt_yes h1 (by omega)
  have C1 := Lib.hid (fun W (hW : RdS W tb fb b1 b2 b3 b4 b5 [.string nm, .int .i64 0, .int .i64 0, .int .i64 0, .bool false]) => numberF_any b2 tb 1 (s.extract p0 s.size) v1 (n1 : Int) 0 _ W hW.p2 hW.t (by simp) (ext_le s _ hs) (by rw [ext_drop]; exact hU1))
  have hw1 : IntKind.i64.wrap ((p0 : Int) + (n1 : Int)) = (p1 : Int) := by rw [IntWalk.i64_in _ (by omega)]; omega
  have z2 := slice_from22 s p1 (by omega)
  obtain ⟨n2, hU2, hq2, hp2, vl2, vh2⟩ := chAt_yes h2 (by omega)
  have C2 := Lib.hid (fun W (hW : RdS W tb fb b1 b2 b3 b4 b5 [.string nm, .int .i64 (wrap64 v1), .int .i64 0, .int .i64 0, .bool false]) => numberF_any b3 tb 2 (s.extract p1 s.size) v2 (n2 : Int) 0 _ W hW.p3 hW.t (by simp) (ext_le s _ hs) (by rw [ext_drop]; exact hU2))
  have hw2 : IntKind.i64.wrap ((p1 : Int) + (n2 : Int)) = (p2 : Int) := by rw [IntWalk.i64_in _ (by omega)]; omega
  have z3 := slice_from22 s p2 (by omega)
  obtain ⟨er, hU3, her⟩ := chAt_no h3
  have her2 : (er != 0) = true := by simpa using her
  have C3 := Lib.hid (fun W (hW : RdS W tb fb b1 b2 b3 b4 b5 [.string nm, .int .i64 (wrap64 v1), .int .i64 (wrap64 v2), .int .i64 0, .bool false]) => numberF_any b4 tb 3 (s.extract p2 s.size) 0 0 er _ W hW.p4 hW.t (by simp) (ext_le s _ hs) (by rw [ext_drop]; exact hU3))
  have hK0 := Lib.hid (Kept.refl (fun q => q = tb) w)
  replace h := Lib.hid h
  clear hU0 hU1 hU2 hU3 h0 h1 h2 h3 hq1 vl1 vh1 hq2 vl2 vh2
  go_enter Tryz.func122, Tryz.ntmps122
  go_wp2_with fail
  refine wp_loop_rounds 6 ?_
  rw [rounds_succ]
  have d0 : w.cell? ⟨fb, 0, none⟩ = some (.func (.func 132) #[] #[.pointer (some ⟨b1, 0, none⟩)]) := h.out.f.cell 0
  go_wp2_with fail
  refine (C0.out _ h.out).mono ?_
  rintro _ w1 ⟨rfl, ht1, hk1⟩
  have hK1 := Lib.hid (hK0.out.trans hk1)
  have g1 := Lib.hid (h.out.kept hk1 ht1)
  clear ht1 hk1 d0
  go_wp2_with fail
  rw [rounds_succ]
  have d1 : w1.cell? ⟨fb, 1, none⟩ = some (.func (.func 133) #[] #[.pointer (some ⟨b2, 0, none⟩)]) := g1.out.f.cell 1
  go_wp2_with fail
  refine (C1.out _ g1.out).mono ?_
  rintro _ w2 ⟨rfl, ht2, hk2⟩
  have hK2 := Lib.hid (hK1.out.trans hk2)
  have g2 := Lib.hid (g1.out.kept hk2 ht2)
  clear ht2 hk2 d1
  go_wp2_with fail
  rw [rounds_succ]
  have d2 : w2.cell? ⟨fb, 2, none⟩ = some (.func (.func 133) #[] #[.pointer (some ⟨b3, 0, none⟩)]) := g2.out.f.cell 2
  go_wp2_with fail
  refine (C2.out _ g2.out).mono ?_
  rintro _ w3 ⟨rfl, ht3, hk3⟩
  have hK3 := Lib.hid (hK2.out.trans hk3)
  have g3 := Lib.hid (g2.out.kept hk3 ht3)
  clear ht3 hk3 d2
  go_wp2_with fail
  rw [rounds_succ]
  have d3 : w3.cell? ⟨fb, 3, none⟩ = some (.func (.func 133) #[] #[.pointer (some ⟨b4, 0, none⟩)]) := g3.out.f.cell 3
  go_wp2_with fail
  refine (C3.out _ g3.out).mono ?_
  rintro _ w4 ⟨rfl, ht4, hk4⟩
  have hK4 := Lib.hid (hK3.out.trans hk4)
  clear ht4 hk4 d3
  go_wp2_with fail
  go_ret2
  exact ⟨⟨er, her, rfl⟩, hK4.out⟩
set_option maxRecDepth 100000 in
set_option maxHeartbeats 4000000 in
theorem read_4 (tb fb b1 b2 b3 b4 b5 : Nat) (s : ByteArray) (w : World) (h : RdS w tb fb b1 b2 b3 b4 b5 [.string ⟨#[]⟩, .int .i64 0, .int .i64 0, .int .i64 0, .bool false]) (hs : s.size ≤ 100000) (nm : ByteArray) (p0 : Nat) (v1 : Int) (p1 : Nat) (v2 : Int) (p2 : Nat) (v3 : Int) (p3 : Nat) (h0 : txAt s 0 = some (nm, p0)) (h1 : chAt s.data.toList p0 = some (v1, p1)) (h2 : chAt s.data.toList p1 = some (v2, p2)) (h3 : chAt s.data.toList p2 = some (v3, p3)) (h4 : flagAt s.data.toList p3 = none) :
    Calls Tryz.prog 122 #[.string s, .slice (some ⟨fb, 0, none⟩) 5 5] w fun r w' => ((∃ er : Int, er ≠ 0 ∧ r = .returned (.tuple #[.int .i64 0, .int .i64 er]))) ∧ Kept (fun q => q = tb) w w' := by
  have hsl : s.data.toList.length = s.size := by simp
  have eg1 : ∀ args W, (callFunc 132 args).run Tryz.prog W = .ok (.enter 132 args) W := fun _ _ => by kernel_rfl
  have eg2 : ∀ args W, (callFunc 133 args).run Tryz.prog W = .ok (.enter 133 args) W := fun _ _ => by kernel_rfl
  have eg3 : ∀ args W, (callFunc 134 args).run Tryz.prog W = .ok (.enter 134 args) W := fun _ _ => by kernel_rfl
  obtain ⟨hU0, hp0⟩ := txAt_yes h0
  have z0 := fun W => slice_from0 s W
  rw [ext_all] at hU0
  have C0 := Lib.hid (fun W (hW : RdS W tb fb b1 b2 b3 b4 b5 [.string ⟨#[]⟩, .int .i64 0, .int .i64 0, .int .i64 0, .bool false]) => nameF_any b1 tb s nm (p0 : Int) 0 _ _ _ _ _ W hW.p1 hW.t hW.n1 hs hU0)
  have z1 := slice_from22 s p0 hp0
  obtain ⟨n1, hU1, hq1, hp1, vl1, vh1⟩ := chAt_yes h1 (by omega)
  have C1 := Lib.hid (fun W (hW : RdS W tb fb b1 b2 b3 b4 b5 [.string nm, .int .i64 0, .int .i64 0, .int .i64 0, .bool false]) => numberF_any b2 tb 1 (s.extract p0 s.size) v1 (n1 : Int) 0 _ W hW.p2 hW.t (by simp) (ext_le s _ hs) (by rw [ext_drop]; exact hU1))
  have hw1 : IntKind.i64.wrap ((p0 : Int) + (n1 : Int)) = (p1 : Int) := by rw [IntWalk.i64_in _ (by omega)]; omega
  have z2 := slice_from22 s p1 (by omega)
  obtain ⟨n2, hU2, hq2, hp2, vl2, vh2⟩ := chAt_yes h2 (by omega)
  have C2 := Lib.hid (fun W (hW : RdS W tb fb b1 b2 b3 b4 b5 [.string nm, .int .i64 (wrap64 v1), .int .i64 0, .int .i64 0, .bool false]) => numberF_any b3 tb 2 (s.extract p1 s.size) v2 (n2 : Int) 0 _ W hW.p3 hW.t (by simp) (ext_le s _ hs) (by rw [ext_drop]; exact hU2))
  have hw2 : IntKind.i64.wrap ((p1 : Int) + (n2 : Int)) = (p2 : Int) := by rw [IntWalk.i64_in _ (by omega)]; omega
  have z3 := slice_from22 s p2 (by omega)
  obtain ⟨n3, hU3, hq3, hp3, vl3, vh3⟩ := chAt_yes h3 (by omega)
  have C3 := Lib.hid (fun W (hW : RdS W tb fb b1 b2 b3 b4 b5 [.string nm, .int .i64 (wrap64 v1), .int .i64 (wrap64 v2), .int .i64 0, .bool false]) => numberF_any b4 tb 3 (s.extract p2 s.size) v3 (n3 : Int) 0 _ W hW.p4 hW.t (by simp) (ext_le s _ hs) (by rw [ext_drop]; exact hU3))
  have hw3 : IntKind.i64.wrap ((p2 : Int) + (n3 : Int)) = (p3 : Int) := by rw [IntWalk.i64_in _ (by omega)]; omega
  have z4 := slice_from22 s p3 (by omega)
  have hfl : flagAt (s.extract p3 s.size).data.toList 0 = flagAt s.data.toList p3 := by rw [ext_drop]; unfold flagAt; rw [List.getElem?_drop, Nat.add_zero]
  have her2 : ((4 : Int) != 0) = true := rfl
  have C4 := Lib.hid (fun W => flagF_no b5 (s.extract p3 s.size) W (by rw [hfl]; exact h4))
  have hK0 := Lib.hid (Kept.refl (fun q => q = tb) w)
  replace h := Lib.hid h
  clear hU0 hU1 hU2 hU3 h0 h1 h2 h3 h4 hq1 vl1 vh1 hq2 vl2 vh2 hq3 vl3 vh3 hfl
  go_enter Tryz.func122, Tryz.ntmps122
  go_wp2_with fail
  refine wp_loop_rounds 6 ?_
  rw [rounds_succ]
  have d0 : w.cell? ⟨fb, 0, none⟩ = some (.func (.func 132) #[] #[.pointer (some ⟨b1, 0, none⟩)]) := h.out.f.cell 0
  go_wp2_with fail
  refine (C0.out _ h.out).mono ?_
  rintro _ w1 ⟨rfl, ht1, hk1⟩
  have hK1 := Lib.hid (hK0.out.trans hk1)
  have g1 := Lib.hid (h.out.kept hk1 ht1)
  clear ht1 hk1 d0
  go_wp2_with fail
  rw [rounds_succ]
  have d1 : w1.cell? ⟨fb, 1, none⟩ = some (.func (.func 133) #[] #[.pointer (some ⟨b2, 0, none⟩)]) := g1.out.f.cell 1
  go_wp2_with fail
  refine (C1.out _ g1.out).mono ?_
  rintro _ w2 ⟨rfl, ht2, hk2⟩
  have hK2 := Lib.hid (hK1.out.trans hk2)
  have g2 := Lib.hid (g1.out.kept hk2 ht2)
  clear ht2 hk2 d1
  go_wp2_with fail
  rw [rounds_succ]
  have d2 : w2.cell? ⟨fb, 2, none⟩ = some (.func (.func 133) #[] #[.pointer (some ⟨b3, 0, none⟩)]) := g2.out.f.cell 2
  go_wp2_with fail
  refine (C2.out _ g2.out).mono ?_
  rintro _ w3 ⟨rfl, ht3, hk3⟩
  have hK3 := Lib.hid (hK2.out.trans hk3)
  have g3 := Lib.hid (g2.out.kept hk3 ht3)
  clear ht3 hk3 d2
  go_wp2_with fail
  rw [rounds_succ]
  have d3 : w3.cell? ⟨fb, 3, none⟩ = some (.func (.func 133) #[] #[.pointer (some ⟨b4, 0, none⟩)]) := g3.out.f.cell 3
  go_wp2_with fail
  refine (C3.out _ g3.out).mono ?_
  rintro _ w4 ⟨rfl, ht4, hk4⟩
  have hK4 := Lib.hid (hK3.out.trans hk4)
  have g4 := Lib.hid (g3.out.kept hk4 ht4)
  clear ht4 hk4 d3
  go_wp2_with fail
  rw [rounds_succ]
  have d4 : w4.cell? ⟨fb, 4, none⟩ = some (.func (.func 134) #[] #[.pointer (some ⟨b5, 0, none⟩)]) := g4.out.f.cell 4
  go_wp2_with fail
  refine (C4.out _).mono ?_
  rintro _ w5 ⟨rfl, rfl⟩
  clear d4
  go_wp2_with fail
  go_ret2
  exact ⟨⟨4, by omega, rfl⟩, hK4.out⟩
set_option maxRecDepth 100000 in
set_option maxHeartbeats 4000000 in
theorem read_5 (tb fb b1 b2 b3 b4 b5 : Nat) (s : ByteArray) (w : World) (h : RdS w tb fb b1 b2 b3 b4 b5 [.string ⟨#[]⟩, .int .i64 0, .int .i64 0, .int .i64 0, .bool false]) (hs : s.size ≤ 100000) (nm : ByteArray) (p0 : Nat) (v1 : Int) (p1 : Nat) (v2 : Int) (p2 : Nat) (v3 : Int) (p3 : Nat) (fl : Nat) (h0 : txAt s 0 = some (nm, p0)) (h1 : chAt s.data.toList p0 = some (v1, p1)) (h2 : chAt s.data.toList p1 = some (v2, p2)) (h3 : chAt s.data.toList p2 = some (v3, p3)) (h4 : flagAt s.data.toList p3 = some fl) :
    Calls Tryz.prog 122 #[.string s, .slice (some ⟨fb, 0, none⟩) 5 5] w fun r w' => (r = .returned (.tuple #[.int .i64 ((p3 + 1 : Nat) : Int), .int .i64 0]) ∧ Whole w' tb 31 [.string nm, .int .i64 (wrap64 v1), .int .i64 (wrap64 v2), .int .i64 (wrap64 v3), .bool (decide (fl = 1))]) ∧ Kept (fun q => q = tb) w w' := by
  have hsl : s.data.toList.length = s.size := by simp
  have eg1 : ∀ args W, (callFunc 132 args).run Tryz.prog W = .ok (.enter 132 args) W := fun _ _ => by kernel_rfl
  have eg2 : ∀ args W, (callFunc 133 args).run Tryz.prog W = .ok (.enter 133 args) W := fun _ _ => by kernel_rfl
  have eg3 : ∀ args W, (callFunc 134 args).run Tryz.prog W = .ok (.enter 134 args) W := fun _ _ => by kernel_rfl
  obtain ⟨hU0, hp0⟩ := txAt_yes h0
  have z0 := fun W => slice_from0 s W
  rw [ext_all] at hU0
  have C0 := Lib.hid (fun W (hW : RdS W tb fb b1 b2 b3 b4 b5 [.string ⟨#[]⟩, .int .i64 0, .int .i64 0, .int .i64 0, .bool false]) => nameF_any b1 tb s nm (p0 : Int) 0 _ _ _ _ _ W hW.p1 hW.t hW.n1 hs hU0)
  have z1 := slice_from22 s p0 hp0
  obtain ⟨n1, hU1, hq1, hp1, vl1, vh1⟩ := chAt_yes h1 (by omega)
  have C1 := Lib.hid (fun W (hW : RdS W tb fb b1 b2 b3 b4 b5 [.string nm, .int .i64 0, .int .i64 0, .int .i64 0, .bool false]) => numberF_any b2 tb 1 (s.extract p0 s.size) v1 (n1 : Int) 0 _ W hW.p2 hW.t (by simp) (ext_le s _ hs) (by rw [ext_drop]; exact hU1))
  have hw1 : IntKind.i64.wrap ((p0 : Int) + (n1 : Int)) = (p1 : Int) := by rw [IntWalk.i64_in _ (by omega)]; omega
  have z2 := slice_from22 s p1 (by omega)
  obtain ⟨n2, hU2, hq2, hp2, vl2, vh2⟩ := chAt_yes h2 (by omega)
  have C2 := Lib.hid (fun W (hW : RdS W tb fb b1 b2 b3 b4 b5 [.string nm, .int .i64 (wrap64 v1), .int .i64 0, .int .i64 0, .bool false]) => numberF_any b3 tb 2 (s.extract p1 s.size) v2 (n2 : Int) 0 _ W hW.p3 hW.t (by simp) (ext_le s _ hs) (by rw [ext_drop]; exact hU2))
  have hw2 : IntKind.i64.wrap ((p1 : Int) + (n2 : Int)) = (p2 : Int) := by rw [IntWalk.i64_in _ (by omega)]; omega
  have z3 := slice_from22 s p2 (by omega)
  obtain ⟨n3, hU3, hq3, hp3, vl3, vh3⟩ := chAt_yes h3 (by omega)
  have C3 := Lib.hid (fun W (hW : RdS W tb fb b1 b2 b3 b4 b5 [.string nm, .int .i64 (wrap64 v1), .int .i64 (wrap64 v2), .int .i64 0, .bool false]) => numberF_any b4 tb 3 (s.extract p2 s.size) v3 (n3 : Int) 0 _ W hW.p4 hW.t (by simp) (ext_le s _ hs) (by rw [ext_drop]; exact hU3))
  have hw3 : IntKind.i64.wrap ((p2 : Int) + (n3 : Int)) = (p3 : Int) := by rw [IntWalk.i64_in _ (by omega)]; omega
  have z4 := slice_from22 s p3 (by omega)
  have hfl : flagAt (s.extract p3 s.size).data.toList 0 = flagAt s.data.toList p3 := by rw [ext_drop]; unfold flagAt; rw [List.getElem?_drop, Nat.add_zero]
  have C4 := Lib.hid (fun W (hW : RdS W tb fb b1 b2 b3 b4 b5 [.string nm, .int .i64 (wrap64 v1), .int .i64 (wrap64 v2), .int .i64 (wrap64 v3), .bool false]) => flagF_yes b5 tb (s.extract p3 s.size) fl _ _ _ _ _ W hW.p5 hW.t (by rw [hfl]; exact h4))
  have hw4 : IntKind.i64.wrap ((p3 : Int) + 1) = ((p3 + 1 : Nat) : Int) := by rw [IntWalk.i64_in _ (by omega)]; omega
  have hK0 := Lib.hid (Kept.refl (fun q => q = tb) w)
  replace h := Lib.hid h
  clear hU0 hU1 hU2 hU3 h0 h1 h2 h3 h4 hq1 vl1 vh1 hq2 vl2 vh2 hq3 vl3 vh3 hfl
  go_enter Tryz.func122, Tryz.ntmps122
  go_wp2_with fail
  refine wp_loop_rounds 6 ?_
  rw [rounds_succ]
  have d0 : w.cell? ⟨fb, 0, none⟩ = some (.func (.func 132) #[] #[.pointer (some ⟨b1, 0, none⟩)]) := h.out.f.cell 0
  go_wp2_with fail
  refine (C0.out _ h.out).mono ?_
  rintro _ w1 ⟨rfl, ht1, hk1⟩
  have hK1 := Lib.hid (hK0.out.trans hk1)
  have g1 := Lib.hid (h.out.kept hk1 ht1)
  clear ht1 hk1 d0
  go_wp2_with fail
  rw [rounds_succ]
  have d1 : w1.cell? ⟨fb, 1, none⟩ = some (.func (.func 133) #[] #[.pointer (some ⟨b2, 0, none⟩)]) := g1.out.f.cell 1
  go_wp2_with fail
  refine (C1.out _ g1.out).mono ?_
  rintro _ w2 ⟨rfl, ht2, hk2⟩
  have hK2 := Lib.hid (hK1.out.trans hk2)
  have g2 := Lib.hid (g1.out.kept hk2 ht2)
  clear ht2 hk2 d1
  go_wp2_with fail
  rw [rounds_succ]
  have d2 : w2.cell? ⟨fb, 2, none⟩ = some (.func (.func 133) #[] #[.pointer (some ⟨b3, 0, none⟩)]) := g2.out.f.cell 2
  go_wp2_with fail
  refine (C2.out _ g2.out).mono ?_
  rintro _ w3 ⟨rfl, ht3, hk3⟩
  have hK3 := Lib.hid (hK2.out.trans hk3)
  have g3 := Lib.hid (g2.out.kept hk3 ht3)
  clear ht3 hk3 d2
  go_wp2_with fail
  rw [rounds_succ]
  have d3 : w3.cell? ⟨fb, 3, none⟩ = some (.func (.func 133) #[] #[.pointer (some ⟨b4, 0, none⟩)]) := g3.out.f.cell 3
  go_wp2_with fail
  refine (C3.out _ g3.out).mono ?_
  rintro _ w4 ⟨rfl, ht4, hk4⟩
  have hK4 := Lib.hid (hK3.out.trans hk4)
  have g4 := Lib.hid (g3.out.kept hk4 ht4)
  clear ht4 hk4 d3
  go_wp2_with fail
  rw [rounds_succ]
  have d4 : w4.cell? ⟨fb, 4, none⟩ = some (.func (.func 134) #[] #[.pointer (some ⟨b5, 0, none⟩)]) := g4.out.f.cell 4
  go_wp2_with fail
  refine (C4.out _ g4.out).mono ?_
  rintro _ w5 ⟨rfl, ht5, hk5⟩
  have hK5 := Lib.hid (hK4.out.trans hk5)
  have g5 := Lib.hid (g4.out.kept hk5 ht5)
  clear ht5 hk5 d4
  go_wp2_with fail
  rw [rounds_succ]
  go_wp2_with fail
  go_ret2
  exact ⟨⟨rfl, g5.out.t⟩, hK5.out⟩
end Go.Proofs.YtgogackkeodciaaGreat.W
end
section
namespace Go.Proofs.YtgogackkeodciaaGreat.W
open Go.RowKit Go.Sort
open Go.Proofs.YtgogackkeodciaaGreat.M Go.Proofs.YtgogackkeodciaaGreat.D Go.Proofs.YtgogackkeodciaaGreat.Z
set_option linter.unusedVariables false
set_option linter.unusedSimpArgs false

theorem wrap64_lo {v : Int} (h0 : 0 ≤ v) (h1 : v < 18446744073709551616) : (wrap64 v = v ∧ v < 9223372036854775808) ∨ (wrap64 v < 0 ∧ 9223372036854775808 ≤ v) := by unfold wrap64; omega
theorem may_wrap {nm : ByteArray} {v1 v2 v3 : Int} {c : Bool} (h1 : 0 ≤ v1 ∧ v1 < 18446744073709551616) (h2 : 0 ≤ v2 ∧ v2 < 18446744073709551616) (h3 : 0 ≤ v3 ∧ v3 < 18446744073709551616) :
    Sp.may ⟨nm, wrap64 v1, wrap64 v2, wrap64 v3, c⟩ = Sp.may ⟨nm, v1, v2, v3, c⟩ ∧ (Sp.may ⟨nm, v1, v2, v3, c⟩ = true → wrap64 v1 = v1 ∧ wrap64 v2 = v2 ∧ wrap64 v3 = v3) := by
  have a1 := wrap64_lo h1.1 h1.2
  have a2 := wrap64_lo h2.1 h2.2
  have a3 := wrap64_lo h3.1 h3.2
  constructor
  · rw [Bool.eq_iff_iff]
    unfold Sp.may
    rw [decide_eq_true_iff, decide_eq_true_iff]
    unfold Sp.ok
    dsimp only
    constructor
    · rintro ⟨b0, b1, b2, b3⟩
      exact ⟨b0, by omega, by omega, by omega⟩
    · rintro ⟨b0, b1, b2, b3⟩
      exact ⟨b0, by omega, by omega, by omega⟩
  · intro h
    obtain ⟨_, b1, b2, b3⟩ : Sp.ok ⟨nm, v1, v2, v3, c⟩ := of_decide_eq_true h
    dsimp only at b1 b2 b3
    omega
/-- What read comes to. -/
def ReadOut (tb fb : Nat) (s : ByteArray) (w : World) : Prop :=
  (decTp s = none ∧ Calls Tryz.prog 122 #[.string s, .slice (some ⟨fb, 0, none⟩) 5 5] w fun r w' => (∃ er : Int, er ≠ 0 ∧ r = .returned (.tuple #[.int .i64 0, .int .i64 er])) ∧ Kept (fun q => q = tb) w w') ∨
  (∃ (nm : ByteArray) (v1 v2 v3 : Int) (fl p : Nat), (0 ≤ v1 ∧ v1 < 18446744073709551616) ∧ (0 ≤ v2 ∧ v2 < 18446744073709551616) ∧ (0 ≤ v3 ∧ v3 < 18446744073709551616) ∧
    decTp s = (if Sp.may ⟨nm, v1, v2, v3, decide (fl = 1)⟩ then some (⟨nm, v1, v2, v3, decide (fl = 1)⟩, p + 1) else none) ∧
    Calls Tryz.prog 122 #[.string s, .slice (some ⟨fb, 0, none⟩) 5 5] w fun r w' => (r = .returned (.tuple #[.int .i64 ((p + 1 : Nat) : Int), .int .i64 0]) ∧ Whole w' tb 31 [.string nm, .int .i64 (wrap64 v1), .int .i64 (wrap64 v2), .int .i64 (wrap64 v3), .bool (decide (fl = 1))]) ∧ Kept (fun q => q = tb) w w')
theorem read_out (tb fb b1 b2 b3 b4 b5 : Nat) (s : ByteArray) (w : World) (h : RdS w tb fb b1 b2 b3 b4 b5 [.string ⟨#[]⟩, .int .i64 0, .int .i64 0, .int .i64 0, .bool false]) (hs : s.size ≤ 100000) : ReadOut tb fb s w := by
  have hsl : s.data.toList.length = s.size := by simp
  unfold ReadOut
  cases h0 : txAt s 0 with
  | none => exact .inl ⟨by unfold decTp; rw [h0]; rfl, read_0 tb fb b1 b2 b3 b4 b5 s w h hs h0⟩
  | some a =>
    obtain ⟨nm, p0⟩ := a
    have hp0 := (txAt_yes h0).2
    cases h1 : chAt s.data.toList p0 with
    | none => exact .inl ⟨by unfold decTp; simp only [h0, h1, Option.bind_some, Option.bind_none], read_1 tb fb b1 b2 b3 b4 b5 s w h hs nm p0 h0 h1⟩
    | some a =>
      obtain ⟨v1, p1⟩ := a
      obtain ⟨_, _, _, hp1, x1, y1⟩ := chAt_yes h1 (by omega)
      cases h2 : chAt s.data.toList p1 with
      | none => exact .inl ⟨by unfold decTp; simp only [h0, h1, h2, Option.bind_some, Option.bind_none], read_2 tb fb b1 b2 b3 b4 b5 s w h hs nm p0 v1 p1 h0 h1 h2⟩
      | some a =>
        obtain ⟨v2, p2⟩ := a
        obtain ⟨_, _, _, hp2, x2, y2⟩ := chAt_yes h2 (by omega)
        cases h3 : chAt s.data.toList p2 with
        | none => exact .inl ⟨by unfold decTp; simp only [h0, h1, h2, h3, Option.bind_some, Option.bind_none], read_3 tb fb b1 b2 b3 b4 b5 s w h hs nm p0 v1 p1 v2 p2 h0 h1 h2 h3⟩
        | some a =>
          obtain ⟨v3, p3⟩ := a
          obtain ⟨_, _, _, hp3, x3, y3⟩ := chAt_yes h3 (by omega)
          cases h4 : flagAt s.data.toList p3 with
          | none => exact .inl ⟨by unfold decTp; simp only [h0, h1, h2, h3, h4, Option.bind_some, Option.bind_none], read_4 tb fb b1 b2 b3 b4 b5 s w h hs nm p0 v1 p1 v2 p2 v3 p3 h0 h1 h2 h3 h4⟩
          | some fl =>
            exact .inr ⟨nm, v1, v2, v3, fl, p3, ⟨x1, y1⟩, ⟨x2, y2⟩, ⟨x3, y3⟩, by unfold decTp; simp only [h0, h1, h2, h3, h4, Option.bind_some], read_5 tb fb b1 b2 b3 b4 b5 s w h hs nm p0 v1 p1 v2 p2 v3 p3 fl h0 h1 h2 h3 h4⟩
theorem nameC_any (q k : Nat) (w : World) : Calls Tryz.prog 123 #[.pointer (some ⟨q, k, none⟩)] w fun e w' => e = .returned (.func (.func 132) #[] #[.pointer (some ⟨w.heap.size, 0, none⟩)]) ∧ w' = w.alloc (.cells #[.pointer (some ⟨q, k, none⟩)] 201) := by
  go_enter Tryz.func123, Tryz.ntmps123
  go_wp2_with fail
  go_ret
  exact ⟨rfl, rfl⟩
theorem numberC_any (q k : Nat) (w : World) : Calls Tryz.prog 124 #[.pointer (some ⟨q, k, none⟩)] w fun e w' => e = .returned (.func (.func 133) #[] #[.pointer (some ⟨w.heap.size, 0, none⟩)]) ∧ w' = w.alloc (.cells #[.pointer (some ⟨q, k, none⟩)] 191) := by
  go_enter Tryz.func124, Tryz.ntmps124
  go_wp2_with fail
  go_ret
  exact ⟨rfl, rfl⟩
theorem flagC_any (q k : Nat) (w : World) : Calls Tryz.prog 125 #[.pointer (some ⟨q, k, none⟩)] w fun e w' => e = .returned (.func (.func 134) #[] #[.pointer (some ⟨w.heap.size, 0, none⟩)]) ∧ w' = w.alloc (.cells #[.pointer (some ⟨q, k, none⟩)] 204) := by
  go_enter Tryz.func125, Tryz.ntmps125
  go_wp2_with fail
  go_ret
  exact ⟨rfl, rfl⟩
theorem sizeSp : (Tryz.prog.info? 31).map (·.size) = some 5 := by kernel_rfl
theorem result_cell_tmp2 {P : Program} {fn : Func} {tmps : Array Value} {w : World} {r b s u : Nat} {t : TypeId} {v x : Value} {cs : List Value} {d : TypeDesc} (hr : fn.results = #[.cell r t, .tmp s, .tmp u]) (hp : tmps.getD r undef = .pointer (some ⟨b, 0, none⟩)) (hv : tmps.getD s undef = v) (hx : tmps.getD u undef = x)
    (hc : w.rangeAt b 0 cs) (hu : P.underlying t = some d) (hd : d.isRow = true) (hi : (P.info? t).map (·.size) = some cs.length) : (results fn tmps).run P w = .ok (.tuple #[.agg cs.toArray, v, x]) w := by
  have h1 := run_loadVar_mid (P := P) w b 0 t cs d hc hu hd hi
  have hp' : tmps[r]?.getD undef = .pointer (some ⟨b, 0, none⟩) := by simpa using hp
  have hv' : tmps[s]?.getD undef = v := by simpa using hv
  have hx' : tmps[u]?.getD undef = x := by simpa using hx
  simp [results, hr, hp', hv', hx', asAddr, h1]
/-- The blocks that Decode makes. -/
structure DecW (w V2 V3 V4 V5 V6 V7 V8 : World) (rb tb b1 b2 b3 b4 b5 fb : Nat) : Prop where
  e2 : V2 = (w.alloc (.cells #[.string ⟨#[]⟩, .int .i64 0, .int .i64 0, .int .i64 0, .bool false] 31)).alloc (.cells #[.string ⟨#[]⟩, .int .i64 0, .int .i64 0, .int .i64 0, .bool false] 31)
  e3 : V3 = V2.alloc (.cells #[.pointer (some ⟨tb, 0, none⟩)] 201)
  e4 : V4 = V3.alloc (.cells #[.pointer (some ⟨tb, 1, none⟩)] 191)
  e5 : V5 = V4.alloc (.cells #[.pointer (some ⟨tb, 2, none⟩)] 191)
  e6 : V6 = V5.alloc (.cells #[.pointer (some ⟨tb, 3, none⟩)] 191)
  e7 : V7 = V6.alloc (.cells #[.pointer (some ⟨tb, 4, none⟩)] 204)
  e8 : V8 = V7.alloc (.cells #[(.func (.func 132) #[] #[.pointer (some ⟨b1, 0, none⟩)]), (.func (.func 133) #[] #[.pointer (some ⟨b2, 0, none⟩)]), (.func (.func 133) #[] #[.pointer (some ⟨b3, 0, none⟩)]), (.func (.func 133) #[] #[.pointer (some ⟨b4, 0, none⟩)]), (.func (.func 134) #[] #[.pointer (some ⟨b5, 0, none⟩)])] 199)
  rb : w.heap.size = rb
  tb : w.heap.size + 1 = tb
  b1 : V2.heap.size = b1
  b2 : V3.heap.size = b2
  b3 : V4.heap.size = b3
  b4 : V5.heap.size = b4
  b5 : V6.heap.size = b5
  fb : V7.heap.size = fb
theorem decW (w : World) : ∃ V2 V3 V4 V5 V6 V7 V8 rb tb b1 b2 b3 b4 b5 fb, DecW w V2 V3 V4 V5 V6 V7 V8 rb tb b1 b2 b3 b4 b5 fb :=
  ⟨_, _, _, _, _, _, _, _, _, _, _, _, _, _, _, rfl, rfl, rfl, rfl, rfl, rfl, rfl, rfl, rfl, rfl, rfl, rfl, rfl, rfl, rfl⟩
theorem DecW.made {w V2 V3 V4 V5 V6 V7 V8 : World} {rb tb b1 b2 b3 b4 b5 fb : Nat} (h : DecW w V2 V3 V4 V5 V6 V7 V8 rb tb b1 b2 b3 b4 b5 fb) :
    RdS V8 tb fb b1 b2 b3 b4 b5 [.string ⟨#[]⟩, .int .i64 0, .int .i64 0, .int .i64 0, .bool false] ∧ Whole V8 rb 31 [.string ⟨#[]⟩, .int .i64 0, .int .i64 0, .int .i64 0, .bool false] ∧ rb ≠ tb ∧ Below w.heap.size w V8 ∧ w.heap.size ≤ tb ∧ w.heap.size ≤ rb := by
  obtain ⟨e2, e3, e4, e5, e6, e7, e8, rfl, rfl, rfl, rfl, rfl, rfl, rfl, rfl⟩ := h
  obtain ⟨V1, e1⟩ : ∃ V, V = w.alloc (.cells #[.string ⟨#[]⟩, .int .i64 0, .int .i64 0, .int .i64 0, .bool false] 31) := ⟨_, rfl⟩
  rw [← e1] at e2
  have s1 : V1.heap.size = w.heap.size + 1 := by rw [e1]; simp
  have s2 : V2.heap.size = w.heap.size + 2 := by rw [e2]; simp; omega
  have s3 : V3.heap.size = w.heap.size + 3 := by rw [e3]; simp; omega
  have s4 : V4.heap.size = w.heap.size + 4 := by rw [e4]; simp; omega
  have s5 : V5.heap.size = w.heap.size + 5 := by rw [e5]; simp; omega
  have s6 : V6.heap.size = w.heap.size + 6 := by rw [e6]; simp; omega
  have s7 : V7.heap.size = w.heap.size + 7 := by rw [e7]; simp; omega
  have s8 : V8.heap.size = w.heap.size + 8 := by rw [e8]; simp; omega
  have r1 : Whole V1 w.heap.size 31 [.string ⟨#[]⟩, .int .i64 0, .int .i64 0, .int .i64 0, .bool false] := by rw [e1]; exact Whole.new w _ _
  have t2 : Whole V2 (w.heap.size + 1) 31 [.string ⟨#[]⟩, .int .i64 0, .int .i64 0, .int .i64 0, .bool false] := by rw [← s1, e2]; exact Whole.new V1 _ _
  have r2 : Whole V2 w.heap.size 31 [.string ⟨#[]⟩, .int .i64 0, .int .i64 0, .int .i64 0, .bool false] := by rw [e2]; exact r1.alloc _
  have p1_3 : Whole V3 V2.heap.size 201 [.pointer (some ⟨w.heap.size + 1, 0, none⟩)] := by rw [e3]; exact Whole.new V2 _ _
  have p2_4 : Whole V4 V3.heap.size 191 [.pointer (some ⟨w.heap.size + 1, 1, none⟩)] := by rw [e4]; exact Whole.new V3 _ _
  have p3_5 : Whole V5 V4.heap.size 191 [.pointer (some ⟨w.heap.size + 1, 2, none⟩)] := by rw [e5]; exact Whole.new V4 _ _
  have p4_6 : Whole V6 V5.heap.size 191 [.pointer (some ⟨w.heap.size + 1, 3, none⟩)] := by rw [e6]; exact Whole.new V5 _ _
  have p5_7 : Whole V7 V6.heap.size 204 [.pointer (some ⟨w.heap.size + 1, 4, none⟩)] := by rw [e7]; exact Whole.new V6 _ _
  have f8 : Whole V8 V7.heap.size 199 [(.func (.func 132) #[] #[.pointer (some ⟨V2.heap.size, 0, none⟩)]), (.func (.func 133) #[] #[.pointer (some ⟨V3.heap.size, 0, none⟩)]), (.func (.func 133) #[] #[.pointer (some ⟨V4.heap.size, 0, none⟩)]), (.func (.func 133) #[] #[.pointer (some ⟨V5.heap.size, 0, none⟩)]), (.func (.func 134) #[] #[.pointer (some ⟨V6.heap.size, 0, none⟩)])] := by rw [e8]; exact Whole.new V7 _ _
  have b8 : Below w.heap.size w V8 := by
    rw [e8, e7, e6, e5, e4, e3, e2, e1]
    exact grewAlloc (grewAlloc (grewAlloc (grewAlloc (grewAlloc (grewAlloc (grewAlloc (grewAlloc (Below.refl _ _) _) _) _) _) _) _) _) _
  have t8 : Whole V8 (w.heap.size + 1) 31 [.string ⟨#[]⟩, .int .i64 0, .int .i64 0, .int .i64 0, .bool false] := (by rw [e8]; exact ((show Whole V7 _ _ _ from by rw [e7]; exact ((show Whole V6 _ _ _ from by rw [e6]; exact ((show Whole V5 _ _ _ from by rw [e5]; exact ((show Whole V4 _ _ _ from by rw [e4]; exact ((show Whole V3 _ _ _ from by rw [e3]; exact (t2).alloc _)).alloc _)).alloc _)).alloc _)).alloc _)).alloc _)
  have r8 : Whole V8 w.heap.size 31 [.string ⟨#[]⟩, .int .i64 0, .int .i64 0, .int .i64 0, .bool false] := (by rw [e8]; exact ((show Whole V7 _ _ _ from by rw [e7]; exact ((show Whole V6 _ _ _ from by rw [e6]; exact ((show Whole V5 _ _ _ from by rw [e5]; exact ((show Whole V4 _ _ _ from by rw [e4]; exact ((show Whole V3 _ _ _ from by rw [e3]; exact (r2).alloc _)).alloc _)).alloc _)).alloc _)).alloc _)).alloc _)
  have p1_8 : Whole V8 V2.heap.size 201 [.pointer (some ⟨w.heap.size + 1, 0, none⟩)] := (by rw [e8]; exact ((show Whole V7 _ _ _ from by rw [e7]; exact ((show Whole V6 _ _ _ from by rw [e6]; exact ((show Whole V5 _ _ _ from by rw [e5]; exact ((show Whole V4 _ _ _ from by rw [e4]; exact (p1_3).alloc _)).alloc _)).alloc _)).alloc _)).alloc _)
  have p2_8 : Whole V8 V3.heap.size 191 [.pointer (some ⟨w.heap.size + 1, 1, none⟩)] := (by rw [e8]; exact ((show Whole V7 _ _ _ from by rw [e7]; exact ((show Whole V6 _ _ _ from by rw [e6]; exact ((show Whole V5 _ _ _ from by rw [e5]; exact (p2_4).alloc _)).alloc _)).alloc _)).alloc _)
  have p3_8 : Whole V8 V4.heap.size 191 [.pointer (some ⟨w.heap.size + 1, 2, none⟩)] := (by rw [e8]; exact ((show Whole V7 _ _ _ from by rw [e7]; exact ((show Whole V6 _ _ _ from by rw [e6]; exact (p3_5).alloc _)).alloc _)).alloc _)
  have p4_8 : Whole V8 V5.heap.size 191 [.pointer (some ⟨w.heap.size + 1, 3, none⟩)] := (by rw [e8]; exact ((show Whole V7 _ _ _ from by rw [e7]; exact (p4_6).alloc _)).alloc _)
  have p5_8 : Whole V8 V6.heap.size 204 [.pointer (some ⟨w.heap.size + 1, 4, none⟩)] := (by rw [e8]; exact (p5_7).alloc _)
  exact ⟨⟨t8, f8, p1_8, p2_8, p3_8, p4_8, p5_8, by omega, by omega, by omega, by omega, by omega, by omega⟩, r8, by omega, b8, by omega, by omega⟩
set_option maxRecDepth 100000 in
set_option maxHeartbeats 4000000 in
theorem decode_any (s : ByteArray) (w : World) (hs : s.size ≤ 100000) :
    Calls Tryz.prog 107 #[.string s] w fun e w' => e = .returned (match decTp s with | some (x, n) => .tuple #[spV x, .int .i64 (n : Int), .int .i64 0] | none => .tuple #[.agg #[.string ⟨#[]⟩, .int .i64 0, .int .i64 0, .int .i64 0, .bool false], .int .i64 0, .int .i64 4]) ∧ Below w.heap.size w w' := by
  obtain ⟨V2, V3, V4, V5, V6, V7, V8, rb, tb, b1, b2, b3, b4, b5, fb, hD⟩ := decW w
  obtain ⟨hS, hR, hne, hB, htb, hrb⟩ := hD.made
  have ho := read_out tb fb b1 b2 b3 b4 b5 s V8 hS hs
  replace hD := Lib.hid hD
  have m1 : Hid (Calls Tryz.prog 123 #[.pointer (some ⟨tb, 0, none⟩)] V2 fun e w' => e = .returned (.func (.func 132) #[] #[.pointer (some ⟨b1, 0, none⟩)]) ∧ w' = V3) := Lib.hid (by
    have := nameC_any tb 0 V2
    rw [hD.out.b1, ← hD.out.e3] at this
    exact this)
  have m2 : Hid (Calls Tryz.prog 124 #[.pointer (some ⟨tb, 1, none⟩)] V3 fun e w' => e = .returned (.func (.func 133) #[] #[.pointer (some ⟨b2, 0, none⟩)]) ∧ w' = V4) := Lib.hid (by
    have := numberC_any tb 1 V3
    rw [hD.out.b2, ← hD.out.e4] at this
    exact this)
  have m3 : Hid (Calls Tryz.prog 124 #[.pointer (some ⟨tb, 2, none⟩)] V4 fun e w' => e = .returned (.func (.func 133) #[] #[.pointer (some ⟨b3, 0, none⟩)]) ∧ w' = V5) := Lib.hid (by
    have := numberC_any tb 2 V4
    rw [hD.out.b3, ← hD.out.e5] at this
    exact this)
  have m4 : Hid (Calls Tryz.prog 124 #[.pointer (some ⟨tb, 3, none⟩)] V5 fun e w' => e = .returned (.func (.func 133) #[] #[.pointer (some ⟨b4, 0, none⟩)]) ∧ w' = V6) := Lib.hid (by
    have := numberC_any tb 3 V5
    rw [hD.out.b4, ← hD.out.e6] at this
    exact this)
  have m5 : Hid (Calls Tryz.prog 125 #[.pointer (some ⟨tb, 4, none⟩)] V6 fun e w' => e = .returned (.func (.func 134) #[] #[.pointer (some ⟨b5, 0, none⟩)]) ∧ w' = V7) := Lib.hid (by
    have := flagC_any tb 4 V6
    rw [hD.out.b5, ← hD.out.e7] at this
    exact this)
  replace hR := Lib.hid hR
  replace hB := Lib.hid hB
  replace hrb := Lib.hid hrb
  replace htb := Lib.hid htb
  replace hne := Lib.hid hne
  clear hS
  have hkb : Hid (∀ W, Kept (fun q => q = tb) V8 W → Whole W rb 31 [.string ⟨#[]⟩, .int .i64 0, .int .i64 0, .int .i64 0, .bool false] ∧ Below w.heap.size w W) := Lib.hid (fun W hk => ⟨hR.out.of_kept hk hne.out, hB.out.trans (hk.below hB.out.size (fun q e => by rw [e]; exact htb.out))⟩)
  rcases ho with ⟨hdec, hrd⟩ | ⟨nm, v1, v2, v3, fl, p, i1, i2, i3, hdec, hrd⟩
  · rw [hdec]
    replace hrd := Lib.hid hrd
    clear hdec
    dsimp only
    go_enter Tryz.func107, Tryz.ntmps107
    go_upto_region 2 with fail
    rw [← show V2 = _ from hD.out.e2]
    rw [hD.out.tb, hD.out.rb]
    go_wp2_with fail
    refine (m1.out).mono ?_
    rintro _ _ ⟨rfl, rfl⟩
    go_wp2_with fail
    refine (m2.out).mono ?_
    rintro _ _ ⟨rfl, rfl⟩
    go_wp2_with fail
    refine (m3.out).mono ?_
    rintro _ _ ⟨rfl, rfl⟩
    go_wp2_with fail
    refine (m4.out).mono ?_
    rintro _ _ ⟨rfl, rfl⟩
    go_wp2_with fail
    refine (m5.out).mono ?_
    rintro _ _ ⟨rfl, rfl⟩
    go_wp2_with fail
    rw [← show V8 = _ from hD.out.e8]
    simp only [hD.out.fb]
    clear m1 m2 m3 m4 m5
    refine hrd.out.mono ?_
    rintro _ w1 ⟨⟨er, her, rfl⟩, hk⟩
    obtain ⟨hR1, hB1⟩ := hkb.out w1 hk
    have her2 : (er != 0) = true := by simpa using her
    replace hR1 := Lib.hid hR1
    replace hB1 := Lib.hid hB1
    replace her := Lib.hid her
    clear hk hkb hrd hR hB
    go_wp2_with (with_reducible refine zStore 31 _ _ rfl ?_)
    refine Lib.hid ?_
    refine wpList_store_mid rfl 31 _ _ rfl rb 0 #[.string ⟨#[]⟩, .int .i64 0, .int .i64 0, .int .i64 0, .bool false] rfl rfl (hR1.out.there 0 5 (by simp)) sizeSp (by simp [Value.oneCell']) ?_
    go_wp2_with fail
    have hfin := whole_all hR1.out (vs := [.string ⟨#[]⟩, .int .i64 0, .int .i64 0, .int .i64 0, .bool false]) rfl
    exact bodyPost_ret (result_cell_tmp2 Tryz.results107 rfl rfl rfl hfin.range Tryz.underlying31 rfl sizeSp) rfl ⟨rfl, below_store hB1.out hrb.out (Nat.le_refl _) 0 _⟩
  · obtain ⟨g1, g2⟩ := may_wrap (nm := nm) (c := decide (fl = 1)) i1 i2 i3
    have hri := fun W => right22_any nm (wrap64 v1) (wrap64 v2) (wrap64 v3) (decide (fl = 1)) W
    rw [g1] at hri
    obtain ⟨C, hC⟩ : ∃ C, Hid (decide (fl = 1) = C) := ⟨_, Lib.hid rfl⟩
    rw [hC.out] at hri hdec hrd g1 g2
    obtain ⟨u1, hu1⟩ : ∃ u, Hid (wrap64 v1 = u) := ⟨_, Lib.hid rfl⟩
    obtain ⟨u2, hu2⟩ : ∃ u, Hid (wrap64 v2 = u) := ⟨_, Lib.hid rfl⟩
    obtain ⟨u3, hu3⟩ : ∃ u, Hid (wrap64 v3 = u) := ⟨_, Lib.hid rfl⟩
    rw [hu1.out, hu2.out, hu3.out] at hri hrd g2
    obtain ⟨P, hP⟩ : ∃ P : Int, Hid (((p + 1 : Nat) : Int) = P) := ⟨_, Lib.hid rfl⟩
    rw [hP.out] at hrd
    replace hrd := Lib.hid hrd
    cases hmay : Sp.may ⟨nm, v1, v2, v3, C⟩ with
    | false =>
      rw [hmay] at hri hdec
      rw [hdec, if_neg (by decide)]
      dsimp only
      replace hri := Lib.hid hri
      clear hdec g1 g2 i1 i2 i3 hmay
      go_enter Tryz.func107, Tryz.ntmps107
      go_upto_region 2 with fail
      rw [← show V2 = _ from hD.out.e2]
      rw [hD.out.tb, hD.out.rb]
      go_wp2_with fail
      refine (m1.out).mono ?_
      rintro _ _ ⟨rfl, rfl⟩
      go_wp2_with fail
      refine (m2.out).mono ?_
      rintro _ _ ⟨rfl, rfl⟩
      go_wp2_with fail
      refine (m3.out).mono ?_
      rintro _ _ ⟨rfl, rfl⟩
      go_wp2_with fail
      refine (m4.out).mono ?_
      rintro _ _ ⟨rfl, rfl⟩
      go_wp2_with fail
      refine (m5.out).mono ?_
      rintro _ _ ⟨rfl, rfl⟩
      go_wp2_with fail
      rw [← show V8 = _ from hD.out.e8]
      simp only [hD.out.fb]
      clear m1 m2 m3 m4 m5
      refine hrd.out.mono ?_
      rintro _ w1 ⟨⟨rfl, ht⟩, hk⟩
      obtain ⟨hR1, hB1⟩ := hkb.out w1 hk
      have y0 : w1.cell? ⟨tb, 0, none⟩ = some (.string nm) := ht.cell 0
      have y1 : w1.cell? ⟨tb, 1, none⟩ = some (.int .i64 u1) := ht.cell 1
      have y2 : w1.cell? ⟨tb, 2, none⟩ = some (.int .i64 u2) := ht.cell 2
      have y3 : w1.cell? ⟨tb, 3, none⟩ = some (.int .i64 u3) := ht.cell 3
      have y4 : w1.cell? ⟨tb, 4, none⟩ = some (.bool C) := ht.cell 4
      replace hR1 := Lib.hid hR1
      replace hB1 := Lib.hid hB1
      clear hk hkb hrd hR hB ht
      go_wp2_with fail
      refine (hri.out _).mono ?_
      rintro _ w2 ⟨rfl, hb2⟩
      have hR2 := Lib.hid (hR1.out.below hb2 hR1.out.lt)
      have hB2 := Lib.hid (grew hB1.out hb2)
      clear y0 y1 y2 y3 y4 hb2 hR1 hB1
      go_wp2_with (with_reducible refine zStore 31 _ _ rfl ?_)
      refine Lib.hid ?_
      refine wpList_store_mid rfl 31 _ _ rfl rb 0 #[.string ⟨#[]⟩, .int .i64 0, .int .i64 0, .int .i64 0, .bool false] rfl rfl (hR2.out.there 0 5 (by simp)) sizeSp (by simp [Value.oneCell']) ?_
      go_wp2_with fail
      have hfin := whole_all hR2.out (vs := [.string ⟨#[]⟩, .int .i64 0, .int .i64 0, .int .i64 0, .bool false]) rfl
      exact bodyPost_ret (result_cell_tmp2 Tryz.results107 rfl rfl rfl hfin.range Tryz.underlying31 rfl sizeSp) rfl ⟨rfl, below_store hB2.out hrb.out (Nat.le_refl _) 0 _⟩
    | true =>
      obtain ⟨q1, q2, q3⟩ := g2 hmay
      subst q1 q2 q3
      rw [hmay] at hri hdec
      rw [hdec, if_pos rfl]
      dsimp only
      rw [hP.out]
      replace hri := Lib.hid hri
      clear hdec g1 g2 i1 i2 i3 hmay hu1 hu2 hu3
      go_enter Tryz.func107, Tryz.ntmps107
      go_upto_region 2 with fail
      rw [← show V2 = _ from hD.out.e2]
      rw [hD.out.tb, hD.out.rb]
      go_wp2_with fail
      refine (m1.out).mono ?_
      rintro _ _ ⟨rfl, rfl⟩
      go_wp2_with fail
      refine (m2.out).mono ?_
      rintro _ _ ⟨rfl, rfl⟩
      go_wp2_with fail
      refine (m3.out).mono ?_
      rintro _ _ ⟨rfl, rfl⟩
      go_wp2_with fail
      refine (m4.out).mono ?_
      rintro _ _ ⟨rfl, rfl⟩
      go_wp2_with fail
      refine (m5.out).mono ?_
      rintro _ _ ⟨rfl, rfl⟩
      go_wp2_with fail
      rw [← show V8 = _ from hD.out.e8]
      simp only [hD.out.fb]
      clear m1 m2 m3 m4 m5
      refine hrd.out.mono ?_
      rintro _ w1 ⟨⟨rfl, ht⟩, hk⟩
      obtain ⟨hR1, hB1⟩ := hkb.out w1 hk
      have y0 : w1.cell? ⟨tb, 0, none⟩ = some (.string nm) := ht.cell 0
      have y1 : w1.cell? ⟨tb, 1, none⟩ = some (.int .i64 u1) := ht.cell 1
      have y2 : w1.cell? ⟨tb, 2, none⟩ = some (.int .i64 u2) := ht.cell 2
      have y3 : w1.cell? ⟨tb, 3, none⟩ = some (.int .i64 u3) := ht.cell 3
      have y4 : w1.cell? ⟨tb, 4, none⟩ = some (.bool C) := ht.cell 4
      replace hR1 := Lib.hid hR1
      replace hB1 := Lib.hid hB1
      replace ht := Lib.hid ht
      clear hk hkb hrd hR hB
      go_wp2_with fail
      refine (hri.out _).mono ?_
      rintro _ w2 ⟨rfl, hb2⟩
      have hR2 := Lib.hid (hR1.out.below hb2 hR1.out.lt)
      have hB2 := Lib.hid (grew hB1.out hb2)
      have ht2 := ht.out.below hb2 ht.out.lt
      clear y0 y1 y2 y3 y4 hb2 hR1 hB1 ht
      have y0 : w2.cell? ⟨tb, 0, none⟩ = some (.string nm) := ht2.cell 0
      have y1 : w2.cell? ⟨tb, 1, none⟩ = some (.int .i64 u1) := ht2.cell 1
      have y2 : w2.cell? ⟨tb, 2, none⟩ = some (.int .i64 u2) := ht2.cell 2
      have y3 : w2.cell? ⟨tb, 3, none⟩ = some (.int .i64 u3) := ht2.cell 3
      have y4 : w2.cell? ⟨tb, 4, none⟩ = some (.bool C) := ht2.cell 4
      clear ht2
      go_wp2_with (with_reducible refine zStore 31 _ _ rfl ?_)
      refine Lib.hid ?_
      refine wpList_store_mid rfl 31 _ _ rfl rb 0 #[.string nm, .int .i64 u1, .int .i64 u2, .int .i64 u3, .bool C] rfl rfl (hR2.out.there 0 5 (by simp)) sizeSp (by simp [Value.oneCell']) ?_
      go_wp2_with fail
      have hfin := whole_all hR2.out (vs := [.string nm, .int .i64 u1, .int .i64 u2, .int .i64 u3, .bool C]) rfl
      exact bodyPost_ret (result_cell_tmp2 Tryz.results107 rfl rfl rfl hfin.range Tryz.underlying31 rfl sizeSp) rfl ⟨rfl, below_store hB2.out hrb.out (Nat.le_refl _) 0 _⟩
end Go.Proofs.YtgogackkeodciaaGreat.W
end
