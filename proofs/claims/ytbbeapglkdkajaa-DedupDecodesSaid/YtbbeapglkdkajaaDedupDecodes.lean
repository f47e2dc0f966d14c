/- For any two strings the law DedupDecodes returns true: the table with which bytes begin, or that there is none; and Decode of Encode is the table, whatever stands behind. No condition. -/
import Derived.Test.YtbbeapglkdkajaaRows
import Derived.Test.YtbbeapglkdkajaaDdL
import Derived.Test.YtbbeapglkdkajaaDdF
import Derived.ChangeOld
import Derived.ShutString
import Derived.Deep.Cut
import Derived.Deep.RegionHeld3
namespace Go.Proofs.Ytbbeapglkdkajaa.dedupDecodes
open Go.ChangeShapes Go.WideShapes Go.ChangeAt Go.RowKit Go.Sort
open Go.ChangeMaps (open_string shut_string)
open Go.Proofs.Ytbbeapglkdkajaa.M Go.Proofs.Ytbbeapglkdkajaa.W Go.Proofs.Ytbbeapglkdkajaa.D Go.Proofs.Ytbbeapglkdkajaa.Z
set_option linter.unusedVariables false
set_option linter.unusedSimpArgs false

theorem ddec_no {s : ByteArray} (h : decT s.data.toList = none) (w : World) (hs : s.size ≤ 100000) :
    Calls Try.prog 25 #[.string s] w fun e w' => e = .returned (.tuple #[.pointer none, .int .i64 0, .int .i64 4]) ∧ Below w.heap.size w w' := by
  refine (ddec_any s w hs).mono ?_
  rintro e w' (⟨_, r1, r2⟩ | ⟨t, p, tb, r0, _⟩)
  · exact ⟨r1, r2⟩
  · rw [h] at r0; cases r0
theorem ddec_yes {s : ByteArray} {t : List La} {p : Nat} (h : decT s.data.toList = some (t, p)) (w : World) (hs : s.size ≤ 100000) :
    Calls Try.prog 25 #[.string s] w fun e w' => ∃ tb, e = .returned (.tuple #[.pointer (some ⟨tb, 0, none⟩), .int .i64 (p : Int), .int .i64 0]) ∧ Tb w.heap.size w' tb t ∧ Below w.heap.size w w' := by
  refine (ddec_any s w hs).mono ?_
  rintro e w' (⟨r0, _⟩ | ⟨t', p', tb, r0, r1, r2, r3⟩)
  · rw [h] at r0; cases r0
  · rw [h] at r0; cases r0; exact ⟨tb, r1, r2, r3⟩
theorem rdec_no {s : ByteArray} (h : decT s.data.toList = none) (w : World) (hs : s.size ≤ 100000) :
    Calls Try.prog 26 #[.string s] w fun e w' => e = .returned (.agg #[.slice none 0 0, .int .i64 0, .bool false]) ∧ Below w.heap.size w w' := by
  refine (rdec_any s w hs).mono ?_
  rintro e w' (⟨_, r1, r2⟩ | ⟨t, p, A, c, r0, _⟩)
  · exact ⟨r1, r2⟩
  · rw [h] at r0; cases r0
theorem rdec_yes {s : ByteArray} {t : List La} {p : Nat} (h : decT s.data.toList = some (t, p)) (w : World) (hs : s.size ≤ 100000) :
    Calls Try.prog 26 #[.string s] w fun e w' => ∃ A c, e = .returned (.agg #[.slice A t.length c, .int .i64 (p : Int), .bool true]) ∧ LaL w' A t ∧ Below w.heap.size w w' := by
  refine (rdec_any s w hs).mono ?_
  rintro e w' (⟨r0, _⟩ | ⟨t', p', A, c, r0, r1, r2, r3⟩)
  · rw [h] at r0; cases r0
  · rw [h] at r0; cases r0; exact ⟨A, c, r1, r2, r3⟩
theorem ext_take (s : ByteArray) (p : Nat) : (s.extract 0 p).data.toList = s.data.toList.take p := by
  rw [ByteArray.data_extract, Array.toList_extract, List.extract]
  simp
theorem slice_to (s : ByteArray) (p : Nat) (hp : p ≤ s.size) (W : World) : (Instr.sliceAt 9 (.string s) none (some (.int .i64 (p : Int))) none).run Try.prog W = .ok (.string (s.extract 0 p)) W := by
  have h1 : (p : Int) ≤ (s.size : Int) := by omega
  simp [go_sem, h1, Try.underlying9]
theorem first_enc {s : ByteArray} {t : List La} {p : Nat} (h : decT s.data.toList = some (t, p)) : (encL t).length = p ∧ p ≤ s.size ∧ s.extract 0 p = M.B (encL t) := by
  obtain ⟨h1, h2, h3⟩ := decT_facts h
  have h4 := decT_enc h1 (s.data.toList.drop p)
  rw [← h3] at h4
  replace h4 := h.symm.trans h4
  have h5 : p = (encL t).length := (Prod.mk.inj (Option.some.inj h4)).2
  have hlen : s.data.toList.length = s.size := by simp
  refine ⟨h5.symm, by omega, ?_⟩
  apply ByteArray.ext
  apply Array.toList_inj.1
  rw [ext_take, B_data, h3, h5, List.take_left]
set_option maxRecDepth 100000 in
set_option maxHeartbeats 4000000 in
theorem walk (a0 a1 : ByteArray) (w : World) (w0 : a0.size ≤ maxLen) (w1 : a1.size ≤ maxLen) :
    Calls Try.prog 7 #[.string a0, .string a1] w fun e w' => e = .returned (.bool true) ∧ Below w.heap.size w w' := by
  clear w0 w1
  by_cases hl0 : 600 < a0.size
  · have hli : (600 : Int) < (a0.size : Int) := by omega
    go_enter Try.func7, Try.ntmps7
    go_wp2_with fail
    refine (seven_any _).mono ?_
    rintro e w1 ⟨rfl, hb⟩
    replace hb := Lib.hid hb
    go_wp2_with fail
    go_ret
    exact ⟨rfl, hb.out⟩
  have hli : (a0.size : Int) ≤ 600 := by omega
  by_cases hl1 : 300 < a1.size
  · have hli1 : (300 : Int) < (a1.size : Int) := by omega
    go_enter Try.func7, Try.ntmps7
    go_wp2_with fail
    refine (seven_any _).mono ?_
    rintro e w1 ⟨rfl, hb⟩
    replace hb := Lib.hid hb
    go_wp2_with fail
    go_ret
    exact ⟨rfl, hb.out⟩
  have hli1 : (a1.size : Int) ≤ 300 := by omega
  cases hd : decT a0.data.toList with
  | none =>
    have h1 := Lib.hid (fun W => ddec_no hd W (by omega))
    have h2 := Lib.hid (fun W => rdec_no hd W (by omega))
    clear hd
    go_enter Try.func7, Try.ntmps7
    go_wp2_with fail
    refine (h1.out _).mono ?_
    rintro e w1 ⟨rfl, hb1⟩
    replace hb1 := Lib.hid hb1
    go_wp2_with fail
    refine (h2.out _).mono ?_
    rintro e w2 ⟨rfl, hb2⟩
    obtain ⟨V, hV⟩ : ∃ V, Hid (V = w2.alloc (.cells #[.slice none 0 0, .int .i64 0, .bool false] 61)) := ⟨_, Lib.hid rfl⟩
    have hbv : Below w2.heap.size w2 V := by rw [hV.out]; exact grewAlloc (Below.refl _ _) _
    have hX : Whole V w2.heap.size 61 gotZ := by rw [hV.out]; exact Whole.new w2 _ _
    obtain ⟨q, hq⟩ : ∃ q, Hid (w2.heap.size = q) := ⟨_, Lib.hid rfl⟩
    rw [hq.out] at hX
    obtain ⟨x0, x1, x2⟩ := gotCells hX
    have hB := Lib.hid (grew (grew hb1.out hb2) hbv)
    clear h1 h2 hb1 hb2 hbv hX
    go_upto_region 5 with fail
    rw [← show V = _ from hV.out, hq.out]
    clear hV hq
    go_wp2_with fail
    refine (seven_any _).mono ?_
    rintro e w3 ⟨rfl, hb3⟩
    have hB3 := Lib.hid (grew hB.out hb3)
    clear hB hb3 x0 x1 x2
    go_wp2_with fail
    go_ret
    exact ⟨rfl, hB3.out⟩
  | some u =>
    obtain ⟨t, p⟩ := u
    obtain ⟨f1, f2, f3⟩ := first_enc hd
    have hok := (decT_facts hd).1
    obtain ⟨E, hE⟩ : ∃ E, Hid (M.B (encL t) = E) := ⟨_, Lib.hid rfl⟩
    have hes : E.size = p := by rw [← hE.out, B_size]; exact f1
    have hd2 : decT (E ++ a1).data.toList = some (t, p) := by
      rw [← f1, ← hE.out]
      have h := decT_enc hok a1.data.toList
      rw [← h]
      congr 1
    have hes1 : E.size ≤ 600 := by omega
    have hcat : E.size + a1.size ≤ 1000 := by omega
    have h1 := Lib.hid (fun W => ddec_yes hd W (by omega))
    have h2 := Lib.hid (fun W => rdec_yes hd W (by omega))
    have h3 := Lib.hid (fun W => ddec_yes hd2 W (by rw [ByteArray.size_append]; omega))
    have h4 : Hid (∀ B0 tb W, Tb B0 W tb t → Calls Try.prog 27 #[.pointer (some ⟨tb, 0, none⟩)] W fun e w' => e = .returned (.string E) ∧ Below W.heap.size W w') := Lib.hid (fun B0 tb W h => by
      rw [← hE.out]
      exact enc_any tb t W h hok)
    have hsl := slice_to a0 p f2
    rw [f3, hE.out] at hsl
    obtain ⟨N, hN⟩ : ∃ N, Hid (t.length = N) := ⟨_, Lib.hid rfl⟩
    have h5 : Hid (∀ B0 tb A c W, Tb B0 W tb t → LaL W A t → Calls Try.prog 23 #[.pointer (some ⟨tb, 0, none⟩), .slice A N c] W fun e w' => e = .returned (.bool true) ∧ Below W.heap.size W w') := Lib.hid (fun B0 tb A c W h g => by
      rw [← hN.out]
      exact same_any tb A c t W h g hok)
    rw [hN.out] at h2
    have hEE : (E.toList == E.toList) = true := by simp
    have hpp : ((p : Int) == (p : Int)) = true := by simp
    replace hd := Lib.hid hd
    replace hok := Lib.hid hok
    clear f1 f3 hd2 hes
    go_enter Try.func7, Try.ntmps7
    go_wp2_with fail
    refine (h1.out _).mono ?_
    rintro e w1 ⟨tb, rfl, hT1, hb1⟩
    replace hT1 := Lib.hid hT1
    replace hb1 := Lib.hid hb1
    go_wp2_with fail
    refine (h2.out _).mono ?_
    rintro e w2 ⟨A, c, rfl, hL2, hb2⟩
    obtain ⟨V, hV⟩ : ∃ V, Hid (V = w2.alloc (.cells #[.slice A N c, .int .i64 (p : Int), .bool true] 61)) := ⟨_, Lib.hid rfl⟩
    have hbv : Below w2.heap.size w2 V := by rw [hV.out]; exact grewAlloc (Below.refl _ _) _
    have hX : Whole V w2.heap.size 61 [.slice A N c, .int .i64 (p : Int), .bool true] := by rw [hV.out]; exact Whole.new w2 _ _
    obtain ⟨q, hq⟩ : ∃ q, Hid (w2.heap.size = q) := ⟨_, Lib.hid rfl⟩
    rw [hq.out] at hX
    obtain ⟨x0, x1, x2⟩ := gotCells hX
    have hB := Lib.hid (grew (grew hb1.out hb2) hbv)
    have hTV := Lib.hid ((hT1.out.below hb2).below hbv)
    have hLV := Lib.hid (hL2.below hbv)
    replace hX := Lib.hid hX
    clear h1 h2 hb1 hb2 hbv hT1 hL2
    go_upto_region 5 with fail
    rw [← show V = _ from hV.out, hq.out]
    clear hV hq
    have hen := Lib.hid (h4.out _ tb V hTV.out)
    go_wp2_with fail
    refine hen.out.mono ?_
    rintro e w3 ⟨rfl, hb3⟩
    have hB3 := Lib.hid (grew hB.out hb3)
    have hT3 := Lib.hid (hTV.out.below hb3)
    have hL3 := Lib.hid (hLV.out.below hb3)
    have hX3 := Lib.hid (hX.out.below hb3 hX.out.lt)
    clear hen hb3 hB hTV hLV hX x0 x1 x2
    go_wp2_with fail
    refine (h3.out _).mono ?_
    rintro e w4 ⟨ub, rfl, hU4, hb4⟩
    have hB4 := Lib.hid (grew hB3.out hb4)
    have hT4 := Lib.hid (((hT3.out.below hb4).below ((Below.refl _ _).drew)))
    have hL4 := Lib.hid ((hL3.out.below hb4).below ((Below.refl _ _).drew))
    have hU4d := Lib.hid (hU4.below ((Below.refl _ _).drew))
    have hX4 : Whole w4.drew q 61 [.slice A N c, .int .i64 (p : Int), .bool true] := (hX3.out.below hb4 hX3.out.lt).below ((Below.refl _ _).drew) (hX3.out.below hb4 hX3.out.lt).lt
    have hBd := Lib.hid (grew hB4.out ((Below.refl _ _).drew))
    obtain ⟨x0, x1, x2⟩ := gotCells hX4
    have hs1 := Lib.hid (h5.out _ tb A c _ hT4.out hL4.out)
    replace hX4 := Lib.hid hX4
    clear h3 hb4 hB3 hT3 hL3 hX3 hU4 hB4
    go_wp2_with fail
    go_region_held3 (fun w' => w'.cell? ⟨q, 0, none⟩ = some (.slice A N c) ∧ w'.cell? ⟨q, 1, none⟩ = some (.int .i64 (p : Int))) (go_keep) (first
      | (go_at_call 23; (with_reducible refine hs1.out.mono ?_); rintro e w6 ⟨rfl, hb6⟩; obtain ⟨y0, y1, _⟩ := gotCells (hX4.out.below hb6 hX4.out.lt); replace hb6 := Lib.hid hb6; have hs2 := Lib.hid (h5.out _ ub A c _ (hU4d.out.below hb6.out) (hL4.out.below hb6.out)); have hX6 := Lib.hid (hX4.out.below hb6.out hX4.out.lt); have hT6 := Lib.hid (hT4.out.below hb6.out))
      | (go_at_call 23; (with_reducible refine hs2.out.mono ?_); rintro e w7 ⟨rfl, hb7⟩; obtain ⟨z0, z1, _⟩ := gotCells (hX6.out.below hb7 hX6.out.lt); replace hb7 := Lib.hid hb7; have he7 := Lib.hid (h4.out _ tb _ (hT6.out.below hb7.out)); have hX7 := Lib.hid (hX6.out.below hb7.out hX6.out.lt))
      | (go_at_call 27; (with_reducible refine he7.out.mono ?_); rintro e w8 ⟨rfl, hb8⟩; obtain ⟨v0, v1, _⟩ := gotCells (hX7.out.below hb8 hX7.out.lt); replace hb8 := Lib.hid hb8; have hX8 := Lib.hid (hX7.out.below hb8.out hX7.out.lt))
      | (go_at_call 17; refine (seven_any _).mono ?_; rintro e w9 ⟨rfl, hb9⟩; obtain ⟨o0, o1, _⟩ := gotCells (hX8.out.below hb9 hX8.out.lt); replace hb9 := Lib.hid hb9))
    go_wp2_with fail
    go_ret
    exact ⟨rfl, grew (grew (grew (grew hBd.out hb6.out) hb7.out) hb8.out) hb9.out⟩


theorem own : ownKnob Try.prog.godebug = none := by kernel_rfl
theorem laidOut : laidOutB Try.prog = true := by kernel_rfl

set_option maxRecDepth 100000 in
theorem lifted (os : Os) (started : os.Started) (H : Type) (enc : TypeId × Value → H) :
    ReturnsInHanded {} Try.checked os 7 .any (Rows.dedupDecodesSpec.pre6 enc Try.prog Try.f7 Rows.dedupDecodesRow.domain false) (Rows.dedupDecodesSpec.post enc Try.prog Try.f7 false true false false) := by
  refine returnsInHanded_of_change (C := Try.checked) own started (by kernel_rfl) Try.func7
    (ChangeSpec.witness6 (enc := enc) (C := Try.checked) false ⟨#[], #[.string ByteArray.empty, .string ByteArray.empty], []⟩ 8 (by kernel_rfl) (by kernel_rfl) (by kernel_rfl) (by kernel_rfl)) ?_
  intro W base args ds gs before hval0 hW hcnd _
  have hval : ∀ (j : Nat) t v, Try.f7.params[j]? = some t → args[j]? = some v → Value.okWide Try.prog W .any base t v := hval0
  have hW' := hW
  obtain ⟨p, q, hA0, hV, rfl, hfz, hnd⟩ := hW
  have hA : DataW.TrodAll enc Try.prog W 0 (fun _ => true) true Try.f7.params.toList args.toList ds p := hA0
  rw [Try.params7] at hA hval
  obtain ⟨v0, vs0, d0, ds0, p0, q0, hargs, rfl, rfl, h0, r0⟩ := trodAll_cons hA
  obtain ⟨v1, vs1, d1, ds1, p1, q1, rfl, rfl, rfl, h1, r1⟩ := trodAll_cons r0
  obtain ⟨rfl, rfl, rfl⟩ := trodAll_nil r1
  obtain rfl : args = #[v0, v1] := by cases args; simp_all
  obtain ⟨rfl, rfl⟩ := trodVars_none hV
  obtain ⟨a0, rfl, rfl, rfl, w0⟩ := open_string Try.underlying9 (hval 0 9 v0 rfl rfl) h0
  obtain ⟨a1, rfl, rfl, rfl, w1⟩ := open_string Try.underlying9 (hval 1 9 v1 rfl rfl) h1
  clear hA0 hval0
  refine (walk a0 a1 W w0 w1).mono fun e W' ⟨he, bel⟩ => ?_
  subst he
  exact ⟨_, rfl, _, _, _, [], [], [], hW', trodAll_mk1 (shut_bool Try.underlying4 _), (trodAll_cons_mk (shut_string Try.underlying9 w0) (trodAll_cons_mk (shut_string Try.underlying9 w1) trodAll_mk0)), rfl, bel.frame _, fun h => by cases h⟩

theorem over : Rows.dedupDecodesRow.holds Try.pinned (OpenSpec.ofChange Rows.dedupDecodesSpec) :=
  OpenClaim.holds_of_wide 7 Try.f7 rfl rfl rfl rfl rfl rfl rfl ⟨rfl, rfl, rfl, rfl, rfl⟩ rfl rfl rfl rfl rfl (by kernel_rfl) Try.func7 (by kernel_rfl)
    (of_decide_eq_true (by kernel_rfl)) (by unfold Func.isWrapper; first | (rw [if_pos (by decide +kernel)]; kernel_rfl) | (rw [if_neg (by decide +kernel)]; exact ⟨rfl, rfl⟩))
    (fun os started H enc _ => lifted os started H enc)

/-- The statement. -/
theorem proved : Rows.DedupDecodesSaid := over
#print axioms proved

end Go.Proofs.Ytbbeapglkdkajaa.dedupDecodes
