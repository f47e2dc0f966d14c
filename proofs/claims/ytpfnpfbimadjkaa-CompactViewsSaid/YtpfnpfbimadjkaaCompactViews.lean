/- For all rows of records l and more, and every tick, the law CompactViews returns true: the view of what is kept is the view, what is kept of what is kept is all of it, and the view of what is kept with more behind it is that of all with these behind; where l or more are large the small case stands in. No condition. -/
import Derived.Test.YtpfnpfbimadjkaaRows
import Derived.Test.YtpfnpfbimadjkaaCpG
import Derived.Test.YtpfnpfbimadjkaaPtB
import Derived.ChangeOld
import Derived.ShutString
namespace Go.Proofs.Ytpfnpfbimadjkaa.compactViews
open Go.ChangeShapes Go.WideShapes Go.ChangeAt Go.RowKit Go.Sort
open Go.ChangeMaps (open_string shut_string)
open Go.Proofs.Ytpfnpfbimadjkaa.M Go.Proofs.Ytpfnpfbimadjkaa.W Go.Proofs.Ytpfnpfbimadjkaa.D Go.Proofs.Ytpfnpfbimadjkaa.Z
set_option linter.unusedVariables false
set_option linter.unusedSimpArgs false

/-- Records behind a row of one's own. -/
theorem app_row {W : World} {B : Nat} {va A : Option Addr} {c c2 : Nat} {rs ns : List Rc} (h : RowO W va c rs) (h2 : RcAt W A ns) (hn : rs.length + ns.length ≤ 1000000) (hB : B ≤ W.heap.size) (ho : ∀ q, ownB va q → B ≤ q) (ty : TypeId) :
    ∃ va' c' W', (Builtin.append_ #[22, 22] ty #[.slice va rs.length c, .slice A ns.length c2]).run Try.prog W = .ok (.slice va' (rs.length + ns.length) c') W' ∧
      RowO W' va' c' (rs ++ ns) ∧ (∀ q, ownB va' q → B ≤ q) ∧ Below B W W' := by
  rcases A with _ | ad
  · have hns : ns = [] := by
      cases ns with
      | nil => rfl
      | cons r t => obtain ⟨b, o, e, _⟩ := h2 0 r rfl; cases e
    subst hns
    obtain ⟨i0, hi0, hz0, hz1, hz2⟩ := info_parts infoRp
    refine ⟨va, c, W, ?_, by rw [List.append_nil]; exact h, ho, Below.refl _ _⟩
    exact run_append_nothing (P := Try.prog) W 22 22 ty 32 i0 Try.underlying22 hi0 va rs.length c h.cap.1 (.slice none 0 c2) (Src.ofNil _ Try.underlying22 c2)
  · obtain ⟨va', c', W', hr, hro, hk, hq⟩ := run_row_append h hn ad c2 (rcAt_cells2 h2) ty
    refine ⟨va', c', W', hr, hro, fun q hq2 => ?_, hk.below hB ho⟩
    rcases hq q hq2 with h3 | h3
    · exact ho q h3
    · omega
set_option maxRecDepth 100000 in
set_option maxHeartbeats 4000000 in
theorem walk_big (a0 a1 : Option Addr) (n c n1 c1 : Nat) (rs ms : List Rc) (dead : Int) (w : World) (w0 : RcIn w a0 n rs) (w1 : RcIn w a1 n1 ms) (hbig : (bigL rs || bigL ms) = true) :
    Calls Try.prog 4 #[.slice a0 n c, .slice a1 n1 c1, .int .i64 dead] w fun e w' => e = .returned (.bool true) ∧ Below w.heap.size w w' := by
  have hlg := large21_any a0 n c rs w w0.at_ w0.len
  have hl2 := fun W (hb : Below w.heap.size w W) => large21_any a1 n1 c1 ms W (w1.at_.below hb) w1.len
  have h4 := Lib.hid (fun W => four_any W)
  clear w0 w1
  cases h1 : bigL rs with
  | true =>
    rw [h1] at hlg
    replace hlg := Lib.hid hlg
    clear hbig h1 hl2
    go_enter Try.func4, Try.ntmps4
    go_wp2_with fail
    refine hlg.out.mono ?_
    rintro e w1 ⟨rfl, hb1⟩
    replace hb1 := Lib.hid hb1
    go_wp2_with fail
    refine (h4.out _).mono ?_
    rintro e w2 ⟨rfl, hb2⟩
    have hB2 := Lib.hid (grew hb1.out hb2)
    clear hb2
    go_wp2_with fail
    go_ret
    exact ⟨rfl, hB2.out⟩
  | false =>
    rw [h1] at hlg hbig
    have h2 : bigL ms = true := by simpa using hbig
    rw [h2] at hl2
    replace hlg := Lib.hid hlg
    replace hl2 := Lib.hid hl2
    clear hbig h1 h2
    go_enter Try.func4, Try.ntmps4
    go_wp2_with fail
    refine hlg.out.mono ?_
    rintro e w1 ⟨rfl, hb1⟩
    have t2 := Lib.hid (hl2.out w1 hb1)
    replace hb1 := Lib.hid hb1
    go_wp2_with fail
    refine t2.out.mono ?_
    rintro e w2 ⟨rfl, hb2⟩
    have hB2 := Lib.hid (grew hb1.out hb2)
    clear hb2
    go_wp2_with fail
    refine (h4.out _).mono ?_
    rintro e w3 ⟨rfl, hb3⟩
    have hB3 := Lib.hid (grew hB2.out hb3)
    clear hb3
    go_wp2_with fail
    go_ret
    exact ⟨rfl, hB3.out⟩
set_option maxRecDepth 100000 in
set_option maxHeartbeats 4000000 in
theorem walk (a0 : Option Addr) (n c : Nat) (rs : List Rc) (a1 : Option Addr) (n1 c1 : Nat) (ms : List Rc) (dead : Int) (w : World) (w0 : RcIn w a0 n rs) (w1 : RcIn w a1 n1 ms) (_ : (Lit.int .i64 dead).wf = true) :
    Calls Try.prog 4 #[.slice a0 n c, .slice a1 n1 c1, .int .i64 dead] w fun e w' => e = .returned (.bool true) ∧ Below w.heap.size w w' := by
  cases hbig : (bigL rs || bigL ms) with
  | true => exact walk_big a0 a1 n c n1 c1 rs ms dead w w0 w1 hbig
  | false =>
    rw [Bool.or_eq_false_iff] at hbig
    obtain ⟨hg1, hg2⟩ := hbig
    obtain ⟨hn, hat, hwf⟩ := w0
    obtain ⟨hn1, hat1, hwf1⟩ := w1
    have hlg := large21_any a0 n c rs w hat hn
    have hl2 := fun W (hb : Below w.heap.size w W) => large21_any a1 n1 c1 ms W (hat1.below hb) hn1
    have h4 := Lib.hid (fun W => four_any W)
    rw [hg1] at hlg
    rw [hg2] at hl2
    obtain ⟨hl40, hsm⟩ := small21 hg1
    obtain ⟨hl41, hsm1⟩ := small21 hg2
    have hsh := short21 hsm
    have hsh1 := short21 hsm1
    have hKr : ∀ r ∈ keepF dead rs, r ∈ rs := fun r hr => (keepF_sub dead rs).subset hr
    have l1 := keepF_len dead rs
    have l2 := viewF_len rs
    have l3 := viewF_len (rs ++ ms)
    rw [List.length_append] at l3
    have k1 := fun W (hW : RcAt W a0 rs) => keep_any a0 c rs dead W hW (by omega) hsh
    have k2 := fun W A cc (hW : RcAt W A (keepF dead rs)) => keep_any A cc (keepF dead rs) dead W hW (by omega) (fun r hr => hsh r (hKr r hr))
    have k3 := fun W (hW : RcAt W a0 rs) => view_any a0 c rs W hW (by omega) hsh
    have k4 := fun W A cc (hW : RcAt W A (keepF dead rs)) => view_any A cc (keepF dead rs) W hW (by omega) (fun r hr => hsh r (hKr r hr))
    have k5 := fun W A cc (hW : RcAt W A (keepF dead rs)) => garbage_any A cc (keepF dead rs) dead W hW (by omega) (fun r hr => hsh r (hKr r hr))
    have k6 := fun W A cc (hW : RcAt W A (rs ++ ms)) => view_any A cc (rs ++ ms) W hW (by rw [List.length_append]; omega) (fun r hr => by
      rcases List.mem_append.1 hr with h | h
      · exact hsh r h
      · exact hsh1 r h)
    have k7 := fun W A cc (hW : RcAt W A (keepF dead rs ++ ms)) => view_any A cc (keepF dead rs ++ ms) W hW (by rw [List.length_append]; omega) (fun r hr => by
      rcases List.mem_append.1 hr with h | h
      · exact hsh r (hKr r h)
      · exact hsh1 r h)
    rw [keep_keep] at k2 k5
    rw [view_keep0] at k4
    rw [view_keep] at k7
    have s1 := fun W A B ca cb (hA : RcAt W A (keepF dead rs)) (hB : RcAt W B (keepF dead rs)) => same_recs A B (keepF dead rs).length ca cb _ W hA hB rfl (by omega) (fun r hr => hwf r (hKr r hr))
    have s2 := fun W A B ca cb (hA : RcAt W A (viewF rs)) (hB : RcAt W B (viewF rs)) => same_recs A B (viewF rs).length ca cb _ W hA hB rfl (by omega) (fun r hr => hwf r (viewF_mem hr).1)
    have s3 := fun W A B ca cb (hA : RcAt W A (viewF (rs ++ ms))) (hB : RcAt W B (viewF (rs ++ ms))) => same_recs A B (viewF (rs ++ ms)).length ca cb _ W hA hB rfl (by omega) (fun r hr => by
      rcases List.mem_append.1 (viewF_mem hr).1 with h | h
      · exact hwf r h
      · exact hwf1 r h)
    obtain ⟨K, hK⟩ : ∃ K, Hid (keepF dead rs = K) := ⟨_, Lib.hid rfl⟩
    obtain ⟨V, hV⟩ : ∃ K, Hid (viewF rs = K) := ⟨_, Lib.hid rfl⟩
    obtain ⟨X, hX⟩ : ∃ K, Hid (viewF (rs ++ ms) = K) := ⟨_, Lib.hid rfl⟩
    rw [hK.out] at k1 k2 k4 k5 k7 l1 s1
    rw [hV.out] at k3 k4 l2 s2
    rw [hX.out] at k6 k7 l3 s3
    have q6 : (rs ++ ms).length = rs.length + ms.length := List.length_append
    have q7 : (K ++ ms).length = K.length + ms.length := List.length_append
    rw [q6] at k6
    rw [q7] at k7
    obtain ⟨m, hm⟩ : ∃ m, Hid (K.length = m) := ⟨_, Lib.hid rfl⟩
    rw [hm.out] at k1 k2 k4 k5 k7 l1 s1
    obtain ⟨v, hv⟩ : ∃ v, Hid (V.length = v) := ⟨_, Lib.hid rfl⟩
    rw [hv.out] at k3 k4 l2 s2
    obtain ⟨x, hx⟩ : ∃ x, Hid (X.length = x) := ⟨_, Lib.hid rfl⟩
    rw [hx.out] at k6 k7 l3 s3
    rw [hn] at k1 k3 k6 l1 l2 l3 hl40
    rw [hn1] at k6 k7 l3 hl41
    rw [Int.sub_self] at k5
    have p1 := fun W (h : RcAt W a0 rs) => app_row (W := W) (B := W.heap.size) (va := none) (A := a0) (c := 0) (c2 := c) (rs := []) (ns := rs) (.inl ⟨rfl, rfl, rfl⟩) h (by simp; omega) (Nat.le_refl _) (fun q ⟨o, e⟩ => by cases e) 22
    have p2 := fun W B va cc (h0 : RowO W va cc rs) (h : RcAt W a1 ms) (hB : B ≤ W.heap.size) (ho : ∀ q, ownB va q → B ≤ q) => app_row (W := W) (B := B) (va := va) (A := a1) (c := cc) (c2 := c1) (rs := rs) (ns := ms) h0 h (by omega) hB ho 22
    have p3 := fun W A c2 (h : RcAt W A K) => app_row (W := W) (B := W.heap.size) (va := none) (A := A) (c := 0) (c2 := c2) (rs := []) (ns := K) (.inl ⟨rfl, rfl, rfl⟩) h (by rw [hm.out]; simp; omega) (Nat.le_refl _) (fun q ⟨o, e⟩ => by cases e) 22
    have p4 := fun W B va cc (h0 : RowO W va cc K) (h : RcAt W a1 ms) (hB : B ≤ W.heap.size) (ho : ∀ q, ownB va q → B ≤ q) => app_row (W := W) (B := B) (va := va) (A := a1) (c := cc) (c2 := c1) (rs := K) (ns := ms) h0 h (by rw [hm.out]; omega) hB ho 22
    simp only [List.length_nil, Nat.zero_add, List.nil_append] at p1 p3
    rw [hn] at p1 p2
    rw [hm.out] at p3 p4
    rw [hn1] at p2 p4
    replace hlg := Lib.hid hlg
    replace hl2 := Lib.hid hl2
    replace hat := Lib.hid hat
    replace hat1 := Lib.hid hat1
    replace k1 := Lib.hid k1
    replace k2 := Lib.hid k2
    replace k3 := Lib.hid k3
    replace k4 := Lib.hid k4
    replace k5 := Lib.hid k5
    replace k6 := Lib.hid k6
    replace k7 := Lib.hid k7
    replace s1 := Lib.hid s1
    replace s2 := Lib.hid s2
    replace s3 := Lib.hid s3
    replace p1 := Lib.hid p1
    replace p2 := Lib.hid p2
    replace p3 := Lib.hid p3
    replace p4 := Lib.hid p4
    clear hwf hwf1 hn hn1 hsm hsm1 hsh hsh1 hg1 hg2 hKr q6 q7
    go_enter Try.func4, Try.ntmps4
    go_wp2_with fail
    refine hlg.out.mono ?_
    rintro e w1 ⟨rfl, hb1⟩
    have t2 := Lib.hid (hl2.out w1 hb1)
    replace hb1 := Lib.hid hb1
    clear hlg hl2
    go_wp2_with fail
    refine t2.out.mono ?_
    rintro e w2 ⟨rfl, hb2⟩
    have hB2 := Lib.hid (grew hb1.out hb2)
    have t3 := Lib.hid (k1.out w2 (hat.out.below hB2.out))
    clear hb2 hb1 t2 k1
    go_wp2_with fail
    refine t3.out.mono ?_
    rintro e w3 ⟨A3, c3, rfl, h3, hb3⟩
    have hB3 := grew hB2.out hb3
    -- l, more
    obtain ⟨va4, c4, w4, r4, o4, q4, b4⟩ := p1.out w3 (hat.out.below hB3)
    have hB4 := grew hB3 b4
    obtain ⟨va5, c5, w5, r5, o5, q5, b5⟩ := p2.out w4 w3.heap.size va4 c4 o4 (hat1.out.below hB4) b4.size q4
    have b35 : Below w3.heap.size w3 w5 := b4.trans b5
    have hB5 := grew hB3 b35
    -- what is kept, more
    obtain ⟨va6, c6, w6, r6, o6, q6, b6⟩ := p3.out w5 A3 c3 (h3.below b35)
    have hB6 := grew hB5 b6
    obtain ⟨va7, c7, w7, r7, o7, q7, b7⟩ := p4.out w6 w5.heap.size va6 c6 o6 (hat1.out.below hB6) b6.size q6
    have b57 : Below w5.heap.size w5 w7 := b6.trans b7
    have hB7 := Lib.hid (grew hB5 b57)
    have h37 := Lib.hid (h3.below (grew b35 b57))
    have ha7 := Lib.hid (o5.at_.below b57)
    have hb7 := Lib.hid o7.at_
    replace r4 := Lib.hid r4
    replace r5 := Lib.hid r5
    replace r6 := Lib.hid r6
    replace r7 := Lib.hid r7
    clear h3 hb3 hB2 hB3 hB4 hB5 hB6 o4 q4 b4 o5 q5 b5 o6 q6 b6 o7 q7 b7 b35 b57 t3 p1 p2 p3 p4
    go_wp2_with (with_reducible refine zAppend _ _ _ rfl ?_)
    refine Lib.hid ?_
    refine wpList_append_by rfl _ _ 22 rfl _ _ _ rfl rfl r4.out ?_
    clear r4
    go_wp2_with (with_reducible refine zAppend _ _ _ rfl ?_)
    refine Lib.hid ?_
    refine wpList_append_by rfl _ _ 22 rfl _ _ _ rfl rfl r5.out ?_
    clear r5
    go_wp2_with (with_reducible refine zAppend _ _ _ rfl ?_)
    refine Lib.hid ?_
    refine wpList_append_by rfl _ _ 22 rfl _ _ _ rfl rfl r6.out ?_
    clear r6
    go_wp2_with (with_reducible refine zAppend _ _ _ rfl ?_)
    refine Lib.hid ?_
    refine wpList_append_by rfl _ _ 22 rfl _ _ _ rfl rfl r7.out ?_
    clear r7
    have t1 := Lib.hid (k4.out w7 A3 c3 h37.out)
    go_wp2_with fail
    refine t1.out.mono ?_
    rintro e v1 ⟨A8, c8, rfl, h8, d1⟩
    have D1 := Lib.hid d1
    have t2 := Lib.hid (k3.out v1 (hat.out.below (grew hB7.out d1)))
    replace h8 := Lib.hid h8
    clear t1 d1 k3 k4
    go_wp2_with fail
    refine t2.out.mono ?_
    rintro e v2 ⟨A9, c9, rfl, h9, d2⟩
    have D2 := Lib.hid (grew D1.out d2)
    have t3 := Lib.hid (s2.out v2 A8 A9 c8 c9 (h8.out.below d2) h9)
    clear t2 d2 D1 h8 h9 s2
    go_wp2_with fail
    refine t3.out.mono ?_
    rintro e v3 ⟨rfl, d3⟩
    have D3 := Lib.hid (grew D2.out d3)
    have t4 := Lib.hid (k2.out v3 A3 c3 (h37.out.below D3.out))
    clear t3 d3 D2 k2
    go_wp2_with fail
    refine t4.out.mono ?_
    rintro e v4 ⟨A10, c10, rfl, h10, d4⟩
    have D4 := Lib.hid (grew D3.out d4)
    have t5 := Lib.hid (s1.out v4 A10 A3 c10 c3 h10 (h37.out.below D4.out))
    clear t4 d4 D3 s1 h10
    go_wp2_with fail
    refine t5.out.mono ?_
    rintro e v5 ⟨rfl, d5⟩
    have D5 := Lib.hid (grew D4.out d5)
    have t6 := Lib.hid (k5.out v5 A3 c3 (h37.out.below D5.out))
    clear t5 d5 D4 k5
    go_wp2_with fail
    refine t6.out.mono ?_
    rintro e v6 ⟨rfl, d6⟩
    have D6 := Lib.hid (grew D5.out d6)
    have t7 := Lib.hid (k6.out v6 va5 c5 (ha7.out.below D6.out))
    clear t6 d6 D5 k6
    go_wp2_with fail
    refine t7.out.mono ?_
    rintro e v7 ⟨A11, c11, rfl, h11, d7⟩
    have D7 := Lib.hid (grew D6.out d7)
    have t8 := Lib.hid (k7.out v7 va7 c7 (hb7.out.below D7.out))
    replace h11 := Lib.hid h11
    clear t7 d7 D6 k7
    go_wp2_with fail
    refine t8.out.mono ?_
    rintro e v8 ⟨A12, c12, rfl, h12, d8⟩
    have D8 := Lib.hid (grew D7.out d8)
    have t9 := Lib.hid (s3.out v8 A11 A12 c11 c12 (h11.out.below d8) h12)
    clear t8 d8 D7 s3 h11 h12
    go_wp2_with fail
    refine t9.out.mono ?_
    rintro e v9 ⟨rfl, d9⟩
    have D9 := Lib.hid (grew hB7.out (grew D8.out d9))
    clear t9 d9 D8
    go_wp2_with fail
    refine (h4.out _).mono ?_
    rintro e v10 ⟨rfl, d10⟩
    have D10 := Lib.hid (grew D9.out d10)
    clear d10
    go_wp2_with fail
    go_ret
    exact ⟨rfl, D10.out⟩

theorem own : ownKnob Try.prog.godebug = none := by kernel_rfl
theorem laidOut : laidOutB Try.prog = true := by kernel_rfl

set_option maxRecDepth 100000 in
theorem lifted (os : Os) (started : os.Started) (H : Type) (enc : TypeId × Value → H) :
    ReturnsInHanded {} Try.checked os 4 .any (Rows.compactViewsSpec.pre6 enc Try.prog Try.f4 Rows.compactViewsRow.domain false) (Rows.compactViewsSpec.post enc Try.prog Try.f4 false true false false) := by
  refine returnsInHanded_of_change (C := Try.checked) own started (by kernel_rfl) Try.func4
    (ChangeSpec.witness6 (enc := enc) (C := Try.checked) false ⟨#[], #[.slice none 0 0, .slice none 0 0, .int .i64 0], []⟩ 8 (by kernel_rfl) (by kernel_rfl) (by kernel_rfl) (by kernel_rfl)) ?_
  intro W base args ds gs before hval0 hW hcnd _
  have hval : ∀ (j : Nat) t v, Try.f4.params[j]? = some t → args[j]? = some v → Value.okWide Try.prog W .any base t v := hval0
  have hW' := hW
  obtain ⟨p, q, hA0, hV, rfl, hfz, hnd⟩ := hW
  have hA : DataW.TrodAll enc Try.prog W 0 (fun _ => true) true Try.f4.params.toList args.toList ds p := hA0
  rw [Try.params4] at hA hval
  obtain ⟨v0, vs0, d0, ds0, p0, q0, hargs, rfl, rfl, h0, r0⟩ := trodAll_cons hA
  obtain ⟨v1, vs1, d1, ds1, p1, q1, rfl, rfl, rfl, h1, r1⟩ := trodAll_cons r0
  obtain ⟨v2, vs2, d2, ds2, p2, q2, rfl, rfl, rfl, h2, r2⟩ := trodAll_cons r1
  obtain ⟨rfl, rfl, rfl⟩ := trodAll_nil r2
  obtain rfl : args = #[v0, v1, v2] := by cases args; simp_all
  obtain ⟨rfl, rfl⟩ := trodVars_none hV
  obtain ⟨a0, len0, cap0, rfl⟩ := okWide_slice Try.underlying22 (hval 0 22 v0 rfl rfl)
  have k0 := h0
  have lt0 : ∀ x ∈ p0, x.block < W.heap.size := by obtain ⟨m, hm⟩ := k0; exact DataW.trod_lt m _ _ _ hm
  obtain ⟨fu0, hf0⟩ := h0
  obtain ⟨z0, w0⟩ := Go.Proofs.Ytpfnpfbimadjkaa.W.open_recs (show DataW.trod enc Try.prog W 0 (fun _ => true) true fu0 22 [.slice a0 len0 cap0] = some _ from hf0)
  obtain ⟨a1, len1, cap1, rfl⟩ := okWide_slice Try.underlying22 (hval 1 22 v1 rfl rfl)
  have k1 := h1
  have lt1 : ∀ x ∈ p1, x.block < W.heap.size := by obtain ⟨m, hm⟩ := k1; exact DataW.trod_lt m _ _ _ hm
  obtain ⟨fu1, hf1⟩ := h1
  obtain ⟨z1, w1⟩ := Go.Proofs.Ytpfnpfbimadjkaa.W.open_recs (show DataW.trod enc Try.prog W 0 (fun _ => true) true fu1 22 [.slice a1 len1 cap1] = some _ from hf1)
  obtain ⟨a2, rfl, rfl, rfl, w2⟩ := open_int Try.underlying3 (hval 2 3 v2 rfl rfl) h2
  clear hA0 hval0
  refine (walk a0 len0 cap0 z0 a1 len1 cap1 z1 a2 W w0 w1 w2).mono fun e W' ⟨he, bel⟩ => ?_
  subst he
  exact ⟨_, rfl, _, _, _, [], _, [], hW', trodAll_mk1 (shut_bool Try.underlying4 _), (trodAll_cons_mk (Below.trod laidOut (by kernel_rfl) (of_decide_eq_true (by kernel_rfl)) k0 bel lt0) (trodAll_cons_mk (Below.trod laidOut (by kernel_rfl) (of_decide_eq_true (by kernel_rfl)) k1 bel lt1) (trodAll_cons_mk (shut_int Try.underlying3 w2) trodAll_mk0))), rfl, bel.frame _, fun h => by cases h⟩

theorem over : Rows.compactViewsRow.holds Try.pinned (OpenSpec.ofChange Rows.compactViewsSpec) :=
  OpenClaim.holds_of_wide 4 Try.f4 rfl rfl rfl rfl rfl rfl rfl ⟨rfl, rfl, rfl, rfl, rfl⟩ rfl rfl rfl rfl rfl (by kernel_rfl) Try.func4 (by kernel_rfl)
    (of_decide_eq_true (by kernel_rfl)) (by unfold Func.isWrapper; first | (rw [if_pos (by decide +kernel)]; kernel_rfl) | (rw [if_neg (by decide +kernel)]; exact ⟨rfl, rfl⟩))
    (fun os started H enc _ => lifted os started H enc)

/-- The statement. -/
theorem proved : Rows.CompactViewsSaid := over
#print axioms proved

end Go.Proofs.Ytpfnpfbimadjkaa.compactViews
