/- For every row of records and every tick the law CompactKeeps returns true: what is kept, the view and the number of records that are not kept are those of the definition; of more than 40 records, or with a key or value of more than 300 bytes, the small case stands in. No condition. -/
import Derived.Test.YtpfnpfbimadjkaaRows
import Derived.Test.YtpfnpfbimadjkaaCpG
import Derived.ChangeOld
import Derived.ShutString
namespace Go.Proofs.Ytpfnpfbimadjkaa.compactKeeps
open Go.ChangeShapes Go.WideShapes Go.ChangeAt Go.RowKit Go.Sort
open Go.ChangeMaps (open_string shut_string)
open Go.Proofs.Ytpfnpfbimadjkaa.M Go.Proofs.Ytpfnpfbimadjkaa.W Go.Proofs.Ytpfnpfbimadjkaa.D Go.Proofs.Ytpfnpfbimadjkaa.Z
set_option linter.unusedVariables false
set_option linter.unusedSimpArgs false

set_option maxRecDepth 100000 in
set_option maxHeartbeats 4000000 in
theorem walk (a0 : Option Addr) (n c : Nat) (rs : List Rc) (dead : Int) (w : World) (w0 : RcInC w a0 n c rs) (_ : (Lit.int .i64 dead).wf = true) :
    Calls Try.prog 3 #[.slice a0 n c, .int .i64 dead] w fun e w' => e = .returned (.bool true) ∧ Below w.heap.size w w' := by
  obtain ⟨⟨hn, hat, hwf⟩, hnc, _⟩ := w0
  have hlg := large21_any a0 n c rs w hat hn
  have h4 := Lib.hid (fun W => four_any W)
  cases hbig : bigL rs with
  | true =>
    rw [hbig] at hlg
    replace hlg := Lib.hid hlg
    clear hat hwf hn hbig hnc
    go_enter Try.func3, Try.ntmps3
    go_wp2_with fail
    refine hlg.out.mono ?_
    rintro e w1 ⟨rfl, hb1⟩
    replace hb1 := Lib.hid hb1
    go_wp2_with fail
    refine (h4.out _).mono ?_
    rintro e w2 ⟨rfl, hb2⟩
    have hB2 := Lib.hid (grew hb1.out hb2)
    clear hb2
    go_wp2_with fail
    go_ret
    exact ⟨rfl, hB2.out⟩
  | false =>
    rw [hbig] at hlg
    obtain ⟨hl40, hsm⟩ := small21 hbig
    have hsh := short21 hsm
    have k1 := fun W (hW : RcAt W a0 rs) => keep_any a0 c rs dead W hW (by omega) hsh
    have k2 := fun W (hW : RcAt W a0 rs) => rkeep_any a0 c rs dead W hW (by omega) (by omega)
    have k3 := fun W (hW : RcAt W a0 rs) => view_any a0 c rs W hW (by omega) hsh
    have k4 := fun W (hW : RcAt W a0 rs) => rview_any a0 c rs W hW (by omega) (by omega)
    have k5 := fun W (hW : RcAt W a0 rs) => garbage_any a0 c rs dead W hW (by omega) hsh
    have l1 := keepF_len dead rs
    have l2 := viewF_len rs
    have s1 := fun W A B ca cb (hA : RcAt W A (keepF dead rs)) (hB : RcAt W B (keepF dead rs)) => same_recs A B (keepF dead rs).length ca cb _ W hA hB rfl (by omega) (fun r hr => hwf r ((keepF_sub dead rs).subset hr))
    have s2 := fun W A B ca cb (hA : RcAt W A (viewF rs)) (hB : RcAt W B (viewF rs)) => same_recs A B (viewF rs).length ca cb _ W hA hB rfl (by omega) (fun r hr => hwf r (viewF_mem hr).1)
    obtain ⟨K, hK⟩ : ∃ K, Hid (keepF dead rs = K) := ⟨_, Lib.hid rfl⟩
    obtain ⟨V, hV⟩ : ∃ K, Hid (viewF rs = K) := ⟨_, Lib.hid rfl⟩
    rw [hK.out] at k1 k2 k5 l1 s1
    rw [hV.out] at k3 k4 l2 s2
    obtain ⟨m, hm⟩ : ∃ m, Hid (K.length = m) := ⟨_, Lib.hid rfl⟩
    rw [hm.out] at k1 k2 k5 l1 s1
    obtain ⟨v, hv⟩ : ∃ K, Hid (V.length = K) := ⟨_, Lib.hid rfl⟩
    rw [hv.out] at k3 k4 l2 s2
    rw [hn] at k1 k2 k3 k4 k5 l1 l2 hl40
    have hw1 : IntKind.i64.wrap ((n : Int) - (m : Int)) = (n : Int) - (m : Int) := IntWalk.i64_in _ (by omega)
    have he1 : ((n : Int) - (m : Int) == (n : Int) - (m : Int)) = true := by simp
    replace hlg := Lib.hid hlg
    replace hat := Lib.hid hat
    replace k1 := Lib.hid k1
    replace k2 := Lib.hid k2
    replace k3 := Lib.hid k3
    replace k4 := Lib.hid k4
    replace k5 := Lib.hid k5
    replace s1 := Lib.hid s1
    replace s2 := Lib.hid s2
    clear hwf hn hbig hsm hsh hnc
    go_enter Try.func3, Try.ntmps3
    go_wp2_with fail
    refine hlg.out.mono ?_
    rintro e w1 ⟨rfl, hb1⟩
    have t1 := Lib.hid (k1.out w1 (hat.out.below hb1))
    replace hb1 := Lib.hid hb1
    clear k1 hlg
    go_wp2_with fail
    refine t1.out.mono ?_
    rintro e w2 ⟨A2, c2, rfl, h2, hb2⟩
    have hB2 := Lib.hid (grew hb1.out hb2)
    have t2 := Lib.hid (k2.out w2 (hat.out.below hB2.out))
    replace h2 := Lib.hid h2
    clear k2 t1 hb1 hb2
    go_wp2_with fail
    refine t2.out.mono ?_
    rintro e w3 ⟨A3, c3, rfl, h3, hb3⟩
    have hB3 := Lib.hid (grew hB2.out hb3)
    have t3 := Lib.hid (s1.out w3 A2 A3 c2 c3 (h2.out.below hb3) h3)
    clear s1 t2 hB2 hb3 h3 h2
    go_wp2_with fail
    refine t3.out.mono ?_
    rintro e w4 ⟨rfl, hb4⟩
    have hB4 := Lib.hid (grew hB3.out hb4)
    have t4 := Lib.hid (k3.out w4 (hat.out.below hB4.out))
    clear k3 t3 hB3 hb4
    go_wp2_with fail
    refine t4.out.mono ?_
    rintro e w5 ⟨A5, c5, rfl, h5, hb5⟩
    have hB5 := Lib.hid (grew hB4.out hb5)
    have t5 := Lib.hid (k4.out w5 (hat.out.below hB5.out))
    replace h5 := Lib.hid h5
    clear k4 t4 hB4 hb5
    go_wp2_with fail
    refine t5.out.mono ?_
    rintro e w6 ⟨A6, c6, rfl, h6, hb6⟩
    have hB6 := Lib.hid (grew hB5.out hb6)
    have t6 := Lib.hid (s2.out w6 A5 A6 c5 c6 (h5.out.below hb6) h6)
    clear s2 t5 hB5 hb6 h5 h6
    go_wp2_with fail
    refine t6.out.mono ?_
    rintro e w7 ⟨rfl, hb7⟩
    have hB7 := Lib.hid (grew hB6.out hb7)
    have t7 := Lib.hid (k5.out w7 (hat.out.below hB7.out))
    clear k5 t6 hB6 hb7
    go_wp2_with fail
    refine t7.out.mono ?_
    rintro e w8 ⟨rfl, hb8⟩
    have hB8 := Lib.hid (grew hB7.out hb8)
    clear t7 hB7 hb8
    go_wp2_with fail
    refine (h4.out _).mono ?_
    rintro e w9 ⟨rfl, hb9⟩
    have hB9 := Lib.hid (grew hB8.out hb9)
    clear hb9
    go_wp2_with fail
    go_ret
    exact ⟨rfl, hB9.out⟩

theorem own : ownKnob Try.prog.godebug = none := by kernel_rfl
theorem laidOut : laidOutB Try.prog = true := by kernel_rfl

set_option maxRecDepth 100000 in
theorem lifted (os : Os) (started : os.Started) (H : Type) (enc : TypeId × Value → H) :
    ReturnsInHanded {} Try.checked os 3 .any (Rows.compactKeepsSpec.pre6 enc Try.prog Try.f3 Rows.compactKeepsRow.domain false) (Rows.compactKeepsSpec.post enc Try.prog Try.f3 false true false false) := by
  refine returnsInHanded_of_change (C := Try.checked) own started (by kernel_rfl) Try.func3
    (ChangeSpec.witness6 (enc := enc) (C := Try.checked) false ⟨#[], #[.slice none 0 0, .int .i64 0], []⟩ 8 (by kernel_rfl) (by kernel_rfl) (by kernel_rfl) (by kernel_rfl)) ?_
  intro W base args ds gs before hval0 hW hcnd _
  have hval : ∀ (j : Nat) t v, Try.f3.params[j]? = some t → args[j]? = some v → Value.okWide Try.prog W .any base t v := hval0
  have hW' := hW
  obtain ⟨p, q, hA0, hV, rfl, hfz, hnd⟩ := hW
  have hA : DataW.TrodAll enc Try.prog W 0 (fun _ => true) true Try.f3.params.toList args.toList ds p := hA0
  rw [Try.params3] at hA hval
  obtain ⟨v0, vs0, d0, ds0, p0, q0, hargs, rfl, rfl, h0, r0⟩ := trodAll_cons hA
  obtain ⟨v1, vs1, d1, ds1, p1, q1, rfl, rfl, rfl, h1, r1⟩ := trodAll_cons r0
  obtain ⟨rfl, rfl, rfl⟩ := trodAll_nil r1
  obtain rfl : args = #[v0, v1] := by cases args; simp_all
  obtain ⟨rfl, rfl⟩ := trodVars_none hV
  obtain ⟨a0, len0, cap0, rfl⟩ := okWide_slice Try.underlying22 (hval 0 22 v0 rfl rfl)
  have k0 := h0
  have lt0 : ∀ x ∈ p0, x.block < W.heap.size := by obtain ⟨m, hm⟩ := k0; exact DataW.trod_lt m _ _ _ hm
  obtain ⟨fu0, hf0⟩ := h0
  obtain ⟨z0, w0⟩ := Go.Proofs.Ytpfnpfbimadjkaa.W.open_recsc (show DataW.trod enc Try.prog W 0 (fun _ => true) true fu0 22 [.slice a0 len0 cap0] = some _ from hf0)
  obtain ⟨a1, rfl, rfl, rfl, w1⟩ := open_int Try.underlying3 (hval 1 3 v1 rfl rfl) h1
  clear hA0 hval0
  refine (walk a0 len0 cap0 z0 a1 W w0 w1).mono fun e W' ⟨he, bel⟩ => ?_
  subst he
  exact ⟨_, rfl, _, _, _, [], _, [], hW', trodAll_mk1 (shut_bool Try.underlying4 _), (trodAll_cons_mk (Below.trod laidOut (by kernel_rfl) (of_decide_eq_true (by kernel_rfl)) k0 bel lt0) (trodAll_cons_mk (shut_int Try.underlying3 w1) trodAll_mk0)), rfl, bel.frame _, fun h => by cases h⟩

theorem over : Rows.compactKeepsRow.holds Try.pinned (OpenSpec.ofChange Rows.compactKeepsSpec) :=
  OpenClaim.holds_of_wide 3 Try.f3 rfl rfl rfl rfl rfl rfl rfl ⟨rfl, rfl, rfl, rfl, rfl⟩ rfl rfl rfl rfl rfl (by kernel_rfl) Try.func3 (by kernel_rfl)
    (of_decide_eq_true (by kernel_rfl)) (by unfold Func.isWrapper; first | (rw [if_pos (by decide +kernel)]; kernel_rfl) | (rw [if_neg (by decide +kernel)]; exact ⟨rfl, rfl⟩))
    (fun os started H enc _ => lifted os started H enc)

/-- The statement. -/
theorem proved : Rows.CompactKeepsSaid := over
#print axioms proved

end Go.Proofs.Ytpfnpfbimadjkaa.compactKeeps
