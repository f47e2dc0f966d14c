/- For every two supers, every fuse and whatever stays the law SuperStores returns true. No condition. -/
import Derived.Test.YtkmlmondhmpkkaaRows
import Derived.Test.YtkmlmondhmpkkaaSuStores
import Derived.Test.YtkmlmondhmpkkaaSuKept
import Derived.Test.YtkmlmondhmpkkaaOpenSuper
import Derived.ChangeOld
import Derived.ShutString
namespace Go.Proofs.Ytkmlmondhmpkkaa.superStores
open Go.ChangeShapes Go.WideShapes Go.ChangeAt Go.RowKit
open Go.ChangeMaps (open_string shut_string)
open Go.Proofs.Ytkmlmondhmpkkaa.M Go.Proofs.Ytkmlmondhmpkkaa.W Go.Proofs.Ytkmlmondhmpkkaa.D Go.Proofs.Ytkmlmondhmpkkaa.Z
set_option linter.unusedVariables false
set_option maxRecDepth 100000 in
set_option maxHeartbeats 1000000 in
theorem small (a b c e f p b2 c2 e2 f2 : Nat) (q : Int) (ka : Option Addr) (km cap : Nat) (w : World) (h : a = 4294967295 ∨ (a < 4294967295 ∧ 40 < km)) :
    Calls Try.prog 7 #[.agg #[.int .u32 a, .int .u32 b, .int .u32 c, .int .u32 e, .int .u32 f], .agg #[.int .u32 p, .int .u32 b2, .int .u32 c2, .int .u32 e2, .int .u32 f2], .agg #[.int .i64 q, .slice ka km cap]] w fun r w' => r = .returned (.bool true) ∧ Below w.heap.size w w' := by
  have hB := Lib.hid (((grewAlloc (grewAlloc (grewAlloc (Below.refl _ w) (.cells #[.int .u32 a, .int .u32 b, .int .u32 c, .int .u32 e, .int .u32 f] 43)) (.cells #[.int .u32 p, .int .u32 b2, .int .u32 c2, .int .u32 e2, .int .u32 f2] 43)) (.cells #[.int .i64 q, .slice ka km cap] 62))))
  rcases h with h | ⟨h1, h2⟩
  · have e1 : ((a : Int) == 4294967295) = true := by rw [beq_iff_eq]; omega
    clear h
    go_enter Try.func7, Try.ntmps7
    go_wp2_with fail
    refine (three_any _).mono ?_
    rintro _ w8 ⟨rfl, hb8⟩
    go_wp2_with fail
    go_ret
    exact ⟨rfl, grew hB.out hb8⟩
  · have e1 : ((a : Int) == 4294967295) = false := by rw [beq_eq_false_iff_ne]; omega
    have e2 : decide (40 < (km : Int)) = true := by simp; omega
    have e3 : 40 < (km : Int) := by omega
    clear h1 h2
    go_enter Try.func7, Try.ntmps7
    go_wp2_with fail
    refine (three_any _).mono ?_
    rintro _ w8 ⟨rfl, hb8⟩
    go_wp2_with fail
    go_ret
    exact ⟨rfl, grew hB.out hb8⟩
theorem same_set (k t : Nat) (U : List UInt8) (h : (k = 0 ∧ t = 1) ∨ (k = 1 ∧ t = 0)) : (zeros 6).set (2 + k) U = ((zeros 6).set (2 + k) U).set (2 + t) (List.replicate 64 0) := by
  rcases h with ⟨rfl, rfl⟩ | ⟨rfl, rfl⟩ <;> rfl
theorem walk (a b c e f p b2 c2 e2 f2 q : Int) (kv : Value) (kl : List (Int × Int)) (w : World)
    (w0 : (Lit.int .u32 a).wf = true) (w1 : (Lit.int .u32 b).wf = true) (w2 : (Lit.int .u32 c).wf = true) (w3 : (Lit.int .u32 e).wf = true) (w4 : (Lit.int .u32 f).wf = true)
    (v0 : (Lit.int .u32 p).wf = true) (v1 : (Lit.int .u32 b2).wf = true) (v2 : (Lit.int .u32 c2).wf = true) (v3 : (Lit.int .u32 e2).wf = true) (v4 : (Lit.int .u32 f2).wf = true) (wq : (Lit.int .i64 q).wf = true) (hk : Keeps w kv kl) :
    Calls Try.prog 7 #[.agg #[.int .u32 a, .int .u32 b, .int .u32 c, .int .u32 e, .int .u32 f], .agg #[.int .u32 p, .int .u32 b2, .int .u32 c2, .int .u32 e2, .int .u32 f2], .agg #[.int .i64 q, kv]] w fun r w' => r = .returned (.bool true) ∧ Below w.heap.size w w' := by
  obtain ⟨a0, a1⟩ := bounds_u32 w0
  obtain ⟨b0, b1⟩ := bounds_u32 w1
  obtain ⟨c0, c1⟩ := bounds_u32 w2
  obtain ⟨e0, e1⟩ := bounds_u32 w3
  obtain ⟨f0, f1⟩ := bounds_u32 w4
  obtain ⟨p0, p1⟩ := bounds_u32 v0
  obtain ⟨g0, g1⟩ := bounds_u32 v1
  obtain ⟨i0, i1⟩ := bounds_u32 v2
  obtain ⟨j0, j1⟩ := bounds_u32 v3
  obtain ⟨m0, m1⟩ := bounds_u32 v4
  obtain ⟨q0, q1⟩ := bounds_i64 wq
  obtain ⟨a, rfl⟩ := Int.eq_ofNat_of_zero_le a0
  obtain ⟨b, rfl⟩ := Int.eq_ofNat_of_zero_le b0
  obtain ⟨c, rfl⟩ := Int.eq_ofNat_of_zero_le c0
  obtain ⟨e, rfl⟩ := Int.eq_ofNat_of_zero_le e0
  obtain ⟨f, rfl⟩ := Int.eq_ofNat_of_zero_le f0
  obtain ⟨p, rfl⟩ := Int.eq_ofNat_of_zero_le p0
  obtain ⟨b2, rfl⟩ := Int.eq_ofNat_of_zero_le g0
  obtain ⟨c2, rfl⟩ := Int.eq_ofNat_of_zero_le i0
  obtain ⟨e2, rfl⟩ := Int.eq_ofNat_of_zero_le j0
  obtain ⟨f2, rfl⟩ := Int.eq_ofNat_of_zero_le m0
  obtain ⟨ka, cap, rfl, -, -, -⟩ := hk.form
  by_cases hm : a = 4294967295
  · exact small a b c e f p b2 c2 e2 f2 q ka _ cap w (.inl hm)
  by_cases h40 : 40 < kl.length
  · exact small a b c e f p b2 c2 e2 f2 q ka _ cap w (.inr ⟨by omega, h40⟩)
  have l0 : a < 4294967296 := by omega
  have l1 : b < 4294967296 := by omega
  have l2 : c < 4294967296 := by omega
  have l3 : e < 4294967296 := by omega
  have l4 : f < 4294967296 := by omega
  obtain ⟨t, ht⟩ : ∃ t, a + 1 = t := ⟨_, rfl⟩
  have r0 : t < 4294967296 := by omega
  have r1 : b2 < 4294967296 := by omega
  have r2 : c2 < 4294967296 := by omega
  have r3 : e2 < 4294967296 := by omega
  have r4 : f2 < 4294967296 := by omega
  have hkt : (a % 2 = 0 ∧ t % 2 = 1) ∨ (a % 2 = 1 ∧ t % 2 = 0) := by omega
  have s1 := span_one (a % 2) (superU a b c e f) (by omega)
  have s2 := span_one (t % 2) (superU t b2 c2 e2 f2) (by omega)
  have hs1 : ∀ (w0 W : World) (vb d g : Nat), SV w0 vb d g (zeros 6) [] 2 3 (-1) 0 false W → Calls Try.prog 27 #[.pointer (some ⟨vb, 0, none⟩), .agg #[.int .u32 a, .int .u32 b, .int .u32 c, .int .u32 e, .int .u32 f]] W fun r w' => r = .returned (.int .i64 0) ∧ SV w0 vb d g ((zeros 6).set (2 + a % 2) (superU a b c e f)) [] 2 3 (-1) 2 false w' := fun w0 W vb d g h => by
    have k := sv_store a b c e f l0 l1 l2 l3 l4 h (by decide) (by decide) (by decide) (by decide) (by decide) (by decide) (by decide) (by decide)
    rw [List.nil_append, s1.1, s1.2] at k
    exact k
  have hcr : ∀ (L : List (List UInt8)) (ws : List (Nat × List UInt8)) (fz st : Int) (gn : Bool), ws.length ≤ 10 → ∀ (w0 W : World) (vb d g : Nat), Below w.heap.size w w0 → SV w0 vb d g L ws 2 3 fz st gn W → Calls Try.prog 29 #[.pointer (some ⟨vb, 0, none⟩), .slice ka kl.length cap] W fun r w' => r = .returned (.int .i64 0) ∧ SV w0 vb d g (kepts (ws.filter (spanB 2 3)) L kl) (ws.filter (keepB 2 3)) 2 3 (-1) 0 false w' := fun L ws fz st gn hw w0 W vb d g hb h => sv_crash _ kl h hb hk (by omega) (by omega)
  have hdone : ∀ (L : List (List UInt8)) (fz st : Int) (gn : Bool) (w0 W : World) (vb d g : Nat), Below w.heap.size w w0 → SV w0 vb d g L [] 2 3 fz st gn W → Calls Try.prog 29 #[.pointer (some ⟨vb, 0, none⟩), .slice ka kl.length cap] W fun r w' => r = .returned (.int .i64 0) ∧ SV w0 vb d g L [] 2 3 (-1) 0 false w' := fun L fz st gn w0 W vb d g hb h => by
    have k := hcr L [] fz st gn (by decide) w0 W vb d g hb h
    rw [show ([] : List (Nat × List UInt8)).filter (spanB 2 3) = [] from rfl, show ([] : List (Nat × List UInt8)).filter (keepB 2 3) = [] from rfl, keptOfNone] at k
    exact k
  have hln := fun (w0 W : World) (vb d g : Nat) h => load_next (w0 := w0) (W := W) (vb := vb) (d := d) (g := g) a b c e f t b2 c2 e2 f2 l0 l1 l2 l3 l4 r0 r1 r2 r3 r4 ht h
  have hll := fun (X : List UInt8) (hX : X.length = 64) (hno : ¬ isU (B X)) (w0 W : World) (vb d g : Nat) h => load_last (w0 := w0) (W := W) (vb := vb) (d := d) (g := g) a b c e f t l0 l1 l2 l3 l4 ht X hX hno h
  by_cases hq0 : q = 0
  · subst hq0
    refine sstores_last a b c e f p t b2 c2 e2 f2 0 ka kl.length cap ((zeros 6).set (2 + a % 2) (superU a b c e f)) _ ((zeros 6).set (2 + a % 2) (superU a b c e f)) [] 0 2 true w l0 l1 l2 l3 l4 r0 r1 r2 r3 r4 ht (by omega) (by decide) (by decide) hs1 (fun w0 W vb d g h => sv_store_dead t b2 c2 e2 f2 r0 r1 r2 r3 r4 h (by decide) (.inr rfl)) (hdone _ _ _ _) (fun w0 W vb d g h => ?_)
    rw [same_set _ _ _ hkt] at h
    exact hll _ (by simp) isU_zero w0 W vb d g h
  by_cases hq1 : q = 1
  · subst hq1
    have hst : ∀ (w0 W : World) (vb d g : Nat), SV w0 vb d g ((zeros 6).set (2 + a % 2) (superU a b c e f)) [] 2 3 1 2 false W → Calls Try.prog 27 #[.pointer (some ⟨vb, 0, none⟩), .agg #[.int .u32 t, .int .u32 b2, .int .u32 c2, .int .u32 e2, .int .u32 f2]] W fun r w' => r = .returned (.int .i64 21) ∧ SV w0 vb d g ((zeros 6).set (2 + a % 2) (superU a b c e f)) [(2 + t % 2, superU t b2 c2 e2 f2)] 2 3 0 3 true w' := fun w0 W vb d g h => sv_store_half t b2 c2 e2 f2 r0 r1 r2 r3 r4 h (by decide) (by decide) (by decide) (by decide)
    obtain ⟨j, hj, hkj⟩ := kept_mix (superU t b2 c2 e2 f2) (superU_len _ _ _ _ _) (2 + t % 2) ((zeros 6).set (2 + a % 2) (superU a b c e f)) (by rw [List.length_set]; show _ < 6; omega) kl 0 (by omega)
    rw [show mix (superU t b2 c2 e2 f2) 0 = List.replicate 64 0 from rfl, ← same_set _ _ _ hkt] at hkj
    have hc1 : ∀ (w0 W : World) (vb d g : Nat), Below w.heap.size w w0 → SV w0 vb d g ((zeros 6).set (2 + a % 2) (superU a b c e f)) [(2 + t % 2, superU t b2 c2 e2 f2)] 2 3 0 3 true W → Calls Try.prog 29 #[.pointer (some ⟨vb, 0, none⟩), .slice ka kl.length cap] W fun r w' => r = .returned (.int .i64 0) ∧ SV w0 vb d g (((zeros 6).set (2 + a % 2) (superU a b c e f)).set (2 + t % 2) (mix (superU t b2 c2 e2 f2) j)) [] 2 3 (-1) 0 false w' := fun w0 W vb d g hb h => by
      have k := hcr _ _ 0 3 true (by simp) w0 W vb d g hb h
      rw [s2.1, s2.2, hkj] at k
      exact k
    by_cases hU : isU (B (mix (superU t b2 c2 e2 f2) j))
    · have he : mix (superU t b2 c2 e2 f2) j = superU t b2 c2 e2 f2 := by
        exact congrArg (fun s : ByteArray => s.data.toList) (torn_super t b2 c2 e2 f2 j r0 hU)
      rw [he] at hc1
      exact sstores_next a b c e f p t b2 c2 e2 f2 1 ka kl.length cap _ _ _ _ 0 3 true w l0 l1 l2 l3 l4 r0 r1 r2 r3 r4 ht (by omega) (by decide) (by decide) hs1 hst hc1 hln
    · exact sstores_last a b c e f p t b2 c2 e2 f2 1 ka kl.length cap _ _ _ _ 0 3 true w l0 l1 l2 l3 l4 r0 r1 r2 r3 r4 ht (by omega) (by decide) (by decide) hs1 hst hc1 (hll _ (mix_len _ (superU_len _ _ _ _ _) j hj) hU)
  have hst : ∀ (w0 W : World) (vb d g : Nat), SV w0 vb d g ((zeros 6).set (2 + a % 2) (superU a b c e f)) [] 2 3 q 2 false W → Calls Try.prog 27 #[.pointer (some ⟨vb, 0, none⟩), .agg #[.int .u32 t, .int .u32 b2, .int .u32 c2, .int .u32 e2, .int .u32 f2]] W fun r w' => r = .returned (.int .i64 0) ∧ SV w0 vb d g (((zeros 6).set (2 + a % 2) (superU a b c e f)).set (2 + t % 2) (superU t b2 c2 e2 f2)) [] 2 3 (if 0 < q then q - 1 - 1 else q) 4 false w' := fun w0 W vb d g h => by
    have k := sv_store t b2 c2 e2 f2 r0 r1 r2 r3 r4 h (by decide) hq0 hq1 (by decide) (by decide) (by omega) (by omega) (by decide)
    rw [List.nil_append, s2.1, s2.2] at k
    exact k
  by_cases hneg : q < 0
  · exact sstores_done a b c e f p t b2 c2 e2 f2 q ka kl.length cap _ _ _ _ _ _ _ w l0 l1 l2 l3 l4 r0 r1 r2 r3 r4 ht (by omega) hneg hs1 hst (hdone _ _ _ _) hln
  · exact sstores_more a b c e f p t b2 c2 e2 f2 q ka kl.length cap _ _ _ _ _ _ _ w l0 l1 l2 l3 l4 r0 r1 r2 r3 r4 ht (by omega) (by omega) hs1 hst (hdone _ _ _ _) hln


theorem own : ownKnob Try.prog.godebug = none := by kernel_rfl
theorem laidOut : laidOutB Try.prog = true := by kernel_rfl

set_option maxRecDepth 100000 in
theorem lifted (os : Os) (started : os.Started) (H : Type) (enc : TypeId × Value → H) :
    ReturnsInHanded {} Try.checked os 7 .any (Rows.superStoresSpec.pre6 enc Try.prog Try.f7 Rows.superStoresRow.domain false) (Rows.superStoresSpec.post enc Try.prog Try.f7 false true false false) := by
  refine returnsInHanded_of_change (C := Try.checked) own started (by kernel_rfl) Try.func7
    (ChangeSpec.witness6 (enc := enc) (C := Try.checked) false ⟨#[], #[.agg #[.int .u32 0, .int .u32 0, .int .u32 0, .int .u32 0, .int .u32 0], .agg #[.int .u32 0, .int .u32 0, .int .u32 0, .int .u32 0, .int .u32 0], .agg #[.int .i64 0, .slice none 0 0]], []⟩ 8 (by kernel_rfl) (by kernel_rfl) (by kernel_rfl) (by kernel_rfl)) ?_
  intro W base args ds gs before hval0 hW hcnd _
  have hval : ∀ (j : Nat) t v, Try.f7.params[j]? = some t → args[j]? = some v → Value.okWide Try.prog W .any base t v := hval0
  have hW' := hW
  obtain ⟨p, q, hA0, hV, rfl, hfz, hnd⟩ := hW
  have hA : DataW.TrodAll enc Try.prog W 0 (fun _ => true) true Try.f7.params.toList args.toList ds p := hA0
  rw [Try.params7] at hA hval
  obtain ⟨v0, vs0, d0, ds0, p0, q0, hargs, rfl, rfl, h0, r0⟩ := trodAll_cons hA
  obtain ⟨v1, vs1, d1, ds1, p1, q1, rfl, rfl, rfl, h1, r1⟩ := trodAll_cons r0
  obtain ⟨v2, vs2, d2, ds2, p2, q2, rfl, rfl, rfl, h2, r2⟩ := trodAll_cons r1
  obtain ⟨rfl, rfl, rfl⟩ := trodAll_nil r2
  obtain rfl : args = #[v0, v1, v2] := by cases args; simp_all
  obtain ⟨rfl, rfl⟩ := trodVars_none hV
  have k0 := h0
  have lt0 : ∀ x ∈ p0, x.block < W.heap.size := by obtain ⟨m, hm⟩ := k0; exact DataW.trod_lt m _ _ _ hm
  obtain ⟨ua0, ub0, uc0, ud0, ue0, rfl, wa0, wb0, wc0, wd0, we0⟩ := M.open_super5 (hval 0 43 v0 rfl rfl) h0
  have k1 := h1
  have lt1 : ∀ x ∈ p1, x.block < W.heap.size := by obtain ⟨m, hm⟩ := k1; exact DataW.trod_lt m _ _ _ hm
  obtain ⟨ua1, ub1, uc1, ud1, ue1, rfl, wa1, wb1, wc1, wd1, we1⟩ := M.open_super5 (hval 1 43 v1 rfl rfl) h1
  have k2 := h2
  have lt2 : ∀ x ∈ p2, x.block < W.heap.size := by obtain ⟨m, hm⟩ := k2; exact DataW.trod_lt m _ _ _ hm
  obtain ⟨qf2, qv2, ql2, rfl, wqf2, wql2⟩ := D.open_fall (hval 2 62 v2 rfl rfl) h2
  clear hA0 hval0
  refine (walk ua0 ub0 uc0 ud0 ue0 ua1 ub1 uc1 ud1 ue1 qf2 qv2 ql2 W wa0 wb0 wc0 wd0 we0 wa1 wb1 wc1 wd1 we1 wqf2 wql2).mono fun e W' ⟨he, bel⟩ => ?_
  subst he
  exact ⟨_, rfl, _, _, _, [], _, [], hW', trodAll_mk1 (shut_bool Try.underlying4 _), (trodAll_cons_mk (Below.trod laidOut (by kernel_rfl) (of_decide_eq_true (by kernel_rfl)) k0 bel lt0) (trodAll_cons_mk (Below.trod laidOut (by kernel_rfl) (of_decide_eq_true (by kernel_rfl)) k1 bel lt1) (trodAll_cons_mk (Below.trod laidOut (by kernel_rfl) (of_decide_eq_true (by kernel_rfl)) k2 bel lt2) trodAll_mk0))), rfl, bel.frame _, fun h => by cases h⟩

theorem over : Rows.superStoresRow.holds Try.pinned (OpenSpec.ofChange Rows.superStoresSpec) :=
  OpenClaim.holds_of_wide 7 Try.f7 rfl rfl rfl rfl rfl rfl rfl ⟨rfl, rfl, rfl, rfl, rfl⟩ rfl rfl rfl rfl rfl (by kernel_rfl) Try.func7 (by kernel_rfl)
    (of_decide_eq_true (by kernel_rfl)) (by unfold Func.isWrapper; first | (rw [if_pos (by decide +kernel)]; kernel_rfl) | (rw [if_neg (by decide +kernel)]; exact ⟨rfl, rfl⟩))
    (fun os started H enc _ => lifted os started H enc)

/-- The statement. -/
theorem proved : Rows.SuperStoresSaid := over
#print axioms proved

end Go.Proofs.Ytkmlmondhmpkkaa.superStores
