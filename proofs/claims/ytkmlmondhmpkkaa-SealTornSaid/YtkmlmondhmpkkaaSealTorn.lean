/- For every two sealed sectors and every number the law SealTorn returns true: a torn sector opens as the one, or as the other one, or not at all. No condition. -/
import Derived.Test.YtkmlmondhmpkkaaRows
import Derived.Test.YtkmlmondhmpkkaaTornB
import Derived.Test.YtkmlmondhmpkkaaTornC
import Derived.ChangeOld
import Derived.ShutString
namespace Go.Proofs.Ytkmlmondhmpkkaa.sealTorn
open Go.ChangeShapes Go.WideShapes Go.ChangeAt Go.RowKit
open Go.ChangeMaps (open_string shut_string)
open Go.Proofs.Ytkmlmondhmpkkaa.M Go.Proofs.Ytkmlmondhmpkkaa.W Go.Proofs.Ytkmlmondhmpkkaa.D Go.Proofs.Ytkmlmondhmpkkaa.Z
set_option linter.unusedVariables false

theorem cut_B (S t : ByteArray) (k : Nat) (ht : t.size = 64) : S.extract 0 k ++ t.extract k 64 = B (S.data.toList.take k ++ t.data.toList.drop k) := by
  have hl : t.data.toList.length = 64 := by simpa using ht
  rw [← B_of (S.extract 0 k), ← B_of (t.extract k 64), B_append, ext_list, ext_list, List.drop_zero, Nat.sub_zero]
  rw [List.take_of_length_le (l := t.data.toList.drop k) (by rw [List.length_drop]; omega)]
theorem may_bounds {c : Int} (h : mayB c 52 = true) : 1 ≤ c ∧ c ≤ 65535 := by
  unfold mayB at h; simp at h; exact h
theorem walk (st c : Int) (dl : List UInt8) (st2 c2 : Int) (dl2 : List UInt8) (cut : Int) (w : World) (w0 : (Lit.int .u32 st).wf = true) (w1 : (Lit.int .i64 c).wf = true) (w2 : dl.length = 52) (w3 : (Lit.int .u32 st2).wf = true) (w4 : (Lit.int .i64 c2).wf = true) (w5 : dl2.length = 52) (w6 : (Lit.int .i64 cut).wf = true) :
    Calls Try.prog 4 #[.agg (sealedV st c dl).toArray, .agg (sealedV st2 c2 dl2).toArray, .int .i64 cut] w fun e w' => e = .returned (.bool true) ∧ Below w.heap.size w w' := by
  obtain ⟨l0, l1⟩ := bounds_u32 w0
  obtain ⟨l2, l3⟩ := bounds_u32 w3
  obtain ⟨W, h⟩ := known_new w st c st2 c2 dl dl2 w2 w5
  cases hm : mayB c 52 with
  | false => rw [hm] at h; exact torn_may w W h
  | true =>
    rw [hm] at h
    obtain ⟨c1, c65⟩ := may_bounds hm
    by_cases hlo : cut < 0
    · exact torn_low w W hlo h
    by_cases hhi : 64 < cut
    · exact torn_high w W (by omega) hhi h
    by_cases hsame : st = st2 ∧ c = c2
    · obtain ⟨rfl, rfl⟩ := hsame
      exact torn_same (st2 := st) (c2 := c) w W (by omega) (by omega) h
    obtain ⟨s, rfl⟩ := Int.eq_ofNat_of_zero_le l0
    obtain ⟨s2, rfl⟩ := Int.eq_ofNat_of_zero_le l2
    obtain ⟨n, rfl⟩ := Int.eq_ofNat_of_zero_le (show 0 ≤ c by omega)
    obtain ⟨k, rfl⟩ := Int.eq_ofNat_of_zero_le (show 0 ≤ cut by omega)
    have hd : (B dl).size = 52 := by rw [B_size, w2]
    have hd2 : (B dl2).size = 52 := by rw [B_size, w5]
    have hse := fun W => seal_yes s n (B dl) W (by omega) (by omega) (by omega) hd
    rw [B_data] at hse
    obtain ⟨o1, o2, o3, o4⟩ := open_seal s n dl (by omega) (by omega) (by omega) w2
    have hSz : (B (sealL s n dl)).size = 64 := o1.1
    have hopS := fun W => open_yes (B (sealL s n dl)) W o1
    rw [o2, o3, o4] at hopS
    cases hm2 : mayB c2 52 with
    | true =>
      rw [hm2] at h
      obtain ⟨d1, d65⟩ := may_bounds hm2
      obtain ⟨n2, rfl⟩ := Int.eq_ofNat_of_zero_le (show 0 ≤ c2 by omega)
      have hrs := fun W => rseal_any s2 n2 (B dl2) W (by omega) (by omega) (by omega)
      rw [B_data] at hrs
      obtain ⟨p1, p2, p3, p4⟩ := open_seal s2 n2 dl2 (by omega) (by omega) (by omega) w5
      have hopT := fun W => open_yes (B (sealL s2 n2 dl2)) W p1
      rw [p2, p3, p4] at hopT
      have hR := cut_B (B (sealL s n dl)) (B (sealL s2 n2 dl2)) k p1.1
      rw [B_data, B_data] at hR
      have ht := torn_two s n s2 n2 dl dl2 k (by omega) (by omega) (by omega) (by omega) w2 w5 (by omega)
      rw [← hR] at ht
      have hRz : ((B (sealL s n dl)).extract 0 k ++ (B (sealL s2 n2 dl2)).extract k 64).size ≤ 1000000 := by
        rw [ByteArray.size_append]; simp; omega
      by_cases hop : opensS ((B (sealL s n dl)).extract 0 k ++ (B (sealL s2 n2 dl2)).extract k 64)
      · by_cases hRS : (B (sealL s n dl)).extract 0 k ++ (B (sealL s2 n2 dl2)).extract k 64 = B (sealL s n dl)
        · by_cases hs : s = s2
          · subst hs
            exact two_S_c w W h (by omega) hSz p1.1 hRS (by omega) hse hrs hopS
          · exact two_S_s w W h (by omega) hSz p1.1 hRS (by omega) hse hrs hopS
        · have hRt := (ht hop).resolve_left hRS
          by_cases hs : s = s2
          · subst hs
            exact two_t_c w W h (by omega) hSz p1.1 hRt (by omega) hse hrs hopT rfl
          · exact two_t_s w W h (by omega) hSz p1.1 hRt (by omega) hse hrs hopT rfl
      · have hno := fun W => open_no _ W hRz hop
        have hne : (B (sealL s n dl)).extract 0 k ++ (B (sealL s2 n2 dl2)).extract k 64 ≠ B (sealL s n dl) := fun e => hop (by rw [e]; exact o1)
        by_cases hs : s = s2
        · subst hs
          exact two_no_c w W h (by omega) hSz p1.1 rfl (by omega) hse hrs hno hne
        · exact two_no_s w W h (by omega) hSz p1.1 rfl (by omega) hse hrs hno hne
    | false =>
      rw [hm2] at h
      have hzz := zerosB_size 64
      have hR := cut_B (B (sealL s n dl)) (zerosB 64) k hzz
      have ht := torn_zero s n dl k (by omega) (by omega) (by omega) w2
      rw [show B ((sealL s n dl).take k ++ (List.replicate 64 (0 : UInt8)).drop k) = B ((B (sealL s n dl)).data.toList.take k ++ (zerosB 64).data.toList.drop k) from rfl, ← hR] at ht
      have hRz : ((B (sealL s n dl)).extract 0 k ++ (zerosB 64).extract k 64).size ≤ 1000000 := by
        rw [ByteArray.size_append]; simp; omega
      by_cases hop : opensS ((B (sealL s n dl)).extract 0 k ++ (zerosB 64).extract k 64)
      · have hRS := ht hop
        by_cases hs : s = s2
        · subst hs
          exact zero_S_c w W h (by omega) hSz hzz hRS (by omega) hse rfl hopS
        · exact zero_S_s w W h (by omega) hSz hzz hRS (by omega) hse rfl hopS
      · have hno := fun W => open_no _ W hRz hop
        have hne : (B (sealL s n dl)).extract 0 k ++ (zerosB 64).extract k 64 ≠ B (sealL s n dl) := fun e => hop (by rw [e]; exact o1)
        by_cases hs : s = s2
        · subst hs
          exact zero_no_c w W h (by omega) hSz hzz rfl (by omega) hse rfl hno hne
        · exact zero_no_s w W h (by omega) hSz hzz rfl (by omega) hse rfl hno hne


theorem own : ownKnob Try.prog.godebug = none := by kernel_rfl
theorem laidOut : laidOutB Try.prog = true := by kernel_rfl

set_option maxRecDepth 100000 in
theorem lifted (os : Os) (started : os.Started) (H : Type) (enc : TypeId × Value → H) :
    ReturnsInHanded {} Try.checked os 4 .any (Rows.sealTornSpec.pre6 enc Try.prog Try.f4 Rows.sealTornRow.domain false) (Rows.sealTornSpec.post enc Try.prog Try.f4 false true false false) := by
  refine returnsInHanded_of_change (C := Try.checked) own started (by kernel_rfl) Try.func4
    (ChangeSpec.witness6 (enc := enc) (C := Try.checked) false ⟨#[], #[.agg (#[.int .u32 0, .int .i64 0] ++ Array.replicate 52 (.int .u8 0)), .agg (#[.int .u32 0, .int .i64 0] ++ Array.replicate 52 (.int .u8 0)), .int .i64 0], []⟩ 8 (by kernel_rfl) (by kernel_rfl) (by kernel_rfl) (by kernel_rfl)) ?_
  intro W base args ds gs before hval0 hW hcnd _
  have hval : ∀ (j : Nat) t v, Try.f4.params[j]? = some t → args[j]? = some v → Value.okWide Try.prog W .any base t v := hval0
  have hW' := hW
  obtain ⟨p, q, hA0, hV, rfl, hfz, hnd⟩ := hW
  have hA : DataW.TrodAll enc Try.prog W 0 (fun _ => true) true Try.f4.params.toList args.toList ds p := hA0
  rw [Try.params4] at hA hval
  obtain ⟨v0, vs0, d0, ds0, p0, q0, hargs, rfl, rfl, h0, r0⟩ := trodAll_cons hA
  obtain ⟨v1, vs1, d1, ds1, p1, q1, rfl, rfl, rfl, h1, r1⟩ := trodAll_cons r0
  obtain ⟨v2, vs2, d2, ds2, p2, q2, rfl, rfl, rfl, h2, r2⟩ := trodAll_cons r1
  obtain ⟨rfl, rfl, rfl⟩ := trodAll_nil r2
  obtain rfl : args = #[v0, v1, v2] := by cases args; simp_all
  obtain ⟨rfl, rfl⟩ := trodVars_none hV
  have k0 := h0
  have lt0 : ∀ x ∈ p0, x.block < W.heap.size := by obtain ⟨m, hm⟩ := k0; exact DataW.trod_lt m _ _ _ hm
  obtain ⟨st0, ct0, dl0, rfl, wst0, wct0, wdl0⟩ := M.open_sealed (hval 0 25 v0 rfl rfl) h0
  have k1 := h1
  have lt1 : ∀ x ∈ p1, x.block < W.heap.size := by obtain ⟨m, hm⟩ := k1; exact DataW.trod_lt m _ _ _ hm
  obtain ⟨st1, ct1, dl1, rfl, wst1, wct1, wdl1⟩ := M.open_sealed (hval 1 25 v1 rfl rfl) h1
  obtain ⟨a2, rfl, rfl, rfl, w2⟩ := open_int Try.underlying3 (hval 2 3 v2 rfl rfl) h2
  clear hA0 hval0
  refine (walk st0 ct0 dl0 st1 ct1 dl1 a2 W wst0 wct0 wdl0 wst1 wct1 wdl1 w2).mono fun e W' ⟨he, bel⟩ => ?_
  subst he
  exact ⟨_, rfl, _, _, _, [], _, [], hW', trodAll_mk1 (shut_bool Try.underlying4 _), (trodAll_cons_mk (Below.trod laidOut (by kernel_rfl) (of_decide_eq_true (by kernel_rfl)) k0 bel lt0) (trodAll_cons_mk (Below.trod laidOut (by kernel_rfl) (of_decide_eq_true (by kernel_rfl)) k1 bel lt1) (trodAll_cons_mk (shut_int Try.underlying3 w2) trodAll_mk0))), rfl, bel.frame _, fun h => by cases h⟩

theorem over : Rows.sealTornRow.holds Try.pinned (OpenSpec.ofChange Rows.sealTornSpec) :=
  OpenClaim.holds_of_wide 4 Try.f4 rfl rfl rfl rfl rfl rfl rfl ⟨rfl, rfl, rfl, rfl, rfl⟩ rfl rfl rfl rfl rfl (by kernel_rfl) Try.func4 (by kernel_rfl)
    (of_decide_eq_true (by kernel_rfl)) (by unfold Func.isWrapper; first | (rw [if_pos (by decide +kernel)]; kernel_rfl) | (rw [if_neg (by decide +kernel)]; exact ⟨rfl, rfl⟩))
    (fun os started H enc _ => lifted os started H enc)

/-- The statement. -/
theorem proved : Rows.SealTornSaid := over
#print axioms proved

end Go.Proofs.Ytkmlmondhmpkkaa.sealTorn
