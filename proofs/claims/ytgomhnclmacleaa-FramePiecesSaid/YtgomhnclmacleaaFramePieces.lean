/- For every string and every int the law FramePieces returns true: the pieces of bytes are those of the definition, one behind the other they begin with the bytes, and there are Many of their number. No condition. -/
import Derived.Test.YtgomhnclmacleaaRows
import Derived.Test.YtgomhnclmacleaaPiecesC
import Derived.ChangeOld
import Derived.ShutString
namespace Go.Proofs.Ytgomhnclmacleaa.framePieces
open Go.ChangeShapes Go.WideShapes Go.ChangeAt Go.RowKit
open Go.ChangeMaps (open_string shut_string)
open Go.Proofs.Ytgomhnclmacleaa.M Go.Proofs.Ytgomhnclmacleaa.W Go.Proofs.Ytgomhnclmacleaa.D Go.Proofs.Ytgomhnclmacleaa.Z
set_option linter.unusedVariables false

set_option maxRecDepth 100000 in
set_option maxHeartbeats 4000000 in
theorem walk (s : ByteArray) (a : Int) (w : World) (w0 : s.size ≤ maxLen) (w1 : (Lit.int .i64 a).wf = true) :
    Calls Try.prog 11 #[.string s, .int .i64 a] w fun e w' => e = .returned (.bool true) ∧ Below w.heap.size w w' := by
  obtain ⟨m0, m1⟩ := bounds_i64 w1
  unfold maxLen at w0
  by_cases hl : 1000 < s.size
  · go_enter Try.func11, Try.ntmps11
    go_wp2_with fail
    refine (bare_any _).mono ?_
    rintro e w1 ⟨rfl, hb⟩
    go_wp2_with fail
    go_ret
    exact ⟨rfl, hb⟩
  have hmany : ∀ W, Calls Try.prog 48 #[.int .i64 a] W fun e w' => e = .returned (.int .i64 (manyI a)) ∧ W = w' := fun W => many_any a W m0 m1
  replace hmany := Lib.hid hmany
  have hms : ∀ W, Calls Try.prog 48 #[.int .i64 (s.size : Int)] W fun e w' => e = .returned (.int .i64 (((s.size + 51) / 52 : Nat) : Int)) ∧ W = w' := fun W => by
    have h := many_any (s.size : Int) W (by omega) (by omega)
    rw [show manyI (s.size : Int) = (((s.size + 51) / 52 : Nat) : Int) from by unfold manyI; split <;> omega] at h
    exact h
  have hrp := fun W => rpieces_any 20 s W (by omega) (Nat.le_refl _)
  have hjt := joined_take s.data.toList ((s.size + 51) / 52) (by simp; omega)
  obtain ⟨n, hn⟩ : ∃ n, Hid ((s.size + 51) / 52 = n) := ⟨_, Lib.hid rfl⟩
  have hn20 : n ≤ 20 := by have := hn.out; omega
  have hn52 : s.size ≤ n * 52 := by have := hn.out; omega
  rw [hn.out] at hms hrp hjt
  replace hms := Lib.hid hms
  replace hrp := Lib.hid hrp
  replace hjt := Lib.hid hjt
  go_enter Try.func11, Try.ntmps11
  go_wp2_with fail
  refine (pieces_any s _ (by omega)).mono ?_
  rintro e w2 ⟨n', hn', rfl, hWh, hb2⟩
  obtain rfl : n' = n := by rw [hn', hn.out]
  rw [pcRow_full] at hWh
  have hin : StrsIn w2 (some ⟨w.heap.size, 0, none⟩) n' s.data.toList := fun k hk => ⟨_, rfl, hWh.lt, by rw [hWh.cell]; unfold Go.Proofs.Ytgomhnclmacleaa.W.strs; simp [hk]⟩
  replace hin := Lib.hid hin
  clear hWh hn'
  replace hb2 := Lib.hid hb2
  go_wp2_with fail
  go_loopg [6, 17] n' (fun ga v i wr => ∃ k : Nat, k ≤ n' ∧ n' ≤ k + ga ∧ i = .int .i64 k ∧ v = .string (B (joined s.data.toList k)) ∧ wr = w2)
  case atStart => exact ⟨0, by omega, by omega, rfl, rfl, rfl⟩
  case round =>
    obtain ⟨k, hk, hg, rfl, rfl, rfl⟩ := hrel
    have hjl := joined_len s.data.toList k
    by_cases hlt : k < n'
    · obtain ⟨b, hbe, _, c0⟩ := hin.out k hlt
      obtain rfl : w.heap.size = b := by injection hbe with hbe; injection hbe
      have hnew := Lib.hid (show B (joined s.data.toList k) ++ B (pcL s.data.toList k) = B (joined s.data.toList (k + 1)) from by rw [B_append]; rfl)
      have hz1 : (B (joined s.data.toList k)).size = k * 52 := by rw [B_size, hjl]
      have hz2 : (B (pcL s.data.toList k)).size = 52 := by rw [B_size, pcL_len]
      clear hbe hjl
      go_wp2_with fail
      rw [hnew.out]
      go_roundg (gk - 1)
      case measure => omega
      case rel => exact ⟨k + 1, by omega, by omega, by go_num, rfl, rfl⟩
    · obtain rfl : k = n' := by omega
      have hz1 : (B (joined s.data.toList k)).size = k * 52 := by rw [B_size, hjl]
      have hge : (s.size : Int) ≤ ((k * 52 : Nat) : Int) := by omega
      have hJe : Hid ((B (joined s.data.toList k)).extract 0 s.size = s) := Lib.hid (by
        rw [← B_of ((B (joined s.data.toList k)).extract 0 s.size), ext_list, B_data, List.drop_zero, Nat.sub_zero]
        have h := hjt.out
        rw [show s.data.toList.length = s.size from by simp] at h
        rw [h]; exact B_of s)
      obtain ⟨J, hJ⟩ : ∃ J, Hid (B (joined s.data.toList k) = J) := ⟨_, Lib.hid rfl⟩
      rw [hJ.out] at hJe hz1 ⊢
      have hJs : ((J.extract 0 s.size).toList == s.toList) = true := by rw [hJe.out]; simp
      have hszk : (s.size : Int) ≤ (J.size : Int) := by omega
      replace hz1 := Lib.hid hz1
      clear hjt hJe hJ hjl
      by_cases h1 : 0 < a
      · by_cases h2 : a < 1099511627776
        · rw [show manyI a = (a + 51) / 52 from by unfold manyI; rw [if_neg (by omega)]; omega] at hmany
          go_wp2_with fail
          refine (hmany.out _).mono ?_
          rintro e w5 ⟨rfl, rfl⟩
          go_wp2_with fail
          refine (hrp.out _).mono ?_
          rintro e w3 ⟨v, rfl, hown, hb3⟩
          obtain ⟨va, vc, rfl, hcells⟩ := own_cells hown
          have hin3 : StrsIn w3 va k s.data.toList := fun j hj => by obtain ⟨b, e, _, h1, h2⟩ := hcells j hj; exact ⟨b, e, h1, h2⟩
          replace hin := Lib.hid (hin.out.below hb3)
          replace hb2 := Lib.hid (grew hb2.out hb3)
          clear hown hcells hb3
          replace hin3 := Lib.hid hin3
          go_wp2_with fail
          refine (texts_same _ _ k _ _ s.data.toList _ (by omega) hin.out hin3.out).mono ?_
          rintro e w4 ⟨rfl, hb4⟩
          replace hb2 := Lib.hid (grew hb2.out hb4)
          clear hin hin3 hb4
          go_wp2_with fail
          refine (hms.out _).mono ?_
          rintro e w5 ⟨rfl, rfl⟩
          go_wp2_with fail
          refine (bare_any _).mono ?_
          rintro e w6 ⟨rfl, hb6⟩
          go_wp2_with fail
          go_ret
          exact ⟨rfl, grew hb2.out hb6⟩
        · go_wp2_with fail
          refine (hrp.out _).mono ?_
          rintro e w3 ⟨v, rfl, hown, hb3⟩
          obtain ⟨va, vc, rfl, hcells⟩ := own_cells hown
          have hin3 : StrsIn w3 va k s.data.toList := fun j hj => by obtain ⟨b, e, _, h1, h2⟩ := hcells j hj; exact ⟨b, e, h1, h2⟩
          replace hin := Lib.hid (hin.out.below hb3)
          replace hb2 := Lib.hid (grew hb2.out hb3)
          clear hown hcells hb3
          replace hin3 := Lib.hid hin3
          go_wp2_with fail
          refine (texts_same _ _ k _ _ s.data.toList _ (by omega) hin.out hin3.out).mono ?_
          rintro e w4 ⟨rfl, hb4⟩
          replace hb2 := Lib.hid (grew hb2.out hb4)
          clear hin hin3 hb4
          go_wp2_with fail
          refine (hms.out _).mono ?_
          rintro e w5 ⟨rfl, rfl⟩
          go_wp2_with fail
          refine (bare_any _).mono ?_
          rintro e w6 ⟨rfl, hb6⟩
          go_wp2_with fail
          go_ret
          exact ⟨rfl, grew hb2.out hb6⟩
      · rw [show manyI a = 0 from by unfold manyI; rw [if_pos (by omega)]] at hmany
        go_wp2_with fail
        refine (hmany.out _).mono ?_
        rintro e w5 ⟨rfl, rfl⟩
        go_wp2_with fail
        refine (hrp.out _).mono ?_
        rintro e w3 ⟨v, rfl, hown, hb3⟩
        obtain ⟨va, vc, rfl, hcells⟩ := own_cells hown
        have hin3 : StrsIn w3 va k s.data.toList := fun j hj => by obtain ⟨b, e, _, h1, h2⟩ := hcells j hj; exact ⟨b, e, h1, h2⟩
        replace hin := Lib.hid (hin.out.below hb3)
        replace hb2 := Lib.hid (grew hb2.out hb3)
        clear hown hcells hb3
        replace hin3 := Lib.hid hin3
        go_wp2_with fail
        refine (texts_same _ _ k _ _ s.data.toList _ (by omega) hin.out hin3.out).mono ?_
        rintro e w4 ⟨rfl, hb4⟩
        replace hb2 := Lib.hid (grew hb2.out hb4)
        clear hin hin3 hb4
        go_wp2_with fail
        refine (hms.out _).mono ?_
        rintro e w5 ⟨rfl, rfl⟩
        go_wp2_with fail
        refine (bare_any _).mono ?_
        rintro e w6 ⟨rfl, hb6⟩
        go_wp2_with fail
        go_ret
        exact ⟨rfl, grew hb2.out hb6⟩


theorem own : ownKnob Try.prog.godebug = none := by kernel_rfl
theorem laidOut : laidOutB Try.prog = true := by kernel_rfl

set_option maxRecDepth 100000 in
theorem lifted (os : Os) (started : os.Started) (H : Type) (enc : TypeId × Value → H) :
    ReturnsInHanded {} Try.checked os 11 .any (Rows.framePiecesSpec.pre6 enc Try.prog Try.f11 Rows.framePiecesRow.domain false) (Rows.framePiecesSpec.post enc Try.prog Try.f11 false true false false) := by
  refine returnsInHanded_of_change (C := Try.checked) own started (by kernel_rfl) Try.func11
    (ChangeSpec.witness6 (enc := enc) (C := Try.checked) false ⟨#[], #[.string ByteArray.empty, .int .i64 0], []⟩ 8 (by kernel_rfl) (by kernel_rfl) (by kernel_rfl) (by kernel_rfl)) ?_
  intro W base args ds gs before hval0 hW hcnd _
  have hval : ∀ (j : Nat) t v, Try.f11.params[j]? = some t → args[j]? = some v → Value.okWide Try.prog W .any base t v := hval0
  have hW' := hW
  obtain ⟨p, q, hA0, hV, rfl, hfz, hnd⟩ := hW
  have hA : DataW.TrodAll enc Try.prog W 0 (fun _ => true) true Try.f11.params.toList args.toList ds p := hA0
  rw [Try.params11] at hA hval
  obtain ⟨v0, vs0, d0, ds0, p0, q0, hargs, rfl, rfl, h0, r0⟩ := trodAll_cons hA
  obtain ⟨v1, vs1, d1, ds1, p1, q1, rfl, rfl, rfl, h1, r1⟩ := trodAll_cons r0
  obtain ⟨rfl, rfl, rfl⟩ := trodAll_nil r1
  obtain rfl : args = #[v0, v1] := by cases args; simp_all
  obtain ⟨rfl, rfl⟩ := trodVars_none hV
  obtain ⟨a0, rfl, rfl, rfl, w0⟩ := open_string Try.underlying9 (hval 0 9 v0 rfl rfl) h0
  obtain ⟨a1, rfl, rfl, rfl, w1⟩ := open_int Try.underlying3 (hval 1 3 v1 rfl rfl) h1
  clear hA0 hval0
  refine (walk a0 a1 W w0 w1).mono fun e W' ⟨he, bel⟩ => ?_
  subst he
  exact ⟨_, rfl, _, _, _, [], [], [], hW', trodAll_mk1 (shut_bool Try.underlying4 _), (trodAll_cons_mk (shut_string Try.underlying9 w0) (trodAll_cons_mk (shut_int Try.underlying3 w1) trodAll_mk0)), rfl, bel.frame _, fun h => by cases h⟩

theorem over : Rows.framePiecesRow.holds Try.pinned (OpenSpec.ofChange Rows.framePiecesSpec) :=
  OpenClaim.holds_of_wide 11 Try.f11 rfl rfl rfl rfl rfl rfl rfl ⟨rfl, rfl, rfl, rfl, rfl⟩ rfl rfl rfl rfl rfl (by kernel_rfl) Try.func11 (by kernel_rfl)
    (of_decide_eq_true (by kernel_rfl)) (by unfold Func.isWrapper; first | (rw [if_pos (by decide +kernel)]; kernel_rfl) | (rw [if_neg (by decide +kernel)]; exact ⟨rfl, rfl⟩))
    (fun os started H enc _ => lifted os started H enc)

/-- The statement. -/
theorem proved : Rows.FramePiecesSaid := over
#print axioms proved

end Go.Proofs.Ytgomhnclmacleaa.framePieces
