/- For every string the law RecordUnpacks returns true: the batch of bytes is that of the definition, or there is none; and its payload are the bytes. No condition. -/
import Derived.Test.YtgfamaddghajlaaRows
import Derived.Test.YtgfamaddghajlaaRcOne
import Derived.ChangeOld
import Derived.ShutString
import Derived.Deep.Cut
namespace Go.Proofs.Ytgfamaddghajlaa.recordUnpacks
open Go.ChangeShapes Go.WideShapes Go.ChangeAt Go.RowKit Go.Sort
open Go.ChangeMaps (open_string shut_string)
open Go.Proofs.Ytgfamaddghajlaa.M Go.Proofs.Ytgfamaddghajlaa.W Go.Proofs.Ytgfamaddghajlaa.D Go.Proofs.Ytgfamaddghajlaa.Z
set_option linter.unusedVariables false
set_option linter.unusedSimpArgs false

set_option maxRecDepth 100000 in
set_option maxHeartbeats 4000000 in
theorem walk (a0 : ByteArray) (w : World) (w0 : a0.size ≤ maxLen) :
    Calls Try.prog 6 #[.string a0] w fun e w' => e = .returned (.bool true) ∧ Below w.heap.size w w' := by
  unfold maxLen at w0
  by_cases hl : 900 < a0.size
  · have hli : (900 : Int) < (a0.size : Int) := by omega
    go_enter Try.func6, Try.ntmps6
    go_wp2_with fail
    refine (rone_any _).mono ?_
    rintro e w1 ⟨rfl, hb⟩
    replace hb := Lib.hid hb
    go_wp2_with fail
    go_ret
    exact ⟨rfl, hb.out⟩
  have hli : (a0.size : Int) ≤ 900 := by omega
  have hse : (a0.toList == a0.toList) = true := by simp
  have hun := Lib.hid (fun W => unpack_any a0 W (by omega))
  have hru := Lib.hid (fun W => runpack_any a0 W (by omega))
  by_cases hgd : ∃ rs, good rs ∧ packL rs = a0.data.toList
  · obtain ⟨rs, hg, hp⟩ := hgd
    have huq : ∀ rs', good rs' → packL rs' = a0.data.toList → rs' = rs := fun rs' h1 h2 => packL_inj hg.1.2.1 h1.1.2.1 (h2.trans hp.symm)
    obtain ⟨n, hn⟩ : ∃ n, Hid (rs.length = n) := ⟨_, Lib.hid rfl⟩
    have hn8 : n ≤ 8 := by have := hg.2.1; have := hn.out; omega
    have hun2 := Lib.hid (fun W => (hun.out W).mono fun e w' h => (show ∃ A c, e = .returned (.tuple #[.slice A n c, .int .i64 0]) ∧ RcAt w' A rs ∧ Below W.heap.size W w' from by
      rcases h with ⟨rs', A, c, h1, h2, h3, h4, h5⟩ | ⟨h1, _⟩
      · have := huq rs' h1 h2
        subst this
        exact ⟨A, c, by rw [← hn.out]; exact h3, rcAt_own h4 rfl, h5⟩
      · exact absurd hp (h1 rs hg)))
    have hru2 := Lib.hid (fun W => (hru.out W).mono fun e w' (h : RUn W a0 e w') => (show ∃ A c, e = .returned (.agg #[.slice A n c, .bool true]) ∧ RcAt w' A rs ∧ Below W.heap.size W w' from by
      rcases h with ⟨rs', A, c, h1, h2, h3, h4, h5⟩ | ⟨h1, _⟩
      · have := huq rs' h1 h2
        subst this
        exact ⟨A, c, by rw [← hn.out]; exact h3, h4, h5⟩
      · exact absurd hp (h1 rs hg)))
    have hsa := Lib.hid (fun A c B d W (h1 : RcAt W A rs) (h2 : RcAt W B rs) => same_recs A B n c d rs W h1 h2 hn.out (by omega) (fun r hr => ok_wf (hg.1.2.1 r hr)))
    have hpk := Lib.hid (fun A c W (h1 : RcAt W A rs) => by
      have := pack_few A c rs W h1 hg.1 hg.2.1
      rw [if_neg (by have := hg.2.2; omega), hp, B_of, hn.out] at this
      exact this)
    clear hun hru huq
    replace hg := Lib.hid hg
    replace hp := Lib.hid hp
    go_enter Try.func6, Try.ntmps6
    go_wp2_with fail
    refine (hun2.out _).mono ?_
    rintro e w1 ⟨A, c, rfl, ha1, hb1⟩
    replace ha1 := Lib.hid ha1
    replace hb1 := Lib.hid hb1
    go_wp2_with fail
    refine (hru2.out _).mono ?_
    rintro e w2 ⟨A2, c2, rfl, hm2, hb2⟩
    obtain ⟨b3, hb3⟩ : ∃ b, Hid (w2.heap.size = b) := ⟨_, Lib.hid rfl⟩
    have hX := Whole.new w2 47 [.slice A2 n c2, .bool true]
    rw [hb3.out] at hX
    have hbn := (Below.refl w2.heap.size w2).alloc (Nat.le_refl _) (.cells #[.slice A2 n c2, .bool true] 47)
    have ha2 := (ha1.out.below hb2).below hbn
    have hm3 := hm2.below hbn
    have hB := grew (grew hb1.out hb2) hbn
    obtain ⟨W3, hW3⟩ : ∃ W, Hid (W = w2.alloc (.cells #[.slice A2 n c2, .bool true] 47)) := ⟨_, Lib.hid rfl⟩
    rw [← show W3 = _ from hW3.out] at hX ha2 hm3 hB
    have x0 : W3.cell? ⟨b3, 0, none⟩ = some (.slice A2 n c2) := hX.cell 0
    have x1 : W3.cell? ⟨b3, 1, none⟩ = some (.bool true) := hX.cell 1
    replace hX := Lib.hid hX
    replace ha2 := Lib.hid ha2
    replace hm3 := Lib.hid hm3
    replace hB := Lib.hid hB
    clear hb2 hbn ha1 hb1 hm2
    go_upto_region 5 with fail
    rw [← show W3 = _ from hW3.out, hb3.out]
    clear hW3
    go_wp2_with fail
    refine (hsa.out _ _ _ _ _ ha2.out hm3.out).mono ?_
    rintro e w4 ⟨rfl, hb4⟩
    have hX4 := hX.out.below hb4 hX.out.lt
    have ha4 := Lib.hid (ha2.out.below hb4)
    have hB4 := Lib.hid (grew hB.out hb4)
    clear x0 x1 hX ha2 hm3 hB hb4
    have x1 : w4.cell? ⟨b3, 1, none⟩ = some (.bool true) := hX4.cell 1
    clear hX4
    go_wp2_with fail
    refine (hpk.out _ _ _ ha4.out).mono ?_
    rintro e w5 ⟨rfl, hb5⟩
    have hB5 := Lib.hid (grew hB4.out hb5)
    clear x1 ha4 hB4 hb5
    go_wp2_with fail
    refine (rone_any _).mono ?_
    rintro e w6 ⟨rfl, hb6⟩
    have hB6 := Lib.hid (grew hB5.out hb6)
    clear hB5 hb6
    go_wp2_with fail
    go_ret
    exact ⟨rfl, hB6.out⟩
  · have hno : ∀ rs, good rs → packL rs = a0.data.toList → False := fun rs h1 h2 => hgd ⟨rs, h1, h2⟩
    have hun2 := Lib.hid (fun W => (hun.out W).mono fun e w' h => (show e = .returned (.tuple #[.slice none 0 0, .int .i64 4]) ∧ Below W.heap.size W w' from by
      rcases h with ⟨rs', A, c, h1, h2, _⟩ | ⟨_, h2⟩
      · exact (hno rs' h1 h2).elim
      · exact h2))
    have hru2 := Lib.hid (fun W => (hru.out W).mono fun e w' (h : RUn W a0 e w') => (show e = .returned (.agg #[.slice none 0 0, .bool false]) ∧ Below W.heap.size W w' from by
      rcases h with ⟨rs', A, c, h1, h2, _⟩ | ⟨_, h2⟩
      · exact (hno rs' h1 h2).elim
      · exact h2))
    have hsa := Lib.hid (fun W => same_recs none none 0 0 0 [] W (fun i r h => by simp at h) (fun i r h => by simp at h) rfl (by omega) (fun r hr => by simp at hr))
    clear hun hru hno hgd
    go_enter Try.func6, Try.ntmps6
    go_wp2_with fail
    refine (hun2.out _).mono ?_
    rintro e w1 ⟨rfl, hb1⟩
    replace hb1 := Lib.hid hb1
    go_wp2_with fail
    refine (hru2.out _).mono ?_
    rintro e w2 ⟨rfl, hb2⟩
    obtain ⟨b3, hb3⟩ : ∃ b, Hid (w2.heap.size = b) := ⟨_, Lib.hid rfl⟩
    have hX := Whole.new w2 47 [.slice none 0 0, .bool false]
    rw [hb3.out] at hX
    have hB := grewAlloc (grew hb1.out hb2) (.cells #[.slice none 0 0, .bool false] 47)
    obtain ⟨W3, hW3⟩ : ∃ W, Hid (W = w2.alloc (.cells #[.slice none 0 0, .bool false] 47)) := ⟨_, Lib.hid rfl⟩
    rw [← show W3 = _ from hW3.out] at hX hB
    have x0 : W3.cell? ⟨b3, 0, none⟩ = some (.slice none 0 0) := hX.cell 0
    have x1 : W3.cell? ⟨b3, 1, none⟩ = some (.bool false) := hX.cell 1
    replace hX := Lib.hid hX
    replace hB := Lib.hid hB
    clear hb2 hb1
    go_upto_region 5 with fail
    rw [← show W3 = _ from hW3.out, hb3.out]
    clear hW3
    go_wp2_with fail
    refine (hsa.out _).mono ?_
    rintro e w4 ⟨rfl, hb4⟩
    have hX4 := hX.out.below hb4 hX.out.lt
    have hB4 := Lib.hid (grew hB.out hb4)
    clear x0 x1 hX hB hb4
    have x1 : w4.cell? ⟨b3, 1, none⟩ = some (.bool false) := hX4.cell 1
    clear hX4
    go_wp2_with fail
    refine (rone_any _).mono ?_
    rintro e w6 ⟨rfl, hb6⟩
    have hB6 := Lib.hid (grew hB4.out hb6)
    clear hB4 hb6
    go_wp2_with fail
    go_ret
    exact ⟨rfl, hB6.out⟩


theorem own : ownKnob Try.prog.godebug = none := by kernel_rfl
theorem laidOut : laidOutB Try.prog = true := by kernel_rfl

set_option maxRecDepth 100000 in
theorem lifted (os : Os) (started : os.Started) (H : Type) (enc : TypeId × Value → H) :
    ReturnsInHanded {} Try.checked os 6 .any (Rows.recordUnpacksSpec.pre6 enc Try.prog Try.f6 Rows.recordUnpacksRow.domain false) (Rows.recordUnpacksSpec.post enc Try.prog Try.f6 false true false false) := by
  refine returnsInHanded_of_change (C := Try.checked) own started (by kernel_rfl) Try.func6
    (ChangeSpec.witness6 (enc := enc) (C := Try.checked) false ⟨#[], #[.string ByteArray.empty], []⟩ 8 (by kernel_rfl) (by kernel_rfl) (by kernel_rfl) (by kernel_rfl)) ?_
  intro W base args ds gs before hval0 hW hcnd _
  have hval : ∀ (j : Nat) t v, Try.f6.params[j]? = some t → args[j]? = some v → Value.okWide Try.prog W .any base t v := hval0
  have hW' := hW
  obtain ⟨p, q, hA0, hV, rfl, hfz, hnd⟩ := hW
  have hA : DataW.TrodAll enc Try.prog W 0 (fun _ => true) true Try.f6.params.toList args.toList ds p := hA0
  rw [Try.params6] at hA hval
  obtain ⟨v0, vs0, d0, ds0, p0, q0, hargs, rfl, rfl, h0, r0⟩ := trodAll_cons hA
  obtain ⟨rfl, rfl, rfl⟩ := trodAll_nil r0
  obtain rfl : args = #[v0] := by cases args; simp_all
  obtain ⟨rfl, rfl⟩ := trodVars_none hV
  obtain ⟨a0, rfl, rfl, rfl, w0⟩ := open_string Try.underlying9 (hval 0 9 v0 rfl rfl) h0
  clear hA0 hval0
  refine (walk a0 W w0).mono fun e W' ⟨he, bel⟩ => ?_
  subst he
  exact ⟨_, rfl, _, _, _, [], [], [], hW', trodAll_mk1 (shut_bool Try.underlying4 _), (trodAll_cons_mk (shut_string Try.underlying9 w0) trodAll_mk0), rfl, bel.frame _, fun h => by cases h⟩

theorem over : Rows.recordUnpacksRow.holds Try.pinned (OpenSpec.ofChange Rows.recordUnpacksSpec) :=
  OpenClaim.holds_of_wide 6 Try.f6 rfl rfl rfl rfl rfl rfl rfl ⟨rfl, rfl, rfl, rfl, rfl⟩ rfl rfl rfl rfl rfl (by kernel_rfl) Try.func6 (by kernel_rfl)
    (of_decide_eq_true (by kernel_rfl)) (by unfold Func.isWrapper; first | (rw [if_pos (by decide +kernel)]; kernel_rfl) | (rw [if_neg (by decide +kernel)]; exact ⟨rfl, rfl⟩))
    (fun os started H enc _ => lifted os started H enc)

/-- The statement. -/
theorem proved : Rows.RecordUnpacksSaid := over
#print axioms proved

end Go.Proofs.Ytgfamaddghajlaa.recordUnpacks
