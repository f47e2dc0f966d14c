/- For every epoch the law PoolEnds returns true: behind 65536 stamps there is none, whatever was given back. No condition. -/
import Derived.Test.YtoegohofmhijgaaRows
import Derived.Test.YtoegohofmhijgaaPlE
import Derived.ChangeOld
import Derived.ShutString
import Derived.Deep.LoopGhost
namespace Go.Proofs.Ytoegohofmhijgaa.poolEnds
open Go.ChangeShapes Go.WideShapes Go.ChangeAt Go.RowKit
open Go.Proofs.Ytoegohofmhijgaa.M (grew grewAlloc okG)
open Go.Proofs.Ytoegohofmhijgaa.W Go.Proofs.Ytoegohofmhijgaa.D
set_option linter.unusedVariables false

set_option maxRecDepth 100000 in
set_option maxHeartbeats 4000000 in
theorem walk (e : Int) (w : World) (_ : (Lit.int .i64 e).wf = true) :
    Calls Try.prog 5 #[.int .i64 e] w fun x w' => x = .returned (.bool true) ∧ Below w.heap.size w w' := by
  by_cases hin : 0 ≤ e ∧ e ≤ 65535
  · obtain ⟨ep, rfl⟩ : ∃ p : Nat, e = (p : Int) := ⟨e.toNat, by omega⟩
    have he : ep < 65536 := by omega
    have i1 : decide ((ep : Int) < 0) = false := by simp
    have i2 : decide (65535 < (ep : Int)) = false := by simp; omega
    have hn : Hid (∀ W : World, Calls Try.prog 8 #[.int .i64 6, .int .i64 (ep : Int)] W fun x w' => x = .returned (.tuple #[.pointer (some ⟨W.heap.size + 1, 0, none⟩), .int .i64 0]) ∧ Pl w' (W.heap.size + 1) W.heap.size (zeroL 6) ep 0 ∧ Below W.heap.size W w') := Lib.hid (fun W => pnew_yes 6 ep W (by decide) (by decide) he)
    have ht : Hid (∀ (W : World) (b a ct : Nat), Pl W b a (zeroL 6) ep ct → ct < 65536 → Calls Try.prog 11 #[.pointer (some ⟨b, 0, none⟩), .int .i64 9] W fun e w' => e = .returned (.tuple #[.int .i64 0, .int .u32 ((65536 * ep + ct : Nat) : Int), .int .i64 0]) ∧ Pl w' b a (oneL 6 9) ep (ct + 1) ∧ Kept (Own2 b a) W w') := Lib.hid (fun W b a ct h hc => zero_calls 6 ep (by decide) (by decide) he 9 (by decide) h hc)
    have hg : Hid (∀ (W : World) (b a ct : Nat), Pl W b a (oneL 6 9) ep ct → Calls Try.prog 16 #[.pointer (some ⟨b, 0, none⟩), .int .i64 0] W fun e w' => e = .returned (.int .i64 0) ∧ Pl w' b a (zeroL 6) ep ct ∧ Kept (Own2 b a) W w') := Lib.hid (fun W b a ct h => one_calls 6 ep (by decide) 9 (by decide) h)
    have hz : Hid (∀ (W : World) (b a : Nat), Pl W b a (zeroL 6) ep 65536 → Calls Try.prog 11 #[.pointer (some ⟨b, 0, none⟩), .int .i64 9] W fun e w' => e = .returned (.tuple #[.int .i64 0, .int .u32 0, .int .i64 32]) ∧ Below W.heap.size W w') := Lib.hid (fun W b a h => ptake_none h (by rw [zeroL_len]; decide) he 9 (by decide) (.inr (Nat.le_refl _)))
    have hf : Hid (∀ (W : World) (b a ct : Nat), Pl W b a (zeroL 6) ep ct → Calls Try.prog 21 #[.pointer (some ⟨b, 0, none⟩)] W fun e w' => e = .returned (.int .i64 6) ∧ Below W.heap.size W w') := Lib.hid (fun W b a ct h => by
      have h1 := pfree_any h (by rw [zeroL_len]; decide)
      rw [zero_free] at h1
      exact h1)
    clear hin he
    generalize zeroL 6 = z at *
    generalize oneL 6 9 = o at *
    go_enter Try.func5, Try.ntmps5
    go_wp2_with fail
    refine (hn.out _).mono ?_
    rintro ee w1 ⟨rfl, hp, hb⟩
    generalize hq : w.heap.size = q at *
    replace hp := Lib.hid hp
    replace hb := Lib.hid hb
    go_wp2_with fail
    go_loopg [23] 65536 (fun ga i wr => ∃ k : Nat, k ≤ 65536 ∧ 65536 ≤ k + ga ∧ i = .int .i64 k ∧ Hid (Pl wr (q + 1) q z ep k ∧ Below q w wr))
    case atStart => exact ⟨0, by omega, by omega, rfl, Lib.hid ⟨hp.out, hb.out⟩⟩
    case round =>
      clear hp hb
      obtain ⟨k, hk, hgk, rfl, hrow⟩ := hrel
      by_cases hlt : k < 65536
      · have hl2 : (k : Int) < 65536 := by omega
        go_wp2_with fail
        refine (ht.out _ _ _ _ hrow.out.1 hlt).mono ?_
        rintro ee w2 ⟨rfl, hp2, hk2⟩
        have hb2 := kept_pl hrow.out.2 (by have := hrow.out.2.size; omega) (by omega) (by omega) hk2
        replace hp2 := Lib.hid hp2
        replace hb2 := Lib.hid hb2
        clear hk2
        go_wp2_with fail
        refine (hg.out _ _ _ _ hp2.out).mono ?_
        rintro ee w3 ⟨rfl, hp3, hk3⟩
        have hb3 := kept_pl hb2.out (by have := hb2.out.size; omega) (by omega) (by omega) hk3
        replace hp3 := Lib.hid (And.intro hp3 hb3)
        clear hk3 hb3 hp2 hb2
        go_wp2_with fail
        go_roundg (gk - 1)
        case measure => omega
        case rel => exact ⟨k + 1, by omega, by omega, by go_num, hp3⟩
      · obtain rfl : k = 65536 := by omega
        rw [show ((65536 : Nat) : Int) = 65536 from rfl]
        clear ht hg
        go_wp2_with fail
        refine (hz.out _ _ _ hrow.out.1).mono ?_
        rintro ee w2 ⟨rfl, hb2⟩
        have hp2 := Lib.hid (hrow.out.1.grow hb2)
        have hb3 := Lib.hid (hrow.out.2.trans (hb2.mono (by have := hrow.out.2.size; omega)))
        clear hb2
        go_wp2_with fail
        refine (hf.out _ _ _ _ hp2.out).mono ?_
        rintro ee w3 ⟨rfl, hb4⟩
        replace hb3 := Lib.hid (hb3.out.trans (hb4.mono (by have := hb3.out.size; omega)))
        clear hb4
        go_wp2_with fail
        refine (six_any _).mono ?_
        rintro ee w4 ⟨rfl, hb4⟩
        go_wp2_with fail
        go_ret
        exact ⟨rfl, by rw [hq]; exact hb3.out.trans (hb4.mono (by have := hb3.out.size; omega))⟩
  · by_cases h1 : e < 0
    · clear hin
      go_enter Try.func5, Try.ntmps5
      go_wp2_with fail
      refine (six_any _).mono ?_
      rintro ee w1 ⟨rfl, hb⟩
      go_wp2_with fail
      go_ret
      exact ⟨rfl, hb⟩
    · have h2 : 65535 < e := by omega
      clear hin
      go_enter Try.func5, Try.ntmps5
      go_wp2_with fail
      refine (six_any _).mono ?_
      rintro ee w1 ⟨rfl, hb⟩
      go_wp2_with fail
      go_ret
      exact ⟨rfl, hb⟩

theorem own : ownKnob Try.prog.godebug = none := by kernel_rfl
theorem laidOut : laidOutB Try.prog = true := by kernel_rfl

set_option maxRecDepth 100000 in
theorem lifted (os : Os) (started : os.Started) (H : Type) (enc : TypeId × Value → H) :
    ReturnsInHanded {} Try.checked os 5 .any (Rows.poolEndsSpec.pre6 enc Try.prog Try.f5 Rows.poolEndsRow.domain false) (Rows.poolEndsSpec.post enc Try.prog Try.f5 false true false false) := by
  refine returnsInHanded_of_change (C := Try.checked) own started (by kernel_rfl) Try.func5
    (ChangeSpec.witness6 (enc := enc) (C := Try.checked) false ⟨#[], #[.int .i64 0], []⟩ 8 (by kernel_rfl) (by kernel_rfl) (by kernel_rfl) (by kernel_rfl)) ?_
  intro W base args ds gs before hval0 hW hcnd _
  have hval : ∀ (j : Nat) t v, Try.f5.params[j]? = some t → args[j]? = some v → Value.okWide Try.prog W .any base t v := hval0
  have hW' := hW
  obtain ⟨p, q, hA0, hV, rfl, hfz, hnd⟩ := hW
  have hA : DataW.TrodAll enc Try.prog W 0 (fun _ => true) true Try.f5.params.toList args.toList ds p := hA0
  rw [Try.params5] at hA hval
  obtain ⟨v0, vs0, d0, ds0, p0, q0, hargs, rfl, rfl, h0, r0⟩ := trodAll_cons hA
  obtain ⟨rfl, rfl, rfl⟩ := trodAll_nil r0
  obtain rfl : args = #[v0] := by cases args; simp_all
  obtain ⟨rfl, rfl⟩ := trodVars_none hV
  obtain ⟨a0, rfl, rfl, rfl, w0⟩ := open_int Try.underlying3 (hval 0 3 v0 rfl rfl) h0
  clear hA0 hval0
  refine (walk a0 W w0).mono fun e W' ⟨he, bel⟩ => ?_
  subst he
  exact ⟨_, rfl, _, _, _, [], [], [], hW', trodAll_mk1 (shut_bool Try.underlying4 _), (trodAll_cons_mk (shut_int Try.underlying3 w0) trodAll_mk0), rfl, bel.frame _, fun h => by cases h⟩

theorem over : Rows.poolEndsRow.holds Try.pinned (OpenSpec.ofChange Rows.poolEndsSpec) :=
  OpenClaim.holds_of_wide 5 Try.f5 rfl rfl rfl rfl rfl rfl rfl ⟨rfl, rfl, rfl, rfl, rfl⟩ rfl rfl rfl rfl rfl (by kernel_rfl) Try.func5 (by kernel_rfl)
    (of_decide_eq_true (by kernel_rfl)) (by unfold Func.isWrapper; first | (rw [if_pos (by decide +kernel)]; kernel_rfl) | (rw [if_neg (by decide +kernel)]; exact ⟨rfl, rfl⟩))
    (fun os started H enc _ => lifted os started H enc)

/-- The statement. -/
theorem proved : Rows.PoolEndsSaid := over
#print axioms proved

end Go.Proofs.Ytoegohofmhijgaa.poolEnds
