/- For every table of bools the law LatticeAxioms returns true: join and meet are commutative, associative, idempotent and absorb one another, and tell what flows. No condition. -/
import Derived.Test.YtbhbiejaneencaaRows
import Derived.Test.YtbhbiejaneencaaFour
import Derived.Test.YtbhbiejaneencaaGrid
import Derived.Test.YtbhbiejaneencaaSqTop
import Derived.ChangeOld
import Derived.ShutString
namespace Go.Proofs.Ytbhbiejaneencaa.latticeAxioms
open Go.ChangeShapes Go.WideShapes Go.ChangeAt Go.RowKit
open Go.ChangeMaps (open_string shut_string)
open Go.Proofs.Ytbhbiejaneencaa.L
set_option linter.unusedVariables false

theorem no_undef {p : Prop} {b : Bool} (h : some undef = some (Value.bool b)) : p := by cases h
set_option maxRecDepth 100000 in
set_option maxHeartbeats 1000000 in
theorem third_any (p n a b c : Nat) (F : Nat → Nat → Bool) (w : World) (h : Full w p n F) (hl : IsLat n F) (ha : a < n) (hb : b < n) (hc : c < n) :
    Calls Try.prog 47 #[.pointer (some ⟨p, 0, none⟩), .int .i64 a, .int .i64 b, .int .i64 c] w fun e w' => e = .returned (.bool true) ∧ w = w' := by
  have hx := (J_spec hl ha hb).1
  have hy := (J_spec hl hb hc).1
  have hp := (J_spec hl.dual ha hb).1
  have hq := (J_spec hl.dual hb hc).1
  have nx := near_J hl ha hb
  have ny := near_J hl hb hc
  have nu := near_J hl hx hc
  have nv := near_J hl ha hy
  have np := near_J hl.dual ha hb
  have nq := near_J hl.dual hb hc
  have ns := near_J hl.dual hp hc
  have nt := near_J hl.dual ha hq
  rw [← J_assoc hl ha hb hc] at nv
  rw [← J_assoc hl.dual ha hb hc] at nt
  have hflow := J_both hl ha hb hc
  generalize J n F (J n F a b) c = u at *
  generalize J n (turn F) (J n (turn F) a b) c = s at *
  generalize J n F a b = x at *
  generalize J n F b c = y at *
  generalize J n (turn F) a b = pp at *
  generalize J n (turn F) b c = q at *
  have k1 := Lib.hid (join_in p n a b x F w h ha hb nx)
  have k2 := Lib.hid (join_in p n b c y F w h hb hc ny)
  have k3 := Lib.hid (join_in p n x c u F w h hx hc nu)
  have k4 := Lib.hid (join_in p n a y u F w h ha hy nv)
  have k5 := Lib.hid (meet_in p n a b pp F w h ha hb np)
  have k6 := Lib.hid (meet_in p n b c q F w h hb hc nq)
  have k7 := Lib.hid (meet_in p n pp c s F w h hp hc ns)
  have k8 := Lib.hid (meet_in p n a q s F w h ha hq nt)
  have f1 := Lib.hid (flows_in p n a c F w h.lat ha hc)
  have f2 := Lib.hid (flows_in p n b c F w h.lat hb hc)
  have f3 := Lib.hid (flows_in p n x c F w h.lat hx hc)
  clear nx ny nu nv np nq ns nt
  replace hflow := Lib.hid hflow
  go_enter Try.func47, Try.ntmps47
  go_wp2_with fail
  refine k1.out.mono ?_
  rintro e w1 ⟨rfl, rfl⟩
  go_wp2_with fail
  refine k2.out.mono ?_
  rintro e w1 ⟨rfl, rfl⟩
  go_wp2_with fail
  refine k3.out.mono ?_
  rintro e w1 ⟨rfl, rfl⟩
  go_wp2_with fail
  refine k4.out.mono ?_
  rintro e w1 ⟨rfl, rfl⟩
  go_wp2_with fail
  refine k5.out.mono ?_
  rintro e w1 ⟨rfl, rfl⟩
  go_wp2_with fail
  refine k6.out.mono ?_
  rintro e w1 ⟨rfl, rfl⟩
  go_wp2_with fail
  refine k7.out.mono ?_
  rintro e w1 ⟨rfl, rfl⟩
  go_wp2_with fail
  refine k8.out.mono ?_
  rintro e w1 ⟨rfl, rfl⟩
  go_wp2_with fail
  refine f1.out.mono ?_
  rintro e w1 ⟨rfl, rfl⟩
  cases g1 : F a c
  · have g3 := hflow.out
    rw [g1, Bool.false_and] at g3
    replace g3 := Lib.hid g3.symm
    replace g1 := Lib.hid g1
    go_wp2_with fail
    refine f3.out.mono ?_
    rintro e w1 ⟨rfl, rfl⟩
    rw [g3.out]
    go_wp2_with fail
    go_ret
    exact ⟨rfl, rfl⟩
  · have g3 := hflow.out
    rw [g1, Bool.true_and] at g3
    replace g3 := Lib.hid g3
    replace g1 := Lib.hid g1
    go_wp2_with fail
    refine f2.out.mono ?_
    rintro e w1 ⟨rfl, rfl⟩
    rw [g3.out]
    cases g2 : F x c <;> replace g2 := Lib.hid g2
    all_goals
      go_wp2_with fail
      refine f3.out.mono ?_
      rintro e w1 ⟨rfl, rfl⟩
      rw [g2.out]
      go_wp2_with fail
      go_ret
      exact ⟨rfl, rfl⟩

set_option maxRecDepth 100000 in
set_option maxHeartbeats 2000000 in
theorem walk (a : Option Addr) (len cap : Nat) (A : Nat → Option Addr) (L C : Nat → Nat) (B : Nat → Nat → Bool) (w : World) (h : Tab w a len A L C B) :
    Calls Try.prog 10 #[.slice a len cap] w fun e w' => e = .returned (.bool true) ∧ Below w.heap.size w w' := by
  cases hl : largeB len L <;> replace hl := Lib.hid hl
  · go_enter Try.func10, Try.ntmps10
    go_wp2_with fail
    refine (large_any a len cap A L C B _ h).mono ?_
    rintro e w1 ⟨rfl, rfl⟩
    rw [hl.out]
    go_wp2_with fail
    refine (wrong_any a len cap A L C B _ h).mono ?_
    rintro e w1 ⟨rfl, hb1⟩
    have hT := h.below hb1
    by_cases h0 : wrongN len L B = 0
    · obtain ⟨hsq, hlat⟩ := isLat_of h0
      rw [h0]
      replace h0 := Lib.hid h0
      go_wp2_with fail
      refine (new_any a len cap A L C B _ hT).mono ?_
      rintro e W hnew
      rcases hnew with ⟨hne, -, -⟩ | ⟨-, p, rfl, hF, hb2⟩
      · exact absurd h0.out hne
      have hbW := hb1.trans (hb2.mono hb1.size)
      have hs := hF.lat.small
      clear hb1 hb2 hT hsq h0 hl h
      go_wp2_with fail
      go_loopg [37] len (fun g i wr => ∃ k : Nat, k ≤ len ∧ len ≤ k + g ∧ i = .int .i64 k ∧ W = wr)
      case atStart => exact ⟨0, by omega, by omega, rfl, rfl⟩
      case round =>
        obtain ⟨k, hk, hg, rfl, rfl⟩ := hrel
        by_cases hkn : k < len
        · generalize gk = gout at *
          go_wp2_with fail
          go_loopg [41] len (fun g i wr => ∃ l : Nat, l ≤ len ∧ len ≤ l + g ∧ i = .int .i64 l ∧ W = wr)
          case atStart => exact ⟨0, by omega, by omega, rfl, rfl⟩
          case round =>
            obtain ⟨l, hl, hgl, rfl, rfl⟩ := hrel
            by_cases hln : l < len
            · generalize gk = gmid at *
              have hx := (J_spec hlat hkn hln).1
              have hy := (J_spec hlat.dual hkn hln).1
              have nx := near_J hlat hkn hln
              have ny := near_J hlat.dual hkn hln
              have nu := near_J hlat hln hkn
              have nv := near_J hlat.dual hln hkn
              rw [← J_comm hlat hkn hln] at nu
              rw [← J_comm hlat.dual hkn hln] at nv
              have np := near_J hlat hkn hy
              have nq := near_J hlat.dual hkn hx
              rw [J_absorb hlat hkn hln] at np
              rw [show J len (turn B) k (J len B k l) = k from J_absorb hlat.dual hkn hln] at nq
              have hfl := J_flows hlat hkn hln
              have hself := J_self hlat hkn
              have hself2 := J_self hlat.dual hkn
              generalize hxx : J len B k l = x at *
              generalize hyy : J len (turn B) k l = y at *
              have k1 := Lib.hid (join_in p len k l x B W hF hkn hln nx)
              have k2 := Lib.hid (meet_in p len k l y B W hF hkn hln ny)
              have k3 := Lib.hid (join_in p len l k x B W hF hln hkn nu)
              have k4 := Lib.hid (meet_in p len l k y B W hF hln hkn nv)
              have k5 := Lib.hid (join_in p len k y k B W hF hkn hy np)
              have k6 := Lib.hid (meet_in p len k x k B W hF hkn hx nq)
              have f1 := Lib.hid (flows_in p len k l B W hF.lat hkn hln)
              clear nx ny nu nv np nq
              have hxl : Hid (((x : Int) == (l : Int)) = B k l) := by
                show _ = _
                cases hb : B k l
                · rw [beq_eq_false_iff_ne]; intro e
                  rw [hfl.1 (by omega)] at hb; cases hb
                · rw [beq_iff_eq]; have := hfl.2 hb; omega
              have hsame : Hid (k = l → x = k ∧ y = k) := fun e => by
                subst e
                exact ⟨hxx.symm.trans hself, hyy.symm.trans hself2⟩
              clear hfl hself hself2 hxx hyy
              go_wp2_with fail
              refine k1.out.mono ?_
              rintro e w1 ⟨rfl, rfl⟩
              go_wp2_with fail
              refine k2.out.mono ?_
              rintro e w1 ⟨rfl, rfl⟩
              go_wp2_with fail
              refine k3.out.mono ?_
              rintro e w1 ⟨rfl, rfl⟩
              go_wp2_with fail
              refine k4.out.mono ?_
              rintro e w1 ⟨rfl, rfl⟩
              go_wp2_with fail
              refine k5.out.mono ?_
              rintro e w1 ⟨rfl, rfl⟩
              go_wp2_with fail
              refine k6.out.mono ?_
              rintro e w1 ⟨rfl, rfl⟩
              go_wp2_with fail
              refine f1.out.mono ?_
              rintro e w1 ⟨rfl, rfl⟩
              rw [← hxl.out]
              clear k1 k2 k3 k4 k5 k6 f1
              by_cases hkl : k = l
              · obtain ⟨e1, e2⟩ := hsame.out hkl
                have hb1 : ((k : Int) == (l : Int)) = true := by rw [beq_iff_eq]; omega
                have hb2 : ((x : Int) != (k : Int)) = false := by simp [e1]
                have hb3 : ((y : Int) != (k : Int)) = false := by simp [e2]
                clear e1 e2 hsame hxl hkl
                go_wp2_with fail
                go_loopg [154] len (fun g i wr => ∃ m : Nat, m ≤ len ∧ len ≤ m + g ∧ i = .int .i64 m ∧ W = wr)
                case atStart => exact ⟨0, by omega, by omega, rfl, rfl⟩
                case round =>
                  obtain ⟨m, hm, hgm, rfl, rfl⟩ := hrel
                  by_cases hmn : m < len
                  · go_wp2_with fail
                    refine (third_any p len k l m B _ hF hlat hkn hln hmn).mono ?_
                    rintro e w1 ⟨rfl, rfl⟩
                    go_wp2_with fail
                    go_roundg (gk - 1)
                    case measure => omega
                    case rel => exact ⟨m + 1, by omega, by omega, by go_num, rfl⟩
                  · obtain rfl : m = len := by omega
                    go_wp2_with fail
                    go_roundg (gmid - 1)
                    case measure => omega
                    case rel => exact ⟨l + 1, by omega, by omega, by go_num, rfl⟩
              · have hb1 : ((k : Int) == (l : Int)) = false := by rw [beq_eq_false_iff_ne]; omega
                clear hsame hxl hkl
                go_wp2_with fail
                any_goals (exact no_undef (by assumption))
                go_loopg [154] len (fun g i wr => ∃ m : Nat, m ≤ len ∧ len ≤ m + g ∧ i = .int .i64 m ∧ W = wr)
                case atStart => exact ⟨0, by omega, by omega, rfl, rfl⟩
                case round =>
                  obtain ⟨m, hm, hgm, rfl, rfl⟩ := hrel
                  by_cases hmn : m < len
                  · go_wp2_with fail
                    refine (third_any p len k l m B _ hF hlat hkn hln hmn).mono ?_
                    rintro e w1 ⟨rfl, rfl⟩
                    go_wp2_with fail
                    go_roundg (gk - 1)
                    case measure => omega
                    case rel => exact ⟨m + 1, by omega, by omega, by go_num, rfl⟩
                  · obtain rfl : m = len := by omega
                    go_wp2_with fail
                    go_roundg (gmid - 1)
                    case measure => omega
                    case rel => exact ⟨l + 1, by omega, by omega, by go_num, rfl⟩
            · obtain rfl : l = len := by omega
              go_wp2_with fail
              go_roundg (gout - 1)
              case measure => omega
              case rel => exact ⟨k + 1, by omega, by omega, by go_num, rfl⟩
        · obtain rfl : k = len := by omega
          go_wp2_with fail
          refine (four_any _).mono ?_
          rintro e w1 ⟨rfl, hb⟩
          go_wp2_with fail
          go_ret
          exact ⟨rfl, hbW.trans (hb.mono hbW.size)⟩
    · have hb2 : ((wrongN len L B : Int) != 0) = true := by rw [bne_iff_ne]; omega
      clear h0
      go_wp2_with fail
      refine (four_any _).mono ?_
      rintro e w2 ⟨rfl, hb⟩
      go_wp2_with fail
      go_ret
      exact ⟨rfl, hb1.trans (hb.mono hb1.size)⟩
  · go_enter Try.func10, Try.ntmps10
    go_wp2_with fail
    refine (large_any a len cap A L C B _ h).mono ?_
    rintro e w1 ⟨rfl, rfl⟩
    rw [hl.out]
    go_wp2_with fail
    refine (four_any _).mono ?_
    rintro e w1 ⟨rfl, hb⟩
    go_wp2_with fail
    go_ret
    exact ⟨rfl, hb⟩

theorem own : ownKnob Try.prog.godebug = none := by kernel_rfl
theorem laidOut : laidOutB Try.prog = true := by kernel_rfl

set_option maxRecDepth 100000 in
theorem lifted (os : Os) (started : os.Started) (H : Type) (enc : TypeId × Value → H) :
    ReturnsInHanded {} Try.checked os 10 .any (Rows.latticeAxiomsSpec.pre6 enc Try.prog Try.f10 Rows.latticeAxiomsRow.domain false) (Rows.latticeAxiomsSpec.post enc Try.prog Try.f10 false true false false) := by
  refine returnsInHanded_of_change (C := Try.checked) own started (by kernel_rfl) Try.func10
    (ChangeSpec.witness6 (enc := enc) (C := Try.checked) false ⟨#[], #[.slice none 0 0], []⟩ 8 (by kernel_rfl) (by kernel_rfl) (by kernel_rfl) (by kernel_rfl)) ?_
  intro W base args ds gs before hval0 hW hcnd _
  have hval : ∀ (j : Nat) t v, Try.f10.params[j]? = some t → args[j]? = some v → Value.okWide Try.prog W .any base t v := hval0
  have hW' := hW
  obtain ⟨p, q, hA0, hV, rfl, hfz, hnd⟩ := hW
  have hA : DataW.TrodAll enc Try.prog W 0 (fun _ => true) true Try.f10.params.toList args.toList ds p := hA0
  rw [Try.params10] at hA hval
  obtain ⟨v0, vs0, d0, ds0, p0, q0, hargs, rfl, rfl, h0, r0⟩ := trodAll_cons hA
  obtain ⟨rfl, rfl, rfl⟩ := trodAll_nil r0
  obtain rfl : args = #[v0] := by cases args; simp_all
  obtain ⟨rfl, rfl⟩ := trodVars_none hV
  obtain ⟨a0, len0, cap0, rfl⟩ := okWide_slice Try.underlying57 (hval 0 57 v0 rfl rfl)
  have k0 := h0
  have lt0 : ∀ x ∈ p0, x.block < W.heap.size := by obtain ⟨m, hm⟩ := k0; exact DataW.trod_lt m _ _ _ hm
  obtain ⟨A0, L0, C0, B0, w0⟩ := L.open_grid Try.underlying57 Try.underlying68 Try.underlying4 (by kernel_rfl) (by kernel_rfl) h0
  clear hA0 hval0
  refine (walk a0 len0 cap0 A0 L0 C0 B0 W w0).mono fun e W' ⟨he, bel⟩ => ?_
  subst he
  exact ⟨_, rfl, _, _, _, [], _, [], hW', trodAll_mk1 (shut_bool Try.underlying4 _), (trodAll_cons_mk (Below.trod laidOut (by kernel_rfl) (of_decide_eq_true (by kernel_rfl)) k0 bel lt0) trodAll_mk0), rfl, bel.frame _, fun h => by cases h⟩

theorem over : Rows.latticeAxiomsRow.holds Try.pinned (OpenSpec.ofChange Rows.latticeAxiomsSpec) :=
  OpenClaim.holds_of_wide 10 Try.f10 rfl rfl rfl rfl rfl rfl rfl ⟨rfl, rfl, rfl, rfl, rfl⟩ rfl rfl rfl rfl rfl (by kernel_rfl) Try.func10 (by kernel_rfl)
    (of_decide_eq_true (by kernel_rfl)) (by unfold Func.isWrapper; first | (rw [if_pos (by decide +kernel)]; kernel_rfl) | (rw [if_neg (by decide +kernel)]; exact ⟨rfl, rfl⟩))
    (fun os started H enc _ => lifted os started H enc)

/-- The statement. -/
theorem proved : Rows.LatticeAxiomsSaid := over
#print axioms proved

end Go.Proofs.Ytbhbiejaneencaa.latticeAxioms
