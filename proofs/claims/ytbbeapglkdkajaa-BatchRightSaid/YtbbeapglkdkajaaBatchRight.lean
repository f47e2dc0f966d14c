/- For all pairs the law BatchRight returns true: whether they are a batch, and why not, and how many bytes they have, is as the definition tells. No condition. -/
import Derived.Test.YtbbeapglkdkajaaRows
import Derived.Test.YtbbeapglkdkajaaBtT
import Derived.Test.YtbbeapglkdkajaaOpenPr
import Derived.ChangeOld
import Derived.ShutString
import Derived.Deep.Cut
import Derived.Deep.LoopGhost
namespace Go.Proofs.Ytbbeapglkdkajaa.batchRight
open Go.ChangeShapes Go.WideShapes Go.ChangeAt Go.RowKit Go.Sort
open Go.ChangeMaps (open_string shut_string)
open Go.Proofs.Ytbbeapglkdkajaa.M Go.Proofs.Ytbbeapglkdkajaa.W Go.Proofs.Ytbbeapglkdkajaa.D Go.Proofs.Ytbbeapglkdkajaa.Z
set_option linter.unusedVariables false
set_option linter.unusedSimpArgs false

theorem wt_small {ps : List Pr} (h : bigP ps = false) : ps.length ≤ 30 ∧ wtL ps ≤ 600 * ps.length ∧ ∀ p ∈ ps, p.key.size ≤ 300 ∧ p.val.size ≤ 300 := by
  unfold bigP at h
  rw [Bool.or_eq_false_iff] at h
  have h2 : ∀ p ∈ ps, p.key.size ≤ 300 ∧ p.val.size ≤ 300 := fun p hp => by
    have := List.any_eq_false.1 h.2 p hp
    simp at this
    omega
  refine ⟨by simpa using h.1, ?_, h2⟩
  have key : ∀ l : List Pr, (∀ p ∈ l, p.key.size ≤ 300 ∧ p.val.size ≤ 300) → wtL l ≤ 600 * l.length := by
    intro l
    induction l with
    | nil => intro _; simp [wtL]
    | cons x l ih =>
      intro hl
      have h1 := hl x (by simp)
      have h2 := ih (fun p hp => hl p (by simp [hp]))
      unfold wtL at h2 ⊢
      simp only [List.map_cons, List.sum_cons, List.length_cons]
      omega
  exact key ps h2
set_option maxRecDepth 100000 in
set_option maxHeartbeats 4000000 in
theorem walk (a0 : Option Addr) (n c : Nat) (ps : List Pr) (w : World) (w0 : PrIn w a0 n ps) :
    Calls Try.prog 3 #[.slice a0 n c] w fun e w' => e = .returned (.bool true) ∧ Below w.heap.size w w' := by
  obtain ⟨hn, hat, hwf⟩ := w0
  have hlg := plarge_any a0 c ps w hat
  rw [hn] at hlg
  clear hwf
  by_cases hbig : bigP ps = true
  · rw [hbig] at hlg
    replace hlg := Lib.hid hlg
    clear hat hbig
    go_enter Try.func3, Try.ntmps3
    go_wp2_with fail
    refine hlg.out.mono ?_
    rintro e w1 ⟨rfl, hb1⟩
    replace hb1 := Lib.hid hb1
    go_wp2_with fail
    refine (two17_any _).mono ?_
    rintro e w2 ⟨rfl, hb2⟩
    have hB := Lib.hid (grew hb1.out hb2)
    clear hb1 hb2
    go_wp2_with fail
    go_ret
    exact ⟨rfl, hB.out⟩
  replace hbig : bigP ps = false := by simpa using hbig
  obtain ⟨hl, hws, hsz⟩ := wt_small hbig
  rw [hbig] at hlg
  have hwt := Lib.hid (fun W (hW : PrAt W a0 ps) => weight_any a0 c ps W hW (by omega) (by omega))
  have hri := Lib.hid (fun W (hW : PrAt W a0 ps) => right_any a0 c ps W hW (by omega))
  have hrr := Lib.hid (fun W (hW : PrAt W a0 ps) => rright_any a0 c ps W hW (by omega))
  have hle : Hid (∀ k p, ps[k]? = some p → wtL (ps.take (k + 1)) = wtL (ps.take k) + (p.key.size + p.val.size)) := Lib.hid (fun k p => wt_take)
  obtain ⟨S, hS⟩ : ∃ S, Hid (wtL ps = S) := ⟨_, Lib.hid rfl⟩
  obtain ⟨X, hX⟩ : ∃ X, Hid (rightF ps = X) := ⟨_, Lib.hid rfl⟩
  rw [hn] at hwt hri hrr hl
  rw [hS.out] at hwt
  rw [hX.out] at hri hrr
  have hSe : (S == S) = true := by simp
  have hXe : (X == X) = true := by simp
  replace hlg := Lib.hid hlg
  replace hat := Lib.hid hat
  replace hsz := Lib.hid hsz
  clear hbig hws
  go_enter Try.func3, Try.ntmps3
  go_wp2_with fail
  refine hlg.out.mono ?_
  rintro e w1 ⟨rfl, hb1⟩
  replace hb1 := Lib.hid hb1
  clear hlg
  go_wp2_with fail
  go_loopg [3, 11] n (fun ga sv i wr => ∃ a s : Nat, a ≤ n ∧ n ≤ a + ga ∧ i = .int .i64 a ∧ sv = .int .i64 s ∧ Hid (wtL (ps.take a) = s ∧ s ≤ 600 * a ∧ Below w.heap.size w wr))
  case atStart => exact ⟨0, 0, by omega, by omega, rfl, rfl, Lib.hid ⟨by simp [wtL], by omega, hb1.out⟩⟩
  case round =>
    clear hb1
    obtain ⟨a, s, ha, hg, rfl, rfl, hrel⟩ := hrel
    generalize wr = wo at *
    obtain ⟨hs1, hs2, hb⟩ := hrel.out
    clear hrel
    by_cases hlt : a < n
    · obtain ⟨p, hp⟩ : ∃ p, ps[a]? = some p := ⟨_, List.getElem?_eq_getElem (by omega)⟩
      obtain ⟨b2, o, rfl, c0, c1, c2⟩ := (hat.out.below hb).get hp
      have h2 := hle.out a p hp
      rw [hs1] at h2
      obtain ⟨k3, v3⟩ := hsz.out p (List.mem_of_getElem? hp)
      have hw1 : IntKind.i64.wrap ((s : Int) + ((p.key.size + p.val.size : Nat) : Int)) = ((s + (p.key.size + p.val.size) : Nat) : Int) := by rw [IntWalk.i64_in _ (by omega)]; omega
      have hw2 : IntKind.i64.wrap ((s : Int) + ((p.key.size : Int) + (p.val.size : Int))) = ((s + (p.key.size + p.val.size) : Nat) : Int) := by rw [IntWalk.i64_in _ (by omega)]; omega
      have hT : s + (p.key.size + p.val.size) ≤ 600 * (a + 1) := by omega
      obtain ⟨T, hTe⟩ : ∃ T, Hid (s + (p.key.size + p.val.size) = T) := ⟨_, Lib.hid rfl⟩
      rw [hTe.out] at h2 hw1 hw2 hT
      have hB1 := Lib.hid (grewAlloc hb (.cells #[.string p.key, .string p.val, .bool p.gone] 26))
      have hfin := Lib.hid (And.intro h2 (And.intro hT hB1.out))
      replace hp := Lib.hid hp
      have hq1 : p.key.size + p.val.size ≤ 600 := by omega
      clear h2 hs1 hb hT hB1
      go_wp2_with fail
      go_roundg (gk - 1)
      case measure => omega
      case rel => exact ⟨a + 1, T, by omega, by omega, by go_num, by go_num, hfin⟩
    · obtain rfl : a = n := by omega
      rw [List.take_of_length_le (by omega), hS.out] at hs1
      subst hs1
      have hat1 := Lib.hid (hat.out.below hb)
      replace hb := Lib.hid hb
      clear hat
      go_wp2_with fail
      refine (hri.out _ hat1.out).mono ?_
      rintro e w2 ⟨rfl, hb2⟩
      have hat2 := Lib.hid (hat1.out.below hb2)
      have hB2 := Lib.hid (grew hb.out hb2)
      clear hat1 hb hb2
      go_wp2_with fail
      refine (hrr.out _ hat2.out).mono ?_
      rintro e w3 ⟨rfl, hb3⟩
      have hat3 := Lib.hid (hat2.out.below hb3)
      have hB3 := Lib.hid (grew hB2.out hb3)
      clear hat2 hB2 hb3
      go_wp2_with fail
      refine (hwt.out _ hat3.out).mono ?_
      rintro e w4 ⟨rfl, hb4⟩
      have hB4 := Lib.hid (grew hB3.out hb4)
      clear hat3 hB3 hb4
      go_wp2_with fail
      refine (two17_any _).mono ?_
      rintro e w5 ⟨rfl, hb5⟩
      have hB5 := Lib.hid (grew hB4.out hb5)
      clear hB4 hb5
      go_wp2_with fail
      go_ret
      exact ⟨rfl, hB5.out⟩


theorem own : ownKnob Try.prog.godebug = none := by kernel_rfl
theorem laidOut : laidOutB Try.prog = true := by kernel_rfl

set_option maxRecDepth 100000 in
theorem lifted (os : Os) (started : os.Started) (H : Type) (enc : TypeId × Value → H) :
    ReturnsInHanded {} Try.checked os 3 .any (Rows.batchRightSpec.pre6 enc Try.prog Try.f3 Rows.batchRightRow.domain false) (Rows.batchRightSpec.post enc Try.prog Try.f3 false true false false) := by
  refine returnsInHanded_of_change (C := Try.checked) own started (by kernel_rfl) Try.func3
    (ChangeSpec.witness6 (enc := enc) (C := Try.checked) false ⟨#[], #[.slice none 0 0], []⟩ 8 (by kernel_rfl) (by kernel_rfl) (by kernel_rfl) (by kernel_rfl)) ?_
  intro W base args ds gs before hval0 hW hcnd _
  have hval : ∀ (j : Nat) t v, Try.f3.params[j]? = some t → args[j]? = some v → Value.okWide Try.prog W .any base t v := hval0
  have hW' := hW
  obtain ⟨p, q, hA0, hV, rfl, hfz, hnd⟩ := hW
  have hA : DataW.TrodAll enc Try.prog W 0 (fun _ => true) true Try.f3.params.toList args.toList ds p := hA0
  rw [Try.params3] at hA hval
  obtain ⟨v0, vs0, d0, ds0, p0, q0, hargs, rfl, rfl, h0, r0⟩ := trodAll_cons hA
  obtain ⟨rfl, rfl, rfl⟩ := trodAll_nil r0
  obtain rfl : args = #[v0] := by cases args; simp_all
  obtain ⟨rfl, rfl⟩ := trodVars_none hV
  obtain ⟨a0, len0, cap0, rfl⟩ := okWide_slice Try.underlying22 (hval 0 22 v0 rfl rfl)
  have k0 := h0
  have lt0 : ∀ x ∈ p0, x.block < W.heap.size := by obtain ⟨m, hm⟩ := k0; exact DataW.trod_lt m _ _ _ hm
  obtain ⟨fu0, hf0⟩ := h0
  obtain ⟨z0, w0⟩ := Go.Proofs.Ytbbeapglkdkajaa.W.open_prs (show DataW.trod enc Try.prog W 0 (fun _ => true) true fu0 22 [.slice a0 len0 cap0] = some _ from hf0)
  clear hA0 hval0
  refine (walk a0 len0 cap0 z0 W w0).mono fun e W' ⟨he, bel⟩ => ?_
  subst he
  exact ⟨_, rfl, _, _, _, [], _, [], hW', trodAll_mk1 (shut_bool Try.underlying4 _), (trodAll_cons_mk (Below.trod laidOut (by kernel_rfl) (of_decide_eq_true (by kernel_rfl)) k0 bel lt0) trodAll_mk0), rfl, bel.frame _, fun h => by cases h⟩

theorem over : Rows.batchRightRow.holds Try.pinned (OpenSpec.ofChange Rows.batchRightSpec) :=
  OpenClaim.holds_of_wide 3 Try.f3 rfl rfl rfl rfl rfl rfl rfl ⟨rfl, rfl, rfl, rfl, rfl⟩ rfl rfl rfl rfl rfl (by kernel_rfl) Try.func3 (by kernel_rfl)
    (of_decide_eq_true (by kernel_rfl)) (by unfold Func.isWrapper; first | (rw [if_pos (by decide +kernel)]; kernel_rfl) | (rw [if_neg (by decide +kernel)]; exact ⟨rfl, rfl⟩))
    (fun os started H enc _ => lifted os started H enc)

/-- The statement. -/
theorem proved : Rows.BatchRightSaid := over
#print axioms proved

end Go.Proofs.Ytbbeapglkdkajaa.batchRight
