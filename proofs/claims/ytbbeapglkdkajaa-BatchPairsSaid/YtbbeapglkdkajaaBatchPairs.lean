/- For all records the law BatchPairs returns true: their pairs are those of their keys, values and tombstones. No condition. -/
import Derived.Test.YtbbeapglkdkajaaRows
import Derived.Test.YtbbeapglkdkajaaBtT
import Derived.Test.YtbbeapglkdkajaaOpenPr
import Derived.ChangeOld
import Derived.ShutString
import Derived.Deep.Cut
import Derived.Deep.LoopGhost
import Derived.BigQuiet
import Derived.Deep.QuietTactic
namespace Go.Proofs.Ytbbeapglkdkajaa.batchPairs
open Go.ChangeShapes Go.WideShapes Go.ChangeAt Go.RowKit Go.Sort
open Go.ChangeMaps (open_string shut_string)
open Go.Proofs.Ytbbeapglkdkajaa.M Go.Proofs.Ytbbeapglkdkajaa.W Go.Proofs.Ytbbeapglkdkajaa.D Go.Proofs.Ytbbeapglkdkajaa.Z
set_option linter.unusedVariables false
set_option linter.unusedSimpArgs false

set_option maxRecDepth 100000 in
set_option maxHeartbeats 4000000 in
theorem walk (a0 : Option Addr) (n c : Nat) (rs : List Rc) (w : World) (w0 : RcIn w a0 n rs) :
    Calls Try.prog 4 #[.slice a0 n c] w fun e w' => e = .returned (.bool true) ∧ Below w.heap.size w w' := by
  obtain ⟨hn, hat, hwf⟩ := w0
  by_cases hl : 30 < n
  · have hli : (30 : Int) < (n : Int) := by omega
    clear hat hwf
    go_enter Try.func4, Try.ntmps4
    go_wp2_with fail
    refine (two17_any _).mono ?_
    rintro e w1 ⟨rfl, hb⟩
    replace hb := Lib.hid hb
    go_wp2_with fail
    go_ret
    exact ⟨rfl, hb.out⟩
  have hli : (n : Int) ≤ 30 := by omega
  have hp := pairs_any a0 c rs w hat (by omega)
  rw [hn] at hp
  replace hp := Lib.hid hp
  replace hat := Lib.hid hat
  clear hwf
  go_enter Try.func4, Try.ntmps4
  go_wp2_with fail
  refine hp.out.mono ?_
  rintro e w1 ⟨q, rfl, hpr, hb1⟩
  have hS := Lib.hid (And.intro hpr hb1)
  clear hp hpr hb1
  go_wp2_with fail
  go_loopg [19] n (fun ga i wr => ∃ k : Nat, k ≤ n ∧ n ≤ k + ga ∧ i = .int .i64 k ∧ Hid (PrAt wr (some ⟨q, 0, none⟩) (rs.map toPr) ∧ Below w.heap.size w wr))
  case atStart => exact ⟨0, by omega, by omega, rfl, hS⟩
  case round =>
    clear hS
    obtain ⟨k, hk, hg, rfl, hrel⟩ := hrel
    generalize wr = wo at *
    by_cases hlt : k < n
    · obtain ⟨r, hr⟩ : ∃ r, rs[k]? = some r := ⟨_, List.getElem?_eq_getElem (by omega)⟩
      obtain ⟨b, o, rfl, c0, c1, c2, c3, c4, c5, c6, c7⟩ := (hat.out.below hrel.out.2).get hr
      obtain ⟨W1, hW1⟩ : ∃ W1, Hid (W1 = wo.alloc (.cells #[.int .i64 r.off, .int .i64 r.tick, .string r.key, .string r.val, .bool r.gone, .int .i64 r.prod, .int .i64 r.seq, .int .i64 r.frm] 33)) := ⟨_, Lib.hid rfl⟩
      have hb1 : Below wo.heap.size wo W1 := by rw [hW1.out]; exact grewAlloc (Below.refl _ _) _
      have hX1 : Whole W1 wo.heap.size 33 (rcL r) := by rw [hW1.out]; exact Whole.new wo _ _
      obtain ⟨xb, hxb⟩ : ∃ xb, Hid (wo.heap.size = xb) := ⟨_, Lib.hid rfl⟩
      rw [hxb.out] at hX1
      obtain ⟨x0, x1, x2, x3, x4, x5, x6, x7⟩ := recCells hX1
      have hP1 := hrel.out.1.below hb1
      obtain ⟨b', o', e', y0, y1, y2⟩ := hP1.get (i := k) (p := toPr r) (by rw [List.getElem?_map, hr]; rfl)
      cases e'
      rw [Nat.zero_add] at y0 y1 y2
      simp only [toPr] at y0 y1 y2
      have hB1 := grew hrel.out.2 hb1
      have hfin := Lib.hid (And.intro hP1 hB1)
      have hki : (k : Int) < (n : Int) := by omega
      have hk0 : (0 : Int) ≤ (k : Int) := by omega
      have s1 : (r.key.toList == r.key.toList) = true := by simp
      have s2 : (r.val.toList == r.val.toList) = true := by simp
      have s3 : (r.gone == r.gone) = true := by simp
      replace hr := Lib.hid hr
      clear hrel hb1 hX1 hP1 hB1
      go_upto_region 9 with fail
      rw [← show W1 = _ from hW1.out, hxb.out]
      clear hW1 hxb c0 c1 c2 c3 c4 c5 c6 c7
      go_quiet (fail)
      go_wp2_with fail
      have hfin2 : Hid (PrAt (W1.drewN nq) (some ⟨q, 0, none⟩) (rs.map toPr) ∧ Below w.heap.size w (W1.drewN nq)) := Lib.hid ⟨hfin.out.1, (fun (h : Below w.heap.size w W1) => ⟨h.os, h.tape, h.output, h.size, h.block⟩) hfin.out.2⟩
      go_roundg (gk - 1)
      case measure => omega
      case rel => exact ⟨k + 1, by omega, by omega, by go_num, hfin2⟩
    · obtain rfl : k = n := by omega
      have hb := Lib.hid hrel.out.2
      clear hrel
      go_wp2_with fail
      refine (two17_any _).mono ?_
      rintro e w2 ⟨rfl, hb2⟩
      have hB := Lib.hid (grew hb.out hb2)
      clear hb2
      go_wp2_with fail
      go_ret
      exact ⟨rfl, hB.out⟩


theorem own : ownKnob Try.prog.godebug = none := by kernel_rfl
theorem laidOut : laidOutB Try.prog = true := by kernel_rfl

set_option maxRecDepth 100000 in
theorem lifted (os : Os) (started : os.Started) (H : Type) (enc : TypeId × Value → H) :
    ReturnsInHanded {} Try.checked os 4 .any (Rows.batchPairsSpec.pre6 enc Try.prog Try.f4 Rows.batchPairsRow.domain false) (Rows.batchPairsSpec.post enc Try.prog Try.f4 false true false false) := by
  refine returnsInHanded_of_change (C := Try.checked) own started (by kernel_rfl) Try.func4
    (ChangeSpec.witness6 (enc := enc) (C := Try.checked) false ⟨#[], #[.slice none 0 0], []⟩ 8 (by kernel_rfl) (by kernel_rfl) (by kernel_rfl) (by kernel_rfl)) ?_
  intro W base args ds gs before hval0 hW hcnd _
  have hval : ∀ (j : Nat) t v, Try.f4.params[j]? = some t → args[j]? = some v → Value.okWide Try.prog W .any base t v := hval0
  have hW' := hW
  obtain ⟨p, q, hA0, hV, rfl, hfz, hnd⟩ := hW
  have hA : DataW.TrodAll enc Try.prog W 0 (fun _ => true) true Try.f4.params.toList args.toList ds p := hA0
  rw [Try.params4] at hA hval
  obtain ⟨v0, vs0, d0, ds0, p0, q0, hargs, rfl, rfl, h0, r0⟩ := trodAll_cons hA
  obtain ⟨rfl, rfl, rfl⟩ := trodAll_nil r0
  obtain rfl : args = #[v0] := by cases args; simp_all
  obtain ⟨rfl, rfl⟩ := trodVars_none hV
  obtain ⟨a0, len0, cap0, rfl⟩ := okWide_slice Try.underlying30 (hval 0 30 v0 rfl rfl)
  have k0 := h0
  have lt0 : ∀ x ∈ p0, x.block < W.heap.size := by obtain ⟨m, hm⟩ := k0; exact DataW.trod_lt m _ _ _ hm
  obtain ⟨fu0, hf0⟩ := h0
  obtain ⟨z0, w0⟩ := Go.Proofs.Ytbbeapglkdkajaa.W.open_recs (show DataW.trod enc Try.prog W 0 (fun _ => true) true fu0 30 [.slice a0 len0 cap0] = some _ from hf0)
  clear hA0 hval0
  refine (walk a0 len0 cap0 z0 W w0).mono fun e W' ⟨he, bel⟩ => ?_
  subst he
  exact ⟨_, rfl, _, _, _, [], _, [], hW', trodAll_mk1 (shut_bool Try.underlying4 _), (trodAll_cons_mk (Below.trod laidOut (by kernel_rfl) (of_decide_eq_true (by kernel_rfl)) k0 bel lt0) trodAll_mk0), rfl, bel.frame _, fun h => by cases h⟩

theorem over : Rows.batchPairsRow.holds Try.pinned (OpenSpec.ofChange Rows.batchPairsSpec) :=
  OpenClaim.holds_of_wide 4 Try.f4 rfl rfl rfl rfl rfl rfl rfl ⟨rfl, rfl, rfl, rfl, rfl⟩ rfl rfl rfl rfl rfl (by kernel_rfl) Try.func4 (by kernel_rfl)
    (of_decide_eq_true (by kernel_rfl)) (by unfold Func.isWrapper; first | (rw [if_pos (by decide +kernel)]; kernel_rfl) | (rw [if_neg (by decide +kernel)]; exact ⟨rfl, rfl⟩))
    (fun os started H enc _ => lifted os started H enc)

/-- The statement. -/
theorem proved : Rows.BatchPairsSaid := over
#print axioms proved

end Go.Proofs.Ytbbeapglkdkajaa.batchPairs
