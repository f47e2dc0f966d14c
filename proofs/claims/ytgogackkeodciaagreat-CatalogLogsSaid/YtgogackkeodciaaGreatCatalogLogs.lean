/- For every row of calls the law CatalogLogs returns true: the logs of two partitions that are there are unlike, from 4 to 35, behind any calls; of more, or longer ones, than the law goes through the small case stands in. No condition. -/
import Derived.Test.YtgogackkeodciaaGreatRows
import Derived.Test.YtgogackkeodciaaGreatCgMb
import Derived.Test.YtgogackkeodciaaGreatCgNb
import Derived.Test.YtgogackkeodciaaGreatCgW
import Derived.ChangeOld
import Derived.Deep.Cut
namespace Go.Proofs.YtgogackkeodciaaGreat.catalogLogs
open Go.ChangeShapes Go.WideShapes Go.ChangeAt Go.RowKit Go.Sort
open Go.ChangeMaps (open_string shut_string)
open Go.Proofs.YtgogackkeodciaaGreat.M Go.Proofs.YtgogackkeodciaaGreat.W Go.Proofs.YtgogackkeodciaaGreat.D Go.Proofs.YtgogackkeodciaaGreat.Z
set_option linter.unusedVariables false
set_option linter.unusedSimpArgs false

set_option maxRecDepth 100000 in
set_option maxHeartbeats 8000000 in
theorem walk (va : Option Addr) (n cc : Nat) (xs : List A23) (w : World) (h : A23In w va n xs) :
    Calls Tryz.prog 4 #[.slice va n cc] w fun e w' => e = .returned (.bool true) ∧ Below w.heap.size w w' := by
  have hlg := Lib.hid (large23_any va n cc xs w h)
  have hlen := Lib.hid h.len
  have hrow : Hid (∀ (i : Nat) (x : A23), xs[i]? = some x → ∀ W, Below w.heap.size w W → ∃ b o, va = some ⟨b, o, none⟩ ∧ ∀ j v, (a23L x)[j]? = some v → W.cell? ⟨b, o + i * 15 + j, none⟩ = some v) := Lib.hid (fun i x hx W hb => by
    obtain ⟨b, o, e, h1, h2⟩ := h.at_ i x hx
    exact ⟨b, o, e, fun j v hj => (World.cell?_of_block (a := ⟨b, o + i * 15 + j, none⟩) (hb.block b h1)).trans (h2 j v hj)⟩)
  have hwf := Lib.hid h.wf
  clear h
  go_enter Tryz.func4, Tryz.ntmps4
  go_wp2_with fail
  refine hlg.out.mono ?_
  rintro _ w1 ⟨B, rfl, hB, b1⟩
  clear hlg
  cases B with
  | true =>
    clear hlen hrow hwf hB
    replace b1 := Lib.hid b1
    go_wp2_with fail
    refine (two23_any _).mono ?_
    rintro _ w2 ⟨rfl, b2⟩
    have hB2 := Lib.hid (grew b1.out b2)
    go_wp2_with fail
    go_ret
    exact ⟨rfl, hB2.out⟩
  | false =>
    obtain ⟨hn30, hsm⟩ := hB rfl
    replace hsm := Lib.hid hsm
    replace b1 := Lib.hid b1
    have hnn : n ≤ 30 := by have := hlen.out; omega
    clear hB
    go_wp2_with fail
    refine (new23_any _).mono ?_
    rintro _ w2 ⟨rfl, hC2, b2⟩
    have hB2 := Lib.hid (grew b1.out b2)
    obtain ⟨cb, hcb⟩ : ∃ q, Hid (w1.heap.size = q) := ⟨_, Lib.hid rfl⟩
    have hwc : w.heap.size ≤ cb := by rw [← hcb.out]; exact b1.out.size
    rw [hcb.out] at hC2
    rw [show w1.heap.size = cb from hcb.out]
    replace hC2 := Lib.hid hC2
    clear b1 b2 hcb
    go_wp2_with fail
    go_loopg [22] n (fun ga iv wr => ∃ (a : Nat) (m : Option Nat) (T : List To) (N : Int) (c : Nat), a ≤ n ∧ n ≤ a + ga ∧ iv = .int .i64 (a : Int) ∧ c ≤ a * 4 ∧ Hid (CaAt cb wr cb m T N c ∧ Below w.heap.size w wr))
    case atStart => exact ⟨0, none, [], 0, 0, by omega, by omega, rfl, by omega, Lib.hid ⟨hC2.out, hB2.out⟩⟩
    case round =>
      clear hC2 hB2
      obtain ⟨a, m, T, N, c, ha, hg, rfl, hca, hrel⟩ := hrel
      generalize wr = wo at *
      generalize gk = gout at *
      by_cases hlt : a < n
      · obtain ⟨x, hx⟩ : ∃ x, xs[a]? = some x := ⟨_, List.getElem?_eq_getElem (by have := hlen.out; omega)⟩
        obtain ⟨b, ob, rfl, hcs⟩ := hrow.out a x hx wo hrel.out.2
        have hki : (a : Int) < (n : Int) := by omega
        have hxs := hsm.out x (List.mem_of_getElem? hx)
        have hxw := hwf.out x (List.mem_of_getElem? hx)
        obtain ⟨A1, A2, A3, hr⟩ : ∃ A1 A2 A3, madeF T N x = (A1, A2, A3) := ⟨_, _, _, rfl⟩
        have hz : A2.size ≤ 5000 := by have := madeF_size (T := T) (n := N) hxs; rw [hr] at this; exact this
        have hmd := Lib.hid (fun W (hb : Below wo.heap.size wo W) => made_any cb m T N c x W (hrel.out.1.below hb) hxs hxw A1 A2 A3 hr)
        have hap := Lib.hid (fun W (hb : Below wo.heap.size wo W) => apply23_any cb m T N c A1 A2 W (hrel.out.1.below hb) (Nat.le_trans (Nat.le_of_lt hrel.out.1.at_.box.lt) hb.size) (by omega) (by omega))
        clear hr hxs hxw hx
        obtain ⟨k, ⟨nm, pa, ag, sz, co⟩, pn, pp, ⟨g, q, s, nx, tb⟩, fk, fp⟩ := x
        dsimp only at hcs hmd
        have c0 : wo.cell? ⟨b, ob + a * 15, none⟩ = some (.int .i64 k) := hcs 0 _ rfl
        have c1 : wo.cell? ⟨b, ob + a * 15 + 1, none⟩ = some (.string nm) := hcs 1 _ rfl
        have c2 : wo.cell? ⟨b, ob + a * 15 + 2, none⟩ = some (.int .i64 pa) := hcs 2 _ rfl
        have c3 : wo.cell? ⟨b, ob + a * 15 + 3, none⟩ = some (.int .i64 ag) := hcs 3 _ rfl
        have c4 : wo.cell? ⟨b, ob + a * 15 + 4, none⟩ = some (.int .i64 sz) := hcs 4 _ rfl
        have c5 : wo.cell? ⟨b, ob + a * 15 + 5, none⟩ = some (.bool co) := hcs 5 _ rfl
        have c6 : wo.cell? ⟨b, ob + a * 15 + 6, none⟩ = some (.string pn) := hcs 6 _ rfl
        have c7 : wo.cell? ⟨b, ob + a * 15 + 7, none⟩ = some (.int .i64 pp) := hcs 7 _ rfl
        have c8 : wo.cell? ⟨b, ob + a * 15 + 8, none⟩ = some (.int .i64 g) := hcs 8 _ rfl
        have c9 : wo.cell? ⟨b, ob + a * 15 + 9, none⟩ = some (.int .i64 q) := hcs 9 _ rfl
        have c10 : wo.cell? ⟨b, ob + a * 15 + 10, none⟩ = some (.int .i64 s) := hcs 10 _ rfl
        have c11 : wo.cell? ⟨b, ob + a * 15 + 11, none⟩ = some (.int .i64 nx) := hcs 11 _ rfl
        have c12 : wo.cell? ⟨b, ob + a * 15 + 12, none⟩ = some (.string tb) := hcs 12 _ rfl
        have c13 : wo.cell? ⟨b, ob + a * 15 + 13, none⟩ = some (.int .i64 fk) := hcs 13 _ rfl
        have c14 : wo.cell? ⟨b, ob + a * 15 + 14, none⟩ = some (.string fp) := hcs 14 _ rfl
        clear hcs
        by_cases hA : A3 = 0
        · as_aux_lemma =>
            subst hA
            go_wp2_with fail
            refine (hmd.out _ (grewAlloc (Below.refl _ _) _)).mono ?_
            rintro _ w3 ⟨rfl, b3⟩
            replace b3 := grewAlloc (grew (grewAlloc (Below.refl wo.heap.size wo) _) b3) (.cells #[.int .i64 A1, .string A2] 37)
            clear c0 c1 c2 c3 c4 c5 c6 c7 c8 c9 c10 c11 c12 c13 c14 hmd
            go_wp2_with fail
            refine (hap.out _ b3).mono ?_
            rintro _ w4 ⟨m', he, hC4, hk4, _⟩
            obtain ⟨ee, hee⟩ : ∃ ee : Int, (if (appF T N A1 A2).isSome then (0 : Int) else 4) = ee := ⟨_, rfl⟩
            rw [hee] at he
            subst he
            clear hee
            have hB3 := grew hrel.out.2 b3
            have hC3 := hrel.out.1.below b3
            have hB4 : Below w.heap.size w w4 := hB3.trans (hk4.below hB3.size (fun k hk => Nat.le_trans hwc (hC3.at_.old hk)))
            have hrel3 : Hid (CaAt cb w4 cb m' ((appF T N A1 A2).getD (T, N)).1 ((appF T N A1 A2).getD (T, N)).2 (c + 4) ∧ Below w.heap.size w w4) := Lib.hid ⟨hC4, hB4⟩
            clear hrel hap hC4 hk4 hB3 hC3 hB4 b3
            go_wp2_with fail
            go_roundg (gout - 1)
            case measure => omega
            case rel => exact ⟨a + 1, m', _, _, c + 4, by omega, by omega, by go_num, by omega, hrel3⟩
        · as_aux_lemma =>
            go_wp2_with fail
            refine (hmd.out _ (grewAlloc (Below.refl _ _) _)).mono ?_
            rintro _ w3 ⟨rfl, b3⟩
            replace b3 := grewAlloc (grew (grewAlloc (Below.refl wo.heap.size wo) _) b3) (.cells #[.int .i64 A1, .string A2] 37)
            clear c0 c1 c2 c3 c4 c5 c6 c7 c8 c9 c10 c11 c12 c13 c14 hmd
            have hrel3 : Hid (CaAt cb (w3.alloc (.cells #[.int .i64 A1, .string A2] 37)) cb m T N c ∧ Below w.heap.size w (w3.alloc (.cells #[.int .i64 A1, .string A2] 37))) := Lib.hid ⟨hrel.out.1.below b3, grew hrel.out.2 b3⟩
            clear hrel hap b3
            go_wp2_with fail
            go_roundg (gout - 1)
            case measure => omega
            case rel => exact ⟨a + 1, m, T, N, c, by omega, by omega, by go_num, by omega, hrel3⟩
      · as_aux_lemma =>
          have han : a = n := by omega
          have hki : ¬ (a : Int) < (n : Int) := by omega
          obtain ⟨hCa, hBa⟩ := hrel.out
          have hnm := Lib.hid (names23_any (B0 := cb) cb m T N c)
          have hc4 : c ≤ 1000 := by omega
          have hnl : (namesT T).length ≤ 8 := namesT_len hCa.ok
          replace hCa := Lib.hid hCa
          replace hBa := Lib.hid hBa
          clear hrel hsm hwf hrow
          obtain ⟨i0, hi0, hz0, hz1, hz2⟩ := info_parts info40
          replace hnm := Lib.hid (hnm.out _ (hCa.out.below (mkW_below wo)))
          go_wp2_with (with_reducible refine zBuild40 51 rfl ?_)
          refine Lib.hid ?_
          refine Go.wpList_buildTo rfl 51 #[] rfl _ rfl fl40.toArray (by simpa using built40) ?_
          go_wp2_with (with_reducible refine zAlloc40 51 rfl ?_)
          refine Lib.hid ?_
          refine alloc_of40 rfl rfl hi0 hz0 ?_
          rw [show (Value.agg fl40.toArray).cells = fl40.toArray from rfl]
          go_wp2_with (with_reducible refine zStore 51 _ _ rfl ?_)
          refine Lib.hid ?_
          refine wpList_store_mid rfl 51 _ _ rfl wo.heap.size 0 fl40.toArray rfl rfl ((Whole.new wo 51 fl40).there 0 40 (by rw [fl40_len]; exact Nat.le_refl _)) (by rw [hi0]; exact congrArg some hz1) (all_oneCell_toArray fl40_one) ?_
          rw [show (wo.alloc (.cells fl40.toArray 51)).setCells wo.heap.size 0 fl40.toArray.toList = mkW wo from rfl]
          go_wp2_with fail
          refine hnm.out.mono ?_
          rintro _ w5 ⟨A5, c5, rfl, how5, b5⟩
          obtain ⟨mb, hmb⟩ : ∃ q, Hid (wo.heap.size = q) := ⟨_, Lib.hid rfl⟩
          have hM : LgR wo w5 mb T A5 0 0 := metR wo w5 mb T A5 c5 hmb.out b5 how5
          rw [hmb.out]
          have hTl : T.length ≤ 8 := hCa.out.ok.few
          replace hM := Lib.hid hM
          clear how5 b5 hnm hmb hnl
          as_aux_lemma =>
            go_wp2_with fail
            go_loopg [42] T.length (fun ga iv wr => ∃ j : Nat, j ≤ T.length ∧ T.length ≤ j + ga ∧ iv = .int .i64 (j : Int) ∧ Hid (LgR wo wr mb T A5 j 0))
            case atStart => exact ⟨0, by omega, by omega, rfl, hM⟩
            case round =>
              as_aux_lemma =>
                clear hM
                obtain ⟨j, hj8, hja, rfl, hrel⟩ := hrel
                generalize wr = w6 at *
                generalize gk = gj at *
                by_cases hjt : j < T.length
                · obtain ⟨x, hx⟩ : ∃ x, T[j]? = some x := ⟨_, List.getElem?_eq_getElem hjt⟩
                  have hkj : (j : Int) < (T.length : Int) := by omega
                  have hxm := List.mem_of_getElem? hx
                  obtain ⟨g, rfl, hnc⟩ := hrel.out.name hx
                  have hok := hCa.out.ok
                  have hpo := parts_ok hok hxm
                  have hnz := hok.name_ne hxm
                  have hsp := Lib.hid (fun W (hb : Below wo.heap.size wo W) => spec_of_any cb m T N c x.sp.nm W (hCa.out.below hb) x.sp 0 (spec_fact hok hxm))
                  have hlo := Lib.hid (fun (i : Nat) (hi : (i : Int) < x.sp.parts) W (hb : Below wo.heap.size wo W) => by
                    have := log23_any cb m T N c x.sp.nm (i : Int) W (hCa.out.below hb) (by unfold maxLen; omega) (by simp [Lit.wf, IntKind.min, IntKind.max, IntKind.signed, IntKind.bits]; omega)
                    rw [log_fact hok hxm hi] at this
                    exact this)
                  have hlr := Lib.hid (fun (i : Nat) (hi : (i : Int) < x.sp.parts) => logOf_range hok hxm hi)
                  have hmet := Lib.hid (fun (i : Nat) (hi : (i : Int) < x.sp.parts) W (h : LgR wo W mb T (some ⟨g, 0, none⟩) j i) => h.met hok hx hi)
                  have hmk := Lib.hid (fun (i : Nat) (hi : (i : Int) < x.sp.parts) W (h : LgR wo W mb T (some ⟨g, 0, none⟩) j i) => h.mark hok hx hi)
                  have hnx := Lib.hid (fun (i : Nat) (hi : (i : Int) = x.sp.parts) W (h : LgR wo W mb T (some ⟨g, 0, none⟩) j i) => h.next hx hi)
                  generalize logOf x = lf at hlo hlr hmet hmk
                  obtain ⟨p, hp⟩ : ∃ p : Nat, x.sp.parts = (p : Int) := ⟨x.sp.parts.toNat, by omega⟩
                  rw [hp] at hlo hlr hmet hmk hnx hsp hpo
                  replace hp := Lib.hid hp
                  replace hsp := Lib.hid (hsp.out w6 hrel.out.1)
                  have hr6 := hrel
                  clear hrel hx hxm hok hnz
                  go_wp2_with fail
                  refine hsp.out.mono ?_
                  rintro _ w7 ⟨rfl, b7⟩
                  have h7 : LgR wo (w7.alloc (.cells #[.string x.sp.nm, .int .i64 (p : Int), .int .i64 x.sp.age, .int .i64 x.sp.size, .bool x.sp.comp] 31)) mb T (some ⟨g, 0, none⟩) j 0 := (hr6.out.below b7).below (grewAlloc (Below.refl _ _) _)
                  replace h7 := Lib.hid h7
                  clear hsp b7 hr6 hnc
                  go_wp2_with fail
                  go_loopg [56] p (fun ga iv wr => ∃ i : Nat, i ≤ p ∧ p ≤ i + ga ∧ iv = .int .i64 (i : Int) ∧ Hid (LgR wo wr mb T (some ⟨g, 0, none⟩) j i))
                  case atStart => exact ⟨0, by omega, by omega, rfl, h7⟩
                  case round =>
                    as_aux_lemma =>
                      clear h7
                      obtain ⟨i, hi8, hia, rfl, hrel⟩ := hrel
                      generalize wr = w8 at *
                      generalize gk = gi at *
                      by_cases hil : i < p
                      · as_aux_lemma =>
                          have hil2 : (i : Int) < (p : Int) := by omega
                          have hlo2 := Lib.hid (hlo.out i hil2 w8 hrel.out.1)
                          obtain ⟨q1, q2⟩ := hlr.out i hil2
                          have hme2 := Lib.hid (fun W (h : LgR wo W mb T (some ⟨g, 0, none⟩) j i) => And.intro (hmet.out i hil2 W h) (Lib.hid (hmk.out i hil2 W h)))
                          obtain ⟨k, hk⟩ : ∃ k, Hid (lf i = k) := ⟨_, Lib.hid rfl⟩
                          rw [hk.out] at hlo2 q1 q2 hme2
                          have r1 : ¬ (k : Int) < 4 := by omega
                          have r2 : ¬ (35 : Int) < (k : Int) := by omega
                          have r3 : (k : Int) < 40 := by omega
                          clear hk
                          go_wp2_with fail
                          refine hlo2.out.mono ?_
                          rintro _ w9 ⟨rfl, b9⟩
                          obtain ⟨⟨m1, m2⟩, hmk9⟩ := hme2.out w9 (hrel.out.below b9)
                          clear b9 hrel hlo2 hme2
                          go_wp2_with fail
                          go_roundg (gi - 1)
                          case measure => omega
                          case rel => exact ⟨i + 1, by omega, by omega, by go_num, hmk9⟩
                      · as_aux_lemma =>
                          have hip : i = p := by omega
                          have hil2 : ¬ (i : Int) < (p : Int) := by omega
                          have hn9 := Lib.hid (hnx.out i (by omega) w8 hrel.out)
                          clear hlo hlr hmet hmk hnx hrel
                          go_wp2_with fail
                          go_roundg (gj - 1)
                          case measure => omega
                          case rel => exact ⟨j + 1, by omega, by omega, by go_num, hn9⟩
                · as_aux_lemma =>
                    have hkj : ¬ (j : Int) < (T.length : Int) := by omega
                    have hB9 := Lib.hid (hBa.out.trans (hrel.out.1.mono hBa.out.size))
                    clear hrel hCa
                    go_wp2_with fail
                    refine (two23_any _).mono ?_
                    rintro _ w9 ⟨rfl, b9⟩
                    have hBz := Lib.hid (grew hB9.out b9)
                    clear b9
                    go_wp2_with fail
                    go_ret
                    exact ⟨rfl, hBz.out⟩


theorem own : ownKnob Tryz.prog.godebug = none := by kernel_rfl
theorem laidOut : laidOutB Tryz.prog = true := by kernel_rfl

set_option maxRecDepth 100000 in
theorem lifted (os : Os) (started : os.Started) (H : Type) (enc : TypeId × Value → H) :
    ReturnsInHanded {} Tryz.checked os 4 .any (Rows.catalogLogsSpec.pre6 enc Tryz.prog Tryz.f4 Rows.catalogLogsRow.domain false) (Rows.catalogLogsSpec.post enc Tryz.prog Tryz.f4 false true false false) := by
  refine returnsInHanded_of_change (C := Tryz.checked) own started (by kernel_rfl) Tryz.func4
    (ChangeSpec.witness6 (enc := enc) (C := Tryz.checked) false ⟨#[], #[.slice none 0 0], []⟩ 8 (by kernel_rfl) (by kernel_rfl) (by kernel_rfl) (by kernel_rfl)) ?_
  intro W base args ds gs before hval0 hW hcnd _
  have hval : ∀ (j : Nat) t v, Tryz.f4.params[j]? = some t → args[j]? = some v → Value.okWide Tryz.prog W .any base t v := hval0
  have hW' := hW
  obtain ⟨p, q, hA0, hV, rfl, hfz, hnd⟩ := hW
  have hA : DataW.TrodAll enc Tryz.prog W 0 (fun _ => true) true Tryz.f4.params.toList args.toList ds p := hA0
  rw [Tryz.params4] at hA hval
  obtain ⟨v0, vs0, d0, ds0, p0, q0, hargs, rfl, rfl, h0, r0⟩ := trodAll_cons hA
  obtain ⟨rfl, rfl, rfl⟩ := trodAll_nil r0
  obtain rfl : args = #[v0] := by cases args; simp_all
  obtain ⟨rfl, rfl⟩ := trodVars_none hV
  obtain ⟨a0, len0, cap0, rfl⟩ := okWide_slice Tryz.underlying22 (hval 0 22 v0 rfl rfl)
  have k0 := h0
  have lt0 : ∀ x ∈ p0, x.block < W.heap.size := by obtain ⟨m, hm⟩ := k0; exact DataW.trod_lt m _ _ _ hm
  obtain ⟨fu0, hf0⟩ := h0
  obtain ⟨z0, w0⟩ := Go.Proofs.YtgogackkeodciaaGreat.W.open_acts23 (show DataW.trod enc Tryz.prog W 0 (fun _ => true) true fu0 22 [.slice a0 len0 cap0] = some _ from hf0)
  clear hA0 hval0
  refine (walk a0 len0 cap0 z0 W w0).mono fun e W' ⟨he, bel⟩ => ?_
  subst he
  exact ⟨_, rfl, _, _, _, [], _, [], hW', trodAll_mk1 (shut_bool Tryz.underlying4 _), (trodAll_cons_mk (Below.trod laidOut (by kernel_rfl) (of_decide_eq_true (by kernel_rfl)) k0 bel lt0) trodAll_mk0), rfl, bel.frame _, fun h => by cases h⟩

theorem over : Rows.catalogLogsRow.holds Tryz.pinned (OpenSpec.ofChange Rows.catalogLogsSpec) :=
  OpenClaim.holds_of_wide 4 Tryz.f4 rfl rfl rfl rfl rfl rfl rfl ⟨rfl, rfl, rfl, rfl, rfl⟩ rfl rfl rfl rfl rfl (by kernel_rfl) Tryz.func4 (by kernel_rfl)
    (of_decide_eq_true (by kernel_rfl)) (by unfold Func.isWrapper; first | (rw [if_pos (by decide +kernel)]; kernel_rfl) | (rw [if_neg (by decide +kernel)]; exact ⟨rfl, rfl⟩))
    (fun os started H enc _ => lifted os started H enc)

/-- The statement. -/
theorem proved : Rows.CatalogLogsSaid := over
#print axioms proved

end Go.Proofs.YtgogackkeodciaaGreat.catalogLogs
