/- For all calls, one behind the other, the law PartActs returns true: a partition tells what the definition tells, and holds what it says. No condition. -/
import Derived.Test.YtahljbjgenepaaaRows
import Derived.Test.YtahljbjgenepaaaPtZ
import Derived.Test.YtahljbjgenepaaaOpenA19
import Derived.ChangeOld
import Derived.ShutString
import Derived.Deep.Cut
import Derived.Deep.LoopGhost
import Derived.Deep.RegionHeld3
namespace Go.Proofs.Ytahljbjgenepaaa.partActs
open Go.ChangeShapes Go.WideShapes Go.ChangeAt Go.RowKit Go.Sort
open Go.ChangeMaps (open_string shut_string)
open Go.Proofs.Ytahljbjgenepaaa.M Go.Proofs.Ytahljbjgenepaaa.W Go.Proofs.Ytahljbjgenepaaa.D Go.Proofs.Ytahljbjgenepaaa.Z
set_option linter.unusedVariables false
set_option linter.unusedSimpArgs false

theorem sizeP4 : (Try.prog.info? 29).map (·.size) = some 4 := by kernel_rfl
set_option maxRecDepth 100000 in
set_option maxHeartbeats 8000000 in
theorem walk (a0 : Option Addr) (n c : Nat) (xs : List A19) (w : World) (w0 : As19 w a0 n xs) :
    Calls Try.prog 3 #[.slice a0 n c] w fun e w' => e = .returned (.bool true) ∧ Below w.heap.size w w' := by
  have hla := Lib.hid (large19_any a0 n c xs w w0)
  have hnw := Lib.hid (fun W => pnew_any W)
  replace w0 := Lib.hid w0
  go_enter Try.func3, Try.ntmps3
  go_wp2_with fail
  refine hla.out.mono ?_
  rintro _ w1 ⟨B, rfl, hB, hb1⟩
  replace hb1 := Lib.hid hb1
  clear hla
  cases B with
  | true =>
    clear hB hnw w0
    go_wp2_with fail
    refine (gap_any _).mono ?_
    rintro _ w2 ⟨rfl, hb2⟩
    have hfin := Lib.hid (grew hb1.out hb2)
    go_wp2_with fail
    go_ret
    exact ⟨rfl, hfin.out⟩
  | false =>
    obtain ⟨hl40, hl30⟩ := hB rfl
    have hxl : n ≤ 40 := by rw [← w0.out.len]; exact hl40
    replace hl30 := Lib.hid hl30
    clear hB hl40
    go_wp2_with fail
    refine (hnw.out _).mono ?_
    rintro _ w2 ⟨pb, rfl, hp2, hlo2, hb2⟩
    obtain ⟨V, hV⟩ : ∃ V, Hid (V = w2.alloc (.cells #[.slice none 0 0, .int .i64 0, .int .i64 0, .int .i64 0] 29)) := ⟨_, Lib.hid rfl⟩
    have hbV : Below w2.heap.size w2 V := by rw [hV.out]; exact grewAlloc (Below.refl _ _) _
    have hPV : Whole V w2.heap.size 29 [.slice none 0 0, .int .i64 0, .int .i64 0, .int .i64 0] := by rw [hV.out]; exact Whole.new w2 _ _
    have h0 : Hid (QS w pb w2.heap.size ⟨0, 0, 0, []⟩ none 0 none 0 V) := Lib.hid ⟨⟨hp2.below hbV, Nat.le_trans hb1.out.size hlo2, (fun q ⟨o, e⟩ => by cases e), grew (grew hb1.out hb2) hbV⟩, hPV, grew hb1.out hb2 |>.size, (fun i r hr => by simp at hr), (fun e => absurd rfl e), fun e => by
      rcases e with e | ⟨o, e⟩
      · have := hp2.obj.lt; omega
      · cases e⟩
    obtain ⟨bx, hbx⟩ : ∃ q, Hid (w2.heap.size = q) := ⟨_, Lib.hid rfl⟩
    rw [hbx.out] at h0
    clear hp2 hlo2 hb2 hbV hPV hnw
    go_upto_region 5 with fail
    rw [← show V = _ from hV.out, hbx.out]
    clear hV hbx
    go_wp2_with fail
    go_loopg [17] n (fun ga i wr => ∃ k : Nat, k ≤ n ∧ n ≤ k + ga ∧ i = .int .i64 (k : Int) ∧ Hid (∃ d va c vr cr, QS w pb bx d va c vr cr wr ∧ d.ok ∧ d.rs.length ≤ 30 * k))
    case atStart => exact ⟨0, by omega, by omega, rfl, Lib.hid ⟨_, _, _, _, _, h0.out, (by refine ⟨?_, ?_, ?_, ?_, ?_, ?_⟩ <;> first | (intro r hr; simp at hr; done) | trivial | decide), by simp⟩⟩
    case round =>
      clear h0
      obtain ⟨k, hk, hg, rfl, hrel⟩ := hrel
      generalize wr = wo at *
      obtain ⟨d, va, c1, vr, cr, hQ, hok, hdl⟩ := hrel.out
      clear hrel
      by_cases hlt : k < n
      · obtain ⟨x, hx⟩ : ∃ x, xs[k]? = some x := ⟨_, List.getElem?_eq_getElem (by have := w0.out.len; omega)⟩
        have hxm := List.mem_of_getElem? hx
        have hxin := Lib.hid (w0.out.wf x hxm)
        have hx30 := hl30.out x hxm
        obtain ⟨ab, ao, rfl, e0, e1, e2, e3⟩ := w0.out.get hQ.ps.since hx
        have hso := step_ok hok x
        have hxr : x.rs.length = x.ln := hxin.out.l.len
        obtain ⟨W1, hW1⟩ : ∃ V, Hid (V = wo.alloc (.cells #[.int .i64 x.k, .int .i64 x.n, .int .i64 x.m, .slice x.la x.ln x.lc] 31)) := ⟨_, Lib.hid rfl⟩
        have hb1' : Below wo.heap.size wo W1 := by rw [hW1.out]; exact grewAlloc (Below.refl _ _) _
        have hA1 : Whole W1 wo.heap.size 31 [.int .i64 x.k, .int .i64 x.n, .int .i64 x.m, .slice x.la x.ln x.lc] := by rw [hW1.out]; exact Whole.new wo _ _
        have hQ1 := hQ.below hb1'
        have hnm : ¬ mineP pb va wo.heap.size := fun e => by have := hQ.ps.lt _ e; omega
        have hne : wo.heap.size ≠ bx := by have := hQ.box.lt; omega
        obtain ⟨qb, hqb⟩ : ∃ q, Hid (wo.heap.size = q) := ⟨_, Lib.hid rfl⟩
        rw [hqb.out] at hA1 hnm hne
        obtain ⟨a0', a1, a2, a3⟩ := cells4 hA1
        have hbox := hQ1.box
        have hdn := Lib.hid (done19_any pb va c1 vr cr d x W1 w hQ1.ps hok hQ1.row hxin.out (by omega) (by omega))
        have hac := Lib.hid (fun W (h1 : RcAt W vr d.rs) (h2 : Below w.heap.size w W) => act19_any vr cr d x W w hok h1 hxin.out h2 (by omega) (by omega))
        obtain ⟨N, hN⟩ : ∃ N, Hid (d.rs.length = N) := ⟨_, Lib.hid rfl⟩
        rw [hN.out] at hdn hac hbox
        obtain ⟨p0, p1, p2, p3⟩ := cells4 hbox
        obtain ⟨E, hE⟩ : ∃ E, Hid ((d.step x).1 = E) := ⟨_, Lib.hid rfl⟩
        obtain ⟨D, hD⟩ : ∃ D, Hid ((d.step x).2 = D) := ⟨_, Lib.hid rfl⟩
        rw [hE.out, hD.out] at hdn hac
        rw [hD.out] at hso
        have hEE : (E != E) = false := by simp
        have hki : (k : Int) < (n : Int) := by omega
        replace hso := Lib.hid hso
        replace hQ1 := Lib.hid hQ1
        replace hA1 := Lib.hid hA1
        replace hx := Lib.hid hx
        clear hQ hbox hb1' hxm
        go_upto_region 8 with fail
        rw [← show W1 = _ from hW1.out, hqb.out]
        clear hW1 hqb e0 e1 e2 e3
        go_wp2_with fail
        refine hdn.out.mono ?_
        rintro _ w3 ⟨rfl, hl3⟩
        obtain ⟨va2, c2, hP3, hbox3, hrow3, hk3, hq3⟩ := hQ1.out.left hl3
        have hA3 := hA1.out.of_kept hk3 hnm
        obtain ⟨b0, b1, b2, b3⟩ := cells4 hA3
        have hac3 := Lib.hid (hac.out w3 hrow3 hP3.since)
        have hbox3' := hbox3
        rw [hN.out] at hbox3'
        obtain ⟨o0, o1, o2, o3⟩ := cells4 hbox3'
        replace hP3 := Lib.hid hP3
        replace hk3 := Lib.hid hk3
        replace hq3 := Lib.hid hq3
        replace hbox3 := Lib.hid hbox3
        clear hl3 hdn hac hbox3' hA3 hrow3 a0' a1 a2 a3 p0 p1 p2 p3 hA1 hnm
        go_wp2_with fail
        refine hac3.out.mono ?_
        rintro _ w4 ⟨vr', cr', rfl, hr4, hcl, hb4⟩
        obtain ⟨M, hM⟩ : ∃ M, Hid (D.rs.length = M) := ⟨_, Lib.hid rfl⟩
        rw [hM.out]
        obtain ⟨W5, hW5⟩ : ∃ V, Hid (V = w4.alloc (.cells #[.slice vr' M cr', .int .i64 D.st, .int .i64 D.nx, .int .i64 D.sn, .int .i64 E] 36)) := ⟨_, Lib.hid rfl⟩
        have hb5 : Below w4.heap.size w4 W5 := by rw [hW5.out]; exact grewAlloc (Below.refl _ _) _
        have hD5 : Whole W5 w4.heap.size 36 [.slice vr' M cr', .int .i64 D.st, .int .i64 D.nx, .int .i64 D.sn, .int .i64 E] := by rw [hW5.out]; exact Whole.new w4 _ _
        have hb45 := grew hb4 hb5
        have hbox5 := hbox3.out.below hb45 hbox3.out.lt
        have hnx := hQ1.out.next (cr' := cr') hP3.out hk3.out hq3.out hb45 hbox5 hxin.out.l.at_ (hr4.below hb5) hcl
        rw [hM.out] at hnx
        obtain ⟨tb, htb⟩ : ∃ q, Hid (w4.heap.size = q) := ⟨_, Lib.hid rfl⟩
        rw [htb.out] at hD5
        have d0 : W5.cell? ⟨tb, 0, none⟩ = some (.slice vr' M cr') := hD5.cell 0
        have d1 : W5.cell? ⟨tb, 1, none⟩ = some (.int .i64 D.st) := hD5.cell 1
        have d2 : W5.cell? ⟨tb, 2, none⟩ = some (.int .i64 D.nx) := hD5.cell 2
        have d3 : W5.cell? ⟨tb, 3, none⟩ = some (.int .i64 D.sn) := hD5.cell 3
        have d4 : W5.cell? ⟨tb, 4, none⟩ = some (.int .i64 E) := hD5.cell 4
        rw [hN.out] at hbox5
        replace hbox5 := Lib.hid hbox5
        obtain ⟨W6, hW6⟩ : ∃ V, Hid (W5.setCells bx 0 [.slice vr' M cr', .int .i64 D.st, .int .i64 D.nx, .int .i64 D.sn] = V) := ⟨_, Lib.hid rfl⟩
        rw [hW6.out] at hnx
        have hsm := same19_any pb va2 c2 D vr' cr' W6 hnx.ps.at_ hnx.row (fun r hr => (hso.out.1.2.2.2.2.1 r hr).1) (by have := hso.out.2; omega)
        have hbx6 := hnx.box
        rw [hM.out] at hsm hbx6
        obtain ⟨y0, y1, y2, y3⟩ := cells4 hbx6
        replace hsm := Lib.hid hsm
        replace hnx := Lib.hid hnx
        clear hac3 hb4 hb5 hb45 hD5 hcl hr4 hQ1 hP3 hk3 hq3 hbox3 o0 o1 o2 o3 b0 b1 b2 b3 hbx6
        go_upto_region 10 with fail
        rw [← show W5 = _ from hW5.out, htb.out]
        clear hW5 htb
        go_wp2_with (with_reducible refine zStore 29 _ _ rfl ?_)
        refine Lib.hid ?_
        refine wpList_store_mid rfl 29 _ _ rfl bx 0 #[.slice vr' M cr', .int .i64 D.st, .int .i64 D.nx, .int .i64 D.sn] rfl rfl (hbox5.out.there 0 4 (by simp)) sizeP4 (by simp [Value.oneCell']) ?_
        rw [show W5.setCells bx 0 (#[Value.slice vr' M cr', .int .i64 D.st, .int .i64 D.nx, .int .i64 D.sn] : Array Value).toList = W6 from hW6.out]
        clear hbox5 hW6 d0 d1 d2 d3 d4
        go_wp2_with fail
        refine hsm.out.mono ?_
        rintro _ w7 ⟨rfl, hb7⟩
        have hQ7 := Lib.hid (hnx.out.below hb7)
        clear hsm hb7 hnx y0 y1 y2 y3
        go_wp2_with fail
        go_roundg (gk - 1)
        case measure => omega
        case rel => exact ⟨k + 1, by omega, by omega, by go_num, Lib.hid ⟨_, _, _, _, _, hQ7.out, hso.out.1, by have := hso.out.2; omega⟩⟩
      · obtain rfl : k = n := by omega
        have hsm := same19_any pb va c1 d vr cr wo hQ.ps.at_ hQ.row (fun r hr => (hok.2.2.2.2.1 r hr).1) (by omega)
        have hbox := hQ.box
        have hB := Lib.hid hQ.ps.since
        obtain ⟨N, hN⟩ : ∃ N, Hid (d.rs.length = N) := ⟨_, Lib.hid rfl⟩
        rw [hN.out] at hsm hbox
        obtain ⟨p0, p1, p2, p3⟩ := cells4 hbox
        replace hsm := Lib.hid hsm
        clear hQ hbox hok
        go_wp2_with fail
        refine hsm.out.mono ?_
        rintro _ w3 ⟨rfl, hb3⟩
        have hB3 := Lib.hid (grew hB.out hb3)
        clear hB hb3 hsm p0 p1 p2 p3
        go_wp2_with fail
        refine (gap_any _).mono ?_
        rintro _ w4 ⟨rfl, hb4⟩
        have hfin := Lib.hid (grew hB3.out hb4)
        go_wp2_with fail
        go_ret
        exact ⟨rfl, hfin.out⟩

theorem own : ownKnob Try.prog.godebug = none := by kernel_rfl
theorem laidOut : laidOutB Try.prog = true := by kernel_rfl

set_option maxRecDepth 100000 in
theorem lifted (os : Os) (started : os.Started) (H : Type) (enc : TypeId × Value → H) :
    ReturnsInHanded {} Try.checked os 3 .any (Rows.partActsSpec.pre6 enc Try.prog Try.f3 Rows.partActsRow.domain false) (Rows.partActsSpec.post enc Try.prog Try.f3 false true false false) := by
  refine returnsInHanded_of_change (C := Try.checked) own started (by kernel_rfl) Try.func3
    (ChangeSpec.witness6 (enc := enc) (C := Try.checked) false ⟨#[], #[.slice none 0 0], []⟩ 8 (by kernel_rfl) (by kernel_rfl) (by kernel_rfl) (by kernel_rfl)) ?_
  intro W base args ds gs before hval0 hW hcnd _
  have hval : ∀ (j : Nat) t v, Try.f3.params[j]? = some t → args[j]? = some v → Value.okWide Try.prog W .any base t v := hval0
  have hW' := hW
  obtain ⟨p, q, hA0, hV, rfl, hfz, hnd⟩ := hW
  have hA : DataW.TrodAll enc Try.prog W 0 (fun _ => true) true Try.f3.params.toList args.toList ds p := hA0
  rw [Try.params3] at hA hval
  obtain ⟨v0, vs0, d0, ds0, p0, q0, hargs, rfl, rfl, h0, r0⟩ := trodAll_cons hA
  obtain ⟨rfl, rfl, rfl⟩ := trodAll_nil r0
  obtain rfl : args = #[v0] := by cases args; simp_all
  obtain ⟨rfl, rfl⟩ := trodVars_none hV
  obtain ⟨a0, len0, cap0, rfl⟩ := okWide_slice Try.underlying22 (hval 0 22 v0 rfl rfl)
  have k0 := h0
  have lt0 : ∀ x ∈ p0, x.block < W.heap.size := by obtain ⟨m, hm⟩ := k0; exact DataW.trod_lt m _ _ _ hm
  obtain ⟨fu0, hf0⟩ := h0
  obtain ⟨z0, w0⟩ := Go.Proofs.Ytahljbjgenepaaa.W.open_acts19 (show DataW.trod enc Try.prog W 0 (fun _ => true) true fu0 22 [.slice a0 len0 cap0] = some _ from hf0)
  clear hA0 hval0
  refine (walk a0 len0 cap0 z0 W w0).mono fun e W' ⟨he, bel⟩ => ?_
  subst he
  exact ⟨_, rfl, _, _, _, [], _, [], hW', trodAll_mk1 (shut_bool Try.underlying4 _), (trodAll_cons_mk (Below.trod laidOut (by kernel_rfl) (of_decide_eq_true (by kernel_rfl)) k0 bel lt0) trodAll_mk0), rfl, bel.frame _, fun h => by cases h⟩

theorem over : Rows.partActsRow.holds Try.pinned (OpenSpec.ofChange Rows.partActsSpec) :=
  OpenClaim.holds_of_wide 3 Try.f3 rfl rfl rfl rfl rfl rfl rfl ⟨rfl, rfl, rfl, rfl, rfl⟩ rfl rfl rfl rfl rfl (by kernel_rfl) Try.func3 (by kernel_rfl)
    (of_decide_eq_true (by kernel_rfl)) (by unfold Func.isWrapper; first | (rw [if_pos (by decide +kernel)]; kernel_rfl) | (rw [if_neg (by decide +kernel)]; exact ⟨rfl, rfl⟩))
    (fun os started H enc _ => lifted os started H enc)

/-- The statement. -/
theorem proved : Rows.PartActsSaid := over
#print axioms proved

end Go.Proofs.Ytahljbjgenepaaa.partActs
