/- For every row of records and every tick the law CompactOrder returns true: of records with rising offsets what is kept are some of them, in their order, no two of one key, and the view rises by keys and has no tombstone; of large rows, or offsets that don't rise, the small case stands in. No condition. -/
import Derived.Test.YtpfnpfbimadjkaaRows
import Derived.Test.YtpfnpfbimadjkaaCpH
import Derived.ChangeOld
import Derived.ShutString
namespace Go.Proofs.Ytpfnpfbimadjkaa.compactOrder
open Go.ChangeShapes Go.WideShapes Go.ChangeAt Go.RowKit Go.Sort
open Go.ChangeMaps (open_string shut_string)
open Go.Proofs.Ytpfnpfbimadjkaa.M Go.Proofs.Ytpfnpfbimadjkaa.W Go.Proofs.Ytpfnpfbimadjkaa.D Go.Proofs.Ytpfnpfbimadjkaa.Z
set_option linter.unusedVariables false
set_option linter.unusedSimpArgs false

theorem upto_up {rs : List Rc} {a : Nat} (h : ∀ (i : Nat) (x y : Rc), i + 1 < a → rs[i]? = some x → rs[i + 1]? = some y → x.off < y.off) (hr : ∀ (p : Nat) (x y : Rc), a = p + 1 → rs[p]? = some x → rs[p + 1]? = some y → x.off < y.off) : ∀ (i : Nat) (x y : Rc), i + 1 < a + 1 → rs[i]? = some x → rs[i + 1]? = some y → x.off < y.off := fun i x y hi h1 h2 => by
  by_cases e : i + 1 < a
  · exact h i x y e h1 h2
  · exact hr i x y (by omega) h1 h2
theorem gtr_no (W : World) : (binOp BinOp.gtr 3 (.int .i64 (((0 : Nat) : Int))) (.int .i64 0)).run Try.prog W = .ok (.bool false) W := by simp [go_sem, Try.underlying3]
theorem gtr_yes {a : Nat} (h : 0 < a) (W : World) : (binOp BinOp.gtr 3 (.int .i64 (a : Int)) (.int .i64 0)).run Try.prog W = .ok (.bool true) W := by simp [go_sem, Try.underlying3]; omega
theorem leq_is (x y : Int) (W : World) : (binOp BinOp.leq 3 (.int .i64 x) (.int .i64 y)).run Try.prog W = .ok (.bool (decide (x ≤ y))) W := by simp [go_sem, Try.underlying3]
theorem lss_yes {x y : Int} (h : x < y) (W : World) : (binOp BinOp.lss 3 (.int .i64 x) (.int .i64 y)).run Try.prog W = .ok (.bool true) W := by simp [go_sem, Try.underlying3, h]
theorem eql_no {k : ByteArray} (h : ¬ k.toList = []) (W : World) : (binOp BinOp.eql 9 (.string k) (.string ⟨#[]⟩)).run Try.prog W = .ok (.bool false) W := by
  have e : (k.toList == (⟨#[]⟩ : ByteArray).toList) = false := by
    rw [show (⟨#[]⟩ : ByteArray).toList = [] from by rw [Lib.toList_data]]
    simpa using h
  simp only [binOp, Op.stringOp]
  simp [e]
  simpa using h
set_option maxRecDepth 100000 in
set_option maxHeartbeats 8000000 in
theorem walk (a0 : Option Addr) (n c : Nat) (rs : List Rc) (dead : Int) (w : World) (w0 : RcIn w a0 n rs) (_ : (Lit.int .i64 dead).wf = true) :
    Calls Try.prog 5 #[.slice a0 n c, .int .i64 dead] w fun e w' => e = .returned (.bool true) ∧ Below w.heap.size w w' := by
  obtain ⟨hn, hat, hwf⟩ := w0
  have hlg := large21_any a0 n c rs w hat hn
  have h4 := Lib.hid (fun W => four_any W)
  cases hbig : bigL rs with
  | true =>
    rw [hbig] at hlg
    replace hlg := Lib.hid hlg
    clear hat hwf hn hbig
    go_enter Try.func5, Try.ntmps5
    go_wp2_with fail
    refine hlg.out.mono ?_
    rintro e w1 ⟨rfl, hb1⟩
    replace hb1 := Lib.hid hb1
    go_wp2_with fail
    refine (h4.out _).mono ?_
    rintro e w2 ⟨rfl, hb2⟩
    have hB2 := Lib.hid (grew hb1.out hb2)
    clear hb2
    go_wp2_with fail
    go_ret
    exact ⟨rfl, hB2.out⟩
  | false =>
    rw [hbig] at hlg
    obtain ⟨hl40, hsm⟩ := small21 hbig
    have hsh := short21 hsm
    have k1 := fun W (hW : RcAt W a0 rs) => keep_all a0 c rs dead W hW (by omega) hsh
    have k3 := fun W (hW : RcAt W a0 rs) => view_any a0 c rs W hW (by omega) hsh
    have l1 := keepF_len dead rs
    have l2 := viewF_len rs
    have hKwf : Hid (∀ r ∈ keepF dead rs, wfR r) := Lib.hid (fun r hr => hwf r ((keepF_sub dead rs).subset hr))
    have hnext : Hid (upR rs → ∀ (i at_ : Nat) (r : Rc), (keepF dead rs)[i]? = some r → (i = 0 → at_ = 0) → (∀ j x, i = j + 1 → (keepF dead rs)[j]? = some x → rs[at_]? = some x) → ∃ p, rs[p]? = some r ∧ at_ ≤ p) := Lib.hid (fun h i at_ r hr h0 h1 => next_kept h hr h0 h1)
    have hkeys : Hid (∀ (i j : Nat) (x y : Rc), (keepF dead rs)[i]? = some x → (keepF dead rs)[j]? = some y → i < j → kb y ≠ [] → kb x ≠ kb y) := Lib.hid (fun i j x y h1 h2 h3 h5 => kept_at h1 h2 h3 h5)
    have hview : Hid (∀ (i : Nat) (x y : Rc), (viewF rs)[i]? = some x → (viewF rs)[i + 1]? = some y → kb x < kb y) := Lib.hid (fun i x y h1 h2 => view_at h1 h2)
    have hvmem : Hid (∀ x ∈ viewF rs, kb x ≠ [] ∧ x.gone = false) := Lib.hid (fun x hx => (viewF_mem hx).2)
    obtain ⟨K, hK⟩ : ∃ K, Hid (keepF dead rs = K) := ⟨_, Lib.hid rfl⟩
    obtain ⟨V, hV⟩ : ∃ K, Hid (viewF rs = K) := ⟨_, Lib.hid rfl⟩
    rw [hK.out] at k1 l1 hKwf hnext hkeys
    rw [hV.out] at k3 l2 hview hvmem
    obtain ⟨m, hm⟩ : ∃ m, Hid (K.length = m) := ⟨_, Lib.hid rfl⟩
    rw [hm.out] at k1 l1
    obtain ⟨v, hv⟩ : ∃ v, Hid (V.length = v) := ⟨_, Lib.hid rfl⟩
    rw [hv.out] at k3 l2
    rw [hn] at k1 k3 l1 l2 hl40
    replace hlg := Lib.hid hlg
    replace hat := Lib.hid hat
    replace hn := Lib.hid hn
    replace hwf := Lib.hid hwf
    replace k1 := Lib.hid k1
    replace k3 := Lib.hid k3
    clear hbig hsm hsh hK hV
    go_enter Try.func5, Try.ntmps5
    go_wp2_with fail
    refine hlg.out.mono ?_
    rintro e w1 ⟨rfl, hb1⟩
    replace hb1 := Lib.hid hb1
    clear hlg
    go_wp2_with fail
    -- do offsets rise?
    go_loopg [21] n (fun ga i wr => ∃ a : Nat, a ≤ n ∧ n ≤ a + ga ∧ i = .int .i64 (a : Int) ∧ Hid ((∀ (i : Nat) (x y : Rc), i + 1 < a → rs[i]? = some x → rs[i + 1]? = some y → x.off < y.off) ∧ Below w.heap.size w wr))
    case atStart => exact ⟨0, by omega, by omega, rfl, Lib.hid ⟨fun i x y hi => by omega, hb1.out⟩⟩
    case round =>
      obtain ⟨a, ha, hg, rfl, hrel⟩ := hrel
      generalize wr = wo at *
      obtain ⟨hup, hbl⟩ := hrel.out
      clear hrel
      by_cases hlt : a < n
      · obtain ⟨r, hr⟩ : ∃ r, rs[a]? = some r := ⟨_, List.getElem?_eq_getElem (by have := hn.out; omega)⟩
        obtain ⟨b, o, e, c0, c1, c2, c3, c4, c5, c6, c7⟩ := (hat.out.below hbl).get hr
        obtain ⟨W1, hW1⟩ : ∃ W, Hid (W = wo.alloc (.cells #[.int .i64 r.off, .int .i64 r.tick, .string r.key, .string r.val, .bool r.gone, .int .i64 r.prod, .int .i64 r.seq, .int .i64 r.frm] 32)) := ⟨_, Lib.hid rfl⟩
        have hbW1 : Below wo.heap.size wo W1 := by rw [hW1.out]; exact grewAlloc (Below.refl _ _) _
        have hXW1 : Whole W1 wo.heap.size 32 (rcL r) := by rw [hW1.out]; exact Whole.new wo _ _
        obtain ⟨xb, hxb⟩ : ∃ x, Hid (wo.heap.size = x) := ⟨_, Lib.hid rfl⟩
        rw [hxb.out] at hXW1
        obtain ⟨x0, x1, x2, x3, x4, x5, x6, x7⟩ := recCells hXW1
        have hB1 := grew hbl hbW1
        have hki : (a : Int) < (n : Int) := by omega
        have g0 := fun d os => cell_regrown x0 d os
        rcases a with _ | p
        · rw [show o + 0 * 8 = o from by omega] at c0 c1 c2 c3 c4 c5 c6 c7
          have hup1 := upto_up hup (fun p x y e => by omega)
          have hgt := gtr_no
          replace hup1 := Lib.hid hup1
          replace hr := Lib.hid hr
          replace hB1 := Lib.hid hB1
          subst e
          clear hup hbl hbW1 hXW1 x0 x1 x2 x3 x4 x5 x6 x7
          go_upto_region 6 with fail
          rw [← show W1 = _ from hW1.out, hxb.out]
          clear hW1 hxb c0 c1 c2 c3 c4 c5 c6 c7
          refine wp_region_quiet_below (by kernel_rfl) (by kernel_rfl) ?_
          repeat (first
            | ((with_reducible refine quiet_bin BinOp.gtr 3 3 (.int .i64 (((0 : Nat) : Int))) (.int .i64 0) (.bool false) ?_ ?_ hgt ?_ ?_ ?_); (· rfl); (· rfl); (· exact fun _ => rfl); (· rfl); simp only [Act.put, List.setIfInBounds_toArray, List.set_cons_zero, List.set_cons_succ])
            | ((with_reducible refine quiet_bin BinOp.gtr 3 3 (.int .i64 0) (.int .i64 0) (.bool false) ?_ ?_ hgt ?_ ?_ ?_); (· rfl); (· rfl); (· exact fun _ => rfl); (· rfl); simp only [Act.put, List.setIfInBounds_toArray, List.set_cons_zero, List.set_cons_succ])
            | go_big_quiet_step (fail "none"))
          refine wpQuiet_nil ?_
          intro _ hw'
          obtain ⟨⟨dq, osq⟩, hw''⟩ := hw'
          subst hw''
          have hq := below_regrown W1 dq osq
          have hfin := Lib.hid (And.intro hup1.out (grew hB1.out hq))
          clear hq hB1 g0
          generalize grow (redrawn W1 dq) osq = w7 at *
          go_wp2_with fail
          go_roundg (gk - 1)
          case measure => omega
          case rel => exact ⟨0 + 1, by omega, by omega, by go_num, hfin⟩
        · obtain ⟨pr, hpr⟩ : ∃ r, rs[p]? = some r := ⟨_, List.getElem?_eq_getElem (by have := hn.out; omega)⟩
          obtain ⟨b', o', e', p0, _⟩ := (hat.out.below hB1).get hpr
          have eb := e.symm.trans e'
          cases eb
          have hp := fun d os => cell_regrown p0 d os
          have hgt := fun W => gtr_yes (a := p + 1) (by omega) W
          have hwm : IntKind.i64.wrap (((p + 1 : Nat) : Int) - 1) = (p : Int) := by rw [IntWalk.i64_in _ (by omega)]; omega
          have hwm2 : IntKind.i64.wrap ((p : Int) + 1 - 1) = (p : Int) := by rw [IntWalk.i64_in _ (by omega)]; omega
          have hpn : (p : Int) < (n : Int) := by omega
          have hp0 : (0 : Int) ≤ (p : Int) := by omega
          have hle := fun W => leq_is r.off pr.off W
          subst e
          by_cases hle2 : r.off ≤ pr.off
          · rw [decide_eq_true hle2] at hle
            replace hr := Lib.hid hr
            replace hpr := Lib.hid hpr
            replace hB1 := Lib.hid hB1
            clear hup hbl hbW1 hXW1 x0 x1 x2 x3 x4 x5 x6 x7 e' p0
            go_upto_region 6 with fail
            rw [← show W1 = _ from hW1.out, hxb.out]
            clear hW1 hxb c0 c1 c2 c3 c4 c5 c6 c7
            refine wp_region_quiet_below (by kernel_rfl) (by kernel_rfl) ?_
            repeat (first
              | ((with_reducible refine quiet_bin BinOp.gtr 3 3 (.int .i64 (((p + 1 : Nat) : Int))) (.int .i64 0) (.bool true) ?_ ?_ hgt ?_ ?_ ?_); (· rfl); (· rfl); (· exact fun _ => rfl); (· rfl); simp only [Act.put, List.setIfInBounds_toArray, List.set_cons_zero, List.set_cons_succ])
              | ((with_reducible refine quiet_bin BinOp.gtr 3 3 (.int .i64 ((p : Int) + 1)) (.int .i64 0) (.bool true) ?_ ?_ hgt ?_ ?_ ?_); (· rfl); (· rfl); (· exact fun _ => rfl); (· rfl); simp only [Act.put, List.setIfInBounds_toArray, List.set_cons_zero, List.set_cons_succ])
              | ((with_reducible refine quiet_bin BinOp.leq 3 3 (.int .i64 r.off) (.int .i64 pr.off) (.bool true) ?_ ?_ hle ?_ ?_ ?_); (· rfl); (· rfl); (· exact fun _ => rfl); (· rfl); simp only [Act.put, List.setIfInBounds_toArray, List.set_cons_zero, List.set_cons_succ])
              | go_big_quiet_step (fail "none"))
            refine wpQuiet_nil ?_
            intro _ hw'
            obtain ⟨⟨dq, osq⟩, hw''⟩ := hw'
            subst hw''
            have hq := below_regrown W1 dq osq
            have hB7 := Lib.hid (grew hB1.out hq)
            clear hq hB1 g0 hp
            generalize grow (redrawn W1 dq) osq = w7 at *
            go_wp2_with fail
            refine (h4.out _).mono ?_
            rintro e w8 ⟨rfl, hb8⟩
            have hB8 := Lib.hid (grew hB7.out hb8)
            clear hb8
            go_wp2_with fail
            go_ret
            exact ⟨rfl, hB8.out⟩
          · rw [decide_eq_false hle2] at hle
            have hup1 := upto_up hup (fun q x y e h1 h2 => by
              obtain rfl : p = q := by omega
              rw [hpr] at h1
              rw [hr] at h2
              cases h1; cases h2
              omega)
            replace hup1 := Lib.hid hup1
            replace hr := Lib.hid hr
            replace hpr := Lib.hid hpr
            replace hB1 := Lib.hid hB1
            clear hup hbl hbW1 hXW1 x0 x1 x2 x3 x4 x5 x6 x7 e' p0
            go_upto_region 6 with fail
            rw [← show W1 = _ from hW1.out, hxb.out]
            clear hW1 hxb c0 c1 c2 c3 c4 c5 c6 c7
            refine wp_region_quiet_below (by kernel_rfl) (by kernel_rfl) ?_
            repeat (first
              | ((with_reducible refine quiet_bin BinOp.gtr 3 3 (.int .i64 (((p + 1 : Nat) : Int))) (.int .i64 0) (.bool true) ?_ ?_ hgt ?_ ?_ ?_); (· rfl); (· rfl); (· exact fun _ => rfl); (· rfl); simp only [Act.put, List.setIfInBounds_toArray, List.set_cons_zero, List.set_cons_succ])
              | ((with_reducible refine quiet_bin BinOp.gtr 3 3 (.int .i64 ((p : Int) + 1)) (.int .i64 0) (.bool true) ?_ ?_ hgt ?_ ?_ ?_); (· rfl); (· rfl); (· exact fun _ => rfl); (· rfl); simp only [Act.put, List.setIfInBounds_toArray, List.set_cons_zero, List.set_cons_succ])
              | ((with_reducible refine quiet_bin BinOp.leq 3 3 (.int .i64 r.off) (.int .i64 pr.off) (.bool false) ?_ ?_ hle ?_ ?_ ?_); (· rfl); (· rfl); (· exact fun _ => rfl); (· rfl); simp only [Act.put, List.setIfInBounds_toArray, List.set_cons_zero, List.set_cons_succ])
              | go_big_quiet_step (fail "none"))
            refine wpQuiet_nil ?_
            intro _ hw'
            obtain ⟨⟨dq, osq⟩, hw''⟩ := hw'
            subst hw''
            have hq := below_regrown W1 dq osq
            have hfin := Lib.hid (And.intro hup1.out (grew hB1.out hq))
            clear hq hB1 g0 hp
            generalize grow (redrawn W1 dq) osq = w7 at *
            go_wp2_with fail
            go_roundg (gk - 1)
            case measure => omega
            case rel => exact ⟨p + 1 + 1, by omega, by omega, by go_num, hfin⟩
      · obtain rfl : a = n := by omega
        have hup2 : upR rs := up_of (fun i x y h1 h2 => hup i x y (by have := (List.getElem?_eq_some_iff.1 h2).1; have := hn.out; omega) h1 h2)
        have hnx := Lib.hid (hnext.out hup2)
        have hua := Lib.hid (fun (i j : Nat) (x y : Rc) (h1 : rs[i]? = some x) (h2 : rs[j]? = some y) => up_at hup2 h1 h2)
        have t1 := Lib.hid (k1.out wo (hat.out.below hbl))
        replace hbl := Lib.hid hbl
        clear hup hup2 hnext k1
        go_wp2_with fail
        refine t1.out.mono ?_
        rintro e w2 ⟨A2, c2, rfl, h2, hb2, hmc⟩
        have hB2 := Lib.hid (grew hbl.out hb2)
        replace h2 := Lib.hid h2
        clear t1 hbl hb2
        go_wp2_with fail
        -- those that are kept, one by one
        go_loopg [8, 46] m (fun ga atv i wr => ∃ i' at_ : Nat, i' ≤ m ∧ m ≤ i' + ga ∧ i = .int .i64 (i' : Int) ∧ atv = .int .i64 (at_ : Int) ∧ at_ ≤ a ∧ Hid ((i' = 0 → at_ = 0) ∧ (∀ j x, i' = j + 1 → K[j]? = some x → rs[at_]? = some x) ∧ Below w2.heap.size w2 wr))
        case atStart => exact ⟨0, 0, by omega, by omega, rfl, rfl, by omega, Lib.hid ⟨fun _ => rfl, (fun j x e => by omega), Below.refl _ _⟩⟩
        case round =>
          obtain ⟨i, at_, hi, hg2, rfl, rfl, hata, hrel⟩ := hrel
          generalize wr = wo2 at *
          obtain ⟨z1, z2, hbl⟩ := hrel.out
          clear hrel
          by_cases hlt2 : i < m
          · obtain ⟨r, hr⟩ : ∃ r, K[i]? = some r := ⟨_, List.getElem?_eq_getElem (by have := hm.out; omega)⟩
            obtain ⟨p, hp, hap⟩ := hnx.out i at_ r hr z1 z2
            have hpa : p < a := by have := (List.getElem?_eq_some_iff.1 hp).1; have := hn.out; omega
            obtain ⟨b, o, e, c0, c1, c3, c4, c5, c6, c7, c8⟩ := (h2.out.below hbl).get hr
            obtain ⟨W1, hW1⟩ : ∃ W, Hid (W = wo2.alloc (.cells #[.int .i64 r.off, .int .i64 r.tick, .string r.key, .string r.val, .bool r.gone, .int .i64 r.prod, .int .i64 r.seq, .int .i64 r.frm] 32)) := ⟨_, Lib.hid rfl⟩
            have hbW1 : Below wo2.heap.size wo2 W1 := by rw [hW1.out]; exact grewAlloc (Below.refl _ _) _
            have hXW1 : Whole W1 wo2.heap.size 32 (rcL r) := by rw [hW1.out]; exact Whole.new wo2 _ _
            obtain ⟨xb, hxb⟩ : ∃ x, Hid (wo2.heap.size = x) := ⟨_, Lib.hid rfl⟩
            rw [hxb.out] at hXW1
            obtain ⟨x0, x1, x2, x3, x4, x5, x6, x7⟩ := recCells hXW1
            have hB1 := Lib.hid (grew hbl hbW1)
            have hki : (i : Int) < (m : Int) := by omega
            have hst := Lib.hid (And.intro hXW1 hB1.out)
            have hwr := hKwf.out r (List.mem_of_getElem? hr)
            replace hr := Lib.hid hr
            replace hp := Lib.hid hp
            replace hwr := Lib.hid hwr
            subst e
            clear z1 z2 hbl hbW1 hXW1 x0 x1 x2 x3 x4 x5 x6 x7
            generalize gk = gout at *
            go_upto_region 14 with fail
            rw [← show W1 = _ from hW1.out, hxb.out]
            clear hW1 hxb c0 c1 c3 c4 c5 c6 c7 c8
            go_loopg [8] a (fun g3 atv wr => ∃ u : Nat, u ≤ p ∧ p ≤ u + g3 ∧ atv = .int .i64 (u : Int) ∧ Hid (Whole wr xb 32 (rcL r) ∧ Below w2.heap.size w2 wr))
            case atStart => exact ⟨at_, hap, by omega, rfl, hst⟩
            case round =>
              clear hst hap
              obtain ⟨u, hu, hg3, rfl, hrel⟩ := hrel
              generalize wr = wo3 at *
              obtain ⟨hX3, hB3⟩ := hrel.out
              clear hrel
              obtain ⟨y, hy⟩ : ∃ y, rs[u]? = some y := ⟨_, List.getElem?_eq_getElem (by have := hn.out; omega)⟩
              obtain ⟨b2, o2, e2, d0, d1, d2, d3, d4, d5, d6, d7⟩ := (hat.out.below (grew hB2.out hB3)).get hy
              obtain ⟨x0, x1, x2, x3, x4, x5, x6, x7⟩ := recCells hX3
              have g0 := fun d os => cell_regrown x0 d os
              have g1 := fun d os => cell_regrown x1 d os
              have g2 := fun d os => cell_regrown x2 d os
              have g3 := fun d os => cell_regrown x3 d os
              have g4 := fun d os => cell_regrown x4 d os
              have g5 := fun d os => cell_regrown x5 d os
              have g6 := fun d os => cell_regrown x6 d os
              have g7 := fun d os => cell_regrown x7 d os
              have ee0 := fun d os => cell_regrown d0 d os
              have ee1 := fun d os => cell_regrown d1 d os
              have ee2 := fun d os => cell_regrown d2 d os
              have ee3 := fun d os => cell_regrown d3 d os
              have ee4 := fun d os => cell_regrown d4 d os
              have ee5 := fun d os => cell_regrown d5 d os
              have ee6 := fun d os => cell_regrown d6 d os
              have ee7 := fun d os => cell_regrown d7 d os
              have hua3 : (u : Int) < (a : Int) := by omega
              have hu0 : (0 : Int) ≤ (u : Int) := by omega
              have hls := fun W => lss_yes hua3 W
              have hne := fun W => neq_rc y r (hwf.out y (List.mem_of_getElem? hy)) hwr.out W
              obtain ⟨u1, u2, u3⟩ := hua.out u p y r hy hp.out
              subst e2
              clear x0 x1 x2 x3 x4 x5 x6 x7 d0 d1 d2 d3 d4 d5 d6 d7
              by_cases hup : u < p
              · have hnq : ∀ W, (binOp BinOp.neq 32 (.agg #[.int .i64 y.off, .int .i64 y.tick, .string y.key, .string y.val, .bool y.gone, .int .i64 y.prod, .int .i64 y.seq, .int .i64 y.frm]) (.agg #[.int .i64 r.off, .int .i64 r.tick, .string r.key, .string r.val, .bool r.gone, .int .i64 r.prod, .int .i64 r.seq, .int .i64 r.frm])).run Try.prog W = .ok (.bool true) W := fun W => (hne W).1 (by have := u1 hup; omega)
                have hX4 := Lib.hid hX3
                have hB4 := Lib.hid hB3
                replace hy := Lib.hid hy
                clear hne u1 u2 u3 hX3 hB3
                go_upto_region 14 with fail
                refine wp_region_quiet_below (by kernel_rfl) (by kernel_rfl) ?_
                repeat (first
                  | ((with_reducible refine quiet_bin BinOp.lss 3 3 (.int .i64 (u : Int)) (.int .i64 (a : Int)) (.bool true) ?_ ?_ hls ?_ ?_ ?_); (· rfl); (· rfl); (· exact fun _ => rfl); (· rfl); simp only [Act.put, List.setIfInBounds_toArray, List.set_cons_zero, List.set_cons_succ])
                  | ((with_reducible refine quiet_bin BinOp.neq 32 32 (.agg #[.int .i64 y.off, .int .i64 y.tick, .string y.key, .string y.val, .bool y.gone, .int .i64 y.prod, .int .i64 y.seq, .int .i64 y.frm]) (.agg #[.int .i64 r.off, .int .i64 r.tick, .string r.key, .string r.val, .bool r.gone, .int .i64 r.prod, .int .i64 r.seq, .int .i64 r.frm]) (.bool true) ?_ ?_ hnq ?_ ?_ ?_); (· rfl); (· rfl); (· exact fun _ => rfl); (· rfl); simp only [Act.put, List.setIfInBounds_toArray, List.set_cons_zero, List.set_cons_succ])
                  | go_big_quiet_step (fail "none"))
                refine wpQuiet_nil ?_
                intro _ hw'
                obtain ⟨⟨dq, osq⟩, hw''⟩ := hw'
                subst hw''
                have hq := below_regrown wo3 dq osq
                have hfin := Lib.hid (And.intro (hX4.out.below hq hX4.out.lt) (grew hB4.out hq))
                clear hq hB4 hX4 g0 g1 g2 g3 g4 g5 g6 g7 ee0 ee1 ee2 ee3 ee4 ee5 ee6 ee7
                generalize grow (redrawn wo3 dq) osq = w7 at *
                go_wp2_with fail
                go_roundg (gk - 1)
                case measure => omega
                case rel => exact ⟨u + 1, by omega, by omega, by go_num, hfin⟩
              · obtain rfl : u = p := by omega
                have hyr : y = r := by have := hp.out; rw [hy] at this; exact Option.some.inj this
                subst hyr
                have hnq : ∀ W, (binOp BinOp.neq 32 (.agg #[.int .i64 y.off, .int .i64 y.tick, .string y.key, .string y.val, .bool y.gone, .int .i64 y.prod, .int .i64 y.seq, .int .i64 y.frm]) (.agg #[.int .i64 y.off, .int .i64 y.tick, .string y.key, .string y.val, .bool y.gone, .int .i64 y.prod, .int .i64 y.seq, .int .i64 y.frm])).run Try.prog W = .ok (.bool false) W := fun W => (hne W).2 rfl
                have hX4 := Lib.hid hX3
                have hB4 := Lib.hid hB3
                replace hy := Lib.hid hy
                clear hne u1 u2 u3 hX3 hB3
                go_upto_region 14 with fail
                refine wp_region_quiet_below (by kernel_rfl) (by kernel_rfl) ?_
                repeat (first
                  | ((with_reducible refine quiet_bin BinOp.lss 3 3 (.int .i64 (u : Int)) (.int .i64 (a : Int)) (.bool true) ?_ ?_ hls ?_ ?_ ?_); (· rfl); (· rfl); (· exact fun _ => rfl); (· rfl); simp only [Act.put, List.setIfInBounds_toArray, List.set_cons_zero, List.set_cons_succ])
                  | ((with_reducible refine quiet_bin BinOp.neq 32 32 (.agg #[.int .i64 y.off, .int .i64 y.tick, .string y.key, .string y.val, .bool y.gone, .int .i64 y.prod, .int .i64 y.seq, .int .i64 y.frm]) (.agg #[.int .i64 y.off, .int .i64 y.tick, .string y.key, .string y.val, .bool y.gone, .int .i64 y.prod, .int .i64 y.seq, .int .i64 y.frm]) (.bool false) ?_ ?_ hnq ?_ ?_ ?_); (· rfl); (· rfl); (· exact fun _ => rfl); (· rfl); simp only [Act.put, List.setIfInBounds_toArray, List.set_cons_zero, List.set_cons_succ])
                  | go_big_quiet_step (fail "none"))
                refine wpQuiet_nil ?_
                intro _ hw'
                obtain ⟨⟨dq, osq⟩, hw''⟩ := hw'
                subst hw''
                have hq := below_regrown wo3 dq osq
                have hX7 := hX4.out.below hq hX4.out.lt
                have hB7 := grew hB4.out hq
                clear hq hB4 hX4 g0 g1 g2 g3 g4 g5 g6 g7 ee0 ee1 ee2 ee3 ee4 ee5 ee6 ee7
                generalize grow (redrawn wo3 dq) osq = w7 at *
                have hne2 : ((u : Int) == (a : Int)) = false := by simp; omega
                have hne3 : ¬ u = a := by omega
                obtain ⟨A5, C5, hsl, hat5⟩ := to_rc (some ⟨b, o, none⟩) m c2 i K (by omega)
                have h5 := Lib.hid (fun W hW => hat5 W hW)
                have hst4 := Lib.hid (And.intro hX7 hB7)
                clear hX7 hB7 hat5
                go_wp2_with fail
                go_loopg [73] i (fun g4 jv wr => ∃ j : Nat, j ≤ i ∧ i ≤ j + g4 ∧ jv = .int .i64 (j : Int) ∧ Hid (Whole wr xb 32 (rcL y) ∧ Below w2.heap.size w2 wr))
                case atStart => exact ⟨0, by omega, by omega, rfl, hst4⟩
                case round =>
                  clear hst4
                  obtain ⟨j, hj, hg4, rfl, hrel⟩ := hrel
                  generalize wr = wo4 at *
                  obtain ⟨hX8, hB8⟩ := hrel.out
                  clear hrel
                  by_cases hji : j < i
                  · obtain ⟨x, hx⟩ : ∃ x, K[j]? = some x := ⟨_, List.getElem?_eq_getElem (by have := hm.out; omega)⟩
                    obtain ⟨b5, o5, e5, f0, f1, f2, f3, f4, f5, f6, f7⟩ := (h5.out wo4 (h2.out.below hB8)).get (show (K.take i)[j]? = some x by rw [List.getElem?_take_of_lt hji]; exact hx)
                    obtain ⟨W9, hW9⟩ : ∃ W, Hid (W = wo4.alloc (.cells #[.int .i64 x.off, .int .i64 x.tick, .string x.key, .string x.val, .bool x.gone, .int .i64 x.prod, .int .i64 x.seq, .int .i64 x.frm] 32)) := ⟨_, Lib.hid rfl⟩
                    have hbW9 : Below wo4.heap.size wo4 W9 := by rw [hW9.out]; exact grewAlloc (Below.refl _ _) _
                    have hXW9 : Whole W9 wo4.heap.size 32 (rcL x) := by rw [hW9.out]; exact Whole.new wo4 _ _
                    obtain ⟨x9, hx9⟩ : ∃ x, Hid (wo4.heap.size = x) := ⟨_, Lib.hid rfl⟩
                    rw [hx9.out] at hXW9
                    obtain ⟨z0, z1, z2, z3, z4, z5, z6, z7⟩ := recCells hXW9
                    have hX9 := hX8.below hbW9 hX8.lt
                    obtain ⟨q0, q1, q2, q3, q4, q5, q6, q7⟩ := recCells hX9
                    have hjii : (j : Int) < (i : Int) := by omega
                    have hks := hkeys.out j i x y hx hr.out hji
                    have hke := keyEq x y
                    have hfin := Lib.hid (And.intro hX9 (grew hB8 hbW9))
                    replace hx := Lib.hid hx
                    subst e5
                    clear hX8 hB8 hbW9 hXW9 hX9
                    by_cases hk : kb y = []
                    · have hk2 : y.key.toList.isEmpty = true := by rw [kb_nil.1 hk]; rfl
                      have hk3 : y.key.toList = [] := kb_nil.1 hk
                      clear hks hke hk
                      go_upto_region 21 with fail
                      rw [← show W9 = _ from hW9.out, hx9.out]
                      clear hW9 hx9 f0 f1 f2 f3 f4 f5 f6 f7
                      go_wp2_with fail
                      go_roundg (gk - 1)
                      case measure => omega
                      case rel => exact ⟨j + 1, by omega, by omega, by go_num, hfin⟩
                    · have hk2 : y.key.toList.isEmpty = false := by simpa using fun e => hk (kb_nil.2 e)
                      have hk3 : ¬ y.key.toList = [] := fun e => hk (kb_nil.2 e)
                      rw [decide_eq_false (hks hk)] at hke
                      clear hks hk
                      go_upto_region 21 with fail
                      rw [← show W9 = _ from hW9.out, hx9.out]
                      clear hW9 hx9 f0 f1 f2 f3 f4 f5 f6 f7
                      go_wp2_with fail
                      go_roundg (gk - 1)
                      case measure => omega
                      case rel => exact ⟨j + 1, by omega, by omega, by go_num, hfin⟩
                  · obtain rfl : j = i := by omega
                    have hfin : Hid ((j + 1 = 0 → u = 0) ∧ (∀ j' x, j + 1 = j' + 1 → K[j']? = some x → rs[u]? = some x) ∧ Below w2.heap.size w2 wo4) := Lib.hid ⟨fun e => by omega, (fun j' x e h => by
                      obtain rfl : j = j' := by omega
                      have := hr.out
                      rw [h] at this
                      cases this
                      exact hy.out), hB8⟩
                    clear hX8 hB8
                    go_wp2_with fail
                    go_roundg (gout - 1)
                    case measure => omega
                    case rel => exact ⟨j + 1, u, by omega, by omega, by go_num, rfl, by omega, hfin⟩
          · obtain rfl : i = m := by omega
            have hB3 := Lib.hid (grew hB2.out hbl)
            have t3 := Lib.hid (k3.out wo2 (hat.out.below hB3.out))
            clear z1 z2 hbl hB2 k3 h2
            go_wp2_with fail
            refine t3.out.mono ?_
            rintro e w3 ⟨A3, c3, rfl, h3, hb3⟩
            have hB4 := Lib.hid (grew hB3.out hb3)
            replace h3 := Lib.hid h3
            clear t3 hB3 hb3
            go_wp2_with fail
            go_loopg [93] v (fun ga ix wr => ∃ q : Nat, q ≤ v ∧ v ≤ q + ga ∧ ix = .int .i64 (q : Int) ∧ Hid (Below w3.heap.size w3 wr))
            case atStart => exact ⟨0, by omega, by omega, rfl, Lib.hid (Below.refl _ _)⟩
            case round =>
              obtain ⟨q, hq1, hg5, rfl, hrel⟩ := hrel
              generalize wr = wo5 at *
              have hbl := hrel.out
              clear hrel
              by_cases hlt3 : q < v
              · obtain ⟨r, hr⟩ : ∃ r, V[q]? = some r := ⟨_, List.getElem?_eq_getElem (by have := hv.out; omega)⟩
                obtain ⟨b, o, e, c0, c1, c2, c3, c4, c5, c6, c7⟩ := (h3.out.below hbl).get hr
                have hvm := hvmem.out r (List.mem_of_getElem? hr)
                obtain ⟨W1, hW1⟩ : ∃ W, Hid (W = wo5.alloc (.cells #[.int .i64 r.off, .int .i64 r.tick, .string r.key, .string r.val, .bool r.gone, .int .i64 r.prod, .int .i64 r.seq, .int .i64 r.frm] 32)) := ⟨_, Lib.hid rfl⟩
                have hbW1 : Below wo5.heap.size wo5 W1 := by rw [hW1.out]; exact grewAlloc (Below.refl _ _) _
                have hXW1 : Whole W1 wo5.heap.size 32 (rcL r) := by rw [hW1.out]; exact Whole.new wo5 _ _
                obtain ⟨xb, hxb⟩ : ∃ x, Hid (wo5.heap.size = x) := ⟨_, Lib.hid rfl⟩
                rw [hxb.out] at hXW1
                obtain ⟨x0, x1, x2, x3, x4, x5, x6, x7⟩ := recCells hXW1
                have hB1 := grew hbl hbW1
                have hki : (q : Int) < (v : Int) := by omega
                have hk3 : ¬ r.key.toList = [] := fun e => hvm.1 (kb_nil.2 e)
                have hql := fun W => eql_no hk3 W
                have hgo := hvm.2
                rw [hgo] at x4
                have g0 := fun d os => cell_regrown x0 d os
                have g1 := fun d os => cell_regrown x1 d os
                have g2 := fun d os => cell_regrown x2 d os
                have g3 := fun d os => cell_regrown x3 d os
                have g4 := fun d os => cell_regrown x4 d os
                have g5 := fun d os => cell_regrown x5 d os
                have g6 := fun d os => cell_regrown x6 d os
                have g7 := fun d os => cell_regrown x7 d os
                rcases q with _ | p
                · rw [show o + 0 * 8 = o from by omega] at c0 c1 c2 c3 c4 c5 c6 c7
                  have hgt := gtr_no
                  replace hr := Lib.hid hr
                  replace hB1 := Lib.hid hB1
                  subst e
                  clear hbl hbW1 hXW1 x0 x1 x2 x3 x4 x5 x6 x7 hvm
                  replace hgo := Lib.hid hgo
                  go_upto_region 29 with fail
                  rw [← show W1 = _ from hW1.out, hxb.out]
                  clear hW1 hxb c0 c1 c2 c3 c4 c5 c6 c7
                  refine wp_region_quiet_below (by kernel_rfl) (by kernel_rfl) ?_
                  repeat (first
                    | ((with_reducible refine quiet_bin BinOp.gtr 3 3 (.int .i64 (((0 : Nat) : Int))) (.int .i64 0) (.bool false) ?_ ?_ hgt ?_ ?_ ?_); (· rfl); (· rfl); (· exact fun _ => rfl); (· rfl); simp only [Act.put, List.setIfInBounds_toArray, List.set_cons_zero, List.set_cons_succ])
                    | ((with_reducible refine quiet_bin BinOp.gtr 3 3 (.int .i64 0) (.int .i64 0) (.bool false) ?_ ?_ hgt ?_ ?_ ?_); (· rfl); (· rfl); (· exact fun _ => rfl); (· rfl); simp only [Act.put, List.setIfInBounds_toArray, List.set_cons_zero, List.set_cons_succ])
                    | ((with_reducible refine quiet_bin BinOp.eql 9 9 (.string r.key) (.string ⟨#[]⟩) (.bool false) ?_ ?_ hql ?_ ?_ ?_); (· rfl); (· rfl); (· exact fun _ => rfl); (· rfl); simp only [Act.put, List.setIfInBounds_toArray, List.set_cons_zero, List.set_cons_succ])
                    | go_big_quiet_step (fail "none"))
                  refine wpQuiet_nil ?_
                  intro _ hw'
                  obtain ⟨⟨dq, osq⟩, hw''⟩ := hw'
                  subst hw''
                  have hq := below_regrown W1 dq osq
                  have hfin := Lib.hid (grew hB1.out hq)
                  clear hq hB1 g0 g1 g2 g3 g4 g5 g6 g7
                  generalize grow (redrawn W1 dq) osq = w7 at *
                  go_wp2_with fail
                  go_roundg (gk - 1)
                  case measure => omega
                  case rel => exact ⟨0 + 1, by omega, by omega, by go_num, hfin⟩
                · obtain ⟨pr, hpr⟩ : ∃ r, V[p]? = some r := ⟨_, List.getElem?_eq_getElem (by have := hv.out; omega)⟩
                  obtain ⟨b', o', e', _, _, p2, _⟩ := (h3.out.below hB1).get hpr
                  have eb := e.symm.trans e'
                  cases eb
                  have hp := fun d os => cell_regrown p2 d os
                  have hgt := fun W => gtr_yes (a := p + 1) (by omega) W
                  have hwm : IntKind.i64.wrap (((p + 1 : Nat) : Int) - 1) = (p : Int) := by rw [IntWalk.i64_in _ (by omega)]; omega
                  have hwm2 : IntKind.i64.wrap ((p : Int) + 1 - 1) = (p : Int) := by rw [IntWalk.i64_in _ (by omega)]; omega
                  have hpn : (p : Int) < (v : Int) := by omega
                  have hp0 : (0 : Int) ≤ (p : Int) := by omega
                  have hle := fun W => leqKey (hview.out p pr r hpr hr) W
                  subst e
                  replace hr := Lib.hid hr
                  replace hpr := Lib.hid hpr
                  replace hB1 := Lib.hid hB1
                  clear hbl hbW1 hXW1 x0 x1 x2 x3 x4 x5 x6 x7 e' p2 hvm
                  replace hgo := Lib.hid hgo
                  go_upto_region 29 with fail
                  rw [← show W1 = _ from hW1.out, hxb.out]
                  clear hW1 hxb c0 c1 c2 c3 c4 c5 c6 c7
                  refine wp_region_quiet_below (by kernel_rfl) (by kernel_rfl) ?_
                  repeat (first
                    | ((with_reducible refine quiet_bin BinOp.gtr 3 3 (.int .i64 (((p + 1 : Nat) : Int))) (.int .i64 0) (.bool true) ?_ ?_ hgt ?_ ?_ ?_); (· rfl); (· rfl); (· exact fun _ => rfl); (· rfl); simp only [Act.put, List.setIfInBounds_toArray, List.set_cons_zero, List.set_cons_succ])
                    | ((with_reducible refine quiet_bin BinOp.gtr 3 3 (.int .i64 ((p : Int) + 1)) (.int .i64 0) (.bool true) ?_ ?_ hgt ?_ ?_ ?_); (· rfl); (· rfl); (· exact fun _ => rfl); (· rfl); simp only [Act.put, List.setIfInBounds_toArray, List.set_cons_zero, List.set_cons_succ])
                    | ((with_reducible refine quiet_bin BinOp.eql 9 9 (.string r.key) (.string ⟨#[]⟩) (.bool false) ?_ ?_ hql ?_ ?_ ?_); (· rfl); (· rfl); (· exact fun _ => rfl); (· rfl); simp only [Act.put, List.setIfInBounds_toArray, List.set_cons_zero, List.set_cons_succ])
                    | ((with_reducible refine quiet_bin BinOp.leq 9 9 (.string r.key) (.string pr.key) (.bool false) ?_ ?_ hle ?_ ?_ ?_); (· rfl); (· rfl); (· exact fun _ => rfl); (· rfl); simp only [Act.put, List.setIfInBounds_toArray, List.set_cons_zero, List.set_cons_succ])
                    | go_big_quiet_step (fail "none"))
                  refine wpQuiet_nil ?_
                  intro _ hw'
                  obtain ⟨⟨dq, osq⟩, hw''⟩ := hw'
                  subst hw''
                  have hq := below_regrown W1 dq osq
                  have hfin := Lib.hid (grew hB1.out hq)
                  clear hq hB1 g0 g1 g2 g3 g4 g5 g6 g7 hp
                  generalize grow (redrawn W1 dq) osq = w7 at *
                  go_wp2_with fail
                  go_roundg (gk - 1)
                  case measure => omega
                  case rel => exact ⟨p + 1 + 1, by omega, by omega, by go_num, hfin⟩
              · obtain rfl : q = v := by omega
                have hB5 := Lib.hid (grew hB4.out hbl)
                clear hbl
                go_wp2_with fail
                refine (h4.out _).mono ?_
                rintro e w8 ⟨rfl, hb8⟩
                have hB8 := Lib.hid (grew hB5.out hb8)
                clear hb8
                go_wp2_with fail
                go_ret
                exact ⟨rfl, hB8.out⟩

theorem own : ownKnob Try.prog.godebug = none := by kernel_rfl
theorem laidOut : laidOutB Try.prog = true := by kernel_rfl

set_option maxRecDepth 100000 in
theorem lifted (os : Os) (started : os.Started) (H : Type) (enc : TypeId × Value → H) :
    ReturnsInHanded {} Try.checked os 5 .any (Rows.compactOrderSpec.pre6 enc Try.prog Try.f5 Rows.compactOrderRow.domain false) (Rows.compactOrderSpec.post enc Try.prog Try.f5 false true false false) := by
  refine returnsInHanded_of_change (C := Try.checked) own started (by kernel_rfl) Try.func5
    (ChangeSpec.witness6 (enc := enc) (C := Try.checked) false ⟨#[], #[.slice none 0 0, .int .i64 0], []⟩ 8 (by kernel_rfl) (by kernel_rfl) (by kernel_rfl) (by kernel_rfl)) ?_
  intro W base args ds gs before hval0 hW hcnd _
  have hval : ∀ (j : Nat) t v, Try.f5.params[j]? = some t → args[j]? = some v → Value.okWide Try.prog W .any base t v := hval0
  have hW' := hW
  obtain ⟨p, q, hA0, hV, rfl, hfz, hnd⟩ := hW
  have hA : DataW.TrodAll enc Try.prog W 0 (fun _ => true) true Try.f5.params.toList args.toList ds p := hA0
  rw [Try.params5] at hA hval
  obtain ⟨v0, vs0, d0, ds0, p0, q0, hargs, rfl, rfl, h0, r0⟩ := trodAll_cons hA
  obtain ⟨v1, vs1, d1, ds1, p1, q1, rfl, rfl, rfl, h1, r1⟩ := trodAll_cons r0
  obtain ⟨rfl, rfl, rfl⟩ := trodAll_nil r1
  obtain rfl : args = #[v0, v1] := by cases args; simp_all
  obtain ⟨rfl, rfl⟩ := trodVars_none hV
  obtain ⟨a0, len0, cap0, rfl⟩ := okWide_slice Try.underlying22 (hval 0 22 v0 rfl rfl)
  have k0 := h0
  have lt0 : ∀ x ∈ p0, x.block < W.heap.size := by obtain ⟨m, hm⟩ := k0; exact DataW.trod_lt m _ _ _ hm
  obtain ⟨fu0, hf0⟩ := h0
  obtain ⟨z0, w0⟩ := Go.Proofs.Ytpfnpfbimadjkaa.W.open_recs (show DataW.trod enc Try.prog W 0 (fun _ => true) true fu0 22 [.slice a0 len0 cap0] = some _ from hf0)
  obtain ⟨a1, rfl, rfl, rfl, w1⟩ := open_int Try.underlying3 (hval 1 3 v1 rfl rfl) h1
  clear hA0 hval0
  refine (walk a0 len0 cap0 z0 a1 W w0 w1).mono fun e W' ⟨he, bel⟩ => ?_
  subst he
  exact ⟨_, rfl, _, _, _, [], _, [], hW', trodAll_mk1 (shut_bool Try.underlying4 _), (trodAll_cons_mk (Below.trod laidOut (by kernel_rfl) (of_decide_eq_true (by kernel_rfl)) k0 bel lt0) (trodAll_cons_mk (shut_int Try.underlying3 w1) trodAll_mk0)), rfl, bel.frame _, fun h => by cases h⟩

theorem over : Rows.compactOrderRow.holds Try.pinned (OpenSpec.ofChange Rows.compactOrderSpec) :=
  OpenClaim.holds_of_wide 5 Try.f5 rfl rfl rfl rfl rfl rfl rfl ⟨rfl, rfl, rfl, rfl, rfl⟩ rfl rfl rfl rfl rfl (by kernel_rfl) Try.func5 (by kernel_rfl)
    (of_decide_eq_true (by kernel_rfl)) (by unfold Func.isWrapper; first | (rw [if_pos (by decide +kernel)]; kernel_rfl) | (rw [if_neg (by decide +kernel)]; exact ⟨rfl, rfl⟩))
    (fun os started H enc _ => lifted os started H enc)

/-- The statement. -/
theorem proved : Rows.CompactOrderSaid := over
#print axioms proved

end Go.Proofs.Ytpfnpfbimadjkaa.compactOrder
