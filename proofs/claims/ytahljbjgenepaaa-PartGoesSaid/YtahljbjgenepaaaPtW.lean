/- Layer 19's law: large, same. -/
import Derived.Test.YtahljbjgenepaaaPtV
import Derived.Test.YtahljbjgenepaaaPtT
import Derived.Test.YtahljbjgenepaaaOpenA19
namespace Go.Proofs.Ytahljbjgenepaaa.W
open Go.RowKit Go.Sort
open Go.Proofs.Ytahljbjgenepaaa.M Go.Proofs.Ytahljbjgenepaaa.D Go.Proofs.Ytahljbjgenepaaa.Z
set_option linter.unusedVariables false
set_option linter.unusedSimpArgs false

set_option maxRecDepth 100000 in
set_option maxHeartbeats 4000000 in
theorem same19_any (pb : Nat) (va : Option Addr) (c : Nat) (d : Pd) (vr : Option Addr) (cr : Nat) (w : World) (h : PdAt w pb d va c) (hv : RcAt w vr d.rs) (hok : ∀ r ∈ d.rs, r.ok) (hn : d.rs.length ≤ 90000) :
    Calls Try.prog 13 #[.pointer (some ⟨pb, 0, none⟩), .agg #[.slice vr d.rs.length cr, .int .i64 d.st, .int .i64 d.nx, .int .i64 d.sn]] w fun e w' => e = .returned (.bool true) ∧ Below w.heap.size w w' := by
  obtain ⟨V, hV⟩ : ∃ V, Hid (V = w.alloc (.cells #[.slice vr d.rs.length cr, .int .i64 d.st, .int .i64 d.nx, .int .i64 d.sn] 29)) := ⟨_, Lib.hid rfl⟩
  have hb0 : Below w.heap.size w V := by rw [hV.out]; exact grewAlloc (Below.refl _ _) _
  have hP : Whole V w.heap.size 29 [.slice vr d.rs.length cr, .int .i64 d.st, .int .i64 d.nx, .int .i64 d.sn] := by rw [hV.out]; exact Whole.new w _ _
  obtain ⟨q, hq⟩ : ∃ q, Hid (w.heap.size = q) := ⟨_, Lib.hid rfl⟩
  rw [hq.out] at hP
  have hD : Below w.heap.size w V.drew := hb0.drew
  have hPt := h.below hD
  have hPD : Whole V.drew q 29 [.slice vr d.rs.length cr, .int .i64 d.st, .int .i64 d.nx, .int .i64 d.sn] := hP
  have al1 := pall_any2 hPt (by omega)
  have hsm := fun (A : Option Addr) (c2 : Nat) (W : World) (h1 : RcAt W A d.rs) (h2 : RcAt W vr d.rs) => same_recs A vr d.rs.length c2 cr d.rs W h1 h2 rfl (by omega) (fun r hr => ok_wf (hok r hr))
  have hbp := Lib.hid (fun (W : World) (h1 : PdAt W pb d va c) => pbytes_any h1 (by omega) hok)
  have hbr := fun (W : World) (h1 : RcAt W vr d.rs) => rbytes_any vr cr d W h1 hn hok
  obtain ⟨P, hPL⟩ : ∃ P, Hid ((packL d.rs).length = P) := ⟨_, Lib.hid rfl⟩
  rw [hPL.out] at hbp hbr
  obtain ⟨N, hN⟩ : ∃ N, Hid (d.rs.length = N) := ⟨_, Lib.hid rfl⟩
  have hVN : Hid (V = w.alloc (.cells #[.slice vr N cr, .int .i64 d.st, .int .i64 d.nx, .int .i64 d.sn] 29)) := Lib.hid (by rw [hV.out, hN.out])
  rw [hN.out] at al1 hP hPD hsm hbr ⊢
  obtain ⟨p0, p1, p2, p3⟩ := cells4 hP
  have g1 : (d.st == d.st) = true := by simp
  have g2 : (d.nx == d.nx) = true := by simp
  have g3 : (d.sn == d.sn) = true := by simp
  have g4 : (P == P) = true := by simp
  have hvD := Lib.hid (hv.below hD)
  replace hsm := Lib.hid hsm
  replace hbr := Lib.hid hbr
  replace al1 := Lib.hid al1
  replace hPt := Lib.hid hPt
  replace hPD := Lib.hid hPD
  replace hD := Lib.hid hD
  clear hV hb0 hP h hv hok
  go_enter Try.func13, Try.ntmps13
  go_wp2_with fail
  rw [← show V = _ from hVN.out, hq.out]
  clear hVN
  go_region_held3 (fun w' => w'.cell? ⟨q, 0, none⟩ = some (.slice vr N cr) ∧ w'.cell? ⟨q, 1, none⟩ = some (.int .i64 d.st) ∧ w'.cell? ⟨q, 2, none⟩ = some (.int .i64 d.nx) ∧ w'.cell? ⟨q, 3, none⟩ = some (.int .i64 d.sn)) (first | assumption | (go_keep)) (first
    | (go_at_call 23; (with_reducible refine al1.out.mono ?_); rintro _ w3 ⟨A3, c3, rfl, hr3, hb3⟩; obtain ⟨y0, y1, y2, y3⟩ := cells4 (hPD.out.below hb3 hPD.out.lt); have sm := Lib.hid (hsm.out A3 c3 w3 hr3.at_ (hvD.out.below hb3)); have hPt3 := Lib.hid (hPt.out.below hb3); have hPD3 := Lib.hid (hPD.out.below hb3 hPD.out.lt); have hv3 := Lib.hid (hvD.out.below hb3); have hB3 := Lib.hid (hD.out.trans (hb3.mono hD.out.size)); replace hb3 := Lib.hid hb3; replace hr3 := Lib.hid hr3)
    | (go_at_call 17; (with_reducible refine sm.out.mono ?_); rintro _ w4 ⟨rfl, hb4⟩; obtain ⟨v0, v1, v2, v3⟩ := cells4 (hPD3.out.below hb4 hPD3.out.lt); have hPt4 := Lib.hid (hPt3.out.below hb4); have hPD4 := Lib.hid (hPD3.out.below hb4 hPD3.out.lt); have hv4 := Lib.hid (hv3.out.below hb4); have hB4 := Lib.hid (grew hB3.out hb4); replace hb4 := Lib.hid hb4; have st := Lib.hid (pstart_any w4 _ hPt4.out.cells.1); have nx := Lib.hid (pnext_any w4 _ hPt4.out.cells.2.1); have sn := Lib.hid (pseen_any w4 _ hPt4.out.cells.2.2.1); have by4 := Lib.hid (hbp.out w4 hPt4.out))
    | (go_at_call 14; (with_reducible refine st.out.mono ?_); rintro _ _ ⟨rfl, rfl⟩)
    | (go_at_call 24; (with_reducible refine nx.out.mono ?_); rintro _ _ ⟨rfl, rfl⟩)
    | (go_at_call 15; (with_reducible refine sn.out.mono ?_); rintro _ _ ⟨rfl, rfl⟩)
    | (go_at_call 25; (with_reducible refine by4.out.mono ?_); rintro _ w6 ⟨rfl, hb6⟩; obtain ⟨u0, u1, u2, u3⟩ := cells4 (hPD4.out.below hb6 hPD4.out.lt); have br6 := Lib.hid (hbr.out w6 (hv4.out.below hb6)); have hB6 := Lib.hid (grew hB4.out hb6); have hPD6 := Lib.hid (hPD4.out.below hb6 hPD4.out.lt); replace hb6 := Lib.hid hb6)
    | (go_at_call 35; (with_reducible refine br6.out.mono ?_); rintro _ w7 ⟨rfl, hb7⟩; obtain ⟨o0, o1, o2, o3⟩ := cells4 (hPD6.out.below hb7 hPD6.out.lt); have hB7 := Lib.hid (grew hB6.out hb7); replace hb7 := Lib.hid hb7))
  all_goals
    go_wp2_with fail
    go_ret
    exact ⟨rfl, hB7.out⟩

/-- What large tells. -/
def LargePost (w : World) (xs : List A19) (e : Ending) (w' : World) : Prop :=
  ∃ B, e = .returned (.bool B) ∧ (B = false → xs.length ≤ 40 ∧ ∀ x ∈ xs, x.ln ≤ 30) ∧ Below w.heap.size w w'
set_option maxRecDepth 100000 in
set_option maxHeartbeats 4000000 in
theorem large19_any (va : Option Addr) (n c : Nat) (xs : List A19) (w : World) (h : As19 w va n xs) :
    Calls Try.prog 8 #[.slice va n c] w (LargePost w xs) := by
  obtain ⟨hn, hat, hwf⟩ := h
  have hyes : Hid (∀ W, Below w.heap.size w W → LargePost w xs (.returned (.bool true)) W) := Lib.hid (fun W hb => ⟨true, rfl, (fun e => by cases e), hb⟩)
  by_cases hl : 40 < n
  · have hli : (40 : Int) < (n : Int) := by omega
    have hy := hyes.out w (Below.refl _ _)
    replace hy := Lib.hid hy
    clear hat hwf hn hyes
    go_enter Try.func8, Try.ntmps8
    go_wp2_with fail
    go_ret
    exact hy.out
  have hli : (n : Int) ≤ 40 := by omega
  have hno : Hid (∀ W, (∀ (i : Nat) (x : A19), i < n → xs[i]? = some x → x.ln ≤ 30) → Below w.heap.size w W → LargePost w xs (.returned (.bool false)) W) := Lib.hid (fun W h1 hb => ⟨false, rfl, fun _ => ⟨by omega, fun x hx => by
    obtain ⟨i, hi⟩ := List.getElem?_of_mem hx
    exact h1 i x (by rw [← hn]; exact (List.getElem?_eq_some_iff.1 hi).1) hi⟩, hb⟩)
  have hrow : Hid (∀ (i : Nat) (x : A19), xs[i]? = some x → ∀ W, Below w.heap.size w W → ∃ b o, va = some ⟨b, o, none⟩ ∧ W.cell? ⟨b, o + i * 4, none⟩ = some (.int .i64 x.k) ∧ W.cell? ⟨b, o + i * 4 + 1, none⟩ = some (.int .i64 x.n) ∧ W.cell? ⟨b, o + i * 4 + 2, none⟩ = some (.int .i64 x.m) ∧ W.cell? ⟨b, o + i * 4 + 3, none⟩ = some (.slice x.la x.ln x.lc)) := Lib.hid (fun i x hx W hb => by
    obtain ⟨b, o, e, h1, h2⟩ := hat i x hx
    have k := fun j v (hj : (a19L x)[j]? = some v) => (World.cell?_of_block (a := ⟨b, o + i * 4 + j, none⟩) (hb.block b h1)).trans (h2 j v hj)
    exact ⟨b, o, e, k 0 _ rfl, k 1 _ rfl, k 2 _ rfl, k 3 _ rfl⟩)
  have hin : Hid (∀ (i : Nat) (x : A19), xs[i]? = some x → A19In w x) := Lib.hid (fun i x hx => hwf x (List.mem_of_getElem? hx))
  have hlen := Lib.hid hn
  clear hat hwf hn
  go_enter Try.func8, Try.ntmps8
  go_wp2_with fail
  go_loopg [12] n (fun ga i wr => ∃ a : Nat, a ≤ n ∧ n ≤ a + ga ∧ i = .int .i64 (a : Int) ∧ Hid ((∀ (i : Nat) (x : A19), i < a → xs[i]? = some x → x.ln ≤ 30) ∧ Below w.heap.size w wr))
  case atStart => exact ⟨0, by omega, by omega, rfl, Lib.hid ⟨fun i x hi => absurd hi (Nat.not_lt_zero _), Below.refl _ _⟩⟩
  case round =>
    obtain ⟨a, ha, hg, rfl, hrel⟩ := hrel
    generalize wr = wo at *
    generalize gk = gout at *
    by_cases hlt : a < n
    · obtain ⟨x, hx⟩ : ∃ x, xs[a]? = some x := ⟨_, List.getElem?_eq_getElem (by have := hlen.out; omega)⟩
      obtain ⟨b, o, rfl, c0, c1, c2, c3⟩ := hrow.out a x hx wo hrel.out.2
      have hxi := hin.out a x hx
      obtain ⟨xk, xn, xm, xla, M, xlc, xrs⟩ := x
      dsimp only at c0 c1 c2 c3 hxi
      obtain ⟨W1, hW1⟩ : ∃ W1, Hid (W1 = wo.alloc (.cells #[.int .i64 xk, .int .i64 xn, .int .i64 xm, .slice xla M xlc] 31)) := ⟨_, Lib.hid rfl⟩
      have hb1 : Below wo.heap.size wo W1 := by rw [hW1.out]; exact grewAlloc (Below.refl _ _) _
      have hX1 : Whole W1 wo.heap.size 31 [.int .i64 xk, .int .i64 xn, .int .i64 xm, .slice xla M xlc] := by rw [hW1.out]; exact Whole.new wo _ _
      obtain ⟨xb, hxb⟩ : ∃ xb, Hid (wo.heap.size = xb) := ⟨_, Lib.hid rfl⟩
      rw [hxb.out] at hX1
      have y3 : W1.cell? ⟨xb, 3, none⟩ = some (.slice xla M xlc) := hX1.cell 3
      have hB1 := Lib.hid (grew hrel.out.2 hb1)
      have hki : (a : Int) < (n : Int) := by omega
      have hnext : Hid (M ≤ 30 → ∀ (i : Nat) (y : A19), i < a + 1 → xs[i]? = some y → y.ln ≤ 30) := Lib.hid (fun e i y hi hy => by
        by_cases h5 : i < a
        · exact hrel.out.1 i y h5 hy
        · obtain rfl : i = a := by omega
          rw [hx] at hy; cases hy; exact e)
      have hri := Lib.hid hxi.l.at_
      have hrl := Lib.hid hxi.l.len
      replace hX1 := Lib.hid hX1
      replace hx := Lib.hid hx
      clear hrel hb1 hxi
      go_upto_region 6 with fail
      rw [← show W1 = _ from hW1.out, hxb.out]
      clear hW1 hxb c0 c1 c2 c3
      by_cases hl2 : 30 < M
      · have hl3 : (30 : Int) < (M : Int) := by omega
        have hy := hyes.out W1 hB1.out
        replace hy := Lib.hid hy
        go_wp2_with fail
        go_ret
        exact hy.out
      · have hl3 : (M : Int) ≤ 30 := by omega
        have hnx := Lib.hid (hnext.out (by omega))
        go_wp2_with fail
        go_loopg [23] M (fun ga i wr => ∃ e : Nat, e ≤ M ∧ M ≤ e + ga ∧ i = .int .i64 (e : Int) ∧ Hid (Below w.heap.size w wr))
        case atStart => exact ⟨0, by omega, by omega, rfl, hB1⟩
        case round =>
          obtain ⟨e, he, hg2, rfl, hb⟩ := hrel
          generalize wr = wi at *
          by_cases hlt2 : e < M
          · obtain ⟨r, hr⟩ : ∃ r, xrs[e]? = some r := ⟨_, List.getElem?_eq_getElem (by have := hrl.out; omega)⟩
            obtain ⟨b2, o2, rfl, d0, d1, d2, d3, d4, d5, d6, d7⟩ := (hri.out.below hb.out).get hr
            have hB2 := Lib.hid (grewAlloc hb.out (.cells #[.int .i64 r.off, .int .i64 r.tick, .string r.key, .string r.val, .bool r.gone, .int .i64 r.prod, .int .i64 r.seq, .int .i64 r.frm] 40))
            have hki2 : (e : Int) < (M : Int) := by omega
            obtain ⟨k, hk⟩ : ∃ k, Hid (r.key = k) := ⟨_, Lib.hid rfl⟩
            obtain ⟨v, hv⟩ : ∃ k, Hid (r.val = k) := ⟨_, Lib.hid rfl⟩
            rw [hk.out] at d2 hB2
            rw [hv.out] at d3 hB2
            have hy := Lib.hid (hyes.out _ hB2.out)
            replace hr := Lib.hid hr
            by_cases q1 : 300 < k.size
            · have q2 : (300 : Int) < (k.size : Int) := by omega
              go_wp2_with fail
              go_ret
              exact hy.out
            · have q2 : (k.size : Int) ≤ 300 := by omega
              by_cases q3 : 300 < v.size
              · have q4 : (300 : Int) < (v.size : Int) := by omega
                go_wp2_with fail
                go_ret
                exact hy.out
              · have q4 : (v.size : Int) ≤ 300 := by omega
                go_wp2_with fail
                go_roundg (gk - 1)
                case measure => omega
                case rel => exact ⟨e + 1, by omega, by omega, by go_num, hB2⟩
          · obtain rfl : e = M := by omega
            go_wp2_with fail
            go_roundg (gout - 1)
            case measure => omega
            case rel => exact ⟨a + 1, by omega, by omega, by go_num, Lib.hid ⟨hnx.out, hb.out⟩⟩
    · obtain rfl : a = n := by omega
      have hy := Lib.hid (hno.out wo hrel.out.1 hrel.out.2)
      clear hrel
      go_wp2_with fail
      go_ret
      exact hy.out
end Go.Proofs.Ytahljbjgenepaaa.W
