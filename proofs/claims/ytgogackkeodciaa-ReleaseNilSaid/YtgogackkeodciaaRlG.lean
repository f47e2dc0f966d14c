/- Package release: Make and Finish. -/
import Derived.Test.YtgogackkeodciaaRlF
namespace Go.Proofs.Ytgogackkeodciaa.W
open Go.RowKit Go.Sort
open Go.Proofs.Ytgogackkeodciaa.M Go.Proofs.Ytgogackkeodciaa.D Go.Proofs.Ytgogackkeodciaa.Z
set_option linter.unusedVariables false
set_option linter.unusedSimpArgs false

set_option maxRecDepth 100000 in
set_option maxHeartbeats 4000000 in
theorem make25_yes (lb : Nat) (dn m : Int) (A : Option Addr) (n c : Nat) (num rule label : Int) (st : ByteArray) (sp off : Int) (tt : ByteArray) (tp : Int) (k v : ByteArray) (g : Bool) (w : World) (h : Whole w lb 123 [.int .i64 dn, .slice A n c]) (h0 : 0 ≤ dn) (h1 : dn + n = m) (h2 : m < 1099511627776) (hr : 0 ≤ rule ∧ rule ≤ 15) (hlb : 0 ≤ label ∧ label ≤ 5) (hst : nameB st = true) (hsz : st.size ≤ 1000) (hsp : 0 ≤ sp ∧ sp ≤ 3) (hof : 0 ≤ off ∧ off ≤ 1048576) (htt : nameB tt = true) (htz : tt.size ≤ 1000) (htp : 0 ≤ tp ∧ tp ≤ 3) (hk : k.size ≤ 1000) (hv : v.size ≤ 1000) (hp : rightF [⟨k, v, g⟩] = 0) (hd : dig (digL k v g) < 18446744073709551616) (L : ByteArray) (hL : B (relE ⟨m + 1, rule, label, st, sp, off, tt, tp, k, v, g⟩) = L) :
    Calls Try.prog 27 #[.pointer (some ⟨lb, 0, none⟩), .agg #[.int .i64 num, .int .i64 rule, .int .i64 label, .string st, .int .i64 sp, .int .i64 off, .string tt, .int .i64 tp, .string k, .string v, .bool g]] w fun e w' => e = .returned (.tuple #[.agg #[.int .i64 1, .string L], .int .i64 0]) ∧ Below w.heap.size w w' := by
  obtain ⟨V, hV⟩ : ∃ V, Hid (V = (w.alloc (.cells #[.int .i64 num, .int .i64 rule, .int .i64 label, .string st, .int .i64 sp, .int .i64 off, .string tt, .int .i64 tp, .string k, .string v, .bool g] 67)).alloc (.cells #[.int .i64 0, .string ⟨#[]⟩] 33)) := ⟨_, Lib.hid rfl⟩
  have hB : Below w.heap.size w V := by rw [hV.out]; exact grewAlloc (grewAlloc (Below.refl _ _) _) _
  have hP : Whole V w.heap.size 67 [.int .i64 num, .int .i64 rule, .int .i64 label, .string st, .int .i64 sp, .int .i64 off, .string tt, .int .i64 tp, .string k, .string v, .bool g] := by rw [hV.out]; exact (Whole.new w _ _).alloc _
  have hR : Whole V (w.heap.size + 1) 33 [.int .i64 0, .string ⟨#[]⟩] := by
    rw [hV.out]
    have := Whole.new (w.alloc (.cells #[.int .i64 num, .int .i64 rule, .int .i64 label, .string st, .int .i64 sp, .int .i64 off, .string tt, .int .i64 tp, .string k, .string v, .bool g] 67)) 33 [.int .i64 0, .string ⟨#[]⟩]
    simpa using this
  obtain ⟨pb, hpb⟩ : ∃ q, Hid (w.heap.size = q) := ⟨_, Lib.hid rfl⟩
  obtain ⟨fb, hfb⟩ : ∃ q, Hid (w.heap.size + 1 = q) := ⟨_, Lib.hid rfl⟩
  rw [hpb.out] at hP
  rw [hfb.out] at hR
  have hfw : w.heap.size ≤ fb := by have := hfb.out; omega
  have hpw : w.heap.size ≤ pb := by have := hpb.out; omega
  have hpf : pb ≠ fb := by have := hpb.out; have := hfb.out; omega
  have hlw : lb ≠ pb := by have := h.lt; omega
  have hG := h.below hB h.lt
  have k1 := Lib.hid (may25_yes num rule label st sp off tt tp k v g V hr hlb hst hsp hof htt htp hp)
  have k2 := Lib.hid (fun W (hb : Below V.heap.size V W) => by
    have := last25_any lb dn A n c W (hG.below hb hG.lt) h0 (by omega)
    rw [h1] at this
    exact this)
  have k3 := fun W => layRelease25_any (m + 1) rule label st sp off tt tp k v g W (by omega) (by omega) (by omega) hsz (by omega) (by omega) htz (by omega) hk hv hd
  rw [hL] at k3
  replace k3 := Lib.hid k3
  have e1 : (m == 1099511627776) = false := by simp; omega
  have e2 : decide (m = 1099511627776) = false := decide_eq_false (by omega)
  have e3 : m ≠ 1099511627776 := by omega
  have hw : IntKind.i64.wrap (m + 1) = m + 1 := by rw [IntWalk.i64_in _ (by omega)]
  have p0 : V.cell? ⟨pb, 0, none⟩ = some (.int .i64 num) := hP.cell 0
  have p1 : V.cell? ⟨pb, 1, none⟩ = some (.int .i64 rule) := hP.cell 1
  have p2 : V.cell? ⟨pb, 2, none⟩ = some (.int .i64 label) := hP.cell 2
  have p3 : V.cell? ⟨pb, 3, none⟩ = some (.string st) := hP.cell 3
  have p4 : V.cell? ⟨pb, 4, none⟩ = some (.int .i64 sp) := hP.cell 4
  have p5 : V.cell? ⟨pb, 5, none⟩ = some (.int .i64 off) := hP.cell 5
  have p6 : V.cell? ⟨pb, 6, none⟩ = some (.string tt) := hP.cell 6
  have p7 : V.cell? ⟨pb, 7, none⟩ = some (.int .i64 tp) := hP.cell 7
  have p8 : V.cell? ⟨pb, 8, none⟩ = some (.string k) := hP.cell 8
  have p9 : V.cell? ⟨pb, 9, none⟩ = some (.string v) := hP.cell 9
  have p10 : V.cell? ⟨pb, 10, none⟩ = some (.bool g) := hP.cell 10
  replace hP := Lib.hid hP
  replace hR := Lib.hid hR
  replace hB := Lib.hid hB
  clear hG h h0 h1 h2 hr hlb hst hsz hsp hof htt htz htp hk hv hp hd hL
  go_enter Try.func27, Try.ntmps27
  go_upto_region 1 with fail
  rw [← show V = _ from hV.out, hfb.out, hpb.out]
  clear hV hpb hfb
  go_wp2_with fail
  refine k1.out.mono ?_
  rintro _ w1 ⟨rfl, b1⟩
  clear p0 p1 p2 p3 p4 p5 p6 p7 p8 p9 p10 k1
  have s11 := Lib.hid b1
  clear b1
  go_wp2_with fail
  refine (k2.out _ s11.out).mono ?_
  rintro _ w2 ⟨rfl, b2⟩
  have s12 := Lib.hid (grew s11.out b2)
  clear b2 s11
  go_wp2_with fail
  refine (k2.out _ s12.out).mono ?_
  rintro _ w3 ⟨rfl, b3⟩
  have s13 := grew s12.out b3
  have hP3 := hP.out.below s13 hP.out.lt
  have z0 := hP3.frozen 0
  have y0 : w3.cell? ⟨pb, 0, none⟩ = some (.int .i64 num) := hP3.cell 0
  obtain ⟨w4, hw4⟩ : ∃ x, Hid (x = w3.setCell ⟨pb, 0, none⟩ (.int .i64 (m + 1))) := ⟨_, Lib.hid rfl⟩
  have hP4 : Whole w4 pb 67 [.int .i64 (m + 1), .int .i64 rule, .int .i64 label, .string st, .int .i64 sp, .int .i64 off, .string tt, .int .i64 tp, .string k, .string v, .bool g] := by rw [hw4.out]; exact hP3.store 0 [.int .i64 (m + 1)] (by simp)
  have hR4 : Whole w4 fb 33 [.int .i64 0, .string ⟨#[]⟩] := by rw [hw4.out]; exact (hR.out.below s13 hR.out.lt).far (Ne.symm hpf) 0 [.int .i64 (m + 1)]
  have hB4 : Below w.heap.size w w4 := by rw [hw4.out]; exact (grew hB.out s13).setCell hpw _
  have q0 : w4.cell? ⟨pb, 0, none⟩ = some (.int .i64 (m + 1)) := hP4.cell 0
  have q1 : w4.cell? ⟨pb, 1, none⟩ = some (.int .i64 rule) := hP4.cell 1
  have q2 : w4.cell? ⟨pb, 2, none⟩ = some (.int .i64 label) := hP4.cell 2
  have q3 : w4.cell? ⟨pb, 3, none⟩ = some (.string st) := hP4.cell 3
  have q4 : w4.cell? ⟨pb, 4, none⟩ = some (.int .i64 sp) := hP4.cell 4
  have q5 : w4.cell? ⟨pb, 5, none⟩ = some (.int .i64 off) := hP4.cell 5
  have q6 : w4.cell? ⟨pb, 6, none⟩ = some (.string tt) := hP4.cell 6
  have q7 : w4.cell? ⟨pb, 7, none⟩ = some (.int .i64 tp) := hP4.cell 7
  have q8 : w4.cell? ⟨pb, 8, none⟩ = some (.string k) := hP4.cell 8
  have q9 : w4.cell? ⟨pb, 9, none⟩ = some (.string v) := hP4.cell 9
  have q10 : w4.cell? ⟨pb, 10, none⟩ = some (.bool g) := hP4.cell 10
  replace hR4 := Lib.hid hR4
  replace hB4 := Lib.hid hB4
  clear hP4 hP3 s13 s12 b3 k2 hP hR hB
  go_upto_region 6 with fail
  rw [← show w4 = _ from hw4.out]
  clear hw4 y0 z0
  go_wp2_with fail
  refine (k3.out _).mono ?_
  rintro _ w5 ⟨rfl, b5⟩
  have hR9 := hR4.out.below b5 hR4.out.lt
  have r0 : w5.cell? ⟨fb, 0, none⟩ = some (.int .i64 0) := hR9.cell 0
  have r1 : w5.cell? ⟨fb, 1, none⟩ = some (.string ⟨#[]⟩) := hR9.cell 1
  have f0 := hR9.frozen 0
  have f1 := hR9.frozen 1
  have hend : Hid (Whole (w5.setCells fb 0 [.int .i64 1, .string L]) fb 33 [.int .i64 1, .string L]) := Lib.hid (whole_all hR9 rfl)
  have hB9 : Hid (Below w.heap.size w (w5.setCells fb 0 [.int .i64 1, .string L])) := Lib.hid (below_store (grew hB4.out b5) hfw (Nat.le_refl _) 0 [.int .i64 1, .string L])
  clear hR9 b5 hR4 hB4 k3 q0 q1 q2 q3 q4 q5 q6 q7 q8 q9 q10
  go_wp2_with fail
  exact bodyPost_ret (result_cell_tmp Try.results27 rfl rfl hend.out.range Try.underlying33 rfl sizeFr25) rfl ⟨rfl, hB9.out⟩
set_option maxRecDepth 100000 in
set_option maxHeartbeats 4000000 in
theorem finish25_yes (lb : Nat) (dn m x : Int) (A : Option Addr) (n c : Nat) (w : World) (h : Whole w lb 123 [.int .i64 dn, .slice A n c]) (h0 : 0 ≤ dn) (h1 : dn + n = m) (h2 : m ≤ 1099511627776) (hx : dn ≤ x ∧ x ≤ m) (L : ByteArray) (hL : B (chain x) = L) :
    Calls Try.prog 28 #[.pointer (some ⟨lb, 0, none⟩), .int .i64 x] w fun e w' => e = .returned (.tuple #[.agg #[.int .i64 2, .string L], .int .i64 0]) ∧ Below w.heap.size w w' := by
  obtain ⟨V, hV⟩ : ∃ V, Hid (V = w.alloc (.cells #[.int .i64 0, .string ⟨#[]⟩] 33)) := ⟨_, Lib.hid rfl⟩
  have hB : Below w.heap.size w V := by rw [hV.out]; exact grewAlloc (Below.refl _ _) _
  have hR : Whole V w.heap.size 33 [.int .i64 0, .string ⟨#[]⟩] := by rw [hV.out]; exact Whole.new w _ _
  obtain ⟨fb, hfb⟩ : ∃ q, Hid (w.heap.size = q) := ⟨_, Lib.hid rfl⟩
  rw [hfb.out] at hR
  have hfw : w.heap.size ≤ fb := by have := hfb.out; omega
  have hG := h.below hB h.lt
  have k1 := Lib.hid (done25_any lb dn (.slice A n c) V hG)
  have k2 := last25_any lb dn A n c V hG h0 (by omega)
  rw [h1] at k2
  replace k2 := Lib.hid k2
  have k3 := fun W => within25_any x dn m W
  rw [decide_eq_true hx] at k3
  replace k3 := Lib.hid k3
  have k4 := fun W => layNumber25_any 2 x W (by omega) (by omega)
  rw [hL] at k4
  replace k4 := Lib.hid k4
  replace hR := Lib.hid hR
  replace hB := Lib.hid hB
  clear hG h h0 h1 h2 hx hL
  go_enter Try.func28, Try.ntmps28
  go_upto_region 1 with fail
  rw [← show V = _ from hV.out, hfb.out]
  clear hV hfb
  go_wp2_with fail
  refine k1.out.mono ?_
  rintro _ w1 ⟨rfl, rfl⟩
  go_wp2_with fail
  refine k2.out.mono ?_
  rintro _ w2 ⟨rfl, b2⟩
  have s12 := Lib.hid b2
  clear b2
  go_wp2_with fail
  refine (k3.out _).mono ?_
  rintro _ w1 ⟨rfl, rfl⟩
  go_wp2_with fail
  refine (k4.out _).mono ?_
  rintro _ w5 ⟨rfl, b5⟩
  have s15 := grew s12.out b5
  have hR9 := hR.out.below s15 hR.out.lt
  have r0 : w5.cell? ⟨fb, 0, none⟩ = some (.int .i64 0) := hR9.cell 0
  have r1 : w5.cell? ⟨fb, 1, none⟩ = some (.string ⟨#[]⟩) := hR9.cell 1
  have f0 := hR9.frozen 0
  have f1 := hR9.frozen 1
  have hend : Hid (Whole (w5.setCells fb 0 [.int .i64 2, .string L]) fb 33 [.int .i64 2, .string L]) := Lib.hid (whole_all hR9 rfl)
  have hB9 : Hid (Below w.heap.size w (w5.setCells fb 0 [.int .i64 2, .string L])) := Lib.hid (below_store (grew hB.out s15) hfw (Nat.le_refl _) 0 [.int .i64 2, .string L])
  clear hR9 b5 hR hB s15 s12 k1 k2 k3 k4
  go_wp2_with fail
  exact bodyPost_ret (result_cell_tmp Try.results28 rfl rfl hend.out.range Try.underlying33 rfl sizeFr25) rfl ⟨rfl, hB9.out⟩
end Go.Proofs.Ytgogackkeodciaa.W
