/- Package release: Last, Done; which releases may be; Make and Finish. -/
import Derived.Test.YtgogackkeodciaaRlE
namespace Go.Proofs.Ytgogackkeodciaa.W
open Go.RowKit Go.Sort
open Go.Proofs.Ytgogackkeodciaa.M Go.Proofs.Ytgogackkeodciaa.D Go.Proofs.Ytgogackkeodciaa.Z
set_option linter.unusedVariables false
set_option linter.unusedSimpArgs false

theorem mayPlace25_yes (s : ByteArray) (p : Int) (w : World) (hn : nameB s = true) (hp : 0 ≤ p ∧ p ≤ 3) : Calls Try.prog 90 #[.agg #[.string s, .int .i64 p]] w fun e w' => e = .returned (.bool true) ∧ Below w.heap.size w w' := by
  have h1 := fun W => name22_any s W
  rw [hn] at h1
  have h2 := fun W => within25_any p 0 3 W
  rw [decide_eq_true hp] at h2
  replace h1 := Lib.hid h1
  replace h2 := Lib.hid h2
  have hb := Lib.hid (grewAlloc (Below.refl w.heap.size w) (.cells #[.string s, .int .i64 p] 24))
  clear hp
  go_enter Try.func90, Try.ntmps90
  go_wp2_with fail
  refine (h1.out _).mono ?_
  rintro _ w1 ⟨rfl, rfl⟩
  go_wp2_with fail
  refine (h2.out _).mono ?_
  rintro _ w1 ⟨rfl, rfl⟩
  go_wp2_with fail
  go_ret
  exact ⟨rfl, hb.out⟩
theorem done25_any (lb : Nat) (dn : Int) (x : Value) (w : World) (h : Whole w lb 123 [.int .i64 dn, x]) : Calls Try.prog 32 #[.pointer (some ⟨lb, 0, none⟩)] w fun e w' => e = .returned (.int .i64 dn) ∧ w = w' := by
  have c0 : w.cell? ⟨lb, 0, none⟩ = some (.int .i64 dn) := h.cell 0
  clear h
  go_enter Try.func32, Try.ntmps32
  go_wp2_with fail
  go_ret
  exact ⟨rfl, rfl⟩
theorem last25_any (lb : Nat) (dn : Int) (A : Option Addr) (n c : Nat) (w : World) (h : Whole w lb 123 [.int .i64 dn, .slice A n c]) (h0 : 0 ≤ dn) (h1 : dn + n ≤ 9223372036854775807) : Calls Try.prog 31 #[.pointer (some ⟨lb, 0, none⟩)] w fun e w' => e = .returned (.int .i64 (dn + n)) ∧ Below w.heap.size w w' := by
  have c0 : ∀ W, Below w.heap.size w W → W.cell? ⟨lb, 0, none⟩ = some (.int .i64 dn) := fun W hb => (h.below hb h.lt).cell 0
  have c1 : ∀ W, Below w.heap.size w W → W.cell? ⟨lb, 1, none⟩ = some (.slice A n c) := fun W hb => (h.below hb h.lt).cell 1
  have hw : IntKind.i64.wrap (dn + (n : Int)) = dn + (n : Int) := by rw [IntWalk.i64_in _ (by omega)]
  have s10 : Below w.heap.size w w := Below.refl _ _
  have s10d : Below w.heap.size w w.drew := (Below.refl _ _).drew
  clear h
  go_enter Try.func31, Try.ntmps31
  go_upto_region 3 with fail
  go_region_held3 (fun w' => Below w.heap.size w w') (with_reducible first | assumption) (fail)
  all_goals
    go_wp2_with fail
    go_ret
    exact ⟨rfl, by assumption⟩
set_option maxRecDepth 100000 in
set_option maxHeartbeats 4000000 in
theorem may25_yes (num rule label : Int) (st : ByteArray) (sp off : Int) (tt : ByteArray) (tp : Int) (k v : ByteArray) (g : Bool) (w : World) (hr : 0 ≤ rule ∧ rule ≤ 15) (hlb : 0 ≤ label ∧ label ≤ 5) (hst : nameB st = true) (hsp : 0 ≤ sp ∧ sp ≤ 3) (hof : 0 ≤ off ∧ off ≤ 1048576) (htt : nameB tt = true) (htp : 0 ≤ tp ∧ tp ≤ 3) (hp : rightF [⟨k, v, g⟩] = 0) :
    Calls Try.prog 61 #[.agg #[.int .i64 num, .int .i64 rule, .int .i64 label, .string st, .int .i64 sp, .int .i64 off, .string tt, .int .i64 tp, .string k, .string v, .bool g]] w fun e w' => e = .returned (.bool true) ∧ Below w.heap.size w w' := by
  obtain ⟨V, hV⟩ : ∃ V, Hid (V = w.alloc (.cells #[.int .i64 num, .int .i64 rule, .int .i64 label, .string st, .int .i64 sp, .int .i64 off, .string tt, .int .i64 tp, .string k, .string v, .bool g] 67)) := ⟨_, Lib.hid rfl⟩
  have hB : Below w.heap.size w V := by rw [hV.out]; exact grewAlloc (Below.refl _ _) _
  have hP : Whole V w.heap.size 67 [.int .i64 num, .int .i64 rule, .int .i64 label, .string st, .int .i64 sp, .int .i64 off, .string tt, .int .i64 tp, .string k, .string v, .bool g] := by rw [hV.out]; exact Whole.new w _ _
  obtain ⟨pb, hpb⟩ : ∃ q, Hid (w.heap.size = q) := ⟨_, Lib.hid rfl⟩
  rw [hpb.out] at hP
  have k1 := fun W => within25_any rule 0 15 W
  rw [decide_eq_true hr] at k1
  have k2 := fun W => within25_any label 0 5 W
  rw [decide_eq_true hlb] at k2
  have k3 := fun W => within25_any off 0 1048576 W
  rw [decide_eq_true hof] at k3
  have k4 := Lib.hid (fun W => mayPlace25_yes st sp W hst hsp)
  have k5 := Lib.hid (fun W => mayPlace25_yes tt tp W htt htp)
  have k6 := Lib.hid (fun W : World => by
    have := right_any (some ⟨W.heap.size, 0, none⟩) 1 [⟨k, v, g⟩] (W.alloc (.cells #[.string k, .string v, .bool g] 62)) (prAt_whole25 (Whole.new W 62 [.string k, .string v, .bool g])) (by simp)
    rw [hp] at this
    exact this)
  replace k1 := Lib.hid k1
  replace k2 := Lib.hid k2
  replace k3 := Lib.hid k3
  have p1 : V.cell? ⟨pb, 1, none⟩ = some (.int .i64 rule) := hP.cell 1
  have p2 : V.cell? ⟨pb, 2, none⟩ = some (.int .i64 label) := hP.cell 2
  have p5 : V.cell? ⟨pb, 5, none⟩ = some (.int .i64 off) := hP.cell 5
  have q3 : V.cell? ⟨pb, 3, none⟩ = some (.string st) := hP.cell 3
  have q4 : V.cell? ⟨pb, 4, none⟩ = some (.int .i64 sp) := hP.cell 4
  replace hP := Lib.hid hP
  replace hB := Lib.hid hB
  clear hr hlb hst hsp hof htt htp hp
  go_enter Try.func61, Try.ntmps61
  go_upto_region 1 with fail
  rw [← show V = _ from hV.out, hpb.out]
  clear hV hpb
  go_wp2_with fail
  refine (k1.out _).mono ?_
  rintro _ w1 ⟨rfl, rfl⟩
  go_wp2_with fail
  refine (k2.out _).mono ?_
  rintro _ w1 ⟨rfl, rfl⟩
  go_wp2_with fail
  refine (k3.out _).mono ?_
  rintro _ w1 ⟨rfl, rfl⟩
  go_wp2_with fail
  refine (k4.out _).mono ?_
  rintro _ w1 ⟨rfl, b1⟩
  have hP1 := hP.out.below b1 hP.out.lt
  have r6 : w1.cell? ⟨pb, 6, none⟩ = some (.string tt) := hP1.cell 6
  have r7 : w1.cell? ⟨pb, 7, none⟩ = some (.int .i64 tp) := hP1.cell 7
  have s11 : Hid (Below V.heap.size V w1) := Lib.hid b1
  clear hP1 p1 p2 p5 q3 q4 b1 k1 k2 k3 k4
  go_wp2_with fail
  refine (k5.out _).mono ?_
  rintro _ w2 ⟨rfl, b2⟩
  have s12 := grew s11.out b2
  have hP2 := hP.out.below s12 hP.out.lt
  have r8 : w2.cell? ⟨pb, 8, none⟩ = some (.string k) := hP2.cell 8
  have r9 : w2.cell? ⟨pb, 9, none⟩ = some (.string v) := hP2.cell 9
  have r10 : w2.cell? ⟨pb, 10, none⟩ = some (.bool g) := hP2.cell 10
  replace s12 := Lib.hid s12
  clear hP2 r6 r7 b2 k5
  go_wp2_with fail
  refine (k6.out _).mono ?_
  rintro _ w3 ⟨rfl, b3⟩
  have s13 := Lib.hid (grew hB.out (grew s12.out (grew (grewAlloc (Below.refl _ _) _) b3)))
  clear r8 r9 r10 b3 k6
  go_wp2_with fail
  go_ret
  exact ⟨rfl, s13.out⟩
end Go.Proofs.Ytgogackkeodciaa.W
