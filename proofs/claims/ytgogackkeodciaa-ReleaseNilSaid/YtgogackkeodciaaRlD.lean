/- Package release: reading an entry: place, pair, release. -/
import Derived.Test.YtgogackkeodciaaRlC
import Derived.Deep.Cut
namespace Go.Proofs.Ytgogackkeodciaa.W
open Go.RowKit Go.Sort
open Go.Proofs.Ytgogackkeodciaa.M Go.Proofs.Ytgogackkeodciaa.D Go.Proofs.Ytgogackkeodciaa.Z
set_option linter.unusedVariables false
set_option linter.unusedSimpArgs false

theorem sizePl25 : (Try.prog.info? 24).map (·.size) = some 2 := by kernel_rfl
theorem sizePr25 : (Try.prog.info? 62).map (·.size) = some 3 := by kernel_rfl
theorem sizeRe25 : (Try.prog.info? 67).map (·.size) = some 11 := by kernel_rfl
theorem sizeFr25 : (Try.prog.info? 33).map (·.size) = some 2 := by kernel_rfl
abbrev pR0 : ByteArray := ⟨#[1, 1, 2, 1, 115, 0, 3, 1, 116, 1, 175, 112, 106, 143, 187, 36, 52, 234, 0, 1, 107, 1, 118]⟩
abbrev pR1 : ByteArray := ⟨#[1, 2, 1, 115, 0, 3, 1, 116, 1, 175, 112, 106, 143, 187, 36, 52, 234, 0, 1, 107, 1, 118]⟩
abbrev pR2 : ByteArray := ⟨#[2, 1, 115, 0, 3, 1, 116, 1, 175, 112, 106, 143, 187, 36, 52, 234, 0, 1, 107, 1, 118]⟩
abbrev pR3 : ByteArray := ⟨#[1, 115, 0, 3, 1, 116, 1, 175, 112, 106, 143, 187, 36, 52, 234, 0, 1, 107, 1, 118]⟩
abbrev pR4 : ByteArray := ⟨#[3, 1, 116, 1, 175, 112, 106, 143, 187, 36, 52, 234, 0, 1, 107, 1, 118]⟩
abbrev pR5 : ByteArray := ⟨#[1, 116, 1, 175, 112, 106, 143, 187, 36, 52, 234, 0, 1, 107, 1, 118]⟩
abbrev pR6 : ByteArray := ⟨#[175, 112, 106, 143, 187, 36, 52, 234, 0, 1, 107, 1, 118]⟩
abbrev pR3m : ByteArray := ⟨#[0, 3, 1, 116, 1, 175, 112, 106, 143, 187, 36, 52, 234, 0, 1, 107, 1, 118]⟩
abbrev pR5m : ByteArray := ⟨#[1, 175, 112, 106, 143, 187, 36, 52, 234, 0, 1, 107, 1, 118]⟩
abbrev pR7 : ByteArray := ⟨#[0, 1, 107, 1, 118]⟩
abbrev pR8 : ByteArray := ⟨#[1, 107, 1, 118]⟩
abbrev pR9 : ByteArray := ⟨#[1, 118]⟩
set_option maxRecDepth 100000 in
set_option maxHeartbeats 4000000 in
theorem place25_any (rb : Nat) (s b c t : ByteArray) (v : Int) (q1 q2 : Nat) (w : World) (h : Whole w rb 117 [.string s]) (hs : s.size ≤ 100000) (hu : untx s = (t, (q1 : Int), 0)) (hq1 : q1 ≤ s.size) (hb : s.extract q1 s.size = b) (hs2 : b.size ≤ 100000) (hu2 : unch b.data.toList = (v, (q2 : Int), 0)) (hq2 : q2 ≤ b.size) (hv : v ≤ 9223372036854775807) (h0 : 0 ≤ v) (hc : b.extract q2 b.size = c) :
    Calls Try.prog 95 #[.pointer (some ⟨rb, 0, none⟩)] w fun e w' => e = .returned (.agg #[.string t, .int .i64 v]) ∧ Whole w' rb 117 [.string c] ∧ Kept (fun q => q = rb) w w' := by
  obtain ⟨V, hV⟩ : ∃ V, Hid (V = w.alloc (.cells #[.string ⟨#[]⟩, .int .i64 0] 24)) := ⟨_, Lib.hid rfl⟩
  have hB : Below w.heap.size w V := by rw [hV.out]; exact grewAlloc (Below.refl _ _) _
  have hO : Whole V w.heap.size 24 [.string ⟨#[]⟩, .int .i64 0] := by rw [hV.out]; exact Whole.new w _ _
  obtain ⟨ob, hob⟩ : ∃ q, Hid (w.heap.size = q) := ⟨_, Lib.hid rfl⟩
  rw [hob.out] at hO
  have hob2 : w.heap.size ≤ ob := by have := hob.out; omega
  have hne : ob ≠ rb := by have := hob.out; have := h.lt; omega
  have hp := Lib.hid (text25_any rb s t b q1 V (h.below hB h.lt) hs hu hq1 hb)
  have hn := Lib.hid (fun W (hW : Whole W rb 117 [.string b]) => number25_any rb b c v q2 W hW hs2 hu2 hq2 hv h0 hc)
  have hkV : Hid (Kept (fun q => q = rb) w V) := Lib.hid (Kept.of_below hB)
  replace hO := Lib.hid hO
  clear h hB hu hu2 hb hc hs hs2 hq1 hq2 hv h0
  go_enter Try.func95, Try.ntmps95
  go_upto_region 1 with fail
  rw [← show V = _ from hV.out, hob.out]
  clear hV hob
  go_wp2_with fail
  refine hp.out.mono ?_
  rintro _ w1 ⟨rfl, hW1, hk1⟩
  replace hn := Lib.hid (hn.out _ hW1)
  replace hO := Lib.hid (hO.out.of_kept hk1 hne)
  replace hk1 := Lib.hid (hkV.out.trans hk1)
  clear hW1 hkV hp
  go_wp2_with fail
  refine hn.out.mono ?_
  rintro _ w2 ⟨rfl, hW2, hk2⟩
  replace hO := hO.out.of_kept hk2 hne
  have r0 : w2.cell? ⟨ob, 0, none⟩ = some (.string ⟨#[]⟩) := hO.cell 0
  have r1 : w2.cell? ⟨ob, 1, none⟩ = some (.int .i64 0) := hO.cell 1
  have f0 := hO.frozen 0
  have f1 := hO.frozen 1
  have hend : Hid (Whole (w2.setCells ob 0 [.string t, .int .i64 v]) ob 24 [.string t, .int .i64 v]) := Lib.hid (whole_all hO rfl)
  have hW9 : Hid (Whole (w2.setCells ob 0 [.string t, .int .i64 v]) rb 117 [.string c]) := Lib.hid (hW2.far (Ne.symm hne) 0 _)
  have hk9 : Hid (Kept (fun q => q = rb) w (w2.setCells ob 0 [.string t, .int .i64 v])) := Lib.hid ((hk1.out.trans hk2).setCells (.inr hob2) 0 _)
  clear hO hW2 hk2 hk1 hn
  go_wp2_with fail
  exact bodyPost_ret (result_cell Try.results95 rfl hend.out.range Try.underlying24 rfl sizePl25) rfl ⟨rfl, hW9.out, hk9.out⟩
set_option maxRecDepth 100000 in
set_option maxHeartbeats 4000000 in
theorem pair25_A (rb : Nat) (w : World) (h : Whole w rb 117 [.string pR6]) :
    Calls Try.prog 96 #[.pointer (some ⟨rb, 0, none⟩)] w fun e w' => e = .returned (.agg #[.string ⟨#[107]⟩, .string ⟨#[118]⟩, .bool false]) ∧ Whole w' rb 117 [.string ⟨#[]⟩] ∧ Kept (fun q => q = rb) w w' := by
  obtain ⟨V, hV⟩ : ∃ V, Hid (V = w.alloc (.cells #[.string ⟨#[]⟩, .string ⟨#[]⟩, .bool false] 62)) := ⟨_, Lib.hid rfl⟩
  have hB : Below w.heap.size w V := by rw [hV.out]; exact grewAlloc (Below.refl _ _) _
  have hO : Whole V w.heap.size 62 [.string ⟨#[]⟩, .string ⟨#[]⟩, .bool false] := by rw [hV.out]; exact Whole.new w _ _
  obtain ⟨ob, hob⟩ : ∃ q, Hid (w.heap.size = q) := ⟨_, Lib.hid rfl⟩
  rw [hob.out] at hO
  have hob2 : w.heap.size ≤ ob := by have := hob.out; omega
  have hne : ob ≠ rb := by have := hob.out; have := h.lt; omega
  have hp1 := Lib.hid (pass25_any rb pR6 ⟨#[175, 112, 106, 143, 187, 36, 52, 234]⟩ pR7 8 V (h.below hB h.lt) (by decide) (by decide) (by decide +kernel) (by decide +kernel))
  have hp2 := Lib.hid (fun W (hW : Whole W rb 117 [.string pR7]) => pass25_any rb pR7 ⟨#[0]⟩ pR8 1 W hW (by decide) (by decide) (by decide +kernel) (by decide +kernel))
  have hp3 := Lib.hid (fun W (hW : Whole W rb 117 [.string pR8]) => text25_any rb pR8 ⟨#[107]⟩ pR9 2 W hW (by decide) (by decide +kernel) (by decide) (by decide +kernel))
  have hp4 := Lib.hid (fun W (hW : Whole W rb 117 [.string pR9]) => text25_any rb pR9 ⟨#[118]⟩ ⟨#[]⟩ 2 W hW (by decide) (by decide +kernel) (by decide) (by decide +kernel))
  have hkV : Hid (Kept (fun q => q = rb) w V) := Lib.hid (Kept.of_below hB)
  replace hO := Lib.hid hO
  clear h hB
  go_enter Try.func96, Try.ntmps96
  go_upto_region 1 with fail
  rw [← show V = _ from hV.out, hob.out]
  clear hV hob
  go_wp2_with fail
  refine hp1.out.mono ?_
  rintro _ w1 ⟨rfl, hW1, hk1⟩
  replace hp2 := Lib.hid (hp2.out _ hW1)
  replace hO := Lib.hid (hO.out.of_kept hk1 hne)
  replace hk1 := Lib.hid (hkV.out.trans hk1)
  clear hW1 hkV hp1
  go_wp2_with fail
  refine hp2.out.mono ?_
  rintro _ w2 ⟨rfl, hW2, hk2⟩
  replace hp3 := Lib.hid (hp3.out _ hW2)
  replace hO := Lib.hid (hO.out.of_kept hk2 hne)
  replace hk2 := Lib.hid (hk1.out.trans hk2)
  clear hW2 hk1 hp2
  go_wp2_with fail
  refine hp3.out.mono ?_
  rintro _ w3 ⟨rfl, hW3, hk3⟩
  replace hp4 := Lib.hid (hp4.out _ hW3)
  replace hO := Lib.hid (hO.out.of_kept hk3 hne)
  replace hk3 := Lib.hid (hk2.out.trans hk3)
  clear hW3 hk2 hp3
  go_wp2_with fail
  refine hp4.out.mono ?_
  rintro _ w4 ⟨rfl, hW4, hk4⟩
  replace hO := hO.out.of_kept hk4 hne
  have r0 : w4.cell? ⟨ob, 0, none⟩ = some (.string ⟨#[]⟩) := hO.cell 0
  have r1 : w4.cell? ⟨ob, 1, none⟩ = some (.string ⟨#[]⟩) := hO.cell 1
  have r2 : w4.cell? ⟨ob, 2, none⟩ = some (.bool false) := hO.cell 2
  have f0 := hO.frozen 0
  have f1 := hO.frozen 1
  have f2 := hO.frozen 2
  have hend : Hid (Whole (w4.setCells ob 0 [.string ⟨#[107]⟩, .string ⟨#[118]⟩, .bool false]) ob 62 [.string ⟨#[107]⟩, .string ⟨#[118]⟩, .bool false]) := Lib.hid (whole_all hO rfl)
  have hW9 : Hid (Whole (w4.setCells ob 0 [.string ⟨#[107]⟩, .string ⟨#[118]⟩, .bool false]) rb 117 [.string ⟨#[]⟩]) := Lib.hid (hW4.far (Ne.symm hne) 0 _)
  have hk9 : Hid (Kept (fun q => q = rb) w (w4.setCells ob 0 [.string ⟨#[107]⟩, .string ⟨#[118]⟩, .bool false])) := Lib.hid ((hk3.out.trans hk4).setCells (.inr hob2) 0 _)
  clear hO hW4 hk4 hk3 hp4
  go_wp2_with fail
  exact bodyPost_ret (result_cell Try.results96 rfl hend.out.range Try.underlying62 rfl sizePr25) rfl ⟨rfl, hW9.out, hk9.out⟩
set_option maxRecDepth 100000 in
set_option maxHeartbeats 4000000 in
theorem release25_A (rb : Nat) (w : World) (h : Whole w rb 117 [.string pR0]) :
    Calls Try.prog 66 #[.pointer (some ⟨rb, 0, none⟩)] w fun e w' => e = .returned (.agg #[.int .i64 1, .int .i64 1, .int .i64 2, .string ⟨#[115]⟩, .int .i64 0, .int .i64 3, .string ⟨#[116]⟩, .int .i64 1, .string ⟨#[107]⟩, .string ⟨#[118]⟩, .bool false]) ∧ Whole w' rb 117 [.string ⟨#[]⟩] ∧ Kept (fun q => q = rb) w w' := by
  obtain ⟨V, hV⟩ : ∃ V, Hid (V = w.alloc (.cells #[.int .i64 0, .int .i64 0, .int .i64 0, .string ⟨#[]⟩, .int .i64 0, .int .i64 0, .string ⟨#[]⟩, .int .i64 0, .string ⟨#[]⟩, .string ⟨#[]⟩, .bool false] 67)) := ⟨_, Lib.hid rfl⟩
  have hB : Below w.heap.size w V := by rw [hV.out]; exact grewAlloc (Below.refl _ _) _
  have hO : Whole V w.heap.size 67 [.int .i64 0, .int .i64 0, .int .i64 0, .string ⟨#[]⟩, .int .i64 0, .int .i64 0, .string ⟨#[]⟩, .int .i64 0, .string ⟨#[]⟩, .string ⟨#[]⟩, .bool false] := by rw [hV.out]; exact Whole.new w _ _
  obtain ⟨ob, hob⟩ : ∃ q, Hid (w.heap.size = q) := ⟨_, Lib.hid rfl⟩
  rw [hob.out] at hO
  have hob2 : w.heap.size ≤ ob := by have := hob.out; omega
  have hne : ob ≠ rb := by have := hob.out; have := h.lt; omega
  have hp1 := Lib.hid (fun W (hW : Whole W rb 117 [.string pR0]) => number25_any rb pR0 pR1 1 1 W hW (by decide) (by decide +kernel) (by decide) (by decide) (by decide) (by decide +kernel))
  have hp2 := Lib.hid (fun W (hW : Whole W rb 117 [.string pR1]) => number25_any rb pR1 pR2 1 1 W hW (by decide) (by decide +kernel) (by decide) (by decide) (by decide) (by decide +kernel))
  have hp3 := Lib.hid (fun W (hW : Whole W rb 117 [.string pR2]) => number25_any rb pR2 pR3 2 1 W hW (by decide) (by decide +kernel) (by decide) (by decide) (by decide) (by decide +kernel))
  have hp4 := Lib.hid (fun W (hW : Whole W rb 117 [.string pR3]) => place25_any rb pR3 pR3m pR4 ⟨#[115]⟩ 0 2 1 W hW (by decide) (by decide +kernel) (by decide) (by decide +kernel) (by decide) (by decide +kernel) (by decide) (by decide) (by decide) (by decide +kernel))
  have hp5 := Lib.hid (fun W (hW : Whole W rb 117 [.string pR4]) => number25_any rb pR4 pR5 3 1 W hW (by decide) (by decide +kernel) (by decide) (by decide) (by decide) (by decide +kernel))
  have hp6 := Lib.hid (fun W (hW : Whole W rb 117 [.string pR5]) => place25_any rb pR5 pR5m pR6 ⟨#[116]⟩ 1 2 1 W hW (by decide) (by decide +kernel) (by decide) (by decide +kernel) (by decide) (by decide +kernel) (by decide) (by decide) (by decide) (by decide +kernel))
  have hp7 := Lib.hid (fun W (hW : Whole W rb 117 [.string pR6]) => pair25_A rb W hW)
  replace hp1 := Lib.hid (hp1.out _ (h.below hB h.lt))
  have hkV : Hid (Kept (fun q => q = rb) w V) := Lib.hid (Kept.of_below hB)
  replace hO := Lib.hid hO
  clear h hB
  go_enter Try.func66, Try.ntmps66
  go_upto_region 1 with fail
  rw [← show V = _ from hV.out, hob.out]
  clear hV hob
  go_wp2_with fail
  refine hp1.out.mono ?_
  rintro _ w1 ⟨rfl, hW1, hk1⟩
  replace hp2 := Lib.hid (hp2.out _ hW1)
  replace hO := Lib.hid (hO.out.of_kept hk1 hne)
  replace hk1 := Lib.hid (hkV.out.trans hk1)
  clear hW1 hkV hp1
  go_wp2_with fail
  refine hp2.out.mono ?_
  rintro _ w2 ⟨rfl, hW2, hk2⟩
  replace hp3 := Lib.hid (hp3.out _ hW2)
  replace hO := Lib.hid (hO.out.of_kept hk2 hne)
  replace hk2 := Lib.hid (hk1.out.trans hk2)
  clear hW2 hk1 hp2
  go_wp2_with fail
  refine hp3.out.mono ?_
  rintro _ w3 ⟨rfl, hW3, hk3⟩
  replace hp4 := Lib.hid (hp4.out _ hW3)
  replace hO := Lib.hid (hO.out.of_kept hk3 hne)
  replace hk3 := Lib.hid (hk2.out.trans hk3)
  clear hW3 hk2 hp3
  go_wp2_with fail
  refine hp4.out.mono ?_
  rintro _ w4 ⟨rfl, hW4, hk4⟩
  replace hp5 := Lib.hid (hp5.out _ hW4)
  replace hO := Lib.hid (hO.out.of_kept hk4 hne)
  replace hk4 := Lib.hid (hk3.out.trans hk4)
  clear hW4 hk3 hp4
  go_wp2_with fail
  refine hp5.out.mono ?_
  rintro _ w5 ⟨rfl, hW5, hk5⟩
  replace hp6 := Lib.hid (hp6.out _ hW5)
  replace hO := Lib.hid (hO.out.of_kept hk5 hne)
  replace hk5 := Lib.hid (hk4.out.trans hk5)
  clear hW5 hk4 hp5
  go_wp2_with fail
  refine hp6.out.mono ?_
  rintro _ w6 ⟨rfl, hW6, hk6⟩
  replace hp7 := Lib.hid (hp7.out _ hW6)
  replace hO := Lib.hid (hO.out.of_kept hk6 hne)
  replace hk6 := Lib.hid (hk5.out.trans hk6)
  clear hW6 hk5 hp6
  go_wp2_with fail
  refine hp7.out.mono ?_
  rintro _ w7 ⟨rfl, hW7, hk7⟩
  replace hO := hO.out.of_kept hk7 hne
  have r0 : w7.cell? ⟨ob, 0, none⟩ = some (.int .i64 0) := hO.cell 0
  have f0 := hO.frozen 0
  have r1 : w7.cell? ⟨ob, 1, none⟩ = some (.int .i64 0) := hO.cell 1
  have f1 := hO.frozen 1
  have r2 : w7.cell? ⟨ob, 2, none⟩ = some (.int .i64 0) := hO.cell 2
  have f2 := hO.frozen 2
  have r3 : w7.cell? ⟨ob, 3, none⟩ = some (.string ⟨#[]⟩) := hO.cell 3
  have f3 := hO.frozen 3
  have r4 : w7.cell? ⟨ob, 4, none⟩ = some (.int .i64 0) := hO.cell 4
  have f4 := hO.frozen 4
  have r5 : w7.cell? ⟨ob, 5, none⟩ = some (.int .i64 0) := hO.cell 5
  have f5 := hO.frozen 5
  have r6 : w7.cell? ⟨ob, 6, none⟩ = some (.string ⟨#[]⟩) := hO.cell 6
  have f6 := hO.frozen 6
  have r7 : w7.cell? ⟨ob, 7, none⟩ = some (.int .i64 0) := hO.cell 7
  have f7 := hO.frozen 7
  have r8 : w7.cell? ⟨ob, 8, none⟩ = some (.string ⟨#[]⟩) := hO.cell 8
  have f8 := hO.frozen 8
  have r9 : w7.cell? ⟨ob, 9, none⟩ = some (.string ⟨#[]⟩) := hO.cell 9
  have f9 := hO.frozen 9
  have r10 : w7.cell? ⟨ob, 10, none⟩ = some (.bool false) := hO.cell 10
  have f10 := hO.frozen 10
  have hend : Hid (Whole (w7.setCells ob 0 [.int .i64 1, .int .i64 1, .int .i64 2, .string ⟨#[115]⟩, .int .i64 0, .int .i64 3, .string ⟨#[116]⟩, .int .i64 1, .string ⟨#[107]⟩, .string ⟨#[118]⟩, .bool false]) ob 67 [.int .i64 1, .int .i64 1, .int .i64 2, .string ⟨#[115]⟩, .int .i64 0, .int .i64 3, .string ⟨#[116]⟩, .int .i64 1, .string ⟨#[107]⟩, .string ⟨#[118]⟩, .bool false]) := Lib.hid (whole_all hO rfl)
  have hW9 : Hid (Whole (w7.setCells ob 0 [.int .i64 1, .int .i64 1, .int .i64 2, .string ⟨#[115]⟩, .int .i64 0, .int .i64 3, .string ⟨#[116]⟩, .int .i64 1, .string ⟨#[107]⟩, .string ⟨#[118]⟩, .bool false]) rb 117 [.string ⟨#[]⟩]) := Lib.hid (hW7.far (Ne.symm hne) 0 _)
  have hk9 : Hid (Kept (fun q => q = rb) w (w7.setCells ob 0 [.int .i64 1, .int .i64 1, .int .i64 2, .string ⟨#[115]⟩, .int .i64 0, .int .i64 3, .string ⟨#[116]⟩, .int .i64 1, .string ⟨#[107]⟩, .string ⟨#[118]⟩, .bool false])) := Lib.hid ((hk6.out.trans hk7).setCells (.inr hob2) 0 _)
  clear hO hW7 hk7 hk6 hp7
  go_wp2_with fail
  exact bodyPost_ret (result_cell Try.results66 rfl hend.out.range Try.underlying67 rfl sizeRe25) rfl ⟨rfl, hW9.out, hk9.out⟩
end Go.Proofs.Ytgogackkeodciaa.W
