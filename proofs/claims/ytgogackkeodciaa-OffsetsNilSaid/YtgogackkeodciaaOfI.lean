/- Package offsets: the law's small case. -/
import Derived.Test.YtgogackkeodciaaOfH
namespace Go.Proofs.Ytgogackkeodciaa.W
open Go.RowKit Go.Sort
open Go.Proofs.Ytgogackkeodciaa.M Go.Proofs.Ytgogackkeodciaa.D Go.Proofs.Ytgogackkeodciaa.Z
set_option linter.unusedVariables false
set_option linter.unusedSimpArgs false

theorem grpM_below24 {W W' : World} {b n : Nat} {D : DataW Unit} (h : grpM W b n D) (hb : Below W.heap.size W W') : grpM W' b n D :=
  h.kept (row := none) ⟨hb.os, hb.tape, hb.output, hb.size, fun i hi _ => hb.block i hi⟩ (by simp)
set_option maxRecDepth 100000 in
set_option maxHeartbeats 4000000 in
theorem five24_any (w : World) : Calls Try.prog 9 #[] w fun e w' => e = .returned (.bool true) ∧ Below w.heap.size w w' := by
  have hnew := Lib.hid (new24_any w)
  go_enter Try.func9, Try.ntmps9
  go_wp2_with fail
  refine hnew.out.mono ?_
  rintro _ w1 ⟨rfl, hG1, b1⟩
  obtain ⟨tb, hlb⟩ : ∃ q, Hid (w.heap.size = q) := ⟨_, Lib.hid rfl⟩
  have hlw : w.heap.size ≤ tb := by have := hlb.out; omega
  rw [hlb.out] at hG1
  rw [show w.heap.size = tb from hlb.out]
  obtain ⟨V2, hV2⟩ : ∃ x, Hid (x = w1.alloc (.cells #[.string ⟨#[103]⟩, .string ⟨#[97]⟩, .int .i64 1] 26)) := ⟨_, Lib.hid rfl⟩
  have s2 : Below w1.heap.size w1 V2 := by rw [hV2.out]; exact grewAlloc (Below.refl _ _) _
  have hr2 : Whole V2 w1.heap.size 26 [.string ⟨#[103]⟩, .string ⟨#[97]⟩, .int .i64 1] := by rw [hV2.out]; exact Whole.new w1 _ _
  obtain ⟨kx, hkx⟩ : ∃ q, Hid (w1.heap.size = q) := ⟨_, Lib.hid rfl⟩
  rw [hkx.out] at hr2
  have hG2 := hG1.below s2 hG1.lt
  have hlr : tb ≠ kx := by have := hkx.out; have := hG1.lt; omega
  have hB2 := Lib.hid (grew b1 s2)
  have hmk := Lib.hid (commit24_yes tb ⟨#[103]⟩ ⟨#[97]⟩ 1 5 _ V2 hG2 nameG24 nameA24 (by decide) (by decide) (by decide) (by decide) ⟨#[1, 103, 1, 97, 1, 5]⟩ payA24)
  have p0 : V2.cell? ⟨kx, 0, none⟩ = some (.string ⟨#[103]⟩) := hr2.cell 0
  have p1 : V2.cell? ⟨kx, 1, none⟩ = some (.string ⟨#[97]⟩) := hr2.cell 1
  have p2 : V2.cell? ⟨kx, 2, none⟩ = some (.int .i64 1) := hr2.cell 2
  replace hr2 := Lib.hid hr2
  replace hG2 := Lib.hid hG2
  clear hnew hlb hG1 b1 s2
  go_upto_region 3 with fail
  rw [← show V2 = _ from hV2.out, hkx.out]
  clear hV2 hkx
  go_wp2_with fail
  refine hmk.out.mono ?_
  rintro _ w3 ⟨rfl, b3⟩
  obtain ⟨V4, hV4⟩ : ∃ x, Hid (x = w3.alloc (.cells #[.int .i64 1, .string ⟨#[1, 103, 1, 97, 1, 5]⟩] 33)) := ⟨_, Lib.hid rfl⟩
  have s4 : Below V2.heap.size V2 V4 := by rw [hV4.out]; exact grewAlloc b3 _
  have hF4 : Whole V4 w3.heap.size 33 [.int .i64 1, .string ⟨#[1, 103, 1, 97, 1, 5]⟩] := by rw [hV4.out]; exact Whole.new w3 _ _
  obtain ⟨fx, hfx⟩ : ∃ q, Hid (w3.heap.size = q) := ⟨_, Lib.hid rfl⟩
  rw [hfx.out] at hF4
  have hG4 := hG2.out.below s4 hG2.out.lt
  have hr4 := Lib.hid (hr2.out.below s4 hr2.out.lt)
  have hlf : tb ≠ fx := by have := hfx.out; have := hG2.out.lt; have := b3.size; omega
  have hB4 := Lib.hid (grew hB2.out s4)
  have hap := Lib.hid (apply24_A tb V4 hG4)
  have q0 : V4.cell? ⟨fx, 0, none⟩ = some (.int .i64 1) := hF4.cell 0
  have q1 : V4.cell? ⟨fx, 1, none⟩ = some (.string ⟨#[1, 103, 1, 97, 1, 5]⟩) := hF4.cell 1
  replace hF4 := Lib.hid hF4
  clear hmk b3 s4 hG4 hB2 hr2 hG2 p0 p1 p2
  go_upto_region 4 with fail
  rw [← show V4 = _ from hV4.out, hfx.out]
  clear hV4 hfx
  go_wp2_with fail
  refine hap.out.mono ?_
  rintro _ w5 ⟨rfl, m1, m2, hG5, ho5, hg5, hk5⟩
  have hr5 := hr4.out.of_kept hk5 (Ne.symm hlr)
  have hF5 := hF4.out.of_kept hk5 (Ne.symm hlf)
  have hB5 := Lib.hid (hB4.out.trans (hk5.below (B := w.heap.size) hB4.out.size (fun k e => by rw [e]; exact hlw)))
  have a0 : w5.cell? ⟨kx, 0, none⟩ = some (.string ⟨#[103]⟩) := hr5.cell 0
  have a1 : w5.cell? ⟨kx, 1, none⟩ = some (.string ⟨#[97]⟩) := hr5.cell 1
  have a2 : w5.cell? ⟨kx, 2, none⟩ = some (.int .i64 1) := hr5.cell 2
  have hge := Lib.hid (get24_A tb m1 _ ⟨#[103]⟩ ⟨#[97]⟩ 1 5 w5 hG5 ho5 (by decide) (by decide) (by decide))
  have hgr := Lib.hid (fun W (hb : Below w5.heap.size w5 W) => groups24_A tb m2 _ ⟨#[103]⟩ _ W (hG5.below hb hG5.lt) (grpM_below24 hg5 hb))
  have hke := Lib.hid (fun W (hb : Below w5.heap.size w5 W) => keys24_A tb m1 1 _ ⟨#[103]⟩ ⟨#[97]⟩ 1 (.lit (.int .i64 5)) W (hG5.below hb hG5.lt) (show offM W m1 1 ((DataW.map []).put (kyK ⟨#[103]⟩ ⟨#[97]⟩ 1) (.lit (.int .i64 5))) from ownsMap_below24 ho5 hb) (by decide) (by decide) (by decide))
  replace hF5 := Lib.hid hF5
  clear hap hk5 hr4 hF4 hB4 ho5 hg5 hG5 hr5 q0 q1
  go_wp2_with fail
  refine hge.out.mono ?_
  rintro _ w6 ⟨rfl, b6⟩
  have hF6 := hF5.out.below b6 hF5.out.lt
  have f1 : w6.cell? ⟨fx, 1, none⟩ = some (.string ⟨#[1, 103, 1, 97, 1, 5]⟩) := hF6.cell 1
  have c6 := Lib.hid b6
  clear hge b6 hF6 a0 a1 a2
  go_wp2_with fail
  refine (hgr.out _ c6.out).mono ?_
  rintro _ w7 ⟨rfl, rfl⟩
  go_wp2_with fail
  refine (hke.out _ c6.out).mono ?_
  rintro _ w8 ⟨A, c, rfl, b8⟩
  have hfin := Lib.hid (grew hB5.out (grew c6.out b8))
  clear b8 hke hgr
  go_wp2_with fail
  go_ret
  exact ⟨rfl, hfin.out⟩
end Go.Proofs.Ytgogackkeodciaa.W
