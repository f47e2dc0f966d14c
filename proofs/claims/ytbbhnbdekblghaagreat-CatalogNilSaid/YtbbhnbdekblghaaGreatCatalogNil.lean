/- For every call the law CatalogNil returns true: a nil catalog has no topics. No condition. -/
import Derived.Test.YtbbhnbdekblghaaGreatRows
import Derived.Test.YtbbhnbdekblghaaGreatCgS
import Derived.Test.YtbbhnbdekblghaaGreatOpenA23
import Derived.ChangeOld
import Derived.Deep.Cut
namespace Go.Proofs.YtbbhnbdekblghaaGreat.catalogNil
open Go.ChangeShapes Go.WideShapes Go.ChangeAt Go.RowKit Go.Sort
open Go.ChangeMaps (open_string shut_string)
open Go.Proofs.YtbbhnbdekblghaaGreat.M Go.Proofs.YtbbhnbdekblghaaGreat.W Go.Proofs.YtbbhnbdekblghaaGreat.D Go.Proofs.YtbbhnbdekblghaaGreat.Z
set_option linter.unusedVariables false
set_option linter.unusedSimpArgs false

theorem zHere2 {P : Program} {w : World} {ops : Array Oper} {rest : List Oper} {o : Oper} {a : Go.Act} {Q : Exit → Go.Act → World → Prop} (b : BinOp) (t u : TypeId) (x y : Operand) (ho : o.op = .binOp b t x y u) (h : Hid (wpList P ops Q (o :: rest) a w)) : wpList P ops Q (o :: rest) a w := h
set_option maxRecDepth 100000 in
set_option maxHeartbeats 8000000 in
theorem walk (rr : A23) (w : World) (wrr : rr.wf) :
    Calls Tryz.prog 6 #[.agg #[.int .i64 rr.k, .string rr.s.nm, .int .i64 rr.s.parts, .int .i64 rr.s.age, .int .i64 rr.s.size, .bool rr.s.comp, .string rr.pn, .int .i64 rr.pp, .int .i64 rr.m.gen, .int .i64 rr.m.seq, .int .i64 rr.m.start, .int .i64 rr.m.next, .string rr.m.tab, .int .i64 rr.fk, .string rr.fp]] w fun e w' => e = .returned (.bool true) ∧ Below w.heap.size w w' := by
  clear wrr
  obtain ⟨k, ⟨nm, pa, ag, sz, cp⟩, pn, pp, ⟨g, q, s, nx, tb⟩, fk, fp⟩ := rr
  dsimp only
  obtain ⟨V0, hV0⟩ : ∃ V, Hid (V = w.alloc (.cells #[.int .i64 k, .string nm, .int .i64 pa, .int .i64 ag, .int .i64 sz, .bool cp, .string pn, .int .i64 pp, .int .i64 g, .int .i64 q, .int .i64 s, .int .i64 nx, .string tb, .int .i64 fk, .string fp] 39)) := ⟨_, Lib.hid rfl⟩
  have hB0 : Below w.heap.size w V0 := by rw [hV0.out]; exact grewAlloc (Below.refl _ _) _
  have hA0 : Whole V0 w.heap.size 39 [.int .i64 k, .string nm, .int .i64 pa, .int .i64 ag, .int .i64 sz, .bool cp, .string pn, .int .i64 pp, .int .i64 g, .int .i64 q, .int .i64 s, .int .i64 nx, .string tb, .int .i64 fk, .string fp] := by rw [hV0.out]; exact Whole.new w _ _
  obtain ⟨ab, hab⟩ : ∃ q, Hid (w.heap.size = q) := ⟨_, Lib.hid rfl⟩
  rw [hab.out] at hA0
  have a1 : V0.cell? ⟨ab, 1, none⟩ = some (.string nm) := hA0.cell 1
  have a2 : V0.cell? ⟨ab, 2, none⟩ = some (.int .i64 pa) := hA0.cell 2
  have a3 : V0.cell? ⟨ab, 3, none⟩ = some (.int .i64 ag) := hA0.cell 3
  have a4 : V0.cell? ⟨ab, 4, none⟩ = some (.int .i64 sz) := hA0.cell 4
  have a5 : V0.cell? ⟨ab, 5, none⟩ = some (.bool cp) := hA0.cell 5
  replace hA0 := Lib.hid hA0
  replace hB0 := Lib.hid hB0
  have hc0 := Lib.hid (create23_nil nm pa ag sz cp V0)
  go_enter Tryz.func6, Tryz.ntmps6
  go_upto_region 2 with fail
  rw [← show V0 = _ from hV0.out, hab.out]
  clear hV0 hab
  go_wp2_with fail
  refine hc0.out.mono ?_
  rintro _ w1 ⟨rfl, b1⟩
  obtain ⟨V1, hV1⟩ : ∃ V, Hid (V = w1.alloc (.cells #[.int .i64 0, .string ⟨#[]⟩] 37)) := ⟨_, Lib.hid rfl⟩
  have k1 : Below V0.heap.size V0 V1 := by rw [hV1.out]; exact grewAlloc b1 _
  have hfb1 : Whole V1 w1.heap.size 37 [.int .i64 0, .string ⟨#[]⟩] := by rw [hV1.out]; exact Whole.new w1 _ _
  obtain ⟨fb, hfb⟩ : ∃ q, Hid (w1.heap.size = q) := ⟨_, Lib.hid rfl⟩
  rw [hfb.out] at hfb1
  have hA1 := hA0.out.below k1 hA0.out.lt
  have hB1 := Lib.hid (grew hB0.out k1)
  clear a1 a2 a3 a4 a5 b1 k1 hc0 hB0 hA0
  have a1 : V1.cell? ⟨ab, 1, none⟩ = some (.string nm) := hA1.cell 1
  replace hA1 := Lib.hid hA1
  replace hfb1 := Lib.hid hfb1
  have hc1 := Lib.hid (delete23_nil nm V1)
  go_upto_region 3 with fail
  rw [← show V1 = _ from hV1.out, hfb.out]
  clear hV1 hfb
  go_wp2_with fail
  refine hc1.out.mono ?_
  rintro _ w2 ⟨rfl, b2⟩
  obtain ⟨V2, hV2⟩ : ∃ V, Hid (V = w2.alloc (.cells #[.int .i64 0, .string ⟨#[]⟩] 37)) := ⟨_, Lib.hid rfl⟩
  have k2 : Below V1.heap.size V1 V2 := by rw [hV2.out]; exact grewAlloc b2 _
  have hgb1 : Whole V2 w2.heap.size 37 [.int .i64 0, .string ⟨#[]⟩] := by rw [hV2.out]; exact Whole.new w2 _ _
  obtain ⟨gb, hgb⟩ : ∃ q, Hid (w2.heap.size = q) := ⟨_, Lib.hid rfl⟩
  rw [hgb.out] at hgb1
  have hA2 := hA1.out.below k2 hA1.out.lt
  replace hfb1 := Lib.hid (hfb1.out.below k2 hfb1.out.lt)
  have hB2 := Lib.hid (grew hB1.out k2)
  clear a1 b2 k2 hc1 hB1 hA1
  have a6 : V2.cell? ⟨ab, 6, none⟩ = some (.string pn) := hA2.cell 6
  have a7 : V2.cell? ⟨ab, 7, none⟩ = some (.int .i64 pp) := hA2.cell 7
  have a8 : V2.cell? ⟨ab, 8, none⟩ = some (.int .i64 g) := hA2.cell 8
  have a9 : V2.cell? ⟨ab, 9, none⟩ = some (.int .i64 q) := hA2.cell 9
  have a10 : V2.cell? ⟨ab, 10, none⟩ = some (.int .i64 s) := hA2.cell 10
  have a11 : V2.cell? ⟨ab, 11, none⟩ = some (.int .i64 nx) := hA2.cell 11
  have a12 : V2.cell? ⟨ab, 12, none⟩ = some (.string tb) := hA2.cell 12
  replace hA2 := Lib.hid hA2
  replace hgb1 := Lib.hid hgb1
  have hc2 := Lib.hid (put23_nil pn pp g q s nx tb V2)
  go_upto_region 4 with fail
  rw [← show V2 = _ from hV2.out, hgb.out]
  clear hV2 hgb
  go_wp2_with fail
  refine hc2.out.mono ?_
  rintro _ w3 ⟨rfl, b3⟩
  obtain ⟨V3, hV3⟩ : ∃ V, Hid (V = w3.alloc (.cells #[.int .i64 0, .string ⟨#[]⟩] 37)) := ⟨_, Lib.hid rfl⟩
  have k3 : Below V2.heap.size V2 V3 := by rw [hV3.out]; exact grewAlloc b3 _
  have hhb1 : Whole V3 w3.heap.size 37 [.int .i64 0, .string ⟨#[]⟩] := by rw [hV3.out]; exact Whole.new w3 _ _
  obtain ⟨hb, hhb⟩ : ∃ q, Hid (w3.heap.size = q) := ⟨_, Lib.hid rfl⟩
  rw [hhb.out] at hhb1
  have hA3 := hA2.out.below k3 hA2.out.lt
  replace hfb1 := Lib.hid (hfb1.out.below k3 hfb1.out.lt)
  replace hgb1 := Lib.hid (hgb1.out.below k3 hgb1.out.lt)
  have hB3 := Lib.hid (grew hB2.out k3)
  clear a6 a7 a8 a9 a10 a11 a12 b3 k3 hc2 hB2 hA2
  have a1 : V3.cell? ⟨ab, 1, none⟩ = some (.string nm) := hA3.cell 1
  replace hA3 := Lib.hid hA3
  replace hhb1 := Lib.hid hhb1
  have hc3 := Lib.hid (spec23_nil nm V3)
  go_upto_region 5 with fail
  rw [← show V3 = _ from hV3.out, hhb.out]
  clear hV3 hhb
  go_wp2_with fail
  refine hc3.out.mono ?_
  rintro _ w4 ⟨rfl, b4⟩
  obtain ⟨V4, hV4⟩ : ∃ V, Hid (V = w4.alloc (.cells #[.string ⟨#[]⟩, .int .i64 0, .int .i64 0, .int .i64 0, .bool false] 31)) := ⟨_, Lib.hid rfl⟩
  have k4 : Below V3.heap.size V3 V4 := by rw [hV4.out]; exact grewAlloc b4 _
  have hsb1 : Whole V4 w4.heap.size 31 [.string ⟨#[]⟩, .int .i64 0, .int .i64 0, .int .i64 0, .bool false] := by rw [hV4.out]; exact Whole.new w4 _ _
  obtain ⟨sb, hsb⟩ : ∃ q, Hid (w4.heap.size = q) := ⟨_, Lib.hid rfl⟩
  rw [hsb.out] at hsb1
  have hA4 := hA3.out.below k4 hA3.out.lt
  replace hfb1 := Lib.hid (hfb1.out.below k4 hfb1.out.lt)
  replace hgb1 := Lib.hid (hgb1.out.below k4 hgb1.out.lt)
  replace hhb1 := Lib.hid (hhb1.out.below k4 hhb1.out.lt)
  have hB4 := Lib.hid (grew hB3.out k4)
  clear a1 b4 k4 hc3 hB3 hA3
  have a6 : V4.cell? ⟨ab, 6, none⟩ = some (.string pn) := hA4.cell 6
  have a7 : V4.cell? ⟨ab, 7, none⟩ = some (.int .i64 pp) := hA4.cell 7
  replace hA4 := Lib.hid hA4
  replace hsb1 := Lib.hid hsb1
  have hc4 := Lib.hid (meta23_nil pn pp V4)
  go_upto_region 6 with fail
  rw [← show V4 = _ from hV4.out, hsb.out]
  clear hV4 hsb
  go_wp2_with fail
  refine hc4.out.mono ?_
  rintro _ w5 ⟨rfl, b5⟩
  obtain ⟨V5, hV5⟩ : ∃ V, Hid (V = w5.alloc (.cells #[.int .i64 0, .int .i64 0, .int .i64 0, .int .i64 0, .string ⟨#[]⟩] 35)) := ⟨_, Lib.hid rfl⟩
  have k5 : Below V4.heap.size V4 V5 := by rw [hV5.out]; exact grewAlloc b5 _
  have hmb1 : Whole V5 w5.heap.size 35 [.int .i64 0, .int .i64 0, .int .i64 0, .int .i64 0, .string ⟨#[]⟩] := by rw [hV5.out]; exact Whole.new w5 _ _
  obtain ⟨mb, hmb⟩ : ∃ q, Hid (w5.heap.size = q) := ⟨_, Lib.hid rfl⟩
  rw [hmb.out] at hmb1
  have hA5 := hA4.out.below k5 hA4.out.lt
  replace hfb1 := Lib.hid (hfb1.out.below k5 hfb1.out.lt)
  replace hgb1 := Lib.hid (hgb1.out.below k5 hgb1.out.lt)
  replace hhb1 := Lib.hid (hhb1.out.below k5 hhb1.out.lt)
  replace hsb1 := Lib.hid (hsb1.out.below k5 hsb1.out.lt)
  have hB5 := Lib.hid (grew hB4.out k5)
  clear a6 a7 b5 k5 hc4 hB4 hA4
  have a6 : V5.cell? ⟨ab, 6, none⟩ = some (.string pn) := hA5.cell 6
  have a7 : V5.cell? ⟨ab, 7, none⟩ = some (.int .i64 pp) := hA5.cell 7
  replace hA5 := Lib.hid hA5
  replace hmb1 := Lib.hid hmb1
  have hc5 := Lib.hid (log23_nil pn pp V5)
  go_upto_region 7 with fail
  rw [← show V5 = _ from hV5.out, hmb.out]
  clear hV5 hmb
  go_wp2_with fail
  refine hc5.out.mono ?_
  rintro _ w6 ⟨rfl, b6⟩
  obtain ⟨V6, hV6⟩ : ∃ V, Hid (V = w6.alloc (.cells #[.int .i64 0, .string ⟨#[]⟩] 37)) := ⟨_, Lib.hid rfl⟩
  have k6 : Below V5.heap.size V5 V6 := by rw [hV6.out]; exact grewAlloc b6 _
  have hnb1 : Whole V6 w6.heap.size 37 [.int .i64 0, .string ⟨#[]⟩] := by rw [hV6.out]; exact Whole.new w6 _ _
  obtain ⟨nb, hnb⟩ : ∃ q, Hid (w6.heap.size = q) := ⟨_, Lib.hid rfl⟩
  rw [hnb.out] at hnb1
  have hA6 := hA5.out.below k6 hA5.out.lt
  replace hfb1 := Lib.hid (hfb1.out.below k6 hfb1.out.lt)
  replace hgb1 := Lib.hid (hgb1.out.below k6 hgb1.out.lt)
  replace hhb1 := Lib.hid (hhb1.out.below k6 hhb1.out.lt)
  replace hsb1 := Lib.hid (hsb1.out.below k6 hsb1.out.lt)
  replace hmb1 := Lib.hid (hmb1.out.below k6 hmb1.out.lt)
  have hB6 := Lib.hid (grew hB5.out k6)
  clear a6 a7 b6 k6 hc5 hB5 hA5
  have a13 : (w6.alloc (.cells #[.int .i64 0, .string ⟨#[]⟩] 37)).cell? ⟨ab, 13, none⟩ = some (.int .i64 fk) := by rw [← hV6.out]; exact hA6.cell 13
  have a14 : (w6.alloc (.cells #[.int .i64 0, .string ⟨#[]⟩] 37)).cell? ⟨ab, 14, none⟩ = some (.string fp) := by rw [← hV6.out]; exact hA6.cell 14
  replace hnb1 := Lib.hid hnb1
  have fb0 : (w6.alloc (.cells #[.int .i64 0, .string ⟨#[]⟩] 37)).cell? ⟨fb, 0, none⟩ = some (.int .i64 0) := by rw [← hV6.out]; exact hfb1.out.cell 0
  have fb1 : (w6.alloc (.cells #[.int .i64 0, .string ⟨#[]⟩] 37)).cell? ⟨fb, 1, none⟩ = some (.string ⟨#[]⟩) := by rw [← hV6.out]; exact hfb1.out.cell 1
  have gb0 : (w6.alloc (.cells #[.int .i64 0, .string ⟨#[]⟩] 37)).cell? ⟨gb, 0, none⟩ = some (.int .i64 0) := by rw [← hV6.out]; exact hgb1.out.cell 0
  have gb1 : (w6.alloc (.cells #[.int .i64 0, .string ⟨#[]⟩] 37)).cell? ⟨gb, 1, none⟩ = some (.string ⟨#[]⟩) := by rw [← hV6.out]; exact hgb1.out.cell 1
  have hb0 : (w6.alloc (.cells #[.int .i64 0, .string ⟨#[]⟩] 37)).cell? ⟨hb, 0, none⟩ = some (.int .i64 0) := by rw [← hV6.out]; exact hhb1.out.cell 0
  have hb1 : (w6.alloc (.cells #[.int .i64 0, .string ⟨#[]⟩] 37)).cell? ⟨hb, 1, none⟩ = some (.string ⟨#[]⟩) := by rw [← hV6.out]; exact hhb1.out.cell 1
  have sb0 : (w6.alloc (.cells #[.int .i64 0, .string ⟨#[]⟩] 37)).cell? ⟨sb, 0, none⟩ = some (.string ⟨#[]⟩) := by rw [← hV6.out]; exact hsb1.out.cell 0
  have sb1 : (w6.alloc (.cells #[.int .i64 0, .string ⟨#[]⟩] 37)).cell? ⟨sb, 1, none⟩ = some (.int .i64 0) := by rw [← hV6.out]; exact hsb1.out.cell 1
  have sb2 : (w6.alloc (.cells #[.int .i64 0, .string ⟨#[]⟩] 37)).cell? ⟨sb, 2, none⟩ = some (.int .i64 0) := by rw [← hV6.out]; exact hsb1.out.cell 2
  have sb3 : (w6.alloc (.cells #[.int .i64 0, .string ⟨#[]⟩] 37)).cell? ⟨sb, 3, none⟩ = some (.int .i64 0) := by rw [← hV6.out]; exact hsb1.out.cell 3
  have sb4 : (w6.alloc (.cells #[.int .i64 0, .string ⟨#[]⟩] 37)).cell? ⟨sb, 4, none⟩ = some (.bool false) := by rw [← hV6.out]; exact hsb1.out.cell 4
  have mb0 : (w6.alloc (.cells #[.int .i64 0, .string ⟨#[]⟩] 37)).cell? ⟨mb, 0, none⟩ = some (.int .i64 0) := by rw [← hV6.out]; exact hmb1.out.cell 0
  have mb1 : (w6.alloc (.cells #[.int .i64 0, .string ⟨#[]⟩] 37)).cell? ⟨mb, 1, none⟩ = some (.int .i64 0) := by rw [← hV6.out]; exact hmb1.out.cell 1
  have mb2 : (w6.alloc (.cells #[.int .i64 0, .string ⟨#[]⟩] 37)).cell? ⟨mb, 2, none⟩ = some (.int .i64 0) := by rw [← hV6.out]; exact hmb1.out.cell 2
  have mb3 : (w6.alloc (.cells #[.int .i64 0, .string ⟨#[]⟩] 37)).cell? ⟨mb, 3, none⟩ = some (.int .i64 0) := by rw [← hV6.out]; exact hmb1.out.cell 3
  have mb4 : (w6.alloc (.cells #[.int .i64 0, .string ⟨#[]⟩] 37)).cell? ⟨mb, 4, none⟩ = some (.string ⟨#[]⟩) := by rw [← hV6.out]; exact hmb1.out.cell 4
  have ef : ∀ W, (binOp .eql 37 (.agg #[.int .i64 0, .string ⟨#[]⟩]) (.agg #[.int .i64 0, .string ⟨#[]⟩])).run Tryz.prog W = .ok (.bool true) W := fun W => by kernel_rfl
  have es : ∀ W, (binOp .eql 31 (.agg #[.string ⟨#[]⟩, .int .i64 0, .int .i64 0, .int .i64 0, .bool false]) (.agg #[.string ⟨#[]⟩, .int .i64 0, .int .i64 0, .int .i64 0, .bool false])).run Tryz.prog W = .ok (.bool true) W := fun W => by kernel_rfl
  have em : ∀ W, (binOp .eql 35 (.agg #[.int .i64 0, .int .i64 0, .int .i64 0, .int .i64 0, .string ⟨#[]⟩]) (.agg #[.int .i64 0, .int .i64 0, .int .i64 0, .int .i64 0, .string ⟨#[]⟩])).run Tryz.prog W = .ok (.bool true) W := fun W => by kernel_rfl
  have hap := Lib.hid (fun W => apply23_nil fk fp W)
  clear hA6 hfb1 hgb1 hhb1 hsb1 hmb1 hnb1
  go_wp2_with fail
  refine (hap.out _).mono ?_
  rw [← show V6 = _ from hV6.out]
  rintro _ w7 ⟨rfl, b7⟩
  have hB7 := Lib.hid (grew hB6.out b7)
  clear b7 hap
  go_wp2_with fail
  refine (snap23_nil _).mono ?_
  rintro _ w8 ⟨rfl, rfl⟩
  go_wp2_with fail
  refine (names23_nil _).mono ?_
  rintro _ w8 ⟨rfl, rfl⟩
  go_wp2_with fail
  refine (count23_nil _).mono ?_
  rintro _ w8 ⟨rfl, rfl⟩
  go_wp2_with fail
  refine (two23_any _).mono ?_
  rintro _ w9 ⟨rfl, b9⟩
  have hB9 := Lib.hid (grew hB7.out b9)
  clear b9
  go_wp2_with fail
  go_ret
  exact ⟨rfl, hB9.out⟩


theorem own : ownKnob Tryz.prog.godebug = none := by kernel_rfl
theorem laidOut : laidOutB Tryz.prog = true := by kernel_rfl

set_option maxRecDepth 100000 in
theorem lifted (os : Os) (started : os.Started) (H : Type) (enc : TypeId × Value → H) :
    ReturnsInHanded {} Tryz.checked os 6 .any (Rows.catalogNilSpec.pre6 enc Tryz.prog Tryz.f6 Rows.catalogNilRow.domain false) (Rows.catalogNilSpec.post enc Tryz.prog Tryz.f6 false true false false) := by
  refine returnsInHanded_of_change (C := Tryz.checked) own started (by kernel_rfl) Tryz.func6
    (ChangeSpec.witness6 (enc := enc) (C := Tryz.checked) false ⟨#[], #[.agg #[.int .i64 0, .string ByteArray.empty, .int .i64 0, .int .i64 0, .int .i64 0, .bool false, .string ByteArray.empty, .int .i64 0, .int .i64 0, .int .i64 0, .int .i64 0, .int .i64 0, .string ByteArray.empty, .int .i64 0, .string ByteArray.empty]], []⟩ 8 (by kernel_rfl) (by kernel_rfl) (by kernel_rfl) (by kernel_rfl)) ?_
  intro W base args ds gs before hval0 hW hcnd _
  have hval : ∀ (j : Nat) t v, Tryz.f6.params[j]? = some t → args[j]? = some v → Value.okWide Tryz.prog W .any base t v := hval0
  have hW' := hW
  obtain ⟨p, q, hA0, hV, rfl, hfz, hnd⟩ := hW
  have hA : DataW.TrodAll enc Tryz.prog W 0 (fun _ => true) true Tryz.f6.params.toList args.toList ds p := hA0
  rw [Tryz.params6] at hA hval
  obtain ⟨v0, vs0, d0, ds0, p0, q0, hargs, rfl, rfl, h0, r0⟩ := trodAll_cons hA
  obtain ⟨rfl, rfl, rfl⟩ := trodAll_nil r0
  obtain rfl : args = #[v0] := by cases args; simp_all
  obtain ⟨rfl, rfl⟩ := trodVars_none hV
  have k0 := h0
  have lt0 : ∀ x ∈ p0, x.block < W.heap.size := by obtain ⟨m, hm⟩ := k0; exact DataW.trod_lt m _ _ _ hm
  obtain ⟨rr0, rfl, wrr0⟩ := Go.Proofs.YtbbhnbdekblghaaGreat.W.open_a23 (hval 0 39 v0 rfl rfl) h0
  clear hA0 hval0
  refine (walk rr0 W wrr0).mono fun e W' ⟨he, bel⟩ => ?_
  subst he
  exact ⟨_, rfl, _, _, _, [], _, [], hW', trodAll_mk1 (shut_bool Tryz.underlying4 _), (trodAll_cons_mk (Below.trod laidOut (by kernel_rfl) (of_decide_eq_true (by kernel_rfl)) k0 bel lt0) trodAll_mk0), rfl, bel.frame _, fun h => by cases h⟩

theorem over : Rows.catalogNilRow.holds Tryz.pinned (OpenSpec.ofChange Rows.catalogNilSpec) :=
  OpenClaim.holds_of_wide 6 Tryz.f6 rfl rfl rfl rfl rfl rfl rfl ⟨rfl, rfl, rfl, rfl, rfl⟩ rfl rfl rfl rfl rfl (by kernel_rfl) Tryz.func6 (by kernel_rfl)
    (of_decide_eq_true (by kernel_rfl)) (by unfold Func.isWrapper; first | (rw [if_pos (by decide +kernel)]; kernel_rfl) | (rw [if_neg (by decide +kernel)]; exact ⟨rfl, rfl⟩))
    (fun os started H enc _ => lifted os started H enc)

/-- The statement. -/
theorem proved : Rows.CatalogNilSaid := over
#print axioms proved

end Go.Proofs.YtbbhnbdekblghaaGreat.catalogNil
