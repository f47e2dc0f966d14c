/- Law 23: made. Law 23: large. Law 23: made, whatever the act. -/
import Derived.Test.YtgogackkeodciaaGreatCgV
import Derived.Test.YtgogackkeodciaaGreatOpenB23
import Derived.Deep.LoopGhost
section
namespace Go.Proofs.YtgogackkeodciaaGreat.W
open Go.RowKit Go.Sort
open Go.Proofs.YtgogackkeodciaaGreat.M Go.Proofs.YtgogackkeodciaaGreat.D Go.Proofs.YtgogackkeodciaaGreat.Z
set_option linter.unusedVariables false
set_option linter.unusedSimpArgs false

set_option maxRecDepth 100000 in
set_option maxHeartbeats 2000000 in
theorem made_0 {B0 : Nat} (cb : Nat) (m : Option Nat) (T : List To) (n : Int) (c : Nat) (k : Int) (nm : ByteArray) (pa ag sz : Int) (co : Bool) (pn : ByteArray) (pp g q s nx : Int) (tb : ByteArray) (fk : Int) (fp : ByteArray) (w : World) (h : CaAt B0 w cb m T n c) (hk : k = 0) (A1 : Int) (A2 : ByteArray) (A3 : Int) (hr : createF T n ⟨nm, pa, ag, sz, co⟩ = (A1, A2, A3)) :
    Calls Tryz.prog 9 #[.pointer (some ⟨cb, 0, none⟩), .agg #[.int .i64 k, .string nm, .int .i64 pa, .int .i64 ag, .int .i64 sz, .bool co, .string pn, .int .i64 pp, .int .i64 g, .int .i64 q, .int .i64 s, .int .i64 nx, .string tb, .int .i64 fk, .string fp]] w fun e w' => e = .returned (.tuple #[.agg #[.int .i64 A1, .string A2], .int .i64 A3]) ∧ Below w.heap.size w w' := by
  obtain ⟨V, hV⟩ : ∃ V, Hid (V = (w.alloc (.cells #[.int .i64 k, .string nm, .int .i64 pa, .int .i64 ag, .int .i64 sz, .bool co, .string pn, .int .i64 pp, .int .i64 g, .int .i64 q, .int .i64 s, .int .i64 nx, .string tb, .int .i64 fk, .string fp] 39)).alloc (.cells #[.int .i64 0, .string ⟨#[]⟩] 37)) := ⟨_, Lib.hid rfl⟩
  have hB : Below w.heap.size w V := by rw [hV.out]; exact grewAlloc (grewAlloc (Below.refl _ _) _) _
  have hX : Whole V w.heap.size 39 [.int .i64 k, .string nm, .int .i64 pa, .int .i64 ag, .int .i64 sz, .bool co, .string pn, .int .i64 pp, .int .i64 g, .int .i64 q, .int .i64 s, .int .i64 nx, .string tb, .int .i64 fk, .string fp] := by rw [hV.out]; exact (Whole.new w _ _).alloc _
  have hR : Whole V (w.heap.size + 1) 37 [.int .i64 0, .string ⟨#[]⟩] := by
    rw [hV.out]
    have := Whole.new (w.alloc (.cells #[.int .i64 k, .string nm, .int .i64 pa, .int .i64 ag, .int .i64 sz, .bool co, .string pn, .int .i64 pp, .int .i64 g, .int .i64 q, .int .i64 s, .int .i64 nx, .string tb, .int .i64 fk, .string fp] 39)) 37 [.int .i64 0, .string ⟨#[]⟩]
    simpa using this
  obtain ⟨xb, hxb⟩ : ∃ q, Hid (w.heap.size = q) := ⟨_, Lib.hid rfl⟩
  obtain ⟨rb, hrb⟩ : ∃ q, Hid (w.heap.size + 1 = q) := ⟨_, Lib.hid rfl⟩
  rw [hxb.out] at hX
  rw [hrb.out] at hR
  have hrw : w.heap.size ≤ rb := by have := hrb.out; omega
  have x0 : V.cell? ⟨xb, 0, none⟩ = some (.int .i64 k) := hX.cell 0
  have x1 : V.cell? ⟨xb, 1, none⟩ = some (.string nm) := hX.cell 1
  have x2 : V.cell? ⟨xb, 2, none⟩ = some (.int .i64 pa) := hX.cell 2
  have x3 : V.cell? ⟨xb, 3, none⟩ = some (.int .i64 ag) := hX.cell 3
  have x4 : V.cell? ⟨xb, 4, none⟩ = some (.int .i64 sz) := hX.cell 4
  have x5 : V.cell? ⟨xb, 5, none⟩ = some (.bool co) := hX.cell 5
  have x6 : V.cell? ⟨xb, 6, none⟩ = some (.string pn) := hX.cell 6
  have x7 : V.cell? ⟨xb, 7, none⟩ = some (.int .i64 pp) := hX.cell 7
  have x8 : V.cell? ⟨xb, 8, none⟩ = some (.int .i64 g) := hX.cell 8
  have x9 : V.cell? ⟨xb, 9, none⟩ = some (.int .i64 q) := hX.cell 9
  have x10 : V.cell? ⟨xb, 10, none⟩ = some (.int .i64 s) := hX.cell 10
  have x11 : V.cell? ⟨xb, 11, none⟩ = some (.int .i64 nx) := hX.cell 11
  have x12 : V.cell? ⟨xb, 12, none⟩ = some (.string tb) := hX.cell 12
  have x13 : V.cell? ⟨xb, 13, none⟩ = some (.int .i64 fk) := hX.cell 13
  have x14 : V.cell? ⟨xb, 14, none⟩ = some (.string fp) := hX.cell 14
  have hin : Hid (True ∧ Whole V rb 37 [.int .i64 0, .string ⟨#[]⟩]) := Lib.hid ⟨trivial, hR⟩
  subst hk
  have hc : Hid (∀ W, Below V.heap.size V W → Calls Tryz.prog 18 #[.pointer (some ⟨cb, 0, none⟩), .agg #[.string nm, .int .i64 pa, .int .i64 ag, .int .i64 sz, .bool co]] W fun e w' => e = .returned (.tuple #[.agg #[.int .i64 A1, .string A2], .int .i64 A3]) ∧ Below W.heap.size W w') := Lib.hid (fun W hb => by
    have := create23_any cb m T n c ⟨nm, pa, ag, sz, co⟩ W ((h.below hB).below hb)
    rw [hr] at this
    exact this)
  replace hB := Lib.hid hB
  clear hX hR h
  go_enter Tryz.func9, Tryz.ntmps9
  go_upto_region 1 with fail
  rw [← show V = _ from hV.out, hrb.out, hxb.out]
  clear hV hrb hxb
  go_wp2_with (go_at_call 18; refine (hc.out _ (by first | exact Below.refl _ _ | exact (Below.refl _ _).drew)).mono ?_; rintro _ w2 ⟨rfl, b2⟩; have hR9 := hin.out.2.below b2 hin.out.2.lt; have r0 : w2.cell? ⟨rb, 0, none⟩ = some (.int .i64 0) := hR9.cell 0; have r1 : w2.cell? ⟨rb, 1, none⟩ = some (.string ⟨#[]⟩) := hR9.cell 1; have f0 := hR9.frozen 0; have f1 := hR9.frozen 1; have hend : Hid (Whole (w2.setCells rb 0 [.int .i64 A1, .string A2]) rb 37 [.int .i64 A1, .string A2]) := Lib.hid (whole_all hR9 rfl); have hB9 : Hid (Below w.heap.size w (w2.setCells rb 0 [.int .i64 A1, .string A2])) := Lib.hid (below_store (grew hB.out b2) hrw (Nat.le_refl _) 0 [.int .i64 A1, .string A2]); clear hR9 b2)
  exact bodyPost_ret (result_cell_tmp Tryz.results9 rfl rfl hend.out.range Tryz.underlying37 rfl sizeFr23) rfl ⟨rfl, hB9.out⟩
set_option maxRecDepth 100000 in
set_option maxHeartbeats 2000000 in
theorem made_1 {B0 : Nat} (cb : Nat) (m : Option Nat) (T : List To) (n : Int) (c : Nat) (k : Int) (nm : ByteArray) (pa ag sz : Int) (co : Bool) (pn : ByteArray) (pp g q s nx : Int) (tb : ByteArray) (fk : Int) (fp : ByteArray) (w : World) (h : CaAt B0 w cb m T n c) (hk : k = 1) (hn : nm.size ≤ 100000) (A1 : Int) (A2 : ByteArray) (A3 : Int) (hr : deleteF T nm = (A1, A2, A3)) :
    Calls Tryz.prog 9 #[.pointer (some ⟨cb, 0, none⟩), .agg #[.int .i64 k, .string nm, .int .i64 pa, .int .i64 ag, .int .i64 sz, .bool co, .string pn, .int .i64 pp, .int .i64 g, .int .i64 q, .int .i64 s, .int .i64 nx, .string tb, .int .i64 fk, .string fp]] w fun e w' => e = .returned (.tuple #[.agg #[.int .i64 A1, .string A2], .int .i64 A3]) ∧ Below w.heap.size w w' := by
  obtain ⟨V, hV⟩ : ∃ V, Hid (V = (w.alloc (.cells #[.int .i64 k, .string nm, .int .i64 pa, .int .i64 ag, .int .i64 sz, .bool co, .string pn, .int .i64 pp, .int .i64 g, .int .i64 q, .int .i64 s, .int .i64 nx, .string tb, .int .i64 fk, .string fp] 39)).alloc (.cells #[.int .i64 0, .string ⟨#[]⟩] 37)) := ⟨_, Lib.hid rfl⟩
  have hB : Below w.heap.size w V := by rw [hV.out]; exact grewAlloc (grewAlloc (Below.refl _ _) _) _
  have hX : Whole V w.heap.size 39 [.int .i64 k, .string nm, .int .i64 pa, .int .i64 ag, .int .i64 sz, .bool co, .string pn, .int .i64 pp, .int .i64 g, .int .i64 q, .int .i64 s, .int .i64 nx, .string tb, .int .i64 fk, .string fp] := by rw [hV.out]; exact (Whole.new w _ _).alloc _
  have hR : Whole V (w.heap.size + 1) 37 [.int .i64 0, .string ⟨#[]⟩] := by
    rw [hV.out]
    have := Whole.new (w.alloc (.cells #[.int .i64 k, .string nm, .int .i64 pa, .int .i64 ag, .int .i64 sz, .bool co, .string pn, .int .i64 pp, .int .i64 g, .int .i64 q, .int .i64 s, .int .i64 nx, .string tb, .int .i64 fk, .string fp] 39)) 37 [.int .i64 0, .string ⟨#[]⟩]
    simpa using this
  obtain ⟨xb, hxb⟩ : ∃ q, Hid (w.heap.size = q) := ⟨_, Lib.hid rfl⟩
  obtain ⟨rb, hrb⟩ : ∃ q, Hid (w.heap.size + 1 = q) := ⟨_, Lib.hid rfl⟩
  rw [hxb.out] at hX
  rw [hrb.out] at hR
  have hrw : w.heap.size ≤ rb := by have := hrb.out; omega
  have x0 : V.cell? ⟨xb, 0, none⟩ = some (.int .i64 k) := hX.cell 0
  have x1 : V.cell? ⟨xb, 1, none⟩ = some (.string nm) := hX.cell 1
  have x2 : V.cell? ⟨xb, 2, none⟩ = some (.int .i64 pa) := hX.cell 2
  have x3 : V.cell? ⟨xb, 3, none⟩ = some (.int .i64 ag) := hX.cell 3
  have x4 : V.cell? ⟨xb, 4, none⟩ = some (.int .i64 sz) := hX.cell 4
  have x5 : V.cell? ⟨xb, 5, none⟩ = some (.bool co) := hX.cell 5
  have x6 : V.cell? ⟨xb, 6, none⟩ = some (.string pn) := hX.cell 6
  have x7 : V.cell? ⟨xb, 7, none⟩ = some (.int .i64 pp) := hX.cell 7
  have x8 : V.cell? ⟨xb, 8, none⟩ = some (.int .i64 g) := hX.cell 8
  have x9 : V.cell? ⟨xb, 9, none⟩ = some (.int .i64 q) := hX.cell 9
  have x10 : V.cell? ⟨xb, 10, none⟩ = some (.int .i64 s) := hX.cell 10
  have x11 : V.cell? ⟨xb, 11, none⟩ = some (.int .i64 nx) := hX.cell 11
  have x12 : V.cell? ⟨xb, 12, none⟩ = some (.string tb) := hX.cell 12
  have x13 : V.cell? ⟨xb, 13, none⟩ = some (.int .i64 fk) := hX.cell 13
  have x14 : V.cell? ⟨xb, 14, none⟩ = some (.string fp) := hX.cell 14
  have hin : Hid (True ∧ Whole V rb 37 [.int .i64 0, .string ⟨#[]⟩]) := Lib.hid ⟨trivial, hR⟩
  subst hk
  have hc : Hid (∀ W, Below V.heap.size V W → Calls Tryz.prog 21 #[.pointer (some ⟨cb, 0, none⟩), .string nm] W fun e w' => e = .returned (.tuple #[.agg #[.int .i64 A1, .string A2], .int .i64 A3]) ∧ Below W.heap.size W w') := Lib.hid (fun W hb => by
    have := delete23_any cb m T n c nm W ((h.below hB).below hb) hn
    rw [hr] at this
    exact this)
  replace hB := Lib.hid hB
  clear hX hR h
  go_enter Tryz.func9, Tryz.ntmps9
  go_upto_region 1 with fail
  rw [← show V = _ from hV.out, hrb.out, hxb.out]
  clear hV hrb hxb
  go_wp2_with (go_at_call 21; refine (hc.out _ (by first | exact Below.refl _ _ | exact (Below.refl _ _).drew)).mono ?_; rintro _ w2 ⟨rfl, b2⟩; have hR9 := hin.out.2.below b2 hin.out.2.lt; have r0 : w2.cell? ⟨rb, 0, none⟩ = some (.int .i64 0) := hR9.cell 0; have r1 : w2.cell? ⟨rb, 1, none⟩ = some (.string ⟨#[]⟩) := hR9.cell 1; have f0 := hR9.frozen 0; have f1 := hR9.frozen 1; have hend : Hid (Whole (w2.setCells rb 0 [.int .i64 A1, .string A2]) rb 37 [.int .i64 A1, .string A2]) := Lib.hid (whole_all hR9 rfl); have hB9 : Hid (Below w.heap.size w (w2.setCells rb 0 [.int .i64 A1, .string A2])) := Lib.hid (below_store (grew hB.out b2) hrw (Nat.le_refl _) 0 [.int .i64 A1, .string A2]); clear hR9 b2)
  exact bodyPost_ret (result_cell_tmp Tryz.results9 rfl rfl hend.out.range Tryz.underlying37 rfl sizeFr23) rfl ⟨rfl, hB9.out⟩
set_option maxRecDepth 100000 in
set_option maxHeartbeats 2000000 in
theorem made_2 {B0 : Nat} (cb : Nat) (m : Option Nat) (T : List To) (n : Int) (c : Nat) (k : Int) (nm : ByteArray) (pa ag sz : Int) (co : Bool) (pn : ByteArray) (pp g q s nx : Int) (tb : ByteArray) (fk : Int) (fp : ByteArray) (w : World) (h : CaAt B0 w cb m T n c) (hk : k = 2) (hn : pn.size ≤ 100000) (h1 : (Lit.int .i64 pp).wf = true) (hp : (metaT T pn pp).isSome = true → 0 ≤ pp ∧ pp ≤ 1099511627776) (ht : tb.size ≤ 100000) (A1 : Int) (A2 : ByteArray) (A3 : Int) (hr : putE T pn pp ⟨g, q, s, nx, tb⟩ = (A1, A2, A3)) :
    Calls Tryz.prog 9 #[.pointer (some ⟨cb, 0, none⟩), .agg #[.int .i64 k, .string nm, .int .i64 pa, .int .i64 ag, .int .i64 sz, .bool co, .string pn, .int .i64 pp, .int .i64 g, .int .i64 q, .int .i64 s, .int .i64 nx, .string tb, .int .i64 fk, .string fp]] w fun e w' => e = .returned (.tuple #[.agg #[.int .i64 A1, .string A2], .int .i64 A3]) ∧ Below w.heap.size w w' := by
  obtain ⟨V, hV⟩ : ∃ V, Hid (V = (w.alloc (.cells #[.int .i64 k, .string nm, .int .i64 pa, .int .i64 ag, .int .i64 sz, .bool co, .string pn, .int .i64 pp, .int .i64 g, .int .i64 q, .int .i64 s, .int .i64 nx, .string tb, .int .i64 fk, .string fp] 39)).alloc (.cells #[.int .i64 0, .string ⟨#[]⟩] 37)) := ⟨_, Lib.hid rfl⟩
  have hB : Below w.heap.size w V := by rw [hV.out]; exact grewAlloc (grewAlloc (Below.refl _ _) _) _
  have hX : Whole V w.heap.size 39 [.int .i64 k, .string nm, .int .i64 pa, .int .i64 ag, .int .i64 sz, .bool co, .string pn, .int .i64 pp, .int .i64 g, .int .i64 q, .int .i64 s, .int .i64 nx, .string tb, .int .i64 fk, .string fp] := by rw [hV.out]; exact (Whole.new w _ _).alloc _
  have hR : Whole V (w.heap.size + 1) 37 [.int .i64 0, .string ⟨#[]⟩] := by
    rw [hV.out]
    have := Whole.new (w.alloc (.cells #[.int .i64 k, .string nm, .int .i64 pa, .int .i64 ag, .int .i64 sz, .bool co, .string pn, .int .i64 pp, .int .i64 g, .int .i64 q, .int .i64 s, .int .i64 nx, .string tb, .int .i64 fk, .string fp] 39)) 37 [.int .i64 0, .string ⟨#[]⟩]
    simpa using this
  obtain ⟨xb, hxb⟩ : ∃ q, Hid (w.heap.size = q) := ⟨_, Lib.hid rfl⟩
  obtain ⟨rb, hrb⟩ : ∃ q, Hid (w.heap.size + 1 = q) := ⟨_, Lib.hid rfl⟩
  rw [hxb.out] at hX
  rw [hrb.out] at hR
  have hrw : w.heap.size ≤ rb := by have := hrb.out; omega
  have x0 : V.cell? ⟨xb, 0, none⟩ = some (.int .i64 k) := hX.cell 0
  have x1 : V.cell? ⟨xb, 1, none⟩ = some (.string nm) := hX.cell 1
  have x2 : V.cell? ⟨xb, 2, none⟩ = some (.int .i64 pa) := hX.cell 2
  have x3 : V.cell? ⟨xb, 3, none⟩ = some (.int .i64 ag) := hX.cell 3
  have x4 : V.cell? ⟨xb, 4, none⟩ = some (.int .i64 sz) := hX.cell 4
  have x5 : V.cell? ⟨xb, 5, none⟩ = some (.bool co) := hX.cell 5
  have x6 : V.cell? ⟨xb, 6, none⟩ = some (.string pn) := hX.cell 6
  have x7 : V.cell? ⟨xb, 7, none⟩ = some (.int .i64 pp) := hX.cell 7
  have x8 : V.cell? ⟨xb, 8, none⟩ = some (.int .i64 g) := hX.cell 8
  have x9 : V.cell? ⟨xb, 9, none⟩ = some (.int .i64 q) := hX.cell 9
  have x10 : V.cell? ⟨xb, 10, none⟩ = some (.int .i64 s) := hX.cell 10
  have x11 : V.cell? ⟨xb, 11, none⟩ = some (.int .i64 nx) := hX.cell 11
  have x12 : V.cell? ⟨xb, 12, none⟩ = some (.string tb) := hX.cell 12
  have x13 : V.cell? ⟨xb, 13, none⟩ = some (.int .i64 fk) := hX.cell 13
  have x14 : V.cell? ⟨xb, 14, none⟩ = some (.string fp) := hX.cell 14
  have hin : Hid (True ∧ Whole V rb 37 [.int .i64 0, .string ⟨#[]⟩]) := Lib.hid ⟨trivial, hR⟩
  subst hk
  have hc : Hid (∀ W, Below V.heap.size V W → Calls Tryz.prog 22 #[.pointer (some ⟨cb, 0, none⟩), .agg #[.string pn, .int .i64 pp], .agg #[.int .i64 g, .int .i64 q, .int .i64 s, .int .i64 nx, .string tb]] W fun e w' => e = .returned (.tuple #[.agg #[.int .i64 A1, .string A2], .int .i64 A3]) ∧ Below W.heap.size W w') := Lib.hid (fun W hb => by
    have := put23C_any cb m T n c pn pp ⟨g, q, s, nx, tb⟩ W ((h.below hB).below hb) hn h1 hp ht
    rw [hr] at this
    exact this)
  replace hB := Lib.hid hB
  clear hX hR h
  go_enter Tryz.func9, Tryz.ntmps9
  go_upto_region 1 with fail
  rw [← show V = _ from hV.out, hrb.out, hxb.out]
  clear hV hrb hxb
  go_wp2_with (go_at_call 22; refine (hc.out _ (by first | exact Below.refl _ _ | exact (Below.refl _ _).drew)).mono ?_; rintro _ w2 ⟨rfl, b2⟩; have hR9 := hin.out.2.below b2 hin.out.2.lt; have r0 : w2.cell? ⟨rb, 0, none⟩ = some (.int .i64 0) := hR9.cell 0; have r1 : w2.cell? ⟨rb, 1, none⟩ = some (.string ⟨#[]⟩) := hR9.cell 1; have f0 := hR9.frozen 0; have f1 := hR9.frozen 1; have hend : Hid (Whole (w2.setCells rb 0 [.int .i64 A1, .string A2]) rb 37 [.int .i64 A1, .string A2]) := Lib.hid (whole_all hR9 rfl); have hB9 : Hid (Below w.heap.size w (w2.setCells rb 0 [.int .i64 A1, .string A2])) := Lib.hid (below_store (grew hB.out b2) hrw (Nat.le_refl _) 0 [.int .i64 A1, .string A2]); clear hR9 b2)
  exact bodyPost_ret (result_cell_tmp Tryz.results9 rfl rfl hend.out.range Tryz.underlying37 rfl sizeFr23) rfl ⟨rfl, hB9.out⟩
set_option maxRecDepth 100000 in
set_option maxHeartbeats 2000000 in
theorem made_3 {B0 : Nat} (cb : Nat) (m : Option Nat) (T : List To) (n : Int) (c : Nat) (k : Int) (nm : ByteArray) (pa ag sz : Int) (co : Bool) (pn : ByteArray) (pp g q s nx : Int) (tb : ByteArray) (fk : Int) (fp : ByteArray) (w : World) (h : CaAt B0 w cb m T n c) (k0 : ¬ k = 0) (k1 : ¬ k = 1) (k2 : ¬ k = 2) (A1 : Int) (A2 : ByteArray) (A3 : Int) (hr : (fk, fp, (0 : Int)) = (A1, A2, A3)) :
    Calls Tryz.prog 9 #[.pointer (some ⟨cb, 0, none⟩), .agg #[.int .i64 k, .string nm, .int .i64 pa, .int .i64 ag, .int .i64 sz, .bool co, .string pn, .int .i64 pp, .int .i64 g, .int .i64 q, .int .i64 s, .int .i64 nx, .string tb, .int .i64 fk, .string fp]] w fun e w' => e = .returned (.tuple #[.agg #[.int .i64 A1, .string A2], .int .i64 A3]) ∧ Below w.heap.size w w' := by
  obtain ⟨V, hV⟩ : ∃ V, Hid (V = (w.alloc (.cells #[.int .i64 k, .string nm, .int .i64 pa, .int .i64 ag, .int .i64 sz, .bool co, .string pn, .int .i64 pp, .int .i64 g, .int .i64 q, .int .i64 s, .int .i64 nx, .string tb, .int .i64 fk, .string fp] 39)).alloc (.cells #[.int .i64 0, .string ⟨#[]⟩] 37)) := ⟨_, Lib.hid rfl⟩
  have hB : Below w.heap.size w V := by rw [hV.out]; exact grewAlloc (grewAlloc (Below.refl _ _) _) _
  have hX : Whole V w.heap.size 39 [.int .i64 k, .string nm, .int .i64 pa, .int .i64 ag, .int .i64 sz, .bool co, .string pn, .int .i64 pp, .int .i64 g, .int .i64 q, .int .i64 s, .int .i64 nx, .string tb, .int .i64 fk, .string fp] := by rw [hV.out]; exact (Whole.new w _ _).alloc _
  have hR : Whole V (w.heap.size + 1) 37 [.int .i64 0, .string ⟨#[]⟩] := by
    rw [hV.out]
    have := Whole.new (w.alloc (.cells #[.int .i64 k, .string nm, .int .i64 pa, .int .i64 ag, .int .i64 sz, .bool co, .string pn, .int .i64 pp, .int .i64 g, .int .i64 q, .int .i64 s, .int .i64 nx, .string tb, .int .i64 fk, .string fp] 39)) 37 [.int .i64 0, .string ⟨#[]⟩]
    simpa using this
  obtain ⟨xb, hxb⟩ : ∃ q, Hid (w.heap.size = q) := ⟨_, Lib.hid rfl⟩
  obtain ⟨rb, hrb⟩ : ∃ q, Hid (w.heap.size + 1 = q) := ⟨_, Lib.hid rfl⟩
  rw [hxb.out] at hX
  rw [hrb.out] at hR
  have hrw : w.heap.size ≤ rb := by have := hrb.out; omega
  have x0 : V.cell? ⟨xb, 0, none⟩ = some (.int .i64 k) := hX.cell 0
  have x1 : V.cell? ⟨xb, 1, none⟩ = some (.string nm) := hX.cell 1
  have x2 : V.cell? ⟨xb, 2, none⟩ = some (.int .i64 pa) := hX.cell 2
  have x3 : V.cell? ⟨xb, 3, none⟩ = some (.int .i64 ag) := hX.cell 3
  have x4 : V.cell? ⟨xb, 4, none⟩ = some (.int .i64 sz) := hX.cell 4
  have x5 : V.cell? ⟨xb, 5, none⟩ = some (.bool co) := hX.cell 5
  have x6 : V.cell? ⟨xb, 6, none⟩ = some (.string pn) := hX.cell 6
  have x7 : V.cell? ⟨xb, 7, none⟩ = some (.int .i64 pp) := hX.cell 7
  have x8 : V.cell? ⟨xb, 8, none⟩ = some (.int .i64 g) := hX.cell 8
  have x9 : V.cell? ⟨xb, 9, none⟩ = some (.int .i64 q) := hX.cell 9
  have x10 : V.cell? ⟨xb, 10, none⟩ = some (.int .i64 s) := hX.cell 10
  have x11 : V.cell? ⟨xb, 11, none⟩ = some (.int .i64 nx) := hX.cell 11
  have x12 : V.cell? ⟨xb, 12, none⟩ = some (.string tb) := hX.cell 12
  have x13 : V.cell? ⟨xb, 13, none⟩ = some (.int .i64 fk) := hX.cell 13
  have x14 : V.cell? ⟨xb, 14, none⟩ = some (.string fp) := hX.cell 14
  have hin : Hid (True ∧ Whole V rb 37 [.int .i64 0, .string ⟨#[]⟩]) := Lib.hid ⟨trivial, hR⟩
  obtain ⟨rfl, rfl, rfl⟩ : fk = A1 ∧ fp = A2 ∧ (0 : Int) = A3 := by simpa using hr
  replace hB := Lib.hid hB
  clear hX hR h
  go_enter Tryz.func9, Tryz.ntmps9
  go_upto_region 1 with fail
  rw [← show V = _ from hV.out, hrb.out, hxb.out]
  clear hV hrb hxb
  have b2 := Below.refl V.heap.size V
  have hR9 := hin.out.2.below b2 hin.out.2.lt
  have r0 : V.cell? ⟨rb, 0, none⟩ = some (.int .i64 0) := hR9.cell 0
  have r1 : V.cell? ⟨rb, 1, none⟩ = some (.string ⟨#[]⟩) := hR9.cell 1
  have f0 := hR9.frozen 0
  have f1 := hR9.frozen 1
  have hend : Hid (Whole (V.setCells rb 0 [.int .i64 fk, .string fp]) rb 37 [.int .i64 fk, .string fp]) := Lib.hid (whole_all hR9 rfl)
  have hB9 : Hid (Below w.heap.size w (V.setCells rb 0 [.int .i64 fk, .string fp])) := Lib.hid (below_store (grew hB.out b2) hrw (Nat.le_refl _) 0 [.int .i64 fk, .string fp])
  clear hR9 b2
  go_wp2_with fail
  exact bodyPost_ret (result_cell_tmp Tryz.results9 rfl rfl hend.out.range Tryz.underlying37 rfl sizeFr23) rfl ⟨rfl, hB9.out⟩
end Go.Proofs.YtgogackkeodciaaGreat.W
end
section
namespace Go.Proofs.YtgogackkeodciaaGreat.W
open Go.RowKit Go.Sort
open Go.Proofs.YtgogackkeodciaaGreat.M Go.Proofs.YtgogackkeodciaaGreat.D Go.Proofs.YtgogackkeodciaaGreat.Z
set_option linter.unusedVariables false
set_option linter.unusedSimpArgs false

/-- A call that is not too long to go through. -/
def A23.small (x : A23) : Prop := x.s.nm.size ≤ 100 ∧ x.pn.size ≤ 100 ∧ x.m.tab.size ≤ 500 ∧ x.fp.size ≤ 600
def LargeP23 (w : World) (xs : List A23) (e : Ending) (w' : World) : Prop := ∃ B, e = .returned (.bool B) ∧ (B = false → xs.length ≤ 30 ∧ ∀ x ∈ xs, x.small) ∧ Below w.heap.size w w'
set_option maxRecDepth 100000 in
set_option maxHeartbeats 4000000 in
theorem large23_any (va : Option Addr) (n c : Nat) (xs : List A23) (w : World) (h : A23In w va n xs) :
    Calls Tryz.prog 6 #[.slice va n c] w (LargeP23 w xs) := by
  obtain ⟨hn, hat, hwf⟩ := h
  have hyes : Hid (∀ W, Below w.heap.size w W → LargeP23 w xs (.returned (.bool true)) W) := Lib.hid (fun W hb => ⟨true, rfl, (fun e => by cases e), hb⟩)
  by_cases hl : 30 < n
  · have hli : (30 : Int) < (n : Int) := by omega
    have hy := hyes.out w (Below.refl _ _)
    replace hy := Lib.hid hy
    clear hat hwf hn hyes
    go_enter Tryz.func6, Tryz.ntmps6
    go_wp2_with fail
    go_ret
    exact hy.out
  have hli : (n : Int) ≤ 30 := by omega
  have hno : Hid (∀ W, (∀ (i : Nat) (x : A23), i < n → xs[i]? = some x → x.small) → Below w.heap.size w W → LargeP23 w xs (.returned (.bool false)) W) := Lib.hid (fun W h1 hb => ⟨false, rfl, fun _ => ⟨by omega, fun x hx => by
    obtain ⟨i, hi⟩ := List.getElem?_of_mem hx
    exact h1 i x (by rw [← hn]; exact (List.getElem?_eq_some_iff.1 hi).1) hi⟩, hb⟩)
  have hrow : Hid (∀ (i : Nat) (x : A23), xs[i]? = some x → ∀ W, Below w.heap.size w W → ∃ b o, va = some ⟨b, o, none⟩ ∧ ∀ j v, (a23L x)[j]? = some v → W.cell? ⟨b, o + i * 15 + j, none⟩ = some v) := Lib.hid (fun i x hx W hb => by
    obtain ⟨b, o, e, h1, h2⟩ := hat i x hx
    exact ⟨b, o, e, fun j v hj => (World.cell?_of_block (a := ⟨b, o + i * 15 + j, none⟩) (hb.block b h1)).trans (h2 j v hj)⟩)
  have hlen := Lib.hid hn
  clear hat hwf hn
  go_enter Tryz.func6, Tryz.ntmps6
  go_wp2_with fail
  go_loopg [10] n (fun ga i wr => ∃ a : Nat, a ≤ n ∧ n ≤ a + ga ∧ i = .int .i64 (a : Int) ∧ Hid ((∀ (i : Nat) (x : A23), i < a → xs[i]? = some x → x.small) ∧ Below w.heap.size w wr))
  case atStart => exact ⟨0, by omega, by omega, rfl, Lib.hid ⟨fun i x hi => absurd hi (Nat.not_lt_zero _), Below.refl _ _⟩⟩
  case round =>
    obtain ⟨a, ha, hg, rfl, hrel⟩ := hrel
    generalize wr = wo at *
    generalize gk = gout at *
    by_cases hlt : a < n
    · obtain ⟨x, hx⟩ : ∃ x, xs[a]? = some x := ⟨_, List.getElem?_eq_getElem (by have := hlen.out; omega)⟩
      obtain ⟨b, ob, rfl, hcs⟩ := hrow.out a x hx wo hrel.out.2
      have hki : (a : Int) < (n : Int) := by omega
      have hnext : Hid (x.small → ∀ (i : Nat) (y : A23), i < a + 1 → xs[i]? = some y → y.small) := Lib.hid (fun e i y hi hy => by
        by_cases h5 : i < a
        · exact hrel.out.1 i y h5 hy
        · obtain rfl : i = a := by omega
          rw [hx] at hy; cases hy; exact e)
      obtain ⟨k, ⟨nm, pa, ag, sz, co⟩, pn, pp, ⟨g, q, s, nx, tb⟩, fk, fp⟩ := x
      unfold A23.small at hnext
      dsimp only at hcs hnext
      have c0 : wo.cell? ⟨b, ob + a * 15, none⟩ = some (.int .i64 k) := hcs 0 _ rfl
      have c1 : wo.cell? ⟨b, ob + a * 15 + 1, none⟩ = some (.string nm) := hcs 1 _ rfl
      have c2 : wo.cell? ⟨b, ob + a * 15 + 2, none⟩ = some (.int .i64 pa) := hcs 2 _ rfl
      have c3 : wo.cell? ⟨b, ob + a * 15 + 3, none⟩ = some (.int .i64 ag) := hcs 3 _ rfl
      have c4 : wo.cell? ⟨b, ob + a * 15 + 4, none⟩ = some (.int .i64 sz) := hcs 4 _ rfl
      have c5 : wo.cell? ⟨b, ob + a * 15 + 5, none⟩ = some (.bool co) := hcs 5 _ rfl
      have c6 : wo.cell? ⟨b, ob + a * 15 + 6, none⟩ = some (.string pn) := hcs 6 _ rfl
      have c7 : wo.cell? ⟨b, ob + a * 15 + 7, none⟩ = some (.int .i64 pp) := hcs 7 _ rfl
      have c8 : wo.cell? ⟨b, ob + a * 15 + 8, none⟩ = some (.int .i64 g) := hcs 8 _ rfl
      have c9 : wo.cell? ⟨b, ob + a * 15 + 9, none⟩ = some (.int .i64 q) := hcs 9 _ rfl
      have c10 : wo.cell? ⟨b, ob + a * 15 + 10, none⟩ = some (.int .i64 s) := hcs 10 _ rfl
      have c11 : wo.cell? ⟨b, ob + a * 15 + 11, none⟩ = some (.int .i64 nx) := hcs 11 _ rfl
      have c12 : wo.cell? ⟨b, ob + a * 15 + 12, none⟩ = some (.string tb) := hcs 12 _ rfl
      have c13 : wo.cell? ⟨b, ob + a * 15 + 13, none⟩ = some (.int .i64 fk) := hcs 13 _ rfl
      have c14 : wo.cell? ⟨b, ob + a * 15 + 14, none⟩ = some (.string fp) := hcs 14 _ rfl
      obtain ⟨W1, hW1⟩ : ∃ W1, Hid (W1 = wo.alloc (.cells #[.int .i64 k, .string nm, .int .i64 pa, .int .i64 ag, .int .i64 sz, .bool co, .string pn, .int .i64 pp, .int .i64 g, .int .i64 q, .int .i64 s, .int .i64 nx, .string tb, .int .i64 fk, .string fp] 39)) := ⟨_, Lib.hid rfl⟩
      have hB1 : Below w.heap.size w W1 := by rw [hW1.out]; exact grewAlloc hrel.out.2 _
      have hX1 : Whole W1 wo.heap.size 39 [.int .i64 k, .string nm, .int .i64 pa, .int .i64 ag, .int .i64 sz, .bool co, .string pn, .int .i64 pp, .int .i64 g, .int .i64 q, .int .i64 s, .int .i64 nx, .string tb, .int .i64 fk, .string fp] := by rw [hW1.out]; exact Whole.new wo _ _
      obtain ⟨xb, hxb⟩ : ∃ xb, Hid (wo.heap.size = xb) := ⟨_, Lib.hid rfl⟩
      rw [hxb.out] at hX1
      have y1 : W1.cell? ⟨xb, 1, none⟩ = some (.string nm) := hX1.cell 1
      have y6 : W1.cell? ⟨xb, 6, none⟩ = some (.string pn) := hX1.cell 6
      have y12 : W1.cell? ⟨xb, 12, none⟩ = some (.string tb) := hX1.cell 12
      have y14 : W1.cell? ⟨xb, 14, none⟩ = some (.string fp) := hX1.cell 14
      have hy := Lib.hid (hyes.out W1 hB1)
      replace hB1 := Lib.hid hB1
      replace hx := Lib.hid hx
      clear hrel hX1 hcs
      go_upto_region 6 with fail
      rw [← show W1 = _ from hW1.out, hxb.out]
      clear hW1 hxb c0 c1 c2 c3 c4 c5 c6 c7 c8 c9 c10 c11 c12 c13 c14
      by_cases z0 : 100 < nm.size
      · have z0i : (100 : Int) < (nm.size : Int) := by omega
        go_wp2_with fail
        go_ret
        exact hy.out
      have z0i : ¬ (100 : Int) < (nm.size : Int) := by omega
      by_cases z1 : 100 < pn.size
      · have z1i : (100 : Int) < (pn.size : Int) := by omega
        go_wp2_with fail
        go_ret
        exact hy.out
      have z1i : ¬ (100 : Int) < (pn.size : Int) := by omega
      by_cases z2 : 500 < tb.size
      · have z2i : (500 : Int) < (tb.size : Int) := by omega
        go_wp2_with fail
        go_ret
        exact hy.out
      have z2i : ¬ (500 : Int) < (tb.size : Int) := by omega
      by_cases z3 : 600 < fp.size
      · have z3i : (600 : Int) < (fp.size : Int) := by omega
        go_wp2_with fail
        go_ret
        exact hy.out
      have z3i : ¬ (600 : Int) < (fp.size : Int) := by omega
      have hnx := Lib.hid (hnext.out ⟨by omega, by omega, by omega, by omega⟩)
      clear hy hnext
      go_wp2_with fail
      go_roundg (gout - 1)
      case measure => omega
      case rel => exact ⟨a + 1, by omega, by omega, by go_num, Lib.hid ⟨hnx.out, hB1.out⟩⟩
    · have han : a = n := by omega
      subst han
      have hf := Lib.hid (hno.out wo hrel.out.1 hrel.out.2)
      have hki : ¬ (a : Int) < (a : Int) := by omega
      clear hrel hno hyes hrow
      go_wp2_with fail
      go_ret
      exact hf.out
end Go.Proofs.YtgogackkeodciaaGreat.W
end
section
namespace Go.Proofs.YtgogackkeodciaaGreat.W
open Go.RowKit Go.Sort
open Go.Proofs.YtgogackkeodciaaGreat.M Go.Proofs.YtgogackkeodciaaGreat.D Go.Proofs.YtgogackkeodciaaGreat.Z
set_option linter.unusedVariables false
set_option linter.unusedSimpArgs false

/-- The entry of a call. -/
def madeF (T : List To) (n : Int) (a : A23) : Int × ByteArray × Int := if a.k = 0 then createF T n a.s else if a.k = 1 then deleteF T a.s.nm else if a.k = 2 then putE T a.pn a.pp a.m else (a.fk, a.fp, 0)
theorem metaT_place {T : List To} {n : Int} (h : CatOk T n) {nm : ByteArray} {p : Int} (hs : (metaT T nm p).isSome = true) : 0 ≤ p ∧ p ≤ 1099511627776 := by
  unfold metaT at hs
  cases hf : findT T nm with
  | none => rw [hf] at hs; cases hs
  | some x =>
    rw [hf] at hs
    dsimp only at hs
    split at hs
    · rename_i h0
      obtain ⟨h1, h2⟩ := h.find.1 hf
      have h3 := (h.ok x h1).2.2.1
      have h4 : p.toNat < x.ms.length := by
        obtain ⟨y, hy⟩ := Option.isSome_iff_exists.1 hs
        exact (List.getElem?_eq_some_iff.1 hy).1
      have h5 := (h.ok x h1).1
      have h6 : x.sp.parts ≤ 4 := (show Sp.ok x.sp from of_decide_eq_true h5).2.1.2
      exact ⟨h0, by omega⟩
    · cases hs
theorem madeF_size {T : List To} {n : Int} {a : A23} (hs : a.small) : (madeF T n a).2.1.size ≤ 5000 := by
  obtain ⟨s1, s2, s3, s4⟩ := hs
  unfold madeF
  split
  · unfold createF
    split
    · exact Nat.zero_le _
    · rename_i hm
      split
      · exact Nat.zero_le _
      · split
        · exact Nat.zero_le _
        · have := makeE_len (v := lowT T) (g := n + 1) (x := a.s) (by simpa using hm)
          show (B _).size ≤ _
          rw [B_size]; omega
  · split
    · unfold deleteF
      split
      · show (B _).size ≤ _
        have := textL_small s1
        unfold nk; omega
      · exact Nat.zero_le _
    · split
      · unfold putE
        split
        · exact Nat.zero_le _
        · split
          · exact Nat.zero_le _
          · show (B _).size ≤ _
            have h1 := textL_small s2
            have h2 := textL_small s3
            have h3 := chainsL_len [a.pp, a.m.gen, a.m.seq, a.m.start, a.m.next]
            rw [B_size] at h1 h2 ⊢
            unfold metaE nk
            simp only [List.length_append, List.length_cons, List.length_nil] at h3 ⊢
            unfold chainsL at h3
            simp at h3 ⊢
            omega
      · show a.fp.size ≤ _
        omega
theorem made_any {B0 : Nat} (cb : Nat) (m : Option Nat) (T : List To) (n : Int) (c : Nat) (a : A23) (w : World) (h : CaAt B0 w cb m T n c) (hs : a.small) (hw : a.wf) (A1 : Int) (A2 : ByteArray) (A3 : Int) (hr : madeF T n a = (A1, A2, A3)) :
    Calls Tryz.prog 9 #[.pointer (some ⟨cb, 0, none⟩), .agg #[.int .i64 a.k, .string a.s.nm, .int .i64 a.s.parts, .int .i64 a.s.age, .int .i64 a.s.size, .bool a.s.comp, .string a.pn, .int .i64 a.pp, .int .i64 a.m.gen, .int .i64 a.m.seq, .int .i64 a.m.start, .int .i64 a.m.next, .string a.m.tab, .int .i64 a.fk, .string a.fp]] w fun e w' => e = .returned (.tuple #[.agg #[.int .i64 A1, .string A2], .int .i64 A3]) ∧ Below w.heap.size w w' := by
  obtain ⟨k, ⟨nm, pa, ag, sz, co⟩, pn, pp, ⟨g, q, s, nx, tb⟩, fk, fp⟩ := a
  obtain ⟨s1, s2, s3, s4⟩ := hs
  unfold madeF at hr
  dsimp only at hr s1 s2 s3 s4 ⊢
  by_cases k0 : k = 0
  · rw [if_pos k0] at hr
    exact made_0 cb m T n c k nm pa ag sz co pn pp g q s nx tb fk fp w h k0 A1 A2 A3 hr
  rw [if_neg k0] at hr
  by_cases k1 : k = 1
  · rw [if_pos k1] at hr
    exact made_1 cb m T n c k nm pa ag sz co pn pp g q s nx tb fk fp w h k1 (by omega) A1 A2 A3 hr
  rw [if_neg k1] at hr
  by_cases k2 : k = 2
  · rw [if_pos k2] at hr
    exact made_2 cb m T n c k nm pa ag sz co pn pp g q s nx tb fk fp w h k2 (by omega) hw.1.2.1 (metaT_place h.ok) (by omega) A1 A2 A3 hr
  rw [if_neg k2] at hr
  exact made_3 cb m T n c k nm pa ag sz co pn pp g q s nx tb fk fp w h k0 k1 k2 A1 A2 A3 hr
end Go.Proofs.YtgogackkeodciaaGreat.W
end
