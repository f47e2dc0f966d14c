/- Package catalog: the reader of a topic; setCount, dropTopic. -/
import Derived.Test.YtgogackkeodciaaGreatCgD
namespace Go.Proofs.YtgogackkeodciaaGreat.W
open Go.RowKit Go.Sort
open Go.Proofs.YtgogackkeodciaaGreat.M Go.Proofs.YtgogackkeodciaaGreat.D Go.Proofs.YtgogackkeodciaaGreat.Z
set_option linter.unusedVariables false
set_option linter.unusedSimpArgs false

set_option maxRecDepth 100000 in
set_option maxHeartbeats 2000000 in
theorem spec_core (xb cb k : Nat) (rest : ByteArray) (brk : Bool) (e : Int) (x : Sp) (w : World) (hW : Whole w xb 82 (enL cb rest brk)) (hz : rest.size ≤ 100000) (hk : k ≤ rest.size)
    (hunA : ∀ V, Calls Tryz.prog 107 #[.string rest] V fun r w' => r = .returned (.tuple #[.agg #[.string x.nm, .int .i64 x.parts, .int .i64 x.age, .int .i64 x.size, .bool x.comp], .int .i64 (k : Int), .int .i64 e]) ∧ Below V.heap.size V w') :
    Calls Tryz.prog 82 #[.pointer (some ⟨xb, 1, none⟩)] w fun r w' => r = .returned (.agg #[.string x.nm, .int .i64 x.parts, .int .i64 x.age, .int .i64 x.size, .bool x.comp]) ∧ Whole w' xb 82 (enL cb (rest.extract k rest.size) (brk || decide (e ≠ 0))) ∧ Kept (fun q => q = xb) w w' := by
  obtain ⟨nm, pa, ag, sz, cp⟩ := x
  dsimp only at hunA ⊢
  obtain ⟨V, hV⟩ : ∃ V, Hid (V = w.alloc (.cells #[.string ⟨#[]⟩, .int .i64 0, .int .i64 0, .int .i64 0, .bool false] 31)) := ⟨_, Lib.hid rfl⟩
  have hB : Below w.heap.size w V := by rw [hV.out]; exact grewAlloc (Below.refl _ _) _
  have hR : Whole V w.heap.size 31 [.string ⟨#[]⟩, .int .i64 0, .int .i64 0, .int .i64 0, .bool false] := by rw [hV.out]; exact Whole.new w _ _
  have hxw : xb < w.heap.size := hW.lt
  have hWV := hW.below hB hW.lt
  have hun := hunA V
  have c1 : V.cell? ⟨xb, 1, none⟩ = some (.string rest) := hWV.cell 1
  have hps := fun W (hb : Below V.heap.size V W) => pass_any xb cb rest brk k e W (hWV.below hb hWV.lt) hk hz
  obtain ⟨rb, hrb⟩ : ∃ q, Hid (w.heap.size = q) := ⟨_, Lib.hid rfl⟩
  rw [hrb.out] at hR
  have hrx : rb ≠ xb := by have := hrb.out; omega
  have hrw : w.heap.size ≤ rb := by have := hrb.out; omega
  have hVr : V.heap.size ≠ rb := by have := hR.lt; omega
  have hrV : rb < V.heap.size := hR.lt
  replace hun := Lib.hid hun
  replace hps := Lib.hid hps
  replace hB := Lib.hid hB
  replace hR := Lib.hid hR
  clear hW hWV hunA
  go_enter Tryz.func82, Tryz.ntmps82
  go_upto_region 1 with fail
  rw [← show V = _ from hV.out, hrb.out]
  clear hV hrb
  go_wp2_with fail
  refine hun.out.mono ?_
  rintro _ w2 ⟨rfl, hb2⟩
  obtain ⟨V3, hV3⟩ : ∃ W, Hid (W = w2.alloc (.cells #[.string nm, .int .i64 pa, .int .i64 ag, .int .i64 sz, .bool cp] 31)) := ⟨_, Lib.hid rfl⟩
  have hb3 : Below V.heap.size V V3 := by rw [hV3.out]; exact grewAlloc hb2 _
  have hT : Whole V3 w2.heap.size 31 [.string nm, .int .i64 pa, .int .i64 ag, .int .i64 sz, .bool cp] := by rw [hV3.out]; exact Whole.new w2 _ _
  have hR3 := hR.out.below hb3 hrV
  obtain ⟨tb, htb⟩ : ∃ q, Hid (w2.heap.size = q) := ⟨_, Lib.hid rfl⟩
  rw [htb.out] at hT
  have htr : tb ≠ rb := by have := htb.out; have := hb2.size; omega
  have htx : tb ≠ xb := by have := htb.out; have := hb2.size; have := hB.out.size; omega
  have hp3 := Lib.hid (hps.out V3 hb3)
  have hB3 := Lib.hid (grew hB.out hb3)
  replace hT := Lib.hid hT
  replace hR3 := Lib.hid hR3
  clear hps hun hb2 hb3 c1 hR hB
  go_upto_region 2 with fail
  rw [← show V3 = _ from hV3.out, htb.out]
  clear hV3 htb
  go_wp2_with fail
  refine hp3.out.mono ?_
  rintro _ w4 ⟨rfl, g1, g2⟩
  have hT4 := hT.out.of_kept g2 htx
  have hR4 := hR3.out.of_kept g2 hrx
  have hK4 := (Kept.of_below (own := fun q => q = xb) hB3.out).trans g2
  have t0 : w4.cell? ⟨tb, 0, none⟩ = some (.string nm) := hT4.cell 0
  have t1 : w4.cell? ⟨tb, 1, none⟩ = some (.int .i64 pa) := hT4.cell 1
  have t2 : w4.cell? ⟨tb, 2, none⟩ = some (.int .i64 ag) := hT4.cell 2
  have t3 : w4.cell? ⟨tb, 3, none⟩ = some (.int .i64 sz) := hT4.cell 3
  have t4 : w4.cell? ⟨tb, 4, none⟩ = some (.bool cp) := hT4.cell 4
  have r0 : w4.cell? ⟨rb, 0, none⟩ = some (.string ⟨#[]⟩) := hR4.cell 0
  have r1 : w4.cell? ⟨rb, 1, none⟩ = some (.int .i64 0) := hR4.cell 1
  have r2 : w4.cell? ⟨rb, 2, none⟩ = some (.int .i64 0) := hR4.cell 2
  have r3 : w4.cell? ⟨rb, 3, none⟩ = some (.int .i64 0) := hR4.cell 3
  have r4 : w4.cell? ⟨rb, 4, none⟩ = some (.bool false) := hR4.cell 4
  have f0 := hR4.frozen 0
  have f1 := hR4.frozen 1
  have f2 := hR4.frozen 2
  have f3 := hR4.frozen 3
  have f4 := hR4.frozen 4
  have hend : Hid (Whole (w4.setCells rb 0 [.string nm, .int .i64 pa, .int .i64 ag, .int .i64 sz, .bool cp]) rb 31 [.string nm, .int .i64 pa, .int .i64 ag, .int .i64 sz, .bool cp]) := Lib.hid (whole_all hR4 rfl)
  have hff := Lib.hid (And.intro (g1.far hrx.symm 0 [.string nm, .int .i64 pa, .int .i64 ag, .int .i64 sz, .bool cp]) (hK4.setCells (c := rb) (.inr hrw) 0 [.string nm, .int .i64 pa, .int .i64 ag, .int .i64 sz, .bool cp]))
  clear hT hR3 hT4 hR4 hK4 g1 g2 hp3 hB3
  go_wp2_with fail
  exact bodyPost_ret (result_cell Tryz.results82 rfl hend.out.range Tryz.underlying31 rfl sizeSp) rfl ⟨rfl, hff.out⟩
theorem spec23_any (xb cb : Nat) (s : ByteArray) (st : Option Nat) (w : World) (h : RdC w xb cb s st) :
    Calls Tryz.prog 82 #[.pointer (some ⟨xb, 1, none⟩)] w fun e w' => ∃ x : Sp, e = .returned (.agg #[.string x.nm, .int .i64 x.parts, .int .i64 x.age, .int .i64 x.size, .bool x.comp]) ∧ (RdC w' xb cb s (nextS s st) ∧ Kept (fun q => q = xb) w w' ∧ isSp s st x) := by
  obtain ⟨rest, brk, hW, hz, h1, h2⟩ := h
  have hun := fun V => decode_any rest V hz
  rcases hd : decTp rest with _ | ⟨x, k⟩
  · rw [hd] at hun
    refine (spec_core xb cb 0 rest brk 4 zSp w hW hz (Nat.zero_le _) hun).mono ?_
    rintro e w' ⟨rfl, g1, g2⟩
    refine ⟨zSp, rfl, RdC.made g1 hz (Nat.zero_le _) h1 h2 (fun p ep => ?_) (fun ep => by unfold nextS; rw [ep]; rfl), g2, fun p u q ep hc => ?_⟩
    · obtain ⟨hr, _, hp⟩ := h1 p ep
      refine .inr ⟨by decide, ?_⟩
      unfold nextS
      rw [ep, Option.bind_some, ← hr, hd, Option.map_none]
    · obtain ⟨hr, _, hp⟩ := h1 p ep
      rw [← hr, hd] at hc
      exact absurd hc (by simp)
  · rw [hd] at hun
    have hle := decTp_le hd
    refine (spec_core xb cb k rest brk 0 x w hW hz hle hun).mono ?_
    rintro e w' ⟨rfl, g1, g2⟩
    refine ⟨x, rfl, RdC.made g1 hz hle h1 h2 (fun p ep => ?_) (fun ep => by unfold nextS; rw [ep]; rfl), g2, fun p u q ep hc => ?_⟩
    · obtain ⟨hr, _, hp⟩ := h1 p ep
      refine .inl ⟨rfl, ?_⟩
      unfold nextS
      rw [ep, Option.bind_some, ← hr, hd, Option.map_some]
    · obtain ⟨hr, _, hp⟩ := h1 p ep
      rw [← hr, hd] at hc
      have := Option.some.inj hc
      simp only [Prod.mk.injEq] at this
      exact this.1
end Go.Proofs.YtgogackkeodciaaGreat.W
