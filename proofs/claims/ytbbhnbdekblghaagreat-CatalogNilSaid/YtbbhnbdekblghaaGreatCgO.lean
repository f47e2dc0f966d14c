/- Package catalog: Meta; entries laid: chains, layMake. -/
import Derived.Test.YtbbhnbdekblghaaGreatCgL
import Derived.Test.YtbbhnbdekblghaaGreatTpD
namespace Go.Proofs.YtbbhnbdekblghaaGreat.W
open Go.RowKit Go.Sort
open Go.Proofs.YtbbhnbdekblghaaGreat.M Go.Proofs.YtbbhnbdekblghaaGreat.D Go.Proofs.YtbbhnbdekblghaaGreat.Z
set_option linter.unusedVariables false
set_option linter.unusedSimpArgs false

theorem sizeMt : (Tryz.prog.info? 35).map (·.size) = some 5 := by kernel_rfl
def metaE' (T : List To) (nm : ByteArray) (p : Int) : Int := if (metaT T nm p).isSome = true then 0 else 6
set_option maxRecDepth 100000 in
set_option maxHeartbeats 2000000 in
theorem meta23_any {B0 : Nat} (cb : Nat) (m : Option Nat) (T : List To) (n : Int) (c : Nat) (nm : ByteArray) (p : Int) (w : World) (h : CaAt B0 w cb m T n c) (h0 : nm.size ≤ maxLen) (h1 : (Lit.int .i64 p).wf = true) (x : Mt) (hxe : (metaT T nm p).getD zMt = x) :
    Calls Tryz.prog 22 #[.pointer (some ⟨cb, 0, none⟩), .agg #[.string nm, .int .i64 p]] w fun e w' => e = .returned (.tuple #[.agg #[.int .i64 x.gen, .int .i64 x.seq, .int .i64 x.start, .int .i64 x.next, .string x.tab], .int .i64 (metaE' T nm p)]) ∧ Below w.heap.size w w' := by
  obtain ⟨V, hV⟩ : ∃ V, Hid (V = (w.alloc (.cells #[.string nm, .int .i64 p] 33)).alloc (.cells #[.int .i64 0, .int .i64 0, .int .i64 0, .int .i64 0, .string ⟨#[]⟩] 35)) := ⟨_, Lib.hid rfl⟩
  have hB : Below w.heap.size w V := by rw [hV.out]; exact grewAlloc (grewAlloc (Below.refl _ _) _) _
  have hX : Whole V w.heap.size 33 [.string nm, .int .i64 p] := by rw [hV.out]; exact (Whole.new w _ _).alloc _
  have hR : Whole V (w.heap.size + 1) 35 [.int .i64 0, .int .i64 0, .int .i64 0, .int .i64 0, .string ⟨#[]⟩] := by
    rw [hV.out]
    have := Whole.new (w.alloc (.cells #[.string nm, .int .i64 p] 33)) 35 [.int .i64 0, .int .i64 0, .int .i64 0, .int .i64 0, .string ⟨#[]⟩]
    simpa using this
  obtain ⟨xb, hxb⟩ : ∃ q, Hid (w.heap.size = q) := ⟨_, Lib.hid rfl⟩
  obtain ⟨rb, hrb⟩ : ∃ q, Hid (w.heap.size + 1 = q) := ⟨_, Lib.hid rfl⟩
  rw [hxb.out] at hX
  rw [hrb.out] at hR
  have hrw : w.heap.size ≤ rb := by have := hrb.out; omega
  have hC := h.below hB
  have q0 : V.cell? ⟨xb, 0, none⟩ = some (.string nm) := hX.cell 0
  have q1 : V.cell? ⟨xb, 1, none⟩ = some (.int .i64 p) := hX.cell 1
  have hhp := hasPlace_any cb m _ _ n c nm p V hC.at_ h0 h1
  have hin : Hid (CaAt B0 V cb m T n c ∧ Whole V xb 33 [.string nm, .int .i64 p] ∧ Whole V rb 35 [.int .i64 0, .int .i64 0, .int .i64 0, .int .i64 0, .string ⟨#[]⟩]) := Lib.hid ⟨hC, hX, hR⟩
  obtain ⟨g, q, s, nx, tb⟩ := x
  dsimp only
  replace hB := Lib.hid hB
  unfold metaE'
  cases hm : (metaT T nm p).isSome with
  | false =>
    rw [hm] at hhp
    rw [if_neg (by decide)]
    have hno : metaT T nm p = none := by simpa using hm
    rw [hno] at hxe
    simp only [Option.getD_none, Mt.mk.injEq] at hxe
    obtain ⟨rfl, rfl, rfl, rfl, rfl⟩ := hxe
    replace hhp := Lib.hid hhp
    clear h hX hC hm hno hR
    go_enter Tryz.func22, Tryz.ntmps22
    go_upto_region 1 with fail
    rw [← show V = _ from hV.out, hrb.out, hxb.out]
    clear hV hxb hrb
    go_wp2_with fail
    refine hhp.out.mono ?_
    rintro _ W2 ⟨rfl, hb2⟩
    have hB2 := Lib.hid (grew hB.out hb2)
    have hR2 := hin.out.2.2.below hb2 hin.out.2.2.lt
    have r0 : W2.cell? ⟨rb, 0, none⟩ = some (.int .i64 0) := hR2.cell 0
    have r1 : W2.cell? ⟨rb, 1, none⟩ = some (.int .i64 0) := hR2.cell 1
    have r2 : W2.cell? ⟨rb, 2, none⟩ = some (.int .i64 0) := hR2.cell 2
    have r3 : W2.cell? ⟨rb, 3, none⟩ = some (.int .i64 0) := hR2.cell 3
    have r4 : W2.cell? ⟨rb, 4, none⟩ = some (.string ⟨#[]⟩) := hR2.cell 4
    have f0 := hR2.frozen 0
    have f1 := hR2.frozen 1
    have f2 := hR2.frozen 2
    have f3 := hR2.frozen 3
    have f4 := hR2.frozen 4
    have hend : Hid (Whole (W2.setCells rb 0 [.int .i64 0, .int .i64 0, .int .i64 0, .int .i64 0, .string ⟨#[]⟩]) rb 35 [.int .i64 0, .int .i64 0, .int .i64 0, .int .i64 0, .string ⟨#[]⟩]) := Lib.hid (whole_all hR2 rfl)
    have hB9 : Hid (Below w.heap.size w (W2.setCells rb 0 [.int .i64 0, .int .i64 0, .int .i64 0, .int .i64 0, .string ⟨#[]⟩])) := Lib.hid (below_store hB2.out hrw (Nat.le_refl _) 0 [.int .i64 0, .int .i64 0, .int .i64 0, .int .i64 0, .string ⟨#[]⟩])
    clear hb2 hhp q0 q1 hR2 hin
    go_wp2_with fail
    exact bodyPost_ret (result_cell_tmp Tryz.results22 rfl rfl hend.out.range Tryz.underlying35 rfl sizeMt) rfl ⟨rfl, hB9.out⟩
  | true =>
    rw [hm] at hhp
    rw [if_pos rfl]
    have hlk : Hid (∀ W, Below V.heap.size V W → (Instr.lookup 68 (.map m) (.agg #[.string nm, .int .i64 p]) false).run Tryz.prog W = .ok (.agg #[.int .i64 g, .int .i64 q, .int .i64 s, .int .i64 nx, .string tb]) W) := Lib.hid (fun W hb => by
      have := (hC.at_.map.below hb).look (nm := nm) (p := p) h0 h1
      rw [hxe] at this
      exact this)
    replace hhp := Lib.hid hhp
    clear h hX hC hm hxe hR
    go_enter Tryz.func22, Tryz.ntmps22
    go_upto_region 1 with fail
    rw [← show V = _ from hV.out, hrb.out, hxb.out]
    clear hV hxb hrb
    go_wp2_with fail
    refine hhp.out.mono ?_
    rintro _ W2 ⟨rfl, hb2⟩
    have hB2 := Lib.hid (grew hB.out hb2)
    have hX2 := hin.out.2.1.below hb2 hin.out.2.1.lt
    have hR2 := hin.out.2.2.below hb2 hin.out.2.2.lt
    have hC2 := hin.out.1.below hb2
    have hl2 := hlk.out W2.drew (grew hb2 (Below.refl _ _).drew)
    have x0 : W2.cell? ⟨xb, 0, none⟩ = some (.string nm) := hX2.cell 0
    have x1 : W2.cell? ⟨xb, 1, none⟩ = some (.int .i64 p) := hX2.cell 1
    have c40 : W2.cell? ⟨cb, 40, none⟩ = some (.map m) := by rw [hC2.at_.box.cell, ctL_map hC2.at_.eight]
    have r0 : W2.cell? ⟨rb, 0, none⟩ = some (.int .i64 0) := hR2.cell 0
    have r1 : W2.cell? ⟨rb, 1, none⟩ = some (.int .i64 0) := hR2.cell 1
    have r2 : W2.cell? ⟨rb, 2, none⟩ = some (.int .i64 0) := hR2.cell 2
    have r3 : W2.cell? ⟨rb, 3, none⟩ = some (.int .i64 0) := hR2.cell 3
    have r4 : W2.cell? ⟨rb, 4, none⟩ = some (.string ⟨#[]⟩) := hR2.cell 4
    have f0 := hR2.frozen 0
    have f1 := hR2.frozen 1
    have f2 := hR2.frozen 2
    have f3 := hR2.frozen 3
    have f4 := hR2.frozen 4
    have hend : Hid (Whole (W2.setCells rb 0 [.int .i64 g, .int .i64 q, .int .i64 s, .int .i64 nx, .string tb]).drew rb 35 [.int .i64 g, .int .i64 q, .int .i64 s, .int .i64 nx, .string tb]) := Lib.hid (whole_all hR2 rfl)
    have hB9 : Hid (Below w.heap.size w (W2.setCells rb 0 [.int .i64 g, .int .i64 q, .int .i64 s, .int .i64 nx, .string tb]).drew) := Lib.hid ((below_store hB2.out hrw (Nat.le_refl _) 0 [.int .i64 g, .int .i64 q, .int .i64 s, .int .i64 nx, .string tb]).drew)
    clear hb2 hhp q0 q1 hR2 hin hX2 hC2 hlk hB hB2
    go_upto_region 5 with fail
    go_region
    all_goals
      clear hl2 x0 x1 c40
      go_wp2_with fail
      exact bodyPost_ret (result_cell_tmp Tryz.results22 rfl rfl hend.out.range Tryz.underlying35 rfl sizeMt) rfl ⟨rfl, hB9.out⟩
end Go.Proofs.YtbbhnbdekblghaaGreat.W
