/- Package catalog: Create; the calls of nil. -/
import Derived.Test.YtbbhnbdekblghaaGreatCgP
import Derived.Test.YtbbhnbdekblghaaGreatCgO
namespace Go.Proofs.YtbbhnbdekblghaaGreat.W
open Go.RowKit Go.Sort
open Go.Proofs.YtbbhnbdekblghaaGreat.M Go.Proofs.YtbbhnbdekblghaaGreat.D Go.Proofs.YtbbhnbdekblghaaGreat.Z
set_option linter.unusedVariables false
set_option linter.unusedSimpArgs false

theorem lowT_ways (T : List To) : (∃ k : Nat, lowT T = (k : Int) ∧ k < 8 ∧ freeS T (k : Int) = true) ∨ lowT T = -1 := by
  unfold lowT
  cases h : (List.range 8).find? fun i : Nat => freeS T (i : Int) with
  | none => exact .inr rfl
  | some k => exact .inl ⟨k, rfl, List.mem_range.1 (List.mem_of_find?_eq_some h), List.find?_some (p := fun i : Nat => freeS T (i : Int)) h⟩
/-- What Create tells: kind, payload, error (23.2). -/
def createF (T : List To) (n : Int) (x : Sp) : Int × ByteArray × Int :=
  if x.may = false then (0, ⟨#[]⟩, 1) else if hasT T x.nm = true then (0, ⟨#[]⟩, 8) else if lowT T < 0 ∨ n = 4294967295 then (0, ⟨#[]⟩, 5) else (1, B (makeE (lowT T) (n + 1) x), 0)
theorem kR2 {rb : Nat} {V w : World} (h : Kept (fun q => q = rb) V w) (c0 c1 : Value) : Kept (fun q => q = rb) V ((w.setCell ⟨rb, 0, none⟩ c0).setCell ⟨rb, 1, none⟩ c1) := h.setCells (c := rb) (.inl rfl) 0 [c0, c1]
theorem kD9 {V0 w : World} {q : Nat} (h : Below V0.heap.size V0 w) (hq : V0.heap.size ≤ q) (vs : List Value) : Below V0.heap.size V0 (w.setCells q 0 vs) := below_store h hq (Nat.le_refl _) 0 vs
set_option maxRecDepth 100000 in
set_option maxHeartbeats 4000000 in
theorem create23_any {B0 : Nat} (cb : Nat) (m : Option Nat) (T : List To) (n : Int) (c : Nat) (x : Sp) (w : World) (h : CaAt B0 w cb m T n c) :
    Calls Tryz.prog 19 #[.pointer (some ⟨cb, 0, none⟩), .agg #[.string x.nm, .int .i64 x.parts, .int .i64 x.age, .int .i64 x.size, .bool x.comp]] w fun e w' => e = .returned (.tuple #[.agg #[.int .i64 (createF T n x).1, .string (createF T n x).2.1], .int .i64 (createF T n x).2.2]) ∧ Below w.heap.size w w' := by
  obtain ⟨V, hV⟩ : ∃ V, Hid (V = (w.alloc (.cells #[.string x.nm, .int .i64 x.parts, .int .i64 x.age, .int .i64 x.size, .bool x.comp] 31)).alloc (.cells #[.int .i64 0, .string ⟨#[]⟩] 37)) := ⟨_, Lib.hid rfl⟩
  have hB : Below w.heap.size w V := by rw [hV.out]; exact grewAlloc (grewAlloc (Below.refl _ _) _) _
  have hX : Whole V w.heap.size 31 [.string x.nm, .int .i64 x.parts, .int .i64 x.age, .int .i64 x.size, .bool x.comp] := by rw [hV.out]; exact (Whole.new w _ _).alloc _
  have hR : Whole V (w.heap.size + 1) 37 [.int .i64 0, .string ⟨#[]⟩] := by
    rw [hV.out]
    have := Whole.new (w.alloc (.cells #[.string x.nm, .int .i64 x.parts, .int .i64 x.age, .int .i64 x.size, .bool x.comp] 31)) 37 [.int .i64 0, .string ⟨#[]⟩]
    simpa using this
  obtain ⟨xb, hxb⟩ : ∃ q, Hid (w.heap.size = q) := ⟨_, Lib.hid rfl⟩
  obtain ⟨rb, hrb⟩ : ∃ q, Hid (w.heap.size + 1 = q) := ⟨_, Lib.hid rfl⟩
  rw [hxb.out] at hX
  rw [hrb.out] at hR
  have hrw : w.heap.size ≤ rb := by have := hrb.out; omega
  have hxr : xb ≠ rb := by have := hrb.out; have := hxb.out; omega
  have hcr : cb ≠ rb := by have := h.at_.box.lt; omega
  have hC := h.below hB
  have q0 : V.cell? ⟨xb, 0, none⟩ = some (.string x.nm) := hX.cell 0
  have q1 : V.cell? ⟨xb, 1, none⟩ = some (.int .i64 x.parts) := hX.cell 1
  have q2 : V.cell? ⟨xb, 2, none⟩ = some (.int .i64 x.age) := hX.cell 2
  have q3 : V.cell? ⟨xb, 3, none⟩ = some (.int .i64 x.size) := hX.cell 3
  have q4 : V.cell? ⟨xb, 4, none⟩ = some (.bool x.comp) := hX.cell 4
  have hri := right22_any x.nm x.parts x.age x.size x.comp V
  rw [show (⟨x.nm, x.parts, x.age, x.size, x.comp⟩ : Sp) = x from rfl] at hri
  have hin : Hid (CaAt B0 V cb m T n c ∧ Whole V xb 31 [.string x.nm, .int .i64 x.parts, .int .i64 x.age, .int .i64 x.size, .bool x.comp] ∧ Whole V rb 37 [.int .i64 0, .string ⟨#[]⟩]) := Lib.hid ⟨hC, hX, hR⟩
  have hha := fun W (hb : Below V.heap.size V W) => has23_any cb m T n c x.nm W (hC.below hb)
  have hsl : Hid (∀ W, Below V.heap.size V W → Calls Tryz.prog 43 #[.pointer (some ⟨cb, 0, none⟩), .string ⟨#[]⟩] W fun e w' => e = .returned (.int .i64 (lowT T)) ∧ Below W.heap.size W w') := Lib.hid (fun W hb => by
    have := slot_any cb m _ _ n c ⟨#[]⟩ W (hC.at_.below hb)
    rwa [idx_free h.ok rfl] at this)
  have hn01 := And.intro h.ok.n0 h.ok.n1
  replace hB := Lib.hid hB
  obtain ⟨r, hr⟩ : ∃ r, createF T n x = r := ⟨_, rfl⟩
  rw [hr]
  unfold createF at hr
  cases hm : x.may with
  | false =>
    rw [if_pos hm] at hr
    subst hr
    rw [hm] at hri
    replace hri := Lib.hid hri
    obtain ⟨nm, pa, ag, sz, cp⟩ := x
    dsimp only at hV q0 q1 q2 q3 q4 hri hin ⊢
    clear h hX hR hC hha hsl hm hn01
    go_enter Tryz.func19, Tryz.ntmps19
    go_upto_region 1 with fail
    rw [← show V = _ from hV.out, hrb.out, hxb.out]
    clear hV hxb hrb
    go_wp2_with fail
    refine hri.out.mono ?_
    rintro _ W2 ⟨rfl, b2⟩
    have hb2 : Below V.heap.size V W2 := b2
    have hR9 := hin.out.2.2.below hb2 hin.out.2.2.lt
    have r0 : W2.cell? ⟨rb, 0, none⟩ = some (.int .i64 0) := hR9.cell 0
    have r1 : W2.cell? ⟨rb, 1, none⟩ = some (.string ⟨#[]⟩) := hR9.cell 1
    have f0 := hR9.frozen 0
    have f1 := hR9.frozen 1
    have hC9 := hin.out.1.below hb2
    have c41 : W2.cell? ⟨cb, 41, none⟩ = some (.int .i64 n) := by rw [hC9.at_.box.cell, ctL_cnt hC9.at_.eight]
    have hend : Hid (Whole (W2.setCells rb 0 [.int .i64 0, .string ⟨#[]⟩]) rb 37 [.int .i64 0, .string ⟨#[]⟩]) := Lib.hid (whole_all hR9 rfl)
    have hB9 : Hid (Below w.heap.size w (W2.setCells rb 0 [.int .i64 0, .string ⟨#[]⟩])) := Lib.hid (below_store (grew hB.out hb2) hrw (Nat.le_refl _) 0 [.int .i64 0, .string ⟨#[]⟩])
    clear hR9 hC9 hin
    go_wp2_with fail
    exact bodyPost_ret (result_cell_tmp Tryz.results19 rfl rfl hend.out.range Tryz.underlying37 rfl sizeFr23) rfl ⟨rfl, hB9.out⟩
  | true =>
    rw [if_neg (by rw [hm]; decide)] at hr
    rw [hm] at hri
    replace hri := Lib.hid hri
    cases hv : hasT T x.nm with
    | true =>
      rw [if_pos hv] at hr
      subst hr
      rw [hv] at hha
      replace hha := Lib.hid hha
      obtain ⟨nm, pa, ag, sz, cp⟩ := x
      dsimp only at hV q0 q1 q2 q3 q4 hri hin hha ⊢
      clear h hX hR hC hsl hm hn01 hv
      go_enter Tryz.func19, Tryz.ntmps19
      go_upto_region 1 with fail
      rw [← show V = _ from hV.out, hrb.out, hxb.out]
      clear hV hxb hrb
      go_wp2_with fail
      refine hri.out.mono ?_
      rintro _ W2 ⟨rfl, b2⟩
      have hb2 : Below V.heap.size V W2 := b2
      have hX2 := hin.out.2.1.below hb2 hin.out.2.1.lt
      have y2 : W2.cell? ⟨xb, 0, none⟩ = some (.string nm) := hX2.cell 0
      clear hX2
      go_wp2_with fail
      refine (hha.out _ hb2).mono ?_
      rintro _ W3 ⟨rfl, b3⟩
      have hb3 : Below V.heap.size V W3 := grew hb2 b3
      have hR9 := hin.out.2.2.below hb3 hin.out.2.2.lt
      have r0 : W3.cell? ⟨rb, 0, none⟩ = some (.int .i64 0) := hR9.cell 0
      have r1 : W3.cell? ⟨rb, 1, none⟩ = some (.string ⟨#[]⟩) := hR9.cell 1
      have f0 := hR9.frozen 0
      have f1 := hR9.frozen 1
      have hC9 := hin.out.1.below hb3
      have c41 : W3.cell? ⟨cb, 41, none⟩ = some (.int .i64 n) := by rw [hC9.at_.box.cell, ctL_cnt hC9.at_.eight]
      have hend : Hid (Whole (W3.setCells rb 0 [.int .i64 0, .string ⟨#[]⟩]) rb 37 [.int .i64 0, .string ⟨#[]⟩]) := Lib.hid (whole_all hR9 rfl)
      have hB9 : Hid (Below w.heap.size w (W3.setCells rb 0 [.int .i64 0, .string ⟨#[]⟩])) := Lib.hid (below_store (grew hB.out hb3) hrw (Nat.le_refl _) 0 [.int .i64 0, .string ⟨#[]⟩])
      clear hR9 hC9 hin
      go_wp2_with fail
      exact bodyPost_ret (result_cell_tmp Tryz.results19 rfl rfl hend.out.range Tryz.underlying37 rfl sizeFr23) rfl ⟨rfl, hB9.out⟩
    | false =>
      rw [if_neg (by rw [hv]; decide)] at hr
      rw [hv] at hha
      replace hha := Lib.hid hha
      rcases lowT_ways T with ⟨k, hk, hk8, hkf⟩ | hk
      · rw [hk] at hsl hr
        by_cases hn : n = 4294967295
        · rw [if_pos (.inr hn)] at hr
          subst hr
          subst hn
          have hkn : ¬ (k : Int) < 0 := by omega
          obtain ⟨nm, pa, ag, sz, cp⟩ := x
          dsimp only at hV q0 q1 q2 q3 q4 hri hin hha ⊢
          clear h hX hR hC hm hn01 hv hk hkf
          go_enter Tryz.func19, Tryz.ntmps19
          go_upto_region 1 with fail
          rw [← show V = _ from hV.out, hrb.out, hxb.out]
          clear hV hxb hrb
          go_wp2_with fail
          refine hri.out.mono ?_
          rintro _ W2 ⟨rfl, b2⟩
          have hb2 : Below V.heap.size V W2 := b2
          have hX2 := hin.out.2.1.below hb2 hin.out.2.1.lt
          have y2 : W2.cell? ⟨xb, 0, none⟩ = some (.string nm) := hX2.cell 0
          clear hX2
          go_wp2_with fail
          refine (hha.out _ hb2).mono ?_
          rintro _ W3 ⟨rfl, b3⟩
          have hb3 : Below V.heap.size V W3 := grew hb2 b3
          have hX3 := hin.out.2.1.below hb3 hin.out.2.1.lt
          have y3 : W3.cell? ⟨xb, 0, none⟩ = some (.string nm) := hX3.cell 0
          clear hX3
          go_wp2_with fail
          refine (hsl.out _ hb3).mono ?_
          rintro _ W4 ⟨rfl, b4⟩
          have hb4 : Below V.heap.size V W4 := grew hb3 b4
          have hR9 := hin.out.2.2.below hb4 hin.out.2.2.lt
          have r0 : W4.cell? ⟨rb, 0, none⟩ = some (.int .i64 0) := hR9.cell 0
          have r1 : W4.cell? ⟨rb, 1, none⟩ = some (.string ⟨#[]⟩) := hR9.cell 1
          have f0 := hR9.frozen 0
          have f1 := hR9.frozen 1
          have hC9 := hin.out.1.below hb4
          have c41 : W4.cell? ⟨cb, 41, none⟩ = some (.int .i64 4294967295) := by rw [hC9.at_.box.cell, ctL_cnt hC9.at_.eight]
          have hend : Hid (Whole (W4.setCells rb 0 [.int .i64 0, .string ⟨#[]⟩]) rb 37 [.int .i64 0, .string ⟨#[]⟩]) := Lib.hid (whole_all hR9 rfl)
          have hB9 : Hid (Below w.heap.size w (W4.setCells rb 0 [.int .i64 0, .string ⟨#[]⟩])) := Lib.hid (below_store (grew hB.out hb4) hrw (Nat.le_refl _) 0 [.int .i64 0, .string ⟨#[]⟩])
          clear hR9 hC9 hin
          go_wp2_with fail
          exact bodyPost_ret (result_cell_tmp Tryz.results19 rfl rfl hend.out.range Tryz.underlying37 rfl sizeFr23) rfl ⟨rfl, hB9.out⟩
        · rw [if_neg (by rintro (q | q); omega; exact hn q)] at hr
          have hlm : Hid (∀ W, Calls Tryz.prog 46 #[.int .i64 (k : Int), .int .i64 (n + 1), .agg #[.string x.nm, .int .i64 x.parts, .int .i64 x.age, .int .i64 x.size, .bool x.comp]] W fun e w' => e = .returned (.agg #[.int .i64 1, .string (B (makeE (k : Int) (n + 1) x))]) ∧ Below W.heap.size W w') := Lib.hid (fun W => layMake_any (k : Int) (n + 1) x W hm (by omega) (by omega))
          obtain ⟨P, hP⟩ : ∃ P, Hid (B (makeE (k : Int) (n + 1) x) = P) := ⟨_, Lib.hid rfl⟩
          rw [hP.out] at hlm hr
          subst hr
          have hnb : (n == 4294967295) = false := by simpa using hn
          have hwn : IntKind.i64.wrap (n + 1) = n + 1 := IntWalk.i64_in _ (by omega)
          have hkn : ¬ (k : Int) < 0 := by omega
          have hkn2 : decide ((k : Int) < 0) = false := decide_eq_false hkn
          obtain ⟨nm, pa, ag, sz, cp⟩ := x
          dsimp only at hV q0 q1 q2 q3 q4 hri hin hha hlm ⊢
          replace hn := Lib.hid hn
          clear h hX hR hC hm hn01 hv hk hkf hP
          go_enter Tryz.func19, Tryz.ntmps19
          go_upto_region 1 with fail
          rw [← show V = _ from hV.out, hrb.out, hxb.out]
          clear hV hxb hrb
          go_wp2_with fail
          refine hri.out.mono ?_
          rintro _ W2 ⟨rfl, b2⟩
          have hb2 : Below V.heap.size V W2 := b2
          have hX2 := hin.out.2.1.below hb2 hin.out.2.1.lt
          have y2 : W2.cell? ⟨xb, 0, none⟩ = some (.string nm) := hX2.cell 0
          clear hX2
          go_wp2_with fail
          refine (hha.out _ hb2).mono ?_
          rintro _ W3 ⟨rfl, b3⟩
          have hb3 : Below V.heap.size V W3 := grew hb2 b3
          go_wp2_with fail
          refine (hsl.out _ hb3).mono ?_
          rintro _ W4 ⟨rfl, b4⟩
          have hb4 : Below V.heap.size V W4 := grew hb3 b4
          have hC9 := hin.out.1.below hb4
          have hX9 := hin.out.2.1.below hb4 hin.out.2.1.lt
          have hR9 := hin.out.2.2.below hb4 hin.out.2.2.lt
          have c41 : W4.cell? ⟨cb, 41, none⟩ = some (.int .i64 n) := by rw [hC9.at_.box.cell, ctL_cnt hC9.at_.eight]
          have d41 : ∀ W, Kept (fun q => q = rb) W4 W → W.cell? ⟨cb, 41, none⟩ = some (.int .i64 n) := fun W hk => by
            rw [(hC9.at_.box.of_kept hk hcr).cell, ctL_cnt hC9.at_.eight]
          have x0 : ∀ W, Kept (fun q => q = rb) W4 W → W.cell? ⟨xb, 0, none⟩ = some (.string nm) := fun W hk => (hX9.of_kept hk hxr).cell 0
          have x1 : ∀ W, Kept (fun q => q = rb) W4 W → W.cell? ⟨xb, 1, none⟩ = some (.int .i64 pa) := fun W hk => (hX9.of_kept hk hxr).cell 1
          have x2 : ∀ W, Kept (fun q => q = rb) W4 W → W.cell? ⟨xb, 2, none⟩ = some (.int .i64 ag) := fun W hk => (hX9.of_kept hk hxr).cell 2
          have x3 : ∀ W, Kept (fun q => q = rb) W4 W → W.cell? ⟨xb, 3, none⟩ = some (.int .i64 sz) := fun W hk => (hX9.of_kept hk hxr).cell 3
          have x4 : ∀ W, Kept (fun q => q = rb) W4 W → W.cell? ⟨xb, 4, none⟩ = some (.bool cp) := fun W hk => (hX9.of_kept hk hxr).cell 4
          have s10 : Kept (fun q => q = rb) W4 W4 := Kept.refl _ _
          have s10d : Kept (fun q => q = rb) W4 W4.drew := kD (Kept.refl _ _)
          have hB4 := Lib.hid (grew hB.out hb4)
          have hRh := Lib.hid hR9
          clear hC9 hX9 hR9 hin q0 q1 q2 q3 q4 y2 hri hha hsl hb2 b2 hb3 b3 hb4 b4 hB
          go_upto_region 10 with fail
          clear c41
          go_region_held3 (fun w' => Kept (fun q => q = rb) W4 w') (with_reducible first | assumption | exact kR2 (by assumption) _ _) (first
            | (go_at_call 46; (with_reducible refine (hlm.out _).mono ?_); rintro _ y1 ⟨rfl, b1⟩; have hb1 : Below W4.heap.size W4 y1 := grew (Below.refl _ _).drew b1; have s11 : Kept (fun q => q = rb) W4 y1 := Kept.of_below hb1; have hR1 := hRh.out.below hb1 hRh.out.lt; have r0 : y1.cell? ⟨rb, 0, none⟩ = some (.int .i64 0) := hR1.cell 0; have r1 : y1.cell? ⟨rb, 1, none⟩ = some (.string ⟨#[]⟩) := hR1.cell 1; have f0 := hR1.frozen 0; have f1 := hR1.frozen 1; have hend : Hid (Whole (y1.setCells rb 0 [.int .i64 1, .string P]) rb 37 [.int .i64 1, .string P]) := Lib.hid (whole_all hR1 rfl); have hB9 : Hid (Below w.heap.size w (y1.setCells rb 0 [.int .i64 1, .string P])) := Lib.hid (below_store (grew hB4.out hb1) hrw (Nat.le_refl _) 0 [.int .i64 1, .string P])))
          all_goals
            clear d41 x0 x1 x2 x3 x4 hlm
            go_wp2_with fail
            exact bodyPost_ret (result_cell_tmp Tryz.results19 rfl rfl hend.out.range Tryz.underlying37 rfl sizeFr23) rfl ⟨rfl, hB9.out⟩
      · rw [hk] at hsl hr
        rw [if_pos (.inl (by decide))] at hr
        subst hr
        obtain ⟨nm, pa, ag, sz, cp⟩ := x
        dsimp only at hV q0 q1 q2 q3 q4 hri hin hha ⊢
        clear h hX hR hC hm hn01 hv hk
        go_enter Tryz.func19, Tryz.ntmps19
        go_upto_region 1 with fail
        rw [← show V = _ from hV.out, hrb.out, hxb.out]
        clear hV hxb hrb
        go_wp2_with fail
        refine hri.out.mono ?_
        rintro _ W2 ⟨rfl, b2⟩
        have hb2 : Below V.heap.size V W2 := b2
        have hX2 := hin.out.2.1.below hb2 hin.out.2.1.lt
        have y2 : W2.cell? ⟨xb, 0, none⟩ = some (.string nm) := hX2.cell 0
        clear hX2
        go_wp2_with fail
        refine (hha.out _ hb2).mono ?_
        rintro _ W3 ⟨rfl, b3⟩
        have hb3 : Below V.heap.size V W3 := grew hb2 b3
        have hX3 := hin.out.2.1.below hb3 hin.out.2.1.lt
        have y3 : W3.cell? ⟨xb, 0, none⟩ = some (.string nm) := hX3.cell 0
        clear hX3
        go_wp2_with fail
        refine (hsl.out _ hb3).mono ?_
        rintro _ W4 ⟨rfl, b4⟩
        have hb4 : Below V.heap.size V W4 := grew hb3 b4
        have hR9 := hin.out.2.2.below hb4 hin.out.2.2.lt
        have r0 : W4.cell? ⟨rb, 0, none⟩ = some (.int .i64 0) := hR9.cell 0
        have r1 : W4.cell? ⟨rb, 1, none⟩ = some (.string ⟨#[]⟩) := hR9.cell 1
        have f0 := hR9.frozen 0
        have f1 := hR9.frozen 1
        have hC9 := hin.out.1.below hb4
        have c41 : W4.cell? ⟨cb, 41, none⟩ = some (.int .i64 n) := by rw [hC9.at_.box.cell, ctL_cnt hC9.at_.eight]
        have hend : Hid (Whole (W4.setCells rb 0 [.int .i64 0, .string ⟨#[]⟩]) rb 37 [.int .i64 0, .string ⟨#[]⟩]) := Lib.hid (whole_all hR9 rfl)
        have hB9 : Hid (Below w.heap.size w (W4.setCells rb 0 [.int .i64 0, .string ⟨#[]⟩])) := Lib.hid (below_store (grew hB.out hb4) hrw (Nat.le_refl _) 0 [.int .i64 0, .string ⟨#[]⟩])
        clear hR9 hC9 hin
        go_wp2_with fail
        exact bodyPost_ret (result_cell_tmp Tryz.results19 rfl rfl hend.out.range Tryz.underlying37 rfl sizeFr23) rfl ⟨rfl, hB9.out⟩
end Go.Proofs.YtbbhnbdekblghaaGreat.W
