/- Package dedup's Next, Note; the calls of nil. -/
import Derived.Test.YtbbeapglkdkajaaDdA
namespace Go.Proofs.Ytbbeapglkdkajaa.W
open Go.RowKit
open Go.Proofs.Ytbbeapglkdkajaa.M Go.Proofs.Ytbbeapglkdkajaa.D
set_option linter.unusedVariables false
set_option linter.unusedSimpArgs false

theorem dnextOf_any {B0 : Nat} (tb : Nat) (l : List La) (p : Int) (w : World) (h : Tb B0 w tb l) (hok : ∀ x ∈ l, x.ok) (hp : (Lit.int .i64 p).wf = true) : Calls Try.prog 29 #[.pointer (some ⟨tb, 0, none⟩), .int .i64 p] w fun e w' => e = .returned (.int .i64 ((getV l p).s + (getV l p).n)) ∧ Below w.heap.size w w' := by
  have hg := getV_ok hok p
  obtain ⟨m, h1⟩ := h
  have c1 : w.cell? ⟨tb, 0, none⟩ = some (.map m) := h1.box.cell 0
  have hl1 := h1.map.look hp
  obtain ⟨g, hge⟩ : ∃ g, Hid (getV l p = g) := ⟨_, Lib.hid rfl⟩
  rw [hge.out] at hg hl1 ⊢
  obtain ⟨gp, x, y, z⟩ := g
  dsimp only at hg hl1 ⊢
  obtain ⟨⟨x0, x1⟩, ⟨y0, y1⟩, _⟩ := hg
  have hnx := Lib.hid (dnext_any x y z w x0 x1 y0 y1)
  clear h1 hge hok hp
  go_enter Try.func29, Try.ntmps29
  go_wp2_with fail
  refine hnx.out.mono ?_
  rintro e w2 ⟨rfl, hb2⟩
  replace hb2 := Lib.hid hb2
  go_wp2_with fail
  go_ret
  exact ⟨rfl, hb2.out⟩
theorem eqlIn_map_nil {P : Program} (w : World) (d : Nat) (t k e : TypeId) (p : Option Nat) (h : P.underlying t = some (.map k e)) : (Op.equalIn (d + 1) t (.map p) (.map none)).run P w = .ok p.isNone w := by
  cases p <;> simp [Op.equalIn, run_underlying h]
theorem eql_map_nil (p : Option Nat) (W : World) : (binOp .eql 74 (.map p) (.map none)).run Try.prog W = .ok (.bool p.isNone) W := by
  simp only [binOp]
  simp [show Op.equal 74 (.map p) (.map none) = Op.equalIn (9999 + 1) 74 (.map p) (.map none) from rfl, eqlIn_map_nil W 9999 74 _ _ p Try.underlying74]
/-- Why a batch is not noted. -/
def noteE (l : List La) (x : La) : Int := if ¬ x.ok then 1 else if hasL l x.p = true ∨ l.length < 16 then 0 else 5
def notedL (l : List La) (x : La) : List La := if noteE l x = 0 then noteL l x else l
set_option maxRecDepth 100000 in
set_option maxHeartbeats 4000000 in
theorem note_no {B0 : Nat} (tb : Nat) (l : List La) (x : La) (w : World) (h : Tb B0 w tb l) (hok : TabOk l) (hx : noteE l x ≠ 0) : Calls Try.prog 20 #[.pointer (some ⟨tb, 0, none⟩), .int .i64 x.p, .int .i64 x.s, .int .i64 x.n, .int .i64 x.o] w fun e w' => e = .returned (.int .i64 (noteE l x)) ∧ Below w.heap.size w w' := by
  obtain ⟨V, hV⟩ : ∃ V, Hid (V = w.alloc (.cells #[.int .i64 x.s, .int .i64 x.n, .int .i64 x.o] 80)) := ⟨_, Lib.hid rfl⟩
  have hb0 : Below w.heap.size w V := by rw [hV.out]; exact grewAlloc (Below.refl _ _) _
  have hX : Whole V w.heap.size 80 [.int .i64 x.s, .int .i64 x.n, .int .i64 x.o] := by rw [hV.out]; exact Whole.new w _ _
  obtain ⟨q, hq⟩ : ∃ q, Hid (w.heap.size = q) := ⟨_, Lib.hid rfl⟩
  rw [hq.out] at hX
  have q0 : V.cell? ⟨q, 0, none⟩ = some (.int .i64 x.s) := hX.cell 0
  have q1 : V.cell? ⟨q, 1, none⟩ = some (.int .i64 x.n) := hX.cell 1
  have q2 : V.cell? ⟨q, 2, none⟩ = some (.int .i64 x.o) := hX.cell 2
  have hm := dmay_any x.p x.s x.n x.o V
  by_cases c0 : ¬ x.ok
  · have hx1 : noteE l x = 1 := by unfold noteE; rw [if_pos c0]
    rw [decide_eq_false (show ¬ okB x.p x.s x.n x.o from c0)] at hm
    rw [hx1]
    replace hm := Lib.hid hm
    replace hb0 := Lib.hid hb0
    clear hX h hok hx hx1 c0
    go_enter Try.func20, Try.ntmps20
    go_upto_region 4 with fail
    rw [← show V = _ from hV.out, hq.out]
    clear hV hq
    go_wp2_with fail
    refine hm.out.mono ?_
    rintro e w1 ⟨rfl, hb⟩
    have hB := Lib.hid (grew hb0.out hb)
    clear hb0 hb
    go_wp2_with fail
    go_ret
    exact ⟨rfl, hB.out⟩
  · replace c0 := Classical.not_not.1 c0
    have hx5 : noteE l x = 5 ∧ (hasL l x.p || decide (l.length < 16)) = false := by
      unfold noteE at hx ⊢
      rw [if_neg (fun e => e c0)] at hx ⊢
      by_cases c : hasL l x.p = true ∨ l.length < 16
      · rw [if_pos c] at hx; exact absurd rfl hx
      · rw [if_neg c]
        refine ⟨rfl, ?_⟩
        rw [Bool.or_eq_false_iff]
        exact ⟨by simpa using fun e => c (.inl e), by simpa using fun e => c (.inr e)⟩
    rw [decide_eq_true (show okB x.p x.s x.n x.o from c0)] at hm
    have hwf := wf_prod c0.1.1 c0.1.2
    have hro := fun W (hb : Below V.heap.size V W) => room_any tb l x.p W (h.below (grew hb0 hb)) hwf (by have := hok.few; omega)
    rw [hx5.2] at hro
    rw [hx5.1]
    replace hm := Lib.hid hm
    replace hro := Lib.hid hro
    replace hb0 := Lib.hid hb0
    clear hX h hok hx hx5 c0 hwf
    go_enter Try.func20, Try.ntmps20
    go_upto_region 4 with fail
    rw [← show V = _ from hV.out, hq.out]
    clear hV hq
    go_wp2_with fail
    refine hm.out.mono ?_
    rintro e w1 ⟨rfl, hb⟩
    have hr := Lib.hid (hro.out _ hb)
    have hB := Lib.hid (grew hb0.out hb)
    clear hb0 hb hro
    go_wp2_with fail
    refine hr.out.mono ?_
    rintro e w2 ⟨rfl, hb2⟩
    have hB2 := Lib.hid (grew hB.out hb2)
    clear hB hb2
    go_wp2_with fail
    go_ret
    exact ⟨rfl, hB2.out⟩
set_option maxRecDepth 100000 in
set_option maxHeartbeats 4000000 in
theorem note_yes {B0 : Nat} (tb : Nat) (m : Option Nat) (l : List La) (x : La) (w : World) (h : TbAt B0 w tb m l) (hB0 : B0 ≤ w.heap.size) (hok : TabOk l) (hx : noteE l x = 0) : Calls Try.prog 20 #[.pointer (some ⟨tb, 0, none⟩), .int .i64 x.p, .int .i64 x.s, .int .i64 x.n, .int .i64 x.o] w fun e w' => e = .returned (.int .i64 0) ∧ Tb B0 w' tb (noteL l x) ∧ Kept (ofT tb m) w w' := by
  obtain ⟨V, hV⟩ : ∃ V, Hid (V = w.alloc (.cells #[.int .i64 x.s, .int .i64 x.n, .int .i64 x.o] 80)) := ⟨_, Lib.hid rfl⟩
  have hb0 : Below w.heap.size w V := by rw [hV.out]; exact grewAlloc (Below.refl _ _) _
  have hX : Whole V w.heap.size 80 [.int .i64 x.s, .int .i64 x.n, .int .i64 x.o] := by rw [hV.out]; exact Whole.new w _ _
  obtain ⟨q, hq⟩ : ∃ q, Hid (w.heap.size = q) := ⟨_, Lib.hid rfl⟩
  rw [hq.out] at hX
  have hm := dmay_any x.p x.s x.n x.o V
  have hxk : x.ok ∧ (hasL l x.p = true ∨ l.length < 16) := by
    unfold noteE at hx
    by_cases c0 : ¬ x.ok
    · rw [if_pos c0] at hx; omega
    · rw [if_neg c0] at hx
      refine ⟨Classical.not_not.1 c0, Classical.byContradiction fun e => ?_⟩
      rw [if_neg e] at hx
      omega
  have c0 := hxk.1
  have hrb : (hasL l x.p || decide (l.length < 16)) = true := by
    rcases hxk.2 with e | e
    · rw [e]; rfl
    · rw [decide_eq_true e]; simp
  rw [decide_eq_true (show okB x.p x.s x.n x.o from c0)] at hm
  have hwf := wf_prod c0.1.1 c0.1.2
  have hro := fun W (hb : Below V.heap.size V W) => room_any tb l x.p W (show Tb B0 W tb l from ⟨m, (h.below (grew hb0 hb))⟩) hwf (by have := hok.few; omega)
  rw [hrb] at hro
  have hlen : (noteL l x).length ≤ 1000 := by have := noteL_len l x; have := hok.few; omega
  have hll : l.length < maxLen := by have := hok.few; unfold maxLen; omega
  replace hm := Lib.hid hm
  replace hro := Lib.hid hro
  replace hb0 := Lib.hid hb0
  replace hX := Lib.hid hX
  have q0 : V.cell? ⟨q, 0, none⟩ = some (.int .i64 x.s) := hX.out.cell 0
  have q1 : V.cell? ⟨q, 1, none⟩ = some (.int .i64 x.n) := hX.out.cell 1
  have q2 : V.cell? ⟨q, 2, none⟩ = some (.int .i64 x.o) := hX.out.cell 2
  replace h := Lib.hid h
  clear hok hx hxk hrb c0
  go_enter Try.func20, Try.ntmps20
  go_upto_region 4 with fail
  rw [← show V = _ from hV.out, hq.out]
  clear hV hq
  go_wp2_with fail
  refine hm.out.mono ?_
  rintro e w1 ⟨rfl, hb⟩
  have hr := Lib.hid (hro.out _ hb)
  have hB := Lib.hid (grew hb0.out hb)
  replace hX := Lib.hid (hX.out.below hb hX.out.lt)
  clear hb0 hb hro q0 q1 q2
  go_wp2_with fail
  refine hr.out.mono ?_
  rintro e w2 ⟨rfl, hb2⟩
  have hB2 := grew hB.out hb2
  have hX2 := hX.out.below hb2 hX.out.lt
  have h2 := h.out.below hB2
  obtain ⟨i1, i2, i3, i4⟩ := h2
  have q0 : w2.cell? ⟨q, 0, none⟩ = some (.int .i64 x.s) := hX2.cell 0
  have q1 : w2.cell? ⟨q, 1, none⟩ = some (.int .i64 x.n) := hX2.cell 1
  have q2 : w2.cell? ⟨q, 2, none⟩ = some (.int .i64 x.o) := hX2.cell 2
  have t0 : w2.cell? ⟨tb, 0, none⟩ = some (.map m) := i1.cell 0
  have f0 : w2.frozen? ⟨tb, 0, none⟩ = false := i1.frozen 0
  have hB2s : w.heap.size ≤ w2.heap.size := hB2.size
  have hq := fun W => eql_map_nil m W
  rcases i2 with ⟨rfl, rfl⟩ | ⟨mb, rfl, i2⟩
  · -- the first one
    have hmm := @run_makeMap Try.prog
    have i1a := i1.alloc (.map #[] 0)
    have t1 : (w2.alloc (.map #[] 0)).cell? ⟨tb, 0, none⟩ = some (.map none) := i1a.cell 0
    have f1 : (w2.alloc (.map #[] 0)).frozen? ⟨tb, 0, none⟩ = false := i1a.frozen 0
    obtain ⟨W3, hW3⟩ : ∃ V, Hid (V = (w2.alloc (.map #[] 0)).setCell ⟨tb, 0, none⟩ (.map (some w2.heap.size))) := ⟨_, Lib.hid rfl⟩
    have hbox3 : Whole W3 tb 76 [.map (some w2.heap.size)] := by rw [hW3.out]; exact i1a.store 0 [.map (some w2.heap.size)] (by simp)
    have hown3 : W3.ownsMap Try.prog 3 laR w2.heap.size 0 (tabD []) := by
      rw [hW3.out]
      exact (World.ownsMap_made w2 Try.prog 3 laR).setCell (a := ⟨tb, 0, none⟩) (fun e => by have := i1.lt; simp only at e; omega) _
    have hK3 : Kept (ofT tb none) w W3 := by
      rw [hW3.out]
      exact ((Kept.of_below hB2).alloc (.map #[] 0)).setCells (c := tb) (.inl (.inl rfl)) 0 [.map (some w2.heap.size)]
    have hX3 : Whole W3 q 80 [.int .i64 x.s, .int .i64 x.n, .int .i64 x.o] := by
      rw [hW3.out]
      exact (hX2.alloc (.map #[] 0)).far (hX2.ne i1 (by decide)) 0 [.map (some w2.heap.size)]
    have hmw : B0 ≤ w2.heap.size := by omega
    have hwm : w.heap.size ≤ w2.heap.size := hB2.size
    obtain ⟨mb, hmb⟩ : ∃ mb, Hid (w2.heap.size = mb) := ⟨_, Lib.hid rfl⟩
    rw [hmb.out] at hbox3 hown3 hmw hwm
    have hown3' := hown3.drew
    obtain ⟨w3, hrun, hown, hgrow⟩ := hown3'.update (key := .int .i64 x.p) (val := laV x.s x.n x.o) keyedI Try.underlying74 (by unfold maxLen; omega) (keyI hwf) (laR_mk x.s x.n x.o)
    have q03 : W3.cell? ⟨q, 0, none⟩ = some (.int .i64 x.s) := hX3.cell 0
    have q13 : W3.cell? ⟨q, 1, none⟩ = some (.int .i64 x.n) := hX3.cell 1
    have q23 : W3.cell? ⟨q, 2, none⟩ = some (.int .i64 x.o) := hX3.cell 2
    have t3 : W3.cell? ⟨tb, 0, none⟩ = some (.map (some mb)) := hbox3.cell 0
    have hnm : tb ≠ mb := fun e => by have := i1.lt; have := hmb.out; omega
    clear hX hX2 hX3 hB hr hb2 h i1a i1 hB2
    replace hown := Lib.hid hown
    replace hgrow := Lib.hid hgrow
    replace hbox3 := Lib.hid hbox3
    replace hown3 := Lib.hid hown3
    replace hown3' := Lib.hid hown3'
    replace hK3 := Lib.hid hK3
    go_upto_region 10 with fail
    rw [← show W3 = _ from hW3.out, hmb.out]
    clear hW3 hmm t1 f1 q0 q1 q2 t0 f0 hmb
    go_region
    have hbox : Whole w3 tb 76 [.map (some mb)] := hbox3.out.kept (w := W3.drew) hgrow.out (fun e => hnm (Option.some.inj e))
    have hown2 := own_tight hown.out
    rw [tabD_put, tabD_size] at hown2
    have hK : Kept (ofT tb none) w w3 := (show Kept (ofT tb none) w W3.drew from hK3.out.drewN 1).grown hgrow.out (fun k e => .inr (by cases e; exact hwm))
    have hfin : Hid (Tb B0 w3 tb (noteL [] x) ∧ Kept (ofT tb none) w w3) := Lib.hid ⟨⟨some mb, hbox, .inr ⟨mb, rfl, hown2⟩, i3, fun k e => by cases e; exact hmw⟩, hK⟩
    clear hbox hown2 hK hown hgrow hrun hbox3 hown3 hown3' hK3 t3 q03 q13 q23
    go_wp2_with fail
    go_ret
    exact ⟨rfl, hfin.out⟩
  · have i2' := i2.drew
    obtain ⟨w3, hrun, hown, hgrow⟩ := i2'.update (key := .int .i64 x.p) (val := laV x.s x.n x.o) keyedI Try.underlying74 hll (keyI hwf) (laR_mk x.s x.n x.o)
    clear hX hX2 hB hr hb2 h
    replace hown := Lib.hid hown
    replace hgrow := Lib.hid hgrow
    replace hB2 := Lib.hid hB2
    replace i1 := Lib.hid i1
    replace i2 := Lib.hid i2
    replace i2' := Lib.hid i2'
    go_upto_region 10 with fail
    go_region
    have hbox : Whole w3 tb 76 [.map (some mb)] := by
      have hne : some tb ≠ some mb := fun e => by
        obtain ⟨es, clock, hm, _⟩ := i2.out
        cases e
        have h3 := i1.out
        unfold Whole at h3
        rw [hm] at h3
        cases h3
      exact i1.out.kept (w := w2.drew) hgrow.out hne
    have hown2 := own_tight hown.out
    rw [tabD_put, tabD_size] at hown2
    have hK : Kept (ofT tb (some mb)) w w3 := (show Kept (ofT tb (some mb)) w w2.drew from (Kept.of_below hB2.out).drewN 1).grown hgrow.out (fun k e => .inl (.inr e))
    have hfin : Hid (Tb B0 w3 tb (noteL l x) ∧ Kept (ofT tb (some mb)) w w3) := Lib.hid ⟨⟨some mb, hbox, .inr ⟨mb, rfl, hown2⟩, i3, i4⟩, hK⟩
    clear hbox hown2 hK hown hgrow hrun hB2 i1 i2 i2' q0 q1 q2 t0
    go_wp2_with fail
    go_ret
    exact ⟨rfl, hfin.out⟩
end Go.Proofs.Ytbbeapglkdkajaa.W
