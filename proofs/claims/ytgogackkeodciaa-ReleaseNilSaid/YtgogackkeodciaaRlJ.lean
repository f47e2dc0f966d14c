/- Package release: New; Apply of the first release, and of its being done. -/
import Derived.Test.YtgogackkeodciaaRlI
namespace Go.Proofs.Ytgogackkeodciaa.W
open Go.RowKit Go.Sort
open Go.Proofs.Ytgogackkeodciaa.M Go.Proofs.Ytgogackkeodciaa.D Go.Proofs.Ytgogackkeodciaa.Z
set_option linter.unusedVariables false
set_option linter.unusedSimpArgs false

theorem new25_any (w : World) : Calls Try.prog 54 #[] w fun e w' => e = .returned (.pointer (some ⟨w.heap.size, 0, none⟩)) ∧ Whole w' w.heap.size 123 [.int .i64 0, .slice none 0 0] ∧ Below w.heap.size w w' := by
  have hW := Lib.hid (Whole.new w 123 [.int .i64 0, .slice none 0 0])
  have hb := Lib.hid (grewAlloc (Below.refl w.heap.size w) (.cells #[.int .i64 0, .slice none 0 0] 123))
  go_enter Try.func54, Try.ntmps54
  go_wp2_with fail
  go_ret
  exact ⟨rfl, hW.out, hb.out⟩
set_option maxRecDepth 100000 in
set_option maxHeartbeats 4000000 in
theorem apply25_A (lb : Nat) (w : World) (h : Whole w lb 123 [.int .i64 0, .slice none 0 0]) :
    Calls Try.prog 29 #[.pointer (some ⟨lb, 0, none⟩), .agg #[.int .i64 1, .string pR0]] w fun e w' => e = .returned (.int .i64 0) ∧ ∃ gb c cur, Whole w' lb 123 [.int .i64 0, .slice (some ⟨gb, 0, none⟩) 1 c] ∧ Whole w' gb 67 cur ∧ cur.take 11 = [.int .i64 1, .int .i64 1, .int .i64 2, .string ⟨#[115]⟩, .int .i64 0, .int .i64 3, .string ⟨#[116]⟩, .int .i64 1, .string ⟨#[107]⟩, .string ⟨#[118]⟩, .bool false] ∧ 1 ≤ c ∧ w.heap.size ≤ gb ∧ Kept (fun q => q = lb) w w' := by
  obtain ⟨V, hV⟩ : ∃ V, Hid (V = (w.alloc (.cells #[.int .i64 1, .string pR0] 33)).alloc (.cells #[.string pR0] 117)) := ⟨_, Lib.hid rfl⟩
  have hB : Below w.heap.size w V := by rw [hV.out]; exact grewAlloc (grewAlloc (Below.refl _ _) _) _
  have hF : Whole V w.heap.size 33 [.int .i64 1, .string pR0] := by rw [hV.out]; exact (Whole.new w _ _).alloc _
  have hR : Whole V (w.heap.size + 1) 117 [.string pR0] := by
    rw [hV.out]
    have := Whole.new (w.alloc (.cells #[.int .i64 1, .string pR0] 33)) 117 [.string pR0]
    simpa using this
  obtain ⟨fb, hfb⟩ : ∃ q, Hid (w.heap.size = q) := ⟨_, Lib.hid rfl⟩
  obtain ⟨rb, hrb⟩ : ∃ q, Hid (w.heap.size + 1 = q) := ⟨_, Lib.hid rfl⟩
  rw [hfb.out] at hF
  rw [hrb.out] at hR
  have hrw : w.heap.size ≤ rb := by have := hrb.out; omega
  have hfr : fb ≠ rb := by have := hfb.out; have := hrb.out; omega
  have hlf : fb ≠ lb := by have := hfb.out; have := h.lt; omega
  have hlr : lb ≠ rb := by have := hrb.out; have := h.lt; omega
  have hG := h.below hB h.lt
  have f0 : V.cell? ⟨fb, 0, none⟩ = some (.int .i64 1) := hF.cell 0
  have f1 : V.cell? ⟨fb, 1, none⟩ = some (.string pR0) := hF.cell 1
  have hrd := Lib.hid (release25_A rb V.drew hR)
  have x0 : ∀ W, Kept (fun q => q = rb ∨ q = lb) V W → W.cell? ⟨fb, 0, none⟩ = some (.int .i64 1) := fun W hk => (hF.of_kept hk (fun e => by rcases e with e | e; exact hfr e; exact hlf e)).cell 0
  have x1 : ∀ W, Kept (fun q => q = rb ∨ q = lb) V W → W.cell? ⟨fb, 1, none⟩ = some (.string pR0) := fun W hk => (hF.of_kept hk (fun e => by rcases e with e | e; exact hfr e; exact hlf e)).cell 1
  have s10 : Kept (fun q => q = rb ∨ q = lb) V V := Kept.refl _ _
  have s10d : Kept (fun q => q = rb ∨ q = lb) V V.drew := (Kept.refl _ _).drewN 1
  have hkf : Hid (∀ W, Kept (fun q => q = rb ∨ q = lb) V W → Kept (fun q => q = lb) w W) := Lib.hid (fun W hk => ((Kept.of_below (own := fun q => q = rb ∨ q = lb) hB).trans hk).mono (fun k hlt e => by rcases e with e | e; exfalso; omega; exact e))
  have hGd : Whole V.drew lb 123 _ := hG
  have hup1 : Hid (∀ W, Kept (fun q => q = rb) V.drew W → Kept (fun q => q = rb ∨ q = lb) V W) := Lib.hid (fun W hk => ((Kept.refl (fun q => q = rb ∨ q = lb) V).drewN 1).trans (hk.mono (fun k _ e => .inl e)))
  have hup2 : Hid (∀ W W', Kept (fun q => q = rb ∨ q = lb) V W → Kept (fun q => q = lb) W W' → Kept (fun q => q = rb ∨ q = lb) V W') := Lib.hid (fun W W' h1 h2 => h1.trans (h2.mono (fun k _ e => .inr e)))
  have hap := Lib.hid (fun W (hk : Kept (fun q => q = rb) V.drew W) => applyRel25_A lb W (hGd.of_kept hk (by exact hlr)))
  have hwv : w.heap.size ≤ V.heap.size := hB.size
  clear h hG hGd hF hR hB
  go_enter Try.func29, Try.ntmps29
  go_upto_region 4 with fail
  rw [← show V = _ from hV.out, hrb.out, hfb.out]
  clear hV hrb hfb
  go_upto_region 6 with fail
  clear f0 f1
  go_region_held3 (fun w' => Kept (fun q => q = rb ∨ q = lb) V w') (with_reducible first | assumption) (first
    | (go_at_call 65; have qq := ss1; (with_reducible refine (hap.out _ ss1).mono ?_); rintro _ y2 ⟨rfl, gb, c, cur, m1, m2, m3, m4, m5, m6, m7, kk2⟩; have s12 : Kept (fun q => q = rb ∨ q = lb) V y2 := hup2.out _ _ (hup1.out _ ss1) kk2; have hfin := Lib.hid ((⟨gb, c, cur, m1, m2, m3, m5, Nat.le_trans hwv (Nat.le_trans (show V.heap.size ≤ _ from ss1.size) m7), hkf.out _ s12⟩ : ∃ gb c cur, Whole y2 lb 123 [.int .i64 0, .slice (some ⟨gb, 0, none⟩) 1 c] ∧ Whole y2 gb 67 cur ∧ cur.take 11 = [.int .i64 1, .int .i64 1, .int .i64 2, .string ⟨#[115]⟩, .int .i64 0, .int .i64 3, .string ⟨#[116]⟩, .int .i64 1, .string ⟨#[107]⟩, .string ⟨#[118]⟩, .bool false] ∧ 1 ≤ c ∧ w.heap.size ≤ gb ∧ Kept (fun q => q = lb) w y2)))
    | (go_at_call 66; (with_reducible refine hrd.out.mono ?_); rintro _ y1 ⟨rfl, r1, ss1⟩; have s11 : Kept (fun q => q = rb ∨ q = lb) V y1 := hup1.out _ ss1))
  all_goals
    clear x0 x1
    go_wp2_with fail
    go_ret
    exact ⟨rfl, hfin.out⟩
set_option maxRecDepth 100000 in
set_option maxHeartbeats 4000000 in
theorem apply25_B (lb : Nat) (gb c : Nat) (w : World) (h : Whole w lb 123 [.int .i64 0, .slice (some ⟨gb, 0, none⟩) 1 c]) (hc1 : 1 ≤ c) :
    Calls Try.prog 29 #[.pointer (some ⟨lb, 0, none⟩), .agg #[.int .i64 2, .string ⟨#[1]⟩]] w fun e w' => e = .returned (.int .i64 0) ∧ ∃ q, Whole w' lb 123 [.int .i64 1, .slice (some ⟨q, 0, none⟩) 0 0] ∧ Kept (fun q => q = lb) w w' := by
  obtain ⟨V, hV⟩ : ∃ V, Hid (V = (w.alloc (.cells #[.int .i64 2, .string ⟨#[1]⟩] 33)).alloc (.cells #[.string ⟨#[1]⟩] 117)) := ⟨_, Lib.hid rfl⟩
  have hB : Below w.heap.size w V := by rw [hV.out]; exact grewAlloc (grewAlloc (Below.refl _ _) _) _
  have hF : Whole V w.heap.size 33 [.int .i64 2, .string ⟨#[1]⟩] := by rw [hV.out]; exact (Whole.new w _ _).alloc _
  have hR : Whole V (w.heap.size + 1) 117 [.string ⟨#[1]⟩] := by
    rw [hV.out]
    have := Whole.new (w.alloc (.cells #[.int .i64 2, .string ⟨#[1]⟩] 33)) 117 [.string ⟨#[1]⟩]
    simpa using this
  obtain ⟨fb, hfb⟩ : ∃ q, Hid (w.heap.size = q) := ⟨_, Lib.hid rfl⟩
  obtain ⟨rb, hrb⟩ : ∃ q, Hid (w.heap.size + 1 = q) := ⟨_, Lib.hid rfl⟩
  rw [hfb.out] at hF
  rw [hrb.out] at hR
  have hrw : w.heap.size ≤ rb := by have := hrb.out; omega
  have hfr : fb ≠ rb := by have := hfb.out; have := hrb.out; omega
  have hlf : fb ≠ lb := by have := hfb.out; have := h.lt; omega
  have hlr : lb ≠ rb := by have := hrb.out; have := h.lt; omega
  have hG := h.below hB h.lt
  have f0 : V.cell? ⟨fb, 0, none⟩ = some (.int .i64 2) := hF.cell 0
  have f1 : V.cell? ⟨fb, 1, none⟩ = some (.string ⟨#[1]⟩) := hF.cell 1
  have hrd := Lib.hid (number25_any rb ⟨#[1]⟩ ⟨#[]⟩ 1 1 V.drew hR (by decide) (by decide +kernel) (by decide) (by decide) (by decide) (by decide +kernel))
  have x0 : ∀ W, Kept (fun q => q = rb ∨ q = lb) V W → W.cell? ⟨fb, 0, none⟩ = some (.int .i64 2) := fun W hk => (hF.of_kept hk (fun e => by rcases e with e | e; exact hfr e; exact hlf e)).cell 0
  have x1 : ∀ W, Kept (fun q => q = rb ∨ q = lb) V W → W.cell? ⟨fb, 1, none⟩ = some (.string ⟨#[1]⟩) := fun W hk => (hF.of_kept hk (fun e => by rcases e with e | e; exact hfr e; exact hlf e)).cell 1
  have s10 : Kept (fun q => q = rb ∨ q = lb) V V := Kept.refl _ _
  have s10d : Kept (fun q => q = rb ∨ q = lb) V V.drew := (Kept.refl _ _).drewN 1
  have hkf : Hid (∀ W, Kept (fun q => q = rb ∨ q = lb) V W → Kept (fun q => q = lb) w W) := Lib.hid (fun W hk => ((Kept.of_below (own := fun q => q = rb ∨ q = lb) hB).trans hk).mono (fun k hlt e => by rcases e with e | e; exfalso; omega; exact e))
  have hGd : Whole V.drew lb 123 _ := hG
  have hup1 : Hid (∀ W, Kept (fun q => q = rb) V.drew W → Kept (fun q => q = rb ∨ q = lb) V W) := Lib.hid (fun W hk => ((Kept.refl (fun q => q = rb ∨ q = lb) V).drewN 1).trans (hk.mono (fun k _ e => .inl e)))
  have hup2 : Hid (∀ W W', Kept (fun q => q = rb ∨ q = lb) V W → Kept (fun q => q = lb) W W' → Kept (fun q => q = rb ∨ q = lb) V W') := Lib.hid (fun W W' h1 h2 => h1.trans (h2.mono (fun k _ e => .inr e)))
  have hap := Lib.hid (fun W (hk : Kept (fun q => q = rb) V.drew W) => applyDone25_A lb gb c W (hGd.of_kept hk (by exact hlr)) hc1)
  clear h hG hGd hF hR hB
  go_enter Try.func29, Try.ntmps29
  go_upto_region 4 with fail
  rw [← show V = _ from hV.out, hrb.out, hfb.out]
  clear hV hrb hfb
  go_upto_region 8 with fail
  clear f0 f1
  go_region_held3 (fun w' => Kept (fun q => q = rb ∨ q = lb) V w') (with_reducible first | assumption) (first
    | (go_at_call 67; have qq := ss1; (with_reducible refine (hap.out _ ss1).mono ?_); rintro _ y2 ⟨rfl, q, m1, kk2⟩; have s12 : Kept (fun q => q = rb ∨ q = lb) V y2 := hup2.out _ _ (hup1.out _ ss1) kk2; have hfin := Lib.hid ((⟨q, m1, hkf.out _ s12⟩ : ∃ q, Whole y2 lb 123 [.int .i64 1, .slice (some ⟨q, 0, none⟩) 0 0] ∧ Kept (fun q => q = lb) w y2)))
    | (go_at_call 68; (with_reducible refine hrd.out.mono ?_); rintro _ y1 ⟨rfl, r1, ss1⟩; have s11 : Kept (fun q => q = rb ∨ q = lb) V y1 := hup1.out _ ss1))
  all_goals
    clear x0 x1
    go_wp2_with fail
    go_ret
    exact ⟨rfl, hfin.out⟩
end Go.Proofs.Ytgogackkeodciaa.W
