/- Package dedup's small calls: within, may, next, New, hasRoom, Check, Note, Next. -/
import Derived.Test.YtbbeapglkdkajaaDdM
import Derived.ProofKit
import Derived.OpenShut
import Derived.Below
import Derived.Outline
import Derived.WalkSpells
import Derived.WalkLawsBesides
import Derived.Deep.Cut
import Derived.BigRegion
import Derived.OwnWalk
import Derived.Test.YtbbeapglkdkajaaCells
namespace Go.Proofs.Ytbbeapglkdkajaa.W
open Go.RowKit
open Go.Proofs.Ytbbeapglkdkajaa.M Go.Proofs.Ytbbeapglkdkajaa.D
set_option linter.unusedVariables false
set_option linter.unusedSimpArgs false

theorem within_any (n a b : Int) (w : World) : Calls Try.prog 55 #[.int .i64 n, .int .i64 a, .int .i64 b] w fun e w' => e = .returned (.bool (decide (a ≤ n ∧ n ≤ b))) ∧ w = w' := by
  by_cases h0 : a ≤ n
  · by_cases h1 : n ≤ b
    · rw [decide_eq_true (show a ≤ n ∧ n ≤ b from ⟨h0, h1⟩)]
      go_enter Try.func55, Try.ntmps55
      go_wp2_with fail
      go_ret
      exact ⟨rfl, rfl⟩
    · rw [decide_eq_false (show ¬ (a ≤ n ∧ n ≤ b) from fun h => h1 h.2)]
      have h2 : b < n := by omega
      go_enter Try.func55, Try.ntmps55
      go_wp2_with fail
      go_ret
      exact ⟨rfl, rfl⟩
  · rw [decide_eq_false (show ¬ (a ≤ n ∧ n ≤ b) from fun h => h0 h.1)]
    have h2 : n < a := by omega
    go_enter Try.func55, Try.ntmps55
    go_wp2_with fail
    go_ret
    exact ⟨rfl, rfl⟩
set_option maxRecDepth 100000 in
set_option maxHeartbeats 2000000 in
theorem dmay_any (p s n o : Int) (w : World) : Calls Try.prog 37 #[.int .i64 p, .agg #[.int .i64 s, .int .i64 n, .int .i64 o]] w fun e w' => e = .returned (.bool (decide (okB p s n o))) ∧ Below w.heap.size w w' := by
  have hB := Lib.hid ((Below.refl w.heap.size w).alloc (Nat.le_refl _) (.cells #[.int .i64 s, .int .i64 n, .int .i64 o] 80))
  obtain ⟨R, hm⟩ : ∃ R, Hid (decide (okB p s n o) = R) := ⟨_, Lib.hid rfl⟩
  have bad : Hid (¬ okB p s n o → R = false) := Lib.hid (fun h => by rw [← hm.out]; exact decide_eq_false h)
  have fine : Hid (okB p s n o → R = true) := Lib.hid (fun h => by rw [← hm.out]; exact decide_eq_true h)
  rw [hm.out]
  clear hm
  have h1 := fun W => within_any p 1 1099511627776 W
  have h2 := fun W => within_any s 0 1099511627776 W
  have h3 := fun W => within_any n 1 8 W
  have h4 := fun W => within_any o 0 1048576 W
  by_cases c1 : ¬ (1 ≤ p ∧ p ≤ 1099511627776)
  · rw [decide_eq_false c1] at h1
    obtain rfl := bad.out (fun h => c1 h.1)
    replace h1 := Lib.hid h1
    clear h2 h3 h4 c1
    go_enter Try.func37, Try.ntmps37
    go_wp2_with fail
    refine (h1.out _).mono ?_
    rintro e w1 ⟨rfl, rfl⟩
    go_wp2_with fail
    go_ret
    exact ⟨rfl, hB.out⟩
  replace c1 := Classical.not_not.1 c1
  rw [decide_eq_true c1] at h1
  replace h1 := Lib.hid h1
  replace c1 := Lib.hid c1
  by_cases c2 : ¬ (0 ≤ s ∧ s ≤ 1099511627776)
  · rw [decide_eq_false c2] at h2
    obtain rfl := bad.out (fun h => c2 h.2.1)
    replace h2 := Lib.hid h2
    clear h3 h4 c2
    go_enter Try.func37, Try.ntmps37
    go_wp2_with fail
    refine (h1.out _).mono ?_
    rintro e w1 ⟨rfl, rfl⟩
    go_wp2_with fail
    refine (h2.out _).mono ?_
    rintro e w1 ⟨rfl, rfl⟩
    go_wp2_with fail
    go_ret
    exact ⟨rfl, hB.out⟩
  replace c2 := Classical.not_not.1 c2
  rw [decide_eq_true c2] at h2
  replace h2 := Lib.hid h2
  replace c2 := Lib.hid c2
  by_cases c3 : ¬ (1 ≤ n ∧ n ≤ 8)
  · rw [decide_eq_false c3] at h3
    obtain rfl := bad.out (fun h => c3 h.2.2.1)
    replace h3 := Lib.hid h3
    clear h4 c3
    go_enter Try.func37, Try.ntmps37
    go_wp2_with fail
    refine (h1.out _).mono ?_
    rintro e w1 ⟨rfl, rfl⟩
    go_wp2_with fail
    refine (h2.out _).mono ?_
    rintro e w1 ⟨rfl, rfl⟩
    go_wp2_with fail
    refine (h3.out _).mono ?_
    rintro e w1 ⟨rfl, rfl⟩
    go_wp2_with fail
    go_ret
    exact ⟨rfl, hB.out⟩
  replace c3 := Classical.not_not.1 c3
  rw [decide_eq_true c3] at h3
  replace h3 := Lib.hid h3
  replace c3 := Lib.hid c3
  by_cases c4 : 0 ≤ o ∧ o ≤ 1048576
  · rw [decide_eq_true c4] at h4
    obtain rfl := fine.out ⟨c1.out, c2.out, c3.out, c4⟩
    replace h4 := Lib.hid h4
    clear c4
    go_enter Try.func37, Try.ntmps37
    go_wp2_with fail
    refine (h1.out _).mono ?_
    rintro e w1 ⟨rfl, rfl⟩
    go_wp2_with fail
    refine (h2.out _).mono ?_
    rintro e w1 ⟨rfl, rfl⟩
    go_wp2_with fail
    refine (h3.out _).mono ?_
    rintro e w1 ⟨rfl, rfl⟩
    go_wp2_with fail
    refine (h4.out _).mono ?_
    rintro e w1 ⟨rfl, rfl⟩
    go_wp2_with fail
    go_ret
    exact ⟨rfl, hB.out⟩
  · rw [decide_eq_false c4] at h4
    obtain rfl := bad.out (fun h => c4 h.2.2.2)
    replace h4 := Lib.hid h4
    clear c4
    go_enter Try.func37, Try.ntmps37
    go_wp2_with fail
    refine (h1.out _).mono ?_
    rintro e w1 ⟨rfl, rfl⟩
    go_wp2_with fail
    refine (h2.out _).mono ?_
    rintro e w1 ⟨rfl, rfl⟩
    go_wp2_with fail
    refine (h3.out _).mono ?_
    rintro e w1 ⟨rfl, rfl⟩
    go_wp2_with fail
    refine (h4.out _).mono ?_
    rintro e w1 ⟨rfl, rfl⟩
    go_wp2_with fail
    go_ret
    exact ⟨rfl, hB.out⟩
theorem dnext_any (s n o : Int) (w : World) (h0 : 0 ≤ s) (h1 : s ≤ 1099511627776) (h2 : 0 ≤ n) (h3 : n ≤ 8) : Calls Try.prog 39 #[.agg #[.int .i64 s, .int .i64 n, .int .i64 o]] w fun e w' => e = .returned (.int .i64 (s + n)) ∧ Below w.heap.size w w' := by
  have hB := Lib.hid ((Below.refl w.heap.size w).alloc (Nat.le_refl _) (.cells #[.int .i64 s, .int .i64 n, .int .i64 o] 80))
  have hw : IntKind.i64.wrap (s + n) = s + n := IntWalk.i64_in _ (by omega)
  go_enter Try.func39, Try.ntmps39
  go_wp2_with fail
  go_ret
  exact ⟨rfl, hB.out⟩
theorem dnew_any (w : World) : Calls Try.prog 18 #[] w fun e w' => e = .returned (.pointer (some ⟨w.heap.size, 0, none⟩)) ∧ Tb w.heap.size w' w.heap.size [] ∧ Below w.heap.size w w' := by
  have hB := Lib.hid ((Below.refl w.heap.size w).alloc (Nat.le_refl _) (.cells #[.map none] 76))
  have hT : Hid (Tb w.heap.size (w.alloc (.cells #[.map none] 76)) w.heap.size []) := Lib.hid ⟨none, Whole.new w _ _, .inl ⟨rfl, rfl⟩, Nat.le_refl _, fun _ e => by cases e⟩
  go_enter Try.func18, Try.ntmps18
  go_wp2_with fail
  go_ret
  exact ⟨rfl, hT.out, hB.out⟩
set_option maxRecDepth 100000 in
set_option maxHeartbeats 2000000 in
theorem room_any {B0 : Nat} (tb : Nat) (l : List La) (p : Int) (w : World) (h : Tb B0 w tb l) (hp : (Lit.int .i64 p).wf = true) (hl : l.length ≤ 100) : Calls Try.prog 38 #[.pointer (some ⟨tb, 0, none⟩), .int .i64 p] w fun e w' => e = .returned (.bool (hasL l p || decide (l.length < 16))) ∧ Below w.heap.size w w' := by
  obtain ⟨m, h1, h2, _, _⟩ := h
  have c0 : w.cell? ⟨tb, 0, none⟩ = some (.map m) := h1.cell 0
  have hlk := h2.look_ok hp
  obtain ⟨x, y, z, e⟩ : ∃ x y z, (x, y, z) = ((getV l p).s, (getV l p).n, (getV l p).o) := ⟨_, _, _, rfl⟩
  simp only [Prod.mk.injEq] at e
  rw [← e.1, ← e.2.1, ← e.2.2] at hlk
  obtain ⟨V, hV⟩ : ∃ V, Hid (V = w.alloc (.cells #[.int .i64 x, .int .i64 y, .int .i64 z] 80)) := ⟨_, Lib.hid rfl⟩
  have hb0 : Below w.heap.size w V := by rw [hV.out]; exact (Below.refl _ _).alloc (Nat.le_refl _) _
  have c1 : V.cell? ⟨tb, 0, none⟩ = some (.map m) := (h1.below hb0 h1.lt).cell 0
  have hln := fun ty => (h2.below hb0).len ty
  obtain ⟨N, hN⟩ : ∃ N, Hid (l.length = N) := ⟨_, Lib.hid rfl⟩
  obtain ⟨B, hB⟩ : ∃ B, Hid (hasL l p = B) := ⟨_, Lib.hid rfl⟩
  rw [hN.out] at hln hl
  rw [hN.out, hB.out]
  rw [hB.out] at hlk
  replace hb0 := Lib.hid hb0
  clear h1 h2 e
  cases B with
  | true =>
    go_enter Try.func38, Try.ntmps38
    go_wp2_with fail
    rw [← show V = _ from hV.out]
    go_wp2_with fail
    go_ret
    exact ⟨rfl, hb0.out⟩
  | false =>
    go_enter Try.func38, Try.ntmps38
    go_upto_region 2 with fail
    rw [← show V = _ from hV.out]
    clear hV c0 hlk
    go_wp2_with fail
    go_ret
    exact ⟨by simp; omega, hb0.out⟩
/-- What Check tells (18.1). -/
def chkF (l : List La) (p s n : Int) : Int × Bool × Int :=
  if ¬ okB p s n 0 then (0, false, 1) else if (getV l p).s = s ∧ (getV l p).n = n then ((getV l p).o, true, 0) else if (getV l p).s + (getV l p).n ≠ s then (0, false, 33)
  else if hasL l p = true ∨ l.length < 16 then (0, false, 0) else (0, false, 5)
theorem getV_ok {l : List La} (h : ∀ x ∈ l, x.ok) (p : Int) : (0 ≤ (getV l p).s ∧ (getV l p).s ≤ 1099511627776) ∧ (0 ≤ (getV l p).n ∧ (getV l p).n ≤ 8) ∧ (0 ≤ (getV l p).o ∧ (getV l p).o ≤ 1048576) := by
  unfold getV
  cases hg : getL l p with
  | none => simp
  | some x =>
    obtain ⟨h1, h2, h3, h4⟩ := h x (getL_mem hg).1
    refine ⟨h2, ⟨?_, h3.2⟩, h4⟩
    show 0 ≤ x.n
    omega
theorem wf_prod {p : Int} (h0 : 1 ≤ p) (h1 : p ≤ 1099511627776) : (Lit.int .i64 p).wf = true := by
  simp [Lit.wf, IntKind.min, IntKind.max, IntKind.signed, IntKind.bits]; omega
abbrev chkV (r : Int × Bool × Int) : Value := .tuple #[.int .i64 r.1, .bool r.2.1, .int .i64 r.2.2]
set_option maxRecDepth 100000 in
set_option maxHeartbeats 4000000 in
theorem check_any {B0 : Nat} (tb : Nat) (l : List La) (p s n : Int) (w : World) (h : Tb B0 w tb l) (hok : TabOk l) : Calls Try.prog 21 #[.pointer (some ⟨tb, 0, none⟩), .int .i64 p, .int .i64 s, .int .i64 n] w fun e w' => e = .returned (chkV (chkF l p s n)) ∧ Below w.heap.size w w' := by
  have hm := fun W => dmay_any p s n 0 W
  obtain ⟨r, hr⟩ : ∃ r, Hid (chkF l p s n = r) := ⟨_, Lib.hid rfl⟩
  have hrr := hr.out
  rw [hr.out]
  unfold chkF at hrr
  by_cases c0 : ¬ okB p s n 0
  · rw [if_pos c0] at hrr
    rw [decide_eq_false c0] at hm
    replace hm := Lib.hid hm
    subst hrr
    clear hr c0 h hok
    go_enter Try.func21, Try.ntmps21
    go_wp2_with fail
    refine (hm.out _).mono ?_
    rintro e w1 ⟨rfl, hb⟩
    replace hb := Lib.hid hb
    go_wp2_with fail
    go_ret3
    exact ⟨rfl, hb.out⟩
  replace c0 := Classical.not_not.1 c0
  rw [if_neg (fun e => e c0)] at hrr
  rw [decide_eq_true c0] at hm
  have hwf := wf_prod c0.1.1 c0.1.2
  have hg := getV_ok hok.ok p
  have hlk : ∀ W, Below w.heap.size w W → ∃ m, W.cell? ⟨tb, 0, none⟩ = some (.map m) ∧ (Instr.lookup 74 (.map m) (.int .i64 p) false).run Try.prog W = .ok (laV (getV l p).s (getV l p).n (getV l p).o) W := fun W hb => by
    obtain ⟨m, h1⟩ := h.below hb
    exact ⟨m, h1.box.cell 0, h1.map.look hwf⟩
  obtain ⟨g, hge⟩ : ∃ g, Hid (getV l p = g) := ⟨_, Lib.hid rfl⟩
  rw [hge.out] at hrr hg hlk
  obtain ⟨gp, x, y, z⟩ := g
  dsimp only at hrr hg hlk
  obtain ⟨⟨x0, x1⟩, ⟨y0, y1⟩, ⟨z0, z1⟩⟩ := hg
  have hnx := fun W => dnext_any x y z W x0 x1 y0 y1
  have hro := fun W (hb : Below w.heap.size w W) => room_any tb l p W (h.below hb) hwf (by have := hok.few; omega)
  replace hm := Lib.hid hm
  replace hlk := Lib.hid hlk
  replace hnx := Lib.hid hnx
  replace hro := Lib.hid hro
  clear h hok hge hr c0 hwf
  go_enter Try.func21, Try.ntmps21
  go_wp2_with fail
  refine (hm.out _).mono ?_
  rintro e w1 ⟨rfl, hb1⟩
  obtain ⟨m, c1, hl1⟩ := hlk.out w1 hb1
  obtain ⟨V, hV⟩ : ∃ V, Hid (V = w1.alloc (.cells #[.int .i64 x, .int .i64 y, .int .i64 z] 80)) := ⟨_, Lib.hid rfl⟩
  have hB : Below w.heap.size w V := by rw [hV.out]; exact grewAlloc hb1 _
  have hX : Whole V w1.heap.size 80 [.int .i64 x, .int .i64 y, .int .i64 z] := by rw [hV.out]; exact Whole.new w1 _ _
  obtain ⟨q, hq⟩ : ∃ q, Hid (w1.heap.size = q) := ⟨_, Lib.hid rfl⟩
  rw [hq.out] at hX
  have q0 : V.cell? ⟨q, 0, none⟩ = some (.int .i64 x) := hX.cell 0
  have q1 : V.cell? ⟨q, 1, none⟩ = some (.int .i64 y) := hX.cell 1
  have q2 : V.cell? ⟨q, 2, none⟩ = some (.int .i64 z) := hX.cell 2
  have hro2 := Lib.hid (fun W (hb : Below V.heap.size V W) => hro.out W (grew hB hb))
  replace hB := Lib.hid hB
  clear hm hlk hX hb1 hro
  by_cases k1 : x = s ∧ y = n
  · rw [if_pos k1] at hrr
    subst hrr
    have e1 : (x == s) = true := by simp [k1.1]
    have e2 : (y == n) = true := by simp [k1.2]
    replace k1 := Lib.hid k1
    go_upto_region 6 with fail
    rw [← show V = _ from hV.out, hq.out]
    clear hV hq c1 hl1
    go_wp2_with fail
    go_ret3
    exact ⟨rfl, hB.out⟩
  rw [if_neg k1] at hrr
  have hcmp : Hid (((x == s) = true ∧ (y == n) = false) ∨ (x == s) = false) := Lib.hid (by
    by_cases e : x = s
    · exact .inl ⟨by simp [e], by simpa using fun e2 => k1 ⟨e, e2⟩⟩
    · exact .inr (by simpa using e))
  replace k1 := Lib.hid k1
  by_cases c2 : x + y ≠ s
  · rw [if_pos c2] at hrr
    subst hrr
    have e3 : (x + y == s) = false := by simpa using c2
    have e4 : (x + y != s) = true := by simpa using c2
    replace c2 := Lib.hid c2
    rcases hcmp.out with ⟨e1, e2⟩ | e1
    · clear hcmp
      go_upto_region 6 with fail
      rw [← show V = _ from hV.out, hq.out]
      clear hV hq hl1
      go_wp2_with fail
      refine (hnx.out _).mono ?_
      rintro e w2 ⟨rfl, hb2⟩
      have hB2 := Lib.hid (grew hB.out hb2)
      clear hB hb2
      go_wp2_with fail
      go_ret3
      exact ⟨rfl, hB2.out⟩
    · clear hcmp
      go_upto_region 6 with fail
      rw [← show V = _ from hV.out, hq.out]
      clear hV hq hl1
      go_wp2_with fail
      refine (hnx.out _).mono ?_
      rintro e w2 ⟨rfl, hb2⟩
      have hB2 := Lib.hid (grew hB.out hb2)
      clear hB hb2
      go_wp2_with fail
      go_ret3
      exact ⟨rfl, hB2.out⟩
  rw [if_neg c2] at hrr
  replace c2 := Classical.not_not.1 c2
  have key : Hid (r = if hasL l p = true ∨ l.length < 16 then (0, false, 0) else (0, false, 5)) := Lib.hid hrr.symm
  obtain ⟨Bo, hBo⟩ : ∃ b, Hid ((hasL l p || decide (l.length < 16)) = b) := ⟨_, Lib.hid rfl⟩
  rw [hBo.out] at hro2
  have hr3 : r = if Bo = true then (0, false, 0) else (0, false, 5) := by
    rw [key.out, ← hBo.out]
    simp
  clear hrr key hBo
  have e3 : (x + y == s) = true := by simpa using c2
  have e4 : (x + y != s) = false := by simpa using c2
  replace c2 := Lib.hid c2
  cases Bo with
  | true =>
    rw [if_pos rfl] at hr3
    subst hr3
    rcases hcmp.out with ⟨e1, e2⟩ | e1
    · clear hcmp
      go_upto_region 6 with fail
      rw [← show V = _ from hV.out, hq.out]
      clear hV hq hl1
      go_wp2_with fail
      refine (hnx.out _).mono ?_
      rintro e w2 ⟨rfl, hb2⟩
      have hB2 := Lib.hid (grew hB.out hb2)
      have hro3 := Lib.hid (hro2.out w2 hb2)
      clear hB hb2
      go_wp2_with fail
      refine hro3.out.mono ?_
      rintro e w3 ⟨rfl, hb3⟩
      have hB3 := Lib.hid (grew hB2.out hb3)
      clear hB2 hb3
      go_wp2_with fail
      go_ret3
      exact ⟨rfl, hB3.out⟩
    · clear hcmp
      go_upto_region 6 with fail
      rw [← show V = _ from hV.out, hq.out]
      clear hV hq hl1
      go_wp2_with fail
      refine (hnx.out _).mono ?_
      rintro e w2 ⟨rfl, hb2⟩
      have hB2 := Lib.hid (grew hB.out hb2)
      have hro3 := Lib.hid (hro2.out w2 hb2)
      clear hB hb2
      go_wp2_with fail
      refine hro3.out.mono ?_
      rintro e w3 ⟨rfl, hb3⟩
      have hB3 := Lib.hid (grew hB2.out hb3)
      clear hB2 hb3
      go_wp2_with fail
      go_ret3
      exact ⟨rfl, hB3.out⟩
  | false =>
    rw [if_neg (by decide)] at hr3
    subst hr3
    rcases hcmp.out with ⟨e1, e2⟩ | e1
    · clear hcmp
      go_upto_region 6 with fail
      rw [← show V = _ from hV.out, hq.out]
      clear hV hq hl1
      go_wp2_with fail
      refine (hnx.out _).mono ?_
      rintro e w2 ⟨rfl, hb2⟩
      have hB2 := Lib.hid (grew hB.out hb2)
      have hro3 := Lib.hid (hro2.out w2 hb2)
      clear hB hb2
      go_wp2_with fail
      refine hro3.out.mono ?_
      rintro e w3 ⟨rfl, hb3⟩
      have hB3 := Lib.hid (grew hB2.out hb3)
      clear hB2 hb3
      go_wp2_with fail
      go_ret3
      exact ⟨rfl, hB3.out⟩
    · clear hcmp
      go_upto_region 6 with fail
      rw [← show V = _ from hV.out, hq.out]
      clear hV hq hl1
      go_wp2_with fail
      refine (hnx.out _).mono ?_
      rintro e w2 ⟨rfl, hb2⟩
      have hB2 := Lib.hid (grew hB.out hb2)
      have hro3 := Lib.hid (hro2.out w2 hb2)
      clear hB hb2
      go_wp2_with fail
      refine hro3.out.mono ?_
      rintro e w3 ⟨rfl, hb3⟩
      have hB3 := Lib.hid (grew hB2.out hb3)
      clear hB2 hb3
      go_wp2_with fail
      go_ret3
      exact ⟨rfl, hB3.out⟩
end Go.Proofs.Ytbbeapglkdkajaa.W
