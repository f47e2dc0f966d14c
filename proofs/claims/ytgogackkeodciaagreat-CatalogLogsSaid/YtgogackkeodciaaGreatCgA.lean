/- Package catalog's small calls: within, isGen, isTable, may. -/
import Derived.Test.YtgogackkeodciaaGreatCgN
import Derived.Test.YtgogackkeodciaaGreatDdY
namespace Go.Proofs.YtgogackkeodciaaGreat.W
open Go.RowKit Go.Sort
open Go.Proofs.YtgogackkeodciaaGreat.M Go.Proofs.YtgogackkeodciaaGreat.D Go.Proofs.YtgogackkeodciaaGreat.Z
set_option linter.unusedVariables false
set_option linter.unusedSimpArgs false

theorem within23_any (n a b : Int) (w : World) : Calls Tryz.prog 75 #[.int .i64 n, .int .i64 a, .int .i64 b] w fun e w' => e = .returned (.bool (decide (a ≤ n ∧ n ≤ b))) ∧ w = w' := by
  by_cases h0 : a ≤ n
  · by_cases h1 : n ≤ b
    · rw [decide_eq_true (show a ≤ n ∧ n ≤ b from ⟨h0, h1⟩)]
      go_enter Tryz.func75, Tryz.ntmps75
      go_wp2_with fail
      go_ret
      exact ⟨rfl, rfl⟩
    · rw [decide_eq_false (show ¬ (a ≤ n ∧ n ≤ b) from fun h => h1 h.2)]
      have h2 : b < n := by omega
      go_enter Tryz.func75, Tryz.ntmps75
      go_wp2_with fail
      go_ret
      exact ⟨rfl, rfl⟩
  · rw [decide_eq_false (show ¬ (a ≤ n ∧ n ≤ b) from fun h => h0 h.1)]
    have h2 : n < a := by omega
    go_enter Tryz.func75, Tryz.ntmps75
    go_wp2_with fail
    go_ret
    exact ⟨rfl, rfl⟩
theorem isGen_any (n : Int) (w : World) : Calls Tryz.prog 74 #[.int .i64 n] w fun e w' => e = .returned (.bool (decide (1 ≤ n ∧ n ≤ 4294967295))) ∧ w = w' := by
  have h1 := fun W => within23_any n 1 4294967295 W
  obtain ⟨R, hR⟩ : ∃ R, Hid (decide (1 ≤ n ∧ n ≤ 4294967295) = R) := ⟨_, Lib.hid rfl⟩
  rw [hR.out] at h1 ⊢
  replace h1 := Lib.hid h1
  go_enter Tryz.func74, Tryz.ntmps74
  go_wp2_with fail
  refine (h1.out _).mono ?_
  rintro e w1 ⟨rfl, rfl⟩
  go_wp2_with fail
  go_ret
  exact ⟨rfl, rfl⟩
theorem isTable_any (s : ByteArray) (w : World) (hs : s.size ≤ 100000) : Calls Tryz.prog 76 #[.string s] w fun e w' => e = .returned (.bool (tabB s)) ∧ Below w.heap.size w w' := by
  obtain ⟨R, hR⟩ : ∃ R, Hid (tabB s = R) := ⟨_, Lib.hid rfl⟩
  have hno : Hid (decT s.data.toList = none → R = false) := Lib.hid (fun h => by rw [← hR.out]; unfold tabB; rw [h])
  have hyes : Hid (∀ t p, decT s.data.toList = some (t, p) → R = decide (p = s.size)) := Lib.hid (fun t p h => by rw [← hR.out]; unfold tabB; rw [h])
  rw [hR.out]
  clear hR
  have hd := Lib.hid (ddec_any s w hs)
  go_enter Tryz.func76, Tryz.ntmps76
  go_wp2_with fail
  refine hd.out.mono ?_
  rintro e w1 (⟨h1, rfl, hb⟩ | ⟨t, p, tb, h1, rfl, _, hb⟩)
  · obtain rfl := hno.out h1
    replace hb := Lib.hid hb
    clear hno hyes h1 hd
    go_wp2_with fail
    go_ret
    exact ⟨rfl, hb.out⟩
  · have h2 := hyes.out t p h1
    replace hb := Lib.hid hb
    clear hno hyes h1 hd
    by_cases e : p = s.size
    · subst e
      rw [decide_eq_true rfl] at h2
      subst h2
      go_wp2_with fail
      go_ret
      exact ⟨rfl, hb.out⟩
    · rw [decide_eq_false e] at h2
      subst h2
      have e1 : ((p : Int) == (s.size : Int)) = false := by simpa using (show ¬ (p : Int) = (s.size : Int) by omega)
      replace e := Lib.hid e
      go_wp2_with fail
      go_ret
      exact ⟨rfl, hb.out⟩
set_option maxRecDepth 100000 in
set_option maxHeartbeats 2000000 in
theorem may23_any (g q s n : Int) (t : ByteArray) (w : World) (hs : t.size ≤ 100000) : Calls Tryz.prog 50 #[.agg #[.int .i64 g, .int .i64 q, .int .i64 s, .int .i64 n, .string t]] w fun e w' => e = .returned (.bool (Mt.may ⟨g, q, s, n, t⟩)) ∧ Below w.heap.size w w' := by
  obtain ⟨V, hV⟩ : ∃ V, Hid (V = w.alloc (.cells #[.int .i64 g, .int .i64 q, .int .i64 s, .int .i64 n, .string t] 35)) := ⟨_, Lib.hid rfl⟩
  have hB : Below w.heap.size w V := by rw [hV.out]; exact grewAlloc (Below.refl _ _) _
  have hX : Whole V w.heap.size 35 [.int .i64 g, .int .i64 q, .int .i64 s, .int .i64 n, .string t] := by rw [hV.out]; exact Whole.new w _ _
  obtain ⟨xb, hxb⟩ : ∃ q, Hid (w.heap.size = q) := ⟨_, Lib.hid rfl⟩
  rw [hxb.out] at hX
  have q0 : V.cell? ⟨xb, 0, none⟩ = some (.int .i64 g) := hX.cell 0
  have q1 : V.cell? ⟨xb, 1, none⟩ = some (.int .i64 q) := hX.cell 1
  have q2 : V.cell? ⟨xb, 2, none⟩ = some (.int .i64 s) := hX.cell 2
  have q3 : V.cell? ⟨xb, 3, none⟩ = some (.int .i64 n) := hX.cell 3
  have q4 : V.cell? ⟨xb, 4, none⟩ = some (.string t) := hX.cell 4
  obtain ⟨R, hm⟩ : ∃ R, Hid (Mt.may ⟨g, q, s, n, t⟩ = R) := ⟨_, Lib.hid rfl⟩
  have bad : Hid (¬ Mt.ok ⟨g, q, s, n, t⟩ → R = false) := Lib.hid (fun h => by rw [← hm.out]; exact decide_eq_false h)
  have fine : Hid (Mt.ok ⟨g, q, s, n, t⟩ → R = true) := Lib.hid (fun h => by rw [← hm.out]; exact decide_eq_true h)
  rw [hm.out]
  have h1 := fun W => isGen_any g W
  have h2 := fun W => within23_any q 0 1099511627776 W
  have h3 := fun W => within23_any s 0 n W
  have h5 := isTable_any t V hs
  replace hB := Lib.hid hB
  clear hm hX
  by_cases c1 : ¬ (1 ≤ g ∧ g ≤ 4294967295)
  · rw [decide_eq_false c1] at h1
    obtain rfl := bad.out (fun h => c1 h.1)
    replace h1 := Lib.hid h1
    clear h2 h3 h5 c1
    go_enter Tryz.func50, Tryz.ntmps50
    go_upto_region 2 with fail
    rw [← show V = _ from hV.out, hxb.out]
    clear hV hxb
    go_wp2_with fail
    refine (h1.out _).mono ?_
    rintro e w1 ⟨rfl, rfl⟩
    go_wp2_with fail
    go_ret
    exact ⟨rfl, hB.out⟩
  replace c1 := Classical.not_not.1 c1
  rw [decide_eq_true c1] at h1
  replace h1 := Lib.hid h1
  replace c1 := Lib.hid c1
  by_cases c2 : ¬ (0 ≤ q ∧ q ≤ 1099511627776)
  · rw [decide_eq_false c2] at h2
    obtain rfl := bad.out (fun h => c2 h.2.1)
    replace h2 := Lib.hid h2
    clear h3 h5 c2
    go_enter Tryz.func50, Tryz.ntmps50
    go_upto_region 2 with fail
    rw [← show V = _ from hV.out, hxb.out]
    clear hV hxb
    go_wp2_with fail
    refine (h1.out _).mono ?_
    rintro e w1 ⟨rfl, rfl⟩
    go_wp2_with fail
    refine (h2.out _).mono ?_
    rintro e w1 ⟨rfl, rfl⟩
    go_wp2_with fail
    go_ret
    exact ⟨rfl, hB.out⟩
  replace c2 := Classical.not_not.1 c2
  rw [decide_eq_true c2] at h2
  replace h2 := Lib.hid h2
  replace c2 := Lib.hid c2
  by_cases c3 : ¬ (0 ≤ s ∧ s ≤ n)
  · rw [decide_eq_false c3] at h3
    obtain rfl := bad.out (fun h => c3 h.2.2.1)
    replace h3 := Lib.hid h3
    clear h5 c3
    go_enter Tryz.func50, Tryz.ntmps50
    go_upto_region 2 with fail
    rw [← show V = _ from hV.out, hxb.out]
    clear hV hxb
    go_wp2_with fail
    refine (h1.out _).mono ?_
    rintro e w1 ⟨rfl, rfl⟩
    go_wp2_with fail
    refine (h2.out _).mono ?_
    rintro e w1 ⟨rfl, rfl⟩
    go_wp2_with fail
    refine (h3.out _).mono ?_
    rintro e w1 ⟨rfl, rfl⟩
    go_wp2_with fail
    go_ret
    exact ⟨rfl, hB.out⟩
  replace c3 := Classical.not_not.1 c3
  rw [decide_eq_true c3] at h3
  replace h3 := Lib.hid h3
  replace c3 := Lib.hid c3
  by_cases c4 : ¬ (n ≤ 1048577)
  · obtain rfl := bad.out (fun h => c4 h.2.2.2.1)
    have c4i : 1048577 < n := by omega
    clear h5 c4
    go_enter Tryz.func50, Tryz.ntmps50
    go_upto_region 2 with fail
    rw [← show V = _ from hV.out, hxb.out]
    clear hV hxb
    go_wp2_with fail
    refine (h1.out _).mono ?_
    rintro e w1 ⟨rfl, rfl⟩
    go_wp2_with fail
    refine (h2.out _).mono ?_
    rintro e w1 ⟨rfl, rfl⟩
    go_wp2_with fail
    refine (h3.out _).mono ?_
    rintro e w1 ⟨rfl, rfl⟩
    go_wp2_with fail
    go_ret
    exact ⟨rfl, hB.out⟩
  replace c4 := Classical.not_not.1 c4
  by_cases c5 : tabB t = true
  · rw [c5] at h5
    obtain rfl := fine.out ⟨c1.out, c2.out, c3.out, c4, c5⟩
    replace h5 := Lib.hid h5
    clear c5
    go_enter Tryz.func50, Tryz.ntmps50
    go_upto_region 2 with fail
    rw [← show V = _ from hV.out, hxb.out]
    clear hV hxb
    go_wp2_with fail
    refine (h1.out _).mono ?_
    rintro e w1 ⟨rfl, rfl⟩
    go_wp2_with fail
    refine (h2.out _).mono ?_
    rintro e w1 ⟨rfl, rfl⟩
    go_wp2_with fail
    refine (h3.out _).mono ?_
    rintro e w1 ⟨rfl, rfl⟩
    go_wp2_with fail
    refine h5.out.mono ?_
    rintro e w1 ⟨rfl, hb5⟩
    have hB5 := Lib.hid (grew hB.out hb5)
    clear hb5
    go_wp2_with fail
    go_ret
    exact ⟨rfl, hB5.out⟩
  · rw [show tabB t = false by simpa using c5] at h5
    obtain rfl := bad.out (fun h => c5 h.2.2.2.2)
    replace h5 := Lib.hid h5
    clear c5
    go_enter Tryz.func50, Tryz.ntmps50
    go_upto_region 2 with fail
    rw [← show V = _ from hV.out, hxb.out]
    clear hV hxb
    go_wp2_with fail
    refine (h1.out _).mono ?_
    rintro e w1 ⟨rfl, rfl⟩
    go_wp2_with fail
    refine (h2.out _).mono ?_
    rintro e w1 ⟨rfl, rfl⟩
    go_wp2_with fail
    refine (h3.out _).mono ?_
    rintro e w1 ⟨rfl, rfl⟩
    go_wp2_with fail
    refine h5.out.mono ?_
    rintro e w1 ⟨rfl, hb5⟩
    have hB5 := Lib.hid (grew hB.out hb5)
    clear hb5
    go_wp2_with fail
    go_ret
    exact ⟨rfl, hB5.out⟩
end Go.Proofs.YtgogackkeodciaaGreat.W
