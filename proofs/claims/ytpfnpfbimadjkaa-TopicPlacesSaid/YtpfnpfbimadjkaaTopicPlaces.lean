/- For every topic and every place the law TopicPlaces returns true: a topic that may be has its places, by their numbers, and just those; another one has none; of names of more than 300 bytes the small case stands in. No condition. -/
import Derived.Test.YtpfnpfbimadjkaaRows
import Derived.Test.YtpfnpfbimadjkaaTpI
import Derived.ChangeOld
import Derived.ShutString
namespace Go.Proofs.Ytpfnpfbimadjkaa.topicPlaces
open Go.ChangeShapes Go.WideShapes Go.ChangeAt Go.RowKit Go.Sort
open Go.ChangeMaps (open_string shut_string)
open Go.Proofs.Ytpfnpfbimadjkaa.M Go.Proofs.Ytpfnpfbimadjkaa.W Go.Proofs.Ytpfnpfbimadjkaa.D Go.Proofs.Ytpfnpfbimadjkaa.Z
set_option linter.unusedVariables false
set_option linter.unusedSimpArgs false

theorem plRows_len (nm : ByteArray) : ∀ n, (plRows nm n).length = 2 * n
  | 0 => rfl
  | n + 1 => by
    unfold plRows
    rw [List.length_append, plRows_len nm n]
    rfl
theorem plRows_at (nm : ByteArray) : ∀ n k, k < n → (plRows nm n)[k * 2]? = some (.string nm) ∧ (plRows nm n)[k * 2 + 1]? = some (.int .i64 (k : Int))
  | 0, _, h => by omega
  | n + 1, k, h => by
    unfold plRows
    have hl := plRows_len nm n
    by_cases e : k < n
    · obtain ⟨h1, h2⟩ := plRows_at nm n k e
      rw [List.getElem?_append_left (by omega), List.getElem?_append_left (by omega)]
      exact ⟨h1, h2⟩
    · obtain rfl : k = n := by omega
      rw [List.getElem?_append_right (by omega), List.getElem?_append_right (by omega), hl, show k * 2 - 2 * k = 0 from by omega, show k * 2 + 1 - 2 * k = 1 from by omega]
      exact ⟨rfl, rfl⟩
set_option maxRecDepth 100000 in
set_option maxHeartbeats 4000000 in
theorem walk_big (nm : ByteArray) (pa ag sz : Int) (cp : Bool) (pt : ByteArray) (pp : Int) (w : World) (h : 300 < nm.size ∨ 300 < pt.size) :
    Calls Try.prog 8 #[(.agg #[.string nm, .int .i64 pa, .int .i64 ag, .int .i64 sz, .bool cp]), (.agg #[.string pt, .int .i64 pp])] w fun e w' => e = .returned (.bool true) ∧ Below w.heap.size w w' := by
  have hlog := Lib.hid (fun W => log_any W)
  obtain ⟨W0, hW0⟩ : ∃ W, Hid (W = (w.alloc (.cells #[.string nm, .int .i64 pa, .int .i64 ag, .int .i64 sz, .bool cp] 34)).alloc (.cells #[.string pt, .int .i64 pp] 50)) := ⟨_, Lib.hid rfl⟩
  have hb0 : Below w.heap.size w W0 := by rw [hW0.out]; exact grewAlloc (grewAlloc (Below.refl _ _) _) _
  have hX0 : Whole W0 w.heap.size 34 [.string nm, .int .i64 pa, .int .i64 ag, .int .i64 sz, .bool cp] := by rw [hW0.out]; exact (Whole.new w _ _).alloc _
  have hP0 : Whole W0 (w.heap.size + 1) 50 [.string pt, .int .i64 pp] := by
    rw [hW0.out]
    have := Whole.new (w.alloc (.cells #[.string nm, .int .i64 pa, .int .i64 ag, .int .i64 sz, .bool cp] 34)) 50 [.string pt, .int .i64 pp]
    rwa [show (w.alloc (.cells #[.string nm, .int .i64 pa, .int .i64 ag, .int .i64 sz, .bool cp] 34)).heap.size = w.heap.size + 1 from by simp] at this
  obtain ⟨r, hq1⟩ : ∃ q, Hid (w.heap.size + 1 = q) := ⟨_, Lib.hid rfl⟩
  obtain ⟨q, hq⟩ : ∃ q, Hid (w.heap.size = q) := ⟨_, Lib.hid rfl⟩
  rw [hq1.out] at hP0
  rw [hq.out] at hX0
  have x0 : W0.cell? ⟨q, 0, none⟩ = some (.string nm) := hX0.cell 0
  have x1 : W0.cell? ⟨q, 1, none⟩ = some (.int .i64 pa) := hX0.cell 1
  have x2 : W0.cell? ⟨q, 2, none⟩ = some (.int .i64 ag) := hX0.cell 2
  have x3 : W0.cell? ⟨q, 3, none⟩ = some (.int .i64 sz) := hX0.cell 3
  have x4 : W0.cell? ⟨q, 4, none⟩ = some (.bool cp) := hX0.cell 4
  have y0 : W0.cell? ⟨r, 0, none⟩ = some (.string pt) := hP0.cell 0
  have y1 : W0.cell? ⟨r, 1, none⟩ = some (.int .i64 pp) := hP0.cell 1
  replace hX0 := Lib.hid hX0
  replace hP0 := Lib.hid hP0
  replace hb0 := Lib.hid hb0
  by_cases h1 : 300 < nm.size
  · have h1i : (300 : Int) < (nm.size : Int) := by omega
    go_enter Try.func8, Try.ntmps8
    go_upto_region 1 with fail
    rw [← show W0 = _ from hW0.out]
    rw [hq1.out, hq.out]
    clear hW0
    go_wp2_with fail
    refine (hlog.out _).mono ?_
    rintro _ w1 ⟨rfl, hb1⟩
    have B1 := Lib.hid (grew hb0.out hb1)
    clear hb1 x0 x1 x2 x3 x4 y0 y1
    go_wp2_with fail
    go_ret
    exact ⟨rfl, B1.out⟩
  · have h1i : (nm.size : Int) ≤ 300 := by omega
    have h2i : (300 : Int) < (pt.size : Int) := by omega
    go_enter Try.func8, Try.ntmps8
    go_upto_region 1 with fail
    rw [← show W0 = _ from hW0.out]
    rw [hq1.out, hq.out]
    clear hW0
    go_wp2_with fail
    refine (hlog.out _).mono ?_
    rintro _ w1 ⟨rfl, hb1⟩
    have B1 := Lib.hid (grew hb0.out hb1)
    clear hb1 x0 x1 x2 x3 x4 y0 y1
    go_wp2_with fail
    go_ret
    exact ⟨rfl, B1.out⟩
set_option maxRecDepth 100000 in
set_option maxHeartbeats 4000000 in
theorem walk_no (nm : ByteArray) (pa ag sz : Int) (cp : Bool) (pt : ByteArray) (pp : Int) (w : World) (h1 : nm.size ≤ 300) (h2 : pt.size ≤ 300) (hmay : Sp.may ⟨nm, pa, ag, sz, cp⟩ = false) :
    Calls Try.prog 8 #[(.agg #[.string nm, .int .i64 pa, .int .i64 ag, .int .i64 sz, .bool cp]), (.agg #[.string pt, .int .i64 pp])] w fun e w' => e = .returned (.bool true) ∧ Below w.heap.size w w' := by
  have hlog := Lib.hid (fun W => log_any W)
  have h1i : (nm.size : Int) ≤ 300 := by omega
  have h2i : (pt.size : Int) ≤ 300 := by omega
  have hp := Lib.hid (fun W => places_no nm pa ag sz cp W hmay)
  have hh := fun W => has_any nm pa ag sz cp pt pp W
  rw [show hasB ⟨nm, pa, ag, sz, cp⟩ pt pp = false from by unfold hasB; rw [hmay]; rfl] at hh
  replace hh := Lib.hid hh
  have hr := fun W => rright_any nm pa ag sz cp W (by omega)
  rw [hmay] at hr
  replace hr := Lib.hid hr
  clear hmay
  obtain ⟨W0, hW0⟩ : ∃ W, Hid (W = (w.alloc (.cells #[.string nm, .int .i64 pa, .int .i64 ag, .int .i64 sz, .bool cp] 34)).alloc (.cells #[.string pt, .int .i64 pp] 50)) := ⟨_, Lib.hid rfl⟩
  have hb0 : Below w.heap.size w W0 := by rw [hW0.out]; exact grewAlloc (grewAlloc (Below.refl _ _) _) _
  have hX0 : Whole W0 w.heap.size 34 [.string nm, .int .i64 pa, .int .i64 ag, .int .i64 sz, .bool cp] := by rw [hW0.out]; exact (Whole.new w _ _).alloc _
  have hP0 : Whole W0 (w.heap.size + 1) 50 [.string pt, .int .i64 pp] := by
    rw [hW0.out]
    have := Whole.new (w.alloc (.cells #[.string nm, .int .i64 pa, .int .i64 ag, .int .i64 sz, .bool cp] 34)) 50 [.string pt, .int .i64 pp]
    rwa [show (w.alloc (.cells #[.string nm, .int .i64 pa, .int .i64 ag, .int .i64 sz, .bool cp] 34)).heap.size = w.heap.size + 1 from by simp] at this
  obtain ⟨r, hq1⟩ : ∃ q, Hid (w.heap.size + 1 = q) := ⟨_, Lib.hid rfl⟩
  obtain ⟨q, hq⟩ : ∃ q, Hid (w.heap.size = q) := ⟨_, Lib.hid rfl⟩
  rw [hq1.out] at hP0
  rw [hq.out] at hX0
  have x0 : W0.cell? ⟨q, 0, none⟩ = some (.string nm) := hX0.cell 0
  have x1 : W0.cell? ⟨q, 1, none⟩ = some (.int .i64 pa) := hX0.cell 1
  have x2 : W0.cell? ⟨q, 2, none⟩ = some (.int .i64 ag) := hX0.cell 2
  have x3 : W0.cell? ⟨q, 3, none⟩ = some (.int .i64 sz) := hX0.cell 3
  have x4 : W0.cell? ⟨q, 4, none⟩ = some (.bool cp) := hX0.cell 4
  have y0 : W0.cell? ⟨r, 0, none⟩ = some (.string pt) := hP0.cell 0
  have y1 : W0.cell? ⟨r, 1, none⟩ = some (.int .i64 pp) := hP0.cell 1
  replace hX0 := Lib.hid hX0
  replace hP0 := Lib.hid hP0
  replace hb0 := Lib.hid hb0
  go_enter Try.func8, Try.ntmps8
  go_upto_region 1 with fail
  rw [← show W0 = _ from hW0.out]
  rw [hq1.out, hq.out]
  clear hW0
  go_wp2_with fail
  refine (hr.out _).mono ?_
  rintro _ w1 ⟨rfl, hb1⟩
  have B1 := Lib.hid (grew hb0.out hb1)
  have hX1 := Lib.hid (hX0.out.below hb1 hX0.out.lt)
  have hP1 := Lib.hid (hP0.out.below hb1 hP0.out.lt)
  clear x0 x1 x2 x3 x4 y0 y1 hb1 hb0 hX0 hP0
  have x0 : w1.cell? ⟨q, 0, none⟩ = some (.string nm) := hX1.out.cell 0
  have x1 : w1.cell? ⟨q, 1, none⟩ = some (.int .i64 pa) := hX1.out.cell 1
  have x2 : w1.cell? ⟨q, 2, none⟩ = some (.int .i64 ag) := hX1.out.cell 2
  have x3 : w1.cell? ⟨q, 3, none⟩ = some (.int .i64 sz) := hX1.out.cell 3
  have x4 : w1.cell? ⟨q, 4, none⟩ = some (.bool cp) := hX1.out.cell 4
  go_wp2_with fail
  refine (hp.out _).mono ?_
  rintro _ w2 ⟨rfl, hb2⟩
  have B2 := Lib.hid (grew B1.out hb2)
  have hX2 := hX1.out.below hb2 hX1.out.lt
  have hP2 := hP1.out.below hb2 hP1.out.lt
  clear x0 x1 x2 x3 x4 hb2 B1 hX1 hP1
  have x0 : w2.cell? ⟨q, 0, none⟩ = some (.string nm) := hX2.cell 0
  have x1 : w2.cell? ⟨q, 1, none⟩ = some (.int .i64 pa) := hX2.cell 1
  have x2 : w2.cell? ⟨q, 2, none⟩ = some (.int .i64 ag) := hX2.cell 2
  have x3 : w2.cell? ⟨q, 3, none⟩ = some (.int .i64 sz) := hX2.cell 3
  have x4 : w2.cell? ⟨q, 4, none⟩ = some (.bool cp) := hX2.cell 4
  have y0 : w2.cell? ⟨r, 0, none⟩ = some (.string pt) := hP2.cell 0
  have y1 : w2.cell? ⟨r, 1, none⟩ = some (.int .i64 pp) := hP2.cell 1
  clear hX2 hP2
  go_wp2_with fail
  refine (hh.out _).mono ?_
  rintro _ w3 ⟨rfl, hb3⟩
  have B3 := Lib.hid (grew B2.out hb3)
  clear x0 x1 x2 x3 x4 y0 y1 hb3 B2
  go_wp2_with fail
  refine (hlog.out _).mono ?_
  rintro _ w4 ⟨rfl, hb4⟩
  have B4 := Lib.hid (grew B3.out hb4)
  clear hb4
  go_wp2_with fail
  go_ret
  exact ⟨rfl, B4.out⟩
set_option maxRecDepth 100000 in
set_option maxHeartbeats 4000000 in
theorem walk_yes (nm : ByteArray) (pa ag sz : Int) (cp : Bool) (pt : ByteArray) (pp : Int) (w : World) (h1 : nm.size ≤ 300) (h2 : pt.size ≤ 300) (hmay : Sp.may ⟨nm, pa, ag, sz, cp⟩ = true) (k0 : nm.size ≤ maxLen) (k1 : pt.size ≤ maxLen) (k2 : (Lit.int .i64 pp).wf = true) :
    Calls Try.prog 8 #[(.agg #[.string nm, .int .i64 pa, .int .i64 ag, .int .i64 sz, .bool cp]), (.agg #[.string pt, .int .i64 pp])] w fun e w' => e = .returned (.bool true) ∧ Below w.heap.size w w' := by
  have hlog := Lib.hid (fun W => log_any W)
  have h1i : (nm.size : Int) ≤ 300 := by omega
  have h2i : (pt.size : Int) ≤ 300 := by omega
  obtain ⟨_, ⟨p1, p4⟩, _⟩ : Sp.ok ⟨nm, pa, ag, sz, cp⟩ := of_decide_eq_true hmay
  dsimp only at p1 p4
  have hp := fun W => places_yes nm pa ag sz cp W hmay
  have hh := fun t (p : Int) W => has_any nm pa ag sz cp t p W
  have hhb : ∀ t p, hasB ⟨nm, pa, ag, sz, cp⟩ t p = decide (t = nm ∧ 0 ≤ p ∧ p < pa) := fun t p => by unfold hasB; rw [hmay, Bool.true_and]
  simp only [hhb] at hh
  have hr := fun W => rright_any nm pa ag sz cp W (by omega)
  rw [hmay] at hr
  replace hr := Lib.hid hr
  obtain ⟨N, rfl⟩ : ∃ N : Nat, pa = (N : Int) := ⟨pa.toNat, by omega⟩
  have hN4 : N ≤ 4 := by omega
  rw [Int.toNat_natCast] at hp
  have hrow := Lib.hid (fun k (hk : k < N) => plRows_at nm N k hk)
  have hy := Lib.hid (fun (k : Nat) (hk : k < N) W => (show Calls Try.prog 27 #[(.agg #[.string nm, .int .i64 (N : Int), .int .i64 ag, .int .i64 sz, .bool cp]), (.agg #[.string nm, .int .i64 (k : Int)])] W fun e w' => e = .returned (.bool true) ∧ Below W.heap.size W w' from by
    have := hh nm (k : Int) W
    rwa [decide_eq_true (show nm = nm ∧ 0 ≤ (k : Int) ∧ (k : Int) < (N : Int) from ⟨rfl, by omega, by omega⟩)] at this))
  have hx := Lib.hid (fun W => hh pt pp W)
  have heq := Lib.hid (fun (k : Nat) (hk : k < N) W => eq_pl nm pt (k : Int) pp k0 (wf_of (by omega) (by omega)) k1 k2 W)
  replace hp := Lib.hid hp
  have hse : (nm.toList == nm.toList) = true := by simp
  have hNe : ((N : Int) == (N : Int)) = true := by simp
  clear hmay hhb hh k0 k1 k2
  obtain ⟨W0, hW0⟩ : ∃ W, Hid (W = (w.alloc (.cells #[.string nm, .int .i64 (N : Int), .int .i64 ag, .int .i64 sz, .bool cp] 34)).alloc (.cells #[.string pt, .int .i64 pp] 50)) := ⟨_, Lib.hid rfl⟩
  have hb0 : Below w.heap.size w W0 := by rw [hW0.out]; exact grewAlloc (grewAlloc (Below.refl _ _) _) _
  have hX0 : Whole W0 w.heap.size 34 [.string nm, .int .i64 (N : Int), .int .i64 ag, .int .i64 sz, .bool cp] := by rw [hW0.out]; exact (Whole.new w _ _).alloc _
  have hP0 : Whole W0 (w.heap.size + 1) 50 [.string pt, .int .i64 pp] := by
    rw [hW0.out]
    have := Whole.new (w.alloc (.cells #[.string nm, .int .i64 (N : Int), .int .i64 ag, .int .i64 sz, .bool cp] 34)) 50 [.string pt, .int .i64 pp]
    rwa [show (w.alloc (.cells #[.string nm, .int .i64 (N : Int), .int .i64 ag, .int .i64 sz, .bool cp] 34)).heap.size = w.heap.size + 1 from by simp] at this
  obtain ⟨r, hq1⟩ : ∃ q, Hid (w.heap.size + 1 = q) := ⟨_, Lib.hid rfl⟩
  obtain ⟨q, hq⟩ : ∃ q, Hid (w.heap.size = q) := ⟨_, Lib.hid rfl⟩
  rw [hq1.out] at hP0
  rw [hq.out] at hX0
  have x0 : W0.cell? ⟨q, 0, none⟩ = some (.string nm) := hX0.cell 0
  have x1 : W0.cell? ⟨q, 1, none⟩ = some (.int .i64 (N : Int)) := hX0.cell 1
  have x2 : W0.cell? ⟨q, 2, none⟩ = some (.int .i64 ag) := hX0.cell 2
  have x3 : W0.cell? ⟨q, 3, none⟩ = some (.int .i64 sz) := hX0.cell 3
  have x4 : W0.cell? ⟨q, 4, none⟩ = some (.bool cp) := hX0.cell 4
  have y0 : W0.cell? ⟨r, 0, none⟩ = some (.string pt) := hP0.cell 0
  have y1 : W0.cell? ⟨r, 1, none⟩ = some (.int .i64 pp) := hP0.cell 1
  replace hX0 := Lib.hid hX0
  replace hP0 := Lib.hid hP0
  replace hb0 := Lib.hid hb0
  go_enter Try.func8, Try.ntmps8
  go_upto_region 1 with fail
  rw [← show W0 = _ from hW0.out]
  rw [hq1.out, hq.out]
  clear hW0
  go_wp2_with fail
  refine (hr.out _).mono ?_
  rintro _ w1 ⟨rfl, hb1⟩
  have B1 := Lib.hid (grew hb0.out hb1)
  have hX1 := Lib.hid (hX0.out.below hb1 hX0.out.lt)
  have hP1 := Lib.hid (hP0.out.below hb1 hP0.out.lt)
  clear x0 x1 x2 x3 x4 y0 y1 hb1 hb0 hX0 hP0
  have x0 : w1.cell? ⟨q, 0, none⟩ = some (.string nm) := hX1.out.cell 0
  have x1 : w1.cell? ⟨q, 1, none⟩ = some (.int .i64 (N : Int)) := hX1.out.cell 1
  have x2 : w1.cell? ⟨q, 2, none⟩ = some (.int .i64 ag) := hX1.out.cell 2
  have x3 : w1.cell? ⟨q, 3, none⟩ = some (.int .i64 sz) := hX1.out.cell 3
  have x4 : w1.cell? ⟨q, 4, none⟩ = some (.bool cp) := hX1.out.cell 4
  go_wp2_with fail
  refine (hp.out _).mono ?_
  rintro _ w2 ⟨b, rfl, hb, hb2⟩
  have hst := Lib.hid (And.intro (hX1.out.below hb2 hX1.out.lt) (And.intro (hP1.out.below hb2 hP1.out.lt) (And.intro hb (grew B1.out hb2))))
  clear x0 x1 x2 x3 x4 hb2 B1 hX1 hP1 hb
  go_wp2_with fail
  go_loopg [7, 41] N (fun ga iv i wr => ∃ (k : Nat) (c : Bool), k ≤ N ∧ N ≤ k + ga ∧ i = .int .i64 (k : Int) ∧ iv = .bool c ∧ Hid (decide (pt = nm ∧ 0 ≤ pp ∧ pp < (k : Int)) = c ∧ Whole wr q 34 [.string nm, .int .i64 (N : Int), .int .i64 ag, .int .i64 sz, .bool cp] ∧ Whole wr r 50 [.string pt, .int .i64 pp] ∧ Whole wr b 50 (plRows nm N) ∧ Below w.heap.size w wr))
  case atStart => exact ⟨0, false, by omega, by omega, rfl, rfl, Lib.hid ⟨decide_eq_false (by omega), hst.out⟩⟩
  case round =>
    clear hst
    obtain ⟨k, c, hk, hg, rfl, rfl, hrel⟩ := hrel
    generalize wr = wo at *
    obtain ⟨hc, hX, hP, hR, hB⟩ := hrel.out
    clear hrel
    by_cases hlt : k < N
    · obtain ⟨r1, r2⟩ := hrow.out k hlt
      have c0 : wo.cell? ⟨b, k * 2, none⟩ = some (.string nm) := (hR.cell _).trans r1
      have c1 : wo.cell? ⟨b, k * 2 + 1, none⟩ = some (.int .i64 (k : Int)) := (hR.cell _).trans r2
      obtain ⟨W1, hW1⟩ : ∃ W, Hid (W = wo.alloc (.cells #[.string nm, .int .i64 (k : Int)] 50)) := ⟨_, Lib.hid rfl⟩
      have d1 : Below wo.heap.size wo W1 := by rw [hW1.out]; exact grewAlloc (Below.refl _ _) _
      have hY : Whole W1 wo.heap.size 50 [.string nm, .int .i64 (k : Int)] := by rw [hW1.out]; exact Whole.new wo _ _
      obtain ⟨yb, hyb⟩ : ∃ q, Hid (wo.heap.size = q) := ⟨_, Lib.hid rfl⟩
      rw [hyb.out] at hY
      have g1 := hX.below d1 hX.lt
      have g2 := hP.below d1 hP.lt
      have g3 := Lib.hid (hR.below d1 hR.lt)
      have g4 := Lib.hid (grew hB d1)
      have z0 : W1.cell? ⟨yb, 0, none⟩ = some (.string nm) := hY.cell 0
      have z1 : W1.cell? ⟨yb, 1, none⟩ = some (.int .i64 (k : Int)) := hY.cell 1
      have x0 : W1.cell? ⟨q, 0, none⟩ = some (.string nm) := g1.cell 0
      have x1 : W1.cell? ⟨q, 1, none⟩ = some (.int .i64 (N : Int)) := g1.cell 1
      have x2 : W1.cell? ⟨q, 2, none⟩ = some (.int .i64 ag) := g1.cell 2
      have x3 : W1.cell? ⟨q, 3, none⟩ = some (.int .i64 sz) := g1.cell 3
      have x4 : W1.cell? ⟨q, 4, none⟩ = some (.bool cp) := g1.cell 4
      have y0 : W1.cell? ⟨r, 0, none⟩ = some (.string pt) := g2.cell 0
      have y1 : W1.cell? ⟨r, 1, none⟩ = some (.int .i64 pp) := g2.cell 1
      replace g1 := Lib.hid g1
      replace g2 := Lib.hid g2
      replace hY := Lib.hid hY
      have hyk := Lib.hid (fun W => hy.out k hlt W)
      have hek := heq.out k hlt
      have hki : (k : Int) < (N : Int) := by omega
      have hkk : ((k : Int) == (k : Int)) = true := by simp
      obtain ⟨E, hE⟩ : ∃ E, Hid (decide (nm = pt ∧ (k : Int) = pp) = E) := ⟨_, Lib.hid rfl⟩
      rw [hE.out] at hek
      have hnext : Hid (decide (pt = nm ∧ 0 ≤ pp ∧ pp < ((k + 1 : Nat) : Int)) = (c || E)) := Lib.hid (by
        rw [← hc, ← hE.out, Bool.eq_iff_iff, Bool.or_eq_true, decide_eq_true_iff, decide_eq_true_iff, decide_eq_true_iff]
        constructor
        · rintro ⟨e1, e2, e3⟩
          by_cases e4 : pp < (k : Int)
          · exact .inl ⟨e1, e2, e4⟩
          · exact .inr ⟨e1.symm, by omega⟩
        · rintro (⟨e1, e2, e3⟩ | ⟨e1, e2⟩)
          · exact ⟨e1, e2, by omega⟩
          · exact ⟨e1.symm, by omega, by omega⟩)
      clear hc hX hP hR hB r1 r2 d1
      go_upto_region 11 with fail
      rw [← show W1 = _ from hW1.out, hyb.out]
      clear hW1 hyb c0 c1
      go_wp2_with fail
      refine (hyk.out _).mono ?_
      rintro _ w5 ⟨rfl, hb5⟩
      have f1 := g1.out.below hb5 g1.out.lt
      have f2 := g2.out.below hb5 g2.out.lt
      have f3 := g3.out.below hb5 g3.out.lt
      have f4 := grew g4.out hb5
      have fY := hY.out.below hb5 hY.out.lt
      clear x0 x1 x2 x3 x4 y0 y1 z0 z1 g1 g2 g3 g4 hY hb5
      have z0 : w5.cell? ⟨yb, 0, none⟩ = some (.string nm) := fY.cell 0
      have z1 : w5.cell? ⟨yb, 1, none⟩ = some (.int .i64 (k : Int)) := fY.cell 1
      have y0 : w5.cell? ⟨r, 0, none⟩ = some (.string pt) := f2.cell 0
      have y1 : w5.cell? ⟨r, 1, none⟩ = some (.int .i64 pp) := f2.cell 1
      have hfin := Lib.hid (And.intro hnext.out (And.intro f1 (And.intro f2 (And.intro f3 f4))))
      clear f1 f2 f3 f4 fY hnext
      cases c with
      | true =>
        rw [Bool.true_or] at hfin
        go_wp2_with fail
        go_roundg (gk - 1)
        case measure => omega
        case rel => exact ⟨k + 1, true, by omega, by omega, by go_num, rfl, hfin⟩
      | false =>
        rw [Bool.false_or] at hfin
        go_wp2_with fail
        go_roundg (gk - 1)
        case measure => omega
        case rel => exact ⟨k + 1, E, by omega, by omega, by go_num, rfl, hfin⟩
    · obtain rfl : k = N := by omega
      have hxe := fun W => hx.out W
      rw [hc] at hxe
      replace hxe := Lib.hid hxe
      have hce : (c == c) = true := by simp
      have x0 : wo.cell? ⟨q, 0, none⟩ = some (.string nm) := hX.cell 0
      have x1 : wo.cell? ⟨q, 1, none⟩ = some (.int .i64 (k : Int)) := hX.cell 1
      have x2 : wo.cell? ⟨q, 2, none⟩ = some (.int .i64 ag) := hX.cell 2
      have x3 : wo.cell? ⟨q, 3, none⟩ = some (.int .i64 sz) := hX.cell 3
      have x4 : wo.cell? ⟨q, 4, none⟩ = some (.bool cp) := hX.cell 4
      have y0 : wo.cell? ⟨r, 0, none⟩ = some (.string pt) := hP.cell 0
      have y1 : wo.cell? ⟨r, 1, none⟩ = some (.int .i64 pp) := hP.cell 1
      replace hB := Lib.hid hB
      clear hc hX hP hR
      go_wp2_with fail
      refine (hxe.out _).mono ?_
      rintro _ w6 ⟨rfl, hb6⟩
      have B6 := Lib.hid (grew hB.out hb6)
      clear x0 x1 x2 x3 x4 y0 y1 hb6
      go_wp2_with fail
      refine (hlog.out _).mono ?_
      rintro _ w7 ⟨rfl, hb7⟩
      have B7 := Lib.hid (grew B6.out hb7)
      clear hb7
      go_wp2_with fail
      go_ret
      exact ⟨rfl, B7.out⟩
theorem walk (nm : ByteArray) (pa ag sz : Int) (cp : Bool) (pt : ByteArray) (pp : Int) (w : World) (k0 : nm.size ≤ maxLen) (_ : (Lit.int .i64 pa).wf = true) (_ : (Lit.int .i64 ag).wf = true) (_ : (Lit.int .i64 sz).wf = true) (k1 : pt.size ≤ maxLen) (k2 : (Lit.int .i64 pp).wf = true) :
    Calls Try.prog 8 #[(.agg #[.string nm, .int .i64 pa, .int .i64 ag, .int .i64 sz, .bool cp]), (.agg #[.string pt, .int .i64 pp])] w fun e w' => e = .returned (.bool true) ∧ Below w.heap.size w w' := by
  by_cases h : 300 < nm.size ∨ 300 < pt.size
  · exact walk_big nm pa ag sz cp pt pp w h
  · cases hmay : Sp.may ⟨nm, pa, ag, sz, cp⟩ with
    | false => exact walk_no nm pa ag sz cp pt pp w (by omega) (by omega) hmay
    | true => exact walk_yes nm pa ag sz cp pt pp w (by omega) (by omega) hmay k0 k1 k2

theorem own : ownKnob Try.prog.godebug = none := by kernel_rfl
theorem laidOut : laidOutB Try.prog = true := by kernel_rfl

set_option maxRecDepth 100000 in
theorem lifted (os : Os) (started : os.Started) (H : Type) (enc : TypeId × Value → H) :
    ReturnsInHanded {} Try.checked os 8 .any (Rows.topicPlacesSpec.pre6 enc Try.prog Try.f8 Rows.topicPlacesRow.domain false) (Rows.topicPlacesSpec.post enc Try.prog Try.f8 false true false false) := by
  refine returnsInHanded_of_change (C := Try.checked) own started (by kernel_rfl) Try.func8
    (ChangeSpec.witness6 (enc := enc) (C := Try.checked) false ⟨#[], #[.agg #[.string ByteArray.empty, .int .i64 0, .int .i64 0, .int .i64 0, .bool false], .agg #[.string ByteArray.empty, .int .i64 0]], []⟩ 8 (by kernel_rfl) (by kernel_rfl) (by kernel_rfl) (by kernel_rfl)) ?_
  intro W base args ds gs before hval0 hW hcnd _
  have hval : ∀ (j : Nat) t v, Try.f8.params[j]? = some t → args[j]? = some v → Value.okWide Try.prog W .any base t v := hval0
  have hW' := hW
  obtain ⟨p, q, hA0, hV, rfl, hfz, hnd⟩ := hW
  have hA : DataW.TrodAll enc Try.prog W 0 (fun _ => true) true Try.f8.params.toList args.toList ds p := hA0
  rw [Try.params8] at hA hval
  obtain ⟨v0, vs0, d0, ds0, p0, q0, hargs, rfl, rfl, h0, r0⟩ := trodAll_cons hA
  obtain ⟨v1, vs1, d1, ds1, p1, q1, rfl, rfl, rfl, h1, r1⟩ := trodAll_cons r0
  obtain ⟨rfl, rfl, rfl⟩ := trodAll_nil r1
  obtain rfl : args = #[v0, v1] := by cases args; simp_all
  obtain ⟨rfl, rfl⟩ := trodVars_none hV
  have k0 := h0
  have lt0 : ∀ x ∈ p0, x.block < W.heap.size := by obtain ⟨m, hm⟩ := k0; exact DataW.trod_lt m _ _ _ hm
  obtain ⟨na0, pa0, ag0, sz0, cp0, rfl, wna0, wpa0, wag0, wsz0⟩ := Go.Proofs.Ytpfnpfbimadjkaa.W.open_sp (hval 0 34 v0 rfl rfl) h0
  have k1 := h1
  have lt1 : ∀ x ∈ p1, x.block < W.heap.size := by obtain ⟨m, hm⟩ := k1; exact DataW.trod_lt m _ _ _ hm
  obtain ⟨pt1, pp1, rfl, wpt1, wpp1⟩ := Go.Proofs.Ytpfnpfbimadjkaa.W.open_pl (hval 1 50 v1 rfl rfl) h1
  clear hA0 hval0
  refine (walk na0 pa0 ag0 sz0 cp0 pt1 pp1 W wna0 wpa0 wag0 wsz0 wpt1 wpp1).mono fun e W' ⟨he, bel⟩ => ?_
  subst he
  exact ⟨_, rfl, _, _, _, [], _, [], hW', trodAll_mk1 (shut_bool Try.underlying4 _), (trodAll_cons_mk (Below.trod laidOut (by kernel_rfl) (of_decide_eq_true (by kernel_rfl)) k0 bel lt0) (trodAll_cons_mk (Below.trod laidOut (by kernel_rfl) (of_decide_eq_true (by kernel_rfl)) k1 bel lt1) trodAll_mk0)), rfl, bel.frame _, fun h => by cases h⟩

theorem over : Rows.topicPlacesRow.holds Try.pinned (OpenSpec.ofChange Rows.topicPlacesSpec) :=
  OpenClaim.holds_of_wide 8 Try.f8 rfl rfl rfl rfl rfl rfl rfl ⟨rfl, rfl, rfl, rfl, rfl⟩ rfl rfl rfl rfl rfl (by kernel_rfl) Try.func8 (by kernel_rfl)
    (of_decide_eq_true (by kernel_rfl)) (by unfold Func.isWrapper; first | (rw [if_pos (by decide +kernel)]; kernel_rfl) | (rw [if_neg (by decide +kernel)]; exact ⟨rfl, rfl⟩))
    (fun os started H enc _ => lifted os started H enc)

/-- The statement. -/
theorem proved : Rows.TopicPlacesSaid := over
#print axioms proved

end Go.Proofs.Ytpfnpfbimadjkaa.topicPlaces
