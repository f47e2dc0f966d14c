/- The document's Crash. -/
import Derived.Test.YtgomhnclmacleaaProg
import Derived.Test.YtgomhnclmacleaaRef3G
import Derived.Test.YtgomhnclmacleaaTail
namespace Go.Proofs.Ytgomhnclmacleaa.D
open Go.RowKit
open Go.Proofs.Ytgomhnclmacleaa.Z
set_option linter.unusedVariables false

theorem kstep_64 {tk : List (Nat × List UInt8)} {lie : List (List UInt8)} (ht : ∀ p ∈ tk, p.2.length = 64) (h : ∀ s ∈ lie, s.length = 64) (q : Int × Int) : ∀ s ∈ kstep tk lie q, s.length = 64 := by
  unfold kstep
  split
  · exact h
  · rename_i p hp
    have hpt : p.2.length = 64 := by
      split at hp
      · cases hp
      · exact ht p (List.mem_of_getElem? hp)
    intro s hs
    cases ho : lie[p.1]? with
    | none =>
      rw [ho, List.set_eq_of_length_le (by have := List.getElem?_eq_none_iff.1 ho; omega)] at hs
      exact h s hs
    | some old =>
      rw [ho] at hs
      rcases List.mem_or_eq_of_mem_set hs with hs | rfl
      · exact h s hs
      · have h2 := h old (List.mem_of_getElem? ho)
        have := cut_le q.2
        simp [List.length_take, List.length_drop, hpt, h2]
        omega
theorem kepts_64 {tk : List (Nat × List UInt8)} (ht : ∀ p ∈ tk, p.2.length = 64) : ∀ (kl : List (Int × Int)) (lie : List (List UInt8)), (∀ s ∈ lie, s.length = 64) → ∀ s ∈ kepts tk lie kl, s.length = 64
  | [], lie, h => h
  | q :: kl, lie, h => kepts_64 ht kl _ (kstep_64 ht h q)
theorem cut_str (s old : List UInt8) (c : Nat) (h : old.length = 64) : (⟨s.toArray⟩ : ByteArray).extract 0 c ++ (⟨old.toArray⟩ : ByteArray).extract c 64 = ⟨(s.take c ++ old.drop c).toArray⟩ := by
  apply ByteArray.ext
  rw [ByteArray.data_append, ByteArray.data_extract, ByteArray.data_extract]
  apply Array.toList_inj.1
  rw [Array.toList_append, Array.toList_extract, Array.toList_extract]
  simp only [List.extract_eq_take_drop, List.drop_zero, Nat.sub_zero]
  rw [show (old.drop c).take (64 - c) = old.drop c from List.take_of_length_le (by rw [List.length_drop, h]; exact Nat.le_refl _)]
section
variable (lv wv : Value) (lie : List (List UInt8)) (ws : List (Nat × List UInt8)) (w : World)
set_option maxHeartbeats 4000000 in
set_option maxRecDepth 100000 in
theorem rcrash_any (f n : Nat) (kv : Value) (kl : List (Int × Int)) (h : RD w lv wv lie ws) (hfn : f + n ≤ lie.length) (hws : ws.length ≤ 100) (hin : ∀ p ∈ ws, p.1 < lie.length) (h64l : ∀ s ∈ lie, s.length = 64) (h64w : ∀ p ∈ ws, p.2.length = 64) (hkl : Keeps w kv kl) (hks : kl.length ≤ 100) :
    Calls Try.prog 59 #[.agg #[lv, wv], .int .i64 f, .int .i64 n, kv] w fun e w' => ∃ v u, e = .returned (.agg #[v, u]) ∧ RL w' v (kepts (ws.filter (spanB f n)) lie kl) ∧ RW w' u (ws.filter (keepB f n)) ∧ Below w.heap.size w w' := by
  replace h64l := Lib.hid h64l
  replace h64w := Lib.hid h64w
  obtain ⟨ka, kcap, rfl, hkle, hkcap, hkc⟩ := hkl.form
  obtain ⟨m2, hm2⟩ : ∃ m, Hid (kl.length = m) := ⟨_, Lib.hid rfl⟩
  have h64k : Hid (∀ k, ∀ s ∈ kepts (ws.filter (spanB f n)) lie (kl.take k), s.length = 64) := Lib.hid (fun k => kepts_64 (fun p hp => h64w.out p (List.mem_filter.1 hp).1) _ _ h64l.out)
  have hkget : Hid (∀ j, j < kl.length → ∃ q, kl[j]? = some q) := Lib.hid (fun j hj => ⟨_, List.getElem?_eq_getElem hj⟩)
  rw [hm2.out] at hkle hks hkget ⊢
  unfold maxLen at hkcap
  have hkc2 : Hid (∀ j q, kl[j]? = some q → ∃ b o, ka = some ⟨b, o, none⟩ ∧ ∀ w', Below w.heap.size w w' → w'.cell? ⟨b, o + j * 2, none⟩ = some (.int .i64 q.1) ∧ w'.cell? ⟨b, o + j * 2 + 1, none⟩ = some (.int .i64 q.2)) := Lib.hid (fun j q hq => by
    obtain ⟨b, o, e, hb, e1, e2⟩ := hkc j q hq
    exact ⟨b, o, e, fun w' hbb => ⟨keepCell hbb e1, keepCell hbb e2⟩⟩)
  clear hkc hkl
  have hfew := h.few
  obtain ⟨wa, wc, rfl, h1, h2, _⟩ := h.waits.form
  obtain ⟨la, lc, rfl, hl1, hl2, _⟩ := h.lies.form
  obtain ⟨m, hm⟩ : ∃ n, Hid (ws.length = n) := ⟨_, Lib.hid rfl⟩
  obtain ⟨ln, hln⟩ : ∃ n, Hid (lie.length = n) := ⟨_, Lib.hid rfl⟩
  obtain ⟨B0, hB0⟩ : ∃ n, Hid (w.heap.size = n) := ⟨_, Lib.hid rfl⟩
  obtain ⟨W, hW⟩ : ∃ W, Hid (W = ((w.alloc (.cells #[.slice la ln lc, .slice wa m wc] 32)).alloc (.cells #[.slice none 0 0, .slice none 0 0] 32)).alloc (.cells #[.slice la ln lc, .slice wa m wc] 32)) := ⟨_, Lib.hid rfl⟩
  have hWs : W.heap.size = B0 + 3 := by rw [hW.out]; simp [hB0.out]
  have hbW : Below w.heap.size w W := by rw [hW.out]; exact ((allocBelow w _).alloc (by simp) _).alloc (by simp; omega) _
  have hs1 : (w.alloc (.cells #[.slice la ln lc, .slice wa m wc] 32)).heap.size = B0 + 1 := by simp [hB0.out]
  have hs2 : ((w.alloc (.cells #[.slice la ln lc, .slice wa m wc] 32)).alloc (.cells #[.slice none 0 0, .slice none 0 0] 32)).heap.size = B0 + 1 + 1 := by simp [hB0.out]
  have hX : Whole W B0 32 [.slice la ln lc, .slice wa m wc] := by rw [hW.out, ← hB0.out]; exact ((Whole.new w _ _).alloc _).alloc _
  have hY : Whole W (B0 + 1) 32 [.slice none 0 0, .slice none 0 0] := by
    have h := Whole.new (w.alloc (.cells #[.slice la ln lc, .slice wa m wc] 32)) 32 [.slice none 0 0, .slice none 0 0]
    rw [hs1] at h
    rw [hW.out]; exact h.alloc _
  have hZ : Whole W (B0 + 1 + 1) 32 [.slice la ln lc, .slice wa m wc] := by
    have h := Whole.new ((w.alloc (.cells #[.slice la ln lc, .slice wa m wc] 32)).alloc (.cells #[.slice none 0 0, .slice none 0 0] 32)) 32 [.slice la ln lc, .slice wa m wc]
    rw [hs2] at h
    rw [hW.out]; exact h
  clear hs1 hs2
  have hwts : Hid (∀ w', Below w.heap.size w w' → RW w' (.slice wa m wc) ws) := Lib.hid (fun w' hb => by
    have hh := h.waits.below hb
    rw [hm.out] at hh
    exact hh)
  have hRDW : RD W (.slice la ln lc) (.slice wa m wc) lie ws := by
    have hh := h.below hbW
    rw [hln.out, hm.out] at hh
    exact hh
  rw [hln.out, hm.out]
  have hIn := Lib.hid (rin_any _ _ lie ws W f n hRDW (by omega) hws)
  have y0 : W.cell? ⟨B0, 0, none⟩ = some (.slice la ln lc) := hX.cell 0
  have y1 : W.cell? ⟨B0, 1, none⟩ = some (.slice wa m wc) := hX.cell 1
  replace hX := Lib.hid hX
  replace hY := Lib.hid hY
  replace hZ := Lib.hid hZ
  replace hRDW := Lib.hid hRDW
  replace hWs := Lib.hid hWs
  replace hbW := Lib.hid hbW
  clear h
  go_enter Try.func59, Try.ntmps59
  go_wp2_with fail
  rw [← hW.out, hB0.out]
  refine hIn.out.mono ?_
  rintro e w1 ⟨fv, rfl, hF, hb1⟩
  clear hW hIn
  obtain ⟨F, hFF⟩ : ∃ F, Hid (ws.filter (spanB f n) = F) := ⟨_, Lib.hid rfl⟩
  have hFin : Hid (∀ p ∈ F, p.1 < lie.length) := Lib.hid (fun p hp => by rw [← hFF.out] at hp; exact hin p (List.mem_filter.1 hp).1)
  rw [hFF.out] at hF h64k
  obtain ⟨fa, fc, rfl, hf1, hf2, hf3⟩ := hF.form
  obtain ⟨L, hL⟩ : ∃ L, Hid (F.length = L) := ⟨_, Lib.hid rfl⟩
  unfold maxLen at hf2
  have hget : Hid (∀ k, k < F.length → ∃ d, F[k]? = some d) := Lib.hid (fun k hk => ⟨_, List.getElem?_eq_getElem hk⟩)
  rw [hL.out] at hf1 hget ⊢
  have hZ1 : Hid (Whole w1 (B0 + 1 + 1) 32 [.slice la ln lc, .slice wa m wc]) := Lib.hid (hZ.out.below hb1 (by have := hWs.out; omega))
  have hk1 : Hid (Kept (fun q => q = B0 + 1 + 1) W w1) := Lib.hid (Kept.of_below hb1)
  have hRL1 : Hid (RL w1 (.slice la ln lc) (kepts F lie (kl.take 0))) := Lib.hid (hRDW.out.lies.below hb1)
  have hcell : Hid (∀ k d, F[k]? = some d → ∃ b, fa = some ⟨b, 0, none⟩ ∧ ∀ w', Kept (fun q => q = B0 + 1 + 1) w1 w' → w'.cell? ⟨b, k * 2, none⟩ = some (.int .i64 (d.1 : Int)) ∧ w'.cell? ⟨b, k * 2 + 1, none⟩ = some (strV d.2)) := Lib.hid (fun k d hk => by
    obtain ⟨b, e, e1, e2⟩ := hf3 k d hk
    have hne : b ≠ B0 + 1 + 1 := fun h => by
      subst h
      rcases cell_two hZ1.out e1 with h | h <;> cases h
    refine ⟨b, e, fun w' hkk => ⟨?_, ?_⟩⟩
    · rw [hkk.cell (World.block_lt_of_cell? w1 _ e1) hne]; exact e1
    · rw [hkk.cell (World.block_lt_of_cell? w1 _ e1) hne]; exact e2)
  have hb01 : Hid (Below w.heap.size w w1) := Lib.hid (hbW.out.trans (hb1.mono hbW.out.size))
  have hF64 : Hid (∀ p ∈ F, p.2.length = 64) := Lib.hid (fun p hp => by rw [← hFF.out] at hp; exact h64w.out p (List.mem_filter.1 hp).1)
  have hkw : Hid (∀ w', Kept (fun q => q = B0 + 1 + 1) w1 w' → Below w.heap.size w w') := Lib.hid (fun w' h => hb01.out.trans (h.below hb01.out.size (fun q hq => by have := hB0.out; omega)))
  have hX1 : Hid (Whole w1 B0 32 [.slice la ln lc, .slice wa m wc]) := Lib.hid (hX.out.below hb1 (by have := hWs.out; omega))
  have hY1 : Hid (Whole w1 (B0 + 1) 32 [.slice none 0 0, .slice none 0 0]) := Lib.hid (hY.out.below hb1 (by have := hWs.out; omega))
  have hs1 : B0 + 3 ≤ w1.heap.size := by have := hWs.out; have := hb1.size; omega
  clear hX hY hZ hb1 hF hf3 y0 y1 hRDW hbW hWs
  go_wp2_with fail
  go_loopg [22] m2 (fun ga i wr => ∃ k : Nat, ∃ va : Option Addr, ∃ vc : Nat, k ≤ m2 ∧ m2 ≤ k + ga ∧ i = .int .i64 k ∧ Hid (Kept (fun q => q = B0 + 1 + 1) w1 wr) ∧ Hid (Whole wr (B0 + 1 + 1) 32 [.slice va ln vc, .slice wa m wc]) ∧ Hid (RL wr (.slice va ln vc) (kepts F lie (kl.take k))))
  case atStart => exact ⟨0, la, lc, by omega, by omega, rfl, Lib.hid (Kept.refl _ _), hZ1, hRL1⟩
  case round =>
    clear hZ1 hRL1
    obtain ⟨k, va, vc, hk, hg, rfl, hK, hZk, hRk⟩ := hrel
    generalize wr = wo at *
    by_cases hlt : k < m2
    · obtain ⟨⟨qi, qb⟩, hq⟩ := hkget.out k hlt
      obtain ⟨kb, ko, rfl, hkk⟩ := hkc2.out k _ hq
      obtain ⟨k1, k2⟩ := hkk wo (hkw.out wo hK.out)
      clear hkk
      simp only at k1 k2
      have hsn : Hid (kepts F lie (kl.take (k + 1)) = kstep F (kepts F lie (kl.take k)) (qi, qb)) := by
        rw [List.take_add_one, hq, show (some (qi, qb)).toList = [(qi, qb)] from rfl, kepts_snoc]; exact Lib.hid rfl
      obtain ⟨W2, hW2⟩ : ∃ W, Hid (W = wo.alloc (.cells #[.int .i64 qi, .int .i64 qb] 52)) := ⟨_, Lib.hid rfl⟩
      have hbw : Below wo.heap.size wo W2 := by rw [hW2.out]; exact allocBelow wo _
      have v0 : W2.cell? ⟨wo.heap.size, 0, none⟩ = some (.int .i64 qi) := by rw [hW2.out]; exact (Whole.new wo 52 [.int .i64 qi, .int .i64 qb]).cell 0
      have v1 : W2.cell? ⟨wo.heap.size, 1, none⟩ = some (.int .i64 qb) := by rw [hW2.out]; exact (Whole.new wo 52 [.int .i64 qi, .int .i64 qb]).cell 1
      have hW2s : W2.heap.size = wo.heap.size + 1 := by rw [hW2.out]; simp
      have hZ2 := Lib.hid (hZk.out.below hbw hZk.out.lt)
      have hK2 : Hid (Kept (fun q => q = B0 + 1 + 1) w1 W2) := Lib.hid (hK.out.trans (Kept.of_below hbw))
      have hR2 := Lib.hid (hRk.out.below hbw)
      clear hZk hK hRk hbw
      replace hW2s := Lib.hid hW2s
      by_cases g1 : qi < 0
      · have hd1 : decide (qi < 0) = true := by simp [g1]
        rw [kstep_out _ _ _ (.inl g1)] at hsn
        rw [← hsn.out] at hR2
        clear g1
        go_wp2_with (with_reducible refine zLoad 3 _ rfl ?_)
        rw [← hW2.out]
        clear hW2 k1 k2
        refine Lib.hid ?_
        go_wp2_with fail
        go_roundg (gk - 1)
        case measure => omega
        case rel => exact ⟨k + 1, va, vc, by omega, by omega, by go_num, hK2, hZ2, hR2⟩
      have hd1 : decide (qi < 0) = false := by simp [g1]
      by_cases g2 : (L : Int) ≤ qi
      · have hd2 : decide ((L : Int) ≤ qi) = true := by simp [g2]
        rw [kstep_out _ _ _ (.inr (by rw [hL.out]; exact g2))] at hsn
        rw [← hsn.out] at hR2
        go_wp2_with (with_reducible refine zLoad 3 _ rfl ?_)
        rw [← hW2.out]
        clear hW2 k1 k2
        refine Lib.hid ?_
        go_wp2_with fail
        go_roundg (gk - 1)
        case measure => omega
        case rel => exact ⟨k + 1, va, vc, by omega, by omega, by go_num, hK2, hZ2, hR2⟩
      have hd2 : decide ((L : Int) ≤ qi) = false := by simp [g2]
      obtain ⟨i, rfl⟩ := Int.eq_ofNat_of_zero_le (show 0 ≤ qi by omega)
      have hiL : i < L := by omega
      obtain ⟨p, hp⟩ := hget.out i hiL
      obtain ⟨b, rfl, hc⟩ := hcell.out i p hp
      obtain ⟨c0, c1⟩ := hc W2 hK2.out
      clear hc
      have h64 := Lib.hid (hF64.out p (List.mem_of_getElem? hp))
      have hpin := hFin.out p (List.mem_of_getElem? hp)
      replace hp := Lib.hid hp
      obtain ⟨x, s⟩ := p
      unfold strV at c1
      simp only at c0 c1 hpin h64
      obtain ⟨Bs, hBs⟩ : ∃ v : ByteArray, Hid (⟨s.toArray⟩ = v) := ⟨_, Lib.hid rfl⟩
      rw [hBs.out] at c1
      obtain ⟨W3, hW3⟩ : ∃ W, Hid (W = W2.alloc (.cells #[.int .i64 (x : Int), .string Bs] 129)) := ⟨_, Lib.hid rfl⟩
      have hbw3 : Below W2.heap.size W2 W3 := by rw [hW3.out]; exact allocBelow W2 _
      have u0 : W3.cell? ⟨wo.heap.size + 1, 0, none⟩ = some (.int .i64 (x : Int)) := by rw [hW3.out, ← hW2s.out]; exact (Whole.new W2 129 [.int .i64 (x : Int), .string Bs]).cell 0
      have u1 : W3.cell? ⟨wo.heap.size + 1, 1, none⟩ = some (.string Bs) := by rw [hW3.out, ← hW2s.out]; exact (Whole.new W2 129 [.int .i64 (x : Int), .string Bs]).cell 1
      have y0 := keepCell hbw3 v0
      have y1 := keepCell hbw3 v1
      have hZ3 := hZ2.out.below hbw3 hZ2.out.lt
      have hK3 : Hid (Kept (fun q => q = B0 + 1 + 1) w1 W3) := Lib.hid (hK2.out.trans (Kept.of_below hbw3))
      have hR3 := Lib.hid (hR2.out.below hbw3)
      have t0 : W3.cell? ⟨B0 + 1 + 1, 0, none⟩ = some (.slice va ln vc) := hZ3.cell 0
      have t1 : W3.cell? ⟨B0 + 1 + 1, 1, none⟩ = some (.slice wa m wc) := hZ3.cell 1
      replace hZ3 := Lib.hid hZ3
      clear hZ2 hK2 hR2 hbw3
      go_wp2_with (with_reducible refine zLoad 3 _ rfl ?_)
      rw [← hW2.out]
      clear hW2 k1 k2
      refine Lib.hid ?_
      go_wp2_with (with_reducible refine zLoad 129 _ rfl ?_)
      refine Lib.hid ?_
      go_wp2_with (with_reducible refine zLoad 3 _ rfl ?_)
      rw [hW2s.out, ← hW3.out]
      clear hW3 c0 c1
      refine Lib.hid ?_
      obtain ⟨c, hc⟩ : ∃ c, Hid (cut qb = c) := ⟨_, Lib.hid rfl⟩
      have hc64 : c ≤ 64 := by rw [← hc.out]; exact cut_le qb
      by_cases q1 : qb < 0
      · obtain rfl : c = 0 := by have := hc.out; unfold cut at this; omega
        have e1 : decide (qb < 0) = true := decide_eq_true q1
        clear q1
        go_wp2_with fail
        have hDl : (kepts F lie (kl.take k)).length = ln := by rw [kepts_len]; exact hln.out
        obtain ⟨V, hV⟩ : ∃ V, Hid (V = W3.drew) := ⟨_, Lib.hid rfl⟩
        obtain ⟨old, ho⟩ : ∃ old, (kepts F lie (kl.take k))[x]? = some old := ⟨_, List.getElem?_eq_getElem (by rw [hDl, ← hln.out]; exact hpin)⟩
        obtain ⟨va', vc', e3, hv1, hv2, hv3⟩ := hR3.out.form
        rw [hDl] at hv1 e3
        obtain ⟨lb, rfl, ho2⟩ := hv3 x old ho
        cases e3
        have hold := Lib.hid (h64k.out k old (List.mem_of_getElem? ho))
        replace ho := Lib.hid ho
        clear hv3
        obtain ⟨Os, hOs⟩ : ∃ v : ByteArray, Hid (⟨old.toArray⟩ = v) := ⟨_, Lib.hid rfl⟩
        unfold strV at ho2
        rw [hOs.out] at ho2
        have hpx : x < ln := by rw [← hln.out]; exact hpin
        unfold maxLen at hv2
        have hBz : Bs.size = 64 := by rw [← hBs.out]; show s.toArray.size = 64; rw [List.size_toArray]; exact h64.out
        have hOz : Os.size = 64 := by rw [← hOs.out]; show old.toArray.size = 64; rw [List.size_toArray]; exact hold.out
        have z0 : V.cell? ⟨wo.heap.size + 1, 0, none⟩ = some (.int .i64 (x : Int)) := by rw [hV.out]; exact u0
        have z1 : V.cell? ⟨wo.heap.size + 1, 1, none⟩ = some (.string Bs) := by rw [hV.out]; exact u1
        have z2 : V.cell? ⟨B0 + 1 + 1, 0, none⟩ = some (.slice (some ⟨lb, 0, none⟩) ln vc) := by rw [hV.out]; exact t0
        have z3 : V.cell? ⟨B0 + 1 + 1, 1, none⟩ = some (.slice wa m wc) := by rw [hV.out]; exact t1
        have z4 : V.cell? ⟨lb, x, none⟩ = some (.string Os) := by rw [hV.out]; exact ho2
        clear u0 u1 t0 t1 ho2 y0 y1 v0 v1
        refine quiet_tail 16 V (by kernel_rfl) (by kernel_rfl) hV.out ?_
        simp only [List.take_succ_cons, List.take_zero, List.drop_succ_cons, List.drop_zero]
        repeat (go_big_quiet_step (fail))
        refine wpQuiet_nil ?_
        refine Lib.hid ?_
        go_wp2_with fail
        refine Or.inl ?_
        have hT : Os.extract 0 64 = ⟨(s.take 0 ++ old.drop 0).toArray⟩ := by
          have h := cut_str s old 0 hold.out
          rw [hBs.out, hOs.out] at h
          rw [← h]
          simp
        rw [hT]
        clear hT
        clear z0 z1 z2 z3 z4
        have hbV : Below W3.heap.size W3 V := by rw [hV.out]; exact (Below.refl _ _).drew
        have hKV := hK3.out.trans (Kept.of_below (own := fun q => q = B0 + 1 + 1) hbV)
        have hZV := hZ3.out.below hbV hZ3.out.lt
        have hRDV : RD V (.slice (some ⟨lb, 0, none⟩) ln vc) (.slice wa m wc) (kepts F lie (kl.take k)) ws := ⟨hR3.out.below hbV, hwts.out V (hkw.out V hKV), by rw [hDl, ← hln.out]; exact hfew, fun p hp => by have := hin p hp; omega⟩
        have hset := Lib.hid (rset_any _ _ _ _ V x (s.take 0 ++ old.drop 0) hRDV (by rw [hDl]; exact hpx))
        have hkst := kstep_in hp.out ho.out (b := qb)
        simp only at hkst
        rw [hc.out] at hkst
        rw [← hkst, ← hsn.out] at hset
        unfold strV at hset
        replace hZV := Lib.hid hZV
        replace hKV := Lib.hid hKV
        clear hkst hRDV hZ3 hK3 hR3
        refine hset.out.mono ?_
        rintro e w3 ⟨nv, rfl, hRn, hb3⟩
        clear hset hV hbV
        have hlen2 : (kepts F lie (kl.take (k + 1))).length = ln := by rw [kepts_len]; exact hln.out
        obtain ⟨na, nc, hnv, _⟩ := hRn.form
        rw [hlen2] at hnv
        subst hnv
        have hZ4 := hZV.out.below hb3 hZV.out.lt
        have hth := Lib.hid (hZ4.there 0 2 (by simp))
        obtain ⟨U, hU⟩ : ∃ V, Hid (V = w3.setCells (B0 + 1 + 1) 0 [.slice na ln nc, .slice wa m wc]) := ⟨_, Lib.hid rfl⟩
        have hK5 : Hid (Kept (fun q => q = B0 + 1 + 1) w1 U) := Lib.hid (by rw [hU.out]; exact (hKV.out.trans (Kept.of_below hb3)).setCells (c := B0 + 1 + 1) (.inl rfl) _ _)
        have hZ5 : Hid (Whole U (B0 + 1 + 1) 32 [.slice na ln nc, .slice wa m wc]) := Lib.hid (by rw [hU.out]; exact hZ4.store 0 [.slice na ln nc, .slice wa m wc] (by simp))
        have hR5 : Hid (RL U (.slice na ln nc) (kepts F lie (kl.take (k + 1)))) := Lib.hid (by rw [hU.out]; exact hRn.store hZ4 _)
        clear hRn hb3 hZ4 hZV hKV hlen2
        go_wp2_with (with_reducible refine zStore 32 _ _ rfl ?_)
        refine Lib.hid ?_
        refine wpList_store_mid rfl 32 _ _ rfl (B0 + 1 + 1) 0 #[.slice na ln nc, .slice wa m wc] rfl rfl hth.out sizeRD (by simp [Value.oneCell']) ?_
        rw [show (#[.slice na ln nc, .slice wa m wc] : Array Value).toList = [.slice na ln nc, .slice wa m wc] from rfl, ← hU.out]
        clear hU hth
        go_wp2_with fail
        go_roundg (gk - 1)
        case measure => omega
        case rel => exact ⟨k + 1, na, nc, by omega, by omega, by go_num, hK5, hZ5, hR5⟩
      by_cases q2 : 64 < qb
      · obtain rfl : c = 64 := by have := hc.out; unfold cut at this; omega
        have e1 : decide (qb < 0) = false := decide_eq_false q1
        have e2 : decide (64 < qb) = true := decide_eq_true q2
        clear q1 q2
        go_wp2_with fail
        have hDl : (kepts F lie (kl.take k)).length = ln := by rw [kepts_len]; exact hln.out
        obtain ⟨V, hV⟩ : ∃ V, Hid (V = W3.drew) := ⟨_, Lib.hid rfl⟩
        obtain ⟨old, ho⟩ : ∃ old, (kepts F lie (kl.take k))[x]? = some old := ⟨_, List.getElem?_eq_getElem (by rw [hDl, ← hln.out]; exact hpin)⟩
        obtain ⟨va', vc', e3, hv1, hv2, hv3⟩ := hR3.out.form
        rw [hDl] at hv1 e3
        obtain ⟨lb, rfl, ho2⟩ := hv3 x old ho
        cases e3
        have hold := Lib.hid (h64k.out k old (List.mem_of_getElem? ho))
        replace ho := Lib.hid ho
        clear hv3
        obtain ⟨Os, hOs⟩ : ∃ v : ByteArray, Hid (⟨old.toArray⟩ = v) := ⟨_, Lib.hid rfl⟩
        unfold strV at ho2
        rw [hOs.out] at ho2
        have hpx : x < ln := by rw [← hln.out]; exact hpin
        unfold maxLen at hv2
        have hBz : Bs.size = 64 := by rw [← hBs.out]; show s.toArray.size = 64; rw [List.size_toArray]; exact h64.out
        have hOz : Os.size = 64 := by rw [← hOs.out]; show old.toArray.size = 64; rw [List.size_toArray]; exact hold.out
        have z0 : V.cell? ⟨wo.heap.size + 1, 0, none⟩ = some (.int .i64 (x : Int)) := by rw [hV.out]; exact u0
        have z1 : V.cell? ⟨wo.heap.size + 1, 1, none⟩ = some (.string Bs) := by rw [hV.out]; exact u1
        have z2 : V.cell? ⟨B0 + 1 + 1, 0, none⟩ = some (.slice (some ⟨lb, 0, none⟩) ln vc) := by rw [hV.out]; exact t0
        have z3 : V.cell? ⟨B0 + 1 + 1, 1, none⟩ = some (.slice wa m wc) := by rw [hV.out]; exact t1
        have z4 : V.cell? ⟨lb, x, none⟩ = some (.string Os) := by rw [hV.out]; exact ho2
        clear u0 u1 t0 t1 ho2 y0 y1 v0 v1
        refine quiet_tail 16 V (by kernel_rfl) (by kernel_rfl) hV.out ?_
        simp only [List.take_succ_cons, List.take_zero, List.drop_succ_cons, List.drop_zero]
        repeat (go_big_quiet_step (fail))
        refine wpQuiet_nil ?_
        refine Lib.hid ?_
        go_wp2_with fail
        refine Or.inl ?_
        have hT : Bs.extract 0 64 = ⟨(s.take 64 ++ old.drop 64).toArray⟩ := by
          have h := cut_str s old 64 hold.out
          rw [hBs.out, hOs.out] at h
          rw [← h]
          simp
        rw [hT]
        clear hT
        clear z0 z1 z2 z3 z4
        have hbV : Below W3.heap.size W3 V := by rw [hV.out]; exact (Below.refl _ _).drew
        have hKV := hK3.out.trans (Kept.of_below (own := fun q => q = B0 + 1 + 1) hbV)
        have hZV := hZ3.out.below hbV hZ3.out.lt
        have hRDV : RD V (.slice (some ⟨lb, 0, none⟩) ln vc) (.slice wa m wc) (kepts F lie (kl.take k)) ws := ⟨hR3.out.below hbV, hwts.out V (hkw.out V hKV), by rw [hDl, ← hln.out]; exact hfew, fun p hp => by have := hin p hp; omega⟩
        have hset := Lib.hid (rset_any _ _ _ _ V x (s.take 64 ++ old.drop 64) hRDV (by rw [hDl]; exact hpx))
        have hkst := kstep_in hp.out ho.out (b := qb)
        simp only at hkst
        rw [hc.out] at hkst
        rw [← hkst, ← hsn.out] at hset
        unfold strV at hset
        replace hZV := Lib.hid hZV
        replace hKV := Lib.hid hKV
        clear hkst hRDV hZ3 hK3 hR3
        refine hset.out.mono ?_
        rintro e w3 ⟨nv, rfl, hRn, hb3⟩
        clear hset hV hbV
        have hlen2 : (kepts F lie (kl.take (k + 1))).length = ln := by rw [kepts_len]; exact hln.out
        obtain ⟨na, nc, hnv, _⟩ := hRn.form
        rw [hlen2] at hnv
        subst hnv
        have hZ4 := hZV.out.below hb3 hZV.out.lt
        have hth := Lib.hid (hZ4.there 0 2 (by simp))
        obtain ⟨U, hU⟩ : ∃ V, Hid (V = w3.setCells (B0 + 1 + 1) 0 [.slice na ln nc, .slice wa m wc]) := ⟨_, Lib.hid rfl⟩
        have hK5 : Hid (Kept (fun q => q = B0 + 1 + 1) w1 U) := Lib.hid (by rw [hU.out]; exact (hKV.out.trans (Kept.of_below hb3)).setCells (c := B0 + 1 + 1) (.inl rfl) _ _)
        have hZ5 : Hid (Whole U (B0 + 1 + 1) 32 [.slice na ln nc, .slice wa m wc]) := Lib.hid (by rw [hU.out]; exact hZ4.store 0 [.slice na ln nc, .slice wa m wc] (by simp))
        have hR5 : Hid (RL U (.slice na ln nc) (kepts F lie (kl.take (k + 1)))) := Lib.hid (by rw [hU.out]; exact hRn.store hZ4 _)
        clear hRn hb3 hZ4 hZV hKV hlen2
        go_wp2_with (with_reducible refine zStore 32 _ _ rfl ?_)
        refine Lib.hid ?_
        refine wpList_store_mid rfl 32 _ _ rfl (B0 + 1 + 1) 0 #[.slice na ln nc, .slice wa m wc] rfl rfl hth.out sizeRD (by simp [Value.oneCell']) ?_
        rw [show (#[.slice na ln nc, .slice wa m wc] : Array Value).toList = [.slice na ln nc, .slice wa m wc] from rfl, ← hU.out]
        clear hU hth
        go_wp2_with fail
        go_roundg (gk - 1)
        case measure => omega
        case rel => exact ⟨k + 1, na, nc, by omega, by omega, by go_num, hK5, hZ5, hR5⟩
      obtain rfl : qb = (c : Int) := by have := hc.out; unfold cut at this; omega
      have e1 : decide ((c : Int) < 0) = false := decide_eq_false q1
      have e2 : decide ((64 : Int) < (c : Int)) = false := decide_eq_false q2
      clear q1 q2
      go_wp2_with fail
      have hDl : (kepts F lie (kl.take k)).length = ln := by rw [kepts_len]; exact hln.out
      obtain ⟨V, hV⟩ : ∃ V, Hid (V = W3.drew) := ⟨_, Lib.hid rfl⟩
      obtain ⟨old, ho⟩ : ∃ old, (kepts F lie (kl.take k))[x]? = some old := ⟨_, List.getElem?_eq_getElem (by rw [hDl, ← hln.out]; exact hpin)⟩
      obtain ⟨va', vc', e3, hv1, hv2, hv3⟩ := hR3.out.form
      rw [hDl] at hv1 e3
      obtain ⟨lb, rfl, ho2⟩ := hv3 x old ho
      cases e3
      have hold := Lib.hid (h64k.out k old (List.mem_of_getElem? ho))
      replace ho := Lib.hid ho
      clear hv3
      obtain ⟨Os, hOs⟩ : ∃ v : ByteArray, Hid (⟨old.toArray⟩ = v) := ⟨_, Lib.hid rfl⟩
      unfold strV at ho2
      rw [hOs.out] at ho2
      have hpx : x < ln := by rw [← hln.out]; exact hpin
      unfold maxLen at hv2
      have hBz : Bs.size = 64 := by rw [← hBs.out]; show s.toArray.size = 64; rw [List.size_toArray]; exact h64.out
      have hOz : Os.size = 64 := by rw [← hOs.out]; show old.toArray.size = 64; rw [List.size_toArray]; exact hold.out
      have z0 : V.cell? ⟨wo.heap.size + 1, 0, none⟩ = some (.int .i64 (x : Int)) := by rw [hV.out]; exact u0
      have z1 : V.cell? ⟨wo.heap.size + 1, 1, none⟩ = some (.string Bs) := by rw [hV.out]; exact u1
      have z2 : V.cell? ⟨B0 + 1 + 1, 0, none⟩ = some (.slice (some ⟨lb, 0, none⟩) ln vc) := by rw [hV.out]; exact t0
      have z3 : V.cell? ⟨B0 + 1 + 1, 1, none⟩ = some (.slice wa m wc) := by rw [hV.out]; exact t1
      have z4 : V.cell? ⟨lb, x, none⟩ = some (.string Os) := by rw [hV.out]; exact ho2
      clear u0 u1 t0 t1 ho2 y0 y1 v0 v1
      refine quiet_tail 16 V (by kernel_rfl) (by kernel_rfl) hV.out ?_
      simp only [List.take_succ_cons, List.take_zero, List.drop_succ_cons, List.drop_zero]
      repeat (go_big_quiet_step (fail))
      refine wpQuiet_nil ?_
      refine Lib.hid ?_
      go_wp2_with fail
      refine Or.inl ?_
      have hT : Bs.extract 0 c ++ Os.extract c 64 = ⟨(s.take c ++ old.drop c).toArray⟩ := by
        rw [← hBs.out, ← hOs.out]
        exact cut_str s old c hold.out
      rw [hT]
      clear hT
      clear z0 z1 z2 z3 z4
      have hbV : Below W3.heap.size W3 V := by rw [hV.out]; exact (Below.refl _ _).drew
      have hKV := hK3.out.trans (Kept.of_below (own := fun q => q = B0 + 1 + 1) hbV)
      have hZV := hZ3.out.below hbV hZ3.out.lt
      have hRDV : RD V (.slice (some ⟨lb, 0, none⟩) ln vc) (.slice wa m wc) (kepts F lie (kl.take k)) ws := ⟨hR3.out.below hbV, hwts.out V (hkw.out V hKV), by rw [hDl, ← hln.out]; exact hfew, fun p hp => by have := hin p hp; omega⟩
      have hset := Lib.hid (rset_any _ _ _ _ V x (s.take c ++ old.drop c) hRDV (by rw [hDl]; exact hpx))
      have hkst := kstep_in hp.out ho.out (b := (c : Int))
      simp only at hkst
      rw [hc.out] at hkst
      rw [← hkst, ← hsn.out] at hset
      unfold strV at hset
      replace hZV := Lib.hid hZV
      replace hKV := Lib.hid hKV
      clear hkst hRDV hZ3 hK3 hR3
      refine hset.out.mono ?_
      rintro e w3 ⟨nv, rfl, hRn, hb3⟩
      clear hset hV hbV
      have hlen2 : (kepts F lie (kl.take (k + 1))).length = ln := by rw [kepts_len]; exact hln.out
      obtain ⟨na, nc, hnv, _⟩ := hRn.form
      rw [hlen2] at hnv
      subst hnv
      have hZ4 := hZV.out.below hb3 hZV.out.lt
      have hth := Lib.hid (hZ4.there 0 2 (by simp))
      obtain ⟨U, hU⟩ : ∃ V, Hid (V = w3.setCells (B0 + 1 + 1) 0 [.slice na ln nc, .slice wa m wc]) := ⟨_, Lib.hid rfl⟩
      have hK5 : Hid (Kept (fun q => q = B0 + 1 + 1) w1 U) := Lib.hid (by rw [hU.out]; exact (hKV.out.trans (Kept.of_below hb3)).setCells (c := B0 + 1 + 1) (.inl rfl) _ _)
      have hZ5 : Hid (Whole U (B0 + 1 + 1) 32 [.slice na ln nc, .slice wa m wc]) := Lib.hid (by rw [hU.out]; exact hZ4.store 0 [.slice na ln nc, .slice wa m wc] (by simp))
      have hR5 : Hid (RL U (.slice na ln nc) (kepts F lie (kl.take (k + 1)))) := Lib.hid (by rw [hU.out]; exact hRn.store hZ4 _)
      clear hRn hb3 hZ4 hZV hKV hlen2
      go_wp2_with (with_reducible refine zStore 32 _ _ rfl ?_)
      refine Lib.hid ?_
      refine wpList_store_mid rfl 32 _ _ rfl (B0 + 1 + 1) 0 #[.slice na ln nc, .slice wa m wc] rfl rfl hth.out sizeRD (by simp [Value.oneCell']) ?_
      rw [show (#[.slice na ln nc, .slice wa m wc] : Array Value).toList = [.slice na ln nc, .slice wa m wc] from rfl, ← hU.out]
      clear hU hth
      go_wp2_with fail
      go_roundg (gk - 1)
      case measure => omega
      case rel => exact ⟨k + 1, na, nc, by omega, by omega, by go_num, hK5, hZ5, hR5⟩
    · obtain rfl : k = m2 := by omega
      have htk : kl.take k = kl := by rw [← hm2.out, List.take_length]
      rw [htk] at hRk
      have hbwo := hkw.out wo hK.out
      have u0 : wo.cell? ⟨B0 + 1 + 1, 0, none⟩ = some (.slice va ln vc) := hZk.out.cell 0
      have u1 : wo.cell? ⟨B0 + 1 + 1, 1, none⟩ = some (.slice wa m wc) := hZk.out.cell 1
      have hlenF : (kepts F lie kl).length = ln := by rw [kepts_len]; exact hln.out
      have hRDo : RD wo (.slice va ln vc) (.slice wa m wc) (kepts F lie kl) ws := ⟨hRk.out, hwts.out wo hbwo, by rw [hlenF, ← hln.out]; exact hfew, fun p hp => by have := hin p hp; omega⟩
      have hwo := Lib.hid (rwithout_any _ _ _ _ wo f n hRDo (by omega) hws)
      have hYo : Hid (Whole wo (B0 + 1) 32 [.slice none 0 0, .slice none 0 0]) := Lib.hid (hY1.out.of_kept hK.out (by omega))
      replace hbwo := Lib.hid hbwo
      clear hRDo hZk hK hcell hkc2 htk hX1 hY1 hkw
      go_wp2_with fail
      refine hwo.out.mono ?_
      rintro e w3 ⟨nu, rfl, hRu, hb3⟩
      clear hwo
      obtain ⟨L2, hL2⟩ : ∃ L, Hid ((ws.filter (keepB f n)).length = L) := ⟨_, Lib.hid rfl⟩
      obtain ⟨na, nc, hnu, _⟩ := hRu.form
      rw [hL2.out] at hnu
      subst hnu
      have hY3 := hYo.out.below hb3 hYo.out.lt
      have hth := Lib.hid (hY3.there 0 2 (by simp))
      obtain ⟨V, hV⟩ : ∃ V, Hid (V = w3.setCells (B0 + 1) 0 [.slice va ln vc, .slice na L2 nc]) := ⟨_, Lib.hid rfl⟩
      have hRL5 : Hid (RL V (.slice va ln vc) (kepts F lie kl)) := Lib.hid (by rw [hV.out]; exact (hRk.out.below hb3).store hY3 _)
      have hRW5 : Hid (RW V (.slice na L2 nc) (ws.filter (keepB f n))) := Lib.hid (by rw [hV.out]; exact hRu.store hY3 _)
      have hY5 : Whole V (B0 + 1) 32 [.slice va ln vc, .slice na L2 nc] := by rw [hV.out]; exact hY3.store 0 [.slice va ln vc, .slice na L2 nc] (by simp)
      have hkv : Kept (fun q => q = B0 + 1) w3 V := by rw [hV.out]; exact (Kept.refl (fun q => q = B0 + 1) w3).setCells (c := B0 + 1) (.inl rfl) _ _
      have hb3w := hbwo.out.trans (hb3.mono hbwo.out.size)
      have hbV : Hid (Below w.heap.size w V) := Lib.hid (hb3w.trans (hkv.below hb3w.size (fun q hq => by have := hB0.out; omega)))
      have p0 : V.cell? ⟨B0 + 1, 0, none⟩ = some (.slice va ln vc) := hY5.cell 0
      have p1 : V.cell? ⟨B0 + 1, 1, none⟩ = some (.slice na L2 nc) := hY5.cell 1
      clear hRu hRk hb3 hY3 hYo hY5 hkv hb3w
      go_wp2_with (with_reducible refine zStore 32 _ _ rfl ?_)
      refine Lib.hid ?_
      refine wpList_store_mid rfl 32 _ _ rfl (B0 + 1) 0 #[.slice va ln vc, .slice na L2 nc] rfl rfl hth.out sizeRD (by simp [Value.oneCell']) ?_
      rw [show (#[.slice va ln vc, .slice na L2 nc] : Array Value).toList = [.slice va ln vc, .slice na L2 nc] from rfl, ← hV.out]
      clear hV hth
      go_wp2_with fail
      refine bodyPost_ret (v := .agg #[.slice va ln vc, .slice na L2 nc]) (by simp [results, Try.results59, go_sem, p0, p1]) rfl ⟨_, _, rfl, by rw [hFF.out]; exact hRL5.out, hRW5.out, hbV.out⟩
end
end Go.Proofs.Ytgomhnclmacleaa.D
