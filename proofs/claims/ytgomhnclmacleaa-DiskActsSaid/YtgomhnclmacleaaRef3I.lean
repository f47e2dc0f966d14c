/- An act on the document's disk. -/
import Derived.Test.YtgomhnclmacleaaProg
import Derived.Test.YtgomhnclmacleaaRef3H
namespace Go.Proofs.Ytgomhnclmacleaa.D
open Go.RowKit
open Go.Proofs.Ytgomhnclmacleaa.Z
set_option linter.unusedVariables false

theorem sizeStep : (Try.prog.info? 38).map (·.size) = some 3 := by kernel_rfl
theorem RL.store' {w : World} {b : Nat} {t : TypeId} {xs : List Value} {v : Value} {lie : List (List UInt8)} (h : RL w v lie) (hW : Whole w b t xs) (hx : ∀ x ∈ xs, ∀ s, x ≠ .string s) (cs : List Value) : RL (w.setCells b 0 cs) v lie := by
  obtain ⟨a, cap, h1, h2, h3, h4⟩ := h.form
  refine ⟨⟨a, cap, h1, h2, h3, fun i s hs => ?_⟩, fun q e n => TypedAt.setCells b cs 0 w (h.typed q e n)⟩
  obtain ⟨b', e, hc⟩ := h4 i s hs
  refine ⟨b', e, ?_⟩
  have hne : b' ≠ b := fun e2 => by
    subst e2
    rw [hW.cell] at hc
    exact hx _ (List.mem_of_getElem? hc) _ rfl
  have hk : Kept (fun q => q = b) w (w.setCells b 0 cs) := (Kept.refl (fun q => q = b) w).setCells (c := b) (.inl rfl) _ _
  rw [hk.cell (World.block_lt_of_cell? w _ hc) hne]
  exact hc
theorem RW.store' {w : World} {b : Nat} {t : TypeId} {xs : List Value} {v : Value} {ws : List (Nat × List UInt8)} (h : RW w v ws) (hW : Whole w b t xs) (hx : ∀ x ∈ xs, ∀ s, x ≠ .string s) (cs : List Value) : RW (w.setCells b 0 cs) v ws := by
  obtain ⟨a, cap, h1, h2, h3, h4⟩ := h.form
  refine ⟨⟨a, cap, h1, h2, h3, fun i s hs => ?_⟩, fun q e n => TypedAt.setCells b cs 0 w (h.typed q e n)⟩
  obtain ⟨b', e, hc, hc2⟩ := h4 i s hs
  have hne : b' ≠ b := fun e2 => by
    subst e2
    rw [hW.cell] at hc2
    exact hx _ (List.mem_of_getElem? hc2) _ rfl
  have hk : Kept (fun q => q = b) w (w.setCells b 0 cs) := (Kept.refl (fun q => q = b) w).setCells (c := b) (.inl rfl) _ _
  refine ⟨b', e, ?_, ?_⟩
  · rw [hk.cell (World.block_lt_of_cell? w _ hc) hne]; exact hc
  · rw [hk.cell (World.block_lt_of_cell? w _ hc) hne]; exact hc2
section
variable (lv wv : Value) (lie : List (List UInt8)) (ws : List (Nat × List UInt8)) (w : World)
set_option maxHeartbeats 4000000 in
set_option maxRecDepth 100000 in
theorem ract_any (k at_ n : Int) (c : UInt8) (kv : Value) (kl : List (Int × Int)) (h : RD w lv wv lie ws) (hbig : at_ ≤ 9223372036854775807) (hws : ws.length ≤ 99) (hin : ∀ p ∈ ws, p.1 < lie.length) (h64l : ∀ s ∈ lie, s.length = 64) (h64w : ∀ p ∈ ws, p.2.length = 64) (hkl : Keeps w kv kl) (hks : kl.length ≤ 100) :
    Calls Try.prog 17 #[.agg #[lv, wv], actV k at_ n c kv] w fun e w' => ∃ v u, e = .returned (.agg #[v, u, .int .i64 (actE lie.length ⟨k, at_, n, c, kl⟩)]) ∧ RL w' v (actL lie ws ⟨k, at_, n, c, kl⟩) ∧ RW w' u (actW lie.length ws ⟨k, at_, n, c, kl⟩) ∧ Below w.heap.size w w' := by
  have hfew := h.few
  replace h64l := Lib.hid h64l
  replace h64w := Lib.hid h64w
  obtain ⟨wa, wc, rfl, _⟩ := h.waits.form
  obtain ⟨la, lc, rfl, _⟩ := h.lies.form
  obtain ⟨m, hm⟩ : ∃ n, Hid (ws.length = n) := ⟨_, Lib.hid rfl⟩
  obtain ⟨ln, hln⟩ : ∃ n, Hid (lie.length = n) := ⟨_, Lib.hid rfl⟩
  obtain ⟨B0, hB0⟩ : ∃ n, Hid (w.heap.size = n) := ⟨_, Lib.hid rfl⟩
  rw [hln.out, hm.out] at h
  rw [hln.out, hm.out]
  obtain ⟨W1, hW1⟩ : ∃ W, Hid (W = w.alloc (.cells #[.slice la ln lc, .slice wa m wc] 32)) := ⟨_, Lib.hid rfl⟩
  obtain ⟨W2, hW2⟩ : ∃ W, Hid (W = W1.alloc (.cells #[.int .i64 k, .int .i64 at_, .int .i64 n, .int .u8 (c.toNat : Int), kv] 36)) := ⟨_, Lib.hid rfl⟩
  obtain ⟨W, hW⟩ : ∃ W, Hid (W = W2.alloc (.cells #[.slice none 0 0, .slice none 0 0, .int .i64 0] 38)) := ⟨_, Lib.hid rfl⟩
  have s1 : W1.heap.size = B0 + 1 := by rw [hW1.out]; simp [hB0.out]
  have s2 : W2.heap.size = B0 + 2 := by rw [hW2.out]; simp [s1]
  have s3 : W.heap.size = B0 + 3 := by rw [hW.out]; simp [s2]
  have b1 : Below w.heap.size w W1 := by rw [hW1.out]; exact allocBelow w _
  have b2 : Below w.heap.size w W2 := by rw [hW2.out]; exact b1.alloc b1.size _
  have hbW : Below w.heap.size w W := by rw [hW.out]; exact b2.alloc b2.size _
  have hX : Whole W B0 32 [.slice la ln lc, .slice wa m wc] := by
    have hh : Whole W1 B0 32 [.slice la ln lc, .slice wa m wc] := by rw [hW1.out, ← hB0.out]; exact Whole.new w _ _
    have hh2 : Whole W2 B0 32 [.slice la ln lc, .slice wa m wc] := by rw [hW2.out]; exact hh.alloc _
    rw [hW.out]; exact hh2.alloc _
  have hY : Whole W (B0 + 1) 36 [.int .i64 k, .int .i64 at_, .int .i64 n, .int .u8 (c.toNat : Int), kv] := by
    have hh : Whole W2 (B0 + 1) 36 [.int .i64 k, .int .i64 at_, .int .i64 n, .int .u8 (c.toNat : Int), kv] := by rw [hW2.out, ← s1]; exact Whole.new W1 _ _
    rw [hW.out]; exact hh.alloc _
  have hZ : Whole W (B0 + 1 + 1) 38 [.slice none 0 0, .slice none 0 0, .int .i64 0] := by rw [hW.out, ← s2]; exact Whole.new W2 _ _
  have hRD : RD W (.slice la ln lc) (.slice wa m wc) lie ws := h.below hbW
  have hkW : Hid (Keeps W kv kl) := Lib.hid (hkl.below hbW)
  replace hX := Lib.hid hX
  replace hY := Lib.hid hY
  replace hZ := Lib.hid hZ
  replace hRD := Lib.hid hRD
  replace hbW := Lib.hid hbW
  replace s1 := Lib.hid s1
  replace s2 := Lib.hid s2
  replace s3 := Lib.hid s3
  clear h hkl b1 b2
  obtain ⟨E, hE⟩ : ∃ E, Hid (actE ln ⟨k, at_, n, c, kl⟩ = E) := ⟨_, Lib.hid rfl⟩
  rw [hE.out]
  by_cases k0 : k = 0
  · subst k0
    by_cases g : 0 ≤ at_ ∧ at_ < ln
    · obtain ⟨f, rfl⟩ := Int.eq_ofNat_of_zero_le g.1
      have hfl : f < ln := by have := g.2; omega
      have hL : Hid (actL lie ws ⟨0, (f : Int), n, c, kl⟩ = lie) := Lib.hid (by simp [actL])
      by_cases ct : cut n = 0
      · have hWs : Hid (actW ln ws ⟨0, (f : Int), n, c, kl⟩ = ws ++ [(f, fillL c)]) := Lib.hid (by simp [actW, ct, hfl])
        obtain rfl : E = 0 := by rw [← hE.out]; simp [actE, ct, hfl]
        rw [hL.out, hWs.out]
        clear hL hWs hE
        have x0 : W.cell? ⟨B0, 0, none⟩ = some (.slice la ln lc) := hX.out.cell 0
        have x1 : W.cell? ⟨B0, 1, none⟩ = some (.slice wa m wc) := hX.out.cell 1
        have y0 : W.cell? ⟨B0 + 1, 0, none⟩ = some (.int .i64 0) := hY.out.cell 0
        have y1 : W.cell? ⟨B0 + 1, 1, none⟩ = some (.int .i64 (f : Int)) := hY.out.cell 1
        have y2 : W.cell? ⟨B0 + 1, 2, none⟩ = some (.int .i64 n) := hY.out.cell 2
        have y3 : W.cell? ⟨B0 + 1, 3, none⟩ = some (.int .u8 (c.toNat : Int)) := hY.out.cell 3
        have y4 : W.cell? ⟨B0 + 1, 4, none⟩ = some kv := hY.out.cell 4
        have hIs := Lib.hid (ris_any _ _ lie ws W (f : Int) hRD.out)
        go_enter Try.func17, Try.ntmps17
        go_wp2_with (with_reducible refine zLoad 3 _ rfl ?_)
        rw [← hW1.out, ← hW2.out, ← hW.out, hB0.out]
        clear hW hW1 hW2
        refine Lib.hid ?_
        go_wp2_with fail
        refine hIs.out.mono ?_
        rintro e w3 ⟨rfl, hb3⟩
        clear hIs
        rw [hln.out]
        have hR3 := hRD.out.below hb3
        have z0 : w3.cell? ⟨B0, 0, none⟩ = some (.slice la ln lc) := keepCell hb3 x0
        have z1 : w3.cell? ⟨B0, 1, none⟩ = some (.slice wa m wc) := keepCell hb3 x1
        have v0 : w3.cell? ⟨B0 + 1, 0, none⟩ = some (.int .i64 0) := keepCell hb3 y0
        have v1 : w3.cell? ⟨B0 + 1, 1, none⟩ = some (.int .i64 (f : Int)) := keepCell hb3 y1
        have v2 : w3.cell? ⟨B0 + 1, 2, none⟩ = some (.int .i64 n) := keepCell hb3 y2
        have v3 : w3.cell? ⟨B0 + 1, 3, none⟩ = some (.int .u8 (c.toNat : Int)) := keepCell hb3 y3
        have v4 : w3.cell? ⟨B0 + 1, 4, none⟩ = some kv := keepCell hb3 y4
        clear x0 x1 y0 y1 y2 y3 y4 hX hY
        rw [decide_eq_true g.1, decide_eq_true g.2]
        have hTx := Lib.hid (text_any 0 (f : Int) n c kv w3)
        go_wp2_with fail
        refine hTx.out.mono ?_
        rintro e w4 ⟨T, rfl, hT, hb4⟩
        clear hTx
        have hb34 := hb3.trans (hb4.mono hb3.size)
        have hR4 := hR3.below hb4
        have j0 : w4.cell? ⟨B0, 0, none⟩ = some (.slice la ln lc) := keepCell hb4 z0
        have j1 : w4.cell? ⟨B0, 1, none⟩ = some (.slice wa m wc) := keepCell hb4 z1
        have i0 : w4.cell? ⟨B0 + 1, 0, none⟩ = some (.int .i64 0) := keepCell hb4 v0
        have i1 : w4.cell? ⟨B0 + 1, 1, none⟩ = some (.int .i64 (f : Int)) := keepCell hb4 v1
        have i2 : w4.cell? ⟨B0 + 1, 2, none⟩ = some (.int .i64 n) := keepCell hb4 v2
        have i3 : w4.cell? ⟨B0 + 1, 3, none⟩ = some (.int .u8 (c.toNat : Int)) := keepCell hb4 v3
        have i4 : w4.cell? ⟨B0 + 1, 4, none⟩ = some (kv) := keepCell hb4 v4
        clear z0 z1 v0 v1 v2 v3 v4 hR3 g
        have hTs : T.size = 64 := by rw [hT.1, ct]
        go_wp2_with fail
        clear hTs
        obtain ⟨X, hX⟩ : ∃ X : ByteArray, Hid (⟨(fillL c).toArray⟩ = X) := ⟨_, Lib.hid rfl⟩
        have hWr : Hid (∀ W : World, RD W (.slice la ln lc) (.slice wa m wc) lie ws → Calls Try.prog 56 #[.agg #[.slice la ln lc, .slice wa m wc], .int .i64 f, .string X] W fun e w' => ∃ v, e = .returned (.agg #[.slice la ln lc, v]) ∧ RW w' v (ws ++ [(f, fillL c)]) ∧ Below W.heap.size W w') := Lib.hid (fun W hR => by
          have hh := rwrite_any _ _ lie ws W f (fillL c) hR (by omega) (by rw [← hln.out] at hfl; omega)
          unfold strV at hh
          rw [hX.out] at hh
          exact hh)
        have hn1 : B0 ≠ B0 + 1 + 1 := by omega
        have hn2 : B0 + 1 + 1 ≠ B0 := by omega
        go_region_held3 (fun w' => w'.cell? ⟨B0, 0, none⟩ = some (.slice la ln lc) ∧ w'.cell? ⟨B0, 1, none⟩ = some (.slice wa m wc) ∧ w'.cell? ⟨B0 + 1, 0, none⟩ = some (.int .i64 0) ∧ w'.cell? ⟨B0 + 1, 1, none⟩ = some (.int .i64 (f : Int)) ∧ w'.cell? ⟨B0 + 1, 2, none⟩ = some (.int .i64 n) ∧ w'.cell? ⟨B0 + 1, 3, none⟩ = some (.int .u8 (c.toNat : Int)) ∧ w'.cell? ⟨B0 + 1, 4, none⟩ = some (kv)) (first | go_keep | (rw [World.cell?_setCell_other _ _ _ _ (by simp; omega), World.cell?_setCell_other _ _ _ _ (by simp; omega), World.cell?_setCell_other _ _ _ _ (by simp; omega)]; go_keep)) (first
          | (go_at_call 55; (with_reducible refine (text_any 0 (f : Int) n c kv _).mono ?_); rintro e w5 ⟨T2, rfl, hT2, hb5⟩; have d0 := keepCell hb5 j0; have d1 := keepCell hb5 j1; have d2 := keepCell hb5 i0; have d3 := keepCell hb5 i1; have d4 := keepCell hb5 i2; have d5 := keepCell hb5 i3; have d6 := keepCell hb5 i4; have hR5 := Lib.hid (hR4.below (below_of_drew hb5)); have hT3 := hT2.2 ct; rw [hX.out] at hT3; subst hT3; clear hT2)
          | (go_at_call 56; (with_reducible refine (hWr.out _ hR5.out).mono ?_); rintro e w6 ⟨u, rfl, hRu, hb6⟩; have e0 := keepCell hb6 d0; have e1 := keepCell hb6 d1; have e2 := keepCell hb6 d2; have e3 := keepCell hb6 d3; have e4 := keepCell hb6 d4; have e5 := keepCell hb6 d5; have e6 := keepCell hb6 d6; obtain ⟨ua, uc, huv, _⟩ := hRu.form; obtain ⟨ul, hul⟩ : ∃ n, Hid ((ws ++ [(f, fillL c)]).length = n) := ⟨_, Lib.hid rfl⟩; rw [hul.out] at huv; subst huv; have hb56 := (below_of_drew hb5).trans (hb6.mono (below_of_drew hb5).size); have hb36 := hb34.trans (hb56.mono hb34.size); have hZ6 := hZ.out.below hb36 hZ.out.lt; have q0 := hZ6.cell 0; have q1 := hZ6.cell 1; have q2 := hZ6.cell 2; have r0 := hZ6.frozen 0; have r1 := hZ6.frozen 1; have r2 := hZ6.frozen 2; simp only [List.getElem?_cons_zero, List.getElem?_cons_succ] at q0 q1 q2; replace hZ6 := Lib.hid hZ6; replace hRu := Lib.hid hRu; replace hb36 := Lib.hid hb36))
        have hst := hZ6.out.store 0 [.slice la ln lc, .slice ua ul uc, .int .i64 0] (by simp)
        have hRLV := Lib.hid (((hR4.lies.below (below_of_drew hb5)).below hb6).store' hZ6.out (by simp) [.slice la ln lc, .slice ua ul uc, .int .i64 0])
        have hRWV := Lib.hid (hRu.out.store' hZ6.out (by simp) [.slice la ln lc, .slice ua ul uc, .int .i64 0])
        have hkv : Kept (fun q => q = B0 + 1 + 1) w6 (w6.setCells (B0 + 1 + 1) 0 [.slice la ln lc, .slice ua ul uc, .int .i64 0]) := (Kept.refl (fun q => q = B0 + 1 + 1) w6).setCells (c := B0 + 1 + 1) (.inl rfl) _ _
        have hb9 := hbW.out.trans (hb36.out.mono hbW.out.size)
        have hbV : Hid (Below w.heap.size w (w6.setCells (B0 + 1 + 1) 0 [.slice la ln lc, .slice ua ul uc, .int .i64 0])) := Lib.hid (hb9.trans (hkv.below hb9.size (fun q hq => by have := hB0.out; omega)))
        have p0 := hst.cell 0
        have p1 := hst.cell 1
        have p2 := hst.cell 2
        go_wp2_with fail
        exact bodyPost_ret (v := .agg #[.slice la ln lc, .slice ua ul uc, .int .i64 0]) (by simp [results, Try.results17, go_sem, q0, q1, q2]) rfl ⟨_, _, rfl, hRLV.out, hRWV.out, hbV.out⟩
      · have hWs : Hid (actW ln ws ⟨0, (f : Int), n, c, kl⟩ = ws) := Lib.hid (by simp [actW, ct])
        obtain rfl : E = 1 := by rw [← hE.out]; simp [actE, ct, hfl]
        rw [hL.out, hWs.out]
        clear hL hWs hE
        have x0 : W.cell? ⟨B0, 0, none⟩ = some (.slice la ln lc) := hX.out.cell 0
        have x1 : W.cell? ⟨B0, 1, none⟩ = some (.slice wa m wc) := hX.out.cell 1
        have y0 : W.cell? ⟨B0 + 1, 0, none⟩ = some (.int .i64 0) := hY.out.cell 0
        have y1 : W.cell? ⟨B0 + 1, 1, none⟩ = some (.int .i64 (f : Int)) := hY.out.cell 1
        have y2 : W.cell? ⟨B0 + 1, 2, none⟩ = some (.int .i64 n) := hY.out.cell 2
        have y3 : W.cell? ⟨B0 + 1, 3, none⟩ = some (.int .u8 (c.toNat : Int)) := hY.out.cell 3
        have y4 : W.cell? ⟨B0 + 1, 4, none⟩ = some kv := hY.out.cell 4
        have hIs := Lib.hid (ris_any _ _ lie ws W (f : Int) hRD.out)
        go_enter Try.func17, Try.ntmps17
        go_wp2_with (with_reducible refine zLoad 3 _ rfl ?_)
        rw [← hW1.out, ← hW2.out, ← hW.out, hB0.out]
        clear hW hW1 hW2
        refine Lib.hid ?_
        go_wp2_with fail
        refine hIs.out.mono ?_
        rintro e w3 ⟨rfl, hb3⟩
        clear hIs
        rw [hln.out]
        have hR3 := hRD.out.below hb3
        have z0 : w3.cell? ⟨B0, 0, none⟩ = some (.slice la ln lc) := keepCell hb3 x0
        have z1 : w3.cell? ⟨B0, 1, none⟩ = some (.slice wa m wc) := keepCell hb3 x1
        have v0 : w3.cell? ⟨B0 + 1, 0, none⟩ = some (.int .i64 0) := keepCell hb3 y0
        have v1 : w3.cell? ⟨B0 + 1, 1, none⟩ = some (.int .i64 (f : Int)) := keepCell hb3 y1
        have v2 : w3.cell? ⟨B0 + 1, 2, none⟩ = some (.int .i64 n) := keepCell hb3 y2
        have v3 : w3.cell? ⟨B0 + 1, 3, none⟩ = some (.int .u8 (c.toNat : Int)) := keepCell hb3 y3
        have v4 : w3.cell? ⟨B0 + 1, 4, none⟩ = some kv := keepCell hb3 y4
        clear x0 x1 y0 y1 y2 y3 y4 hX hY
        rw [decide_eq_true g.1, decide_eq_true g.2]
        have hTx := Lib.hid (text_any 0 (f : Int) n c kv w3)
        go_wp2_with fail
        refine hTx.out.mono ?_
        rintro e w4 ⟨T, rfl, hT, hb4⟩
        clear hTx
        have hb34 := hb3.trans (hb4.mono hb3.size)
        have hR4 := hR3.below hb4
        have j0 : w4.cell? ⟨B0, 0, none⟩ = some (.slice la ln lc) := keepCell hb4 z0
        have j1 : w4.cell? ⟨B0, 1, none⟩ = some (.slice wa m wc) := keepCell hb4 z1
        have i0 : w4.cell? ⟨B0 + 1, 0, none⟩ = some (.int .i64 0) := keepCell hb4 v0
        have i1 : w4.cell? ⟨B0 + 1, 1, none⟩ = some (.int .i64 (f : Int)) := keepCell hb4 v1
        have i2 : w4.cell? ⟨B0 + 1, 2, none⟩ = some (.int .i64 n) := keepCell hb4 v2
        have i3 : w4.cell? ⟨B0 + 1, 3, none⟩ = some (.int .u8 (c.toNat : Int)) := keepCell hb4 v3
        have i4 : w4.cell? ⟨B0 + 1, 4, none⟩ = some (kv) := keepCell hb4 v4
        clear z0 z1 v0 v1 v2 v3 v4 hR3 g
        have hTs : ((T.size : Int) == 64) = false := by rw [beq_eq_false_iff_ne, hT.1]; have := cut_le n; omega
        have hTs2 : (T.size == 64) = false := by rw [beq_eq_false_iff_ne, hT.1]; have := cut_le n; omega
        clear ct
        have hZ9 : Whole w4 (B0 + 1 + 1) 38 [.slice none 0 0, .slice none 0 0, .int .i64 0] := hZ.out.below hb34 hZ.out.lt
        have hth := Lib.hid (hZ9.there 0 3 (by simp))
        obtain ⟨V, hV⟩ : ∃ V, Hid (V = w4.setCells (B0 + 1 + 1) 0 [.slice la ln lc, .slice wa m wc, .int .i64 1]) := ⟨_, Lib.hid rfl⟩
        have hZ10 : Whole V (B0 + 1 + 1) 38 [.slice la ln lc, .slice wa m wc, .int .i64 1] := by rw [hV.out]; exact hZ9.store 0 [.slice la ln lc, .slice wa m wc, .int .i64 1] (by simp)
        have hRLV := Lib.hid (((hR4.lies) : RL w4 (.slice la ln lc) _).store' hZ9 (by simp) [.slice la ln lc, .slice wa m wc, .int .i64 1])
        have hRWV := Lib.hid (((hR4.waits) : RW w4 (.slice wa m wc) _).store' hZ9 (by simp) [.slice la ln lc, .slice wa m wc, .int .i64 1])
        rw [← hV.out] at hRLV hRWV
        have hkv : Kept (fun q => q = B0 + 1 + 1) w4 V := by rw [hV.out]; exact (Kept.refl (fun q => q = B0 + 1 + 1) w4).setCells (c := B0 + 1 + 1) (.inl rfl) _ _
        have hb9 := hbW.out.trans ((hb34 : Below W.heap.size W w4).mono hbW.out.size)
        have hbV : Hid (Below w.heap.size w V) := Lib.hid (hb9.trans (hkv.below hb9.size (fun q hq => by have := hB0.out; omega)))
        have p0 : V.cell? ⟨B0 + 1 + 1, 0, none⟩ = some (.slice la ln lc) := hZ10.cell 0
        have p1 : V.cell? ⟨B0 + 1 + 1, 1, none⟩ = some (.slice wa m wc) := hZ10.cell 1
        have p2 : V.cell? ⟨B0 + 1 + 1, 2, none⟩ = some (.int .i64 1) := hZ10.cell 2
        clear hZ9 hZ10 hkv hb9
        go_wp2_with (with_reducible refine zStore 38 _ _ rfl ?_)
        refine Lib.hid ?_
        refine wpList_store_mid rfl 38 _ _ rfl (B0 + 1 + 1) 0 #[.slice la ln lc, .slice wa m wc, .int .i64 1] rfl rfl hth.out sizeStep (by simp [Value.oneCell']) ?_
        rw [show (#[.slice la ln lc, .slice wa m wc, .int .i64 1] : Array Value).toList = [.slice la ln lc, .slice wa m wc, .int .i64 1] from rfl, ← hV.out]
        clear hV hth
        go_wp2_with fail
        exact bodyPost_ret (v := .agg #[.slice la ln lc, .slice wa m wc, .int .i64 1]) (by simp [results, Try.results17, go_sem, p0, p1, p2]) rfl ⟨_, _, rfl, hRLV.out, hRWV.out, hbV.out⟩
    · have hL : Hid (actL lie ws ⟨0, at_, n, c, kl⟩ = lie) := Lib.hid (by simp [actL])
      have hWs : Hid (actW ln ws ⟨0, at_, n, c, kl⟩ = ws) := Lib.hid (by unfold actW; rw [if_neg (fun h => g ⟨h.2.1, h.2.2.1⟩)]; simp)
      obtain rfl : E = 20 := by rw [← hE.out]; simp only [actE, if_true]; rw [if_neg g]
      rw [hL.out, hWs.out]
      clear hL hWs hE
      have x0 : W.cell? ⟨B0, 0, none⟩ = some (.slice la ln lc) := hX.out.cell 0
      have x1 : W.cell? ⟨B0, 1, none⟩ = some (.slice wa m wc) := hX.out.cell 1
      have y0 : W.cell? ⟨B0 + 1, 0, none⟩ = some (.int .i64 0) := hY.out.cell 0
      have y1 : W.cell? ⟨B0 + 1, 1, none⟩ = some (.int .i64 at_) := hY.out.cell 1
      have y2 : W.cell? ⟨B0 + 1, 2, none⟩ = some (.int .i64 n) := hY.out.cell 2
      have y3 : W.cell? ⟨B0 + 1, 3, none⟩ = some (.int .u8 (c.toNat : Int)) := hY.out.cell 3
      have y4 : W.cell? ⟨B0 + 1, 4, none⟩ = some kv := hY.out.cell 4
      have hIs := Lib.hid (ris_any _ _ lie ws W at_ hRD.out)
      go_enter Try.func17, Try.ntmps17
      go_wp2_with (with_reducible refine zLoad 3 _ rfl ?_)
      rw [← hW1.out, ← hW2.out, ← hW.out, hB0.out]
      clear hW hW1 hW2
      refine Lib.hid ?_
      go_wp2_with fail
      refine hIs.out.mono ?_
      rintro e w3 ⟨rfl, hb3⟩
      clear hIs
      rw [hln.out]
      have hR3 := hRD.out.below hb3
      have z0 : w3.cell? ⟨B0, 0, none⟩ = some (.slice la ln lc) := keepCell hb3 x0
      have z1 : w3.cell? ⟨B0, 1, none⟩ = some (.slice wa m wc) := keepCell hb3 x1
      have v0 : w3.cell? ⟨B0 + 1, 0, none⟩ = some (.int .i64 0) := keepCell hb3 y0
      have v1 : w3.cell? ⟨B0 + 1, 1, none⟩ = some (.int .i64 at_) := keepCell hb3 y1
      have v2 : w3.cell? ⟨B0 + 1, 2, none⟩ = some (.int .i64 n) := keepCell hb3 y2
      have v3 : w3.cell? ⟨B0 + 1, 3, none⟩ = some (.int .u8 (c.toNat : Int)) := keepCell hb3 y3
      have v4 : w3.cell? ⟨B0 + 1, 4, none⟩ = some kv := keepCell hb3 y4
      clear x0 x1 y0 y1 y2 y3 y4 hX hY
      have hg : (decide (0 ≤ at_) && decide (at_ < (ln : Int))) = false := by
        by_cases g1 : 0 ≤ at_
        · rw [decide_eq_false (fun g2 => g ⟨g1, g2⟩), Bool.and_false]
        · rw [decide_eq_false g1, Bool.false_and]
      rw [hg]
      clear g hg
      have hZ9 : Whole w3 (B0 + 1 + 1) 38 [.slice none 0 0, .slice none 0 0, .int .i64 0] := hZ.out.below hb3 hZ.out.lt
      have hth := Lib.hid (hZ9.there 0 3 (by simp))
      obtain ⟨V, hV⟩ : ∃ V, Hid (V = w3.setCells (B0 + 1 + 1) 0 [.slice la ln lc, .slice wa m wc, .int .i64 20]) := ⟨_, Lib.hid rfl⟩
      have hZ10 : Whole V (B0 + 1 + 1) 38 [.slice la ln lc, .slice wa m wc, .int .i64 20] := by rw [hV.out]; exact hZ9.store 0 [.slice la ln lc, .slice wa m wc, .int .i64 20] (by simp)
      have hRLV := Lib.hid (((hR3.lies) : RL w3 (.slice la ln lc) _).store' hZ9 (by simp) [.slice la ln lc, .slice wa m wc, .int .i64 20])
      have hRWV := Lib.hid (((hR3.waits) : RW w3 (.slice wa m wc) _).store' hZ9 (by simp) [.slice la ln lc, .slice wa m wc, .int .i64 20])
      rw [← hV.out] at hRLV hRWV
      have hkv : Kept (fun q => q = B0 + 1 + 1) w3 V := by rw [hV.out]; exact (Kept.refl (fun q => q = B0 + 1 + 1) w3).setCells (c := B0 + 1 + 1) (.inl rfl) _ _
      have hb9 := hbW.out.trans ((hb3 : Below W.heap.size W w3).mono hbW.out.size)
      have hbV : Hid (Below w.heap.size w V) := Lib.hid (hb9.trans (hkv.below hb9.size (fun q hq => by have := hB0.out; omega)))
      have p0 : V.cell? ⟨B0 + 1 + 1, 0, none⟩ = some (.slice la ln lc) := hZ10.cell 0
      have p1 : V.cell? ⟨B0 + 1 + 1, 1, none⟩ = some (.slice wa m wc) := hZ10.cell 1
      have p2 : V.cell? ⟨B0 + 1 + 1, 2, none⟩ = some (.int .i64 20) := hZ10.cell 2
      clear hZ9 hZ10 hkv hb9
      go_wp2_with (with_reducible refine zStore 38 _ _ rfl ?_)
      refine Lib.hid ?_
      refine wpList_store_mid rfl 38 _ _ rfl (B0 + 1 + 1) 0 #[.slice la ln lc, .slice wa m wc, .int .i64 20] rfl rfl hth.out sizeStep (by simp [Value.oneCell']) ?_
      rw [show (#[.slice la ln lc, .slice wa m wc, .int .i64 20] : Array Value).toList = [.slice la ln lc, .slice wa m wc, .int .i64 20] from rfl, ← hV.out]
      clear hV hth
      go_wp2_with fail
      exact bodyPost_ret (v := .agg #[.slice la ln lc, .slice wa m wc, .int .i64 20]) (by simp [results, Try.results17, go_sem, p0, p1, p2]) rfl ⟨_, _, rfl, hRLV.out, hRWV.out, hbV.out⟩
  have d0 : (k == 0) = false := by rw [beq_eq_false_iff_ne]; exact k0
  by_cases k1 : k = 1
  · subst k1
    by_cases sp : spanOk lie.length at_ n
    · obtain ⟨f, rfl⟩ := Int.eq_ofNat_of_zero_le sp.1
      obtain ⟨q, rfl⟩ := Int.eq_ofNat_of_zero_le sp.2.1
      have hfq : f + q ≤ ln := by have := sp.2.2; rw [hln.out] at this; omega
      have hL : Hid (actL lie ws ⟨1, f, q, c, kl⟩ = laid lie (ws.filter (spanB f q))) := Lib.hid (by simp [actL, sp])
      have hWs : Hid (actW ln ws ⟨1, f, q, c, kl⟩ = ws.filter (keepB f q)) := Lib.hid (by rw [hln.out] at sp; simp [actW, sp])
      obtain rfl : E = 0 := by rw [hln.out] at sp; rw [← hE.out]; simp [actE, sp]
      rw [hL.out, hWs.out]
      clear hL hWs hE
      have x0 : W.cell? ⟨B0, 0, none⟩ = some (.slice la ln lc) := hX.out.cell 0
      have x1 : W.cell? ⟨B0, 1, none⟩ = some (.slice wa m wc) := hX.out.cell 1
      have y0 : W.cell? ⟨B0 + 1, 0, none⟩ = some (.int .i64 1) := hY.out.cell 0
      have y1 : W.cell? ⟨B0 + 1, 1, none⟩ = some (.int .i64 (f : Int)) := hY.out.cell 1
      have y2 : W.cell? ⟨B0 + 1, 2, none⟩ = some (.int .i64 (q : Int)) := hY.out.cell 2
      have y4 : W.cell? ⟨B0 + 1, 4, none⟩ = some kv := hY.out.cell 4
      have hSp := Lib.hid (rspan_any _ _ lie ws W (f : Int) (q : Int) hRD.out (by omega))
      go_enter Try.func17, Try.ntmps17
      go_wp2_with (with_reducible refine zLoad 3 _ rfl ?_)
      rw [← hW1.out, ← hW2.out, ← hW.out, hB0.out]
      clear hW hW1 hW2
      refine Lib.hid ?_
      go_wp2_with fail
      refine hSp.out.mono ?_
      rintro e w3 ⟨rfl, hb3⟩
      clear hSp
      have hR3 := hRD.out.below hb3
      have z0 : w3.cell? ⟨B0, 0, none⟩ = some (.slice la ln lc) := keepCell hb3 x0
      have z1 : w3.cell? ⟨B0, 1, none⟩ = some (.slice wa m wc) := keepCell hb3 x1
      have v0 : w3.cell? ⟨B0 + 1, 0, none⟩ = some (.int .i64 1) := keepCell hb3 y0
      have v1 : w3.cell? ⟨B0 + 1, 1, none⟩ = some (.int .i64 (f : Int)) := keepCell hb3 y1
      have v2 : w3.cell? ⟨B0 + 1, 2, none⟩ = some (.int .i64 (q : Int)) := keepCell hb3 y2
      have v4 : w3.cell? ⟨B0 + 1, 4, none⟩ = some kv := keepCell hb3 y4
      clear x0 x1 y0 y1 y2 y4 hX hY
      rw [decide_eq_true sp]
      clear sp
      have hC := Lib.hid (rflush_any _ _ lie ws w3 f q hR3 (by rw [hln.out]; omega) (by omega) hin)
      go_wp2_with fail
      refine hC.out.mono ?_
      rintro e w4 ⟨v, u, rfl, hRn, hRu, hb4⟩
      clear hC z0 z1 v0 v1 v2 v4
      have hb34 := hb3.trans (hb4.mono hb3.size)
      obtain ⟨na, nc, hnv, _⟩ := hRn.form
      obtain ⟨nl, hnl⟩ : ∃ n, Hid ((laid lie (ws.filter (spanB f q))).length = n) := ⟨_, Lib.hid rfl⟩
      rw [hnl.out] at hnv
      subst hnv
      obtain ⟨ua, uc, huv, _⟩ := hRu.form
      obtain ⟨ul, hul⟩ : ∃ n, Hid ((ws.filter (keepB f q)).length = n) := ⟨_, Lib.hid rfl⟩
      rw [hul.out] at huv
      subst huv
      clear hnl hul hb4 hb3 hR3
      have hZ9 : Whole w4 (B0 + 1 + 1) 38 [.slice none 0 0, .slice none 0 0, .int .i64 0] := hZ.out.below hb34 hZ.out.lt
      have hth := Lib.hid (hZ9.there 0 3 (by simp))
      obtain ⟨V, hV⟩ : ∃ V, Hid (V = w4.setCells (B0 + 1 + 1) 0 [.slice na nl nc, .slice ua ul uc, .int .i64 0]) := ⟨_, Lib.hid rfl⟩
      have hZ10 : Whole V (B0 + 1 + 1) 38 [.slice na nl nc, .slice ua ul uc, .int .i64 0] := by rw [hV.out]; exact hZ9.store 0 [.slice na nl nc, .slice ua ul uc, .int .i64 0] (by simp)
      have hRLV := Lib.hid (((hRn) : RL w4 (.slice na nl nc) _).store' hZ9 (by simp) [.slice na nl nc, .slice ua ul uc, .int .i64 0])
      have hRWV := Lib.hid (((hRu) : RW w4 (.slice ua ul uc) _).store' hZ9 (by simp) [.slice na nl nc, .slice ua ul uc, .int .i64 0])
      rw [← hV.out] at hRLV hRWV
      have hkv : Kept (fun q => q = B0 + 1 + 1) w4 V := by rw [hV.out]; exact (Kept.refl (fun q => q = B0 + 1 + 1) w4).setCells (c := B0 + 1 + 1) (.inl rfl) _ _
      have hb9 := hbW.out.trans ((hb34 : Below W.heap.size W w4).mono hbW.out.size)
      have hbV : Hid (Below w.heap.size w V) := Lib.hid (hb9.trans (hkv.below hb9.size (fun q hq => by have := hB0.out; omega)))
      have p0 : V.cell? ⟨B0 + 1 + 1, 0, none⟩ = some (.slice na nl nc) := hZ10.cell 0
      have p1 : V.cell? ⟨B0 + 1 + 1, 1, none⟩ = some (.slice ua ul uc) := hZ10.cell 1
      have p2 : V.cell? ⟨B0 + 1 + 1, 2, none⟩ = some (.int .i64 0) := hZ10.cell 2
      clear hZ9 hZ10 hkv hb9
      go_wp2_with (with_reducible refine zStore 38 _ _ rfl ?_)
      refine Lib.hid ?_
      refine wpList_store_mid rfl 38 _ _ rfl (B0 + 1 + 1) 0 #[.slice na nl nc, .slice ua ul uc, .int .i64 0] rfl rfl hth.out sizeStep (by simp [Value.oneCell']) ?_
      rw [show (#[.slice na nl nc, .slice ua ul uc, .int .i64 0] : Array Value).toList = [.slice na nl nc, .slice ua ul uc, .int .i64 0] from rfl, ← hV.out]
      clear hV hth
      go_wp2_with fail
      exact bodyPost_ret (v := .agg #[.slice na nl nc, .slice ua ul uc, .int .i64 0]) (by simp [results, Try.results17, go_sem, p0, p1, p2]) rfl ⟨_, _, rfl, hRLV.out, hRWV.out, hbV.out⟩
    · have hL : Hid (actL lie ws ⟨1, at_, n, c, kl⟩ = lie) := Lib.hid (by simp [actL, sp])
      have hWs : Hid (actW ln ws ⟨1, at_, n, c, kl⟩ = ws) := Lib.hid (by rw [hln.out] at sp; simp [actW, sp])
      obtain rfl : E = 20 := by rw [hln.out] at sp; rw [← hE.out]; simp [actE, sp]
      rw [hL.out, hWs.out]
      clear hL hWs hE
      have x0 : W.cell? ⟨B0, 0, none⟩ = some (.slice la ln lc) := hX.out.cell 0
      have x1 : W.cell? ⟨B0, 1, none⟩ = some (.slice wa m wc) := hX.out.cell 1
      have y0 : W.cell? ⟨B0 + 1, 0, none⟩ = some (.int .i64 1) := hY.out.cell 0
      have y1 : W.cell? ⟨B0 + 1, 1, none⟩ = some (.int .i64 at_) := hY.out.cell 1
      have y2 : W.cell? ⟨B0 + 1, 2, none⟩ = some (.int .i64 n) := hY.out.cell 2
      have y4 : W.cell? ⟨B0 + 1, 4, none⟩ = some kv := hY.out.cell 4
      have hSp := Lib.hid (rspan_any _ _ lie ws W at_ n hRD.out (by omega))
      go_enter Try.func17, Try.ntmps17
      go_wp2_with (with_reducible refine zLoad 3 _ rfl ?_)
      rw [← hW1.out, ← hW2.out, ← hW.out, hB0.out]
      clear hW hW1 hW2
      refine Lib.hid ?_
      go_wp2_with fail
      refine hSp.out.mono ?_
      rintro e w3 ⟨rfl, hb3⟩
      clear hSp
      have hR3 := hRD.out.below hb3
      have z0 : w3.cell? ⟨B0, 0, none⟩ = some (.slice la ln lc) := keepCell hb3 x0
      have z1 : w3.cell? ⟨B0, 1, none⟩ = some (.slice wa m wc) := keepCell hb3 x1
      have v0 : w3.cell? ⟨B0 + 1, 0, none⟩ = some (.int .i64 1) := keepCell hb3 y0
      have v1 : w3.cell? ⟨B0 + 1, 1, none⟩ = some (.int .i64 at_) := keepCell hb3 y1
      have v2 : w3.cell? ⟨B0 + 1, 2, none⟩ = some (.int .i64 n) := keepCell hb3 y2
      have v4 : w3.cell? ⟨B0 + 1, 4, none⟩ = some kv := keepCell hb3 y4
      clear x0 x1 y0 y1 y2 y4 hX hY
      rw [decide_eq_false sp]
      clear sp
      have hZ9 : Whole w3 (B0 + 1 + 1) 38 [.slice none 0 0, .slice none 0 0, .int .i64 0] := hZ.out.below hb3 hZ.out.lt
      have hth := Lib.hid (hZ9.there 0 3 (by simp))
      obtain ⟨V, hV⟩ : ∃ V, Hid (V = w3.setCells (B0 + 1 + 1) 0 [.slice la ln lc, .slice wa m wc, .int .i64 20]) := ⟨_, Lib.hid rfl⟩
      have hZ10 : Whole V (B0 + 1 + 1) 38 [.slice la ln lc, .slice wa m wc, .int .i64 20] := by rw [hV.out]; exact hZ9.store 0 [.slice la ln lc, .slice wa m wc, .int .i64 20] (by simp)
      have hRLV := Lib.hid (((hR3.lies) : RL w3 (.slice la ln lc) _).store' hZ9 (by simp) [.slice la ln lc, .slice wa m wc, .int .i64 20])
      have hRWV := Lib.hid (((hR3.waits) : RW w3 (.slice wa m wc) _).store' hZ9 (by simp) [.slice la ln lc, .slice wa m wc, .int .i64 20])
      rw [← hV.out] at hRLV hRWV
      have hkv : Kept (fun q => q = B0 + 1 + 1) w3 V := by rw [hV.out]; exact (Kept.refl (fun q => q = B0 + 1 + 1) w3).setCells (c := B0 + 1 + 1) (.inl rfl) _ _
      have hb9 := hbW.out.trans ((hb3 : Below W.heap.size W w3).mono hbW.out.size)
      have hbV : Hid (Below w.heap.size w V) := Lib.hid (hb9.trans (hkv.below hb9.size (fun q hq => by have := hB0.out; omega)))
      have p0 : V.cell? ⟨B0 + 1 + 1, 0, none⟩ = some (.slice la ln lc) := hZ10.cell 0
      have p1 : V.cell? ⟨B0 + 1 + 1, 1, none⟩ = some (.slice wa m wc) := hZ10.cell 1
      have p2 : V.cell? ⟨B0 + 1 + 1, 2, none⟩ = some (.int .i64 20) := hZ10.cell 2
      clear hZ9 hZ10 hkv hb9
      go_wp2_with (with_reducible refine zStore 38 _ _ rfl ?_)
      refine Lib.hid ?_
      refine wpList_store_mid rfl 38 _ _ rfl (B0 + 1 + 1) 0 #[.slice la ln lc, .slice wa m wc, .int .i64 20] rfl rfl hth.out sizeStep (by simp [Value.oneCell']) ?_
      rw [show (#[.slice la ln lc, .slice wa m wc, .int .i64 20] : Array Value).toList = [.slice la ln lc, .slice wa m wc, .int .i64 20] from rfl, ← hV.out]
      clear hV hth
      go_wp2_with fail
      exact bodyPost_ret (v := .agg #[.slice la ln lc, .slice wa m wc, .int .i64 20]) (by simp [results, Try.results17, go_sem, p0, p1, p2]) rfl ⟨_, _, rfl, hRLV.out, hRWV.out, hbV.out⟩
  have d1 : (k == 1) = false := by rw [beq_eq_false_iff_ne]; exact k1
  by_cases k2 : k = 2
  · subst k2
    by_cases sp : spanOk lie.length at_ n
    · obtain ⟨f, rfl⟩ := Int.eq_ofNat_of_zero_le sp.1
      obtain ⟨q, rfl⟩ := Int.eq_ofNat_of_zero_le sp.2.1
      have hfq : f + q ≤ ln := by have := sp.2.2; rw [hln.out] at this; omega
      have hL : Hid (actL lie ws ⟨2, f, q, c, kl⟩ = kepts (ws.filter (spanB f q)) lie kl) := Lib.hid (by simp [actL, sp])
      have hWs : Hid (actW ln ws ⟨2, f, q, c, kl⟩ = ws.filter (keepB f q)) := Lib.hid (by rw [hln.out] at sp; simp [actW, sp])
      obtain rfl : E = 0 := by rw [hln.out] at sp; rw [← hE.out]; simp [actE, sp]
      rw [hL.out, hWs.out]
      clear hL hWs hE
      have x0 : W.cell? ⟨B0, 0, none⟩ = some (.slice la ln lc) := hX.out.cell 0
      have x1 : W.cell? ⟨B0, 1, none⟩ = some (.slice wa m wc) := hX.out.cell 1
      have y0 : W.cell? ⟨B0 + 1, 0, none⟩ = some (.int .i64 2) := hY.out.cell 0
      have y1 : W.cell? ⟨B0 + 1, 1, none⟩ = some (.int .i64 (f : Int)) := hY.out.cell 1
      have y2 : W.cell? ⟨B0 + 1, 2, none⟩ = some (.int .i64 (q : Int)) := hY.out.cell 2
      have y4 : W.cell? ⟨B0 + 1, 4, none⟩ = some kv := hY.out.cell 4
      have hSp := Lib.hid (rspan_any _ _ lie ws W (f : Int) (q : Int) hRD.out (by omega))
      go_enter Try.func17, Try.ntmps17
      go_wp2_with (with_reducible refine zLoad 3 _ rfl ?_)
      rw [← hW1.out, ← hW2.out, ← hW.out, hB0.out]
      clear hW hW1 hW2
      refine Lib.hid ?_
      go_wp2_with fail
      refine hSp.out.mono ?_
      rintro e w3 ⟨rfl, hb3⟩
      clear hSp
      have hR3 := hRD.out.below hb3
      have z0 : w3.cell? ⟨B0, 0, none⟩ = some (.slice la ln lc) := keepCell hb3 x0
      have z1 : w3.cell? ⟨B0, 1, none⟩ = some (.slice wa m wc) := keepCell hb3 x1
      have v0 : w3.cell? ⟨B0 + 1, 0, none⟩ = some (.int .i64 2) := keepCell hb3 y0
      have v1 : w3.cell? ⟨B0 + 1, 1, none⟩ = some (.int .i64 (f : Int)) := keepCell hb3 y1
      have v2 : w3.cell? ⟨B0 + 1, 2, none⟩ = some (.int .i64 (q : Int)) := keepCell hb3 y2
      have v4 : w3.cell? ⟨B0 + 1, 4, none⟩ = some kv := keepCell hb3 y4
      clear x0 x1 y0 y1 y2 y4 hX hY
      rw [decide_eq_true sp]
      clear sp
      have hC := Lib.hid (rcrash_any _ _ lie ws w3 f q kv kl hR3 (by rw [hln.out]; omega) (by omega) hin h64l.out h64w.out (hkW.out.below hb3) hks)
      go_wp2_with fail
      refine hC.out.mono ?_
      rintro e w4 ⟨v, u, rfl, hRn, hRu, hb4⟩
      clear hC z0 z1 v0 v1 v2 v4
      have hb34 := hb3.trans (hb4.mono hb3.size)
      obtain ⟨na, nc, hnv, _⟩ := hRn.form
      obtain ⟨nl, hnl⟩ : ∃ n, Hid ((kepts (ws.filter (spanB f q)) lie kl).length = n) := ⟨_, Lib.hid rfl⟩
      rw [hnl.out] at hnv
      subst hnv
      obtain ⟨ua, uc, huv, _⟩ := hRu.form
      obtain ⟨ul, hul⟩ : ∃ n, Hid ((ws.filter (keepB f q)).length = n) := ⟨_, Lib.hid rfl⟩
      rw [hul.out] at huv
      subst huv
      clear hnl hul hb4 hb3 hR3
      have hZ9 : Whole w4 (B0 + 1 + 1) 38 [.slice none 0 0, .slice none 0 0, .int .i64 0] := hZ.out.below hb34 hZ.out.lt
      have hth := Lib.hid (hZ9.there 0 3 (by simp))
      obtain ⟨V, hV⟩ : ∃ V, Hid (V = w4.setCells (B0 + 1 + 1) 0 [.slice na nl nc, .slice ua ul uc, .int .i64 0]) := ⟨_, Lib.hid rfl⟩
      have hZ10 : Whole V (B0 + 1 + 1) 38 [.slice na nl nc, .slice ua ul uc, .int .i64 0] := by rw [hV.out]; exact hZ9.store 0 [.slice na nl nc, .slice ua ul uc, .int .i64 0] (by simp)
      have hRLV := Lib.hid (((hRn) : RL w4 (.slice na nl nc) _).store' hZ9 (by simp) [.slice na nl nc, .slice ua ul uc, .int .i64 0])
      have hRWV := Lib.hid (((hRu) : RW w4 (.slice ua ul uc) _).store' hZ9 (by simp) [.slice na nl nc, .slice ua ul uc, .int .i64 0])
      rw [← hV.out] at hRLV hRWV
      have hkv : Kept (fun q => q = B0 + 1 + 1) w4 V := by rw [hV.out]; exact (Kept.refl (fun q => q = B0 + 1 + 1) w4).setCells (c := B0 + 1 + 1) (.inl rfl) _ _
      have hb9 := hbW.out.trans ((hb34 : Below W.heap.size W w4).mono hbW.out.size)
      have hbV : Hid (Below w.heap.size w V) := Lib.hid (hb9.trans (hkv.below hb9.size (fun q hq => by have := hB0.out; omega)))
      have p0 : V.cell? ⟨B0 + 1 + 1, 0, none⟩ = some (.slice na nl nc) := hZ10.cell 0
      have p1 : V.cell? ⟨B0 + 1 + 1, 1, none⟩ = some (.slice ua ul uc) := hZ10.cell 1
      have p2 : V.cell? ⟨B0 + 1 + 1, 2, none⟩ = some (.int .i64 0) := hZ10.cell 2
      clear hZ9 hZ10 hkv hb9
      go_wp2_with (with_reducible refine zStore 38 _ _ rfl ?_)
      refine Lib.hid ?_
      refine wpList_store_mid rfl 38 _ _ rfl (B0 + 1 + 1) 0 #[.slice na nl nc, .slice ua ul uc, .int .i64 0] rfl rfl hth.out sizeStep (by simp [Value.oneCell']) ?_
      rw [show (#[.slice na nl nc, .slice ua ul uc, .int .i64 0] : Array Value).toList = [.slice na nl nc, .slice ua ul uc, .int .i64 0] from rfl, ← hV.out]
      clear hV hth
      go_wp2_with fail
      exact bodyPost_ret (v := .agg #[.slice na nl nc, .slice ua ul uc, .int .i64 0]) (by simp [results, Try.results17, go_sem, p0, p1, p2]) rfl ⟨_, _, rfl, hRLV.out, hRWV.out, hbV.out⟩
    · have hL : Hid (actL lie ws ⟨2, at_, n, c, kl⟩ = lie) := Lib.hid (by simp [actL, sp])
      have hWs : Hid (actW ln ws ⟨2, at_, n, c, kl⟩ = ws) := Lib.hid (by rw [hln.out] at sp; simp [actW, sp])
      obtain rfl : E = 20 := by rw [hln.out] at sp; rw [← hE.out]; simp [actE, sp]
      rw [hL.out, hWs.out]
      clear hL hWs hE
      have x0 : W.cell? ⟨B0, 0, none⟩ = some (.slice la ln lc) := hX.out.cell 0
      have x1 : W.cell? ⟨B0, 1, none⟩ = some (.slice wa m wc) := hX.out.cell 1
      have y0 : W.cell? ⟨B0 + 1, 0, none⟩ = some (.int .i64 2) := hY.out.cell 0
      have y1 : W.cell? ⟨B0 + 1, 1, none⟩ = some (.int .i64 at_) := hY.out.cell 1
      have y2 : W.cell? ⟨B0 + 1, 2, none⟩ = some (.int .i64 n) := hY.out.cell 2
      have y4 : W.cell? ⟨B0 + 1, 4, none⟩ = some kv := hY.out.cell 4
      have hSp := Lib.hid (rspan_any _ _ lie ws W at_ n hRD.out (by omega))
      go_enter Try.func17, Try.ntmps17
      go_wp2_with (with_reducible refine zLoad 3 _ rfl ?_)
      rw [← hW1.out, ← hW2.out, ← hW.out, hB0.out]
      clear hW hW1 hW2
      refine Lib.hid ?_
      go_wp2_with fail
      refine hSp.out.mono ?_
      rintro e w3 ⟨rfl, hb3⟩
      clear hSp
      have hR3 := hRD.out.below hb3
      have z0 : w3.cell? ⟨B0, 0, none⟩ = some (.slice la ln lc) := keepCell hb3 x0
      have z1 : w3.cell? ⟨B0, 1, none⟩ = some (.slice wa m wc) := keepCell hb3 x1
      have v0 : w3.cell? ⟨B0 + 1, 0, none⟩ = some (.int .i64 2) := keepCell hb3 y0
      have v1 : w3.cell? ⟨B0 + 1, 1, none⟩ = some (.int .i64 at_) := keepCell hb3 y1
      have v2 : w3.cell? ⟨B0 + 1, 2, none⟩ = some (.int .i64 n) := keepCell hb3 y2
      have v4 : w3.cell? ⟨B0 + 1, 4, none⟩ = some kv := keepCell hb3 y4
      clear x0 x1 y0 y1 y2 y4 hX hY
      rw [decide_eq_false sp]
      clear sp
      have hZ9 : Whole w3 (B0 + 1 + 1) 38 [.slice none 0 0, .slice none 0 0, .int .i64 0] := hZ.out.below hb3 hZ.out.lt
      have hth := Lib.hid (hZ9.there 0 3 (by simp))
      obtain ⟨V, hV⟩ : ∃ V, Hid (V = w3.setCells (B0 + 1 + 1) 0 [.slice la ln lc, .slice wa m wc, .int .i64 20]) := ⟨_, Lib.hid rfl⟩
      have hZ10 : Whole V (B0 + 1 + 1) 38 [.slice la ln lc, .slice wa m wc, .int .i64 20] := by rw [hV.out]; exact hZ9.store 0 [.slice la ln lc, .slice wa m wc, .int .i64 20] (by simp)
      have hRLV := Lib.hid (((hR3.lies) : RL w3 (.slice la ln lc) _).store' hZ9 (by simp) [.slice la ln lc, .slice wa m wc, .int .i64 20])
      have hRWV := Lib.hid (((hR3.waits) : RW w3 (.slice wa m wc) _).store' hZ9 (by simp) [.slice la ln lc, .slice wa m wc, .int .i64 20])
      rw [← hV.out] at hRLV hRWV
      have hkv : Kept (fun q => q = B0 + 1 + 1) w3 V := by rw [hV.out]; exact (Kept.refl (fun q => q = B0 + 1 + 1) w3).setCells (c := B0 + 1 + 1) (.inl rfl) _ _
      have hb9 := hbW.out.trans ((hb3 : Below W.heap.size W w3).mono hbW.out.size)
      have hbV : Hid (Below w.heap.size w V) := Lib.hid (hb9.trans (hkv.below hb9.size (fun q hq => by have := hB0.out; omega)))
      have p0 : V.cell? ⟨B0 + 1 + 1, 0, none⟩ = some (.slice la ln lc) := hZ10.cell 0
      have p1 : V.cell? ⟨B0 + 1 + 1, 1, none⟩ = some (.slice wa m wc) := hZ10.cell 1
      have p2 : V.cell? ⟨B0 + 1 + 1, 2, none⟩ = some (.int .i64 20) := hZ10.cell 2
      clear hZ9 hZ10 hkv hb9
      go_wp2_with (with_reducible refine zStore 38 _ _ rfl ?_)
      refine Lib.hid ?_
      refine wpList_store_mid rfl 38 _ _ rfl (B0 + 1 + 1) 0 #[.slice la ln lc, .slice wa m wc, .int .i64 20] rfl rfl hth.out sizeStep (by simp [Value.oneCell']) ?_
      rw [show (#[.slice la ln lc, .slice wa m wc, .int .i64 20] : Array Value).toList = [.slice la ln lc, .slice wa m wc, .int .i64 20] from rfl, ← hV.out]
      clear hV hth
      go_wp2_with fail
      exact bodyPost_ret (v := .agg #[.slice la ln lc, .slice wa m wc, .int .i64 20]) (by simp [results, Try.results17, go_sem, p0, p1, p2]) rfl ⟨_, _, rfl, hRLV.out, hRWV.out, hbV.out⟩
  have d2 : (k == 2) = false := by rw [beq_eq_false_iff_ne]; exact k2
  have hL : Hid (actL lie ws ⟨k, at_, n, c, kl⟩ = lie) := Lib.hid (by simp [actL, k1, k2])
  have hWs : Hid (actW ln ws ⟨k, at_, n, c, kl⟩ = ws) := Lib.hid (by simp [actW, k0, k1, k2])
  have hE2 : Hid ((if 0 ≤ at_ ∧ at_ < ln then (0 : Int) else 20) = E) := Lib.hid (by rw [← hE.out]; simp [actE, k0, k1, k2])
  rw [hL.out, hWs.out]
  clear hE hL hWs k0 k1 k2
  have x0 : W.cell? ⟨B0, 0, none⟩ = some (.slice la ln lc) := hX.out.cell 0
  have x1 : W.cell? ⟨B0, 1, none⟩ = some (.slice wa m wc) := hX.out.cell 1
  have y0 : W.cell? ⟨B0 + 1, 0, none⟩ = some (.int .i64 k) := hY.out.cell 0
  have y1 : W.cell? ⟨B0 + 1, 1, none⟩ = some (.int .i64 at_) := hY.out.cell 1
  have hIs := Lib.hid (ris_any _ _ lie ws W at_ hRD.out)
  go_enter Try.func17, Try.ntmps17
  go_wp2_with (with_reducible refine zLoad 3 _ rfl ?_)
  rw [← hW1.out, ← hW2.out, ← hW.out, hB0.out]
  clear hW hW1 hW2
  refine Lib.hid ?_
  go_wp2_with fail
  refine hIs.out.mono ?_
  rintro e w3 ⟨rfl, hb3⟩
  clear hIs
  rw [hln.out]
  have hR3 := hRD.out.below hb3
  have z0 : w3.cell? ⟨B0, 0, none⟩ = some (.slice la ln lc) := keepCell hb3 x0
  have z1 : w3.cell? ⟨B0, 1, none⟩ = some (.slice wa m wc) := keepCell hb3 x1
  clear x0 x1 y0 y1 hX hY
  by_cases g : 0 ≤ at_ ∧ at_ < ln
  · obtain rfl : E = 0 := by rw [← hE2.out, if_pos g]
    rw [decide_eq_true g.1, decide_eq_true g.2]
    clear hE2 g
    have hZ9 : Whole w3 (B0 + 1 + 1) 38 [.slice none 0 0, .slice none 0 0, .int .i64 0] := hZ.out.below hb3 hZ.out.lt
    have hth := Lib.hid (hZ9.there 0 3 (by simp))
    obtain ⟨V, hV⟩ : ∃ V, Hid (V = w3.setCells (B0 + 1 + 1) 0 [.slice la ln lc, .slice wa m wc, .int .i64 0]) := ⟨_, Lib.hid rfl⟩
    have hZ10 : Whole V (B0 + 1 + 1) 38 [.slice la ln lc, .slice wa m wc, .int .i64 0] := by rw [hV.out]; exact hZ9.store 0 [.slice la ln lc, .slice wa m wc, .int .i64 0] (by simp)
    have hRLV := Lib.hid (((hR3.lies) : RL w3 (.slice la ln lc) _).store' hZ9 (by simp) [.slice la ln lc, .slice wa m wc, .int .i64 0])
    have hRWV := Lib.hid (((hR3.waits) : RW w3 (.slice wa m wc) _).store' hZ9 (by simp) [.slice la ln lc, .slice wa m wc, .int .i64 0])
    rw [← hV.out] at hRLV hRWV
    have hkv : Kept (fun q => q = B0 + 1 + 1) w3 V := by rw [hV.out]; exact (Kept.refl (fun q => q = B0 + 1 + 1) w3).setCells (c := B0 + 1 + 1) (.inl rfl) _ _
    have hb9 := hbW.out.trans ((hb3 : Below W.heap.size W w3).mono hbW.out.size)
    have hbV : Hid (Below w.heap.size w V) := Lib.hid (hb9.trans (hkv.below hb9.size (fun q hq => by have := hB0.out; omega)))
    have p0 : V.cell? ⟨B0 + 1 + 1, 0, none⟩ = some (.slice la ln lc) := hZ10.cell 0
    have p1 : V.cell? ⟨B0 + 1 + 1, 1, none⟩ = some (.slice wa m wc) := hZ10.cell 1
    have p2 : V.cell? ⟨B0 + 1 + 1, 2, none⟩ = some (.int .i64 0) := hZ10.cell 2
    clear hZ9 hZ10 hkv hb9
    go_wp2_with (with_reducible refine zStore 38 _ _ rfl ?_)
    refine Lib.hid ?_
    refine wpList_store_mid rfl 38 _ _ rfl (B0 + 1 + 1) 0 #[.slice la ln lc, .slice wa m wc, .int .i64 0] rfl rfl hth.out sizeStep (by simp [Value.oneCell']) ?_
    rw [show (#[.slice la ln lc, .slice wa m wc, .int .i64 0] : Array Value).toList = [.slice la ln lc, .slice wa m wc, .int .i64 0] from rfl, ← hV.out]
    clear hV hth
    go_wp2_with fail
    exact bodyPost_ret (v := .agg #[.slice la ln lc, .slice wa m wc, .int .i64 0]) (by simp [results, Try.results17, go_sem, p0, p1, p2]) rfl ⟨_, _, rfl, hRLV.out, hRWV.out, hbV.out⟩
  · obtain rfl : E = 20 := by rw [← hE2.out, if_neg g]
    have hg : (decide (0 ≤ at_) && decide (at_ < (ln : Int))) = false := by
      by_cases g1 : 0 ≤ at_
      · rw [decide_eq_false (fun g2 => g ⟨g1, g2⟩), Bool.and_false]
      · rw [decide_eq_false g1, Bool.false_and]
    rw [hg]
    clear hE2 g hg
    have hZ9 : Whole w3 (B0 + 1 + 1) 38 [.slice none 0 0, .slice none 0 0, .int .i64 0] := hZ.out.below hb3 hZ.out.lt
    have hth := Lib.hid (hZ9.there 0 3 (by simp))
    obtain ⟨V, hV⟩ : ∃ V, Hid (V = w3.setCells (B0 + 1 + 1) 0 [.slice la ln lc, .slice wa m wc, .int .i64 20]) := ⟨_, Lib.hid rfl⟩
    have hZ10 : Whole V (B0 + 1 + 1) 38 [.slice la ln lc, .slice wa m wc, .int .i64 20] := by rw [hV.out]; exact hZ9.store 0 [.slice la ln lc, .slice wa m wc, .int .i64 20] (by simp)
    have hRLV := Lib.hid (((hR3.lies) : RL w3 (.slice la ln lc) _).store' hZ9 (by simp) [.slice la ln lc, .slice wa m wc, .int .i64 20])
    have hRWV := Lib.hid (((hR3.waits) : RW w3 (.slice wa m wc) _).store' hZ9 (by simp) [.slice la ln lc, .slice wa m wc, .int .i64 20])
    rw [← hV.out] at hRLV hRWV
    have hkv : Kept (fun q => q = B0 + 1 + 1) w3 V := by rw [hV.out]; exact (Kept.refl (fun q => q = B0 + 1 + 1) w3).setCells (c := B0 + 1 + 1) (.inl rfl) _ _
    have hb9 := hbW.out.trans ((hb3 : Below W.heap.size W w3).mono hbW.out.size)
    have hbV : Hid (Below w.heap.size w V) := Lib.hid (hb9.trans (hkv.below hb9.size (fun q hq => by have := hB0.out; omega)))
    have p0 : V.cell? ⟨B0 + 1 + 1, 0, none⟩ = some (.slice la ln lc) := hZ10.cell 0
    have p1 : V.cell? ⟨B0 + 1 + 1, 1, none⟩ = some (.slice wa m wc) := hZ10.cell 1
    have p2 : V.cell? ⟨B0 + 1 + 1, 2, none⟩ = some (.int .i64 20) := hZ10.cell 2
    clear hZ9 hZ10 hkv hb9
    go_wp2_with (with_reducible refine zStore 38 _ _ rfl ?_)
    refine Lib.hid ?_
    refine wpList_store_mid rfl 38 _ _ rfl (B0 + 1 + 1) 0 #[.slice la ln lc, .slice wa m wc, .int .i64 20] rfl rfl hth.out sizeStep (by simp [Value.oneCell']) ?_
    rw [show (#[.slice la ln lc, .slice wa m wc, .int .i64 20] : Array Value).toList = [.slice la ln lc, .slice wa m wc, .int .i64 20] from rfl, ← hV.out]
    clear hV hth
    go_wp2_with fail
    exact bodyPost_ret (v := .agg #[.slice la ln lc, .slice wa m wc, .int .i64 20]) (by simp [results, Try.results17, go_sem, p0, p1, p2]) rfl ⟨_, _, rfl, hRLV.out, hRWV.out, hbV.out⟩
end
end Go.Proofs.Ytgomhnclmacleaa.D
