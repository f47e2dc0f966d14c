/- A segment in a law's own view whose power goes: what Append, Flush, Fuse and Crash leave. -/
import Derived.Test.YtgogackkeodciabGreatDoorFallM
namespace Go.Proofs.YtgogackkeodciabGreatDoor.W
open Go.RowKit
open Go.Proofs.YtgogackkeodciabGreatDoor.M Go.Proofs.YtgogackkeodciabGreatDoor.D Go.Proofs.YtgogackkeodciabGreatDoor.Z
set_option linter.unusedVariables false

/-- Blocks of others are kept. -/
def RowK (sb : Nat) (fa : Option Addr) (W W' : World) : Prop := W.heap.size ≤ W'.heap.size ∧ ∀ (q : Nat) (t : TypeId) (cs : List Value), Whole W q t cs → t ≠ 101 → t ≠ 95 → t ≠ 161 → t ≠ 163 → ¬ ofS sb fa q → Whole W' q t cs
theorem RowK.of_below {sb : Nat} {fa : Option Addr} {W W' : World} (h : Below W.heap.size W W') : RowK sb fa W W' := ⟨h.size, fun q t cs hw _ _ _ _ _ => hw.below h hw.lt⟩
theorem RowK.of_two {sb : Nat} {fa : Option Addr} {W W1 W' : World} (h : TK W W1) (k : Kept (ofS sb fa) W1 W') : RowK sb fa W W' := ⟨Nat.le_trans h.1 k.size, fun q t cs hw t1 t2 t3 t4 hq => (h.2 q t cs hw t1 t2 t3 t4).of_kept k hq⟩
theorem RowK.of_tk {sb : Nat} {fa : Option Addr} {W W1 : World} (h : TK W W1) : RowK sb fa W W1 := ⟨h.1, fun q t cs hw t1 t2 t3 t4 hq => h.2 q t cs hw t1 t2 t3 t4⟩
/-- Frames' rows of others are kept. -/
theorem RowK.frame {sb : Nat} {fa : Option Addr} {W W' : World} (h : RowK sb fa W W') (q : Nat) (cs : List Value) (hw : Whole W q 36 cs) (hq : ¬ ofS sb fa q) : Whole W' q 36 cs := h.2 q _ cs hw (by decide) (by decide) (by decide) (by decide) hq
/-- A row of frames of one's own stays. -/
theorem RowK.own {sb B n c : Nat} {fa va : Option Addr} {W W' : World} {xs : List Value} (h : RowK sb fa W W') (ho : W.ownsRow B 36 2 (.slice va n c) n xs) (hq : ∀ q, (Value.slice va n c).ownBlock = some q → ¬ ofS sb fa q) : W'.ownsRow B 36 2 (.slice va n c) n xs := by
  refine ⟨ho.1, ?_⟩
  rcases ho.2 with hn | ⟨q, cap, cur, e, hb, hg, rest⟩
  · exact .inl hn
  · have hW : Whole W q 36 cur.toList := by simpa [Whole] using hg
    have hW' := h.frame q _ hW (hq q (by rw [e]; rfl))
    exact .inr ⟨q, cap, cur, e, hb, by simpa [Whole] using hW', rest⟩
section
variable {w0 W : World} {sb vb d g' n a g s b : Nat} {fa : Option Addr} {fc : Nat} {fs : List (Int × ByteArray)} {E : Nat} {sl : Bool} {lie : List (List UInt8)} {ws : List (Nat × List UInt8)} {from_ m : Nat} {fuse steps : Int} {gone : Bool}
set_option maxRecDepth 100000 in
theorem fa_append_yes (k : Int) (p : ByteArray) (np : Nat) (h : SV w0 vb d g' lie ws from_ m fuse steps false W) (hS1 : Sg W sb vb n a g s b fa fc fs E false) (hS2 : ∀ q, ofS sb fa q → w0.heap.size ≤ q) (hr : Room from_ m n) (hs : s < 4294967296) (hfs : fs.length ≤ 1000) (hE1 : 1 ≤ E) (hE : E + np ≤ 16)
    (hc : wrongF ((plS E : Nat) : Int) k p.size = 0) (hnp : pcsN p.size = np) (hf : fuse < 0 ∨ (np : Int) ≤ fuse) (hf2 : -9223372036854775808 ≤ fuse) (hf3 : fuse ≤ 9223372036854775807) (h0 : 0 ≤ steps) (h1 : steps ≤ 900000) (hw : ws.length ≤ 90000) :
    Calls Tryz.prog 75 #[.pointer (some ⟨sb, 0, none⟩), .agg #[.int .i64 k, .string p]] W fun e w' => e = .returned (.tuple #[.int .i64 (E : Int), .int .i64 0]) ∧
      SV w0 vb d g' lie (ws ++ putW from_ n s (fs.length + 2) E (encF (s : Int) (E : Int) k p.data.toList) np) from_ m (fuseJ fuse np) (steps + np) false w' ∧
      ∃ fa' fc', Sg w' sb vb n a g s b fa' fc' (fs ++ [(k, p)]) (E + np) false ∧ (∀ q, ofS sb fa' q → ofS sb fa q ∨ W.heap.size ≤ q) ∧ RowK sb fa W w' := by
  obtain ⟨hr1, hr2⟩ := hr.fits
  refine (append_by (okN := np) (J := np) (r := 0) (V := fun j W' => SV w0 vb d g' lie (ws ++ putW from_ n s (fs.length + 2) E (encF (s : Int) (E : Int) k p.data.toList) j) from_ m (fuseJ fuse j) (steps + j) false W' ∧ Sg W' sb vb n a g s b fa fc fs E false ∧ TK W W') k p np hS1 hr2 hs hfs hE1 hE hc hnp ?_ ?_ ?_ ?_ (Nat.le_refl _) (.inl ⟨rfl, rfl, rfl⟩)).mono ?_
  · refine ⟨?_, hS1, TK.refl W⟩
    rw [fuseJ_zero]
    simpa [putW] using h
  · rintro j W1 W2 ⟨k1, k2, k3⟩ hb
    exact ⟨k1.below hb, k2.below hb, k3.trans (TK.of_below hb)⟩
  · rintro j W1 ⟨k1, k2, k3⟩
    exact k2
  · rintro j hj W1 ⟨k1, k2, k3⟩
    obtain ⟨e1, e2⟩ := fuse_next fuse j (by omega)
    refine (sv_writeK (2 + 16 * n + (E + j)) (B (sealL s (fs.length + 2) (pcL (encF (s : Int) (E : Int) k p.data.toList) j))) k1 (by omega) (by rw [B_size, sealL_len, pcL_len]) e2 (by omega) (by omega) (by unfold fuseJ; split <;> omega) (by unfold fuseJ; split <;> omega) (by rw [List.length_append, putW_len]; omega)).mono ?_
    rintro e w' ⟨r1, r2, r3⟩
    refine ⟨r1, ⟨?_, k2.of_tk r3, k3.trans r3⟩, r3⟩
    rw [e1, B_data, List.append_assoc] at r2
    rw [show steps + ((j + 1 : Nat) : Int) = steps + (j : Int) + 1 from by omega]
    exact r2
  · rintro e w' (⟨r1, _⟩ | ⟨_, r2, W1, fa', fc', ⟨r3, r4, r8⟩, r5, r6, r7⟩)
    · exact absurd rfl r1
    · refine ⟨r2, r3.seg r4 hS2 r7, fa', fc', r5, fun q hq => ?_, RowK.of_two r8 r7⟩
      rcases r6 q hq with e | e
      · exact .inl e
      · exact .inr (Nat.le_trans r8.1 e)
set_option maxRecDepth 100000 in
theorem fa_append_stop (k : Int) (p : ByteArray) (np okN : Nat) (h : SV w0 vb d g' lie ws from_ m fuse steps gone W) (hS1 : Sg W sb vb n a g s b fa fc fs E false) (hr : Room from_ m n) (hs : s < 4294967296) (hfs : fs.length ≤ 1000) (hE1 : 1 ≤ E) (hE : E + np ≤ 16)
    (hc : wrongF ((plS E : Nat) : Int) k p.size = 0) (hnp : pcsN p.size = np) (hok : okN < np) (hf : (gone = false ∧ fuse = (okN : Int)) ∨ (gone = true ∧ okN = 0)) (h0 : 0 ≤ steps) (h1 : steps ≤ 900000) (hw : ws.length ≤ 90000) :
    Calls Tryz.prog 75 #[.pointer (some ⟨sb, 0, none⟩), .agg #[.int .i64 k, .string p]] W fun e w' => e = .returned (.tuple #[.int .i64 0, .int .i64 21]) ∧
      SV w0 vb d g' lie (ws ++ putW from_ n s (fs.length + 2) E (encF (s : Int) (E : Int) k p.data.toList) okN) from_ m (fuseJ fuse okN) (steps + okN) true w' ∧ Sg w' sb vb n a g s b fa fc fs E false ∧ RowK sb fa W w' := by
  obtain ⟨hr1, hr2⟩ := hr.fits
  refine (append_by (okN := okN) (J := okN + 1) (r := 21) (V := fun j W' => (if j ≤ okN then SV w0 vb d g' lie (ws ++ putW from_ n s (fs.length + 2) E (encF (s : Int) (E : Int) k p.data.toList) j) from_ m (fuseJ fuse j) (steps + j) gone W' else SV w0 vb d g' lie (ws ++ putW from_ n s (fs.length + 2) E (encF (s : Int) (E : Int) k p.data.toList) okN) from_ m (fuseJ fuse okN) (steps + okN) true W') ∧ Sg W' sb vb n a g s b fa fc fs E false ∧ TK W W') k p np hS1 hr2 hs hfs hE1 hE hc hnp ?_ ?_ ?_ ?_ (by omega) (.inr ⟨hok, by decide, rfl, ?_⟩)).mono ?_
  · refine ⟨?_, hS1, TK.refl W⟩
    rw [if_pos (by omega), fuseJ_zero]
    simpa [putW] using h
  · rintro j W1 W2 ⟨k1, k2, k3⟩ hb
    refine ⟨?_, k2.below hb, k3.trans (TK.of_below hb)⟩
    split at k1
    · rw [if_pos (by assumption)]; exact k1.below hb
    · rw [if_neg (by assumption)]; exact k1.below hb
  · rintro j W1 ⟨k1, k2, k3⟩
    exact k2
  · rintro j hj W1 ⟨k1, k2, k3⟩
    obtain ⟨rfl, hfe⟩ := hf.resolve_right (fun h => by omega)
    rw [if_pos (by omega)] at k1
    obtain ⟨e1, e2⟩ := fuse_next fuse j (by omega)
    refine (sv_writeK (2 + 16 * n + (E + j)) (B (sealL s (fs.length + 2) (pcL (encF (s : Int) (E : Int) k p.data.toList) j))) k1 (by omega) (by rw [B_size, sealL_len, pcL_len]) e2 (by omega) (by omega) (by unfold fuseJ; split <;> omega) (by unfold fuseJ; split <;> omega) (by rw [List.length_append, putW_len]; omega)).mono ?_
    rintro e w' ⟨r1, r2, r3⟩
    refine ⟨r1, ⟨?_, k2.of_tk r3, k3.trans r3⟩, r3⟩
    rw [if_pos (by omega)]
    rw [e1, B_data, List.append_assoc] at r2
    rw [show steps + ((j + 1 : Nat) : Int) = steps + (j : Int) + 1 from by omega]
    exact r2
  · rintro W1 ⟨k1, k2, k3⟩
    rw [if_pos (Nat.le_refl _)] at k1
    refine (sv_writeD (2 + 16 * n + (E + okN)) (B (sealL s (fs.length + 2) (pcL (encF (s : Int) (E : Int) k p.data.toList) okN))) k1 (by omega) (by rw [B_size, sealL_len, pcL_len]) (by
      rcases hf with ⟨_, e⟩ | ⟨e, _⟩
      · right; rw [e]; unfold fuseJ; rw [if_neg (by omega)]; omega
      · exact .inl e)).mono ?_
    rintro e w' ⟨r1, r2, r3⟩
    refine ⟨r1, ⟨?_, k2.of_tk r3, k3.trans r3⟩, r3⟩
    rw [if_neg (by omega)]
    exact r2
  · rintro e w' (⟨_, r2, r3, r4, r5⟩ | ⟨r1, _⟩)
    · rw [if_neg (by omega)] at r3
      exact ⟨r2, r3, r4, RowK.of_tk r5⟩
    · cases r1
theorem keepsHeld {w w' : World} {kv : Value} {kl : List (Int × Int)} (h : Keeps w kv kl) (hb : Below w.heap.size w w') : Keeps w' kv kl := by
  obtain ⟨ka, cap, e1, e2, e3, e4⟩ := h.form
  refine ⟨⟨ka, cap, e1, e2, e3, fun j q hq => ?_⟩⟩
  obtain ⟨b, o, r1, r2, r3, r4⟩ := e4 j q hq
  exact ⟨b, o, r1, Nat.lt_of_lt_of_le r2 hb.size, (hb.cell r2).trans r3, (hb.cell r2).trans r4⟩
end
theorem rd_mem (ws : List (Nat × List UInt8)) (hd : ws.Pairwise fun p q => p.1 ≠ q.1) (p : Nat × List UInt8) (hp : p ∈ ws) (s : List UInt8) : D.rd ws p.1 s = p.2 := by
  obtain ⟨i, hi, rfl⟩ := List.mem_iff_getElem.1 hp
  refine rd_last ws _ i s _ (List.getElem?_eq_getElem hi) rfl ?_
  intro j q hj hq
  obtain ⟨hj2, rfl⟩ := List.getElem?_eq_some_iff.1 hq
  rw [List.pairwise_iff_getElem] at hd
  exact (hd i j hi hj2 hj).symm
/-- The law's segment whose power may go: sure frames, and others that wait. -/
def FallB (t : Nat) (w0 : World) (vb d g' sb a g s b : Nat) (fsS fs : List (Int × ByteArray)) (fuse : Int) (gone : Bool) (fa : Option Addr) (W : World) : Prop :=
  ∃ lie wsO Wt steps fr okN X0 X fc, SV w0 vb d g' lie (wsO ++ Wt) 1 34 fuse steps gone W ∧ Sg W sb vb 0 a g s b fa fc fs (plc fs) false ∧ (∀ q, ofS sb fa q → w0.heap.size ≤ q) ∧
    (∀ p ∈ wsO, spanB 1 34 p = false) ∧ Wt.map Prod.fst = List.range' (3 + plc fsS) (plc fs + okN - plc fsS) ∧ secOf lie [] 1 0 = X0 ∧ secOf lie Wt 1 0 = X ∧
    LayB X0 s fsS ∧ Ends X0 ∧ Ends X ∧ LayP X0 X s fs fr okN ∧ X0[0]? = some (sealP s 1 (B (pcL (headerL a g s b) 0))) ∧ X[0]? = some (sealP s 1 (B (pcL (headerL a g s b) 0))) ∧
    fs.take fsS.length = fsS ∧ wsO.length ≤ 100 ∧ 0 ≤ steps ∧ steps ≤ t + plc fs + okN ∧ -9223372036854775808 ≤ fuse ∧ fuse ≤ 9223372036854775807 ∧ (gone = false → okN = 0)
section
variable {t : Nat} {w0 W : World} {vb d g' sb a g s b : Nat} {fsS fs : List (Int × ByteArray)} {fuse : Int} {gone : Bool} {fa : Option Addr}
theorem FallB.below {W' : World} (h : FallB t w0 vb d g' sb a g s b fsS fs fuse gone fa W) (hb : Below W.heap.size W W') : FallB t w0 vb d g' sb a g s b fsS fs fuse gone fa W' := by
  obtain ⟨lie, wsO, Wt, steps, fr, okN, X0, X, fc, h1, h2, h3⟩ := h
  exact ⟨lie, wsO, Wt, steps, fr, okN, X0, X, fc, h1.below hb, h2.below hb, h3⟩
theorem FallB.since (h : FallB t w0 vb d g' sb a g s b fsS fs fuse gone fa W) : Below w0.heap.size w0 W := by
  obtain ⟨lie, wsO, Wt, steps, fr, okN, X0, X, fc, h1, _⟩ := h
  exact h1.since
/-- Another row of frames that is changed. -/
theorem FallB.row {W' : World} {q : Nat} {cs : List Value} (h : FallB t w0 vb d g' sb a g s b fsS fs fuse gone fa W) (hq : Whole W q 36 cs) (hn : ¬ ofS sb fa q) (hw : w0.heap.size ≤ q) (hk : Kept (fun r => r = q) W W') : FallB t w0 vb d g' sb a g s b fsS fs fuse gone fa W' := by
  obtain ⟨lie, wsO, Wt, steps, fr, okN, X0, X, fc, ⟨v, k1, k2, k3⟩, h2, h3⟩ := h
  refine ⟨lie, wsO, Wt, steps, fr, okN, X0, X, fc, ⟨v, Vw.of_seg k1 hk (fun r hr => by rw [hr]; exact off_view k1 hq (by decide) (by decide) (by decide) (by decide)), k2, k3.trans (hk.below k3.size (fun r e => by omega))⟩, h2.of_kept hk (fun r hr e => hn (by rw [← e]; exact hr)), h3⟩
theorem FallB.few (h : FallB t w0 vb d g' sb a g s b fsS fs fuse gone fa W) : plc fs ≤ 16 ∧ fs.length ≤ 15 ∧ (∀ f ∈ fs, FrOk f) ∧ fs.take fsS.length = fsS := by
  obtain ⟨lie, wsO, Wt, steps, fr, okN, X0, X, fc, h1, h2, h3, h4, h5, h6, h7, h8, h9, h10, h11, h12, h13, h14, _⟩ := h
  have := h11.fits
  have := plc_len fs
  exact ⟨by omega, by omega, h11.ok, h14⟩
theorem range_add (a n m : Nat) : List.range' a n ++ List.range' (a + n) m = List.range' a (n + m) := by
  rw [List.range'_append_1]
theorem putW_fst (f n s c at_ : Nat) (L : List UInt8) (j : Nat) : (putW f n s c at_ L j).map Prod.fst = List.range' (f + (2 + 16 * n + at_)) j := by
  induction j with
  | zero => rfl
  | succ j ih =>
    rw [putW_succ, List.map_append, ih, List.range'_concat]
    simp only [List.map_cons, List.map_nil, Nat.one_mul]
    congr 2
    omega
/-- What an Append makes of it. -/
def FallN (t : Nat) (w0 : World) (vb d g' sb a g s b : Nat) (fsS fs : List (Int × ByteArray)) (fuse : Int) (gone : Bool) (fa : Option Addr) (W : World) (f : Int × ByteArray) (e : Ending) (w' : World) : Prop :=
  ∃ (p1 err : Int) (fs' : List (Int × ByteArray)) (fuse' : Int) (gone' : Bool) (fa' : Option Addr), e = .returned (.tuple #[.int .i64 p1, .int .i64 err]) ∧ FallB t w0 vb d g' sb a g s b fsS fs' fuse' gone' fa' w' ∧ (∀ q, ofS sb fa' q → ofS sb fa q ∨ W.heap.size ≤ q) ∧ RowK sb fa W w' ∧
    ((err ≠ 0 ∧ err ≠ 21 ∧ fs' = fs ∧ fuse' = fuse ∧ gone' = gone) ∨ (err = 0 ∧ fs' = fs ++ [f] ∧ gone = false ∧ gone' = false ∧ (fuse < 0 → fuse' = fuse)) ∨ (err = 21 ∧ fs' = fs ∧ gone' = true ∧ ¬ (gone = false ∧ fuse < 0)))
theorem wrong_cases (pl k : Int) (n : Nat) (h : wrongF pl k n ≠ 0) : wrongF pl k n ≠ 21 := by
  unfold wrongF at h ⊢
  split
  · decide
  · split
    · decide
    · decide
theorem fall_step (k : Int) (p : ByteArray) (h : FallB t w0 vb d g' sb a g s b fsS fs fuse gone fa W) (ht : t ≤ 1000) (hs : s < 4294967296) (hp : p.size ≤ 1000) :
    Calls Tryz.prog 75 #[.pointer (some ⟨sb, 0, none⟩), .agg #[.int .i64 k, .string p]] W fun e w' => FallN t w0 vb d g' sb a g s b fsS fs fuse gone fa W (k, p) e w' := by
  obtain ⟨lie, wsO, Wt, steps, fr, okN, X0, X, fc, h1, h2, h3, h4, h5, h6, h7, h8, h9, h10, h11, h12, h13, h14, h15, h16, h17, h18, h19, h20⟩ := id h
  have hlen := plc_len fs
  have hfit := h11.fits
  have hWl : Wt.length = plc fs + okN - plc fsS := by
    have := congrArg List.length h5
    simpa using this
  by_cases hc : wrongF ((plS (plc fs) : Nat) : Int) k p.size ≠ 0
  · refine (append_no k p h2 hs (by omega) (by omega) hc).mono ?_
    rintro e w' ⟨r1, r2⟩
    exact ⟨0, _, fs, fuse, gone, fa, r1, h.below r2, fun q hq => .inl hq, RowK.of_below r2, .inl ⟨hc, wrong_cases _ _ _ hc, rfl, rfl, rfl⟩⟩
  · have hc0 : wrongF ((plS (plc fs) : Nat) : Int) k p.size = 0 := Classical.byContradiction hc
    obtain ⟨z1, z2, z3, z4, z5⟩ := wrong_zero hc0
    by_cases hf : 16 < plc fs + pcsN p.size
    · refine (append_full k p h2 hs (by omega) hc0 hf).mono ?_
      rintro e w' ⟨r1, r2⟩
      exact ⟨0, 5, fs, fuse, gone, fa, r1, h.below r2, fun q hq => .inl hq, RowK.of_below r2, .inl ⟨by decide, by decide, rfl, rfl, rfl⟩⟩
    · cases gone with
      | true =>
        refine (fa_append_stop k p (pcsN p.size) 0 h1 h2 ⟨32, rfl, by omega, by omega⟩ hs (by omega) (by omega) (by omega) hc0 rfl (pcs_pos _) (.inr ⟨rfl, rfl⟩) h16 (by omega) (by rw [List.length_append]; omega)).mono ?_
        rintro e w' ⟨r1, r2, r3, r4⟩
        refine ⟨0, 21, fs, fuse, true, fa, r1, ?_, fun q hq => .inl hq, r4, .inr (.inr ⟨rfl, rfl, rfl, fun h => by cases h.1⟩)⟩
        refine ⟨lie, wsO, Wt, steps, fr, okN, X0, X, fc, ?_, r3, h3, h4, h5, h6, h7, h8, h9, h10, h11, h12, h13, h14, h15, h16, h17, h18, h19, h20⟩
        rw [fuseJ_zero] at r2
        simpa [putW] using r2
      | false =>
        obtain rfl := h20 rfl
        by_cases hroom : fuse < 0 ∨ (pcsN p.size : Int) ≤ fuse
        · refine (fa_append_yes k p (pcsN p.size) h1 h2 h3 ⟨32, rfl, by omega, by omega⟩ hs (by omega) (by omega) (by omega) hc0 rfl hroom h18 h19 h16 (by omega) (by rw [List.length_append]; omega)).mono ?_
          rintro e w' ⟨r1, r2, fa', fc', r3, r4, r5⟩
          have e3 : plc (fs ++ [(k, p)]) = plc fs + pcsN p.size := plc_snoc fs (k, p)
          have esz : pcsN (k, p).2.size = pcsN p.size := rfl
          have hXm : secOf lie (Wt ++ putW 1 0 s (fs.length + 2) (plc fs) (encF (s : Int) (plc fs : Int) k p.data.toList) (pcsN p.size)) 1 0 = moreX X s fs (k, p) := by
            rw [sec_put _ _ _ _ _ _ _ _ _ (by omega), h7]
          have hpre : plc fsS ≤ plc fs := by rw [← h14]; exact plc_le fs _
          refine ⟨_, 0, fs ++ [(k, p)], fuseJ fuse (pcsN p.size), false, fa', r1, ?_, r4, r5, .inr (.inl ⟨rfl, rfl, rfl, rfl, fun e => by unfold fuseJ; rw [if_pos e]⟩)⟩
          refine ⟨lie, wsO, Wt ++ putW 1 0 s (fs.length + 2) (plc fs) (encF (s : Int) (plc fs : Int) k p.data.toList) (pcsN p.size), steps + (pcsN p.size : Int), (1, ⟨#[]⟩), 0, X0, moreX X s fs (k, p), fc', ?_, ?_, ?_, h4, ?_, h6, hXm, h8, h9, ?_, ?_, h12, ?_, ?_, h15, ?_, ?_, ?_, ?_, fun _ => rfl⟩
          · rw [← List.append_assoc]; exact r2
          · rw [e3]; exact r3
          · intro q hq
            rcases r4 q hq with e | e
            · exact h3 q e
            · exact Nat.le_trans h1.since.size e
          · rw [List.map_append, h5, putW_fst, e3, show 1 + (2 + 16 * 0 + plc fs) = 3 + plc fsS + (plc fs + 0 - plc fsS) from by omega, range_add]
            congr 1
            omega
          · exact ends_put h10 s _ _ _ _ (by rw [h11.len]; omega) (fun j _ => by rw [B_size, pcL_len])
          · have hx := h11.len
            refine ⟨by unfold moreX; rw [putP_len, hx], ?_, by rw [e3]; omega, ?_, fun e => absurd rfl e, fun j hj => by omega, ?_⟩
            · intro f hf
              rcases List.mem_append.1 hf with h | h
              · exact h11.ok f h
              · obtain rfl : f = (k, p) := by simpa using h
                exact ⟨z1, z2, z5⟩
            · intro i f hif j hj
              unfold moreX
              rw [putP_at _ _ _ _ _ _ _ (by rw [hx, esz]; omega)]
              by_cases hi : i < fs.length
              · rw [List.getElem?_append_left hi] at hif
                have e : (fs ++ [(k, p)]).take i = fs.take i := by rw [List.take_append_of_le_length (by omega)]
                have ht := plc_take fs i f hif
                have hl := plc_le fs (i + 1)
                rw [e, if_neg (by omega)]
                exact h11.each i f hif j hj
              · have hi2 : i < (fs ++ [(k, p)]).length := (List.getElem?_eq_some_iff.1 hif).1
                obtain rfl : i = fs.length := by rw [List.length_append, List.length_singleton] at hi2; omega
                obtain rfl : f = (k, p) := by simpa using hif.symm
                have e : (fs ++ [(k, p)]).take fs.length = fs := by simp
                have hj2 : j < pcsN p.size := hj
                rw [e, if_pos (by simp only; omega), Nat.add_sub_cancel_left]
                rfl
            · intro q hq hq2
              rw [e3] at hq
              unfold moreX
              rw [putP_at _ _ _ _ _ _ _ (by rw [hx, esz]; omega), if_neg (by simp only; omega)]
              exact h11.behind q (by omega) hq2
          · unfold moreX
            rw [putP_far _ _ _ _ _ _ (by rw [h11.len]; simp only; omega) (by omega)]
            exact h13
          · rw [List.take_append_of_le_length (by
              have := congrArg List.length h14
              rw [List.length_take] at this
              omega)]
            exact h14
          · omega
          · rw [e3]; omega
          · unfold fuseJ; split <;> omega
          · unfold fuseJ; split <;> omega
        · have hfz : 0 ≤ fuse := by omega
          obtain ⟨F, rfl⟩ := lit_nat hfz
          have hF : F < pcsN p.size := by omega
          refine (fa_append_stop k p (pcsN p.size) F h1 h2 ⟨32, rfl, by omega, by omega⟩ hs (by omega) (by omega) (by omega) hc0 rfl hF (.inl ⟨rfl, rfl⟩) h16 (by omega) (by rw [List.length_append]; omega)).mono ?_
          rintro e w' ⟨r1, r2, r3, r4⟩
          have hpre : plc fsS ≤ plc fs := by rw [← h14]; exact plc_le fs _
          have hx := h11.len
          refine ⟨0, 21, fs, fuseJ F F, true, fa, r1, ?_, fun q hq => .inl hq, r4, .inr (.inr ⟨rfl, rfl, rfl, fun h => by have := h.2; omega⟩)⟩
          refine ⟨lie, wsO, Wt ++ putW 1 0 s (fs.length + 2) (plc fs) (encF (s : Int) (plc fs : Int) k p.data.toList) F, steps + (F : Int), (k, p), F, X0, putP X s (fs.length + 2) (plc fs) (fun i => B (pcL (encF (s : Int) (plc fs : Int) k p.data.toList) i)) F, fc, ?_, r3, h3, h4, ?_, h6, ?_, h8, h9, ?_, ?_, h12, ?_, h14, h15, ?_, ?_, ?_, ?_, fun e => by cases e⟩
          · rw [← List.append_assoc]; exact r2
          · rw [List.map_append, h5, putW_fst, show 1 + (2 + 16 * 0 + plc fs) = 3 + plc fsS + (plc fs + 0 - plc fsS) from by omega, range_add]
            congr 1
            omega
          · rw [sec_put _ _ _ _ _ _ _ _ _ (by omega), h7]
          · exact ends_put h10 s _ _ _ _ (by rw [hx]; omega) (fun j _ => by rw [B_size, pcL_len])
          · refine ⟨by rw [putP_len, hx], h11.ok, by omega, ?_, fun _ => ⟨⟨z1, z2, z5⟩, hF, by omega⟩, ?_, ?_⟩
            · intro i f hif j hj
              have hil : i < fs.length := (List.getElem?_eq_some_iff.1 hif).1
              have ht := plc_take fs i f hif
              have hl := plc_le fs (i + 1)
              rw [putP_at _ _ _ _ _ _ _ (by rw [hx]; omega), if_neg (by omega)]
              exact h11.each i f hif j hj
            · intro j hj
              rw [putP_at _ _ _ _ _ _ _ (by rw [hx]; omega), if_pos (by omega), Nat.add_sub_cancel_left]
              rfl
            · intro q hq hq2
              rw [putP_at _ _ _ _ _ _ _ (by rw [hx]; omega), if_neg (by omega)]
              exact h11.behind q (by omega) hq2
          · rw [putP_far _ _ _ _ _ _ (by rw [hx]; omega) (by omega)]
            exact h13
          · omega
          · omega
          · unfold fuseJ; split <;> omega
          · unfold fuseJ; split <;> omega
end
end Go.Proofs.YtgogackkeodciabGreatDoor.W
