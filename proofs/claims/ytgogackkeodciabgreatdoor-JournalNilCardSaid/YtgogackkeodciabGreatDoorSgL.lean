/- Segments of a law's own view: what the calls of package segment leave of them. What is loaded of sectors in which frames lie, some of them in part; nothing of the program. Segments of a law's own view: Create, Load, Wipe; the small case of layer 13. -/
import Derived.Test.YtgogackkeodciabGreatDoorSgH
import Derived.Test.YtgogackkeodciabGreatDoorPiecesA
section
namespace Go.Proofs.YtgogackkeodciabGreatDoor.W
open Go.RowKit
open Go.Proofs.YtgogackkeodciabGreatDoor.M Go.Proofs.YtgogackkeodciabGreatDoor.D Go.Proofs.YtgogackkeodciabGreatDoor.Z
set_option linter.unusedVariables false

theorem rd_snoc (ws : List (Nat × List UInt8)) (p : Nat × List UInt8) (a : Nat) (s : List UInt8) : D.rd (ws ++ [p]) a s = if p.1 = a then p.2 else D.rd ws a s := by unfold D.rd; rw [List.foldl_append]; rfl
theorem rd_len (ws : List (Nat × List UInt8)) (a : Nat) (s : List UInt8) (hs : s.length = 64) (h : ∀ p ∈ ws, p.2.length = 64) : (D.rd ws a s).length = 64 := by
  induction ws generalizing s with
  | nil => exact hs
  | cons p ws ih =>
    unfold D.rd
    rw [List.foldl_cons]
    refine ih _ ?_ (fun q hq => h q (by simp [hq]))
    split
    · exact h p (by simp)
    · exact hs
/-- A segment's sectors, as they are read. -/
def secOf (lie : List (List UInt8)) (ws : List (Nat × List UInt8)) (f n : Nat) : List ByteArray := (List.range 16).map fun k => B (D.rd ws (f + (2 + 16 * n + k)) (lie.getD (f + (2 + 16 * n + k)) []))
theorem sec_len (lie : List (List UInt8)) (ws : List (Nat × List UInt8)) (f n : Nat) : (secOf lie ws f n).length = 16 := by simp [secOf]
theorem sec_at (lie : List (List UInt8)) (ws : List (Nat × List UInt8)) (f n k : Nat) (hk : k < 16) : (secOf lie ws f n)[k]? = some (B (D.rd ws (f + (2 + 16 * n + k)) (lie.getD (f + (2 + 16 * n + k)) []))) := by
  unfold secOf; rw [List.getElem?_map, List.getElem?_range hk]; rfl
/-- The writes of pieces. -/
def putW (f n s c at_ : Nat) (L : List UInt8) : Nat → List (Nat × List UInt8)
  | 0 => []
  | j + 1 => putW f n s c at_ L j ++ [(f + (2 + 16 * n + (at_ + j)), sealL s c (pcL L j))]
theorem putW_succ (f n s c at_ : Nat) (L : List UInt8) (j : Nat) : putW f n s c at_ L (j + 1) = putW f n s c at_ L j ++ [(f + (2 + 16 * n + (at_ + j)), sealL s c (pcL L j))] := rfl
theorem putW_len (f n s c at_ : Nat) (L : List UInt8) (j : Nat) : (putW f n s c at_ L j).length = j := by
  induction j with
  | zero => rfl
  | succ j ih => unfold putW; rw [List.length_append, ih]; rfl
theorem sec_one (lie : List (List UInt8)) (ws : List (Nat × List UInt8)) (f n k : Nat) (t : List UInt8) (hk : k < 16) : secOf lie (ws ++ [(f + (2 + 16 * n + k), t)]) f n = (secOf lie ws f n).set k (B t) := by
  apply List.ext_getElem?
  intro i
  rw [List.getElem?_set, sec_len]
  by_cases hi : i < 16
  · rw [sec_at _ _ _ _ _ hi, rd_snoc]
    by_cases h : k = i
    · subst h; rw [if_pos rfl, if_pos rfl, if_pos hk]
    · rw [if_neg h, if_neg (by omega), sec_at _ _ _ _ _ hi]
  · rw [List.getElem?_eq_none (by rw [sec_len]; omega), if_neg (by omega), List.getElem?_eq_none (by rw [sec_len]; omega)]
theorem sec_put (lie : List (List UInt8)) (ws : List (Nat × List UInt8)) (f n s c at_ : Nat) (L : List UInt8) (j : Nat) (h : at_ + j ≤ 16) :
    secOf lie (ws ++ putW f n s c at_ L j) f n = putP (secOf lie ws f n) s c at_ (fun i => B (pcL L i)) j := by
  induction j with
  | zero => simp [putW, putP]
  | succ j ih =>
    unfold putW putP
    rw [← List.append_assoc, sec_one _ _ _ _ _ _ (by omega), ih (by omega)]
    unfold sealP
    rw [B_data]
/-- Another segment's sectors stay. -/
theorem sec_far (lie : List (List UInt8)) (ws : List (Nat × List UInt8)) (f n m s c at_ : Nat) (L : List UInt8) (j : Nat) (h : at_ + j ≤ 16) (hne : n ≠ m) : secOf lie (ws ++ putW f n s c at_ L j) f m = secOf lie ws f m := by
  induction j with
  | zero => simp [putW]
  | succ j ih =>
    rw [← ih (by omega), putW_succ, ← List.append_assoc]
    unfold secOf
    apply List.map_congr_left
    intro k hk
    have hk2 : k < 16 := List.mem_range.1 hk
    rw [rd_snoc, if_neg]
    show ¬ f + (2 + 16 * n + (at_ + j)) = f + (2 + 16 * m + k)
    omega
theorem Sg.of_tk {w w' : World} {sb vb n a g s b : Nat} {fa : Option Addr} {fc : Nat} {fs : List (Int × ByteArray)} {E : Nat} {sl : Bool} (h : Sg w sb vb n a g s b fa fc fs E sl) (hk : TK w w') : Sg w' sb vb n a g s b fa fc fs E sl := by
  refine ⟨hk.2 _ _ _ h.obj (by decide) (by decide) (by decide) (by decide), ?_, h.none_⟩
  refine ⟨h.own.1, ?_⟩
  rcases h.own.2 with hn | ⟨q, cap, cur, e, hb, hq, rest⟩
  · exact .inl hn
  · have hW : Whole w q 36 cur.toList := by simpa [Whole] using hq
    have hW' := hk.2 _ _ _ hW (by decide) (by decide) (by decide) (by decide)
    exact .inr ⟨q, cap, cur, e, hb, by simpa [Whole] using hW', rest⟩
/-- A segment all of whose blocks were made since the world w0. -/
def SgV (w0 : World) (sb vb n a g s b : Nat) (fs : List (Int × ByteArray)) (E : Nat) (sl : Bool) (W : World) : Prop := ∃ fa fc, Sg W sb vb n a g s b fa fc fs E sl ∧ ∀ q, ofS sb fa q → w0.heap.size ≤ q
section
variable {w0 W : World} {sb vb d g' n a g s b : Nat} {fs : List (Int × ByteArray)} {E : Nat} {sl : Bool} {lie : List (List UInt8)} {ws : List (Nat × List UInt8)} {from_ m : Nat} {fuse steps : Int} {gone : Bool}
theorem SgV.below {W' : World} (h : SgV w0 sb vb n a g s b fs E sl W) (hb : Below W.heap.size W W') : SgV w0 sb vb n a g s b fs E sl W' := by
  obtain ⟨fa, fc, h1, h2⟩ := h
  exact ⟨fa, fc, h1.below hb, h2⟩
theorem SgV.base {W' : World} (h : SgV w0 sb vb n a g s b fs E sl W) (hs : W'.heap.size ≤ w0.heap.size) : SgV W' sb vb n a g s b fs E sl W := by
  obtain ⟨fa, fc, h1, h2⟩ := h
  exact ⟨fa, fc, h1, fun q hq => Nat.le_trans hs (h2 q hq)⟩
theorem SV.sizes (h : SV w0 vb d g' lie ws from_ m fuse steps gone W) : (∀ l ∈ lie, l.length = 64) ∧ (∀ p ∈ ws, p.2.length = 64) ∧ from_ + m ≤ lie.length := by
  obtain ⟨v, h1, h2, h3⟩ := h
  exact ⟨h1.disk.lie64, h1.disk.ws64, h1.fits⟩
theorem SV.sec64 (h : SV w0 vb d g' lie ws from_ m fuse steps gone W) (hn : 2 + 16 * n + 16 ≤ m) : ∀ (k : Nat) (y : ByteArray), (secOf lie ws from_ n)[k]? = some y → y.size = 64 := by
  obtain ⟨h1, h2, h3⟩ := h.sizes
  intro k y hy
  have hk : k < 16 := by have := (List.getElem?_eq_some_iff.1 hy).1; rwa [sec_len] at this
  rw [sec_at _ _ _ _ _ hk] at hy
  cases hy
  rw [B_size]
  refine rd_len _ _ _ ?_ h2
  rw [List.getD_eq_getElem?_getD, List.getElem?_eq_getElem (by omega)]
  exact h1 _ (List.getElem_mem _)
theorem sv_writeK (a : Nat) (y : ByteArray) (h : SV w0 vb d g' lie ws from_ m fuse steps false W) (ha : a < m) (hz : y.size = 64) (hf : fuse ≠ 0) (h0 : 0 ≤ steps) (h1 : steps < 1000000) (h2 : -9223372036854775808 ≤ fuse) (h3 : fuse ≤ 9223372036854775807) (hw : ws.length ≤ 100000) :
    Calls Tryz.prog 94 #[.pointer (some ⟨vb, 0, none⟩), .int .i64 a, .string y] W fun e w' => e = .returned (.int .i64 0) ∧ SV w0 vb d g' lie (ws ++ [(from_ + a, y.data.toList)]) from_ m (if 0 < fuse then fuse - 1 else fuse) (steps + 1) false w' ∧ TK W w' := by
  obtain ⟨v, k1, k2, k3⟩ := h
  exact (vwrite_in a y k1 ha hz hf h0 h1 h2 h3 hw).mono fun e w' h => ⟨h.1, SV.turn k2 k3 h.2, TK.of_turn k1 h.2⟩
theorem sv_writeD (a : Nat) (y : ByteArray) (h : SV w0 vb d g' lie ws from_ m fuse steps gone W) (ha : a < m) (hz : y.size = 64) (hno : gone = true ∨ fuse = 0) :
    Calls Tryz.prog 94 #[.pointer (some ⟨vb, 0, none⟩), .int .i64 a, .string y] W fun e w' => e = .returned (.int .i64 21) ∧ SV w0 vb d g' lie ws from_ m fuse steps true w' ∧ TK W w' := by
  obtain ⟨v, k1, k2, k3⟩ := h
  exact (write_dead a y k1 ha hz hno).mono fun e w' h => ⟨h.1, SV.turn k2 k3 h.2, TK.of_turn k1 h.2⟩
/-- A segment's change leaves the view. -/
theorem SV.seg {W' : World} {fa : Option Addr} {fc : Nat} (h : SV w0 vb d g' lie ws from_ m fuse steps gone W) (hS : Sg W sb vb n a g s b fa fc fs E sl) (hn : ∀ q, ofS sb fa q → w0.heap.size ≤ q) (hk : Kept (ofS sb fa) W W') : SV w0 vb d g' lie ws from_ m fuse steps gone W' := by
  obtain ⟨v, k1, k2, k3⟩ := h
  exact ⟨v, Vw.of_seg k1 hk (fun q hq => hS.off k1 q hq), k2, k3.trans (hk.below k3.size hn)⟩
/-- What the fuse is behind j steps. -/
def fuseJ (fuse : Int) (j : Nat) : Int := if fuse < 0 then fuse else fuse - j
theorem fuse_next (fuse : Int) (j : Nat) (h : fuse < 0 ∨ (j : Int) < fuse) : (if 0 < fuseJ fuse j then fuseJ fuse j - 1 else fuseJ fuse j) = fuseJ fuse (j + 1) ∧ fuseJ fuse j ≠ 0 := by
  unfold fuseJ
  split
  · rw [if_neg (by omega)]; omega
  · rw [if_pos (by omega)]; omega
theorem fuseJ_zero (fuse : Int) : fuseJ fuse 0 = fuse := by unfold fuseJ; split <;> omega
/-- The room for a view's segments. -/
structure Room (from_ m n : Nat) : Prop where
  q : ∃ q, m = q + 2 ∧ q ≤ 1000 ∧ n < q / 16
theorem Room.fits {from_ m n : Nat} (h : Room from_ m n) : 2 + 16 * n + 16 ≤ m ∧ n ≤ 1000 := by
  obtain ⟨q, h1, h2, h3⟩ := h.q
  omega
set_option maxRecDepth 100000 in
theorem la_append_yes (k : Int) (p : ByteArray) (np : Nat) (h : SV w0 vb d g' lie ws from_ m fuse steps false W) (hS : SgV w0 sb vb n a g s b fs E false W) (hr : Room from_ m n) (hs : s < 4294967296) (hfs : fs.length ≤ 1000) (hE1 : 1 ≤ E) (hE : E + np ≤ 16)
    (hc : wrongF ((plS E : Nat) : Int) k p.size = 0) (hnp : pcsN p.size = np) (hf : fuse < 0 ∨ (np : Int) ≤ fuse) (hf2 : -1 ≤ fuse) (hf3 : fuse ≤ 9223372036854775807) (h0 : 0 ≤ steps) (h1 : steps ≤ 900000) (hw : ws.length ≤ 90000) :
    Calls Tryz.prog 75 #[.pointer (some ⟨sb, 0, none⟩), .agg #[.int .i64 k, .string p]] W fun e w' => e = .returned (.tuple #[.int .i64 (E : Int), .int .i64 0]) ∧
      SV w0 vb d g' lie (ws ++ putW from_ n s (fs.length + 2) E (encF (s : Int) (E : Int) k p.data.toList) np) from_ m (fuseJ fuse np) (steps + np) false w' ∧ SgV w0 sb vb n a g s b (fs ++ [(k, p)]) (E + np) false w' := by
  obtain ⟨fa, fc, hS1, hS2⟩ := hS
  obtain ⟨hr1, hr2⟩ := hr.fits
  refine (append_by (okN := np) (J := np) (r := 0) (V := fun j W => SV w0 vb d g' lie (ws ++ putW from_ n s (fs.length + 2) E (encF (s : Int) (E : Int) k p.data.toList) j) from_ m (fuseJ fuse j) (steps + j) false W ∧ Sg W sb vb n a g s b fa fc fs E false) k p np hS1 hr2 hs hfs hE1 hE hc hnp ?_ ?_ ?_ ?_ (Nat.le_refl _) (.inl ⟨rfl, rfl, rfl⟩)).mono ?_
  · refine ⟨?_, hS1⟩
    rw [fuseJ_zero]
    simpa [putW] using h
  · rintro j W1 W2 ⟨k1, k2⟩ hb
    exact ⟨k1.below hb, k2.below hb⟩
  · rintro j W1 ⟨k1, k2⟩
    exact k2
  · rintro j hj W1 ⟨k1, k2⟩
    obtain ⟨e1, e2⟩ := fuse_next fuse j (by omega)
    refine (sv_writeK (2 + 16 * n + (E + j)) (B (sealL s (fs.length + 2) (pcL (encF (s : Int) (E : Int) k p.data.toList) j))) k1 (by omega) (by rw [B_size, sealL_len, pcL_len]) e2 (by omega) (by omega) (by unfold fuseJ; split <;> omega) (by unfold fuseJ; split <;> omega) (by rw [List.length_append, putW_len]; omega)).mono ?_
    rintro e w' ⟨r1, r2, r3⟩
    refine ⟨r1, ⟨?_, k2.of_tk r3⟩, r3⟩
    rw [e1, B_data, List.append_assoc] at r2
    rw [show steps + ((j + 1 : Nat) : Int) = steps + (j : Int) + 1 from by omega]
    exact r2
  · rintro e w' (⟨r1, _⟩ | ⟨_, r2, W1, fa', fc', ⟨r3, r4⟩, r5, r6, r7⟩)
    · exact absurd rfl r1
    · refine ⟨r2, r3.seg r4 hS2 r7, fa', fc', r5, fun q hq => ?_⟩
      rcases r6 q hq with e | e
      · exact hS2 q e
      · exact Nat.le_trans r3.since.size e
set_option maxRecDepth 100000 in
theorem la_append_stop (k : Int) (p : ByteArray) (np okN : Nat) (h : SV w0 vb d g' lie ws from_ m fuse steps gone W) (hS : SgV w0 sb vb n a g s b fs E false W) (hr : Room from_ m n) (hs : s < 4294967296) (hfs : fs.length ≤ 1000) (hE1 : 1 ≤ E) (hE : E + np ≤ 16)
    (hc : wrongF ((plS E : Nat) : Int) k p.size = 0) (hnp : pcsN p.size = np) (hok : okN < np) (hf : (gone = false ∧ fuse = (okN : Int)) ∨ (gone = true ∧ okN = 0)) (h0 : 0 ≤ steps) (h1 : steps ≤ 900000) (hw : ws.length ≤ 90000) :
    Calls Tryz.prog 75 #[.pointer (some ⟨sb, 0, none⟩), .agg #[.int .i64 k, .string p]] W fun e w' => e = .returned (.tuple #[.int .i64 0, .int .i64 21]) ∧
      (∃ fuse' steps', SV w0 vb d g' lie (ws ++ putW from_ n s (fs.length + 2) E (encF (s : Int) (E : Int) k p.data.toList) okN) from_ m fuse' steps' true w') ∧ SgV w0 sb vb n a g s b fs E false w' := by
  obtain ⟨fa, fc, hS1, hS2⟩ := hS
  obtain ⟨hr1, hr2⟩ := hr.fits
  refine (append_by (okN := okN) (J := okN + 1) (r := 21) (V := fun j W => (if j ≤ okN then SV w0 vb d g' lie (ws ++ putW from_ n s (fs.length + 2) E (encF (s : Int) (E : Int) k p.data.toList) j) from_ m (fuseJ fuse j) (steps + j) gone W else SV w0 vb d g' lie (ws ++ putW from_ n s (fs.length + 2) E (encF (s : Int) (E : Int) k p.data.toList) okN) from_ m (fuseJ fuse okN) (steps + okN) true W) ∧ Sg W sb vb n a g s b fa fc fs E false) k p np hS1 hr2 hs hfs hE1 hE hc hnp ?_ ?_ ?_ ?_ (by omega) (.inr ⟨hok, by decide, rfl, ?_⟩)).mono ?_
  · refine ⟨?_, hS1⟩
    rw [if_pos (by omega), fuseJ_zero]
    simpa [putW] using h
  · rintro j W1 W2 ⟨k1, k2⟩ hb
    refine ⟨?_, k2.below hb⟩
    split at k1
    · rw [if_pos (by assumption)]; exact k1.below hb
    · rw [if_neg (by assumption)]; exact k1.below hb
  · rintro j W1 ⟨k1, k2⟩
    exact k2
  · rintro j hj W1 ⟨k1, k2⟩
    obtain ⟨rfl, hfe⟩ := hf.resolve_right (fun h => by omega)
    rw [if_pos (by omega)] at k1
    obtain ⟨e1, e2⟩ := fuse_next fuse j (by omega)
    refine (sv_writeK (2 + 16 * n + (E + j)) (B (sealL s (fs.length + 2) (pcL (encF (s : Int) (E : Int) k p.data.toList) j))) k1 (by omega) (by rw [B_size, sealL_len, pcL_len]) e2 (by omega) (by omega) (by unfold fuseJ; split <;> omega) (by unfold fuseJ; split <;> omega) (by rw [List.length_append, putW_len]; omega)).mono ?_
    rintro e w' ⟨r1, r2, r3⟩
    refine ⟨r1, ⟨?_, k2.of_tk r3⟩, r3⟩
    rw [if_pos (by omega)]
    rw [e1, B_data, List.append_assoc] at r2
    rw [show steps + ((j + 1 : Nat) : Int) = steps + (j : Int) + 1 from by omega]
    exact r2
  · rintro W1 ⟨k1, k2⟩
    rw [if_pos (Nat.le_refl _)] at k1
    refine (sv_writeD (2 + 16 * n + (E + okN)) (B (sealL s (fs.length + 2) (pcL (encF (s : Int) (E : Int) k p.data.toList) okN))) k1 (by omega) (by rw [B_size, sealL_len, pcL_len]) (by
      rcases hf with ⟨_, e⟩ | ⟨e, _⟩
      · right; rw [e]; unfold fuseJ; rw [if_neg (by omega)]; omega
      · exact .inl e)).mono ?_
    rintro e w' ⟨r1, r2, r3⟩
    refine ⟨r1, ⟨?_, k2.of_tk r3⟩, r3⟩
    rw [if_neg (by omega)]
    exact r2
  · rintro e w' (⟨_, r2, r3, r4⟩ | ⟨r1, _⟩)
    · rw [if_neg (by omega)] at r3
      exact ⟨r2, ⟨_, _, r3⟩, fa, fc, r4, hS2⟩
    · cases r1
end
end Go.Proofs.YtgogackkeodciabGreatDoor.W
end
section
namespace Go.Proofs.YtgogackkeodciabGreatDoor.W
open Go.RowKit
open Go.Proofs.YtgogackkeodciabGreatDoor.M Go.Proofs.YtgogackkeodciabGreatDoor.D Go.Proofs.YtgogackkeodciabGreatDoor.Z
set_option linter.unusedVariables false

/-- The place behind frames. -/
def plc (fs : List (Int × ByteArray)) : Nat := 1 + (fs.map fun f => pcsN f.2.size).sum
theorem plc_nil : plc [] = 1 := rfl
theorem plc_snoc (fs : List (Int × ByteArray)) (f : Int × ByteArray) : plc (fs ++ [f]) = plc fs + pcsN f.2.size := by unfold plc; simp; omega
theorem plc_take (fs : List (Int × ByteArray)) (i : Nat) (f : Int × ByteArray) (h : fs[i]? = some f) : plc (fs.take (i + 1)) = plc (fs.take i) + pcsN f.2.size := by
  rw [← plc_snoc]
  congr 1
  rw [List.take_add_one, h]
  rfl
theorem plc_app (a b : List (Int × ByteArray)) : plc a ≤ plc (a ++ b) := by unfold plc; simp
theorem plc_le (fs : List (Int × ByteArray)) (i : Nat) : plc (fs.take i) ≤ plc fs := by
  have h := plc_app (fs.take i) (fs.drop i)
  rwa [List.take_append_drop] at h
theorem pcs_pos (n : Nat) : 1 ≤ pcsN n := by unfold pcsN; omega
theorem plc_len (fs : List (Int × ByteArray)) : fs.length + 1 ≤ plc fs := by
  unfold plc
  induction fs with
  | nil => simp
  | cons f fs ih => have := pcs_pos f.2.size; simp; omega
/-- May there be such a frame? -/
def FrOk (f : Int × ByteArray) : Prop := 1 ≤ f.1 ∧ f.1 ≤ 255 ∧ f.2.size ≤ 773
/-- The piece j of the frame i, sealed. -/
def pieceS (st i P : Nat) (f : Int × ByteArray) (j : Nat) : ByteArray := sealP st (i + 2) (B (pcL (encF (st : Int) (P : Int) f.1 f.2.data.toList) j))
section
variable {x : List ByteArray} {st c P m : Nat} {L : List UInt8}
theorem open_sealP (st c : Nat) (l : List UInt8) (h1 : st < 4294967296) (h2 : 1 ≤ c) (h3 : c < 65536) (hl : l.length = 52) : opensS (sealP st c (B l)) ∧ stampS (sealP st c (B l)) = st ∧ countS (sealP st c (B l)) = c ∧ (sealP st c (B l)).extract 6 58 = B l := by
  unfold sealP
  rw [B_data]
  exact open_seal st c l h1 h2 h3 hl
theorem run_some (hx : x.length = 16) (h1 : st < 4294967296) (h2 : 1 ≤ c) (h3 : c < 65536) (hm : P + m ≤ 16) (h : ∀ j, j < m → x[P + j]? = some (sealP st c (B (pcL L j)))) : runS x st c P = B (joined L m) ++ runS x st c (P + m) := by
  induction m with
  | zero => show _ = B [] ++ _; apply ByteArray.ext; simp [B]
  | succ m ih =>
    rw [ih (by omega) (fun j hj => h j (by omega))]
    have hy := h m (by omega)
    obtain ⟨e1, e2, e3, e4⟩ := open_sealP st c (pcL L m) h1 h2 h3 (pcL_len L m)
    rw [run_yes x st c (P + m) (by omega) ((ok_at hy _ _).2 ⟨e1, e2, e3⟩), dat_at hy, e4, ← bytes_assoc, B_append]
    rfl
theorem frame_full (f : Int × ByteArray) (hx : x.length = 16) (h1 : st < 4294967296) (h2 : 1 ≤ c) (h3 : c < 65536) (hf : FrOk f) (hP : 1 ≤ P) (hm : P + pcsN f.2.size ≤ 16) (h : ∀ j, j < pcsN f.2.size → x[P + j]? = some (sealP st c (B (pcL (encF (st : Int) (P : Int) f.1 f.2.data.toList) j)))) :
    frameAt x st c P ∧ frF (runS x st c P) = f ∧ (6 + toldF (runS x st c P) + 51) / 52 = pcsN f.2.size := by
  obtain ⟨k, p⟩ := f
  obtain ⟨k1, k2, hp⟩ := hf
  have hr := run_some hx h1 h2 h3 hm h
  have hl : (encF (st : Int) (P : Int) k p.data.toList).length = 7 + p.size := by rw [encF_len]; simp
  have hpc := pcs_pos p.size
  rw [joined_eq, List.take_of_length_le (by rw [hl]; show _ ≤ pcsN p.size * 52; unfold pcsN; omega), ← B_append, bytes_assoc] at hr
  obtain ⟨d1, d2, d3, d4⟩ := dec_enc (st : Int) (P : Int) k p (B (List.replicate (pcsN p.size * 52 - (encF (st : Int) (P : Int) k p.data.toList).length) 0) ++ runS x st c (P + pcsN p.size)) k1 k2 ⟨by omega, by have : P < 16 := (by simp only at hm; omega); omega⟩ hp
  rw [← hr] at d1 d2 d3 d4
  obtain ⟨e1, e2, e3⟩ := decYes d1
  rw [e1] at d2
  rw [e2] at d3
  rw [e3] at d4
  refine ⟨⟨by simp only at hm; omega, d1⟩, ?_, ?_⟩
  · unfold frF
    rw [d2, d3]
  · show _ = pcsN p.size
    unfold pcsN
    omega
theorem frame_part (f : Int × ByteArray) (hx : x.length = 16) (h1 : st < 4294967296) (h2 : 1 ≤ c) (h3 : c < 65536) (hf : FrOk f) (hP : 1 ≤ P) (hP2 : P < 16) (hm : m < pcsN f.2.size) (hm2 : P + m ≤ 16) (h : ∀ j, j < m → x[P + j]? = some (sealP st c (B (pcL (encF (st : Int) (P : Int) f.1 f.2.data.toList) j)))) (hno : ¬ okS x st c (P + m)) : ¬ frameAt x st c P := by
  obtain ⟨k, p⟩ := f
  obtain ⟨k1, k2, hp⟩ := hf
  have hr := run_some hx h1 h2 h3 hm2 h
  have hl : (encF (st : Int) (P : Int) k p.data.toList).length = 7 + p.size := by rw [encF_len]; simp
  have hend : runS x st c (P + m) = ⟨#[]⟩ := by
    by_cases h16 : P + m < 16
    · exact run_no _ _ _ _ h16 hno
    · exact run_past _ _ _ _ (by omega)
  rw [hend, bytes_nil] at hr
  rintro ⟨_, hd⟩
  rw [hr] at hd
  obtain ⟨z1, z2, z3, _⟩ := dec_size _ _ _ hd
  rw [B_size, joined_len] at z1 z2
  obtain ⟨d1, d2, d3, d4⟩ := dec_enc (st : Int) (P : Int) k p ⟨#[]⟩ k1 k2 ⟨by omega, by omega⟩ hp
  rw [bytes_nil] at d1 d4
  rw [(decYes d1).2.2] at d4
  have hm52 : m * 52 ≤ 6 + p.size := by simp only at hm; unfold pcsN at hm; omega
  have hj : joined (encF (st : Int) (P : Int) k p.data.toList) m = (encF (st : Int) (P : Int) k p.data.toList).take (m * 52) := by
    rw [joined_eq, show m * 52 - (encF (st : Int) (P : Int) k p.data.toList).length = 0 from by omega]
    simp
  rw [hj] at z2
  have ht : toldF (B (encF (st : Int) (P : Int) k p.data.toList)) = toldF (B ((encF (st : Int) (P : Int) k p.data.toList).take (m * 52))) := by
    have e : B (encF (st : Int) (P : Int) k p.data.toList) = B ((encF (st : Int) (P : Int) k p.data.toList).take (m * 52)) ++ B ((encF (st : Int) (P : Int) k p.data.toList).drop (m * 52)) := by rw [B_append, List.take_append_drop]
    rw [e]
    exact told_ext _ _ (by rw [B_size, List.length_take]; omega)
  rw [← ht] at z2
  omega
end
/-- Frames lie there, some of them in part: the first ones for sure. -/
structure Lay (x : List ByteArray) (st : Nat) (fs : List (Int × ByteArray)) (sure : Nat) : Prop where
  len : x.length = 16
  ok : ∀ f ∈ fs, FrOk f
  fits : plc fs ≤ 16
  each : ∀ i f, fs[i]? = some f → ∀ j, j < pcsN f.2.size → x[plc (fs.take i) + j]? = some (pieceS st i (plc (fs.take i)) f j) ∨ (sure ≤ i ∧ ¬ okS x st (i + 2) (plc (fs.take i) + j))
  end_ : ¬ frameAt x st (fs.length + 2) (plc fs)
theorem load_lay {x : List ByteArray} {st sure : Nat} {fs : List (Int × ByteArray)} (h : Lay x st fs sure) (hst : st < 4294967296) (hs : sure ≤ fs.length) : ∀ (r i f : Nat), i + r = fs.length → 17 ≤ f + plc (fs.take i) → (i ≤ sure ∨ True) →
    ∃ j, i ≤ j ∧ (sure ≤ j ∨ sure < i) ∧ j ≤ fs.length ∧ loadF x st f (plc (fs.take i)) (fs.take i) = (fs.take j, plc (fs.take j)) := by
  intro r
  have hlf := plc_len fs
  have hfit := h.fits
  induction r with
  | zero =>
    intro i f hi hf _
    obtain rfl : i = fs.length := by omega
    refine ⟨fs.length, Nat.le_refl _, .inl hs, Nat.le_refl _, loadF_no rfl ?_⟩
    rw [List.take_length]
    exact h.end_
  | succ r ih =>
    intro i f hi hf _
    obtain ⟨fr, hfr⟩ : ∃ fr, fs[i]? = some fr := ⟨_, List.getElem?_eq_getElem (by omega)⟩
    have hok := h.ok fr (List.mem_of_getElem? hfr)
    have hl : (fs.take i).length = i := by rw [List.length_take]; omega
    have hpt := plc_take fs i fr hfr
    have hple := plc_le fs (i + 1)
    have hpl := plc_len (fs.take i)
    have hpos := pcs_pos fr.2.size
    by_cases hall : ∀ j, j < pcsN fr.2.size → x[plc (fs.take i) + j]? = some (pieceS st i (plc (fs.take i)) fr j)
    · obtain ⟨e1, e2, e3⟩ := frame_full (c := i + 2) fr h.len hst (by omega) (by omega) hok (by omega) (by omega) hall
      obtain ⟨f', rfl⟩ : ∃ f', f = f' + 1 := ⟨f - 1, by omega⟩
      obtain ⟨j, j1, j2, j3, j4⟩ := ih (i + 1) f' (by omega) (by omega) (.inr trivial)
      refine ⟨j, by omega, by omega, j3, ?_⟩
      rw [loadF_yes (d := runS x st (i + 2) (plc (fs.take i))) (by rw [hl]) e1.1 e1.2, e2, e3, ← hpt, ← j4]
      congr 1
      rw [List.take_add_one, hfr]; rfl
    · obtain ⟨m, hm, hbef, hno⟩ : ∃ m, m < pcsN fr.2.size ∧ (∀ j, j < m → x[plc (fs.take i) + j]? = some (pieceS st i (plc (fs.take i)) fr j)) ∧ ¬ x[plc (fs.take i) + m]? = some (pieceS st i (plc (fs.take i)) fr m) := by
        have hex : ∃ m, m < pcsN fr.2.size ∧ ¬ x[plc (fs.take i) + m]? = some (pieceS st i (plc (fs.take i)) fr m) := by
          apply Classical.byContradiction
          intro hn
          exact hall (fun j hj => Classical.byContradiction fun e => hn ⟨j, hj, e⟩)
        obtain ⟨m0, hm0⟩ := hex
        have hwf : ∀ n, (∃ m, m ≤ n ∧ m < pcsN fr.2.size ∧ ¬ x[plc (fs.take i) + m]? = some (pieceS st i (plc (fs.take i)) fr m)) → ∃ m, m < pcsN fr.2.size ∧ (∀ j, j < m → x[plc (fs.take i) + j]? = some (pieceS st i (plc (fs.take i)) fr j)) ∧ ¬ x[plc (fs.take i) + m]? = some (pieceS st i (plc (fs.take i)) fr m) := by
          intro n
          induction n with
          | zero =>
            rintro ⟨m, h1, h2, h3⟩
            obtain rfl : m = 0 := by omega
            exact ⟨0, h2, fun j hj => by omega, h3⟩
          | succ n ihn =>
            rintro ⟨m, h1, h2, h3⟩
            by_cases hlow : ∃ m, m ≤ n ∧ m < pcsN fr.2.size ∧ ¬ x[plc (fs.take i) + m]? = some (pieceS st i (plc (fs.take i)) fr m)
            · exact ihn hlow
            · exact ⟨m, h2, fun j hj => Classical.byContradiction fun e => hlow ⟨j, by omega, by omega, e⟩, h3⟩
        exact hwf m0 ⟨m0, Nat.le_refl _, hm0⟩
      obtain ⟨hsu, hnk⟩ := (h.each i fr hfr m hm).resolve_left hno
      refine ⟨i, Nat.le_refl _, by omega, by omega, loadF_no rfl ?_⟩
      rw [hl]
      exact frame_part fr h.len hst (by omega) (by omega) hok (by omega) (by omega) hm (by omega) hbef hnk
theorem load_lays {x : List ByteArray} {st sure : Nat} {fs : List (Int × ByteArray)} (h : Lay x st fs sure) (hst : st < 4294967296) (hs : sure ≤ fs.length) : ∃ j, sure ≤ j ∧ j ≤ fs.length ∧ loadF x st 16 1 [] = (fs.take j, plc (fs.take j)) := by
  obtain ⟨j, _, j2, j3, j4⟩ := load_lay h hst hs fs.length 0 16 (by omega) (by simp [plc_nil]) (.inr trivial)
  exact ⟨j, by omega, j3, j4⟩
theorem load_all {x : List ByteArray} {st : Nat} {fs : List (Int × ByteArray)} (h : Lay x st fs fs.length) (hst : st < 4294967296) : loadF x st 16 1 [] = (fs, plc fs) := by
  obtain ⟨j, j1, j2, j3⟩ := load_lays h hst (Nat.le_refl _)
  obtain rfl : j = fs.length := by omega
  rw [j3, List.take_length]
/-- The first sector of a segment that was made. -/
theorem head_put (a g st b : Nat) (h0 : 1 ≤ a) (h1 : a < 65536) (h2 : g < 4294967296) (h3 : st < 4294967296) (h4 : b ≤ 1099511627776) :
    headS (sealP st 1 (B (pcL (headerL a g st b) 0))) ∧ stampS (sealP st 1 (B (pcL (headerL a g st b) 0))) = st ∧ logH ((sealP st 1 (B (pcL (headerL a g st b) 0))).extract 6 58) = a ∧ genH ((sealP st 1 (B (pcL (headerL a g st b) 0))).extract 6 58) = g ∧ baseH ((sealP st 1 (B (pcL (headerL a g st b) 0))).extract 6 58) = b := by
  obtain ⟨e1, e2, e3, e4⟩ := open_sealP st 1 (pcL (headerL a g st b) 0) h3 (by omega) (by omega) (pcL_len _ _)
  have hp : B (pcL (headerL a g st b) 0) = B (headerL a g st b) ++ B (List.replicate 20 0) := by
    rw [B_append]
    unfold pcL
    rw [Nat.zero_mul, List.drop_zero, List.take_of_length_le (by rw [headerL_len]; omega), headerL_len]
  obtain ⟨o1, o2, o3, o4, _⟩ := open_header a g st b (B (List.replicate 20 0)) h1 h2 h3 (by omega)
  have hi := isH_header a g st b (B (List.replicate 20 0)) h0 h1 h2 h3 h4
  unfold headS
  rw [e4, hp]
  exact ⟨⟨e1, e3, hi, by rw [o3, ← hp]; exact e2.symm⟩, by rw [← hp]; exact e2, o1, o2, o4⟩
end Go.Proofs.YtgogackkeodciabGreatDoor.W
end
section
namespace Go.Proofs.YtgogackkeodciabGreatDoor.W
open Go.RowKit
open Go.Proofs.YtgogackkeodciabGreatDoor.M Go.Proofs.YtgogackkeodciabGreatDoor.D Go.Proofs.YtgogackkeodciabGreatDoor.Z
set_option linter.unusedVariables false

section
variable {w0 W : World} {sb vb d g' n a g s b : Nat} {fs : List (Int × ByteArray)} {E : Nat} {sl : Bool} {lie : List (List UInt8)} {ws : List (Nat × List UInt8)} {from_ m : Nat} {fuse steps : Int} {gone : Bool}
/-- A segment's object that is new leaves the view. -/
theorem SV.one {W' : World} {cs : List Value} (h : SV w0 vb d g' lie ws from_ m fuse steps gone W) (hS : Whole W sb 112 cs) (hn : w0.heap.size ≤ sb) (hk : Kept (fun q => q = sb) W W') : SV w0 vb d g' lie ws from_ m fuse steps gone W' := by
  obtain ⟨v, k1, k2, k3⟩ := h
  exact ⟨v, Vw.of_seg k1 hk (fun q hq => by rw [hq]; exact off_view k1 hS (by decide) (by decide) (by decide) (by decide)), k2, k3.trans (hk.below k3.size (fun q e => by omega))⟩
set_option maxRecDepth 100000 in
theorem la_create (h : SV w0 vb d g' lie ws from_ m fuse steps false W) (hr : Room from_ m n) (hT : Wide W) (ha1 : 1 ≤ a) (ha : a < 65536) (hg : g < 4294967296) (hs : s < 4294967296) (hb : b ≤ 1099511627776)
    (hf : fuse < 0) (hf2 : -1 ≤ fuse) (h0 : 0 ≤ steps) (h1 : steps ≤ 900000) (hw : ws.length ≤ 90000) :
    Calls Tryz.prog 87 #[.pointer (some ⟨vb, 0, none⟩), .int .i64 (n : Int), .agg #[.int .i64 (a : Int), .int .u32 (g : Int), .int .u32 (s : Int), .int .i64 (b : Int)]] W fun e w' => ∃ sb, e = .returned (.tuple #[.pointer (some ⟨sb, 0, none⟩), .int .i64 0]) ∧
      SV w0 vb d g' lie (ws ++ putW from_ n s 1 0 (headerL a g s b) 1) from_ m fuse (steps + 1) false w' ∧ SgV w0 sb vb n a g s b [] 1 false w' := by
  obtain ⟨hr1, hr2⟩ := hr.fits
  obtain ⟨q, q1, q2, q3⟩ := hr.q
  obtain ⟨v, k1, k2, k3⟩ := id h
  refine (create_by n q a g s b 0 (fun j W => if j = 0 then SV w0 vb d g' lie ws from_ m fuse steps false W else SV w0 vb d g' lie (ws ++ putW from_ n s 1 0 (headerL a g s b) 1) from_ m fuse (steps + 1) false W) k1 q1 q2 q3 hT ha1 ha hg hs hb h ?_ ?_ ?_).mono ?_
  · intro j W1 W2 h1 h2
    show if j = 0 then _ else _
    split
    · rename_i e; rw [if_pos e] at h1; exact h1.below h2
    · rename_i e; rw [if_neg e] at h1; exact h1.below h2
  · intro j W1 W2 sb cs h1 h2 h3 h4
    show if j = 0 then _ else _
    split
    · rename_i e; rw [if_pos e] at h1; exact h1.one h2 (Nat.le_trans k3.size h3) h4
    · rename_i e; rw [if_neg e] at h1; exact h1.one h2 (Nat.le_trans k3.size h3) h4
  · intro W1 h2
    refine (sv_writeK (2 + 16 * n + (0 + 0)) (B (sealL s 1 (pcL (headerL a g s b) 0))) h2 (by omega) (by rw [B_size, sealL_len, pcL_len]) (by omega) h0 (by omega) (by omega) (by omega) (by omega)).mono ?_
    rintro e w' ⟨r1, r2, r3⟩
    rw [if_neg (by omega), B_data] at r2
    exact ⟨r1, r2, r3⟩
  · rintro e w' (⟨r1, _⟩ | ⟨_, r2, r3, r4⟩)
    · exact absurd rfl r1
    · refine ⟨_, r2, r3, none, 0, r4, fun q hq => ?_⟩
      rcases hq with e | e
      · have := k3.size; omega
      · cases e
theorem la_wipe (h : SV w0 vb d g' lie ws from_ m fuse steps false W) (hr : Room from_ m n) (hf : fuse < 0) (hf2 : -1 ≤ fuse) (h0 : 0 ≤ steps) (h1 : steps ≤ 900000) (hw : ws.length ≤ 90000) :
    Calls Tryz.prog 76 #[.pointer (some ⟨vb, 0, none⟩), .int .i64 (n : Int)] W fun e w' => e = .returned (.int .i64 0) ∧ SV w0 vb d g' lie (ws ++ [(from_ + (2 + 16 * n + 0), List.replicate 64 0)]) from_ m fuse (steps + 1) false w' := by
  obtain ⟨hr1, hr2⟩ := hr.fits
  obtain ⟨q, q1, q2, q3⟩ := hr.q
  obtain ⟨v, k1, k2, k3⟩ := id h
  refine (wipe_by n q 0 (fun j W => if j = 0 then SV w0 vb d g' lie ws from_ m fuse steps false W else SV w0 vb d g' lie (ws ++ [(from_ + (2 + 16 * n + 0), List.replicate 64 0)]) from_ m fuse (steps + 1) false W) k1 q1 q2 q3 h ?_ ?_)
  · intro j W1 W2 h1 h2
    show if j = 0 then _ else _
    split
    · rename_i e; rw [if_pos e] at h1; exact h1.below h2
    · rename_i e; rw [if_neg e] at h1; exact h1.below h2
  · intro W1 h2
    refine (sv_writeK (2 + 16 * n + 0) (zerosB 64) h2 (by omega) (zerosB_size 64) (by omega) h0 (by omega) (by omega) (by omega) (by omega)).mono ?_
    rintro e w' ⟨r1, r2, r3⟩
    refine ⟨r1, ?_⟩
    rw [if_neg (by omega)] at r2
    exact r2
end
theorem room13 (n : Nat) (h : n < 2) : Room 1 34 n := ⟨32, rfl, by omega, h⟩
theorem zeros_at (N k : Nat) (h : k < N) : (zeros N).getD k [] = List.replicate 64 0 := by
  unfold zeros
  rw [List.getD_eq_getElem?_getD, List.getElem?_replicate, if_pos h]; rfl
/-- Sectors of bytes 0. -/
theorem sec_zero (n : Nat) (h : n < 2) : secOf (zeros 36) [] 1 n = blankS := by
  unfold secOf blankS
  apply List.ext_getElem?
  intro k
  by_cases hk : k < 16
  · rw [List.getElem?_map, List.getElem?_range hk, List.getElem?_replicate, if_pos hk, Option.map_some, zeros_at _ _ (by omega)]
    rfl
  · rw [List.getElem?_eq_none (by simp; omega), List.getElem?_eq_none (by simp; omega)]
theorem zero_shut : ¬ opensS (zerosB 64) := by
  intro h
  exact h.2.1 (by decide)
/-- The small case of layer 13. -/
abbrev abcB : ByteArray := ⟨#[97, 98, 99]⟩
theorem small_lay : Lay (putP (putP blankS 9 1 0 (fun i => B (pcL (headerL 4 1 9 5) i)) 1) 9 2 1 (fun i => B (pcL (encF ((9 : Nat) : Int) ((1 : Nat) : Int) 1 abcB.data.toList) i)) 1) 9 [(1, abcB)] 1 := by
  have hl : (putP (putP blankS 9 1 0 (fun i => B (pcL (headerL 4 1 9 5) i)) 1) 9 2 1 (fun i => B (pcL (encF ((9 : Nat) : Int) ((1 : Nat) : Int) 1 abcB.data.toList) i)) 1).length = 16 := by rw [putP_len, putP_len]; rfl
  refine ⟨hl, ?_, by decide, ?_, ?_⟩
  · intro f hf
    obtain rfl : f = (1, abcB) := by simpa using hf
    exact ⟨by decide, by decide, by decide⟩
  · intro i f hi j hj
    obtain rfl : i = 0 := by have := (List.getElem?_eq_some_iff.1 hi).1; simp at this; omega
    obtain rfl : f = (1, abcB) := by simpa using hi.symm
    have hp : pcsN abcB.size = 1 := by decide
    obtain rfl : j = 0 := by simp only at hj; omega
    left
    rw [putP_at _ _ _ _ _ _ _ (by rw [putP_len]; decide), if_pos (by decide)]
    rfl
  · rintro ⟨_, h⟩
    have hr : runS (putP (putP blankS 9 1 0 (fun i => B (pcL (headerL 4 1 9 5) i)) 1) 9 2 1 (fun i => B (pcL (encF ((9 : Nat) : Int) ((1 : Nat) : Int) 1 abcB.data.toList) i)) 1) 9 3 2 = ⟨#[]⟩ := by
      apply run_no _ _ _ _ (by decide)
      rintro ⟨y, h1, h2, _⟩
      rw [putP_at _ _ _ _ _ _ _ (by rw [putP_len]; decide), if_neg (by decide), putP_at _ _ _ _ _ _ _ (by decide), if_neg (by decide)] at h1
      have : y = zerosB 64 := by
        have e : blankS[2]? = some (zerosB 64) := rfl
        rw [e] at h1; cases h1; rfl
      exact zero_shut (this ▸ h2)
    have e2 : plc [(1, abcB)] = 2 := by decide
    rw [e2] at h
    rw [show ([(1, abcB)] : List (Int × ByteArray)).length + 2 = 3 from rfl, hr] at h
    exact dec_nil _ _ h
theorem small_sec : secOf (zeros 36) (putW 1 1 9 1 0 (headerL 4 1 9 5) 1 ++ putW 1 1 9 2 1 (encF ((9 : Nat) : Int) ((1 : Nat) : Int) 1 abcB.data.toList) 1) 1 1 = putP (putP blankS 9 1 0 (fun i => B (pcL (headerL 4 1 9 5) i)) 1) 9 2 1 (fun i => B (pcL (encF ((9 : Nat) : Int) ((1 : Nat) : Int) 1 abcB.data.toList) i)) 1 := by
  have h := sec_put (zeros 36) [] 1 1 9 1 0 (headerL 4 1 9 5) 1 (by omega)
  rw [List.nil_append, sec_zero 1 (by omega)] at h
  have h2 := sec_put (zeros 36) (putW 1 1 9 1 0 (headerL 4 1 9 5) 1) 1 1 9 2 1 (encF ((9 : Nat) : Int) ((1 : Nat) : Int) 1 abcB.data.toList) 1 (by omega)
  rw [h] at h2
  exact h2
theorem small_far : secOf (zeros 36) (putW 1 1 9 1 0 (headerL 4 1 9 5) 1 ++ putW 1 1 9 2 1 (encF ((9 : Nat) : Int) ((1 : Nat) : Int) 1 abcB.data.toList) 1) 1 0 = blankS := by
  have h2 := sec_far (zeros 36) (putW 1 1 9 1 0 (headerL 4 1 9 5) 1) 1 1 0 9 2 1 (encF ((9 : Nat) : Int) ((1 : Nat) : Int) 1 abcB.data.toList) 1 (by omega) (by decide)
  have h := sec_far (zeros 36) [] 1 1 0 9 1 0 (headerL 4 1 9 5) 1 (by omega) (by decide)
  rw [List.nil_append, sec_zero 0 (by omega)] at h
  rw [h] at h2
  exact h2
/-- The sectors of a segment with one frame, over sectors of bytes 0. -/
theorem two_at (H L : List UInt8) (st : Nat) : (putP (putP blankS st 1 0 (fun i => B (pcL H i)) 1) st 2 1 (fun i => B (pcL L i)) 1)[0]? = some (sealP st 1 (B (pcL H 0))) ∧
    (putP (putP blankS st 1 0 (fun i => B (pcL H i)) 1) st 2 1 (fun i => B (pcL L i)) 1)[1]? = some (sealP st 2 (B (pcL L 0))) := by
  constructor
  · rw [putP_at _ _ _ _ _ _ _ (by rw [putP_len]; decide), if_neg (by decide), putP_at _ _ _ _ _ _ _ (by decide), if_pos (by decide)]
  · rw [putP_at _ _ _ _ _ _ _ (by rw [putP_len]; decide), if_pos (by decide)]
theorem field_base (a b c d : Value) (W : World) : (Instr.field 80 (.agg #[a, b, c, d]) 3).run Tryz.prog W = .ok d W := by kernel_rfl
end Go.Proofs.YtgogackkeodciabGreatDoor.W
end
