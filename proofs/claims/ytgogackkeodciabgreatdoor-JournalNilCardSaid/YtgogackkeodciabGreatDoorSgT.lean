/- Frames that come in, opened; rows of frames held against one another; which are gone through. A segment that is made in a law's own view, frame by frame, and loaded again. -/
import Derived.Test.YtgogackkeodciabGreatDoorSgL
import Derived.Test.YtgogackkeodciabGreatDoorOpenBytes
import Derived.Test.YtgogackkeodciabGreatDoorHdAll
import Derived.Deep.Slices
section
namespace Go.Proofs.YtgogackkeodciabGreatDoor.W
open Go.ChangeShapes Go.WideShapes Go.ChangeAt Go.RowKit Go.Sort
open Go.Proofs.YtgogackkeodciabGreatDoor.M Go.Proofs.YtgogackkeodciabGreatDoor.D Go.Proofs.YtgogackkeodciabGreatDoor.Z
set_option linter.unusedVariables false

/-- Frames that come in. -/
structure FrIn (w : World) (a : Option Addr) (len : Nat) (fs : List (Int × ByteArray)) : Prop where
  len : fs.length = len
  at_ : FrAt w a fs
  ok : ∀ f ∈ fs, (Lit.int .i64 f.1).wf = true ∧ f.2.size ≤ maxLen
theorem spotF {w : World} {a : Addr} {u v : Value} {j : Nat} (h0 : w.cell? (a.add 0) = some u) (h : w.cell? (a.add j) = some v) : ∃ b o, a = ⟨b, o, none⟩ ∧ w.cell? ⟨b, o + j, none⟩ = some v := by
  obtain ⟨b, o, spot⟩ := a
  have hspot := World.cell?_spot h0
  simp [Addr.add] at hspot
  subst hspot
  exact ⟨b, o, rfl, by rwa [show (⟨b, o, none⟩ : Addr).add j = ⟨b, o + j, none⟩ from by unfold Addr.add; split <;> simp_all] at h⟩
section
variable {H : Type} {enc : TypeId × Value → H} {w : World} {base : Nat} {held : Bool}
set_option maxRecDepth 100000 in
theorem open_frames {fuel : Nat} {a : Option Addr} {len cap : Nat} {x : DataW H × List MemPlace} (h : DataW.trod enc Tryz.prog w base (fun _ => true) held fuel 22 [.slice a len cap] = some x) : ∃ fs, FrIn w a len fs := by
  rcases Deep.open_slice Tryz.underlying22 h with ⟨hcs, _⟩ | ⟨a', len', cap', m, n, D, Pl, hcs, _, hl, hm, hmm, _, hi⟩
  · have hkv : Value.slice a len cap = .slice none 0 0 := by simpa using hcs
    injection hkv with e1 e2 e3
    subst e1 e2
    exact ⟨[], rfl, fun i f hf => by simp at hf, fun f hf => by simp at hf⟩
  · have hkv : Value.slice a len cap = .slice (some a') len' cap' := by simpa using hcs
    injection hkv with e1 e2 e3
    subst e1 e2
    have hq : ∀ i, ∃ q : Int × ByteArray, i < len → w.cell? (a'.add (i * 2)) = some (.int .i64 q.1) ∧ w.cell? (a'.add (i * 2 + 1)) = some (.string q.2) ∧ (Lit.int .i64 q.1).wf = true ∧ q.2.size ≤ maxLen := fun i => by
      by_cases hlt : i < len
      · obtain ⟨cs', hc, ht'⟩ := hi i (by rw [hmm]; simp; omega)
        rw [cellsFr] at hc
        obtain ⟨_, hcl, hat⟩ := World.cells?_some hc
        obtain ⟨y0, y1, n', _, _, h0, h1⟩ := trod_struct2 Tryz.underlying36 ht'
        match cs', hcl with
        | [c0, c1], _ =>
          have g0 : DataW.trod enc Tryz.prog w base (fun _ => true) held n' 3 [c0] = some y0 := by rw [cellsFi] at h0; exact h0
          have g1 : DataW.trod enc Tryz.prog w base (fun _ => true) held n' 9 [c1] = some y1 := by rw [cellsFs] at h1; exact h1
          obtain ⟨x0, e0, _, v0⟩ := DataW.trod_int Tryz.underlying3 g0
          obtain ⟨x1, e1, _, v1⟩ := DataW.trod_string Tryz.underlying9 g1
          simp only [List.cons.injEq, and_true] at e0 e1
          have a0 := hat 0 (by omega)
          have a1 := hat 1 (by omega)
          rw [Deep.add_add] at a0 a1
          exact ⟨(x0, x1), fun _ => ⟨by rw [Nat.add_zero] at a0; rw [a0, e0]; rfl, by rw [a1, e1]; rfl, v0, v1⟩⟩
      · exact ⟨(0, ⟨#[]⟩), fun h => absurd h hlt⟩
    refine ⟨(List.range len).map fun i => Classical.choose (hq i), by simp, fun j q hjq => ?_, fun f hf => ?_⟩
    · have hj : j < len := by
        have := (List.getElem?_eq_some_iff.1 hjq).1
        simpa using this
      have hs := Classical.choose_spec (hq j) hj
      rw [List.getElem?_map, List.getElem?_range hj] at hjq
      have e : Classical.choose (hq j) = q := by simpa using hjq
      rw [e] at hs
      obtain ⟨u0, h00⟩ : ∃ u, w.cell? (a'.add 0) = some u := ⟨_, (Classical.choose_spec (hq 0) (by omega)).1⟩
      obtain ⟨b, o, rfl, c0⟩ := spotF h00 hs.1
      obtain ⟨b', o', e', c1⟩ := spotF h00 hs.2.1
      cases e'
      exact ⟨b, o, rfl, World.block_lt_of_cell? w _ c0, c0, c1⟩
    · obtain ⟨i, hi, rfl⟩ := List.mem_map.1 hf
      exact (Classical.choose_spec (hq i) (List.mem_range.1 hi)).2.2
end
theorem key_fr : Tryz.prog.keyTypeAt 3 36 = true := by kernel_rfl
theorem litFs (s : ByteArray) (h : s.size ≤ maxLen) (d : Nat) : Tryz.prog.keyLits (d + 1) 9 [.string s] = some [.string s.data.toList] := by
  unfold Program.keyLits
  rw [Tryz.underlying9]
  simp [h]
theorem lits_fr (k : Int) (p : ByteArray) (hk : (Lit.int .i64 k).wf = true) (hp : p.size ≤ maxLen) : Tryz.prog.keyLits 3 36 [.int .i64 k, .string p] = some [.int .i64 k, .string p.data.toList] := by
  unfold Program.keyLits
  rw [Tryz.underlying36]
  simp [cellsFr, cellsFi, cellsFs, litHi k hk 1, litFs p hp 1]
theorem same_fr (k : Int) (p : ByteArray) (hk : (Lit.int .i64 k).wf = true) (hp : p.size ≤ maxLen) (w : World) :
    (Op.equalIn 10000 36 (.agg #[.int .i64 k, .string p]) (.agg #[.int .i64 k, .string p])).run Tryz.prog w = .ok true w := by
  obtain ⟨r, h1, h2⟩ := run_equalIn_deep 9997 3 36 key_fr w 3 3 (.agg #[.int .i64 k, .string p]) (.agg #[.int .i64 k, .string p]) _ _ (by kernel_rfl) (by kernel_rfl) (lits_fr k p hk hp) (lits_fr k p hk hp)
  rw [h1, h2.2 rfl]
/-- Are frames more than the laws go through? -/
def bigF (fs : List (Int × ByteArray)) : Bool := decide (40 < fs.length) || fs.any fun f => decide (900 < f.2.size)
theorem bigF_no {fs : List (Int × ByteArray)} (h : bigF fs = false) : fs.length ≤ 40 ∧ ∀ f ∈ fs, f.2.size ≤ 900 := by
  unfold bigF at h
  simp at h
  exact ⟨by omega, fun f hf => h.2 _ _ hf⟩
end Go.Proofs.YtgogackkeodciabGreatDoor.W
end
section
namespace Go.Proofs.YtgogackkeodciabGreatDoor.W
open Go.RowKit
open Go.Proofs.YtgogackkeodciabGreatDoor.M Go.Proofs.YtgogackkeodciabGreatDoor.D Go.Proofs.YtgogackkeodciabGreatDoor.Z
set_option linter.unusedVariables false

theorem wf_i64 {a : Int} (h1 : -9223372036854775808 ≤ a) (h2 : a ≤ 9223372036854775807) : (Lit.int .i64 a).wf = true := by
  have e1 : IntKind.i64.min = -9223372036854775808 := by decide
  have e2 : IntKind.i64.max = 9223372036854775807 := by decide
  simp [Lit.wf, e1, e2, h1, h2]
theorem wf_u32 {a : Int} (h1 : 0 ≤ a) (h2 : a < 4294967296) : (Lit.int .u32 a).wf = true := by
  have e1 : IntKind.u32.min = 0 := by decide
  have e2 : IntKind.u32.max = 4294967295 := by decide
  simp [Lit.wf, e1, e2, h1]
  omega
theorem wf_frame {f : Int × ByteArray} (h : FrOk f) : (Lit.int .i64 f.1).wf = true ∧ f.2.size ≤ maxLen := by
  obtain ⟨z1, z2, z3⟩ := h
  exact ⟨wf_i64 (by omega) (by omega), by unfold maxLen; omega⟩
theorem okH_true {a b : Int} (h : okH a b = true) : 1 ≤ a ∧ a ≤ 65535 ∧ 0 ≤ b ∧ b ≤ 1099511627776 := by
  unfold okH at h
  exact of_decide_eq_true h
theorem lit_nat {a : Int} (h : 0 ≤ a) : ∃ n : Nat, a = n := ⟨a.toNat, by omega⟩
theorem lit_u32 {a : Int} (h : (Lit.int .u32 a).wf = true) : 0 ≤ a ∧ a < 4294967296 := by
  have hb : IntKind.u32.min ≤ a ∧ a ≤ IntKind.u32.max := by simpa [Lit.wf] using h
  have h1 : IntKind.u32.min = 0 := by decide
  have h2 : IntKind.u32.max = 4294967295 := by decide
  omega
/-- Frames lie there, and nothing of the stamp behind them. -/
structure LayB (x : List ByteArray) (st : Nat) (fs : List (Int × ByteArray)) : Prop where
  len : x.length = 16
  ok : ∀ f ∈ fs, FrOk f
  fits : plc fs ≤ 16
  each : ∀ i f, fs[i]? = some f → ∀ j, j < pcsN f.2.size → x[plc (fs.take i) + j]? = some (pieceS st i (plc (fs.take i)) f j)
  behind : ∀ k c, plc fs ≤ k → k < 16 → ¬ okS x st c k
theorem LayB.end_ {x : List ByteArray} {st c : Nat} {fs : List (Int × ByteArray)} (h : LayB x st fs) : ¬ frameAt x st c (plc fs) := by
  rintro ⟨h1, h2⟩
  rw [run_no _ _ _ _ h1 (h.behind _ _ (Nat.le_refl _) h1)] at h2
  exact dec_nil _ _ h2
theorem LayB.lay {x : List ByteArray} {st : Nat} {fs : List (Int × ByteArray)} (h : LayB x st fs) : Lay x st fs fs.length :=
  ⟨h.len, h.ok, h.fits, fun i f hi j hj => .inl (h.each i f hi j hj), h.end_⟩
/-- The sectors with one frame more. -/
abbrev moreX (x : List ByteArray) (st : Nat) (fs : List (Int × ByteArray)) (f : Int × ByteArray) : List ByteArray := putP x st (fs.length + 2) (plc fs) (fun i => B (pcL (encF (st : Int) (plc fs : Int) f.1 f.2.data.toList) i)) (pcsN f.2.size)
theorem LayB.add {x : List ByteArray} {st : Nat} {fs : List (Int × ByteArray)} {f : Int × ByteArray} (h : LayB x st fs) (hf : FrOk f) (hp : plc fs + pcsN f.2.size ≤ 16) : LayB (moreX x st fs f) st (fs ++ [f]) := by
  have hx := h.len
  refine ⟨by unfold moreX; rw [putP_len, hx], ?_, by rw [plc_snoc]; exact hp, ?_, ?_⟩
  · intro g hg
    rcases List.mem_append.1 hg with h1 | h1
    · exact h.ok g h1
    · obtain rfl : g = f := by simpa using h1
      exact hf
  · intro i g hg j hj
    unfold moreX
    rw [putP_at _ _ _ _ _ _ _ (by rw [hx]; exact hp)]
    by_cases hi : i < fs.length
    · rw [List.getElem?_append_left hi] at hg
      have e : (fs ++ [f]).take i = fs.take i := by rw [List.take_append_of_le_length (by omega)]
      have ht := plc_take fs i g hg
      have hl := plc_le fs (i + 1)
      rw [e, if_neg (by omega)]
      exact h.each i g hg j hj
    · have hi2 : i < (fs ++ [f]).length := (List.getElem?_eq_some_iff.1 hg).1
      obtain rfl : i = fs.length := by rw [List.length_append, List.length_singleton] at hi2; omega
      obtain rfl : g = f := by simpa using hg.symm
      have e : (fs ++ [g]).take fs.length = fs := by simp
      rw [e, if_pos (by omega), Nat.add_sub_cancel_left]
      rfl
  · intro k c hk hk2
    rw [plc_snoc] at hk
    rintro ⟨y, h1, h2, h3, h4⟩
    unfold moreX at h1
    rw [putP_at _ _ _ _ _ _ _ (by rw [hx]; exact hp), if_neg (by omega)] at h1
    exact h.behind k c (by omega) hk2 ⟨y, h1, h2, h3, h4⟩
theorem LayB.zero (st a g b : Nat) : LayB (putP blankS st 1 0 (fun i => B (pcL (headerL a g st b) i)) 1) st [] := by
  refine ⟨by rw [putP_len]; rfl, fun f hf => by simp at hf, by decide, fun i f hf => by simp at hf, ?_⟩
  intro k c hk hk2
  rw [plc_nil] at hk
  rintro ⟨y, h1, h2, _⟩
  rw [putP_at _ _ _ _ _ _ _ (by decide), if_neg (by omega)] at h1
  unfold blankS at h1
  rw [List.getElem?_replicate, if_pos hk2] at h1
  cases h1
  exact zero_shut h2
/-- What an Append comes to: the frames, the place, the error. -/
def apd (fs : List (Int × ByteArray)) (f : Int × ByteArray) : List (Int × ByteArray) × Int × Int :=
  if wrongF ((plS (plc fs) : Nat) : Int) f.1 f.2.size ≠ 0 then (fs, 0, wrongF ((plS (plc fs) : Nat) : Int) f.1 f.2.size)
  else if 16 < plc fs + pcsN f.2.size then (fs, 0, 5) else (fs ++ [f], plc fs, 0)
def apdX (x : List ByteArray) (st : Nat) (fs : List (Int × ByteArray)) (f : Int × ByteArray) : List ByteArray :=
  if wrongF ((plS (plc fs) : Nat) : Int) f.1 f.2.size ≠ 0 then x else if 16 < plc fs + pcsN f.2.size then x else moreX x st fs f
/-- The law's segment, made of frames. -/
def SegM (w0 : World) (vb d g' sb n a g s b : Nat) (fs : List (Int × ByteArray)) (X : List ByteArray) (W : World) : Prop :=
  ∃ ws, SV w0 vb d g' (zeros 36) ws 1 34 (-1) (plc fs) false W ∧ SgV w0 sb vb n a g s b fs (plc fs) false W ∧ ws.length = plc fs ∧ secOf (zeros 36) ws 1 n = X ∧ LayB X s fs ∧ X[0]? = some (sealP s 1 (B (pcL (headerL a g s b) 0)))
section
variable {w0 W : World} {vb d g' sb n a g s b : Nat} {fs : List (Int × ByteArray)} {X : List ByteArray}
theorem SegM.below {W' : World} (h : SegM w0 vb d g' sb n a g s b fs X W) (hb : Below W.heap.size W W') : SegM w0 vb d g' sb n a g s b fs X W' := by
  obtain ⟨ws, h1, h2, h3, h4, h5, h6⟩ := h
  exact ⟨ws, h1.below hb, h2.below hb, h3, h4, h5, h6⟩
theorem SegM.since (h : SegM w0 vb d g' sb n a g s b fs X W) : Below w0.heap.size w0 W := by
  obtain ⟨ws, h1, _⟩ := h
  exact h1.since
theorem seg_made (h : SV w0 vb d g' (zeros 36) [] 1 34 (-1) 0 false W) (hn : n < 2) (hT : Wide w0) (ha1 : 1 ≤ a) (ha : a < 65536) (hg : g < 4294967296) (hs : s < 4294967296) (hb : b ≤ 1099511627776) :
    Calls Tryz.prog 87 #[.pointer (some ⟨vb, 0, none⟩), .int .i64 (n : Int), .agg #[.int .i64 (a : Int), .int .u32 (g : Int), .int .u32 (s : Int), .int .i64 (b : Int)]] W fun e w' => ∃ sb, e = .returned (.tuple #[.pointer (some ⟨sb, 0, none⟩), .int .i64 0]) ∧
      SegM w0 vb d g' sb n a g s b [] (putP blankS s 1 0 (fun i => B (pcL (headerL a g s b) i)) 1) w' := by
  refine (la_create h (room13 n hn) (hT.below h.since) ha1 ha hg hs hb (by decide) (by decide) (by decide) (by decide) (by decide)).mono ?_
  rintro e w' ⟨sb, r1, r2, r3⟩
  refine ⟨sb, r1, _, r2, r3, by rw [List.nil_append, putW_len]; rfl, ?_, LayB.zero s a g b, ?_⟩
  · have e := sec_put (zeros 36) [] 1 n s 1 0 (headerL a g s b) 1 (by omega)
    rw [sec_zero n hn] at e
    exact e
  · rw [putP_at _ _ _ _ _ _ _ (by decide), if_pos (by decide)]
theorem putP_far (x : List ByteArray) (st c at_ : Nat) (p : Nat → ByteArray) (k : Nat) (hl : at_ + k ≤ x.length) (h : 1 ≤ at_) : (putP x st c at_ p k)[0]? = x[0]? := by
  rw [putP_at _ _ _ _ _ _ _ hl, if_neg (by omega)]
theorem seg_step (k : Int) (p : ByteArray) (h : SegM w0 vb d g' sb n a g s b fs X W) (hn : n < 2) (hs : s < 4294967296) (hp : p.size ≤ 1000) :
    Calls Tryz.prog 75 #[.pointer (some ⟨sb, 0, none⟩), .agg #[.int .i64 k, .string p]] W fun e w' => e = .returned (.tuple #[.int .i64 (apd fs (k, p)).2.1, .int .i64 (apd fs (k, p)).2.2]) ∧
      SegM w0 vb d g' sb n a g s b (apd fs (k, p)).1 (apdX X s fs (k, p)) w' := by
  obtain ⟨ws, h1, h2, h3, h4, h5, h6⟩ := id h
  have hlen := plc_len fs
  have hfit := h5.fits
  by_cases hc : wrongF ((plS (plc fs) : Nat) : Int) k p.size ≠ 0
  · have e1 : apd fs (k, p) = (fs, 0, wrongF ((plS (plc fs) : Nat) : Int) k p.size) := by unfold apd; rw [if_pos hc]
    have e2 : apdX X s fs (k, p) = X := by unfold apdX; rw [if_pos hc]
    rw [e1, e2]
    obtain ⟨fa, fc, q1, q2⟩ := h2
    exact (append_no k p q1 hs hfit (by omega) hc).mono fun e w' r => ⟨r.1, h.below r.2⟩
  · have hc0 : wrongF ((plS (plc fs) : Nat) : Int) k p.size = 0 := Classical.byContradiction hc
    by_cases hf : 16 < plc fs + pcsN p.size
    · have e1 : apd fs (k, p) = (fs, 0, 5) := by unfold apd; rw [if_neg hc, if_pos hf]
      have e2 : apdX X s fs (k, p) = X := by unfold apdX; rw [if_neg hc, if_pos hf]
      rw [e1, e2]
      obtain ⟨fa, fc, q1, q2⟩ := h2
      exact (append_full k p q1 hs hfit hc0 hf).mono fun e w' r => ⟨r.1, h.below r.2⟩
    · have e1 : apd fs (k, p) = (fs ++ [(k, p)], ((plc fs : Nat) : Int), 0) := by unfold apd; rw [if_neg hc, if_neg hf]
      have e2 : apdX X s fs (k, p) = moreX X s fs (k, p) := by unfold apdX; rw [if_neg hc, if_neg hf]
      rw [e1, e2]
      obtain ⟨z1, z2, z3, z4, z5⟩ := wrong_zero hc0
      refine (la_append_yes k p (pcsN p.size) h1 h2 (room13 n hn) hs (by omega) (by omega) (by omega) hc0 rfl (.inl (by decide)) (by decide) (by decide) (by omega) (by omega) (by omega)).mono ?_
      rintro e w' ⟨r1, r2, r3⟩
      have e3 := plc_snoc fs (k, p)
      refine ⟨r1, ws ++ putW 1 n s (fs.length + 2) (plc fs) (encF (s : Int) (plc fs : Int) k p.data.toList) (pcsN p.size), ?_, ?_, ?_, ?_, h5.add ⟨z1, z2, z5⟩ (by simp only; omega), ?_⟩
      · show SV _ _ _ _ _ _ _ _ _ ((plc (fs ++ [(k, p)]) : Nat) : Int) _ _
        rw [e3, show ((plc fs + pcsN (k, p).2.size : Nat) : Int) = (plc fs : Int) + (pcsN p.size : Int) from by simp only; omega]
        exact r2
      · show SgV _ _ _ _ _ _ _ _ _ (plc (fs ++ [(k, p)])) _ _
        rw [e3]; exact r3
      · show _ = plc (fs ++ [(k, p)])
        rw [e3, List.length_append, putW_len, h3]
      · rw [sec_put _ _ _ _ _ _ _ _ _ (by omega), h4]
      · unfold moreX
        rw [putP_far _ _ _ _ _ _ (by rw [h5.len]; simp only; omega) (by omega)]
        exact h6
/-- A view in which a segment was wiped. -/
def WipedM (w0 : World) (vb d g' n : Nat) (W : World) : Prop := ∃ ws steps, SV w0 vb d g' (zeros 36) ws 1 34 (-1) steps false W ∧ ws.length ≤ 100 ∧ (secOf (zeros 36) ws 1 n)[0]? = some (zerosB 64)
theorem seg_wipe (h : SegM w0 vb d g' sb n a g s b fs X W) (hn : n < 2) : Calls Tryz.prog 76 #[.pointer (some ⟨vb, 0, none⟩), .int .i64 (n : Int)] W fun e w' => e = .returned (.int .i64 0) ∧ WipedM w0 vb d g' n w' := by
  obtain ⟨ws, h1, h2, h3, h4, h5, h6⟩ := id h
  have hfit := h5.fits
  refine (la_wipe h1 (room13 n hn) (by decide) (by decide) (by omega) (by omega) (by omega)).mono ?_
  rintro e w' ⟨r1, r2⟩
  refine ⟨r1, _, _, r2, by rw [List.length_append, List.length_singleton]; omega, ?_⟩
  rw [sec_one _ _ _ _ _ _ (by omega), List.getElem?_set_self (by rw [sec_len]; omega)]
  rfl
theorem WipedM.below {W' : World} (h : WipedM w0 vb d g' n W) (hb : Below W.heap.size W W') : WipedM w0 vb d g' n W' := by
  obtain ⟨ws, st, h1, h2, h3⟩ := h
  exact ⟨ws, st, h1.below hb, h2, h3⟩
theorem WipedM.since (h : WipedM w0 vb d g' n W) : Below w0.heap.size w0 W := by
  obtain ⟨ws, st, h1, _⟩ := h
  exact h1.since
theorem wiped_out (h : WipedM w0 vb d g' n W) (k : Int) (hk : ¬ (0 ≤ k ∧ k < 2)) : Calls Tryz.prog 76 #[.pointer (some ⟨vb, 0, none⟩), .int .i64 k] W fun e w' => e = .returned (.int .i64 20) ∧ W = w' := by
  obtain ⟨ws, st, ⟨v, k1, k2, k3⟩, h2, h3⟩ := h
  exact wipe_out k 32 k1 rfl (by decide) (by simpa using hk)
end
end Go.Proofs.YtgogackkeodciabGreatDoor.W
end
