/- A segment in a law's own view beside blocks of the law: what Append leaves of all of them. The definition's Append in all its ways, with the row of its frames. -/
import Derived.Test.YtgogackkeodciabGreatDoorFallA
namespace Go.Proofs.YtgogackkeodciabGreatDoor.W
open Go.RowKit
open Go.Proofs.YtgogackkeodciabGreatDoor.M Go.Proofs.YtgogackkeodciabGreatDoor.D Go.Proofs.YtgogackkeodciabGreatDoor.Z
set_option linter.unusedVariables false

/-- The law's segment, its own row of frames told. -/
def SegB (w0 : World) (vb d g' sb n a g s b : Nat) (fs : List (Int × ByteArray)) (X : List ByteArray) (fa : Option Addr) (W : World) : Prop :=
  ∃ ws fc, SV w0 vb d g' (zeros 36) ws 1 34 (-1) (plc fs) false W ∧ Sg W sb vb n a g s b fa fc fs (plc fs) false ∧ (∀ q, ofS sb fa q → w0.heap.size ≤ q) ∧ ws.length = plc fs ∧ secOf (zeros 36) ws 1 n = X ∧ LayB X s fs ∧ X[0]? = some (sealP s 1 (B (pcL (headerL a g s b) 0)))
abbrev plainT (t : TypeId) : Prop := t ≠ 101 ∧ t ≠ 95 ∧ t ≠ 161 ∧ t ≠ 163
/-- The law's segment, and blocks of the law beside it. -/
def SegO (w0 : World) (vb d g' sb n a g s b : Nat) (fs : List (Int × ByteArray)) (X : List ByteArray) (K : List (Nat × TypeId × List Value)) (W : World) : Prop :=
  ∃ fa, SegB w0 vb d g' sb n a g s b fs X fa W ∧ ∀ x ∈ K, Whole W x.1 x.2.1 x.2.2 ∧ ¬ ofS sb fa x.1 ∧ plainT x.2.1
section
variable {w0 W : World} {vb d g' sb n a g s b : Nat} {fs : List (Int × ByteArray)} {X : List ByteArray} {fa : Option Addr} {K : List (Nat × TypeId × List Value)}
theorem SegM.open_ (h : SegM w0 vb d g' sb n a g s b fs X W) : SegO w0 vb d g' sb n a g s b fs X [] W := by
  obtain ⟨ws, h1, ⟨fa, fc, h2, h2'⟩, h3, h4, h5, h6⟩ := h
  exact ⟨fa, ⟨ws, fc, h1, h2, h2', h3, h4, h5, h6⟩, fun x hx => by simp at hx⟩
theorem SegO.shut (h : SegO w0 vb d g' sb n a g s b fs X K W) : SegM w0 vb d g' sb n a g s b fs X W := by
  obtain ⟨fa, ⟨ws, fc, h1, h2, h2', h3⟩, h4⟩ := h
  exact ⟨ws, h1, ⟨fa, fc, h2, h2'⟩, h3⟩
theorem SegB.below {W' : World} (h : SegB w0 vb d g' sb n a g s b fs X fa W) (hb : Below W.heap.size W W') : SegB w0 vb d g' sb n a g s b fs X fa W' := by
  obtain ⟨ws, fc, h1, h2, h3⟩ := h
  exact ⟨ws, fc, h1.below hb, h2.below hb, h3⟩
theorem SegB.lt (h : SegB w0 vb d g' sb n a g s b fs X fa W) : ∀ q, ofS sb fa q → q < W.heap.size := by
  obtain ⟨ws, fc, h1, h2, h3⟩ := h
  exact h2.lt
theorem SegO.below {W' : World} (h : SegO w0 vb d g' sb n a g s b fs X K W) (hb : Below W.heap.size W W') : SegO w0 vb d g' sb n a g s b fs X K W' := by
  obtain ⟨fa, h1, h2⟩ := h
  exact ⟨fa, h1.below hb, fun x hx => ⟨(h2 x hx).1.below hb (h2 x hx).1.lt, (h2 x hx).2⟩⟩
theorem SegO.since (h : SegO w0 vb d g' sb n a g s b fs X K W) : Below w0.heap.size w0 W := h.shut.since
theorem SegO.got {x : Nat × TypeId × List Value} (h : SegO w0 vb d g' sb n a g s b fs X K W) (hx : x ∈ K) : Whole W x.1 x.2.1 x.2.2 := by
  obtain ⟨fa, h1, h2⟩ := h
  exact (h2 x hx).1
theorem SegO.less {K' : List (Nat × TypeId × List Value)} (h : SegO w0 vb d g' sb n a g s b fs X K W) (hs : ∀ x ∈ K', x ∈ K) : SegO w0 vb d g' sb n a g s b fs X K' W := by
  obtain ⟨fa, h1, h2⟩ := h
  exact ⟨fa, h1, fun x hx => h2 x (hs x hx)⟩
/-- Blocks that were made since. -/
theorem SegO.more {W' : World} {N : List (Nat × TypeId × List Value)} (h : SegO w0 vb d g' sb n a g s b fs X K W) (hb : Below W.heap.size W W') (hN : ∀ x ∈ N, Whole W' x.1 x.2.1 x.2.2 ∧ (x ∈ K ∨ W.heap.size ≤ x.1) ∧ plainT x.2.1) : SegO w0 vb d g' sb n a g s b fs X (N ++ K) W' := by
  obtain ⟨fa, h1, h2⟩ := h
  refine ⟨fa, h1.below hb, fun x hx => ?_⟩
  rcases List.mem_append.1 hx with hx | hx
  · obtain ⟨e1, e2, e3⟩ := hN x hx
    refine ⟨e1, fun e => ?_, e3⟩
    rcases e2 with e2 | e2
    · exact (h2 x e2).2.1 e
    · have := h1.lt _ e
      omega
  · exact ⟨(h2 x hx).1.below hb (h2 x hx).1.lt, (h2 x hx).2⟩
theorem SegB.of_kept {W' : World} {q : Nat} {t : TypeId} {cs : List Value} (h : SegB w0 vb d g' sb n a g s b fs X fa W) (hq : Whole W q t cs) (hp : plainT t) (hn : ¬ ofS sb fa q) (hw : w0.heap.size ≤ q) (hk : Kept (fun r => r = q) W W') : SegB w0 vb d g' sb n a g s b fs X fa W' := by
  obtain ⟨ws, fc, ⟨v, k1, k2, k3⟩, h2, h3⟩ := h
  exact ⟨ws, fc, ⟨v, Vw.of_seg k1 hk (fun r hr => by rw [hr]; exact off_view k1 hq hp.1 hp.2.1 hp.2.2.1 hp.2.2.2), k2, k3.trans (hk.below k3.size (fun r e => by omega))⟩, h2.of_kept hk (fun r hr e => hn (by rw [← e]; exact hr)), h3⟩
/-- A block of the law's is written. -/
theorem SegO.set {W' : World} {q : Nat} {t : TypeId} {cs cs' : List Value} (h : SegO w0 vb d g' sb n a g s b fs X ((q, t, cs) :: K) W) (hw : w0.heap.size ≤ q) (hne : ∀ x ∈ K, x.1 ≠ q) (hk : Kept (fun r => r = q) W W') (hW : Whole W' q t cs') : SegO w0 vb d g' sb n a g s b fs X ((q, t, cs') :: K) W' := by
  obtain ⟨fa, h1, h2⟩ := h
  obtain ⟨e1, e2, e3⟩ := h2 _ (List.mem_cons_self)
  refine ⟨fa, h1.of_kept e1 e3 e2 hw hk, fun x hx => ?_⟩
  rcases List.mem_cons.1 hx with rfl | hx
  · exact ⟨hW, e2, e3⟩
  · obtain ⟨f1, f2⟩ := h2 x (List.mem_cons_of_mem _ hx)
    exact ⟨f1.of_kept hk (hne x hx), f2⟩
set_option maxRecDepth 100000 in
theorem SegO.step (k : Int) (p : ByteArray) (h : SegO w0 vb d g' sb n a g s b fs X K W) (hn : n < 2) (hs : s < 4294967296) (hp : p.size ≤ 1000) :
    Calls Tryz.prog 75 #[.pointer (some ⟨sb, 0, none⟩), .agg #[.int .i64 k, .string p]] W fun e w' => e = .returned (.tuple #[.int .i64 (apd fs (k, p)).2.1, .int .i64 (apd fs (k, p)).2.2]) ∧
      SegO w0 vb d g' sb n a g s b (apd fs (k, p)).1 (apdX X s fs (k, p)) K w' := by
  obtain ⟨fa, hB, hK⟩ := id h
  obtain ⟨ws, fc, h1, h2, h2', h3, h4, h5, h6⟩ := id hB
  have hlen := plc_len fs
  have hfit := h5.fits
  by_cases hc : wrongF ((plS (plc fs) : Nat) : Int) k p.size ≠ 0
  · have e1 : apd fs (k, p) = (fs, 0, wrongF ((plS (plc fs) : Nat) : Int) k p.size) := by unfold apd; rw [if_pos hc]
    have e2 : apdX X s fs (k, p) = X := by unfold apdX; rw [if_pos hc]
    rw [e1, e2]
    exact (append_no k p h2 hs hfit (by omega) hc).mono fun e w' r => ⟨r.1, h.below r.2⟩
  · have hc0 : wrongF ((plS (plc fs) : Nat) : Int) k p.size = 0 := Classical.byContradiction hc
    by_cases hf : 16 < plc fs + pcsN p.size
    · have e1 : apd fs (k, p) = (fs, 0, 5) := by unfold apd; rw [if_neg hc, if_pos hf]
      have e2 : apdX X s fs (k, p) = X := by unfold apdX; rw [if_neg hc, if_pos hf]
      rw [e1, e2]
      exact (append_full k p h2 hs hfit hc0 hf).mono fun e w' r => ⟨r.1, h.below r.2⟩
    · have e1 : apd fs (k, p) = (fs ++ [(k, p)], ((plc fs : Nat) : Int), 0) := by unfold apd; rw [if_neg hc, if_neg hf]
      have e2 : apdX X s fs (k, p) = moreX X s fs (k, p) := by unfold apdX; rw [if_neg hc, if_neg hf]
      rw [e1, e2]
      obtain ⟨z1, z2, z3, z4, z5⟩ := wrong_zero hc0
      refine (fa_append_yes k p (pcsN p.size) h1 h2 h2' (room13 n hn) hs (by omega) (by omega) (by omega) hc0 rfl (.inl (by decide)) (by decide) (by decide) (by omega) (by omega) (by omega)).mono ?_
      rintro e w' ⟨r1, r2, fa', fc', r3, r4, r5⟩
      have e3 := plc_snoc fs (k, p)
      refine ⟨r1, fa', ⟨ws ++ putW 1 n s (fs.length + 2) (plc fs) (encF (s : Int) (plc fs : Int) k p.data.toList) (pcsN p.size), fc', ?_, ?_, ?_, ?_, ?_, h5.add ⟨z1, z2, z5⟩ (by simp only; omega), ?_⟩, ?_⟩
      · show SV _ _ _ _ _ _ _ _ _ ((plc (fs ++ [(k, p)]) : Nat) : Int) _ _
        rw [e3, show ((plc fs + pcsN (k, p).2.size : Nat) : Int) = (plc fs : Int) + (pcsN p.size : Int) from by simp only; omega]
        have : fuseJ (-1) (pcsN p.size) = -1 := by unfold fuseJ; rw [if_pos (by decide)]
        rw [this] at r2
        exact r2
      · show Sg _ _ _ _ _ _ _ _ _ _ _ (plc (fs ++ [(k, p)])) _
        rw [e3]; exact r3
      · intro q hq
        rcases r4 q hq with e | e
        · exact h2' q e
        · exact Nat.le_trans h1.since.size e
      · show _ = plc (fs ++ [(k, p)])
        rw [e3, List.length_append, putW_len, h3]
      · rw [sec_put _ _ _ _ _ _ _ _ _ (by omega), h4]
      · unfold moreX
        rw [putP_far _ _ _ _ _ _ (by rw [h5.len]; simp only; omega) (by omega)]
        exact h6
      · intro x hx
        obtain ⟨f1, f2, f3⟩ := hK x hx
        refine ⟨r5.2 _ _ _ f1 f3.1 f3.2.1 f3.2.2.1 f3.2.2.2 f2, fun e => ?_, f3⟩
        rcases r4 _ e with e | e
        · exact f2 e
        · have := f1.lt
          omega
end
/-- The row of the definition's frames, and its block. -/
def RowB (la : Option Addr) (lc : Nat) (fs : List (Int × ByteArray)) (K : List (Nat × TypeId × List Value)) : Prop :=
  (fs = [] ∧ la = none ∧ lc = 0 ∧ K = []) ∨ ∃ q cur, la = some ⟨q, 0, none⟩ ∧ K = [(q, 36, cur)] ∧ 0 < fs.length ∧ fs.length ≤ lc ∧ lc ≤ maxLen ∧ cur.length = lc * 2 ∧ cur.take (fs.length * 2) = frRows fs
theorem RowB.own {la : Option Addr} {lc : Nat} {fs : List (Int × ByteArray)} {K : List (Nat × TypeId × List Value)} {W : World} (h : RowB la lc fs K) (hK : ∀ x ∈ K, Whole W x.1 x.2.1 x.2.2) : W.ownsRow 0 36 2 (.slice la fs.length lc) fs.length (frRows fs) := by
  rcases h with ⟨rfl, rfl, rfl, rfl⟩ | ⟨q, cur, rfl, rfl, h1, h2, h3, h4, h5⟩
  · exact own_nil
  · have hW := hK _ (List.mem_singleton.2 rfl)
    refine ⟨frRows_len fs, .inr ⟨q, lc, cur.toArray, rfl, Nat.zero_le _, hW, h2, h3, ?_, ?_⟩⟩
    · rw [List.size_toArray]; exact h4
    · exact h5
theorem RowB.of_own {la : Option Addr} {lc B : Nat} {fs : List (Int × ByteArray)} {W : World} (h0 : 0 < fs.length) (h : W.ownsRow B 36 2 (.slice la fs.length lc) fs.length (frRows fs)) : ∃ K, RowB la lc fs K ∧ ∀ x ∈ K, Whole W x.1 x.2.1 x.2.2 ∧ B ≤ x.1 ∧ plainT x.2.1 := by
  rcases h.2 with ⟨e, h1⟩ | ⟨q, cap, cur, e, hb, hq, h1, h2, h3, h4⟩
  · omega
  · injection e with e1 e2 e3
    subst e1 e3
    refine ⟨_, .inr ⟨q, cur.toList, rfl, rfl, h0, h1, h2, by rw [Array.length_toList]; exact h3, h4⟩, fun x hx => ?_⟩
    obtain rfl := List.mem_singleton.1 hx
    exact ⟨by simpa [Whole] using hq, hb, show plainT 36 by decide⟩
theorem RowB.types {la : Option Addr} {lc : Nat} {fs : List (Int × ByteArray)} {K : List (Nat × TypeId × List Value)} (h : RowB la lc fs K) : ∀ x ∈ K, x.2.1 = 36 := by
  rcases h with ⟨_, _, _, rfl⟩ | ⟨q, cur, rfl, rfl, _⟩
  · exact fun x hx => by simp at hx
  · intro x hx
    obtain rfl := List.mem_singleton.1 hx
    rfl
end Go.Proofs.YtgogackkeodciabGreatDoor.W
