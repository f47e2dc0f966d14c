/- What the power leaves of a segment's sectors; nothing of the program. -/
import Derived.Test.YtgogackkeodciabGreatDoorSgT
namespace Go.Proofs.YtgogackkeodciabGreatDoor.W
open Go.RowKit
open Go.Proofs.YtgogackkeodciabGreatDoor.M Go.Proofs.YtgogackkeodciabGreatDoor.D Go.Proofs.YtgogackkeodciabGreatDoor.Z
set_option linter.unusedVariables false

theorem laid_rd (ws : List (Nat × List UInt8)) : ∀ (lie : List (List UInt8)) (a : Nat) (s : List UInt8), lie[a]? = some s → (laid lie ws)[a]? = some (D.rd ws a s) := by
  induction ws with
  | nil => intro lie a s h; exact h
  | cons p ws ih =>
    intro lie a s h
    show (laid (lie.set p.1 p.2) ws)[a]? = some (D.rd ws a (if p.1 = a then p.2 else s))
    apply ih
    have ha := (List.getElem?_eq_some_iff.1 h).1
    rw [List.getElem?_set]
    by_cases e : p.1 = a
    · rw [if_pos e, if_pos e, if_pos (by omega)]
    · rw [if_neg e, if_neg e, h]
theorem rd_span (ws : List (Nat × List UInt8)) (f m a : Nat) (ha : f ≤ a ∧ a < f + m) : ∀ s, D.rd (ws.filter (spanB f m)) a s = D.rd ws a s := by
  induction ws with
  | nil => intro s; rfl
  | cons p ws ih =>
    intro s
    rw [List.filter_cons]
    by_cases hp : spanB f m p = true
    · rw [if_pos hp]
      exact ih _
    · rw [if_neg hp]
      have hne : p.1 ≠ a := by
        intro e
        apply hp
        unfold spanB
        simp [e, ha.1, ha.2]
      show D.rd (ws.filter (spanB f m)) a s = D.rd ws a (if p.1 = a then p.2 else s)
      rw [if_neg hne]
      exact ih s
theorem keep_out (ws : List (Nat × List UInt8)) (f m : Nat) : ∀ p ∈ ws.filter (D.keepB f m), spanB f m p = false := by
  intro p hp
  have h := (List.mem_filter.1 hp).2
  unfold D.keepB at h
  simpa using h
/-- A flush leaves what is read. -/
theorem sec_flush (lie : List (List UInt8)) (ws : List (Nat × List UInt8)) (f m n : Nat) (hl : f + m ≤ lie.length) (hn : 2 + 16 * n + 16 ≤ m) : secOf (laid lie (ws.filter (spanB f m))) (ws.filter (D.keepB f m)) f n = secOf lie ws f n := by
  unfold secOf
  apply List.map_congr_left
  intro k hk
  have hk2 : k < 16 := List.mem_range.1 hk
  have hlt : f + (2 + 16 * n + k) < lie.length := by omega
  have e : lie[f + (2 + 16 * n + k)]? = some (lie.getD (f + (2 + 16 * n + k)) []) := by rw [List.getD_eq_getElem?_getD, List.getElem?_eq_getElem hlt]; rfl
  have h1 := laid_rd (ws.filter (spanB f m)) lie _ _ e
  rw [rd_span ws f m _ ⟨by omega, by omega⟩] at h1
  have h2 : (laid lie (ws.filter (spanB f m))).getD (f + (2 + 16 * n + k)) [] = D.rd ws (f + (2 + 16 * n + k)) (lie.getD (f + (2 + 16 * n + k)) []) := by rw [List.getD_eq_getElem?_getD, h1]; rfl
  rw [h2, rd_none]
  intro p hp e
  have := keep_out ws f m p hp
  unfold spanB at this
  simp at this
  omega
/-- Behind the writes that wait outside. -/
theorem rd_outside (wsO W : List (Nat × List UInt8)) (f m a : Nat) (ha : f ≤ a ∧ a < f + m) (h : ∀ p ∈ wsO, spanB f m p = false) (s : List UInt8) : D.rd (wsO ++ W) a s = D.rd W a s := by
  have e : D.rd wsO a s = s := rd_none _ _ _ (fun p hp e => by
    have := h p hp
    unfold spanB at this
    simp at this
    omega)
  unfold D.rd at e ⊢
  rw [List.foldl_append, e]
theorem sec_outside (lie : List (List UInt8)) (wsO W : List (Nat × List UInt8)) (f m n : Nat) (hn : 2 + 16 * n + 16 ≤ m) (h : ∀ p ∈ wsO, spanB f m p = false) : secOf lie (wsO ++ W) f n = secOf lie W f n := by
  unfold secOf
  apply List.map_congr_left
  intro k hk
  have hk2 : k < 16 := List.mem_range.1 hk
  rw [rd_outside wsO W f m _ ⟨by omega, by omega⟩ h]

theorem torn_more (U s : List UInt8) (hU : U.length = 64) (j c : Nat) (hj : j ≤ 64) (hc : c ≤ 64) : U.take c ++ (U.take j ++ s.drop j).drop c = U.take (max c j) ++ s.drop (max c j) := by
  have hl : (U.take j).length = j := by rw [List.length_take]; omega
  rw [List.drop_append, hl]
  by_cases h : j ≤ c
  · rw [List.drop_eq_nil_of_le (by omega), List.nil_append, List.drop_drop, Nat.max_eq_left h, show j + (c - j) = c from by omega]
  · rw [show c - j = 0 from by omega, List.drop_zero, ← List.append_assoc, Nat.max_eq_right (by omega)]
    congr 1
    have e : U.take c = (U.take j).take c := by rw [List.take_take, Nat.min_eq_left (by omega)]
    rw [e, List.take_append_drop]
/-- What became of each sector: it stays, or is one write ahead of what lay there. -/
def TornOf (tk : List (Nat × List UInt8)) (L0 L : List (List UInt8)) : Prop := L.length = L0.length ∧ ∀ a s, L0[a]? = some s → L[a]? = some s ∨ ∃ p ∈ tk, p.1 = a ∧ ∃ j, j ≤ 64 ∧ L[a]? = some (p.2.take j ++ s.drop j)
theorem kept_torn (tk : List (Nat × List UInt8)) (hd : tk.Pairwise fun p q => p.1 ≠ q.1) (h64 : ∀ p ∈ tk, p.2.length = 64) (L0 : List (List UInt8)) (kl : List (Int × Int)) : ∀ L, TornOf tk L0 L → TornOf tk L0 (kepts tk L kl) := by
  have huniq : ∀ p q, p ∈ tk → q ∈ tk → p.1 = q.1 → p = q := by
    intro p q hp hq e
    obtain ⟨i, hi, rfl⟩ := List.mem_iff_getElem.1 hp
    obtain ⟨j, hj, rfl⟩ := List.mem_iff_getElem.1 hq
    rw [List.pairwise_iff_getElem] at hd
    rcases Nat.lt_trichotomy i j with h | h | h
    · exact absurd e (hd i j hi hj h)
    · subst h; rfl
    · exact absurd e.symm (hd j i hj hi h)
  induction kl with
  | nil => exact fun L h => h
  | cons q kl ih =>
    intro L h
    show TornOf tk L0 (kepts tk (kstep tk L q) kl)
    apply ih
    unfold kstep
    split
    · exact h
    · rename_i p hp
      have hmem : p ∈ tk := by
        split at hp
        · cases hp
        · exact List.mem_of_getElem? hp
      refine ⟨by rw [List.length_set]; exact h.1, fun a s hs => ?_⟩
      have ha := (List.getElem?_eq_some_iff.1 hs).1
      have hold := h.2 a s hs
      rw [List.getElem?_set]
      by_cases e : p.1 = a
      · rw [if_pos e, if_pos (by rw [h.1]; omega)]
        right
        refine ⟨p, hmem, e, ?_⟩
        rw [e]
        rcases hold with h1 | ⟨p', hp', e', j, hj, h1⟩
        · exact ⟨cut q.2, cut_le _, by rw [h1]; rfl⟩
        · obtain rfl := huniq p' p hp' hmem (by omega)
          exact ⟨max (cut q.2) j, by have := cut_le q.2; omega, by rw [h1, Option.getD_some, torn_more _ _ (h64 _ hmem) _ _ hj (cut_le _)]⟩
      · rw [if_neg e]
        exact hold
/-- Do both ends of each sector tell the same? -/
def Ends (x : List ByteArray) : Prop := ∀ (k : Nat) (y : ByteArray), x[k]? = some y → y.data.toList.length = 64 ∧ y.data.toList.drop 58 = y.data.toList.take 6
theorem ends_blank : Ends blankS := by
  intro k y h
  unfold blankS at h
  rw [List.getElem?_replicate] at h
  split at h
  · cases h
    exact ⟨by decide, by decide⟩
  · cases h
theorem ends_put {x : List ByteArray} (h : Ends x) (st c at_ : Nat) (p : Nat → ByteArray) (n : Nat) (hl : at_ + n ≤ x.length) (hp : ∀ j, j < n → (p j).size = 52) : Ends (putP x st c at_ p n) := by
  intro k y hy
  rw [putP_at _ _ _ _ _ _ _ hl] at hy
  split at hy
  · rename_i hk
    have hz := hp (k - at_) (by omega)
    have hz2 : (p (k - at_)).data.toList.length = 52 := by simpa using hz
    cases hy
    unfold sealP
    rw [B_data]
    exact ⟨by rw [sealL_len, hz2], by rw [sealL_drop _ _ _ hz2, sealL_take]⟩
  · exact h k y hy
theorem stamp_take (s : ByteArray) : stampS s = M.rd ((s.data.toList.take 6).take 4) := by
  unfold stampS
  rw [ext_list, List.drop_zero, List.take_take]
  rfl
/-- A torn sector is the new one, or none of the stamp. -/
theorem torn_no (st c : Nat) (d b : List UInt8) (j : Nat) (h1 : st < 4294967296) (h2 : 1 ≤ c) (h3 : c < 65536) (hd : d.length = 52) (hb : b.length = 64) (hbe : b.drop 58 = b.take 6) (hno : ¬ (opensS (B b) ∧ stampS (B b) = st)) :
    (sealL st c d).take j ++ b.drop j = sealL st c d ∨ ¬ (opensS (B ((sealL st c d).take j ++ b.drop j)) ∧ stampS (B ((sealL st c d).take j ++ b.drop j)) = st) := by
  by_cases ho : opensS (B ((sealL st c d).take j ++ b.drop j))
  · have e := opens_ends _ ho
    rw [B_data] at e
    obtain ⟨o1, o2, o3, _⟩ := open_seal st c d h1 h2 h3 hd
    have hne : (sealL st c d).take 6 ≠ b.take 6 := by
      intro e6
      apply hno
      have hs : stampS (B b) = st := by rw [← o2, stamp_take, stamp_take, B_data, B_data, e6]
      have hc : countS (B b) = c := by rw [← o3, count_take, count_take, B_data, B_data, e6]
      refine ⟨⟨by rw [B_size, hb], by omega, ?_⟩, hs⟩
      rw [← B_of ((B b).extract 58 64), ← B_of ((B b).extract 0 6), ext_list, ext_list, B_data, List.drop_zero, List.take_of_length_le (by rw [List.length_drop, hb]; exact Nat.le_refl _)]
      rw [hbe]
    rcases torn_whole _ _ j (by rw [sealL_len, hd]) hb (by rw [sealL_drop _ _ _ hd, sealL_take]) hbe hne e with h | h
    · exact .inl h
    · right; rw [h]; exact hno
  · exact .inr (fun h => ho h.1)
/-- Frames lie there, and the first pieces of one more; behind them what lay there. -/
structure LayP (x0 x : List ByteArray) (st : Nat) (fs : List (Int × ByteArray)) (fr : Int × ByteArray) (okN : Nat) : Prop where
  len : x.length = 16
  ok : ∀ f ∈ fs, FrOk f
  fits : plc fs + okN ≤ 16
  each : ∀ i f, fs[i]? = some f → ∀ j, j < pcsN f.2.size → x[plc (fs.take i) + j]? = some (pieceS st i (plc (fs.take i)) f j)
  okF : okN ≠ 0 → FrOk fr ∧ okN < pcsN fr.2.size ∧ plc fs < 16
  part : ∀ j, j < okN → x[plc fs + j]? = some (pieceS st fs.length (plc fs) fr j)
  behind : ∀ k, plc fs + okN ≤ k → k < 16 → x[k]? = x0[k]?
theorem piece_data (st i P : Nat) (f : Int × ByteArray) (j : Nat) : (pieceS st i P f j).data.toList = sealL st (i + 2) (pcL (encF (st : Int) (P : Int) f.1 f.2.data.toList) j) := by
  unfold pieceS sealP
  rw [B_data, B_data]
theorem crash_lay {x0 x x' : List ByteArray} {st okN : Nat} {fsS fs : List (Int × ByteArray)} {fr : Int × ByteArray} (hst : st < 4294967296) (h0 : LayB x0 st fsS) (hE : Ends x0) (hX : LayP x0 x st fs fr okN) (hpre : fs.take fsS.length = fsS) (hlen : x'.length = 16)
    (ht : ∀ (k : Nat) (y0 y : ByteArray), x0[k]? = some y0 → x[k]? = some y → ∃ j, j ≤ 64 ∧ x'[k]? = some (B (y.data.toList.take j ++ y0.data.toList.drop j))) : Lay x' st fs fsS.length := by
  have hpl := plc_len fs
  have hfit := hX.fits
  -- a sector at or behind the sure ones, in which a piece lies now
  have hone : ∀ k i P f j, plc fsS ≤ k → k < 16 → i < 65000 → x[k]? = some (pieceS st i P f j) → x'[k]? = some (pieceS st i P f j) ∨ ∀ c, ¬ okS x' st c k := by
    intro k i P f j hk hk2 hi hx
    obtain ⟨y0, hy0⟩ : ∃ y0, x0[k]? = some y0 := ⟨_, List.getElem?_eq_getElem (by rw [h0.len]; exact hk2)⟩
    obtain ⟨q, hq, hq2⟩ := ht k y0 _ hy0 hx
    obtain ⟨e1, e2⟩ := hE k y0 hy0
    have hno : ¬ (opensS (B y0.data.toList) ∧ stampS (B y0.data.toList) = st) := by
      rw [B_of]
      rintro ⟨h1, h2⟩
      exact h0.behind k (countS y0) hk hk2 ⟨y0, hy0, h1, h2, rfl⟩
    rw [piece_data] at hq2
    rcases torn_no st (i + 2) _ y0.data.toList q hst (by omega) (by omega) (pcL_len _ _) e1 e2 hno with h | h
    · left
      rw [hq2, h, ← piece_data, B_of]
    · right
      rintro c ⟨z, hz, h1, h2, h3⟩
      rw [hq2] at hz
      cases hz
      exact h ⟨h1, h2⟩
  refine ⟨hlen, hX.ok, by omega, ?_, ?_⟩
  · intro i f hf j hj
    have hil : i < fs.length := (List.getElem?_eq_some_iff.1 hf).1
    have htk := plc_take fs i f hf
    have hle := plc_le fs (i + 1)
    by_cases hi : i < fsS.length
    · left
      have hf0 : fsS[i]? = some f := by rw [← hpre, List.getElem?_take, if_pos hi]; exact hf
      have e : fsS.take i = fs.take i := by rw [← hpre, List.take_take, Nat.min_eq_left (by omega)]
      have h1 := h0.each i f hf0 j hj
      rw [e] at h1
      have h2 := hX.each i f hf j hj
      obtain ⟨q, hq, hq2⟩ := ht _ _ _ h1 h2
      rw [hq2, List.take_append_drop, B_of]
    · have hple : plc fsS ≤ plc (fs.take i) := by
        rw [← hpre]
        have := plc_le (fs.take i) fsS.length
        rwa [List.take_take, Nat.min_eq_left (by omega)] at this
      rcases hone _ i _ f j (by omega) (by omega) (by omega) (hX.each i f hf j hj) with h | h
      · exact .inl h
      · exact .inr ⟨by omega, h _⟩
  · have hple : plc fsS ≤ plc fs := by
      rw [← hpre]; exact plc_le fs _
    by_cases h16 : plc fs < 16
    · -- the first place at which the piece does not lie
      have hlast : ∀ k, plc fs + okN ≤ k → k < 16 → ∀ c, ¬ okS x' st c k := by
        intro k hk hk2 c
        obtain ⟨y0, hy0⟩ : ∃ y0, x0[k]? = some y0 := ⟨_, List.getElem?_eq_getElem (by rw [h0.len]; exact hk2)⟩
        obtain ⟨q, hq, hq2⟩ := ht k y0 y0 hy0 (by rw [hX.behind k hk hk2]; exact hy0)
        rw [List.take_append_drop, B_of] at hq2
        rintro ⟨z, hz, h1, h2, h3⟩
        rw [hq2] at hz
        cases hz
        exact h0.behind k c (by omega) hk2 ⟨y0, hy0, h1, h2, h3⟩
      by_cases hz : okN = 0
      · subst hz
        rintro ⟨_, hd⟩
        rw [run_no _ _ _ _ h16 (hlast (plc fs) (by omega) h16 _)] at hd
        exact dec_nil _ _ hd
      · obtain ⟨z1, z2, z3⟩ := hX.okF hz
        have hfind : ∀ m, m ≤ okN → (∀ j, j < m → x'[plc fs + j]? = some (pieceS st fs.length (plc fs) fr j)) → ¬ frameAt x' st (fs.length + 2) (plc fs) := by
          intro m hm
          induction hk : okN - m generalizing m with
          | zero =>
            intro hb
            obtain rfl : m = okN := by omega
            refine frame_part fr hlen hst (by omega) (by omega) z1 (by omega) h16 z2 (by omega) hb ?_
            by_cases he : plc fs + m < 16
            · exact hlast _ (by omega) he _
            · rintro ⟨y, hy, _⟩
              rw [List.getElem?_eq_none (by omega)] at hy
              cases hy
          | succ r ih =>
            intro hb
            rcases hone (plc fs + m) fs.length _ fr m (by omega) (by omega) (by omega) (hX.part m (by omega)) with h | h
            · exact ih (m + 1) (by omega) (by omega) (fun j hj => by
                by_cases e : j = m
                · subst e; exact h
                · exact hb j (by omega))
            · exact frame_part fr hlen hst (by omega) (by omega) z1 (by omega) h16 (by omega) (by omega) hb (h _)
        exact hfind 0 (by omega) (fun j hj => by omega)
    · rintro ⟨h, _⟩
      omega
end Go.Proofs.YtgogackkeodciabGreatDoor.W
