/- The view's flush, fuse and crash under a segment whose power goes; how such a segment begins. -/
import Derived.Test.YtlgoepbfdldgnaaDoorFallA
namespace Go.Proofs.YtlgoepbfdldgnaaDoor.W
open Go.RowKit
open Go.Proofs.YtlgoepbfdldgnaaDoor.M Go.Proofs.YtlgoepbfdldgnaaDoor.D Go.Proofs.YtlgoepbfdldgnaaDoor.Z
set_option linter.unusedVariables false

theorem mine_in {Wt : List (Nat × List UInt8)} {P m : Nat} (h : Wt.map Prod.fst = List.range' (3 + P) m) (hm : 3 + P + m ≤ 35) : ∀ p ∈ Wt, spanB 1 34 p = true := by
  intro p hp
  have e : p.1 ∈ Wt.map Prod.fst := List.mem_map_of_mem hp
  rw [h, List.mem_range'_1] at e
  unfold spanB
  simp
  omega
theorem keep_none {ws : List (Nat × List UInt8)} (h : ∀ p ∈ ws, spanB 1 34 p = true) : ws.filter (D.keepB 1 34) = [] := List.filter_eq_nil_iff.2 (fun p hp => by unfold D.keepB; rw [h p hp]; decide)
theorem sec_laid {lie : List (List UInt8)} {ws : List (Nat × List UInt8)} (hl : 1 + 34 ≤ lie.length) : secOf (laid lie (ws.filter (spanB 1 34))) [] 1 0 = secOf lie ws 1 0 := by
  have e := sec_outside (laid lie (ws.filter (spanB 1 34))) (ws.filter (D.keepB 1 34)) [] 1 34 0 (by decide) (keep_out ws 1 34)
  rw [List.append_nil] at e
  rw [← e]
  exact sec_flush lie ws 1 34 0 hl (by decide)
theorem LayP.bare {X0 X : List ByteArray} {s : Nat} {fsS fs : List (Int × ByteArray)} {fr : Int × ByteArray} (hX : LayP X0 X s fs fr 0) (h0 : LayB X0 s fsS) (hpre : fs.take fsS.length = fsS) : LayB X s fs := by
  have hple : plc fsS ≤ plc fs := by rw [← hpre]; exact plc_le fs _
  refine ⟨hX.len, hX.ok, by have := hX.fits; omega, hX.each, ?_⟩
  rintro k c hk hk2 ⟨y, h1, h2⟩
  exact h0.behind k c (by omega) hk2 ⟨y, by rw [← hX.behind k (by omega) hk2]; exact h1, h2⟩
theorem LayB.part {X : List ByteArray} {s : Nat} {fs : List (Int × ByteArray)} (fr : Int × ByteArray) (h : LayB X s fs) : LayP X X s fs fr 0 :=
  ⟨h.len, h.ok, by have := h.fits; omega, h.each, fun e => absurd rfl e, fun j hj => by omega, fun k _ _ => rfl⟩
section
variable {t : Nat} {w0 W : World} {vb d g' sb a g s b : Nat} {fsS fs : List (Int × ByteArray)} {fuse : Int} {gone : Bool} {fa : Option Addr}
theorem fall_flush (h : FallB t w0 vb d g' sb a g s b fsS fs fuse false fa W) (hf : fuse < 0) (ht : t ≤ 1000) :
    Calls Tryd.prog 32 #[.pointer (some ⟨vb, 0, none⟩)] W fun e w' => e = .returned (.int .i64 0) ∧ FallB (t + 1) w0 vb d g' sb a g s b fs fs fuse false fa w' ∧ RowK sb fa W w' := by
  obtain ⟨lie, wsO, Wt, steps, fr, okN, X0, X, fc, h1, h2, h3, h4, h5, h6, h7, h8, h9, h10, h11, h12, h13, h14, h15, h16, h17, h18, h19, h20⟩ := id h
  obtain rfl := h20 rfl
  have hlen := plc_len fs
  have hfit := h11.fits
  have hple : plc fsS ≤ plc fs := by rw [← h14]; exact plc_le fs _
  have hWl : Wt.length = plc fs + 0 - plc fsS := by
    have := congrArg List.length h5
    simpa using this
  have hm := mine_in h5 (by omega)
  have hout : (wsO ++ Wt).filter (D.keepB 1 34) = wsO.filter (D.keepB 1 34) := by rw [List.filter_append, keep_none hm, List.append_nil]
  have hl : 1 + 34 ≤ lie.length := by obtain ⟨v, k1, _⟩ := h1; exact k1.fits
  have hX0 : secOf (laid lie ((wsO ++ Wt).filter (spanB 1 34))) [] 1 0 = X := by rw [sec_laid hl, sec_outside lie wsO Wt 1 34 0 (by decide) h4, h7]
  refine (sv_flushF h1 (by omega) h16 (by omega) h18 h19 (by rw [List.length_append]; omega)).mono ?_
  rintro e w' ⟨r1, r2, r3⟩
  rw [hout, if_neg (by omega)] at r2
  have hB := h11.bare h8 h14
  refine ⟨r1, ⟨laid lie ((wsO ++ Wt).filter (spanB 1 34)), wsO.filter (D.keepB 1 34), [], steps + 1, fr, 0, X, X, fc, by rw [List.append_nil]; exact r2, h2.of_tk r3, h3, keep_out wsO 1 34, by simp, hX0, hX0, hB, h10, h10, hB.part fr, h13, h13, List.take_length, Nat.le_trans (List.length_filter_le _ _) h15, by omega, by omega, h18, h19, fun _ => rfl⟩, RowK.of_tk r3⟩
theorem fall_fuse (k : Int) (h : FallB t w0 vb d g' sb a g s b fsS fs fuse false fa W) (hk : -9223372036854775808 ≤ k) (hk2 : k ≤ 9223372036854775807) :
    Calls Tryd.prog 33 #[.pointer (some ⟨vb, 0, none⟩), .int .i64 k] W fun e w' => e = .returned (.tuple #[]) ∧ FallB t w0 vb d g' sb a g s b fsS fs k false fa w' ∧ RowK sb fa W w' := by
  obtain ⟨lie, wsO, Wt, steps, fr, okN, X0, X, fc, h1, h2, h3, h4, h5, h6, h7, h8, h9, h10, h11, h12, h13, h14, h15, h16, h17, h18, h19, h20⟩ := id h
  refine (sv_fuseF k h1).mono ?_
  rintro e w' ⟨r1, r2, r3⟩
  exact ⟨r1, ⟨lie, wsO, Wt, steps, fr, okN, X0, X, fc, r2, h2.of_tk r3, h3, h4, h5, h6, h7, h8, h9, h10, h11, h12, h13, h14, h15, h16, h17, hk, hk2, h20⟩, RowK.of_tk r3⟩
/-- A view whose power went and is back: a segment's frames lie there, at least the sure ones. -/
def Fell (w0 : World) (vb d g' a g s b : Nat) (fs : List (Int × ByteArray)) (sure : Nat) (W : World) : Prop :=
  ∃ lie ws X, SV w0 vb d g' lie ws 1 34 (-1) 0 false W ∧ ws.length ≤ 100 ∧ secOf lie ws 1 0 = X ∧ Lay X s fs sure ∧ sure ≤ fs.length ∧ X[0]? = some (sealP s 1 (B (pcL (headerL a g s b) 0)))
theorem Fell.below {sure : Nat} {W' : World} (h : Fell w0 vb d g' a g s b fs sure W) (hb : Below W.heap.size W W') : Fell w0 vb d g' a g s b fs sure W' := by
  obtain ⟨lie, ws, X, h1, h2⟩ := h
  exact ⟨lie, ws, X, h1.below hb, h2⟩
theorem Fell.since {sure : Nat} (h : Fell w0 vb d g' a g s b fs sure W) : Below w0.heap.size w0 W := by
  obtain ⟨lie, ws, X, h1, h2⟩ := h
  exact h1.since
theorem fall_crash {w : World} (kv : Value) (kl : List (Int × Int)) (h : FallB t w0 vb d g' sb a g s b fsS fs fuse gone fa W) (hb : Below w.heap.size w w0) (hk : Keeps w kv kl) (hks : kl.length ≤ 100000) (hs : s < 4294967296) :
    Calls Tryd.prog 34 #[.pointer (some ⟨vb, 0, none⟩), kv] W fun e w' => e = .returned (.int .i64 0) ∧ Fell w0 vb d g' a g s b fs fsS.length w' ∧ RowK sb fa W w' := by
  obtain ⟨lie, wsO, Wt, steps, fr, okN, X0, X, fc, h1, h2, h3, h4, h5, h6, h7, h8, h9, h10, h11, h12, h13, h14, h15, h16, h17, h18, h19, h20⟩ := id h
  have hlen := plc_len fs
  have hfit := h11.fits
  have hWl : Wt.length = plc fs + okN - plc fsS := by
    have := congrArg List.length h5
    simpa using this
  have hple : plc fsS ≤ plc fs := by rw [← h14]; exact plc_le fs _
  have hm := mine_in h5 (by omega)
  have hin : (wsO ++ Wt).filter (spanB 1 34) = Wt := by
    rw [List.filter_append, List.filter_eq_nil_iff.2 (fun p hp => by rw [h4 p hp]; decide), List.nil_append, List.filter_eq_self.2 hm]
  have hout : (wsO ++ Wt).filter (D.keepB 1 34) = wsO.filter (D.keepB 1 34) := by rw [List.filter_append, keep_none hm, List.append_nil]
  have hl : 1 + 34 ≤ lie.length := by obtain ⟨v, k1, _⟩ := h1; exact k1.fits
  have hd : Wt.Pairwise fun p q => p.1 ≠ q.1 := by
    have e : (Wt.map Prod.fst).Pairwise (· ≠ ·) := by rw [h5]; exact List.nodup_range'
    exact List.pairwise_map.1 e
  have hat : ∀ p ∈ Wt, 3 ≤ p.1 ∧ p.1 < 19 := by
    intro p hp
    have e : p.1 ∈ Wt.map Prod.fst := List.mem_map_of_mem hp
    rw [h5, List.mem_range'_1] at e
    omega
  have hx : ∀ p ∈ Wt, X[p.1 - 3]? = some (B p.2) := by
    intro p hp
    obtain ⟨p1, p2⟩ := hat p hp
    rw [← h7, sec_at _ _ _ _ _ (by omega), show 1 + (2 + 16 * 0 + (p.1 - 3)) = p.1 from by omega, rd_mem Wt hd p hp]
  have h64 : ∀ p ∈ Wt, p.2.length = 64 := by
    intro p hp
    have := (h10 _ _ (hx p hp)).1
    rwa [B_data] at this
  have htk := kept_torn Wt hd h64 lie kl lie ⟨rfl, fun a s hs => .inl hs⟩
  refine (sv_crashF kv kl h1 hb hk (by rw [List.length_append]; omega) hks).mono ?_
  rintro e w' ⟨r1, r2, r3⟩
  rw [hin, hout] at r2
  have ht : ∀ (k : Nat) (y0 y : ByteArray), X0[k]? = some y0 → X[k]? = some y → ∃ j, j ≤ 64 ∧ (secOf (kepts Wt lie kl) (wsO.filter (D.keepB 1 34)) 1 0)[k]? = some (B (y.data.toList.take j ++ y0.data.toList.drop j)) := by
    intro k y0 y e0 e1
    have hk16 : k < 16 := by have := (List.getElem?_eq_some_iff.1 e0).1; rwa [h8.len] at this
    have hout2 := sec_outside (kepts Wt lie kl) (wsO.filter (D.keepB 1 34)) [] 1 34 0 (by decide) (keep_out wsO 1 34)
    rw [List.append_nil] at hout2
    rw [hout2, sec_at _ _ _ _ _ hk16]
    rw [← h6, sec_at _ _ _ _ _ hk16] at e0
    rw [← h7, sec_at _ _ _ _ _ hk16] at e1
    obtain ⟨L, hL⟩ : ∃ L, lie[1 + (2 + 16 * 0 + k)]? = some L := ⟨_, List.getElem?_eq_getElem (by omega)⟩
    rw [List.getD_eq_getElem?_getD, hL] at e0 e1
    cases e0
    cases e1
    rw [B_data, B_data]
    rcases htk.2 _ L hL with h | ⟨p, hp, hpa, j, hj, h⟩
    · refine ⟨0, by omega, ?_⟩
      rw [List.getD_eq_getElem?_getD, h]
      rfl
    · refine ⟨j, hj, ?_⟩
      rw [List.getD_eq_getElem?_getD, h, ← hpa, rd_mem Wt hd p hp]
      rfl
  refine ⟨r1, ⟨kepts Wt lie kl, wsO.filter (D.keepB 1 34), _, r2, Nat.le_trans (List.length_filter_le _ _) h15, rfl, crash_lay hs h8 h9 h11 h14 (sec_len _ _ _ _) ht, ?_, ?_⟩, RowK.of_tk r3⟩
  · have := congrArg List.length h14
    rw [List.length_take] at this
    omega
  · obtain ⟨j, _, hj⟩ := ht 0 _ _ h12 h13
    rw [hj, List.take_append_drop, B_of]
theorem fell_load {sure : Nat} (h : Fell w0 vb d g' a g s b fs sure W) (hT : Wide w0) (ha1 : 1 ≤ a) (ha : a < 65536) (hg : g < 4294967296) (hs : s < 4294967296) (hb : b ≤ 1099511627776) :
    Calls Tryd.prog 30 #[.pointer (some ⟨vb, 0, none⟩), .int .i64 0] W fun e w' => ∃ tb j, e = .returned (.tuple #[.pointer (some ⟨tb, 0, none⟩), .int .i64 0]) ∧ Below W.heap.size W w' ∧ sure ≤ j ∧ j ≤ fs.length ∧ SgV W tb vb 0 a g s b (fs.take j) (plc (fs.take j)) true w' := by
  obtain ⟨lie, ws, X, h1, h2, h3, h4, h5, h6⟩ := id h
  obtain ⟨e1, e2, e3, e4, e5⟩ := head_put a g s b ha1 ha hg hs hb
  obtain ⟨j, j1, j2, j3⟩ := load_lays h4 hs h5
  have hl := la_load_yes (n := 0) _ h1 (room13 0 (by decide)) (hT.below h1.since) (by omega) (by rw [h3]; exact h6) e1
  rw [e2, e3, e4, e5, h3, j3] at hl
  refine hl.mono ?_
  rintro e w' ⟨tb, r1, r2, r3⟩
  exact ⟨tb, j, r1, r2, j1, j2, r3⟩
end
/-- None of the stamp. -/
def NoneOf (X : List ByteArray) (s : Nat) : Prop := ∀ k c, k < 16 → ¬ okS X s c k
theorem none_blank (s : Nat) : NoneOf blankS s := by
  rintro k c hk2 ⟨y, h1, h2, _⟩
  unfold blankS at h1
  rw [List.getElem?_replicate, if_pos hk2] at h1
  cases h1
  exact zero_shut h2
theorem none_put {X : List ByteArray} {s : Nat} (h : NoneOf X s) (st c at_ n : Nat) (L : List UInt8) (hl : at_ + n ≤ X.length) (hne : st ≠ s) (h1 : st < 4294967296) (h2 : 1 ≤ c) (h3 : c < 65536) : NoneOf (putP X st c at_ (fun i => B (pcL L i)) n) s := by
  rintro k c' hk ⟨y, e1, e2, e3, e4⟩
  rw [putP_at _ _ _ _ _ _ _ hl] at e1
  split at e1
  · cases e1
    have := (open_sealP st c (pcL L (k - at_)) h1 h2 h3 (pcL_len _ _)).2.1
    exact hne (by rw [← this, e3])
  · exact h k c' hk ⟨y, e1, e2, e3, e4⟩
section
variable {w0 W : World} {vb d g' sb n a g st b s : Nat} {fs : List (Int × ByteArray)} {X : List ByteArray}
theorem none_apd (hB : LayB X st fs) (h : NoneOf X s ∧ Ends X) (f : Int × ByteArray) (hne : st ≠ s) (h1 : st < 4294967296) : NoneOf (apdX X st fs f) s ∧ Ends (apdX X st fs f) := by
  have hlen := plc_len fs
  have hfit := hB.fits
  unfold apdX
  split
  · exact h
  · split
    · exact h
    · exact ⟨none_put h.1 _ _ _ _ _ (by rw [hB.len]; omega) hne h1 (by omega) (by omega), ends_put h.2 _ _ _ _ _ (by rw [hB.len]; omega) (fun j _ => by rw [B_size, pcL_len])⟩
theorem old_made (hne : st ≠ s) (h1 : st < 4294967296) : NoneOf (putP blankS st 1 0 (fun i => B (pcL (headerL a g st b) i)) 1) s ∧ Ends (putP blankS st 1 0 (fun i => B (pcL (headerL a g st b) i)) 1) :=
  ⟨none_put (none_blank s) _ _ _ _ _ (by decide) hne h1 (by decide) (by decide), ends_put ends_blank _ _ _ _ _ (by decide) (fun j _ => by rw [B_size, pcL_len])⟩
theorem old_step (k : Int) (p : ByteArray) (h : SegM w0 vb d g' sb n a g st b fs X W) (hc : NoneOf X s ∧ Ends X) (hn : n < 2) (hne : st ≠ s) (hs : st < 4294967296) (hp : p.size ≤ 1000) :
    Calls Tryd.prog 17 #[.pointer (some ⟨sb, 0, none⟩), .agg #[.int .i64 k, .string p]] W fun e w' => ∃ p1 p2 fs' X', e = .returned (.tuple #[.int .i64 p1, .int .i64 p2]) ∧ SegM w0 vb d g' sb n a g st b fs' X' w' ∧ NoneOf X' s ∧ Ends X' := by
  obtain ⟨_, _, _, _, _, h5, _⟩ := id h
  refine (seg_step k p h hn hs hp).mono ?_
  rintro e w' ⟨r1, r2⟩
  exact ⟨_, _, _, _, r1, r2, none_apd h5 hc _ hne hs⟩
/-- A segment that was flushed. -/
def OldM (w0 : World) (vb d g' : Nat) (X : List ByteArray) (W : World) : Prop := ∃ lie ws steps, SV w0 vb d g' lie ws 1 34 (-1) steps false W ∧ (∀ p ∈ ws, spanB 1 34 p = false) ∧ ws.length ≤ 50 ∧ secOf lie [] 1 0 = X ∧ X.length = 16 ∧ 0 ≤ steps ∧ steps ≤ 50
theorem OldM.below {W' : World} (h : OldM w0 vb d g' X W) (hb : Below W.heap.size W W') : OldM w0 vb d g' X W' := by
  obtain ⟨lie, ws, steps, h1, h2⟩ := h
  exact ⟨lie, ws, steps, h1.below hb, h2⟩
theorem OldM.since (h : OldM w0 vb d g' X W) : Below w0.heap.size w0 W := by
  obtain ⟨lie, ws, steps, h1, h2⟩ := h
  exact h1.since
theorem old_flush (h : SegM w0 vb d g' sb 0 a g st b fs X W) : Calls Tryd.prog 32 #[.pointer (some ⟨vb, 0, none⟩)] W fun e w' => e = .returned (.int .i64 0) ∧ OldM w0 vb d g' X w' := by
  obtain ⟨ws, h1, h2, h3, h4, h5, h6⟩ := h
  have hfit := h5.fits
  have hl : 1 + 34 ≤ (zeros 36).length := by obtain ⟨v, k1, _⟩ := h1; exact k1.fits
  refine (sv_flushF h1 (by decide) (by omega) (by omega) (by decide) (by decide) (by omega)).mono ?_
  rintro e w' ⟨r1, r2, r3⟩
  rw [if_neg (by decide)] at r2
  exact ⟨r1, _, _, _, r2, keep_out _ _ _, Nat.le_trans (List.length_filter_le _ _) (by omega), by rw [sec_laid hl, h4], h5.len, by omega, by omega⟩
/-- A segment that was made over it. -/
def OverM (w0 : World) (vb d g' sb a g s b : Nat) (X : List ByteArray) (W : World) : Prop := ∃ lie ws steps, SV w0 vb d g' lie (ws ++ putW 1 0 s 1 0 (headerL a g s b) 1) 1 34 (-1) steps false W ∧ SgV w0 sb vb 0 a g s b [] 1 false W ∧ (∀ p ∈ ws, spanB 1 34 p = false) ∧ ws.length ≤ 50 ∧ secOf lie [] 1 0 = X ∧ X.length = 16 ∧ 0 ≤ steps ∧ steps ≤ 51
theorem OverM.below {W' : World} (h : OverM w0 vb d g' sb a g s b X W) (hb : Below W.heap.size W W') : OverM w0 vb d g' sb a g s b X W' := by
  obtain ⟨lie, ws, steps, h1, h3, h2⟩ := h
  exact ⟨lie, ws, steps, h1.below hb, h3.below hb, h2⟩
theorem over_made (h : OldM w0 vb d g' X W) (hT : Wide w0) (ha1 : 1 ≤ a) (ha : a < 65536) (hg : g < 4294967296) (hs : s < 4294967296) (hb : b ≤ 1099511627776) :
    Calls Tryd.prog 12 #[.pointer (some ⟨vb, 0, none⟩), .int .i64 0, .agg #[.int .i64 (a : Int), .int .u32 (g : Int), .int .u32 (s : Int), .int .i64 (b : Int)]] W fun e w' => ∃ sb, e = .returned (.tuple #[.pointer (some ⟨sb, 0, none⟩), .int .i64 0]) ∧ OverM w0 vb d g' sb a g s b X w' := by
  obtain ⟨lie, ws, steps, h1, h2, h3, h4, h5, h6, h7⟩ := h
  refine (la_create (n := 0) h1 (room13 0 (by decide)) (hT.below h1.since) ha1 ha hg hs hb (by decide) (by decide) h6 (by omega) (by omega)).mono ?_
  rintro e w' ⟨sb, r1, r2, r3⟩
  exact ⟨sb, r1, lie, ws, steps + 1, r2, r3, h2, h3, h4, h5, by omega, by omega⟩
theorem over_flush (h : OverM w0 vb d g' sb a g s b X W) (hc : NoneOf X s ∧ Ends X) : Calls Tryd.prog 32 #[.pointer (some ⟨vb, 0, none⟩)] W fun e w' => e = .returned (.int .i64 0) ∧ ∃ fa, FallB 100 w0 vb d g' sb a g s b [] [] (-1) false fa w' := by
  obtain ⟨lie, ws, steps, h1, ⟨fa, fc, h2, h3⟩, h4, h5, h6, h7, h8, h9⟩ := h
  have hl : 1 + 34 ≤ lie.length := by obtain ⟨v, k1, _⟩ := h1; exact k1.fits
  have hX0 : secOf (laid lie ((ws ++ putW 1 0 s 1 0 (headerL a g s b) 1).filter (spanB 1 34))) [] 1 0 = putP X s 1 0 (fun i => B (pcL (headerL a g s b) i)) 1 := by
    rw [sec_laid hl, sec_outside lie ws _ 1 34 0 (by decide) h4]
    have e := sec_put lie [] 1 0 s 1 0 (headerL a g s b) 1 (by decide)
    rw [h6, List.nil_append] at e
    exact e
  refine (sv_flushF h1 (by decide) (by omega) (by omega) (by decide) (by decide) (by rw [List.length_append, putW_len]; omega)).mono ?_
  rintro e w' ⟨r1, r2, r3⟩
  rw [if_neg (by decide)] at r2
  have hlay : LayB (putP X s 1 0 (fun i => B (pcL (headerL a g s b) i)) 1) s [] := by
    refine ⟨by rw [putP_len]; exact h7, fun f hf => by simp at hf, by decide, fun i f hf => by simp at hf, ?_⟩
    intro k c hk hk2
    rw [plc_nil] at hk
    rintro ⟨y, e1, e2⟩
    rw [putP_at _ _ _ _ _ _ _ (by omega), if_neg (by omega)] at e1
    exact hc.1 k c hk2 ⟨y, e1, e2⟩
  have hE : Ends (putP X s 1 0 (fun i => B (pcL (headerL a g s b) i)) 1) := ends_put hc.2 _ _ _ _ _ (by omega) (fun j _ => by rw [B_size, pcL_len])
  have h0 : (putP X s 1 0 (fun i => B (pcL (headerL a g s b) i)) 1)[0]? = some (sealP s 1 (B (pcL (headerL a g s b) 0))) := by
    rw [putP_at _ _ _ _ _ _ _ (by omega), if_pos (by decide)]
  refine ⟨r1, fa, _, _, [], _, (1, ⟨#[]⟩), 0, _, _, fc, by rw [List.append_nil]; exact r2, h2.of_tk r3, h3, keep_out _ _ _, by simp, hX0, hX0, hlay, hE, hE, hlay.part _, h0, h0, rfl, ?_, by omega, ?_, by decide, by decide, fun _ => rfl⟩
  · refine Nat.le_trans (List.length_filter_le _ _) ?_
    rw [List.length_append, putW_len]
    omega
  · rw [plc_nil]; omega
end
end Go.Proofs.YtlgoepbfdldgnaaDoor.W
