/- The document's disk: what it is in memory; the walks of its small functions. -/
import Derived.Test.YtgomhnclmacleaaProg
import Derived.Test.YtgomhnclmacleaaDiskKeeps
import Derived.Test.YtgomhnclmacleaaStops
namespace Go.Proofs.Ytgomhnclmacleaa.D
open Go.RowKit
open Go.Proofs.Ytgomhnclmacleaa.Z
set_option linter.unusedVariables false

def strV (s : List UInt8) : Value := .string ⟨s.toArray⟩
def rwrow (p : Nat × List UInt8) : List Value := [.int .i64 (p.1 : Int), strV p.2]
theorem rwrow_even (ws : List (Nat × List UInt8)) : Even 2 (ws.map rwrow) := fun x hx => by
  obtain ⟨d, _, rfl⟩ := List.mem_map.1 hx
  rfl
/-- A block of cells of one type. -/
def TypedAt (w : World) (b : Nat) (t : TypeId) : Prop := ∃ cs fr, w.heap[b]? = some (.cells cs t fr)
theorem TypedAt.lt {w : World} {b : Nat} {t : TypeId} (h : TypedAt w b t) : b < w.heap.size := by
  obtain ⟨cs, fr, e⟩ := h
  exact (Array.getElem?_eq_some_iff.1 e).1
theorem TypedAt.below {w w' : World} {b : Nat} {t : TypeId} (h : TypedAt w b t) (hb : Below w.heap.size w w') : TypedAt w' b t := by
  have hl := h.lt
  obtain ⟨cs, fr, e⟩ := h
  exact ⟨cs, fr, (hb.block b hl).trans e⟩
theorem TypedAt.setCell {w : World} {b : Nat} {t : TypeId} (h : TypedAt w b t) (c o : Nat) (v : Value) : TypedAt (w.setCell ⟨c, o, none⟩ v) b t := by
  obtain ⟨cs, fr, e⟩ := h
  by_cases hc : b = c
  · subst hc
    exact ⟨cs.setIfInBounds o v, fr, by simp [World.setCell, Array.getElem?_modify, e]⟩
  · exact ⟨cs, fr, (Below.heap_setCell w ⟨c, o, none⟩ v b hc).trans e⟩
theorem TypedAt.setCells {b : Nat} {t : TypeId} (c : Nat) : ∀ (vs : List Value) (o : Nat) (w : World), TypedAt w b t → TypedAt (w.setCells c o vs) b t
  | [], _, _, h => h
  | v :: vs, o, w, h => TypedAt.setCells c vs (o + 1) _ (h.setCell c o v)
theorem TypedAt.ne {w : World} {b c : Nat} {t u : TypeId} {cs : List Value} (h : TypedAt w b t) (k : Whole w c u cs) (hne : t ≠ u) : b ≠ c := by
  rintro rfl
  obtain ⟨ds, fr, e⟩ := h
  unfold Whole at k
  rw [e] at k
  injection k with k
  injection k with _ k
  exact hne k
/-- Strings, one behind the other. -/
structure RL (w : World) (v : Value) (lie : List (List UInt8)) : Prop where
  form : ∃ a cap, v = .slice a lie.length cap ∧ lie.length ≤ cap ∧ cap ≤ maxLen ∧ ∀ i s, lie[i]? = some s → ∃ b, a = some ⟨b, 0, none⟩ ∧ w.cell? ⟨b, i, none⟩ = some (strV s)
  typed : ∀ b, v.ownBlock = some b → lie ≠ [] → TypedAt w b 9
/-- Writes, one behind the other. -/
structure RW (w : World) (v : Value) (ws : List (Nat × List UInt8)) : Prop where
  form : ∃ a cap, v = .slice a ws.length cap ∧ ws.length ≤ cap ∧ cap ≤ maxLen ∧ ∀ i p, ws[i]? = some p → ∃ b, a = some ⟨b, 0, none⟩ ∧ w.cell? ⟨b, i * 2, none⟩ = some (.int .i64 (p.1 : Int)) ∧ w.cell? ⟨b, i * 2 + 1, none⟩ = some (strV p.2)
  typed : ∀ b, v.ownBlock = some b → ws ≠ [] → TypedAt w b 129
theorem RL.below {w w' : World} {v : Value} {lie : List (List UInt8)} (h : RL w v lie) (hb : Below w.heap.size w w') : RL w' v lie := by
  obtain ⟨a, cap, h1, h2, h3, h4⟩ := h.form
  exact ⟨⟨a, cap, h1, h2, h3, fun i s hs => (h4 i s hs).elim fun b hb' => ⟨b, hb'.1, keepCell hb hb'.2⟩⟩, fun b e n => (h.typed b e n).below hb⟩
theorem RW.below {w w' : World} {v : Value} {ws : List (Nat × List UInt8)} (h : RW w v ws) (hb : Below w.heap.size w w') : RW w' v ws := by
  obtain ⟨a, cap, h1, h2, h3, h4⟩ := h.form
  exact ⟨⟨a, cap, h1, h2, h3, fun i s hs => (h4 i s hs).elim fun b hb' => ⟨b, hb'.1, keepCell hb hb'.2.1, keepCell hb hb'.2.2⟩⟩, fun b e n => (h.typed b e n).below hb⟩
theorem RL.own {w : World} {B : Nat} {v : Value} {lie : List (List UInt8)} (h : w.ownsRow B 9 1 v lie.length (lie.map strV)) : RL w v lie := by
  refine ⟨?_, fun b hb _ => by
    rcases h.2 with ⟨rfl, _⟩ | ⟨g, cap, cur, rfl, _, h3, _⟩
    · cases hb
    · have e : g = b := by simpa [Value.ownBlock] using hb
      subst e
      exact ⟨_, _, h3⟩⟩
  by_cases h0 : lie.length = 0
  · rcases h.2 with ⟨h1, h2⟩ | ⟨g, cap, cur, h1, h2, h3, h4, h5, _⟩
    · exact ⟨none, 0, by rw [h1, h2], by omega, by decide, fun k d hk => by rw [List.eq_nil_of_length_eq_zero h0] at hk; simp at hk⟩
    · exact ⟨_, cap, h1, h4, h5, fun k d hk => by rw [List.eq_nil_of_length_eq_zero h0] at hk; simp at hk⟩
  · obtain ⟨g, cap, h1, h2, h3, _, _, h6⟩ := ownCells (by omega) h
    exact ⟨_, cap, h1, h2, h3, fun i s hs => ⟨g, rfl, h6 i _ (by rw [List.getElem?_map, hs]; rfl)⟩⟩
theorem RW.own {w : World} {B : Nat} {v : Value} {ws : List (Nat × List UInt8)} (h : w.ownsRow B 129 2 v ws.length (ws.map rwrow).flatten) : RW w v ws := by
  refine ⟨?_, fun b hb _ => by
    rcases h.2 with ⟨rfl, _⟩ | ⟨g, cap, cur, rfl, _, h3, _⟩
    · cases hb
    · have e : g = b := by simpa [Value.ownBlock] using hb
      subst e
      exact ⟨_, _, h3⟩⟩
  by_cases h0 : ws.length = 0
  · rcases h.2 with ⟨h1, h2⟩ | ⟨g, cap, cur, h1, h2, h3, h4, h5, _⟩
    · exact ⟨none, 0, by rw [h1, h2], by omega, by decide, fun k d hk => by rw [List.eq_nil_of_length_eq_zero h0] at hk; simp at hk⟩
    · exact ⟨_, cap, h1, h4, h5, fun k d hk => by rw [List.eq_nil_of_length_eq_zero h0] at hk; simp at hk⟩
  · obtain ⟨g, cap, h1, h2, h3, _, _, h6⟩ := ownRows (by omega) (rwrow_even ws) (by simp) h
    refine ⟨_, cap, h1, h2, h3, fun i p hp => ⟨g, rfl, ?_⟩⟩
    have hr := h6 i (rwrow p) (by rw [List.getElem?_map, hp]; rfl)
    exact ⟨hr 0 _ rfl, hr 1 _ rfl⟩
theorem infoRWrite : (Try.prog.info? 129).map (fun i => (i.zero, i.size, i.bytes)) = some (some (.agg #[.int .i64 0, .string ByteArray.empty]), 2, 24) := by kernel_rfl
/-- The document's disk. -/
structure RD (w : World) (lv wv : Value) (lie : List (List UInt8)) (ws : List (Nat × List UInt8)) : Prop where
  lies : RL w lv lie
  waits : RW w wv ws
  few : lie.length ≤ 8192
  within : ∀ p ∈ ws, p.1 < 8192
theorem RD.below {w w' : World} {lv wv : Value} {lie : List (List UInt8)} {ws : List (Nat × List UInt8)} (h : RD w lv wv lie ws) (hb : Below w.heap.size w w') : RD w' lv wv lie ws := ⟨h.lies.below hb, h.waits.below hb, h.few, h.within⟩
section
variable (lv wv : Value) (lie : List (List UInt8)) (ws : List (Nat × List UInt8)) (w : World)
theorem ris_any (a : Int) (h : RD w lv wv lie ws) :
    Calls Try.prog 54 #[.agg #[lv, wv], .int .i64 a] w fun e w' => e = .returned (.bool (decide (0 ≤ a) && decide (a < lie.length))) ∧ Below w.heap.size w w' := by
  obtain ⟨la, lc, rfl, h1, h2, _⟩ := h.lies.form
  have hf := h.few
  clear h
  obtain ⟨n, hn⟩ : ∃ n, Hid (lie.length = n) := ⟨_, Lib.hid rfl⟩
  rw [hn.out] at hf h1 ⊢
  by_cases h0 : 0 ≤ a
  · rw [decide_eq_true h0, Bool.true_and]
    go_enter Try.func54, Try.ntmps54
    go_wp2_with fail
    go_ret
    exact ⟨rfl, allocBelow _ _⟩
  · rw [decide_eq_false h0, Bool.false_and]
    have h0' : a < 0 := by omega
    go_enter Try.func54, Try.ntmps54
    go_wp2_with fail
    go_ret
    exact ⟨rfl, allocBelow _ _⟩
theorem rspan_any (a n : Int) (h : RD w lv wv lie ws) (hb : a ≤ 9223372036854775807) :
    Calls Try.prog 57 #[.agg #[lv, wv], .int .i64 a, .int .i64 n] w fun e w' => e = .returned (.bool (decide (spanOk lie.length a n))) ∧ Below w.heap.size w w' := by
  obtain ⟨la, lc, rfl, h1, h2, _⟩ := h.lies.form
  have hf := h.few
  clear h
  obtain ⟨m, hm⟩ : ∃ n, Hid (lie.length = n) := ⟨_, Lib.hid rfl⟩
  rw [hm.out] at hf h1 ⊢
  by_cases h0 : 0 ≤ a
  · by_cases h3 : 0 ≤ n
    · by_cases h4 : a ≤ m
      · have e : decide (spanOk m a n) = decide (n ≤ (m : Int) - a) := decide_eq_decide.2 (by unfold spanOk; omega)
        rw [e]
        go_enter Try.func57, Try.ntmps57
        go_wp2_with fail
        go_ret
        exact ⟨rfl, allocBelow _ _⟩
      · rw [show decide (spanOk m a n) = false from decide_eq_false (by unfold spanOk; omega)]
        have h4' : (m : Int) < a := by omega
        have d : decide (a ≤ (m : Int)) = false := decide_eq_false h4
        go_enter Try.func57, Try.ntmps57
        go_wp2_with fail
        go_ret
        exact ⟨rfl, allocBelow _ _⟩
    · rw [show decide (spanOk m a n) = false from decide_eq_false (by unfold spanOk; omega)]
      have h3' : n < 0 := by omega
      have d : decide (0 ≤ n) = false := decide_eq_false h3
      go_enter Try.func57, Try.ntmps57
      go_wp2_with fail
      go_ret
      exact ⟨rfl, allocBelow _ _⟩
  · rw [show decide (spanOk m a n) = false from decide_eq_false (by unfold spanOk; omega)]
    have h0' : a < 0 := by omega
    have d : decide (0 ≤ a) = false := decide_eq_false h0
    go_enter Try.func57, Try.ntmps57
    go_wp2_with fail
    go_ret
    exact ⟨rfl, allocBelow _ _⟩
end
/-- The filter of the first ones, one more. -/
theorem filt_take {P : Nat × List UInt8 → Bool} {ws : List (Nat × List UInt8)} {k : Nat} {p : Nat × List UInt8} (h : ws[k]? = some p) : (ws.take (k + 1)).filter P = (ws.take k).filter P ++ if P p then [p] else [] := by
  rw [List.take_add_one, h, show (some p).toList = [p] from rfl, List.filter_append]
  congr 1
  cases hp : P p <;> simp [hp]
section
variable (lv wv : Value) (lie : List (List UInt8)) (ws : List (Nat × List UInt8)) (w : World)
set_option maxHeartbeats 2000000 in
set_option maxRecDepth 100000 in
theorem rin_any (f n : Nat) (h : RD w lv wv lie ws) (hfn : f + n ≤ 8192) (hws : ws.length ≤ 100) :
    Calls Try.prog 63 #[.agg #[lv, wv], .int .i64 f, .int .i64 n] w fun e w' => ∃ v, e = .returned v ∧ RW w' v (ws.filter (spanB f n)) ∧ Below w.heap.size w w' := by
  obtain ⟨i0, hi0, hz0, hz1, hz2⟩ := info_parts infoRWrite
  obtain ⟨wa, wc, rfl, h1, h2, h3⟩ := h.waits.form
  obtain ⟨la, lc, rfl, _⟩ := h.lies.form
  have hwi := Lib.hid h.within
  unfold maxLen at h2
  have hget : Hid (∀ k, k < ws.length → ∃ d, ws[k]? = some d) := Lib.hid (fun k hk => ⟨_, List.getElem?_eq_getElem hk⟩)
  obtain ⟨m, hm⟩ : ∃ n, Hid (ws.length = n) := ⟨_, Lib.hid rfl⟩
  obtain ⟨ln, hln⟩ : ∃ n, Hid (lie.length = n) := ⟨_, Lib.hid rfl⟩
  rw [hm.out] at h1 hget hws ⊢
  rw [hln.out]
  obtain ⟨W, hW⟩ : ∃ W, Hid (W = w.alloc (.cells #[.slice la ln lc, .slice wa m wc] 32)) := ⟨_, Lib.hid rfl⟩
  have hbW : Below w.heap.size w W := by rw [hW.out]; exact allocBelow w _
  have y1 : W.cell? ⟨w.heap.size, 1, none⟩ = some (.slice wa m wc) := by rw [hW.out]; exact (Whole.new w 32 [.slice la ln lc, .slice wa m wc]).cell 1
  have hcell : Hid (∀ k d, ws[k]? = some d → ∃ b, wa = some ⟨b, 0, none⟩ ∧ ∀ w', Below w.heap.size w w' → w'.cell? ⟨b, k * 2, none⟩ = some (.int .i64 (d.1 : Int)) ∧ w'.cell? ⟨b, k * 2 + 1, none⟩ = some (strV d.2)) := Lib.hid (fun k d hk => by
    obtain ⟨b, e, e1, e2⟩ := h3 k d hk
    exact ⟨b, e, fun w' hb => ⟨keepCell hb e1, keepCell hb e2⟩⟩)
  have hlen : Hid (∀ k, ((ws.take k).filter (spanB f n)).length ≤ k) := Lib.hid (fun k => Nat.le_trans (List.length_filter_le _ _) (by simp; omega))
  clear h h3
  go_enter Try.func63, Try.ntmps63
  go_wp2_with (with_reducible refine zLoad 30 _ rfl ?_)
  rw [← hW.out]
  clear hW
  refine Lib.hid ?_
  go_wp2_with fail
  go_loopg [7, 13] m (fun ga v i wr => ∃ k : Nat, k ≤ m ∧ m ≤ k + ga ∧ i = .int .i64 k ∧ Hid (Below w.heap.size w wr) ∧ Hid (wr.ownsRow w.heap.size 129 2 v ((ws.take k).filter (spanB f n)).length (((ws.take k).filter (spanB f n)).map rwrow).flatten))
  case atStart => exact ⟨0, by omega, by omega, rfl, Lib.hid hbW, Lib.hid ⟨rfl, .inl ⟨rfl, rfl⟩⟩⟩
  case round =>
    obtain ⟨k, hk, hg, rfl, hb, how⟩ := hrel
    generalize wr = wo at *
    by_cases hlt : k < m
    · obtain ⟨d, hd⟩ := hget.out k hlt
      obtain ⟨b, rfl, hc⟩ := hcell.out k d hd
      obtain ⟨c0, c1⟩ := hc wo hb.out
      clear hc
      have hft := Lib.hid (filt_take (P := spanB f n) hd)
      have hd8 := hwi.out d (List.mem_of_getElem? hd)
      have hlk := hlen.out k
      obtain ⟨x, s⟩ := d
      obtain ⟨Bs, hBs⟩ : ∃ v : ByteArray, Hid (⟨s.toArray⟩ = v) := ⟨_, Lib.hid rfl⟩
      unfold strV at c1
      simp only at c0 c1 hd8
      rw [hBs.out] at c1
      obtain ⟨W2, hW2⟩ : ∃ W, Hid (W = wo.alloc (.cells #[.int .i64 (x : Int), .string Bs] 129)) := ⟨_, Lib.hid rfl⟩
      have hbw : Below wo.heap.size wo W2 := by rw [hW2.out]; exact allocBelow wo _
      have v0 : W2.cell? ⟨wo.heap.size, 0, none⟩ = some (.int .i64 (x : Int)) := by rw [hW2.out]; exact (Whole.new wo 129 [.int .i64 (x : Int), .string Bs]).cell 0
      have v1 : W2.cell? ⟨wo.heap.size, 1, none⟩ = some (.string Bs) := by rw [hW2.out]; exact (Whole.new wo 129 [.int .i64 (x : Int), .string Bs]).cell 1
      have hb2 : Hid (Below w.heap.size w W2) := Lib.hid (hb.out.trans (hbw.mono hb.out.size))
      have hown2 := Lib.hid (own_of_kept how.out (Kept.of_below (own := fun _ => False) hbw) (fun _ _ h => h))
      have hs2 := hb2.out.size
      clear how hb hbw hd
      have skip : Hid (spanB f n (x, s) = false → ((ws.take (k + 1)).filter (spanB f n)) = (ws.take k).filter (spanB f n)) := Lib.hid (fun h => by rw [hft.out, if_neg (by rw [h]; decide), List.append_nil])
      by_cases g1 : f ≤ x
      · by_cases g2 : x < f + n
        · have hp : spanB f n (x, s) = true := by simp [spanB, g1, g2]
          rw [hp, if_pos rfl] at hft
          clear skip hp
          obtain ⟨L0, hL0⟩ : ∃ L, Hid (((ws.take k).filter (spanB f n)).length = L) := ⟨_, Lib.hid rfl⟩
          have hll : ((ws.take (k + 1)).filter (spanB f n)).length = L0 + 1 := by rw [← hL0.out, hft.out]; simp
          rw [hL0.out] at hown2 hlk
          go_wp2_with (with_reducible refine zLoad 3 _ rfl ?_)
          rw [← hW2.out]
          clear hW2 c0 c1
          refine Lib.hid ?_
          go_wp2_with (with_reducible refine zAppend _ _ _ rfl ?_)
          refine Lib.hid ?_
          refine wpList_append_lies _ rfl _ _ 30 rfl w.heap.size 129 i0 _ 2 24 Try.underlying30 hi0 hz0 hz1 hz2 rfl (by omega) _ _ _ rfl (hown2.out.alloc _) _ 1 1 [.int .i64 (x : Int), .string Bs] rfl rfl (World.news_of_block (heap_alloc_new _ _)) (by simp [Value.oneCell']) (by omega) (by unfold maxLen; omega) (by omega) (by simp; omega) (W2.heap.size + 1) (by simp) ?_
          intro gg cap2 w5 hown5 hgrow5 hat5 hlt5
          have hb5 : Hid (Below w.heap.size w w5) := Lib.hid ((((Kept.of_below (own := fun b => w.heap.size ≤ b) hb2.out).alloc _).grown hgrow5 (fun k hk => .inl (ownFar hown2.out k hk))).below (Nat.le_refl _) (fun _ h => h))
          have hown6 : Hid (w5.ownsRow w.heap.size 129 2 (.slice (some ⟨gg, 0, none⟩) (L0 + 1) cap2) ((ws.take (k + 1)).filter (spanB f n)).length (((ws.take (k + 1)).filter (spanB f n)).map rwrow).flatten) := by
            rw [hll, hft.out, List.map_append, List.flatten_append, List.map_cons, List.map_nil, List.flatten_cons, List.flatten_nil, List.append_nil]
            rw [show rwrow (x, s) = [.int .i64 (x : Int), .string Bs] by rw [← hBs.out]; rfl]
            exact Lib.hid hown5
          clear hown5 hgrow5 hat5 hown2 hb2 hft hL0 hll v0 v1
          go_wp2_with fail
          go_roundg (gk - 1)
          case measure => omega
          case rel => exact ⟨k + 1, by omega, by omega, by go_num, hb5, hown6⟩
        · have hsk := Lib.hid (skip.out (by simp [spanB]; omega))
          have g2' : f + n ≤ x := by omega
          clear skip hft g2
          rw [← hsk.out] at hown2
          go_wp2_with (with_reducible refine zLoad 3 _ rfl ?_)
          rw [← hW2.out]
          clear hW2 c0 c1
          refine Lib.hid ?_
          go_wp2_with fail
          go_roundg (gk - 1)
          case measure => omega
          case rel => exact ⟨k + 1, by omega, by omega, by go_num, hb2, hown2⟩
      · have hsk := Lib.hid (skip.out (by simp [spanB]; omega))
        have g1' : x < f := by omega
        clear skip hft g1
        rw [← hsk.out] at hown2
        go_wp2_with (with_reducible refine zLoad 3 _ rfl ?_)
        rw [← hW2.out]
        clear hW2 c0 c1
        refine Lib.hid ?_
        go_wp2_with fail
        go_roundg (gk - 1)
        case measure => omega
        case rel => exact ⟨k + 1, by omega, by omega, by go_num, hb2, hown2⟩
    · obtain rfl : k = m := by omega
      have htk : ws.take k = ws := by rw [← hm.out, List.take_length]
      rw [htk] at how
      have hR := Lib.hid (RW.own how.out)
      clear how hcell hlen
      go_wp2_with fail
      go_ret
      exact ⟨_, rfl, hR.out, hb.out⟩
end
end Go.Proofs.Ytgomhnclmacleaa.D
