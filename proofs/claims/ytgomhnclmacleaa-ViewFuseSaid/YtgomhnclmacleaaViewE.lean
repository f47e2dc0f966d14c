/- A view with a fuse, behind so many tries; the law's done, of a Write or a Flush. -/
import Derived.Test.YtgomhnclmacleaaProg
import Derived.Test.YtgomhnclmacleaaEight
namespace Go.Proofs.Ytgomhnclmacleaa.D
open Go.RowKit
open Go.Proofs.Ytgomhnclmacleaa.Z
set_option linter.unusedVariables false

/-- The fuse of n behind t tries, how many steps were done, whether the power is gone. -/
def fuseT (n : Int) (t : Nat) : Int := if (t : Int) ≤ n then n - t else 0
def stepsT (n : Int) (t : Nat) : Int := min n t
def goneT (n : Int) (t : Nat) : Bool := decide (n < t)
/-- The view of the law behind t tries; all that it writes to is of P. -/
def VS (P : Nat → Prop) (w : World) (vb d g : Nat) (n : Int) (t : Nat) : Prop :=
  ∃ v lie ws, Vw w vb d g v lie ws 3 4 (fuseT n t) (stepsT n t) (goneT n t) ∧ ws.length ≤ t ∧ ∀ k, (k = vb ∨ mine d g v k) → P k
theorem VS.below {P : Nat → Prop} {w w' : World} {vb d g : Nat} {n : Int} {t : Nat} (h : VS P w vb d g n t) (hb : Below w.heap.size w w') : VS P w' vb d g n t := by
  obtain ⟨v, lie, ws, h1, h2, h3⟩ := h
  exact ⟨v, lie, ws, h1.below hb, h2, h3⟩
/-- What a try makes of it, and tells. -/
def VNext (P : Nat → Prop) (w' : World) (vb d g : Nat) (n : Int) (t : Nat) (x : Int) : Prop :=
  (x ≠ 0 ∧ x ≠ 21 ∧ VS P w' vb d g n t) ∨ (x = (if (t : Int) < n then 0 else 21) ∧ VS P w' vb d g n (t + 1))
theorem vs_yes {n : Int} {t : Nat} (h : (t : Int) < n) : fuseT n t ≠ 0 ∧ goneT n t = false ∧ stepsT n t = t ∧ (if 0 < fuseT n t then fuseT n t - 1 else fuseT n t) = fuseT n (t + 1) ∧ stepsT n t + 1 = stepsT n (t + 1) ∧ goneT n (t + 1) = false ∧ fuseT n t = n - t := by
  unfold fuseT stepsT goneT
  rw [if_pos (by omega), if_pos (by omega), if_pos (by omega)]
  refine ⟨by omega, decide_eq_false (by omega), by omega, by omega, by omega, decide_eq_false (by omega), rfl⟩
theorem vs_no {n : Int} {t : Nat} (h0 : 0 ≤ n) (h : ¬ (t : Int) < n) : (goneT n t = true ∨ fuseT n t = 0) ∧ fuseT n t = fuseT n (t + 1) ∧ stepsT n t = stepsT n (t + 1) ∧ goneT n (t + 1) = true := by
  unfold fuseT stepsT goneT
  rw [if_neg (c := ((t + 1 : Nat) : Int) ≤ n) (by omega)]
  refine ⟨?_, ?_, by omega, decide_eq_true (by omega)⟩
  · by_cases e : n < t
    · exact .inl (decide_eq_true e)
    · exact .inr (by rw [if_pos (by omega)]; omega)
  · split <;> omega
section
variable {P : Nat → Prop} {w : World} {vb d g : Nat} {n : Int} {t : Nat}
theorem VS.next_in {w' : World} {v : Value} {lie' : List (List UInt8)} {ws' : List (Nat × List UInt8)} (hs : ∀ k, w.heap.size ≤ k → P k) (h3 : ∀ k, (k = vb ∨ mine d g v k) → P k) (hy : (t : Int) < n) (hl : ws'.length ≤ t + 1)
    (ht : VTurned w vb d g v lie' ws' 3 4 (if 0 < fuseT n t then fuseT n t - 1 else fuseT n t) (stepsT n t + 1) false w') :
    VNext P w' vb d g n t 0 ∧ Kept P w w' := by
  obtain ⟨v', h1, h2, hk⟩ := ht
  obtain ⟨_, _, _, e1, e2, e3, _⟩ := vs_yes hy
  rw [e1, e2] at h1
  refine ⟨.inr ⟨by rw [if_pos hy], v', lie', ws', by rw [e3]; exact h1, hl, fun k hk' => ?_⟩, hk.mono (fun k _ h => h3 k h)⟩
  rcases hk' with e | e | e | e
  · exact h3 k (.inl e)
  · exact h3 k (.inr (.inl e))
  · exact h3 k (.inr (.inr (.inl e)))
  · rcases h2 k e with h | h
    · exact h3 k (.inr (.inr (.inr h)))
    · exact hs k h
theorem VS.next_no {w' : World} {v : Value} {lie : List (List UInt8)} {ws : List (Nat × List UInt8)} (h0 : 0 ≤ n) (h3 : ∀ k, (k = vb ∨ mine d g v k) → P k) (hy : ¬ (t : Int) < n) (hl : ws.length ≤ t)
    (ht : Still w vb d g v lie ws 3 4 (fuseT n t) (stepsT n t) w') : VNext P w' vb d g n t 21 ∧ Kept P w w' := by
  obtain ⟨h1, hk⟩ := ht
  obtain ⟨_, e1, e2, e3⟩ := vs_no h0 hy
  rw [e1, e2] at h1
  exact ⟨.inr ⟨by rw [if_neg hy], v, lie, ws, by rw [e3]; exact h1, by omega, h3⟩, hk.mono (fun k _ h => h3 k (.inl h))⟩

theorem vwrite_t (a : Int) (T : ByteArray) (h : VS P w vb d g n t) (hs : ∀ k, w.heap.size ≤ k → P k) (hT : T.size ≤ 64) (n0 : 0 ≤ n) (n1 : n ≤ 9223372036854775807) (t1 : t ≤ 1000) :
    Calls Try.prog 34 #[.pointer (some ⟨vb, 0, none⟩), .int .i64 a, .string T] w fun e w' => ∃ x, e = .returned (.int .i64 x) ∧ VNext P w' vb d g n t x ∧ Kept P w w' := by
  obtain ⟨v, lie, ws, h1, h2, h3⟩ := h
  by_cases ha : 0 ≤ a ∧ a < ((4 : Nat) : Int)
  · by_cases hz : T.size = 64
    · by_cases hy : (t : Int) < n
      · obtain ⟨e1, e2, e3, _, _, _, e7⟩ := vs_yes hy
        obtain ⟨b, rfl⟩ := Int.eq_ofNat_of_zero_le ha.1
        rw [e2] at h1
        refine (vwrite_in b T h1 (by omega) hz e1 (by rw [e3]; omega) (by rw [e3]; omega) (by rw [e7]; omega) (by rw [e7]; omega) (by omega)).mono ?_
        rintro e w' ⟨rfl, ht⟩
        exact ⟨0, rfl, VS.next_in hs h3 hy (by simp; omega) ht⟩
      · refine (vwrite_power a T h1 ha hz (vs_no n0 hy).1).mono ?_
        rintro e w' ⟨rfl, ht⟩
        exact ⟨21, rfl, VS.next_no n0 h3 hy h2 ht⟩
    · refine (vwrite_arg a T h1 ha (by omega)).mono ?_
      rintro e w' ⟨rfl, hb⟩
      exact ⟨1, rfl, .inl ⟨by decide, by decide, v, lie, ws, h1.below hb, h2, h3⟩, Kept.of_below hb⟩
  · refine (vwrite_out a T h1 ha).mono ?_
    rintro e w' ⟨rfl, hb⟩
    exact ⟨20, rfl, .inl ⟨by decide, by decide, v, lie, ws, h1.below hb, h2, h3⟩, Kept.of_below hb⟩
theorem vflush_t (h : VS P w vb d g n t) (hs : ∀ k, w.heap.size ≤ k → P k) (n0 : 0 ≤ n) (n1 : n ≤ 9223372036854775807) (t1 : t ≤ 1000) :
    Calls Try.prog 36 #[.pointer (some ⟨vb, 0, none⟩)] w fun e w' => ∃ x, e = .returned (.int .i64 x) ∧ VNext P w' vb d g n t x ∧ Kept P w w' := by
  obtain ⟨v, lie, ws, h1, h2, h3⟩ := h
  by_cases hy : (t : Int) < n
  · obtain ⟨e1, e2, e3, _, _, _, e7⟩ := vs_yes hy
    rw [e2] at h1
    refine (vflush_in h1 e1 (by rw [e3]; omega) (by rw [e3]; omega) (by rw [e7]; omega) (by rw [e7]; omega) (by omega)).mono ?_
    rintro e w' ⟨rfl, ht⟩
    exact ⟨0, rfl, VS.next_in hs h3 hy (Nat.le_trans (List.length_filter_le _ _) (by omega)) ht⟩
  · refine (vflush_power h1 (vs_no n0 hy).1).mono ?_
    rintro e w' ⟨rfl, ht⟩
    exact ⟨21, rfl, VS.next_no n0 h3 hy h2 ht⟩

theorem VS.lt {k : Nat} {v : Value} {lie : List (List UInt8)} {ws : List (Nat × List UInt8)} {a b : Nat} {f s : Int} {z : Bool} (h : Vw w vb d g v lie ws a b f s z) (hk : k = vb ∨ mine d g v k) : k < w.heap.size := by
  rcases hk with e | e | e | e
  · rw [e]; exact h.obj.lt
  · rw [e]; exact h.disk.obj.lt
  · rw [e]; exact h.disk.lying.lt
  · exact h.disk.own_lt k e
/-- Beside the block that the call made for its act. -/
def Beside (P : Nat → Prop) (b : Nat) (k : Nat) : Prop := P k ∧ k ≠ b
theorem VS.beside (h : VS P w vb d g n t) : VS (Beside P w.heap.size) w vb d g n t := by
  obtain ⟨v, lie, ws, h1, h2, h3⟩ := h
  exact ⟨v, lie, ws, h1, h2, fun k hk => ⟨h3 k hk, by have := VS.lt h1 hk; omega⟩⟩
theorem VS.back {b : Nat} (h : VS (Beside P b) w vb d g n t) : VS P w vb d g n t := by
  obtain ⟨v, lie, ws, h1, h2, h3⟩ := h
  exact ⟨v, lie, ws, h1, h2, fun k hk => (h3 k hk).1⟩
theorem VNext.back {b : Nat} {x : Int} (h : VNext (Beside P b) w vb d g n t x) : VNext P w vb d g n t x := by
  rcases h with ⟨h1, h2, h3⟩ | ⟨h1, h2⟩
  · exact .inl ⟨h1, h2, h3.back⟩
  · exact .inr ⟨h1, h2.back⟩
set_option maxHeartbeats 2000000 in
set_option maxRecDepth 100000 in
theorem done_write (at_ nn : Int) (c : UInt8) (ka : Option Addr) (kl kc : Nat) (h : VS P w vb d g n t) (hs : ∀ k, w.heap.size ≤ k → P k) (n0 : 0 ≤ n) (n1 : n ≤ 9223372036854775807) (t1 : t ≤ 1000) :
    Calls Try.prog 30 #[.pointer (some ⟨d, 0, none⟩), .pointer (some ⟨vb, 0, none⟩), .agg #[.int .i64 0, .int .i64 at_, .int .i64 nn, .int .u8 (c.toNat : Int), .slice ka kl kc]] w fun e w' => ∃ x, e = .returned (.int .i64 x) ∧ VNext P w' vb d g n t x ∧ Kept P w w' := by
  obtain ⟨W, hW⟩ : ∃ W, Hid (W = w.alloc (.cells #[.int .i64 0, .int .i64 at_, .int .i64 nn, .int .u8 (c.toNat : Int), .slice ka kl kc] 59)) := ⟨_, Lib.hid rfl⟩
  have hbW : Below w.heap.size w W := by rw [hW.out]; exact allocBelow w _
  have hWh : Whole W w.heap.size 59 [.int .i64 0, .int .i64 at_, .int .i64 nn, .int .u8 (c.toNat : Int), .slice ka kl kc] := by rw [hW.out]; exact Whole.new w _ _
  have c0 : W.cell? ⟨w.heap.size, 0, none⟩ = some (.int .i64 0) := hWh.cell 0
  have c1 : W.cell? ⟨w.heap.size, 1, none⟩ = some (.int .i64 at_) := hWh.cell 1
  have c2 : W.cell? ⟨w.heap.size, 2, none⟩ = some (.int .i64 nn) := hWh.cell 2
  have c3 : W.cell? ⟨w.heap.size, 3, none⟩ = some (.int .u8 (c.toNat : Int)) := hWh.cell 3
  have c4 : W.cell? ⟨w.heap.size, 4, none⟩ = some (.slice ka kl kc) := hWh.cell 4
  have hv := Lib.hid (h.beside.below hbW)
  have hwr : Hid (∀ (T : ByteArray) (W2 : World), Below W.heap.size W W2 → T.size ≤ 64 → Calls Try.prog 34 #[.pointer (some ⟨vb, 0, none⟩), .int .i64 at_, .string T] W2 fun e w' => ∃ x, e = .returned (.int .i64 x) ∧ VNext (Beside P w.heap.size) w' vb d g n t x ∧ Kept (Beside P w.heap.size) W2 w') :=
    Lib.hid (fun T W2 h1 h3 => vwrite_t at_ T (hv.out.below h1) (fun k hk => ⟨hs k (by have := h1.size; have := hWh.lt; omega), by have := h1.size; have := hWh.lt; omega⟩) h3 n0 n1 t1)
  have kW : Hid (Kept P w W) := Lib.hid (Kept.of_below hbW)
  have hlt := hWh.lt
  replace hWh := Lib.hid hWh
  clear h hbW
  go_enter Try.func30, Try.ntmps30
  go_wp2_with fail
  rw [← hW.out]
  clear hW
  go_region_held3 (fun w' => w'.cell? ⟨w.heap.size, 0, none⟩ = some (.int .i64 0) ∧ w'.cell? ⟨w.heap.size, 1, none⟩ = some (.int .i64 at_) ∧ w'.cell? ⟨w.heap.size, 2, none⟩ = some (.int .i64 nn) ∧ w'.cell? ⟨w.heap.size, 3, none⟩ = some (.int .u8 (c.toNat : Int)) ∧ w'.cell? ⟨w.heap.size, 4, none⟩ = some (.slice ka kl kc)) (go_keep) (first
    | (go_at_call 35; (with_reducible refine (text7 0 at_ nn c (.slice ka kl kc) _).mono ?_); rintro e w2 ⟨T, rfl, hT, hb2⟩; have d0 := keepCell hb2 c0; have d1 := keepCell hb2 c1; have d2 := keepCell hb2 c2; have d3 := keepCell hb2 c3; have d4 := keepCell hb2 c4; have q2 : Below W.heap.size W w2 := below_of_drew hb2; have hT64 : T.size ≤ 64 := (by rw [hT.1]; omega); have hWh2 := hWh.out.below q2 hlt)
    | (go_at_call 34; (with_reducible refine (hwr.out T _ q2 hT64).mono ?_); rintro e w3 ⟨x, rfl, hnx, hk3⟩; have hWh3 := hWh2.of_kept hk3 (fun h => h.2 rfl); have e0 := hWh3.cell 0; have e1 := hWh3.cell 1; have e2 := hWh3.cell 2; have e3 := hWh3.cell 3; have e4 := hWh3.cell 4; simp only [List.getElem?_cons_zero, List.getElem?_cons_succ] at e0 e1 e2 e3 e4; replace hWh3 := Lib.hid hWh3; replace hnx := Lib.hid hnx))
  have hfin : Hid (VNext P w3 vb d g n t x ∧ Kept P w w3) := Lib.hid ⟨hnx.out.back, (kW.out.trans (Kept.of_below q2)).trans (hk3.mono (fun k _ h => h.1))⟩
  clear e0 e1 e2 e3 e4 d0 d1 d2 d3 d4 c0 c1 c2 c3 c4 hk3 hT hb2 hWh2
  go_wp2_with fail
  go_ret
  exact ⟨x, rfl, hfin.out.1, hfin.out.2⟩
set_option maxHeartbeats 2000000 in
set_option maxRecDepth 100000 in
theorem done_flush (at_ nn : Int) (c : UInt8) (ka : Option Addr) (kl kc : Nat) (h : VS P w vb d g n t) (hs : ∀ k, w.heap.size ≤ k → P k) (n0 : 0 ≤ n) (n1 : n ≤ 9223372036854775807) (t1 : t ≤ 1000) :
    Calls Try.prog 30 #[.pointer (some ⟨d, 0, none⟩), .pointer (some ⟨vb, 0, none⟩), .agg #[.int .i64 1, .int .i64 at_, .int .i64 nn, .int .u8 (c.toNat : Int), .slice ka kl kc]] w fun e w' => ∃ x, e = .returned (.int .i64 x) ∧ VNext P w' vb d g n t x ∧ Kept P w w' := by
  obtain ⟨W, hW⟩ : ∃ W, Hid (W = w.alloc (.cells #[.int .i64 1, .int .i64 at_, .int .i64 nn, .int .u8 (c.toNat : Int), .slice ka kl kc] 59)) := ⟨_, Lib.hid rfl⟩
  have hbW : Below w.heap.size w W := by rw [hW.out]; exact allocBelow w _
  have hv := Lib.hid (h.below hbW)
  have hsW : Hid (∀ k, W.heap.size ≤ k → P k) := Lib.hid (fun k hk => hs k (Nat.le_trans hbW.size hk))
  have kW : Hid (Kept P w W) := Lib.hid (Kept.of_below hbW)
  clear h hbW hs
  go_enter Try.func30, Try.ntmps30
  go_wp2_with fail
  rw [← hW.out]
  clear hW
  refine (vflush_t hv.out hsW.out n0 n1 t1).mono ?_
  rintro e w3 ⟨x, rfl, hnx, hk3⟩
  have hfin : Hid (VNext P w3 vb d g n t x ∧ Kept P w w3) := Lib.hid ⟨hnx, kW.out.trans hk3⟩
  clear hnx hk3
  go_wp2_with fail
  go_ret
  exact ⟨x, rfl, hfin.out.1, hfin.out.2⟩
end
end Go.Proofs.Ytgomhnclmacleaa.D
