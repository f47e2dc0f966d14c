/- How many writes a span has, by the program where there is none, and by the document. -/
import Derived.Test.YtgomhnclmacleaaProg
import Derived.Test.YtgomhnclmacleaaRef3E
namespace Go.Proofs.Ytgomhnclmacleaa.D
open Go.RowKit
open Go.Proofs.Ytgomhnclmacleaa.Z
set_option linter.unusedVariables false

/-- How many writes a span has. -/
def waitN (len : Nat) (ws : List (Nat × List UInt8)) (a n : Int) : Nat := if spanOk len a n then (ws.filter (spanB a.toNat n.toNat)).length else 0
theorem waiting_out (d g : Nat) (v : Value) (lie : List (List UInt8)) (ws : List (Nat × List UInt8)) (w : World) (a n : Int) (h : Dk w d g v lie ws) (hbig : a ≤ 9223372036854775807) (hn : ¬ spanOk lie.length a n) :
    Calls Try.prog 20 #[.pointer (some ⟨d, 0, none⟩), .int .i64 a, .int .i64 n] w fun e w' => e = .returned (.int .i64 0) ∧ Below w.heap.size w w' := by
  obtain ⟨W, hW⟩ : ∃ W, Hid (W = w.alloc (.cells #[.int .i64 a, .int .i64 n] 103)) := ⟨_, Lib.hid rfl⟩
  have hbW : Below w.heap.size w W := by rw [hW.out]; exact allocBelow w _
  have hs := Lib.hid (span_no d g v lie ws W a n (h.below hbW) hbig (by unfold spanOk at hn; omega))
  clear h hn
  go_enter Try.func20, Try.ntmps20
  go_wp2_with fail
  rw [← hW.out]
  refine hs.out.mono ?_
  rintro e w1 ⟨rfl, hb1⟩
  have hb2 := hbW.trans (hb1.mono hbW.size)
  clear hs hW hbW hb1
  go_wp2_with fail
  go_ret
  exact ⟨rfl, hb2⟩
theorem waiting_any (d g : Nat) (v : Value) (lie : List (List UInt8)) (ws : List (Nat × List UInt8)) (w : World) (a n : Int) (h : Dk w d g v lie ws) (hbig : a ≤ 9223372036854775807) (hfew : ws.length ≤ 100000) :
    Calls Try.prog 20 #[.pointer (some ⟨d, 0, none⟩), .int .i64 a, .int .i64 n] w fun e w' => e = .returned (.int .i64 (waitN lie.length ws a n)) ∧ Below w.heap.size w w' := by
  unfold waitN
  by_cases hok : spanOk lie.length a n
  · rw [if_pos hok]
    obtain ⟨f, rfl⟩ := Int.eq_ofNat_of_zero_le hok.1
    obtain ⟨m, rfl⟩ := Int.eq_ofNat_of_zero_le hok.2.1
    exact waiting_in d g v lie ws w f m h (by have := hok.2.2; omega) hfew
  · rw [if_neg hok]
    exact waiting_out d g v lie ws w a n h hbig hok
section
variable (lv wv : Value) (lie : List (List UInt8)) (ws : List (Nat × List UInt8)) (w : World)
set_option maxHeartbeats 1000000 in
theorem rwaiting_any (k a n : Int) (c : UInt8) (ka : Option Addr) (kn kc : Nat) (h : RD w lv wv lie ws) (hbig : a ≤ 9223372036854775807) (hws : ws.length ≤ 100) :
    Calls Try.prog 21 #[.agg #[lv, wv], actV k a n c (.slice ka kn kc)] w fun e w' => e = .returned (.int .i64 (waitN lie.length ws a n)) ∧ Below w.heap.size w w' := by
  have hfew := h.few
  obtain ⟨wa, wc, rfl, _⟩ := h.waits.form
  obtain ⟨la, lc, rfl, _⟩ := h.lies.form
  obtain ⟨m, hm⟩ : ∃ n, Hid (ws.length = n) := ⟨_, Lib.hid rfl⟩
  obtain ⟨ln, hln⟩ : ∃ n, Hid (lie.length = n) := ⟨_, Lib.hid rfl⟩
  obtain ⟨B0, hB0⟩ : ∃ n, Hid (w.heap.size = n) := ⟨_, Lib.hid rfl⟩
  obtain ⟨W, hW⟩ : ∃ W, Hid (W = (w.alloc (.cells #[.slice la ln lc, .slice wa m wc] 32)).alloc (.cells #[.int .i64 k, .int .i64 a, .int .i64 n, .int .u8 (c.toNat : Int), .slice ka kn kc] 36)) := ⟨_, Lib.hid rfl⟩
  have hbW : Below w.heap.size w W := by rw [hW.out]; exact (allocBelow w _).alloc (by simp) _
  have hX : Whole W B0 32 [.slice la ln lc, .slice wa m wc] := by rw [hW.out, ← hB0.out]; exact (Whole.new w _ _).alloc _
  have hY : Whole W (B0 + 1) 36 [.int .i64 k, .int .i64 a, .int .i64 n, .int .u8 (c.toNat : Int), .slice ka kn kc] := by
    have hh := Whole.new (w.alloc (.cells #[.slice la ln lc, .slice wa m wc] 32)) 36 [.int .i64 k, .int .i64 a, .int .i64 n, .int .u8 (c.toNat : Int), .slice ka kn kc]
    rw [show (w.alloc (.cells #[.slice la ln lc, .slice wa m wc] 32)).heap.size = B0 + 1 by simp [hB0.out]] at hh
    rw [hW.out]; exact hh
  have x0 : W.cell? ⟨B0, 0, none⟩ = some (.slice la ln lc) := hX.cell 0
  have x1 : W.cell? ⟨B0, 1, none⟩ = some (.slice wa m wc) := hX.cell 1
  have y1 : W.cell? ⟨B0 + 1, 1, none⟩ = some (.int .i64 a) := hY.cell 1
  have y2 : W.cell? ⟨B0 + 1, 2, none⟩ = some (.int .i64 n) := hY.cell 2
  have hRD : RD W (.slice la ln lc) (.slice wa m wc) lie ws := by
    have hh := h.below hbW
    rw [hln.out, hm.out] at hh
    exact hh
  have hsp := Lib.hid (rspan_any _ _ lie ws W a n hRD hbig)
  have hin := Lib.hid (fun (w1 : World) (hb : Below W.heap.size W w1) (f q : Nat) (hf : f + q ≤ 8192) => rin_any _ _ lie ws w1 f q (hRD.below hb) hf hws)
  rw [hln.out] at hsp hfew ⊢
  rw [hm.out]
  clear h hX hY hRD
  unfold actV
  by_cases hok : spanOk ln a n
  · rw [decide_eq_true hok] at hsp
    have hwn : waitN ln ws a n = (ws.filter (spanB a.toNat n.toNat)).length := by unfold waitN; rw [if_pos hok]
    rw [hwn]
    obtain ⟨f, rfl⟩ := Int.eq_ofNat_of_zero_le hok.1
    obtain ⟨q, rfl⟩ := Int.eq_ofNat_of_zero_le hok.2.1
    have hfq : f + q ≤ 8192 := by have := hok.2.2; omega
    rw [Int.toNat_natCast, Int.toNat_natCast]
    clear hok hwn
    go_enter Try.func21, Try.ntmps21
    go_wp2_with (with_reducible refine zLoad 32 _ rfl ?_)
    rw [← hW.out, hB0.out]
    clear hW
    refine Lib.hid ?_
    go_wp2_with fail
    refine hsp.out.mono ?_
    rintro e w1 ⟨rfl, hb1⟩
    replace x0 := keepCell hb1 x0
    replace x1 := keepCell hb1 x1
    replace y1 := keepCell hb1 y1
    replace y2 := keepCell hb1 y2
    have hi := Lib.hid (hin.out w1 hb1 f q hfq)
    have hb2 := Lib.hid (hbW.trans (hb1.mono hbW.size))
    clear hsp hin hb1 hbW
    go_wp2_with fail
    refine hi.out.mono ?_
    rintro e w2 ⟨v, rfl, hR, hb3⟩
    obtain ⟨va, vc, rfl, _, hvc, _⟩ := hR.form
    unfold maxLen at hvc
    have hb4 := hb2.out.trans (hb3.mono hb2.out.size)
    obtain ⟨L, hL⟩ : ∃ L, Hid ((ws.filter (spanB f q)).length = L) := ⟨_, Lib.hid rfl⟩
    rw [hL.out]
    clear hi hR hb3 hb2
    go_wp2_with fail
    go_ret
    exact ⟨ret_val (by rw [hL.out]; rfl), hb4⟩
  · rw [decide_eq_false hok] at hsp
    have hwn : waitN ln ws a n = 0 := by unfold waitN; rw [if_neg hok]
    rw [hwn]
    clear hok hwn hin
    go_enter Try.func21, Try.ntmps21
    go_wp2_with (with_reducible refine zLoad 32 _ rfl ?_)
    rw [← hW.out, hB0.out]
    clear hW
    refine Lib.hid ?_
    go_wp2_with fail
    refine hsp.out.mono ?_
    rintro e w1 ⟨rfl, hb1⟩
    have hb2 := hbW.trans (hb1.mono hbW.size)
    clear hsp hb1 hbW
    go_wp2_with fail
    go_ret
    exact ⟨rfl, hb2⟩
end
end Go.Proofs.Ytgomhnclmacleaa.D
