/- The walk of frame.Decode. -/
import Derived.Test.YtgomhnclmacleaaProg
import Derived.Test.YtgomhnclmacleaaFrEnc
import Derived.Test.YtgomhnclmacleaaFlat
import Derived.Test.YtgomhnclmacleaaStops
import Derived.Test.YtgomhnclmacleaaShelf
import Derived.Deep.QuietTactic
import Derived.BigQuiet
namespace Go.Proofs.Ytgomhnclmacleaa.W
open Go.RowKit
open Go.Proofs.Ytgomhnclmacleaa.M
open Go.Proofs.Ytgomhnclmacleaa.D
open Go.Proofs.Ytgomhnclmacleaa.Z
set_option linter.unusedVariables false

theorem clone_any (s : ByteArray) (w : World) (hs : s.size ≤ 281474976710656) :
    Calls Try.prog 75 #[.string s] w fun e w' => e = .returned (.string s) ∧ Below w.heap.size w w' := by
  go_enter Try.func75, Try.ntmps75
  go_wp2_with (go_at_call 84; refine (Try.stringslite_Clone _ _ hs).mono ?_; rintro e w' ⟨rfl, hb⟩)
  go_ret
  exact ⟨rfl, hb⟩

/-- What Decode tells. -/
abbrev decV (st pl : Int) (s : ByteArray) : Value := .tuple #[.agg #[.int .i64 (decK st pl s), .string (decP st pl s)], .int .i64 (decN st pl s), .int .i64 (decWhy st pl s)]

/-- What Decode tells if there is none. -/
abbrev noV (x : Int) : Value := .tuple #[.agg #[.int .i64 0, .string ⟨#[]⟩], .int .i64 0, .int .i64 x]
theorem decV_no {st pl : Int} {s : ByteArray} {x : Int} (h : decWhy st pl s = x) (hx : x ≠ 0) : decV st pl s = noV x := by
  obtain ⟨e1, e2, e3⟩ := decNo h hx
  unfold decV noV
  rw [e1, e2, e3, h]
theorem decV_yes {st pl : Int} {s : ByteArray} (h : decWhy st pl s = 0) : decV st pl s = .tuple #[.agg #[.int .i64 (bt s.data.toList 6 : Nat), .string (s.extract 7 (6 + toldF s))], .int .i64 ((6 + toldF s : Nat) : Int), .int .i64 0] := by
  obtain ⟨e1, e2, e3⟩ := decYes h
  unfold decV
  rw [e1, e2, e3, h]

theorem drewB' {B : Nat} {a w : World} (h : Below B a w) (n : Nat) : Below B a (w.drewN n) := ⟨h.os, h.tape, h.output, h.size, h.block⟩
theorem far_store {w W : World} {b : Nat} (hb : Below w.heap.size w W) (hB : w.heap.size ≤ b) (vs : List Value) : Below w.heap.size w (W.setCells b 0 vs) :=
  hb.trans (((Kept.refl (fun q => q = b) W).setCells (c := b) (.inl rfl) 0 vs).below hb.size (fun q hq => by omega))

set_option maxHeartbeats 4000000 in
theorem decode_any (st pl : Int) (s : ByteArray) (w : World) (s0 : 0 ≤ st) (s1 : st < 4294967296) (hs : s.size ≤ 1000000) :
    Calls Try.prog 44 #[.int .u32 st, .int .i64 pl, .string s] w fun e w' => e = .returned (decV st pl s) ∧ Below w.heap.size w w' := by
  by_cases h3 : ¬ (1 ≤ pl ∧ pl < 16)
  · rw [decV_no (show decWhy st pl s = 1 from by unfold decWhy; rw [if_pos h3]) (by decide)]
    have hpl := Lib.hid (place_no h3)
    clear h3
    go_enter Try.func44, Try.ntmps44
    go_wp2_with fail
    refine (isPlace_any pl _).mono ?_
    rintro e w1 ⟨rfl, rfl⟩
    rw [hpl.out]
    go_wp2_with fail
    exact bodyPost_ret (v := noV 1) (by simp [results, Try.results44, go_sem]) rfl ⟨rfl, (Below.refl _ _).alloc (Nat.le_refl _) _⟩
  replace h3 : 1 ≤ pl ∧ pl < 16 := Decidable.not_not.1 h3
  have hpl := Lib.hid (place_yes h3)
  by_cases h4 : s.size < 2
  · rw [decV_no (show decWhy st pl s = 3 from by unfold decWhy; rw [if_neg (by omega), if_pos h4]) (by decide)]
    clear h3
    go_enter Try.func44, Try.ntmps44
    go_wp2_with fail
    refine (isPlace_any pl _).mono ?_
    rintro e w1 ⟨rfl, rfl⟩
    rw [hpl.out]
    go_wp2_with fail
    exact bodyPost_ret (v := noV 3) (by simp [results, Try.results44, go_sem]) rfl ⟨rfl, (Below.refl _ _).alloc (Nat.le_refl _) _⟩
  have hTl := toldF_lt s
  obtain ⟨T, hT⟩ : ∃ T, Hid (toldF s = T) := ⟨_, Lib.hid rfl⟩
  have hcz : (s.extract 0 2).size = 2 := by simp; omega
  have h4' : (2 : Int) ≤ (s.size : Int) := by omega
  have hrd := Lib.hid (show rd (s.extract 0 2).data.toList = T from hT.out)
  rw [hT.out] at hTl
  by_cases h5 : T = 0
  · rw [decV_no (show decWhy st pl s = 6 from by unfold decWhy; rw [if_neg (by omega), if_neg h4, if_pos (by rw [hT.out]; exact h5)]) (by decide)]
    subst h5
    clear h3
    go_enter Try.func44, Try.ntmps44
    go_wp2_with fail
    refine (isPlace_any pl _).mono ?_
    rintro e w1 ⟨rfl, rfl⟩
    rw [hpl.out]
    go_wp2_with fail
    refine (read_any _ _ (by omega) (by omega)).mono ?_
    rintro e w1 ⟨rfl, rfl⟩
    rw [hrd.out]
    go_wp2_with fail
    exact bodyPost_ret (v := noV 6) (by simp [results, Try.results44, go_sem]) rfl ⟨rfl, (Below.refl _ _).alloc (Nat.le_refl _) _⟩
  have h5' : ((T : Int) == 0) = false := by rw [beq_eq_false_iff_ne]; omega
  by_cases h6 : 774 < T
  · rw [decV_no (show decWhy st pl s = 2 from by unfold decWhy; rw [if_neg (by omega), if_neg h4, hT.out, if_neg h5, if_pos h6]) (by decide)]
    clear h3 h5
    go_enter Try.func44, Try.ntmps44
    go_wp2_with fail
    refine (isPlace_any pl _).mono ?_
    rintro e w1 ⟨rfl, rfl⟩
    rw [hpl.out]
    go_wp2_with fail
    refine (read_any _ _ (by omega) (by omega)).mono ?_
    rintro e w1 ⟨rfl, rfl⟩
    rw [hrd.out]
    go_wp2_with fail
    exact bodyPost_ret (v := noV 2) (by simp [results, Try.results44, go_sem]) rfl ⟨rfl, (Below.refl _ _).alloc (Nat.le_refl _) _⟩
  by_cases h7 : s.size < 6 + T
  · rw [decV_no (show decWhy st pl s = 3 from by unfold decWhy; rw [if_neg (by omega), if_neg h4, hT.out, if_neg h5, if_neg h6, if_pos h7]) (by decide)]
    clear h3 h5
    go_enter Try.func44, Try.ntmps44
    go_wp2_with fail
    refine (isPlace_any pl _).mono ?_
    rintro e w1 ⟨rfl, rfl⟩
    rw [hpl.out]
    go_wp2_with fail
    refine (read_any _ _ (by omega) (by omega)).mono ?_
    rintro e w1 ⟨rfl, rfl⟩
    rw [hrd.out]
    go_wp2_with fail
    exact bodyPost_ret (v := noV 3) (by simp [results, Try.results44, go_sem]) rfl ⟨rfl, (Below.refl _ _).alloc (Nat.le_refl _) _⟩
  have hWhy := Lib.hid (show decWhy st pl s = if bt s.data.toList 6 = 0 ∨ s.extract 2 6 ≠ B (sumF st pl (s.extract 0 2).data.toList (s.extract 6 (6 + T)).data.toList) then 4 else 0 from by
    unfold decWhy; rw [if_neg (by omega), if_neg h4, hT.out, if_neg h5, if_neg h6, if_neg h7]; unfold bodyS; rw [hT.out])
  obtain ⟨p0, p1⟩ := h3
  have h7' : 6 + (T : Int) ≤ (s.size : Int) := by omega
  have hbt := Lib.hid (bt_extract s 6 (6 + T) 0 (by omega) (by omega))
  have hBz : (s.extract 6 (6 + T)).size = T := by simp; omega
  have hpay : Hid ((s.extract 6 (6 + T)).extract 1 T = s.extract 7 (6 + toldF s)) := Lib.hid (by rw [hT.out, ByteArray.extract_extract]; congr 1; omega)
  obtain ⟨Bd, hBd⟩ : ∃ Bd, Hid (s.extract 6 (6 + T) = Bd) := ⟨_, Lib.hid rfl⟩
  rw [hBd.out] at hWhy hbt hBz hpay
  have hK := bt_lt s.data.toList 6
  obtain ⟨K, hKe⟩ : ∃ K, Hid (bt s.data.toList 6 = K) := ⟨_, Lib.hid rfl⟩
  rw [hKe.out] at hWhy hbt hK
  have hBz1 : (1 : Int) ≤ (Bd.size : Int) := by omega
  have hidx : ∀ wx, (Instr.index 9 (.string Bd) (.int .i64 0)).run Try.prog wx = .ok (.int .u8 (K : Nat)) wx := fun wx => by
    have := idx_nat (P := Try.prog) 9 Try.underlying9 Bd .i64 0 (by omega) wx
    rw [← hbt.out]; exact this
  have hsum : ∀ W : World, Calls Try.prog 72 #[.int .u32 st, .int .i64 pl, .string (s.extract 0 2), .string Bd] W fun e w' => e = .returned (.string (B (sumF st pl (s.extract 0 2).data.toList Bd.data.toList))) ∧ Below W.heap.size W w' := fun W => sumOf_any st pl _ _ W s0 s1 p0 p1 (by omega) (by omega)
  replace hsum := Lib.hid hsum
  obtain ⟨C, hC⟩ : ∃ C, Hid (B (sumF st pl (s.extract 0 2).data.toList Bd.data.toList) = C) := ⟨_, Lib.hid rfl⟩
  rw [hC.out] at hsum hWhy
  have h26 : (6 : Int) ≤ (s.size : Int) := by omega
  clear hC hbt
  by_cases hK0 : K = 0
  · rw [decV_no (show decWhy st pl s = 4 from by rw [hWhy.out, if_pos (.inl hK0)]) (by decide)]
    have hKb : ((K : Int) == 0) = true := by simp; omega
    clear hWhy hsum hpay
    go_enter Try.func44, Try.ntmps44
    go_wp2_with fail
    refine (isPlace_any pl _).mono ?_
    rintro e w1 ⟨rfl, rfl⟩
    rw [hpl.out]
    go_wp2_with fail
    refine (read_any _ _ (by omega) (by omega)).mono ?_
    rintro e w1 ⟨rfl, rfl⟩
    rw [hrd.out]
    go_wp2_with fail
    rw [hBd.out]
    go_quiet (fail)
    have hZ : Whole ((w.alloc (.cells #[.int .i64 0, .string ⟨#[]⟩] 72)).drewN nq) w.heap.size 72 [.int .i64 0, .string ⟨#[]⟩] := (Whole.new w 72 [.int .i64 0, .string ⟨#[]⟩]).drewN nq
    have hbW : Hid (Below w.heap.size w ((w.alloc (.cells #[.int .i64 0, .string ⟨#[]⟩] 72)).drewN nq)) := Lib.hid (let h := (Below.refl w.heap.size w).alloc (Nat.le_refl _) (.cells #[.int .i64 0, .string ⟨#[]⟩] 72); ⟨h.os, h.tape, h.output, h.size, h.block⟩)
    generalize (w.alloc (.cells #[.int .i64 0, .string ⟨#[]⟩] 72)).drewN nq = W at hZ hbW ⊢
    go_wp2_with fail
    go_quiet (fail)
    have hZ2 := hZ.drewN nq
    have hb2 : Hid (Below w.heap.size w (W.drewN nq)) := Lib.hid (drewB' hbW.out nq)
    generalize W.drewN nq = W2 at hZ2 hb2 ⊢
    have q0 := hZ2.cell 0
    have q1 := hZ2.cell 1
    have r0 := hZ2.frozen 0
    have r1 := hZ2.frozen 1
    simp only [List.getElem?_cons_zero, List.getElem?_cons_succ] at q0 q1
    clear hZ hZ2 hbW
    go_wp2_with fail
    exact bodyPost_ret (v := noV 4) (by simp [results, Try.results44, go_sem, q0, q1]) rfl ⟨rfl, far_store hb2.out (Nat.le_refl _) [.int .i64 0, .string ⟨#[]⟩]⟩
  · have hKb : ((K : Int) == 0) = false := by rw [beq_eq_false_iff_ne]; omega
    by_cases hC : s.extract 2 6 = C
    · rw [decV_yes (show decWhy st pl s = 0 from by rw [hWhy.out, if_neg (by rintro (h | h); exact hK0 h; exact h hC)]), hKe.out, hT.out]
      rw [hT.out] at hpay
      have hCb := bytes_eq hC
      have hpz : (Bd.extract 1 T).size ≤ 281474976710656 := by simp; omega
      clear hWhy
      go_enter Try.func44, Try.ntmps44
      go_wp2_with fail
      refine (isPlace_any pl _).mono ?_
      rintro e w1 ⟨rfl, rfl⟩
      rw [hpl.out]
      go_wp2_with fail
      refine (read_any _ _ (by omega) (by omega)).mono ?_
      rintro e w1 ⟨rfl, rfl⟩
      rw [hrd.out]
      go_wp2_with fail
      rw [hBd.out]
      go_quiet (fail)
      have hZ : Whole ((w.alloc (.cells #[.int .i64 0, .string ⟨#[]⟩] 72)).drewN nq) w.heap.size 72 [.int .i64 0, .string ⟨#[]⟩] := (Whole.new w 72 [.int .i64 0, .string ⟨#[]⟩]).drewN nq
      have hbW : Hid (Below w.heap.size w ((w.alloc (.cells #[.int .i64 0, .string ⟨#[]⟩] 72)).drewN nq)) := Lib.hid (let h := (Below.refl w.heap.size w).alloc (Nat.le_refl _) (.cells #[.int .i64 0, .string ⟨#[]⟩] 72); ⟨h.os, h.tape, h.output, h.size, h.block⟩)
      generalize (w.alloc (.cells #[.int .i64 0, .string ⟨#[]⟩] 72)).drewN nq = W at hZ hbW ⊢
      go_wp2_with fail
      go_region_held3 (fun w' => True) (trivial) (first
        | (go_at_call 72; (with_reducible refine (hsum.out _).mono ?_); rintro e w5 ⟨rfl, hb5⟩))
      have hb6 : Below W.heap.size W w5 := ⟨hb5.os, hb5.tape, hb5.output, hb5.size, hb5.block⟩
      have hZ2 : Whole w5 w.heap.size 72 [.int .i64 0, .string ⟨#[]⟩] := hZ.below hb6 hZ.lt
      have hb2 := Lib.hid (hbW.out.trans (hb6.mono hbW.out.size))
      go_wp2_with fail
      refine (clone_any _ _ hpz).mono ?_
      rintro e w6 ⟨rfl, hb7⟩
      replace hZ2 : Whole w6 w.heap.size 72 [.int .i64 0, .string ⟨#[]⟩] := hZ2.below hb7 hZ2.lt
      replace hb2 := Lib.hid (hb2.out.trans (hb7.mono hb2.out.size))
      have q0 := hZ2.cell 0
      have q1 := hZ2.cell 1
      have r0 := hZ2.frozen 0
      have r1 := hZ2.frozen 1
      simp only [List.getElem?_cons_zero, List.getElem?_cons_succ] at q0 q1
      clear hZ hZ2 hbW hb5 hb6 hb7
      go_wp2_with fail
      rw [← hpay.out]
      exact bodyPost_ret (v := .tuple #[.agg #[.int .i64 (K : Nat), .string (Bd.extract 1 T)], .int .i64 ((6 + T : Nat) : Int), .int .i64 0]) (by simp [results, Try.results44, go_sem, q0, q1]) rfl ⟨rfl, far_store hb2.out (Nat.le_refl _) [.int .i64 (K : Nat), .string (Bd.extract 1 T)]⟩
    · rw [decV_no (show decWhy st pl s = 4 from by rw [hWhy.out, if_pos (.inr hC)]) (by decide)]
      have hCb := bytes_ne hC
      clear hWhy hpay
      go_enter Try.func44, Try.ntmps44
      go_wp2_with fail
      refine (isPlace_any pl _).mono ?_
      rintro e w1 ⟨rfl, rfl⟩
      rw [hpl.out]
      go_wp2_with fail
      refine (read_any _ _ (by omega) (by omega)).mono ?_
      rintro e w1 ⟨rfl, rfl⟩
      rw [hrd.out]
      go_wp2_with fail
      rw [hBd.out]
      go_quiet (fail)
      have hZ : Whole ((w.alloc (.cells #[.int .i64 0, .string ⟨#[]⟩] 72)).drewN nq) w.heap.size 72 [.int .i64 0, .string ⟨#[]⟩] := (Whole.new w 72 [.int .i64 0, .string ⟨#[]⟩]).drewN nq
      have hbW : Hid (Below w.heap.size w ((w.alloc (.cells #[.int .i64 0, .string ⟨#[]⟩] 72)).drewN nq)) := Lib.hid (let h := (Below.refl w.heap.size w).alloc (Nat.le_refl _) (.cells #[.int .i64 0, .string ⟨#[]⟩] 72); ⟨h.os, h.tape, h.output, h.size, h.block⟩)
      generalize (w.alloc (.cells #[.int .i64 0, .string ⟨#[]⟩] 72)).drewN nq = W at hZ hbW ⊢
      go_wp2_with fail
      go_region_held3 (fun w' => True) (trivial) (first
        | (go_at_call 72; (with_reducible refine (hsum.out _).mono ?_); rintro e w5 ⟨rfl, hb5⟩))
      have hb6 : Below W.heap.size W w5 := ⟨hb5.os, hb5.tape, hb5.output, hb5.size, hb5.block⟩
      have hZ2 : Whole w5 w.heap.size 72 [.int .i64 0, .string ⟨#[]⟩] := hZ.below hb6 hZ.lt
      have hb2 := Lib.hid (hbW.out.trans (hb6.mono hbW.out.size))
      have q0 := hZ2.cell 0
      have q1 := hZ2.cell 1
      have r0 := hZ2.frozen 0
      have r1 := hZ2.frozen 1
      simp only [List.getElem?_cons_zero, List.getElem?_cons_succ] at q0 q1
      clear hZ hZ2 hbW hb5 hb6
      go_wp2_with fail
      exact bodyPost_ret (v := noV 4) (by simp [results, Try.results44, go_sem, q0, q1]) rfl ⟨rfl, far_store hb2.out (Nat.le_refl _) [.int .i64 0, .string ⟨#[]⟩]⟩
end Go.Proofs.Ytgomhnclmacleaa.W
