/- Package retain: bounded, Right, Start. -/
import Derived.Test.YtahljbjgenepaaaRcF
import Derived.Test.YtahljbjgenepaaaStops
import Derived.Deep.Cut
namespace Go.Proofs.Ytahljbjgenepaaa.W
open Go.RowKit Go.Sort
open Go.Proofs.Ytahljbjgenepaaa.M Go.Proofs.Ytahljbjgenepaaa.D Go.Proofs.Ytahljbjgenepaaa.Z
set_option linter.unusedVariables false
set_option linter.unusedSimpArgs false

/-- A number, or the one next to it from 0 to 2^40. -/
def clampI (n : Int) : Int := if n < 0 then 0 else if 1099511627776 < n then 1099511627776 else n
theorem clampI_bounds (n : Int) : 0 ≤ clampI n ∧ clampI n ≤ 1099511627776 := by unfold clampI; split <;> (try split) <;> omega
theorem clampI_mono {a b : Int} (h : a ≤ b) : clampI a ≤ clampI b := by unfold clampI; repeat' split
                                                                        all_goals omega
/-- How many bytes records have. -/
def bytesL (rs : List Rc) : Nat := (packL rs).length
/-- What may stay at a record's place. -/
def staysP (now age size : Int) (r : Rc) (t : List Rc) : Prop := (size = 0 ∨ (bytesL (r :: t) : Int) ≤ size) ∧ (age = 0 ∨ now - r.tick ≤ age)
instance (now age size : Int) (r : Rc) (t : List Rc) : Decidable (staysP now age size r t) := by unfold staysP; infer_instance
/-- The first one that stays (20.1). -/
def startF (now age size next : Int) : List Rc → Int
  | [] => next
  | r :: t => if staysP now age size r t then r.off else startF now age size next t
theorem bytesL_cons (r : Rc) (t : List Rc) : bytesL (r :: t) = (recL r).length + bytesL t := by show (recL r ++ packL t).length = _; rw [List.length_append]; rfl
theorem bytesL_drop (rs : List Rc) : ∀ i, bytesL (rs.drop i) ≤ bytesL rs := by
  induction rs with
  | nil => intro i; simp
  | cons r t ih =>
    intro i
    cases i with
    | zero => exact Nat.le_refl _
    | succ i => have := ih i; rw [List.drop_succ_cons, bytesL_cons]; omega
theorem startF_break (now age size next : Int) (rs : List Rc) : ∀ m, size ≠ 0 → size < (bytesL (rs.drop m) : Int) → startF now age size next rs = startF now age size next (rs.drop (m + 1)) := by
  induction rs with
  | nil => intro m _ _; simp
  | cons r t ih =>
    intro m h0 h1
    have hno : ¬ staysP now age size r t := fun h => by
      have h2 := bytesL_drop (r :: t) m
      rcases h.1 with h3 | h3 <;> omega
    have e : startF now age size next (r :: t) = startF now age size next t := by show (if _ then _ else _) = _; rw [if_neg hno]
    cases m with
    | zero => rw [e]; rfl
    | succ m => rw [e, ih m h0 (by simpa using h1)]; rfl
theorem startF_at {now age size next : Int} {rs : List Rc} {m : Nat} {r : Rc} (h : rs[m]? = some r) : rs.drop m = r :: rs.drop (m + 1) := by
  obtain ⟨hm, rfl⟩ := List.getElem?_eq_some_iff.1 h
  exact List.drop_eq_getElem_cons hm

theorem bounded_any (n : Int) (w : World) :
    Calls Try.prog 43 #[.int .i64 n] w fun e w' => e = .returned (.int .i64 (clampI n)) ∧ w = w' := by
  have hmx := fun W => run_max_int2 (P := Try.prog) (w := W) #[3, 3] 3 .i64 .i64 n 0
  obtain ⟨N, hN⟩ : ∃ N, Hid ((if (0 : Int) > n then 0 else n) = N) := ⟨_, Lib.hid rfl⟩
  rw [hN.out] at hmx
  have hmn := fun W => run_min_int2 (P := Try.prog) (w := W) #[3, 3] 3 .i64 .i64 N 1099511627776
  have hC : (if (1099511627776 : Int) < N then 1099511627776 else N) = clampI n := by
    unfold clampI; rw [← hN.out]; repeat' split
    all_goals omega
  rw [hC] at hmn
  obtain ⟨C, hCC⟩ : ∃ C, Hid (clampI n = C) := ⟨_, Lib.hid rfl⟩
  rw [hCC.out] at hmn ⊢
  clear hC
  go_enter Try.func43, Try.ntmps43
  go_wp2_with fail
  go_ret
  exact ⟨rfl, rfl⟩

theorem right_of (a s : Int) (B : Bool) (hB : decide (a = clampI a ∧ s = clampI s) = B) (w : World) :
    Calls Try.prog 42 #[.int .i64 a, .int .i64 s] w fun e w' => e = .returned (.bool B) ∧ w = w' := by
  have h1 := Lib.hid (fun W => bounded_any a W)
  have h2 := Lib.hid (fun W => bounded_any s W)
  obtain ⟨A, hA⟩ : ∃ A, Hid (clampI a = A) := ⟨_, Lib.hid rfl⟩
  obtain ⟨S, hS⟩ : ∃ A, Hid (clampI s = A) := ⟨_, Lib.hid rfl⟩
  rw [hA.out] at h1 hB
  rw [hS.out] at h2 hB
  by_cases ha : a = A
  · have ea : (a == A) = true := by simp [ha]
    by_cases hs : s = S
    · have es : (s == S) = true := by simp [hs]
      obtain rfl : B = true := by rw [← hB]; exact decide_eq_true ⟨ha, hs⟩
      replace ha := Lib.hid ha
      replace hs := Lib.hid hs
      clear hB
      go_enter Try.func42, Try.ntmps42
      go_wp2_with fail
      refine (h1.out _).mono ?_
      rintro _ w1 ⟨rfl, rfl⟩
      go_wp2_with fail
      refine (h2.out _).mono ?_
      rintro _ w1 ⟨rfl, rfl⟩
      go_wp2_with fail
      go_ret
      exact ⟨rfl, rfl⟩
    · have es : (s == S) = false := by simp [hs]
      obtain rfl : B = false := by rw [← hB]; exact decide_eq_false (fun h => hs h.2)
      replace ha := Lib.hid ha
      replace hs := Lib.hid hs
      clear hB
      go_enter Try.func42, Try.ntmps42
      go_wp2_with fail
      refine (h1.out _).mono ?_
      rintro _ w1 ⟨rfl, rfl⟩
      go_wp2_with fail
      refine (h2.out _).mono ?_
      rintro _ w1 ⟨rfl, rfl⟩
      go_wp2_with fail
      go_ret
      exact ⟨rfl, rfl⟩
  · have ea : (a == A) = false := by simp [ha]
    obtain rfl : B = false := by rw [← hB]; exact decide_eq_false (fun h => ha h.1)
    replace ha := Lib.hid ha
    clear hB
    go_enter Try.func42, Try.ntmps42
    go_wp2_with fail
    refine (h1.out _).mono ?_
    rintro _ w1 ⟨rfl, rfl⟩
    go_wp2_with fail
    go_ret
    exact ⟨rfl, rfl⟩

set_option maxRecDepth 100000 in
set_option maxHeartbeats 4000000 in
theorem start_any (va : Option Addr) (c : Nat) (rs : List Rc) (next now age size : Int) (w : World) (h : RcAt w va rs) (hn : rs.length ≤ 1000) (hok : ∀ r ∈ rs, r.ok) :
    Calls Try.prog 28 #[.slice va rs.length c, .int .i64 next, .int .i64 now, .int .i64 age, .int .i64 size] w fun e w' => e = .returned (.int .i64 (startF (clampI now) (clampI age) (clampI size) next rs)) ∧ Below w.heap.size w w' := by
  have q1 := Lib.hid (fun W => bounded_any now W)
  have q2 := Lib.hid (fun W => bounded_any age W)
  have q3 := Lib.hid (fun W => bounded_any size W)
  have b1 := clampI_bounds now
  have b2 := clampI_bounds age
  have b3 := clampI_bounds size
  obtain ⟨W1, hW1⟩ : ∃ A, Hid (clampI now = A) := ⟨_, Lib.hid rfl⟩
  obtain ⟨A1, hA1⟩ : ∃ A, Hid (clampI age = A) := ⟨_, Lib.hid rfl⟩
  obtain ⟨S1, hS1⟩ : ∃ A, Hid (clampI size = A) := ⟨_, Lib.hid rfl⟩
  rw [hW1.out] at q1 b1 ⊢
  rw [hA1.out] at q2 b2 ⊢
  rw [hS1.out] at q3 b3 ⊢
  clear hW1 hA1 hS1
  obtain ⟨N, hN⟩ : ∃ N, Hid (rs.length = N) := ⟨_, Lib.hid rfl⟩
  rw [hN.out] at hn ⊢
  have hz := Lib.hid (fun (r : Rc) (hr : r.ok) W => size_yes r.off r.tick r.key r.val r.gone r.prod r.seq r.frm W hr)
  have hsum : Hid (∀ m r, rs[m]? = some r → r.ok → bytesL (rs.drop m) = bytesL (rs.drop (m + 1)) + (recL r).length ∧ (recL r).length ≤ 300) := Lib.hid (fun m r hr hro => by
    have h1 := recL_bounds hro
    obtain ⟨_, _, _, _, _, _, hk, hv, _⟩ := hro
    refine ⟨?_, by omega⟩
    rw [startF_at (now := 0) (age := 0) (size := 0) (next := 0) hr, bytesL_cons, Nat.add_comm])
  have hst : Hid (∀ m r, rs[m]? = some r → startF W1 A1 S1 next (rs.drop m) = if staysP W1 A1 S1 r (rs.drop (m + 1)) then r.off else startF W1 A1 S1 next (rs.drop (m + 1))) := Lib.hid (fun m r hr => by
    rw [startF_at (now := 0) (age := 0) (size := 0) (next := 0) hr]; rfl)
  have hbr := Lib.hid (fun m => startF_break W1 A1 S1 next rs m)
  have hcons : Hid (∀ m r, rs[m]? = some r → bytesL (r :: rs.drop (m + 1)) = bytesL (rs.drop m)) := Lib.hid (fun m r hr => by
    rw [startF_at (now := 0) (age := 0) (size := 0) (next := 0) hr])
  have hw0 : IntKind.i64.wrap ((N : Int) - 1) = (N : Int) - 1 := by rw [IntWalk.i64_in _ (by omega)]
  have hb0 := Lib.hid (show rs.drop N = [] from by rw [← hN.out]; simp)
  replace h := Lib.hid h
  replace hok := Lib.hid hok
  go_enter Try.func28, Try.ntmps28
  go_wp2_with fail
  go_step3
  go_wp2_with fail
  refine (q1.out _).mono ?_
  rintro _ w1 ⟨rfl, rfl⟩
  go_wp2_with fail
  refine (q2.out _).mono ?_
  rintro _ w1 ⟨rfl, rfl⟩
  go_wp2_with fail
  refine (q3.out _).mono ?_
  rintro _ w1 ⟨rfl, rfl⟩
  clear q1 q2 q3
  go_wp2_with fail
  go_step3
  go_wp2_with fail
  go_loopg [11, 12, 13] N (fun ga st by_ i wr => ∃ (a s : Nat) (x iv : Int), a ≤ N ∧ a ≤ ga ∧ st = .int .i64 x ∧ by_ = .int .i64 (s : Int) ∧ i = .int .i64 iv ∧ iv + 1 = (a : Int) ∧ Hid (x = startF W1 A1 S1 next (rs.drop a) ∧ bytesL (rs.drop a) = s ∧ s + 300 * a ≤ 300 * N ∧ Below w.heap.size w wr))
  case atStart => exact ⟨N, 0, next, (N : Int) - 1, by omega, by omega, rfl, rfl, rfl, by omega, Lib.hid ⟨by rw [hb0.out]; rfl, by rw [hb0.out]; rfl, by omega, Below.refl _ _⟩⟩
  case round =>
    obtain ⟨a, s, x, iv, ha, hg, rfl, rfl, rfl, hiv, hrel⟩ := hrel
    generalize wr = wo at *
    rcases a with _ | m
    · obtain rfl : iv = -1 := by omega
      clear hiv
      go_wp2_with fail
      rw [Exit.noGoto_ret]
      go_ret
      exact ⟨congrArg (fun z => Ending.returned (.int .i64 z)) hrel.out.1, hrel.out.2.2.2⟩
    · obtain rfl : iv = (m : Int) := by omega
      clear hiv
      obtain ⟨r, hr⟩ : ∃ r, rs[m]? = some r := ⟨_, List.getElem?_eq_getElem (by have := hN.out; omega)⟩
      have hro := hok.out r (List.mem_of_getElem? hr)
      obtain ⟨hx, hs, hs3, hb⟩ := hrel.out
      obtain ⟨b, o, rfl, c0, c1, c2, c3, c4, c5, c6, c7⟩ := (h.out.below hb).get hr
      have hat2 := h.out
      have hzr := hz.out r hro
      obtain ⟨hu1, hu2⟩ := hsum.out m r hr hro
      have hst1 := hst.out m r hr
      have hbr1 := hbr.out m
      have hcs := hcons.out m r hr
      have htk := hro.2.1
      have hm0 : (0 : Int) ≤ (m : Int) := by omega
      have hmN : (m : Int) < (N : Int) := by omega
      rw [hs] at hu1
      obtain ⟨Z, hZ⟩ : ∃ Z, Hid ((recL r).length = Z) := ⟨_, Lib.hid rfl⟩
      rw [show (recL { off := r.off, tick := r.tick, key := r.key, val := r.val, gone := r.gone, prod := r.prod, seq := r.seq, frm := r.frm }).length = Z from hZ.out] at hzr
      rw [hZ.out] at hu1 hu2
      have hw1 : IntKind.i64.wrap ((s : Int) + (Z : Int)) = ((s + Z : Nat) : Int) := by rw [IntWalk.i64_in _ (by omega)]; omega
      have hw2 : IntKind.i64.wrap ((m : Int) - 1) = (m : Int) - 1 := by rw [IntWalk.i64_in _ (by omega)]
      have hw3 : IntKind.i64.wrap (W1 - r.tick) = W1 - r.tick := by rw [IntWalk.i64_in _ (by omega)]
      obtain ⟨T, hT⟩ : ∃ T, Hid (s + Z = T) := ⟨_, Lib.hid rfl⟩
      rw [hT.out] at hw1
      have hcs2 : bytesL (r :: rs.drop (m + 1)) = T := by rw [hcs, hu1, hT.out]
      have hu3 : T ≤ s + 300 := by have := hT.out; omega
      have hend : Hid (∀ (x2 : Int) (W : World), x2 = startF W1 A1 S1 next (rs.drop m) → Below w.heap.size w W → x2 = startF W1 A1 S1 next (rs.drop m) ∧ bytesL (rs.drop m) = T ∧ T + 300 * m ≤ 300 * N ∧ Below w.heap.size w W) := Lib.hid (fun x2 W e hb2 => ⟨e, by rw [hu1, hT.out], by omega, hb2⟩)
      have hbrk : Hid (S1 ≠ 0 → S1 < (T : Int) → x = startF W1 A1 S1 next rs) := Lib.hid (fun e1 e2 => by rw [hx, ← hbr1 e1 (by rw [hu1, hT.out]; exact e2)])
      have hyes : Hid ((S1 = 0 ∨ (T : Int) ≤ S1) → (A1 = 0 ∨ W1 - r.tick ≤ A1) → r.off = startF W1 A1 S1 next (rs.drop m)) := Lib.hid (fun e1 e2 => by
        rw [hst1, if_pos (show staysP W1 A1 S1 r (rs.drop (m + 1)) from ⟨by rw [hcs2]; exact e1, e2⟩)])
      have hno : Hid (¬ (A1 = 0 ∨ W1 - r.tick ≤ A1) → x = startF W1 A1 S1 next (rs.drop m)) := Lib.hid (fun e1 => by
        rw [hst1, if_neg (show ¬ staysP W1 A1 S1 r (rs.drop (m + 1)) from fun e => e1 e.2), hx])
      obtain ⟨t, ht⟩ : ∃ t, Hid (r.tick = t) := ⟨_, Lib.hid rfl⟩
      rw [ht.out] at hw3 htk
      replace hzr := Lib.hid hzr
      replace hr := Lib.hid hr
      replace hb := Lib.hid hb
      clear hx hs hrel hu1 hst1 hbr1 hcs hcs2 hat2 hro
      have hat3 := h.out
      go_wp2_with fail
      refine (hzr.out _).mono ?_
      rintro _ w2 ⟨rfl, hb2⟩
      have hB2 := Lib.hid (grew hb.out hb2)
      obtain ⟨b', o', e', d0, d1, _⟩ := (hat3.below hB2.out).get hr.out
      cases e'
      rw [ht.out] at d1
      clear c0 c1 c2 c3 c4 c5 c6 c7 hb2 hb hzr hat3
      by_cases hbk : S1 ≠ 0 ∧ S1 < (T : Int)
      · obtain ⟨k1, k2⟩ := hbk
        have hxx := Lib.hid (hbrk.out k1 k2)
        have k3 : (S1 != 0) = true := by simp [k1]
        go_wp2_with fail
        rw [Exit.noGoto_ret]
        go_ret
        exact ⟨congrArg (fun z => Ending.returned (.int .i64 z)) hxx.out, hB2.out⟩
      · have hsz : S1 = 0 ∨ (T : Int) ≤ S1 := by omega
        by_cases hag : A1 = 0 ∨ W1 - t ≤ A1
        · have hxx := Lib.hid (hend.out r.off w2 (hyes.out hsz (by rw [ht.out]; exact hag)) hB2.out)
          have k5 : ∀ z : Int, (z = 0 ∧ (z != 0) = false) ∨ (z ≠ 0 ∧ (z != 0) = true) := fun z => by by_cases h : z = 0 <;> simp [h]
          rcases k5 S1 with ⟨k1, k2⟩ | ⟨k1, k2⟩ <;> rcases k5 A1 with ⟨k3, k4⟩ | ⟨k3, k4⟩
          all_goals first | (have k6 : (T : Int) ≤ S1 := by omega) | skip
          all_goals first | (have k7 : W1 - t ≤ A1 := by omega) | skip
          all_goals
            replace k1 := Lib.hid k1
            replace k3 := Lib.hid k3
            clear k5 hbk hsz hag
            go_wp2_with fail
            go_roundg m
            case measure => omega
            case rel => exact ⟨m, T, r.off, (m : Int) - 1, by omega, by omega, rfl, (by go_num), (by go_num), by omega, hxx⟩
        · have hxx := Lib.hid (hend.out x w2 (hno.out (by rw [ht.out]; exact hag)) hB2.out)
          have k3 : ¬ A1 = 0 := by omega
          have k4 : (A1 != 0) = true := by simp [k3]
          have k7 : A1 < W1 - t := by omega
          have k5 : ∀ z : Int, (z = 0 ∧ (z != 0) = false) ∨ (z ≠ 0 ∧ (z != 0) = true) := fun z => by by_cases h : z = 0 <;> simp [h]
          rcases k5 S1 with ⟨k1, k2⟩ | ⟨k1, k2⟩
          all_goals first | (have k6 : (T : Int) ≤ S1 := by omega) | skip
          all_goals
            replace k1 := Lib.hid k1
            clear k5 hbk hsz hag
            go_wp2_with fail
            go_roundg m
            case measure => omega
            case rel => exact ⟨m, T, x, (m : Int) - 1, by omega, by omega, rfl, (by go_num), (by go_num), by omega, hxx⟩
end Go.Proofs.Ytahljbjgenepaaa.W
