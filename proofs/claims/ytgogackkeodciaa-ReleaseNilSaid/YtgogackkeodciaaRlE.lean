/- Package release: an entry laid; which releases may be; the definition's Digest. -/
import Derived.Test.YtgogackkeodciaaRlB
import Derived.Test.YtgogackkeodciaaRlD
namespace Go.Proofs.Ytgogackkeodciaa.W
open Go.RowKit Go.Sort
open Go.Proofs.Ytgogackkeodciaa.M Go.Proofs.Ytgogackkeodciaa.D Go.Proofs.Ytgogackkeodciaa.Z
set_option linter.unusedVariables false
set_option linter.unusedSimpArgs false

set_option maxRecDepth 100000 in
set_option maxHeartbeats 4000000 in
theorem layRelease25_any (num rule label : Int) (st : ByteArray) (sp off : Int) (tt : ByteArray) (tp : Int) (k v : ByteArray) (g : Bool) (w : World) (hn : 0 ≤ num ∧ num ≤ 9223372036854775807) (hr : 0 ≤ rule ∧ rule ≤ 9223372036854775807) (hlb : 0 ≤ label ∧ label ≤ 9223372036854775807) (hst : st.size ≤ 1000) (hsp : 0 ≤ sp ∧ sp ≤ 9223372036854775807) (hof : 0 ≤ off ∧ off ≤ 9223372036854775807) (htt : tt.size ≤ 1000) (htp : 0 ≤ tp ∧ tp ≤ 9223372036854775807) (hk : k.size ≤ 1000) (hv : v.size ≤ 1000) (hd : dig (digL k v g) < 18446744073709551616) :
    Calls Try.prog 62 #[.agg #[.int .i64 num, .int .i64 rule, .int .i64 label, .string st, .int .i64 sp, .int .i64 off, .string tt, .int .i64 tp, .string k, .string v, .bool g]] w fun e w' => e = .returned (.agg #[.int .i64 1, .string (B (relE ⟨num, rule, label, st, sp, off, tt, tp, k, v, g⟩))]) ∧ Below w.heap.size w w' := by
  obtain ⟨V, hV⟩ : ∃ V, Hid (V = (w.alloc (.cells #[.int .i64 num, .int .i64 rule, .int .i64 label, .string st, .int .i64 sp, .int .i64 off, .string tt, .int .i64 tp, .string k, .string v, .bool g] 67)).alloc (.cells #[.int .i64 0, .string ⟨#[]⟩] 33)) := ⟨_, Lib.hid rfl⟩
  have hB : Below w.heap.size w V := by rw [hV.out]; exact grewAlloc (grewAlloc (Below.refl _ _) _) _
  have hP : Whole V w.heap.size 67 [.int .i64 num, .int .i64 rule, .int .i64 label, .string st, .int .i64 sp, .int .i64 off, .string tt, .int .i64 tp, .string k, .string v, .bool g] := by rw [hV.out]; exact (Whole.new w _ _).alloc _
  have hR : Whole V (w.heap.size + 1) 33 [.int .i64 0, .string ⟨#[]⟩] := by
    rw [hV.out]
    have := Whole.new (w.alloc (.cells #[.int .i64 num, .int .i64 rule, .int .i64 label, .string st, .int .i64 sp, .int .i64 off, .string tt, .int .i64 tp, .string k, .string v, .bool g] 67)) 33 [.int .i64 0, .string ⟨#[]⟩]
    simpa using this
  obtain ⟨pb, hpb⟩ : ∃ q, Hid (w.heap.size = q) := ⟨_, Lib.hid rfl⟩
  obtain ⟨fb, hfb⟩ : ∃ q, Hid (w.heap.size + 1 = q) := ⟨_, Lib.hid rfl⟩
  rw [hpb.out] at hP
  rw [hfb.out] at hR
  have hfw : w.heap.size ≤ fb := by have := hfb.out; omega
  have z1 := chainB_small num
  have z2 := chainB_small rule
  have z3 := chainB_small label
  have z5 := chainB_small off
  have z4 : (B (textL st.data.toList ++ chain sp)).size ≤ 1020 := by
    have h1 := textB_small hst
    have h2 := chainB_small sp
    rw [B_size] at h1 h2 ⊢
    rw [List.length_append]; omega
  have z6 : (B (textL tt.data.toList ++ chain tp)).size ≤ 1020 := by
    have h1 := textB_small htt
    have h2 := chainB_small tp
    rw [B_size] at h1 h2 ⊢
    rw [List.length_append]; omega
  have z7 : (B (fx (dig (digL k v g) : Nat) 8 ++ gB g ++ textL k.data.toList ++ textL v.data.toList)).size ≤ 2100 := by
    have h1 := textB_small hk
    have h2 := textB_small hv
    have h3 := gB_small g
    rw [B_size] at h1 h2 h3 ⊢
    simp only [List.length_append, fx_length]; omega
  obtain ⟨C1, hC1⟩ : ∃ x, Hid (B (chain num) = x) := ⟨_, Lib.hid rfl⟩
  obtain ⟨C2, hC2⟩ : ∃ x, Hid (B (chain rule) = x) := ⟨_, Lib.hid rfl⟩
  obtain ⟨C3, hC3⟩ : ∃ x, Hid (B (chain label) = x) := ⟨_, Lib.hid rfl⟩
  obtain ⟨P1, hP1⟩ : ∃ x, Hid (B (textL st.data.toList ++ chain sp) = x) := ⟨_, Lib.hid rfl⟩
  obtain ⟨C4, hC4⟩ : ∃ x, Hid (B (chain off) = x) := ⟨_, Lib.hid rfl⟩
  obtain ⟨P2, hP2⟩ : ∃ x, Hid (B (textL tt.data.toList ++ chain tp) = x) := ⟨_, Lib.hid rfl⟩
  obtain ⟨Q, hQ⟩ : ∃ x, Hid (B (fx (dig (digL k v g) : Nat) 8 ++ gB g ++ textL k.data.toList ++ textL v.data.toList) = x) := ⟨_, Lib.hid rfl⟩
  have k1 : Hid (∀ W, Calls Try.prog 92 #[.int .i64 num] W fun e w' => e = .returned (.string C1) ∧ Below W.heap.size W w') := Lib.hid (fun W => by rw [← hC1.out]; exact chain25_any num W hn.1 hn.2)
  have k2 : Hid (∀ W, Calls Try.prog 92 #[.int .i64 rule] W fun e w' => e = .returned (.string C2) ∧ Below W.heap.size W w') := Lib.hid (fun W => by rw [← hC2.out]; exact chain25_any rule W hr.1 hr.2)
  have k3 : Hid (∀ W, Calls Try.prog 92 #[.int .i64 label] W fun e w' => e = .returned (.string C3) ∧ Below W.heap.size W w') := Lib.hid (fun W => by rw [← hC3.out]; exact chain25_any label W hlb.1 hlb.2)
  have k5 : Hid (∀ W, Calls Try.prog 92 #[.int .i64 off] W fun e w' => e = .returned (.string C4) ∧ Below W.heap.size W w') := Lib.hid (fun W => by rw [← hC4.out]; exact chain25_any off W hof.1 hof.2)
  have k4 : Hid (∀ W, Calls Try.prog 93 #[.agg #[.string st, .int .i64 sp]] W fun e w' => e = .returned (.string P1) ∧ Below W.heap.size W w') := Lib.hid (fun W => by rw [← hP1.out]; exact layPlace25_any st sp W (by omega) hsp.1 hsp.2)
  have k6 : Hid (∀ W, Calls Try.prog 93 #[.agg #[.string tt, .int .i64 tp]] W fun e w' => e = .returned (.string P2) ∧ Below W.heap.size W w') := Lib.hid (fun W => by rw [← hP2.out]; exact layPlace25_any tt tp W (by omega) htp.1 htp.2)
  have k7 : Hid (∀ W, Calls Try.prog 94 #[.agg #[.string k, .string v, .bool g]] W fun e w' => e = .returned (.string Q) ∧ Below W.heap.size W w') := Lib.hid (fun W => by rw [← hQ.out]; exact layPair25_any k v g W (by omega) (by omega) hd)
  rw [hC1.out] at z1
  rw [hC2.out] at z2
  rw [hC3.out] at z3
  rw [hP1.out] at z4
  rw [hC4.out] at z5
  rw [hP2.out] at z6
  rw [hQ.out] at z7
  have hj1 := Lib.hid (fun W => joined3_new C1 C2 C3 W 9 (by omega))
  have hj2 := Lib.hid (fun W => joined3_new P1 C4 P2 W 9 (by omega))
  have hz1 : (B (C1.data.toList ++ C2.data.toList ++ C3.data.toList)).size ≤ 100 := by rw [B_size]; simp only [List.length_append, sz25]; omega
  have hz2 : (B (P1.data.toList ++ C4.data.toList ++ P2.data.toList)).size ≤ 3000 := by rw [B_size]; simp only [List.length_append, sz25]; omega
  obtain ⟨J1, hJ1⟩ : ∃ x, Hid (B (C1.data.toList ++ C2.data.toList ++ C3.data.toList) = x) := ⟨_, Lib.hid rfl⟩
  obtain ⟨J2, hJ2⟩ : ∃ x, Hid (B (P1.data.toList ++ C4.data.toList ++ P2.data.toList) = x) := ⟨_, Lib.hid rfl⟩
  rw [hJ1.out] at hj1 hz1
  rw [hJ2.out] at hj2 hz2
  have hj3 := Lib.hid (fun W => joined3_new J1 J2 Q W 9 (by omega))
  have hdl : J1.data.toList ++ J2.data.toList ++ Q.data.toList = relE ⟨num, rule, label, st, sp, off, tt, tp, k, v, g⟩ := by rw [← hJ1.out, ← hJ2.out, ← hQ.out, ← hC1.out, ← hC2.out, ← hC3.out, ← hP1.out, ← hP2.out, ← hC4.out]; rfl
  rw [hdl] at hj3
  obtain ⟨L, hL⟩ : ∃ x, Hid (B (relE ⟨num, rule, label, st, sp, off, tt, tp, k, v, g⟩) = x) := ⟨_, Lib.hid rfl⟩
  rw [hL.out] at hj3 ⊢
  have x0 : ∀ W, Below V.heap.size V W → W.cell? ⟨pb, 0, none⟩ = some (.int .i64 num) := fun W hb => (hP.below hb hP.lt).cell 0
  have x1 : ∀ W, Below V.heap.size V W → W.cell? ⟨pb, 1, none⟩ = some (.int .i64 rule) := fun W hb => (hP.below hb hP.lt).cell 1
  have x2 : ∀ W, Below V.heap.size V W → W.cell? ⟨pb, 2, none⟩ = some (.int .i64 label) := fun W hb => (hP.below hb hP.lt).cell 2
  have x3 : ∀ W, Below V.heap.size V W → W.cell? ⟨pb, 3, none⟩ = some (.string st) := fun W hb => (hP.below hb hP.lt).cell 3
  have x4 : ∀ W, Below V.heap.size V W → W.cell? ⟨pb, 4, none⟩ = some (.int .i64 sp) := fun W hb => (hP.below hb hP.lt).cell 4
  have x5 : ∀ W, Below V.heap.size V W → W.cell? ⟨pb, 5, none⟩ = some (.int .i64 off) := fun W hb => (hP.below hb hP.lt).cell 5
  have x6 : ∀ W, Below V.heap.size V W → W.cell? ⟨pb, 6, none⟩ = some (.string tt) := fun W hb => (hP.below hb hP.lt).cell 6
  have x7 : ∀ W, Below V.heap.size V W → W.cell? ⟨pb, 7, none⟩ = some (.int .i64 tp) := fun W hb => (hP.below hb hP.lt).cell 7
  have x8 : ∀ W, Below V.heap.size V W → W.cell? ⟨pb, 8, none⟩ = some (.string k) := fun W hb => (hP.below hb hP.lt).cell 8
  have x9 : ∀ W, Below V.heap.size V W → W.cell? ⟨pb, 9, none⟩ = some (.string v) := fun W hb => (hP.below hb hP.lt).cell 9
  have x10 : ∀ W, Below V.heap.size V W → W.cell? ⟨pb, 10, none⟩ = some (.bool g) := fun W hb => (hP.below hb hP.lt).cell 10
  have hRb : Hid (∀ W, Below V.heap.size V W → Whole W fb 33 [.int .i64 0, .string ⟨#[]⟩]) := Lib.hid (fun W hb => hR.below hb hR.lt)
  have s10 : Below V.heap.size V V := Below.refl _ _
  have s10d : Below V.heap.size V V.drew := (Below.refl _ _).drew
  have hB4 := Lib.hid hB
  clear hC1 hC2 hC3 hP1 hC4 hP2 hQ hJ1 hJ2 hL hP hR hB z1 z2 z3 z4 z5 z6 z7 hz1 hz2 hdl hn hr hlb hst hsp hof htt htp hk hv hd
  go_enter Try.func62, Try.ntmps62
  go_upto_region 1 with fail
  rw [← show V = _ from hV.out, hfb.out, hpb.out]
  clear hV hpb hfb
  go_region_held3 (fun w' => Below V.heap.size V w') (with_reducible first | assumption | exact keepNew25 (by assumption) _) (first
    | (go_at_call 56; (with_reducible refine (hj1.out _).mono ?_); rintro _ y5 ⟨rfl, b5⟩; have s15 : Below V.heap.size V y5 := grew (by assumption) b5)
    | (go_at_call 92; (with_reducible refine (k1.out _).mono ?_); rintro _ y1 ⟨rfl, b1⟩; have s11 : Below V.heap.size V y1 := grew (by assumption) b1)
    | (go_at_call 92; (with_reducible refine (k2.out _).mono ?_); rintro _ y2 ⟨rfl, b2⟩; have s12 : Below V.heap.size V y2 := grew (by assumption) b2)
    | (go_at_call 92; (with_reducible refine (k3.out _).mono ?_); rintro _ y3 ⟨rfl, b3⟩; have s13 : Below V.heap.size V y3 := grew (by assumption) b3))
  all_goals
    clear s10 s10d s11 s12 s13 k1 k2 k3 hj1
    have s20 : Below V.heap.size V y5 := by assumption
    have s20d : Below V.heap.size V y5.drew := s20.drew
    go_upto_region 2 with fail
    go_region_held3 (fun w' => Below V.heap.size V w') (with_reducible first | assumption | exact keepNew25 (by assumption) _) (first
      | (go_at_call 56; (with_reducible refine (hj2.out _).mono ?_); rintro _ y9 ⟨rfl, b9⟩; have s25 : Below V.heap.size V y9 := grew (by assumption) b9)
      | (go_at_call 92; (with_reducible refine (k5.out _).mono ?_); rintro _ y6 ⟨rfl, b6⟩; have s21 : Below V.heap.size V y6 := grew (by assumption) b6)
      | (go_at_call 93; (with_reducible refine (k4.out _).mono ?_); rintro _ y7 ⟨rfl, b7⟩; have s22 : Below V.heap.size V y7 := grew (by assumption) b7)
      | (go_at_call 93; (with_reducible refine (k6.out _).mono ?_); rintro _ y8 ⟨rfl, b8⟩; have s23 : Below V.heap.size V y8 := grew (by assumption) b8))
    all_goals
      have s30 : Below V.heap.size V y9 := by assumption
      have q8 := x8 _ s30
      have q9 := x9 _ s30
      have q10 := x10 _ s30
      clear x0 x1 x2 x3 x4 x5 x6 x7 x8 x9 x10 k4 k5 k6 hj2 s20 s20d
      go_wp2_with fail
      refine (k7.out _).mono ?_
      rintro _ u1 ⟨rfl, c1⟩
      have s31 : Hid (Below V.heap.size V u1) := Lib.hid (grew s30 c1)
      clear q8 q9 q10 c1 k7
      go_wp2_with fail
      refine (hj3.out _).mono ?_
      rintro _ u2 ⟨rfl, c2⟩
      have s32 := grew s31.out c2
      have hR9 := hRb.out _ s32
      have r0 : u2.cell? ⟨fb, 0, none⟩ = some (.int .i64 0) := hR9.cell 0
      have r1 : u2.cell? ⟨fb, 1, none⟩ = some (.string ⟨#[]⟩) := hR9.cell 1
      have f0 := hR9.frozen 0
      have f1 := hR9.frozen 1
      have hend : Hid (Whole (u2.setCells fb 0 [.int .i64 1, .string L]) fb 33 [.int .i64 1, .string L]) := Lib.hid (whole_all hR9 rfl)
      have hB9 : Hid (Below w.heap.size w (u2.setCells fb 0 [.int .i64 1, .string L])) := Lib.hid (below_store (grew hB4.out s32) hfw (Nat.le_refl _) 0 [.int .i64 1, .string L])
      clear hR9 s32 c2 hRb hj3
      go_wp2_with fail
      exact bodyPost_ret (result_cell Try.results62 rfl hend.out.range Try.underlying33 rfl sizeFr25) rfl ⟨rfl, hB9.out⟩
set_option maxRecDepth 100000 in
set_option maxHeartbeats 4000000 in
theorem layNumber25_any (kd n : Int) (w : World) (h0 : 0 ≤ n) (h9 : n ≤ 9223372036854775807) :
    Calls Try.prog 64 #[.int .i64 kd, .int .i64 n] w fun e w' => e = .returned (.agg #[.int .i64 kd, .string (B (chain n))]) ∧ Below w.heap.size w w' := by
  obtain ⟨V, hV⟩ : ∃ V, Hid (V = w.alloc (.cells #[.int .i64 0, .string ⟨#[]⟩] 33)) := ⟨_, Lib.hid rfl⟩
  have hB : Below w.heap.size w V := by rw [hV.out]; exact grewAlloc (Below.refl _ _) _
  have hR : Whole V w.heap.size 33 [.int .i64 0, .string ⟨#[]⟩] := by rw [hV.out]; exact Whole.new w _ _
  obtain ⟨fb, hfb⟩ : ∃ q, Hid (w.heap.size = q) := ⟨_, Lib.hid rfl⟩
  rw [hfb.out] at hR
  have hfw : w.heap.size ≤ fb := by have := hfb.out; omega
  have hc := Lib.hid (fun W => chain25_any n W h0 h9)
  obtain ⟨L, hL⟩ : ∃ x, Hid (B (chain n) = x) := ⟨_, Lib.hid rfl⟩
  rw [hL.out] at hc ⊢
  replace hR := Lib.hid hR
  replace hB := Lib.hid hB
  clear hL h0 h9
  go_enter Try.func64, Try.ntmps64
  go_upto_region 1 with fail
  rw [← show V = _ from hV.out, hfb.out]
  clear hV hfb
  go_wp2_with fail
  refine (hc.out _).mono ?_
  rintro _ u2 ⟨rfl, c2⟩
  have hR9 := hR.out.below c2 hR.out.lt
  have r0 : u2.cell? ⟨fb, 0, none⟩ = some (.int .i64 0) := hR9.cell 0
  have r1 : u2.cell? ⟨fb, 1, none⟩ = some (.string ⟨#[]⟩) := hR9.cell 1
  have f0 := hR9.frozen 0
  have f1 := hR9.frozen 1
  have hend : Hid (Whole (u2.setCells fb 0 [.int .i64 kd, .string L]) fb 33 [.int .i64 kd, .string L]) := Lib.hid (whole_all hR9 rfl)
  have hB9 : Hid (Below w.heap.size w (u2.setCells fb 0 [.int .i64 kd, .string L])) := Lib.hid (below_store (grew hB.out c2) hfw (Nat.le_refl _) 0 [.int .i64 kd, .string L])
  clear hR9 c2 hR hB hc
  go_wp2_with fail
  exact bodyPost_ret (result_cell Try.results64 rfl hend.out.range Try.underlying33 rfl sizeFr25) rfl ⟨rfl, hB9.out⟩
theorem rflag25_any (g : Bool) (w : World) : Calls Try.prog 60 #[.bool g] w fun e w' => e = .returned (.string (B (gB g))) ∧ w = w' := by
  cases g with
  | false =>
    go_enter Try.func60, Try.ntmps60
    go_wp2_with fail
    go_ret
    exact ⟨rfl, rfl⟩
  | true =>
    go_enter Try.func60, Try.ntmps60
    go_wp2_with fail
    go_ret
    exact ⟨rfl, rfl⟩
theorem rtext25_any (s : ByteArray) (w : World) (hs : s.size ≤ 100000) : Calls Try.prog 59 #[.string s] w fun e w' => e = .returned (.string (B (textL s.data.toList))) ∧ Below w.heap.size w w' := by
  have hc := Lib.hid (rtext_any s w (by omega))
  go_enter Try.func59, Try.ntmps59
  go_wp2_with fail
  refine hc.out.mono ?_
  rintro _ w1 ⟨rfl, b1⟩
  replace b1 := Lib.hid b1
  go_wp2_with fail
  go_ret
  exact ⟨rfl, b1.out⟩
set_option maxRecDepth 100000 in
set_option maxHeartbeats 4000000 in
theorem rdigest25_any (k v : ByteArray) (g : Bool) (w : World) (hk : k.size ≤ 10000) (hv : v.size ≤ 10000) :
    Calls Try.prog 25 #[.agg #[.string k, .string v, .bool g]] w fun e w' => e = .returned (.int .u64 (dig (digL k v g) : Nat)) ∧ Below w.heap.size w w' := by
  obtain ⟨V, hV⟩ : ∃ V, Hid (V = w.alloc (.cells #[.string k, .string v, .bool g] 62)) := ⟨_, Lib.hid rfl⟩
  have hB : Below w.heap.size w V := by rw [hV.out]; exact grewAlloc (Below.refl _ _) _
  have hP : Whole V w.heap.size 62 [.string k, .string v, .bool g] := by rw [hV.out]; exact Whole.new w _ _
  obtain ⟨pb, hpb⟩ : ∃ q, Hid (w.heap.size = q) := ⟨_, Lib.hid rfl⟩
  rw [hpb.out] at hP
  have z1 := textB_small hk
  have z2 := textB_small hv
  have z3 := gB_small g
  obtain ⟨A, hA⟩ : ∃ A, Hid (B (textL k.data.toList) = A) := ⟨_, Lib.hid rfl⟩
  obtain ⟨C, hC⟩ : ∃ C, Hid (B (textL v.data.toList) = C) := ⟨_, Lib.hid rfl⟩
  obtain ⟨G, hG⟩ : ∃ G, Hid (B (gB g) = G) := ⟨_, Lib.hid rfl⟩
  have h1 : Hid (∀ W, Calls Try.prog 59 #[.string k] W fun e w' => e = .returned (.string A) ∧ Below W.heap.size W w') := Lib.hid (fun W => by rw [← hA.out]; exact rtext25_any k W (by omega))
  have h2 : Hid (∀ W, Calls Try.prog 59 #[.string v] W fun e w' => e = .returned (.string C) ∧ Below W.heap.size W w') := Lib.hid (fun W => by rw [← hC.out]; exact rtext25_any v W (by omega))
  have h3 : Hid (∀ W, Calls Try.prog 60 #[.bool g] W fun e w' => e = .returned (.string G) ∧ W = w') := Lib.hid (fun W => by rw [← hG.out]; exact rflag25_any g W)
  rw [hA.out] at z1
  rw [hC.out] at z2
  rw [hG.out] at z3
  have hdl : (A ++ C ++ G) = B (digL k v g) := by rw [← hA.out, ← hC.out, ← hG.out, B_append, B_append]; rfl
  have hsz : (B (digL k v g)).size ≤ 100000 := by rw [← hdl, ByteArray.size_append, ByteArray.size_append]; omega
  obtain ⟨D, hD⟩ : ∃ D : Nat, Hid (dig (digL k v g) = D) := ⟨_, Lib.hid rfl⟩
  have h4 : Hid (∀ W, Calls Try.prog 58 #[.string (A ++ C ++ G)] W fun e w' => e = .returned (.int .u64 (D : Nat)) ∧ W = w') := Lib.hid (fun W => by
    have := rdig_any (B (digL k v g)) W (by omega)
    rw [show (B (digL k v g)).data.toList = digL k v g from rfl, hD.out, ← hdl] at this
    exact this)
  rw [hD.out]
  have x0 : ∀ W, Below V.heap.size V W → W.cell? ⟨pb, 0, none⟩ = some (.string k) := fun W hb => (hP.below hb hP.lt).cell 0
  have x1 : ∀ W, Below V.heap.size V W → W.cell? ⟨pb, 1, none⟩ = some (.string v) := fun W hb => (hP.below hb hP.lt).cell 1
  have x2 : ∀ W, Below V.heap.size V W → W.cell? ⟨pb, 2, none⟩ = some (.bool g) := fun W hb => (hP.below hb hP.lt).cell 2
  have ha1 : ¬ 9223372036854775807 < A.size + C.size := by omega
  have ha2 : ¬ 9223372036854775807 < A.size + C.size + G.size := by omega
  have ha3 : ¬ 9223372036854775807 < (A ++ C).size + G.size := by rw [ByteArray.size_append]; omega
  have s10 : Below V.heap.size V V := Below.refl _ _
  have s10d : Below V.heap.size V V.drew := (Below.refl _ _).drew
  have hB4 := Lib.hid hB
  clear hA hC hG hD hP hB z1 z2 z3 hdl hsz hk hv
  go_enter Try.func25, Try.ntmps25
  go_upto_region 1 with fail
  rw [← show V = _ from hV.out, hpb.out]
  clear hV hpb
  go_region_held3 (fun w' => Below V.heap.size V w') (with_reducible first | assumption | exact keepNew25 (by assumption) _) (first
    | (go_at_call 58; (with_reducible refine (h4.out _).mono ?_); rintro _ y4 ⟨rfl, rfl⟩; have hfin : Hid (Below w.heap.size w _) := Lib.hid (grew hB4.out (by assumption)))
    | (go_at_call 59; (with_reducible refine (h1.out _).mono ?_); rintro _ y1 ⟨rfl, b1⟩; have s11 : Below V.heap.size V y1 := grew (by assumption) b1)
    | (go_at_call 59; (with_reducible refine (h2.out _).mono ?_); rintro _ y2 ⟨rfl, b2⟩; have s12 : Below V.heap.size V y2 := grew (by assumption) b2)
    | (go_at_call 60; (with_reducible refine (h3.out _).mono ?_); rintro _ y3 ⟨rfl, rfl⟩))
  all_goals
    clear x0 x1 x2 h1 h2 h3 h4
    go_wp2_with fail
    go_ret
    exact ⟨rfl, hfin.out⟩
end Go.Proofs.Ytgogackkeodciaa.W
