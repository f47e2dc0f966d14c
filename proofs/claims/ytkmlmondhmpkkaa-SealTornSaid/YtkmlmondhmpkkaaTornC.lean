/- The walks of SealTorn, behind the first region: the other sector is sealed, and opens; it is bytes 0. -/
import Derived.Test.YtkmlmondhmpkkaaTornA
namespace Go.Proofs.Ytkmlmondhmpkkaa.W
open Go.RowKit Go.Sort
open Go.Proofs.Ytkmlmondhmpkkaa.M Go.Proofs.Ytkmlmondhmpkkaa.D Go.Proofs.Ytkmlmondhmpkkaa.Z
set_option linter.unusedVariables false
attribute [local go_sem ↓] load_sealed
set_option maxRecDepth 100000 in
set_option maxHeartbeats 4000000 in
theorem two_t_s (w W : World) {st c st2 c2 : Int} {k : Nat} {X Y : List Value} {T T2 S t R : ByteArray} (h : Known w W st c st2 c2 X Y T T2 true true)
    (hk : k ≤ 64) (hS : S.size = 64) (ht : t.size = 64) (hR : S.extract 0 k ++ t.extract k 64 = R) (hne : st ≠ st2)
    (hse : ∀ W, Calls Try.prog 12 #[.int .u32 st, .int .i64 c, .string T] W fun e w' => e = .returned (.tuple #[.string S, .int .i64 0]) ∧ Below W.heap.size W w')
    (hrs : ∀ W, Calls Try.prog 15 #[.int .u32 st2, .int .i64 c2, .string T2] W fun e w' => e = .returned (.string t) ∧ Below W.heap.size W w')
    (hop : ∀ W, Calls Try.prog 10 #[.string R] W fun e w' => e = .returned (.tuple #[.int .u32 st2, .int .i64 c2, .string T2, .int .i64 0]) ∧ Below W.heap.size W w') (hRt : R = t) :
    Calls Try.prog 4 #[.agg X.toArray, .agg Y.toArray, .int .i64 (k : Nat)] w fun e w' => e = .returned (.bool true) ∧ Below w.heap.size w w' := by
  have hd0 : decide ((k : Int) < 0) = false := by simp
  have hd : decide (64 < (k : Int)) = false := by simp; omega
  have hs : (st == st2) = false := by rw [beq_eq_false_iff_ne]; exact hne
  have hs2 : (st2 == st) = false := by rw [beq_eq_false_iff_ne]; exact fun e => hne e.symm
  have lx := Lib.hid h.box.hX
  have ly := Lib.hid h.box.hY
  have b0 := h.box
  have hb0 := h.bel
  have eW := Lib.hid h.eW
  have tx := Lib.hid h.tx
  have ty := Lib.hid h.ty
  have mx := Lib.hid h.mx
  have my := Lib.hid h.my
  replace hse := Lib.hid hse
  replace hop := Lib.hid hop
  replace hrs := Lib.hid hrs
  obtain ⟨c64, hc64, hm64⟩ := make_bytes 64 (by omega)
  replace hm64 : ∀ W : World, (Instr.makeSlice 39 (.int .i64 64) (.int .i64 64)).run Try.prog W = .ok (.slice (some ⟨W.heap.size, 0, none⟩) 64 64) (W.alloc (.cells c64 5)) := fun W => hm64 W
  have hs64 := zero_string 64 c64 hc64
  obtain ⟨Z4, hZ4⟩ : ∃ Z4, Hid (zerosB 64 = Z4) := ⟨_, Lib.hid rfl⟩
  rw [hZ4.out] at hs64
  clear h hne hc64
  replace hR := Lib.hid hR
  go_enter Try.func4, Try.ntmps4
  go_wp2_with fail
  rw [← eW.out]
  clear eW
  generalize W = V0 at *
  have g0 := fun d os => (b0.grown d os).x0
  have g1 := fun d os => (b0.grown d os).x1
  have g2 := fun d os => (b0.grown d os).y0
  have g3 := fun d os => (b0.grown d os).y1
  have hrx : Hid (∀ w', (∃ p : Regrown, w' = grow (redrawn V0 p.d) p.os) → w'.rangeAt w.heap.size 0 X) := Lib.hid (by rintro _ ⟨p, rfl⟩; exact (b0.grown p.d p.os).xr)
  have ca0 := Lib.hid (regrown_any tx.out V0)
  have ca1 := Lib.hid (regrown_same mx.out V0)
  replace b0 := Lib.hid b0
  refine wp_region_quiet_below (by kernel_rfl) (by kernel_rfl) ?_
  repeat (first
    | ((with_reducible refine quiet_sealed w.heap.size X ?_ hrx.out lx.out ?_ ?_); (· rfl); (· rfl); simp only [Act.put, List.setIfInBounds_toArray, List.set_cons_zero, List.set_cons_succ])
    | go_big_quiet_step (first | exact ca0.out _ _ | exact ca1.out _ _))
  refine wpQuiet_nil ?_
  intro _ hw'
  obtain ⟨⟨dq, osq⟩, hw''⟩ := hw'
  subst hw''
  have hb1 := hb0.trans ((below_regrown V0 dq osq).mono hb0.size)
  have b1 := b0.out.grown dq osq
  clear g0 g1 g2 g3 hrx ca0 ca1 hb0 b0
  generalize grow (redrawn V0 dq) osq = V1 at *
  go_wp2_with fail
  have g0 := fun d os => (b1.grown d os).x0
  have g1 := fun d os => (b1.grown d os).x1
  have hrx : Hid (∀ w', (∃ p : Regrown, w' = grow (redrawn V1 p.d) p.os) → w'.rangeAt w.heap.size 0 X) := Lib.hid (by rintro _ ⟨p, rfl⟩; exact (b1.grown p.d p.os).xr)
  have ca0 := Lib.hid (regrown_any tx.out V1)
  have ca1 := Lib.hid (regrown_any hse.out V1)
  replace b1 := Lib.hid b1
  refine wp_region_quiet_below (by kernel_rfl) (by kernel_rfl) ?_
  repeat (first
    | ((with_reducible refine quiet_sealed w.heap.size X ?_ hrx.out lx.out ?_ ?_); (· rfl); (· rfl); simp only [Act.put, List.setIfInBounds_toArray, List.set_cons_zero, List.set_cons_succ])
    | go_big_quiet_step (first | exact ca0.out _ _ | exact ca1.out _ _))
  refine wpQuiet_nil ?_
  intro _ hw'
  obtain ⟨⟨dq, osq⟩, hw''⟩ := hw'
  subst hw''
  have hb2 := hb1.trans ((below_regrown V1 dq osq).mono hb1.size)
  have b2 := b1.out.grown dq osq
  clear g0 g1 hrx ca0 ca1 hb1 b1
  generalize grow (redrawn V1 dq) osq = V2 at *
  go_wp2_with fail
  have b3 := b2.below (grewAlloc (Below.refl _ V2) (.cells c64 5))
  have hb3 := grewAlloc hb2 (.cells c64 5)
  clear b2 hb2
  generalize V2.alloc (.cells c64 5) = V3 at *
  have g2 := fun d os => (b3.grown d os).y0
  have g3 := fun d os => (b3.grown d os).y1
  have hry : Hid (∀ w', (∃ p : Regrown, w' = grow (redrawn V3 p.d) p.os) → w'.rangeAt (w.heap.size + 1) 0 Y) := Lib.hid (by rintro _ ⟨p, rfl⟩; exact (b3.grown p.d p.os).yr)
  have ca0 := Lib.hid (regrown_any ty.out V3)
  have ca1 := Lib.hid (regrown_same my.out V3)
  replace b3 := Lib.hid b3
  refine wp_region_quiet_below (by kernel_rfl) (by kernel_rfl) ?_
  repeat (first
    | ((with_reducible refine quiet_sealed (w.heap.size + 1) Y ?_ hry.out ly.out ?_ ?_); (· rfl); (· rfl); simp only [Act.put, List.setIfInBounds_toArray, List.set_cons_zero, List.set_cons_succ])
    | go_big_quiet_step (first | exact ca0.out _ _ | exact ca1.out _ _))
  refine wpQuiet_nil ?_
  intro _ hw'
  obtain ⟨⟨dq, osq⟩, hw''⟩ := hw'
  subst hw''
  have hb4 := hb3.trans ((below_regrown V3 dq osq).mono hb3.size)
  have b4 := b3.out.grown dq osq
  clear g2 g3 hry ca0 ca1 hb3 b3
  generalize grow (redrawn V3 dq) osq = V4 at *
  go_wp2_with fail
  have g2 := fun d os => (b4.grown d os).y0
  have g3 := fun d os => (b4.grown d os).y1
  have hry : Hid (∀ w', (∃ p : Regrown, w' = grow (redrawn V4 p.d) p.os) → w'.rangeAt (w.heap.size + 1) 0 Y) := Lib.hid (by rintro _ ⟨p, rfl⟩; exact (b4.grown p.d p.os).yr)
  have ca0 := Lib.hid (regrown_any ty.out V4)
  have ca1 := Lib.hid (regrown_any hrs.out V4)
  replace b4 := Lib.hid b4
  refine wp_region_quiet_below (by kernel_rfl) (by kernel_rfl) ?_
  repeat (first
    | ((with_reducible refine quiet_sealed (w.heap.size + 1) Y ?_ hry.out ly.out ?_ ?_); (· rfl); (· rfl); simp only [Act.put, List.setIfInBounds_toArray, List.set_cons_zero, List.set_cons_succ])
    | go_big_quiet_step (first | exact ca0.out _ _ | exact ca1.out _ _))
  refine wpQuiet_nil ?_
  intro _ hw'
  obtain ⟨⟨dq, osq⟩, hw''⟩ := hw'
  subst hw''
  have hb5 := hb4.trans ((below_regrown V4 dq osq).mono hb4.size)
  have b5 := b4.out.grown dq osq
  clear g2 g3 hry ca0 ca1 hb4 b4
  generalize grow (redrawn V4 dq) osq = V5 at *
  go_wp2_with fail
  have hk0 : (0 : Int) ≤ (k : Int) := by omega
  have hk1 : (k : Int) ≤ (S.size : Int) := by omega
  have hk2 : (k : Int) ≤ (t.size : Int) := by omega
  go_quiet (fail)
  have hb9 := drewS hb5 nq
  have b9 := b5.below (drewS (Below.refl _ _) nq)
  clear hb5 b5
  generalize V5.drewN nq = V9 at *
  go_wp2_with fail
  rw [hR.out]
  refine (hop.out _).mono ?_
  rintro e V10 ⟨rfl, hb10⟩
  have b10 := b9.below hb10
  replace hb10 := grew hb9 hb10
  clear b9 hb9
  subst hRt
  have x0 := b10.x0
  have x1 := b10.x1
  have y0 := b10.y0
  have y1 := b10.y1
  have lX := b10.load.2.1
  have rX := b10.load.2.2
  have hTT := bytes_eq (rfl : T2 = T2)
  have hst : (st2 == st2) = true := by simp
  have hcc9 : (c2 == c2) = true := by simp
  have hRR := bytes_eq (rfl : R = R)
  clear b10
  go_wp2_with fail
  refine (ty.out _).mono ?_
  rintro e V11 ⟨rfl, hb11⟩
  clear lX rX x0 x1 y0 y1
  go_wp2_with fail
  refine (two_any _).mono ?_
  rintro e w8 ⟨rfl, hb8⟩
  go_wp2_with fail
  go_ret
  exact ⟨rfl, grew (grew hb10 hb11) hb8⟩
set_option maxRecDepth 100000 in
set_option maxHeartbeats 4000000 in
theorem two_t_c (w W : World) {st c c2 : Int} {k : Nat} {X Y : List Value} {T T2 S t R : ByteArray} (h : Known w W st c st c2 X Y T T2 true true)
    (hk : k ≤ 64) (hS : S.size = 64) (ht : t.size = 64) (hR : S.extract 0 k ++ t.extract k 64 = R) (hne : c ≠ c2)
    (hse : ∀ W, Calls Try.prog 12 #[.int .u32 st, .int .i64 c, .string T] W fun e w' => e = .returned (.tuple #[.string S, .int .i64 0]) ∧ Below W.heap.size W w')
    (hrs : ∀ W, Calls Try.prog 15 #[.int .u32 st, .int .i64 c2, .string T2] W fun e w' => e = .returned (.string t) ∧ Below W.heap.size W w')
    (hop : ∀ W, Calls Try.prog 10 #[.string R] W fun e w' => e = .returned (.tuple #[.int .u32 st, .int .i64 c2, .string T2, .int .i64 0]) ∧ Below W.heap.size W w') (hRt : R = t) :
    Calls Try.prog 4 #[.agg X.toArray, .agg Y.toArray, .int .i64 (k : Nat)] w fun e w' => e = .returned (.bool true) ∧ Below w.heap.size w w' := by
  have hd0 : decide ((k : Int) < 0) = false := by simp
  have hd : decide (64 < (k : Int)) = false := by simp; omega
  have hs : (st == st) = true := by simp
  have hcc : (c == c2) = false := by rw [beq_eq_false_iff_ne]; exact hne
  have hcc2 : (c2 == c) = false := by rw [beq_eq_false_iff_ne]; exact fun e => hne e.symm
  have lx := Lib.hid h.box.hX
  have ly := Lib.hid h.box.hY
  have b0 := h.box
  have hb0 := h.bel
  have eW := Lib.hid h.eW
  have tx := Lib.hid h.tx
  have ty := Lib.hid h.ty
  have mx := Lib.hid h.mx
  have my := Lib.hid h.my
  replace hse := Lib.hid hse
  replace hop := Lib.hid hop
  replace hrs := Lib.hid hrs
  obtain ⟨c64, hc64, hm64⟩ := make_bytes 64 (by omega)
  replace hm64 : ∀ W : World, (Instr.makeSlice 39 (.int .i64 64) (.int .i64 64)).run Try.prog W = .ok (.slice (some ⟨W.heap.size, 0, none⟩) 64 64) (W.alloc (.cells c64 5)) := fun W => hm64 W
  have hs64 := zero_string 64 c64 hc64
  obtain ⟨Z4, hZ4⟩ : ∃ Z4, Hid (zerosB 64 = Z4) := ⟨_, Lib.hid rfl⟩
  rw [hZ4.out] at hs64
  clear h hne hc64
  replace hR := Lib.hid hR
  go_enter Try.func4, Try.ntmps4
  go_wp2_with fail
  rw [← eW.out]
  clear eW
  generalize W = V0 at *
  have g0 := fun d os => (b0.grown d os).x0
  have g1 := fun d os => (b0.grown d os).x1
  have g2 := fun d os => (b0.grown d os).y0
  have g3 := fun d os => (b0.grown d os).y1
  have hrx : Hid (∀ w', (∃ p : Regrown, w' = grow (redrawn V0 p.d) p.os) → w'.rangeAt w.heap.size 0 X) := Lib.hid (by rintro _ ⟨p, rfl⟩; exact (b0.grown p.d p.os).xr)
  have ca0 := Lib.hid (regrown_any tx.out V0)
  have ca1 := Lib.hid (regrown_same mx.out V0)
  replace b0 := Lib.hid b0
  refine wp_region_quiet_below (by kernel_rfl) (by kernel_rfl) ?_
  repeat (first
    | ((with_reducible refine quiet_sealed w.heap.size X ?_ hrx.out lx.out ?_ ?_); (· rfl); (· rfl); simp only [Act.put, List.setIfInBounds_toArray, List.set_cons_zero, List.set_cons_succ])
    | go_big_quiet_step (first | exact ca0.out _ _ | exact ca1.out _ _))
  refine wpQuiet_nil ?_
  intro _ hw'
  obtain ⟨⟨dq, osq⟩, hw''⟩ := hw'
  subst hw''
  have hb1 := hb0.trans ((below_regrown V0 dq osq).mono hb0.size)
  have b1 := b0.out.grown dq osq
  clear g0 g1 g2 g3 hrx ca0 ca1 hb0 b0
  generalize grow (redrawn V0 dq) osq = V1 at *
  go_wp2_with fail
  have g0 := fun d os => (b1.grown d os).x0
  have g1 := fun d os => (b1.grown d os).x1
  have hrx : Hid (∀ w', (∃ p : Regrown, w' = grow (redrawn V1 p.d) p.os) → w'.rangeAt w.heap.size 0 X) := Lib.hid (by rintro _ ⟨p, rfl⟩; exact (b1.grown p.d p.os).xr)
  have ca0 := Lib.hid (regrown_any tx.out V1)
  have ca1 := Lib.hid (regrown_any hse.out V1)
  replace b1 := Lib.hid b1
  refine wp_region_quiet_below (by kernel_rfl) (by kernel_rfl) ?_
  repeat (first
    | ((with_reducible refine quiet_sealed w.heap.size X ?_ hrx.out lx.out ?_ ?_); (· rfl); (· rfl); simp only [Act.put, List.setIfInBounds_toArray, List.set_cons_zero, List.set_cons_succ])
    | go_big_quiet_step (first | exact ca0.out _ _ | exact ca1.out _ _))
  refine wpQuiet_nil ?_
  intro _ hw'
  obtain ⟨⟨dq, osq⟩, hw''⟩ := hw'
  subst hw''
  have hb2 := hb1.trans ((below_regrown V1 dq osq).mono hb1.size)
  have b2 := b1.out.grown dq osq
  clear g0 g1 hrx ca0 ca1 hb1 b1
  generalize grow (redrawn V1 dq) osq = V2 at *
  go_wp2_with fail
  have b3 := b2.below (grewAlloc (Below.refl _ V2) (.cells c64 5))
  have hb3 := grewAlloc hb2 (.cells c64 5)
  clear b2 hb2
  generalize V2.alloc (.cells c64 5) = V3 at *
  have g2 := fun d os => (b3.grown d os).y0
  have g3 := fun d os => (b3.grown d os).y1
  have hry : Hid (∀ w', (∃ p : Regrown, w' = grow (redrawn V3 p.d) p.os) → w'.rangeAt (w.heap.size + 1) 0 Y) := Lib.hid (by rintro _ ⟨p, rfl⟩; exact (b3.grown p.d p.os).yr)
  have ca0 := Lib.hid (regrown_any ty.out V3)
  have ca1 := Lib.hid (regrown_same my.out V3)
  replace b3 := Lib.hid b3
  refine wp_region_quiet_below (by kernel_rfl) (by kernel_rfl) ?_
  repeat (first
    | ((with_reducible refine quiet_sealed (w.heap.size + 1) Y ?_ hry.out ly.out ?_ ?_); (· rfl); (· rfl); simp only [Act.put, List.setIfInBounds_toArray, List.set_cons_zero, List.set_cons_succ])
    | go_big_quiet_step (first | exact ca0.out _ _ | exact ca1.out _ _))
  refine wpQuiet_nil ?_
  intro _ hw'
  obtain ⟨⟨dq, osq⟩, hw''⟩ := hw'
  subst hw''
  have hb4 := hb3.trans ((below_regrown V3 dq osq).mono hb3.size)
  have b4 := b3.out.grown dq osq
  clear g2 g3 hry ca0 ca1 hb3 b3
  generalize grow (redrawn V3 dq) osq = V4 at *
  go_wp2_with fail
  have g2 := fun d os => (b4.grown d os).y0
  have g3 := fun d os => (b4.grown d os).y1
  have hry : Hid (∀ w', (∃ p : Regrown, w' = grow (redrawn V4 p.d) p.os) → w'.rangeAt (w.heap.size + 1) 0 Y) := Lib.hid (by rintro _ ⟨p, rfl⟩; exact (b4.grown p.d p.os).yr)
  have ca0 := Lib.hid (regrown_any ty.out V4)
  have ca1 := Lib.hid (regrown_any hrs.out V4)
  replace b4 := Lib.hid b4
  refine wp_region_quiet_below (by kernel_rfl) (by kernel_rfl) ?_
  repeat (first
    | ((with_reducible refine quiet_sealed (w.heap.size + 1) Y ?_ hry.out ly.out ?_ ?_); (· rfl); (· rfl); simp only [Act.put, List.setIfInBounds_toArray, List.set_cons_zero, List.set_cons_succ])
    | go_big_quiet_step (first | exact ca0.out _ _ | exact ca1.out _ _))
  refine wpQuiet_nil ?_
  intro _ hw'
  obtain ⟨⟨dq, osq⟩, hw''⟩ := hw'
  subst hw''
  have hb5 := hb4.trans ((below_regrown V4 dq osq).mono hb4.size)
  have b5 := b4.out.grown dq osq
  clear g2 g3 hry ca0 ca1 hb4 b4
  generalize grow (redrawn V4 dq) osq = V5 at *
  go_wp2_with fail
  have hk0 : (0 : Int) ≤ (k : Int) := by omega
  have hk1 : (k : Int) ≤ (S.size : Int) := by omega
  have hk2 : (k : Int) ≤ (t.size : Int) := by omega
  go_quiet (fail)
  have hb9 := drewS hb5 nq
  have b9 := b5.below (drewS (Below.refl _ _) nq)
  clear hb5 b5
  generalize V5.drewN nq = V9 at *
  go_wp2_with fail
  rw [hR.out]
  refine (hop.out _).mono ?_
  rintro e V10 ⟨rfl, hb10⟩
  have b10 := b9.below hb10
  replace hb10 := grew hb9 hb10
  clear b9 hb9
  subst hRt
  have x0 := b10.x0
  have x1 := b10.x1
  have y0 := b10.y0
  have y1 := b10.y1
  have lX := b10.load.2.1
  have rX := b10.load.2.2
  have hTT := bytes_eq (rfl : T2 = T2)
  have hst : (st == st) = true := by simp
  have hcc9 : (c2 == c2) = true := by simp
  have hRR := bytes_eq (rfl : R = R)
  clear b10
  go_wp2_with fail
  refine (ty.out _).mono ?_
  rintro e V11 ⟨rfl, hb11⟩
  clear lX rX x0 x1 y0 y1
  go_wp2_with fail
  refine (two_any _).mono ?_
  rintro e w8 ⟨rfl, hb8⟩
  go_wp2_with fail
  go_ret
  exact ⟨rfl, grew (grew hb10 hb11) hb8⟩
set_option maxRecDepth 100000 in
set_option maxHeartbeats 4000000 in
theorem zero_no_s (w W : World) {st c st2 c2 : Int} {k : Nat} {X Y : List Value} {T T2 S t R : ByteArray} (h : Known w W st c st2 c2 X Y T T2 true false)
    (hk : k ≤ 64) (hS : S.size = 64) (ht : t.size = 64) (hR : S.extract 0 k ++ t.extract k 64 = R) (hne : st ≠ st2)
    (hse : ∀ W, Calls Try.prog 12 #[.int .u32 st, .int .i64 c, .string T] W fun e w' => e = .returned (.tuple #[.string S, .int .i64 0]) ∧ Below W.heap.size W w')
    (htz : t = zerosB 64)
    (hop : ∀ W, Calls Try.prog 10 #[.string R] W fun e w' => e = .returned noSeal ∧ Below W.heap.size W w') (hRS : R ≠ S) :
    Calls Try.prog 4 #[.agg X.toArray, .agg Y.toArray, .int .i64 (k : Nat)] w fun e w' => e = .returned (.bool true) ∧ Below w.heap.size w w' := by
  have hd0 : decide ((k : Int) < 0) = false := by simp
  have hd : decide (64 < (k : Int)) = false := by simp; omega
  have hs : (st == st2) = false := by rw [beq_eq_false_iff_ne]; exact hne
  have hs2 : (st2 == st) = false := by rw [beq_eq_false_iff_ne]; exact fun e => hne e.symm
  have lx := Lib.hid h.box.hX
  have ly := Lib.hid h.box.hY
  have b0 := h.box
  have hb0 := h.bel
  have eW := Lib.hid h.eW
  have tx := Lib.hid h.tx
  have ty := Lib.hid h.ty
  have mx := Lib.hid h.mx
  have my := Lib.hid h.my
  replace hse := Lib.hid hse
  replace hop := Lib.hid hop
  obtain ⟨c64, hc64, hm64⟩ := make_bytes 64 (by omega)
  replace hm64 : ∀ W : World, (Instr.makeSlice 39 (.int .i64 64) (.int .i64 64)).run Try.prog W = .ok (.slice (some ⟨W.heap.size, 0, none⟩) 64 64) (W.alloc (.cells c64 5)) := fun W => hm64 W
  have hs64 := zero_string 64 c64 hc64
  rw [← htz] at hs64
  clear htz
  clear h hne hc64
  replace hR := Lib.hid hR
  go_enter Try.func4, Try.ntmps4
  go_wp2_with fail
  rw [← eW.out]
  clear eW
  generalize W = V0 at *
  have g0 := fun d os => (b0.grown d os).x0
  have g1 := fun d os => (b0.grown d os).x1
  have g2 := fun d os => (b0.grown d os).y0
  have g3 := fun d os => (b0.grown d os).y1
  have hrx : Hid (∀ w', (∃ p : Regrown, w' = grow (redrawn V0 p.d) p.os) → w'.rangeAt w.heap.size 0 X) := Lib.hid (by rintro _ ⟨p, rfl⟩; exact (b0.grown p.d p.os).xr)
  have ca0 := Lib.hid (regrown_any tx.out V0)
  have ca1 := Lib.hid (regrown_same mx.out V0)
  replace b0 := Lib.hid b0
  refine wp_region_quiet_below (by kernel_rfl) (by kernel_rfl) ?_
  repeat (first
    | ((with_reducible refine quiet_sealed w.heap.size X ?_ hrx.out lx.out ?_ ?_); (· rfl); (· rfl); simp only [Act.put, List.setIfInBounds_toArray, List.set_cons_zero, List.set_cons_succ])
    | go_big_quiet_step (first | exact ca0.out _ _ | exact ca1.out _ _))
  refine wpQuiet_nil ?_
  intro _ hw'
  obtain ⟨⟨dq, osq⟩, hw''⟩ := hw'
  subst hw''
  have hb1 := hb0.trans ((below_regrown V0 dq osq).mono hb0.size)
  have b1 := b0.out.grown dq osq
  clear g0 g1 g2 g3 hrx ca0 ca1 hb0 b0
  generalize grow (redrawn V0 dq) osq = V1 at *
  go_wp2_with fail
  have g0 := fun d os => (b1.grown d os).x0
  have g1 := fun d os => (b1.grown d os).x1
  have hrx : Hid (∀ w', (∃ p : Regrown, w' = grow (redrawn V1 p.d) p.os) → w'.rangeAt w.heap.size 0 X) := Lib.hid (by rintro _ ⟨p, rfl⟩; exact (b1.grown p.d p.os).xr)
  have ca0 := Lib.hid (regrown_any tx.out V1)
  have ca1 := Lib.hid (regrown_any hse.out V1)
  replace b1 := Lib.hid b1
  refine wp_region_quiet_below (by kernel_rfl) (by kernel_rfl) ?_
  repeat (first
    | ((with_reducible refine quiet_sealed w.heap.size X ?_ hrx.out lx.out ?_ ?_); (· rfl); (· rfl); simp only [Act.put, List.setIfInBounds_toArray, List.set_cons_zero, List.set_cons_succ])
    | go_big_quiet_step (first | exact ca0.out _ _ | exact ca1.out _ _))
  refine wpQuiet_nil ?_
  intro _ hw'
  obtain ⟨⟨dq, osq⟩, hw''⟩ := hw'
  subst hw''
  have hb2 := hb1.trans ((below_regrown V1 dq osq).mono hb1.size)
  have b2 := b1.out.grown dq osq
  clear g0 g1 hrx ca0 ca1 hb1 b1
  generalize grow (redrawn V1 dq) osq = V2 at *
  go_wp2_with fail
  have b3 := b2.below (grewAlloc (Below.refl _ V2) (.cells c64 5))
  have hb3 := grewAlloc hb2 (.cells c64 5)
  clear b2 hb2
  generalize V2.alloc (.cells c64 5) = V3 at *
  have g2 := fun d os => (b3.grown d os).y0
  have g3 := fun d os => (b3.grown d os).y1
  have hry : Hid (∀ w', (∃ p : Regrown, w' = grow (redrawn V3 p.d) p.os) → w'.rangeAt (w.heap.size + 1) 0 Y) := Lib.hid (by rintro _ ⟨p, rfl⟩; exact (b3.grown p.d p.os).yr)
  have ca0 := Lib.hid (regrown_any ty.out V3)
  have ca1 := Lib.hid (regrown_same my.out V3)
  replace b3 := Lib.hid b3
  refine wp_region_quiet_below (by kernel_rfl) (by kernel_rfl) ?_
  repeat (first
    | ((with_reducible refine quiet_sealed (w.heap.size + 1) Y ?_ hry.out ly.out ?_ ?_); (· rfl); (· rfl); simp only [Act.put, List.setIfInBounds_toArray, List.set_cons_zero, List.set_cons_succ])
    | go_big_quiet_step (first | exact ca0.out _ _ | exact ca1.out _ _))
  refine wpQuiet_nil ?_
  intro _ hw'
  obtain ⟨⟨dq, osq⟩, hw''⟩ := hw'
  subst hw''
  have hb4 := hb3.trans ((below_regrown V3 dq osq).mono hb3.size)
  have b4 := b3.out.grown dq osq
  clear g2 g3 hry ca0 ca1 hb3 b3
  generalize grow (redrawn V3 dq) osq = V4 at *
  go_wp2_with fail
  have hk0 : (0 : Int) ≤ (k : Int) := by omega
  have hk1 : (k : Int) ≤ (S.size : Int) := by omega
  have hk2 : (k : Int) ≤ (t.size : Int) := by omega
  go_quiet (fail)
  have hb9 := drewS hb4 nq
  have b9 := b4.below (drewS (Below.refl _ _) nq)
  clear hb4 b4
  generalize V4.drewN nq = V9 at *
  go_wp2_with fail
  rw [hR.out]
  refine (hop.out _).mono ?_
  rintro e V10 ⟨rfl, hb10⟩
  have b10 := b9.below hb10
  replace hb10 := grew hb9 hb10
  clear b9 hb9
  have hrsb := bytes_ne hRS
  clear b10
  go_wp2_with fail
  refine (two_any _).mono ?_
  rintro e w8 ⟨rfl, hb8⟩
  go_wp2_with fail
  go_ret
  exact ⟨rfl, grew hb10 hb8⟩
set_option maxRecDepth 100000 in
set_option maxHeartbeats 4000000 in
theorem zero_no_c (w W : World) {st c c2 : Int} {k : Nat} {X Y : List Value} {T T2 S t R : ByteArray} (h : Known w W st c st c2 X Y T T2 true false)
    (hk : k ≤ 64) (hS : S.size = 64) (ht : t.size = 64) (hR : S.extract 0 k ++ t.extract k 64 = R) (hne : c ≠ c2)
    (hse : ∀ W, Calls Try.prog 12 #[.int .u32 st, .int .i64 c, .string T] W fun e w' => e = .returned (.tuple #[.string S, .int .i64 0]) ∧ Below W.heap.size W w')
    (htz : t = zerosB 64)
    (hop : ∀ W, Calls Try.prog 10 #[.string R] W fun e w' => e = .returned noSeal ∧ Below W.heap.size W w') (hRS : R ≠ S) :
    Calls Try.prog 4 #[.agg X.toArray, .agg Y.toArray, .int .i64 (k : Nat)] w fun e w' => e = .returned (.bool true) ∧ Below w.heap.size w w' := by
  have hd0 : decide ((k : Int) < 0) = false := by simp
  have hd : decide (64 < (k : Int)) = false := by simp; omega
  have hs : (st == st) = true := by simp
  have hcc : (c == c2) = false := by rw [beq_eq_false_iff_ne]; exact hne
  have hcc2 : (c2 == c) = false := by rw [beq_eq_false_iff_ne]; exact fun e => hne e.symm
  have lx := Lib.hid h.box.hX
  have ly := Lib.hid h.box.hY
  have b0 := h.box
  have hb0 := h.bel
  have eW := Lib.hid h.eW
  have tx := Lib.hid h.tx
  have ty := Lib.hid h.ty
  have mx := Lib.hid h.mx
  have my := Lib.hid h.my
  replace hse := Lib.hid hse
  replace hop := Lib.hid hop
  obtain ⟨c64, hc64, hm64⟩ := make_bytes 64 (by omega)
  replace hm64 : ∀ W : World, (Instr.makeSlice 39 (.int .i64 64) (.int .i64 64)).run Try.prog W = .ok (.slice (some ⟨W.heap.size, 0, none⟩) 64 64) (W.alloc (.cells c64 5)) := fun W => hm64 W
  have hs64 := zero_string 64 c64 hc64
  rw [← htz] at hs64
  clear htz
  clear h hne hc64
  replace hR := Lib.hid hR
  go_enter Try.func4, Try.ntmps4
  go_wp2_with fail
  rw [← eW.out]
  clear eW
  generalize W = V0 at *
  have g0 := fun d os => (b0.grown d os).x0
  have g1 := fun d os => (b0.grown d os).x1
  have g2 := fun d os => (b0.grown d os).y0
  have g3 := fun d os => (b0.grown d os).y1
  have hrx : Hid (∀ w', (∃ p : Regrown, w' = grow (redrawn V0 p.d) p.os) → w'.rangeAt w.heap.size 0 X) := Lib.hid (by rintro _ ⟨p, rfl⟩; exact (b0.grown p.d p.os).xr)
  have ca0 := Lib.hid (regrown_any tx.out V0)
  have ca1 := Lib.hid (regrown_same mx.out V0)
  replace b0 := Lib.hid b0
  refine wp_region_quiet_below (by kernel_rfl) (by kernel_rfl) ?_
  repeat (first
    | ((with_reducible refine quiet_sealed w.heap.size X ?_ hrx.out lx.out ?_ ?_); (· rfl); (· rfl); simp only [Act.put, List.setIfInBounds_toArray, List.set_cons_zero, List.set_cons_succ])
    | go_big_quiet_step (first | exact ca0.out _ _ | exact ca1.out _ _))
  refine wpQuiet_nil ?_
  intro _ hw'
  obtain ⟨⟨dq, osq⟩, hw''⟩ := hw'
  subst hw''
  have hb1 := hb0.trans ((below_regrown V0 dq osq).mono hb0.size)
  have b1 := b0.out.grown dq osq
  clear g0 g1 g2 g3 hrx ca0 ca1 hb0 b0
  generalize grow (redrawn V0 dq) osq = V1 at *
  go_wp2_with fail
  have g0 := fun d os => (b1.grown d os).x0
  have g1 := fun d os => (b1.grown d os).x1
  have hrx : Hid (∀ w', (∃ p : Regrown, w' = grow (redrawn V1 p.d) p.os) → w'.rangeAt w.heap.size 0 X) := Lib.hid (by rintro _ ⟨p, rfl⟩; exact (b1.grown p.d p.os).xr)
  have ca0 := Lib.hid (regrown_any tx.out V1)
  have ca1 := Lib.hid (regrown_any hse.out V1)
  replace b1 := Lib.hid b1
  refine wp_region_quiet_below (by kernel_rfl) (by kernel_rfl) ?_
  repeat (first
    | ((with_reducible refine quiet_sealed w.heap.size X ?_ hrx.out lx.out ?_ ?_); (· rfl); (· rfl); simp only [Act.put, List.setIfInBounds_toArray, List.set_cons_zero, List.set_cons_succ])
    | go_big_quiet_step (first | exact ca0.out _ _ | exact ca1.out _ _))
  refine wpQuiet_nil ?_
  intro _ hw'
  obtain ⟨⟨dq, osq⟩, hw''⟩ := hw'
  subst hw''
  have hb2 := hb1.trans ((below_regrown V1 dq osq).mono hb1.size)
  have b2 := b1.out.grown dq osq
  clear g0 g1 hrx ca0 ca1 hb1 b1
  generalize grow (redrawn V1 dq) osq = V2 at *
  go_wp2_with fail
  have b3 := b2.below (grewAlloc (Below.refl _ V2) (.cells c64 5))
  have hb3 := grewAlloc hb2 (.cells c64 5)
  clear b2 hb2
  generalize V2.alloc (.cells c64 5) = V3 at *
  have g2 := fun d os => (b3.grown d os).y0
  have g3 := fun d os => (b3.grown d os).y1
  have hry : Hid (∀ w', (∃ p : Regrown, w' = grow (redrawn V3 p.d) p.os) → w'.rangeAt (w.heap.size + 1) 0 Y) := Lib.hid (by rintro _ ⟨p, rfl⟩; exact (b3.grown p.d p.os).yr)
  have ca0 := Lib.hid (regrown_any ty.out V3)
  have ca1 := Lib.hid (regrown_same my.out V3)
  replace b3 := Lib.hid b3
  refine wp_region_quiet_below (by kernel_rfl) (by kernel_rfl) ?_
  repeat (first
    | ((with_reducible refine quiet_sealed (w.heap.size + 1) Y ?_ hry.out ly.out ?_ ?_); (· rfl); (· rfl); simp only [Act.put, List.setIfInBounds_toArray, List.set_cons_zero, List.set_cons_succ])
    | go_big_quiet_step (first | exact ca0.out _ _ | exact ca1.out _ _))
  refine wpQuiet_nil ?_
  intro _ hw'
  obtain ⟨⟨dq, osq⟩, hw''⟩ := hw'
  subst hw''
  have hb4 := hb3.trans ((below_regrown V3 dq osq).mono hb3.size)
  have b4 := b3.out.grown dq osq
  clear g2 g3 hry ca0 ca1 hb3 b3
  generalize grow (redrawn V3 dq) osq = V4 at *
  go_wp2_with fail
  have hk0 : (0 : Int) ≤ (k : Int) := by omega
  have hk1 : (k : Int) ≤ (S.size : Int) := by omega
  have hk2 : (k : Int) ≤ (t.size : Int) := by omega
  go_quiet (fail)
  have hb9 := drewS hb4 nq
  have b9 := b4.below (drewS (Below.refl _ _) nq)
  clear hb4 b4
  generalize V4.drewN nq = V9 at *
  go_wp2_with fail
  rw [hR.out]
  refine (hop.out _).mono ?_
  rintro e V10 ⟨rfl, hb10⟩
  have b10 := b9.below hb10
  replace hb10 := grew hb9 hb10
  clear b9 hb9
  have hrsb := bytes_ne hRS
  clear b10
  go_wp2_with fail
  refine (two_any _).mono ?_
  rintro e w8 ⟨rfl, hb8⟩
  go_wp2_with fail
  go_ret
  exact ⟨rfl, grew hb10 hb8⟩
set_option maxRecDepth 100000 in
set_option maxHeartbeats 4000000 in
theorem zero_S_s (w W : World) {st c st2 c2 : Int} {k : Nat} {X Y : List Value} {T T2 S t R : ByteArray} (h : Known w W st c st2 c2 X Y T T2 true false)
    (hk : k ≤ 64) (hS : S.size = 64) (ht : t.size = 64) (hR : S.extract 0 k ++ t.extract k 64 = R) (hne : st ≠ st2)
    (hse : ∀ W, Calls Try.prog 12 #[.int .u32 st, .int .i64 c, .string T] W fun e w' => e = .returned (.tuple #[.string S, .int .i64 0]) ∧ Below W.heap.size W w')
    (htz : t = zerosB 64)
    (hop : ∀ W, Calls Try.prog 10 #[.string R] W fun e w' => e = .returned (.tuple #[.int .u32 st, .int .i64 c, .string T, .int .i64 0]) ∧ Below W.heap.size W w') :
    Calls Try.prog 4 #[.agg X.toArray, .agg Y.toArray, .int .i64 (k : Nat)] w fun e w' => e = .returned (.bool true) ∧ Below w.heap.size w w' := by
  have hd0 : decide ((k : Int) < 0) = false := by simp
  have hd : decide (64 < (k : Int)) = false := by simp; omega
  have hs : (st == st2) = false := by rw [beq_eq_false_iff_ne]; exact hne
  have hs2 : (st2 == st) = false := by rw [beq_eq_false_iff_ne]; exact fun e => hne e.symm
  have lx := Lib.hid h.box.hX
  have ly := Lib.hid h.box.hY
  have b0 := h.box
  have hb0 := h.bel
  have eW := Lib.hid h.eW
  have tx := Lib.hid h.tx
  have ty := Lib.hid h.ty
  have mx := Lib.hid h.mx
  have my := Lib.hid h.my
  replace hse := Lib.hid hse
  replace hop := Lib.hid hop
  obtain ⟨c64, hc64, hm64⟩ := make_bytes 64 (by omega)
  replace hm64 : ∀ W : World, (Instr.makeSlice 39 (.int .i64 64) (.int .i64 64)).run Try.prog W = .ok (.slice (some ⟨W.heap.size, 0, none⟩) 64 64) (W.alloc (.cells c64 5)) := fun W => hm64 W
  have hs64 := zero_string 64 c64 hc64
  rw [← htz] at hs64
  clear htz
  clear h hne hc64
  replace hR := Lib.hid hR
  go_enter Try.func4, Try.ntmps4
  go_wp2_with fail
  rw [← eW.out]
  clear eW
  generalize W = V0 at *
  have g0 := fun d os => (b0.grown d os).x0
  have g1 := fun d os => (b0.grown d os).x1
  have g2 := fun d os => (b0.grown d os).y0
  have g3 := fun d os => (b0.grown d os).y1
  have hrx : Hid (∀ w', (∃ p : Regrown, w' = grow (redrawn V0 p.d) p.os) → w'.rangeAt w.heap.size 0 X) := Lib.hid (by rintro _ ⟨p, rfl⟩; exact (b0.grown p.d p.os).xr)
  have ca0 := Lib.hid (regrown_any tx.out V0)
  have ca1 := Lib.hid (regrown_same mx.out V0)
  replace b0 := Lib.hid b0
  refine wp_region_quiet_below (by kernel_rfl) (by kernel_rfl) ?_
  repeat (first
    | ((with_reducible refine quiet_sealed w.heap.size X ?_ hrx.out lx.out ?_ ?_); (· rfl); (· rfl); simp only [Act.put, List.setIfInBounds_toArray, List.set_cons_zero, List.set_cons_succ])
    | go_big_quiet_step (first | exact ca0.out _ _ | exact ca1.out _ _))
  refine wpQuiet_nil ?_
  intro _ hw'
  obtain ⟨⟨dq, osq⟩, hw''⟩ := hw'
  subst hw''
  have hb1 := hb0.trans ((below_regrown V0 dq osq).mono hb0.size)
  have b1 := b0.out.grown dq osq
  clear g0 g1 g2 g3 hrx ca0 ca1 hb0 b0
  generalize grow (redrawn V0 dq) osq = V1 at *
  go_wp2_with fail
  have g0 := fun d os => (b1.grown d os).x0
  have g1 := fun d os => (b1.grown d os).x1
  have hrx : Hid (∀ w', (∃ p : Regrown, w' = grow (redrawn V1 p.d) p.os) → w'.rangeAt w.heap.size 0 X) := Lib.hid (by rintro _ ⟨p, rfl⟩; exact (b1.grown p.d p.os).xr)
  have ca0 := Lib.hid (regrown_any tx.out V1)
  have ca1 := Lib.hid (regrown_any hse.out V1)
  replace b1 := Lib.hid b1
  refine wp_region_quiet_below (by kernel_rfl) (by kernel_rfl) ?_
  repeat (first
    | ((with_reducible refine quiet_sealed w.heap.size X ?_ hrx.out lx.out ?_ ?_); (· rfl); (· rfl); simp only [Act.put, List.setIfInBounds_toArray, List.set_cons_zero, List.set_cons_succ])
    | go_big_quiet_step (first | exact ca0.out _ _ | exact ca1.out _ _))
  refine wpQuiet_nil ?_
  intro _ hw'
  obtain ⟨⟨dq, osq⟩, hw''⟩ := hw'
  subst hw''
  have hb2 := hb1.trans ((below_regrown V1 dq osq).mono hb1.size)
  have b2 := b1.out.grown dq osq
  clear g0 g1 hrx ca0 ca1 hb1 b1
  generalize grow (redrawn V1 dq) osq = V2 at *
  go_wp2_with fail
  have b3 := b2.below (grewAlloc (Below.refl _ V2) (.cells c64 5))
  have hb3 := grewAlloc hb2 (.cells c64 5)
  clear b2 hb2
  generalize V2.alloc (.cells c64 5) = V3 at *
  have g2 := fun d os => (b3.grown d os).y0
  have g3 := fun d os => (b3.grown d os).y1
  have hry : Hid (∀ w', (∃ p : Regrown, w' = grow (redrawn V3 p.d) p.os) → w'.rangeAt (w.heap.size + 1) 0 Y) := Lib.hid (by rintro _ ⟨p, rfl⟩; exact (b3.grown p.d p.os).yr)
  have ca0 := Lib.hid (regrown_any ty.out V3)
  have ca1 := Lib.hid (regrown_same my.out V3)
  replace b3 := Lib.hid b3
  refine wp_region_quiet_below (by kernel_rfl) (by kernel_rfl) ?_
  repeat (first
    | ((with_reducible refine quiet_sealed (w.heap.size + 1) Y ?_ hry.out ly.out ?_ ?_); (· rfl); (· rfl); simp only [Act.put, List.setIfInBounds_toArray, List.set_cons_zero, List.set_cons_succ])
    | go_big_quiet_step (first | exact ca0.out _ _ | exact ca1.out _ _))
  refine wpQuiet_nil ?_
  intro _ hw'
  obtain ⟨⟨dq, osq⟩, hw''⟩ := hw'
  subst hw''
  have hb4 := hb3.trans ((below_regrown V3 dq osq).mono hb3.size)
  have b4 := b3.out.grown dq osq
  clear g2 g3 hry ca0 ca1 hb3 b3
  generalize grow (redrawn V3 dq) osq = V4 at *
  go_wp2_with fail
  have hk0 : (0 : Int) ≤ (k : Int) := by omega
  have hk1 : (k : Int) ≤ (S.size : Int) := by omega
  have hk2 : (k : Int) ≤ (t.size : Int) := by omega
  go_quiet (fail)
  have hb9 := drewS hb4 nq
  have b9 := b4.below (drewS (Below.refl _ _) nq)
  clear hb4 b4
  generalize V4.drewN nq = V9 at *
  go_wp2_with fail
  rw [hR.out]
  refine (hop.out _).mono ?_
  rintro e V10 ⟨rfl, hb10⟩
  have b10 := b9.below hb10
  replace hb10 := grew hb9 hb10
  clear b9 hb9
  have x0 := b10.x0
  have x1 := b10.x1
  have y0 := b10.y0
  have y1 := b10.y1
  have lX := b10.load.1.1
  have rX := b10.load.1.2
  have hTT := bytes_eq (rfl : T = T)
  have hst : (st == st) = true := by simp
  have hcc9 : (c == c) = true := by simp
  clear b10
  go_wp2_with fail
  refine (tx.out _).mono ?_
  rintro e V11 ⟨rfl, hb11⟩
  clear lX rX x0 x1 y0 y1
  go_wp2_with fail
  refine (two_any _).mono ?_
  rintro e w8 ⟨rfl, hb8⟩
  go_wp2_with fail
  go_ret
  exact ⟨rfl, grew (grew hb10 hb11) hb8⟩
set_option maxRecDepth 100000 in
set_option maxHeartbeats 4000000 in
theorem zero_S_c (w W : World) {st c c2 : Int} {k : Nat} {X Y : List Value} {T T2 S t R : ByteArray} (h : Known w W st c st c2 X Y T T2 true false)
    (hk : k ≤ 64) (hS : S.size = 64) (ht : t.size = 64) (hR : S.extract 0 k ++ t.extract k 64 = R) (hne : c ≠ c2)
    (hse : ∀ W, Calls Try.prog 12 #[.int .u32 st, .int .i64 c, .string T] W fun e w' => e = .returned (.tuple #[.string S, .int .i64 0]) ∧ Below W.heap.size W w')
    (htz : t = zerosB 64)
    (hop : ∀ W, Calls Try.prog 10 #[.string R] W fun e w' => e = .returned (.tuple #[.int .u32 st, .int .i64 c, .string T, .int .i64 0]) ∧ Below W.heap.size W w') :
    Calls Try.prog 4 #[.agg X.toArray, .agg Y.toArray, .int .i64 (k : Nat)] w fun e w' => e = .returned (.bool true) ∧ Below w.heap.size w w' := by
  have hd0 : decide ((k : Int) < 0) = false := by simp
  have hd : decide (64 < (k : Int)) = false := by simp; omega
  have hs : (st == st) = true := by simp
  have hcc : (c == c2) = false := by rw [beq_eq_false_iff_ne]; exact hne
  have hcc2 : (c2 == c) = false := by rw [beq_eq_false_iff_ne]; exact fun e => hne e.symm
  have lx := Lib.hid h.box.hX
  have ly := Lib.hid h.box.hY
  have b0 := h.box
  have hb0 := h.bel
  have eW := Lib.hid h.eW
  have tx := Lib.hid h.tx
  have ty := Lib.hid h.ty
  have mx := Lib.hid h.mx
  have my := Lib.hid h.my
  replace hse := Lib.hid hse
  replace hop := Lib.hid hop
  obtain ⟨c64, hc64, hm64⟩ := make_bytes 64 (by omega)
  replace hm64 : ∀ W : World, (Instr.makeSlice 39 (.int .i64 64) (.int .i64 64)).run Try.prog W = .ok (.slice (some ⟨W.heap.size, 0, none⟩) 64 64) (W.alloc (.cells c64 5)) := fun W => hm64 W
  have hs64 := zero_string 64 c64 hc64
  rw [← htz] at hs64
  clear htz
  clear h hne hc64
  replace hR := Lib.hid hR
  go_enter Try.func4, Try.ntmps4
  go_wp2_with fail
  rw [← eW.out]
  clear eW
  generalize W = V0 at *
  have g0 := fun d os => (b0.grown d os).x0
  have g1 := fun d os => (b0.grown d os).x1
  have g2 := fun d os => (b0.grown d os).y0
  have g3 := fun d os => (b0.grown d os).y1
  have hrx : Hid (∀ w', (∃ p : Regrown, w' = grow (redrawn V0 p.d) p.os) → w'.rangeAt w.heap.size 0 X) := Lib.hid (by rintro _ ⟨p, rfl⟩; exact (b0.grown p.d p.os).xr)
  have ca0 := Lib.hid (regrown_any tx.out V0)
  have ca1 := Lib.hid (regrown_same mx.out V0)
  replace b0 := Lib.hid b0
  refine wp_region_quiet_below (by kernel_rfl) (by kernel_rfl) ?_
  repeat (first
    | ((with_reducible refine quiet_sealed w.heap.size X ?_ hrx.out lx.out ?_ ?_); (· rfl); (· rfl); simp only [Act.put, List.setIfInBounds_toArray, List.set_cons_zero, List.set_cons_succ])
    | go_big_quiet_step (first | exact ca0.out _ _ | exact ca1.out _ _))
  refine wpQuiet_nil ?_
  intro _ hw'
  obtain ⟨⟨dq, osq⟩, hw''⟩ := hw'
  subst hw''
  have hb1 := hb0.trans ((below_regrown V0 dq osq).mono hb0.size)
  have b1 := b0.out.grown dq osq
  clear g0 g1 g2 g3 hrx ca0 ca1 hb0 b0
  generalize grow (redrawn V0 dq) osq = V1 at *
  go_wp2_with fail
  have g0 := fun d os => (b1.grown d os).x0
  have g1 := fun d os => (b1.grown d os).x1
  have hrx : Hid (∀ w', (∃ p : Regrown, w' = grow (redrawn V1 p.d) p.os) → w'.rangeAt w.heap.size 0 X) := Lib.hid (by rintro _ ⟨p, rfl⟩; exact (b1.grown p.d p.os).xr)
  have ca0 := Lib.hid (regrown_any tx.out V1)
  have ca1 := Lib.hid (regrown_any hse.out V1)
  replace b1 := Lib.hid b1
  refine wp_region_quiet_below (by kernel_rfl) (by kernel_rfl) ?_
  repeat (first
    | ((with_reducible refine quiet_sealed w.heap.size X ?_ hrx.out lx.out ?_ ?_); (· rfl); (· rfl); simp only [Act.put, List.setIfInBounds_toArray, List.set_cons_zero, List.set_cons_succ])
    | go_big_quiet_step (first | exact ca0.out _ _ | exact ca1.out _ _))
  refine wpQuiet_nil ?_
  intro _ hw'
  obtain ⟨⟨dq, osq⟩, hw''⟩ := hw'
  subst hw''
  have hb2 := hb1.trans ((below_regrown V1 dq osq).mono hb1.size)
  have b2 := b1.out.grown dq osq
  clear g0 g1 hrx ca0 ca1 hb1 b1
  generalize grow (redrawn V1 dq) osq = V2 at *
  go_wp2_with fail
  have b3 := b2.below (grewAlloc (Below.refl _ V2) (.cells c64 5))
  have hb3 := grewAlloc hb2 (.cells c64 5)
  clear b2 hb2
  generalize V2.alloc (.cells c64 5) = V3 at *
  have g2 := fun d os => (b3.grown d os).y0
  have g3 := fun d os => (b3.grown d os).y1
  have hry : Hid (∀ w', (∃ p : Regrown, w' = grow (redrawn V3 p.d) p.os) → w'.rangeAt (w.heap.size + 1) 0 Y) := Lib.hid (by rintro _ ⟨p, rfl⟩; exact (b3.grown p.d p.os).yr)
  have ca0 := Lib.hid (regrown_any ty.out V3)
  have ca1 := Lib.hid (regrown_same my.out V3)
  replace b3 := Lib.hid b3
  refine wp_region_quiet_below (by kernel_rfl) (by kernel_rfl) ?_
  repeat (first
    | ((with_reducible refine quiet_sealed (w.heap.size + 1) Y ?_ hry.out ly.out ?_ ?_); (· rfl); (· rfl); simp only [Act.put, List.setIfInBounds_toArray, List.set_cons_zero, List.set_cons_succ])
    | go_big_quiet_step (first | exact ca0.out _ _ | exact ca1.out _ _))
  refine wpQuiet_nil ?_
  intro _ hw'
  obtain ⟨⟨dq, osq⟩, hw''⟩ := hw'
  subst hw''
  have hb4 := hb3.trans ((below_regrown V3 dq osq).mono hb3.size)
  have b4 := b3.out.grown dq osq
  clear g2 g3 hry ca0 ca1 hb3 b3
  generalize grow (redrawn V3 dq) osq = V4 at *
  go_wp2_with fail
  have hk0 : (0 : Int) ≤ (k : Int) := by omega
  have hk1 : (k : Int) ≤ (S.size : Int) := by omega
  have hk2 : (k : Int) ≤ (t.size : Int) := by omega
  go_quiet (fail)
  have hb9 := drewS hb4 nq
  have b9 := b4.below (drewS (Below.refl _ _) nq)
  clear hb4 b4
  generalize V4.drewN nq = V9 at *
  go_wp2_with fail
  rw [hR.out]
  refine (hop.out _).mono ?_
  rintro e V10 ⟨rfl, hb10⟩
  have b10 := b9.below hb10
  replace hb10 := grew hb9 hb10
  clear b9 hb9
  have x0 := b10.x0
  have x1 := b10.x1
  have y0 := b10.y0
  have y1 := b10.y1
  have lX := b10.load.1.1
  have rX := b10.load.1.2
  have hTT := bytes_eq (rfl : T = T)
  have hst : (st == st) = true := by simp
  have hcc9 : (c == c) = true := by simp
  clear b10
  go_wp2_with fail
  refine (tx.out _).mono ?_
  rintro e V11 ⟨rfl, hb11⟩
  clear lX rX x0 x1 y0 y1
  go_wp2_with fail
  refine (two_any _).mono ?_
  rintro e w8 ⟨rfl, hb8⟩
  go_wp2_with fail
  go_ret
  exact ⟨rfl, grew (grew hb10 hb11) hb8⟩
end Go.Proofs.Ytkmlmondhmpkkaa.W
