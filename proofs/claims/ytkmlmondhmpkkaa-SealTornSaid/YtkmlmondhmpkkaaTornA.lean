/- The walks of SealTorn: what two boxes hold; the ways that end early. -/
import Derived.Test.YtkmlmondhmpkkaaRows
import Derived.Test.YtkmlmondhmpkkaaSealTwo
import Derived.Test.YtkmlmondhmpkkaaSealRef
import Derived.Test.YtkmlmondhmpkkaaSealLoad
import Derived.Test.YtkmlmondhmpkkaaQuietB
namespace Go.Proofs.Ytkmlmondhmpkkaa.W
open Go.RowKit Go.Sort
open Go.Proofs.Ytkmlmondhmpkkaa.M Go.Proofs.Ytkmlmondhmpkkaa.D Go.Proofs.Ytkmlmondhmpkkaa.Z
set_option linter.unusedVariables false

/-- Two sealed sectors in boxes. -/
structure Two2 (W : World) (xb yb : Nat) (st c st2 c2 : Int) (X Y : List Value) : Prop where
  x0 : W.cell? ⟨xb, 0, none⟩ = some (.int .u32 st)
  x1 : W.cell? ⟨xb, 1, none⟩ = some (.int .i64 c)
  xr : W.rangeAt xb 0 X
  y0 : W.cell? ⟨yb, 0, none⟩ = some (.int .u32 st2)
  y1 : W.cell? ⟨yb, 1, none⟩ = some (.int .i64 c2)
  yr : W.rangeAt yb 0 Y
  hX : X.length = 54
  hY : Y.length = 54
section
variable {W W' : World} {xb yb : Nat} {st c st2 c2 : Int} {X Y : List Value}
theorem Two2.below (h : Two2 W xb yb st c st2 c2 X Y) (hb : Below W.heap.size W W') : Two2 W' xb yb st c st2 c2 X Y :=
  ⟨keepZ hb h.x0, keepZ hb h.x1, keepRangeZ hb h.xr, keepZ hb h.y0, keepZ hb h.y1, keepRangeZ hb h.yr, h.hX, h.hY⟩
theorem Two2.load (h : Two2 W xb yb st c st2 c2 X Y) : (hasAt W (.pointer (some ⟨xb, 0, none⟩)) 54 ∧ readAt W (.pointer (some ⟨xb, 0, none⟩)) 54 = X) ∧ hasAt W (.pointer (some ⟨yb, 0, none⟩)) 54 ∧ readAt W (.pointer (some ⟨yb, 0, none⟩)) 54 = Y :=
  ⟨⟨has_of h.xr h.hX, read_of h.xr h.hX⟩, has_of h.yr h.hY, read_of h.yr h.hY⟩
theorem Two2.grown (h : Two2 W xb yb st c st2 c2 X Y) (d : Nat) (os : Array Obj) : Two2 (grow (redrawn W d) os) xb yb st c st2 c2 X Y := h.below (below_regrown W d os)
end
/-- The boxes of a call. -/
theorem two2_new (w : World) (st c st2 c2 : Int) (dl dl2 : List UInt8) (h : dl.length = 52) (h2 : dl2.length = 52) :
    Two2 ((w.alloc (.cells (sealedV st c dl).toArray 25)).alloc (.cells (sealedV st2 c2 dl2).toArray 25)) w.heap.size (w.heap.size + 1) st c st2 c2 (sealedV st c dl) (sealedV st2 c2 dl2) := by
  have hX := (Whole.new w 25 (sealedV st c dl)).alloc (.cells (sealedV st2 c2 dl2).toArray 25)
  have hY := Whole.new (w.alloc (.cells (sealedV st c dl).toArray 25)) 25 (sealedV st2 c2 dl2)
  rw [show (w.alloc (.cells (sealedV st c dl).toArray 25)).heap.size = w.heap.size + 1 from by simp] at hY
  exact ⟨hX.cell 0, hX.cell 1, hX.range, hY.cell 0, hY.cell 1, hY.range, by rw [sealedV_len, h], by rw [sealedV_len, h2]⟩
/-- What is known ahead of the walk. -/
structure Known (w W : World) (st c st2 c2 : Int) (X Y : List Value) (T T2 : ByteArray) (m m2 : Bool) : Prop where
  eW : W = (w.alloc (.cells X.toArray 25)).alloc (.cells Y.toArray 25)
  box : Two2 W w.heap.size (w.heap.size + 1) st c st2 c2 X Y
  bel : Below w.heap.size w W
  tx : ∀ W, Calls Try.prog 13 #[.agg X.toArray] W fun e w' => e = .returned (.string T) ∧ Below W.heap.size W w'
  ty : ∀ W, Calls Try.prog 13 #[.agg Y.toArray] W fun e w' => e = .returned (.string T2) ∧ Below W.heap.size W w'
  mx : ∀ W, Calls Try.prog 14 #[.int .i64 c, .string T] W fun e w' => e = .returned (.bool m) ∧ W = w'
  my : ∀ W, Calls Try.prog 14 #[.int .i64 c2, .string T2] W fun e w' => e = .returned (.bool m2) ∧ W = w'
theorem known_new (w : World) (st c st2 c2 : Int) (dl dl2 : List UInt8) (h : dl.length = 52) (h2 : dl2.length = 52) :
    ∃ W, Known w W st c st2 c2 (sealedV st c dl) (sealedV st2 c2 dl2) (B dl) (B dl2) (mayB c 52) (mayB c2 52) := by
  have z1 : (B dl).size = 52 := by rw [B_size, h]
  have z2 : (B dl2).size = 52 := by rw [B_size, h2]
  refine ⟨_, rfl, two2_new w st c st2 c2 dl dl2 h h2, grewAlloc (grewAlloc (Below.refl _ w) _) _, fun W => text_any st c dl W h, fun W => text_any st2 c2 dl2 W h2, fun W => ?_, fun W => ?_⟩
  · have := rmay_any c (B dl) W (by omega)
    rw [z1] at this; exact this
  · have := rmay_any c2 (B dl2) W (by omega)
    rw [z2] at this; exact this
set_option maxRecDepth 100000 in
set_option maxHeartbeats 2000000 in
theorem torn_may (w W : World) {st c st2 c2 cut : Int} {X Y : List Value} {T T2 : ByteArray} {m2 : Bool} (h : Known w W st c st2 c2 X Y T T2 false m2) :
    Calls Try.prog 4 #[.agg X.toArray, .agg Y.toArray, .int .i64 cut] w fun e w' => e = .returned (.bool true) ∧ Below w.heap.size w w' := by
  have g0 := fun d os => (h.box.grown d os).x0
  have g1 := fun d os => (h.box.grown d os).x1
  have hrx : Hid (∀ w', (∃ p : Regrown, w' = grow (redrawn W p.d) p.os) → w'.rangeAt w.heap.size 0 X) := Lib.hid (by rintro _ ⟨p, rfl⟩; exact (h.box.grown p.d p.os).xr)
  have lx := Lib.hid h.box.hX
  have g2 := fun d os => (h.box.grown d os).y0
  have g3 := fun d os => (h.box.grown d os).y1
  have ct := Lib.hid (regrown_any h.tx W)
  have cm := Lib.hid (regrown_same h.mx W)
  have eW := Lib.hid h.eW
  have hbel := Lib.hid h.bel
  clear h
  go_enter Try.func4, Try.ntmps4
  go_wp2_with fail
  rw [← eW.out]
  refine wp_region_quiet_below (by kernel_rfl) (by kernel_rfl) ?_
  repeat (first
    | ((with_reducible refine quiet_sealed w.heap.size X ?_ hrx.out lx.out ?_ ?_); (· rfl); (· rfl); simp only [Act.put, List.setIfInBounds_toArray, List.set_cons_zero, List.set_cons_succ])
    | go_big_quiet_step (first | exact ct.out _ _ | exact cm.out _ _))
  refine wpQuiet_nil ?_
  intro _ hw'
  obtain ⟨⟨dq, osq⟩, hw''⟩ := hw'
  subst hw''
  have hb1 := grew hbel.out (below_regrown W dq osq)
  clear g0 g1 g2 g3
  go_wp2_with fail
  refine (two_any _).mono ?_
  rintro e w8 ⟨rfl, hb8⟩
  go_wp2_with fail
  go_ret
  exact ⟨rfl, grew hb1 hb8⟩
set_option maxRecDepth 100000 in
set_option maxHeartbeats 2000000 in
theorem torn_low (w W : World) {st c st2 c2 cut : Int} {X Y : List Value} {T T2 : ByteArray} {m2 : Bool} (hc : cut < 0) (h : Known w W st c st2 c2 X Y T T2 true m2) :
    Calls Try.prog 4 #[.agg X.toArray, .agg Y.toArray, .int .i64 cut] w fun e w' => e = .returned (.bool true) ∧ Below w.heap.size w w' := by
  have hd : decide (cut < 0) = true := by simp; omega
  have g0 := fun d os => (h.box.grown d os).x0
  have g1 := fun d os => (h.box.grown d os).x1
  have hrx : Hid (∀ w', (∃ p : Regrown, w' = grow (redrawn W p.d) p.os) → w'.rangeAt w.heap.size 0 X) := Lib.hid (by rintro _ ⟨p, rfl⟩; exact (h.box.grown p.d p.os).xr)
  have lx := Lib.hid h.box.hX
  have g2 := fun d os => (h.box.grown d os).y0
  have g3 := fun d os => (h.box.grown d os).y1
  have ct := Lib.hid (regrown_any h.tx W)
  have cm := Lib.hid (regrown_same h.mx W)
  have eW := Lib.hid h.eW
  have hbel := Lib.hid h.bel
  clear h
  go_enter Try.func4, Try.ntmps4
  go_wp2_with fail
  rw [← eW.out]
  refine wp_region_quiet_below (by kernel_rfl) (by kernel_rfl) ?_
  repeat (first
    | ((with_reducible refine quiet_sealed w.heap.size X ?_ hrx.out lx.out ?_ ?_); (· rfl); (· rfl); simp only [Act.put, List.setIfInBounds_toArray, List.set_cons_zero, List.set_cons_succ])
    | go_big_quiet_step (first | exact ct.out _ _ | exact cm.out _ _))
  refine wpQuiet_nil ?_
  intro _ hw'
  obtain ⟨⟨dq, osq⟩, hw''⟩ := hw'
  subst hw''
  have hb1 := grew hbel.out (below_regrown W dq osq)
  clear g0 g1 g2 g3
  go_wp2_with fail
  refine (two_any _).mono ?_
  rintro e w8 ⟨rfl, hb8⟩
  go_wp2_with fail
  go_ret
  exact ⟨rfl, grew hb1 hb8⟩
set_option maxRecDepth 100000 in
set_option maxHeartbeats 2000000 in
theorem torn_high (w W : World) {st c st2 c2 cut : Int} {X Y : List Value} {T T2 : ByteArray} {m2 : Bool} (hc0 : 0 ≤ cut) (hc : 64 < cut) (h : Known w W st c st2 c2 X Y T T2 true m2) :
    Calls Try.prog 4 #[.agg X.toArray, .agg Y.toArray, .int .i64 cut] w fun e w' => e = .returned (.bool true) ∧ Below w.heap.size w w' := by
  have hd0 : decide (cut < 0) = false := by simp; omega
  have hd : decide (64 < cut) = true := by simp; omega
  have g0 := fun d os => (h.box.grown d os).x0
  have g1 := fun d os => (h.box.grown d os).x1
  have hrx : Hid (∀ w', (∃ p : Regrown, w' = grow (redrawn W p.d) p.os) → w'.rangeAt w.heap.size 0 X) := Lib.hid (by rintro _ ⟨p, rfl⟩; exact (h.box.grown p.d p.os).xr)
  have lx := Lib.hid h.box.hX
  have g2 := fun d os => (h.box.grown d os).y0
  have g3 := fun d os => (h.box.grown d os).y1
  have ct := Lib.hid (regrown_any h.tx W)
  have cm := Lib.hid (regrown_same h.mx W)
  have eW := Lib.hid h.eW
  have hbel := Lib.hid h.bel
  clear h
  go_enter Try.func4, Try.ntmps4
  go_wp2_with fail
  rw [← eW.out]
  refine wp_region_quiet_below (by kernel_rfl) (by kernel_rfl) ?_
  repeat (first
    | ((with_reducible refine quiet_sealed w.heap.size X ?_ hrx.out lx.out ?_ ?_); (· rfl); (· rfl); simp only [Act.put, List.setIfInBounds_toArray, List.set_cons_zero, List.set_cons_succ])
    | go_big_quiet_step (first | exact ct.out _ _ | exact cm.out _ _))
  refine wpQuiet_nil ?_
  intro _ hw'
  obtain ⟨⟨dq, osq⟩, hw''⟩ := hw'
  subst hw''
  have hb1 := grew hbel.out (below_regrown W dq osq)
  clear g0 g1 g2 g3
  go_wp2_with fail
  refine (two_any _).mono ?_
  rintro e w8 ⟨rfl, hb8⟩
  go_wp2_with fail
  go_ret
  exact ⟨rfl, grew hb1 hb8⟩
set_option maxRecDepth 100000 in
set_option maxHeartbeats 2000000 in
theorem torn_same (w W : World) {st c st2 c2 cut : Int} {X Y : List Value} {T T2 : ByteArray} {m2 : Bool} (hc0 : 0 ≤ cut) (hc : cut ≤ 64) (h : Known w W st c st c X Y T T2 true m2) :
    Calls Try.prog 4 #[.agg X.toArray, .agg Y.toArray, .int .i64 cut] w fun e w' => e = .returned (.bool true) ∧ Below w.heap.size w w' := by
  have hd0 : decide (cut < 0) = false := by simp; omega
  have hd : decide (64 < cut) = false := by simp; omega
  have hs : (st == st) = true := by simp
  have hcc : (c == c) = true := by simp
  have g0 := fun d os => (h.box.grown d os).x0
  have g1 := fun d os => (h.box.grown d os).x1
  have hrx : Hid (∀ w', (∃ p : Regrown, w' = grow (redrawn W p.d) p.os) → w'.rangeAt w.heap.size 0 X) := Lib.hid (by rintro _ ⟨p, rfl⟩; exact (h.box.grown p.d p.os).xr)
  have lx := Lib.hid h.box.hX
  have g2 := fun d os => (h.box.grown d os).y0
  have g3 := fun d os => (h.box.grown d os).y1
  have ct := Lib.hid (regrown_any h.tx W)
  have cm := Lib.hid (regrown_same h.mx W)
  have eW := Lib.hid h.eW
  have hbel := Lib.hid h.bel
  clear h
  go_enter Try.func4, Try.ntmps4
  go_wp2_with fail
  rw [← eW.out]
  refine wp_region_quiet_below (by kernel_rfl) (by kernel_rfl) ?_
  repeat (first
    | ((with_reducible refine quiet_sealed w.heap.size X ?_ hrx.out lx.out ?_ ?_); (· rfl); (· rfl); simp only [Act.put, List.setIfInBounds_toArray, List.set_cons_zero, List.set_cons_succ])
    | go_big_quiet_step (first | exact ct.out _ _ | exact cm.out _ _))
  refine wpQuiet_nil ?_
  intro _ hw'
  obtain ⟨⟨dq, osq⟩, hw''⟩ := hw'
  subst hw''
  have hb1 := grew hbel.out (below_regrown W dq osq)
  clear g0 g1 g2 g3
  go_wp2_with fail
  refine (two_any _).mono ?_
  rintro e w8 ⟨rfl, hb8⟩
  go_wp2_with fail
  go_ret
  exact ⟨rfl, grew hb1 hb8⟩
end Go.Proofs.Ytkmlmondhmpkkaa.W
