/- The walks of package super's Store, by what the view's Write and Flush do. The walks of package super's Load. A view of a law's own making: what the calls of package view, Store and Load leave of it. -/
import Derived.Test.YtkmlmondhmpkkaaProg
import Derived.Test.YtkmlmondhmpkkaaSuperA
import Derived.Test.YtkmlmondhmpkkaaView
import Derived.LoopN
import Derived.Test.YtkmlmondhmpkkaaSuThree
section
namespace Go.Proofs.Ytkmlmondhmpkkaa.W
open Go.RowKit
open Go.Proofs.Ytkmlmondhmpkkaa.M Go.Proofs.Ytkmlmondhmpkkaa.D Go.Proofs.Ytkmlmondhmpkkaa.Z
set_option linter.unusedVariables false

section
variable {w w' : World} {vb d g : Nat} {v : Value} {lie : List (List UInt8)} {ws : List (Nat × List UInt8)} {from_ n : Nat} {fuse steps : Int} {gone : Bool}
/-- A block of another type is none of a view's. -/
theorem off_view (h : Vw w vb d g v lie ws from_ n fuse steps gone) {b : Nat} {t : TypeId} {cs : List Value} (hb : Whole w b t cs) (h1 : t ≠ 102) (h2 : t ≠ 95) (h3 : t ≠ 122) (h4 : t ≠ 124) : ¬ (b = vb ∨ mine d g v b) := by
  rintro (e | e | e | e)
  · exact hb.ne h.obj h1 e
  · exact hb.ne h.disk.obj h2 e
  · exact hb.ne h.disk.lying h3 e
  · rcases h.disk.form with ⟨rfl, _⟩ | ⟨k, cap, cur, rfl, hW, _⟩
    · cases e
    · have e2 : k = b := by simpa [Value.ownBlock] using e
      exact hb.ne hW h4 e2.symm
theorem VTurned.pre {W : World} (hb : Below w.heap.size w W) (h : VTurned W vb d g v lie ws from_ n fuse steps gone w') : VTurned w vb d g v lie ws from_ n fuse steps gone w' := by
  obtain ⟨v', h1, h2, h3⟩ := h
  refine ⟨v', h1, fun k hk => ?_, (Kept.of_below hb).trans h3⟩
  rcases h2 k hk with e | e
  · exact .inl e
  · exact .inr (Nat.le_trans hb.size e)
theorem VTurned.post {W : World} (h : VTurned w vb d g v lie ws from_ n fuse steps gone W) (hb : Below W.heap.size W w') : VTurned w vb d g v lie ws from_ n fuse steps gone w' := by
  obtain ⟨v', h1, h2, h3⟩ := h
  exact ⟨v', h1.below hb, h2, h3.trans (Kept.of_below hb)⟩
/-- Two turns, one behind the other. -/
theorem turn_two {W : World} {v1 : Value} {lie2 : List (List UInt8)} {ws2 : List (Nat × List UInt8)} {fuse2 steps2 : Int} {gone2 : Bool}
    (h2 : ∀ k, v1.ownBlock = some k → v.ownBlock = some k ∨ w.heap.size ≤ k) (h3 : Kept (fun k => k = vb ∨ mine d g v k) w W)
    (k : VTurned W vb d g v1 lie2 ws2 from_ n fuse2 steps2 gone2 w') : VTurned w vb d g v lie2 ws2 from_ n fuse2 steps2 gone2 w' := by
  obtain ⟨v2, k1, k2, k3⟩ := k
  have hs := h3.size
  refine ⟨v2, k1, fun q hq => ?_, ⟨k3.os.trans h3.os, k3.tape.trans h3.tape, k3.output.trans h3.output, Nat.le_trans h3.size k3.size, fun q hq ho => ?_⟩⟩
  · rcases k2 q hq with e | e
    · exact h2 q e
    · exact .inr (by omega)
  · refine (k3.block q (by omega) ?_).trans (h3.block q hq ho)
    rintro (e | e | e | e)
    · exact ho (.inl e)
    · exact ho (.inr (.inl e))
    · exact ho (.inr (.inr (.inl e)))
    · rcases h2 q e with e2 | e2
      · exact ho (.inr (.inr (.inr e2)))
      · omega
theorem kept_whole {own : Nat → Prop} {b : Nat} {t : TypeId} {cs : List Value} (h : Whole w b t cs) (hk : Kept own w w') (ho : ¬ own b) : Whole w' b t cs := h.of_kept hk ho
/-- What Write does with a view whose power goes, or is gone. -/
theorem write_dead (p : Nat) (U : ByteArray) (h : Vw w vb d g v lie ws from_ n fuse steps gone) (hp : p < n) (hU : U.size = 64) (hno : gone = true ∨ fuse = 0) :
    Calls Try.prog 31 #[.pointer (some ⟨vb, 0, none⟩), .int .i64 p, .string U] w fun e w' => e = .returned (.int .i64 21) ∧ VTurned w vb d g v lie ws from_ n fuse steps true w' := by
  refine (vwrite_power (p : Int) U h ⟨by omega, by omega⟩ hU hno).mono ?_
  rintro e w1 ⟨rfl, h1, h2⟩
  exact ⟨rfl, v, h1, fun k hk => .inl hk, h2.mono fun k _ e => .inl e⟩
theorem flush_dead (h : Vw w vb d g v lie ws from_ n fuse steps gone) (hno : gone = true ∨ fuse = 0) :
    Calls Try.prog 43 #[.pointer (some ⟨vb, 0, none⟩)] w fun e w' => e = .returned (.int .i64 21) ∧ VTurned w vb d g v lie ws from_ n fuse steps true w' := by
  refine (vflush_power h hno).mono ?_
  rintro e w1 ⟨rfl, h1, h2⟩
  exact ⟨rfl, v, h1, fun k hk => .inl hk, h2.mono fun k _ e => .inl e⟩
end
section
variable {w : World} {vb d g : Nat} {v : Value} {lie lie1 lie2 : List (List UInt8)} {ws ws1 ws2 : List (Nat × List UInt8)} {from_ n : Nat} {fuse steps fuse1 steps1 fuse2 steps2 : Int} {gone gone1 gone2 : Bool}
set_option maxRecDepth 100000 in
set_option maxHeartbeats 4000000 in
/-- A nil view. -/
theorem store_nil (a b c e f p : Nat) (U : ByteArray) (w : World)
    (hpl : ∀ W : World, Calls Try.prog 22 #[.agg #[.int .u32 a, .int .u32 b, .int .u32 c, .int .u32 e, .int .u32 f]] W fun x w' => x = .returned (.int .i64 p) ∧ Below W.heap.size W w')
    (hen : ∀ W : World, Calls Try.prog 20 #[.agg #[.int .u32 a, .int .u32 b, .int .u32 c, .int .u32 e, .int .u32 f]] W fun x w' => x = .returned (.string U) ∧ Below W.heap.size W w')
    (hwr : ∀ W : World, Calls Try.prog 31 #[.pointer none, .int .i64 p, .string U] W fun e w' => e = .returned (.int .i64 7) ∧ W = w') :
    Calls Try.prog 27 #[.pointer none, .agg #[.int .u32 a, .int .u32 b, .int .u32 c, .int .u32 e, .int .u32 f]] w fun e w' => e = .returned (.int .i64 7) ∧ Below w.heap.size w w' := by
  replace hpl := Lib.hid hpl
  replace hen := Lib.hid hen
  replace hwr := Lib.hid hwr
  obtain ⟨W1, hW1⟩ : ∃ W, Hid (W = w.alloc (.cells (u32s a b c e f).toArray 43)) := ⟨_, Lib.hid rfl⟩
  have hB1 : Below w.heap.size w W1.drew := by
    have := allocBelow w (.cells (u32s a b c e f).toArray 43)
    rw [← hW1.out] at this
    exact this.trans ⟨rfl, rfl, rfl, Nat.le_refl _, fun _ _ => rfl⟩
  have hA1 : Whole W1.drew w.heap.size 43 (u32s a b c e f) := by
    have := Whole.new w 43 (u32s a b c e f)
    rw [← hW1.out] at this
    exact this
  have c0 : W1.drew.cell? ⟨w.heap.size, 0, none⟩ = some (.int .u32 a) := hA1.cell 0
  have c1 : W1.drew.cell? ⟨w.heap.size, 1, none⟩ = some (.int .u32 b) := hA1.cell 1
  have c2 : W1.drew.cell? ⟨w.heap.size, 2, none⟩ = some (.int .u32 c) := hA1.cell 2
  have c3 : W1.drew.cell? ⟨w.heap.size, 3, none⟩ = some (.int .u32 e) := hA1.cell 3
  have c4 : W1.drew.cell? ⟨w.heap.size, 4, none⟩ = some (.int .u32 f) := hA1.cell 4
  have hlt1 : Hid (w.heap.size < W1.drew.heap.size) := Lib.hid (by have h := congrArg (fun W => W.heap.size) hW1.out; simp at h; show w.heap.size < W1.heap.size; omega)
  replace hA1 := Lib.hid hA1
  replace hB1 := Lib.hid hB1
  go_enter Try.func27, Try.ntmps27
  go_wp2_with fail
  rw [← hW1.out]
  clear hW1
  go_region_held3 (fun w' => w'.cell? ⟨w.heap.size, 0, none⟩ = some (.int .u32 a) ∧ w'.cell? ⟨w.heap.size, 1, none⟩ = some (.int .u32 b) ∧ w'.cell? ⟨w.heap.size, 2, none⟩ = some (.int .u32 c) ∧ w'.cell? ⟨w.heap.size, 3, none⟩ = some (.int .u32 e) ∧ w'.cell? ⟨w.heap.size, 4, none⟩ = some (.int .u32 f)) (go_keep) (first
    | (go_at_call 22; (with_reducible refine (hpl.out _).mono ?_); rintro _ w5 ⟨rfl, hb5⟩; have hA5 := Lib.hid (hA1.out.below hb5 hlt1.out); have f0 : w5.cell? ⟨w.heap.size, 0, none⟩ = some (.int .u32 a) := hA5.out.cell 0; have f1 : w5.cell? ⟨w.heap.size, 1, none⟩ = some (.int .u32 b) := hA5.out.cell 1; have f2 : w5.cell? ⟨w.heap.size, 2, none⟩ = some (.int .u32 c) := hA5.out.cell 2; have f3 : w5.cell? ⟨w.heap.size, 3, none⟩ = some (.int .u32 e) := hA5.out.cell 3; have f4 : w5.cell? ⟨w.heap.size, 4, none⟩ = some (.int .u32 f) := hA5.out.cell 4; have hB5 := Lib.hid (hB1.out.trans (hb5.mono hB1.out.size)))
    | (go_at_call 20; (with_reducible refine (hen.out _).mono ?_); rintro _ w6 ⟨rfl, hb6⟩; have hA6 := Lib.hid (hA5.out.below hb6 (Nat.lt_of_lt_of_le hlt1.out hb5.size)); have g0 : w6.cell? ⟨w.heap.size, 0, none⟩ = some (.int .u32 a) := hA6.out.cell 0; have g1 : w6.cell? ⟨w.heap.size, 1, none⟩ = some (.int .u32 b) := hA6.out.cell 1; have g2 : w6.cell? ⟨w.heap.size, 2, none⟩ = some (.int .u32 c) := hA6.out.cell 2; have g3 : w6.cell? ⟨w.heap.size, 3, none⟩ = some (.int .u32 e) := hA6.out.cell 3; have g4 : w6.cell? ⟨w.heap.size, 4, none⟩ = some (.int .u32 f) := hA6.out.cell 4; have hB6 := Lib.hid (hB5.out.trans (hb6.mono hB5.out.size)))
    | (go_at_call 31; (with_reducible refine (hwr.out _).mono ?_); rintro _ w7 ⟨rfl, rfl⟩))
  clear f0 f1 f2 f3 f4 g0 g1 g2 g3 g4 c0 c1 c2 c3 c4
  go_wp2_with fail
  go_ret
  exact ⟨rfl, hB6.out⟩
set_option maxRecDepth 100000 in
set_option maxHeartbeats 4000000 in
/-- Its Write is refused. -/
theorem store_refused (x : Int) (hx : x ≠ 0) (a b c e f p : Nat) (U : ByteArray) (hv : Vw w vb d g v lie ws from_ n fuse steps gone)
    (hpl : ∀ W : World, Calls Try.prog 22 #[.agg #[.int .u32 a, .int .u32 b, .int .u32 c, .int .u32 e, .int .u32 f]] W fun x w' => x = .returned (.int .i64 p) ∧ Below W.heap.size W w')
    (hen : ∀ W : World, Calls Try.prog 20 #[.agg #[.int .u32 a, .int .u32 b, .int .u32 c, .int .u32 e, .int .u32 f]] W fun x w' => x = .returned (.string U) ∧ Below W.heap.size W w')
    (hwr : ∀ W : World, Vw W vb d g v lie ws from_ n fuse steps gone → Calls Try.prog 31 #[.pointer (some ⟨vb, 0, none⟩), .int .i64 p, .string U] W fun e w' => e = .returned (.int .i64 x) ∧ VTurned W vb d g v lie1 ws1 from_ n fuse1 steps1 gone1 w') :
    Calls Try.prog 27 #[.pointer (some ⟨vb, 0, none⟩), .agg #[.int .u32 a, .int .u32 b, .int .u32 c, .int .u32 e, .int .u32 f]] w fun e w' => e = .returned (.int .i64 x) ∧ VTurned w vb d g v lie1 ws1 from_ n fuse1 steps1 gone1 w' := by
  have hxb : (x != 0) = true := by simpa using hx
  replace hpl := Lib.hid hpl
  replace hen := Lib.hid hen
  replace hwr := Lib.hid hwr
  obtain ⟨W1, hW1⟩ : ∃ W, Hid (W = w.alloc (.cells (u32s a b c e f).toArray 43)) := ⟨_, Lib.hid rfl⟩
  have hB1 : Below w.heap.size w W1.drew := by
    have := allocBelow w (.cells (u32s a b c e f).toArray 43)
    rw [← hW1.out] at this
    exact this.trans ⟨rfl, rfl, rfl, Nat.le_refl _, fun _ _ => rfl⟩
  have hA1 : Whole W1.drew w.heap.size 43 (u32s a b c e f) := by
    have := Whole.new w 43 (u32s a b c e f)
    rw [← hW1.out] at this
    exact this
  have hv1 := Lib.hid (hv.below hB1)
  have c0 : W1.drew.cell? ⟨w.heap.size, 0, none⟩ = some (.int .u32 a) := hA1.cell 0
  have c1 : W1.drew.cell? ⟨w.heap.size, 1, none⟩ = some (.int .u32 b) := hA1.cell 1
  have c2 : W1.drew.cell? ⟨w.heap.size, 2, none⟩ = some (.int .u32 c) := hA1.cell 2
  have c3 : W1.drew.cell? ⟨w.heap.size, 3, none⟩ = some (.int .u32 e) := hA1.cell 3
  have c4 : W1.drew.cell? ⟨w.heap.size, 4, none⟩ = some (.int .u32 f) := hA1.cell 4
  have hoff := Lib.hid (off_view hv1.out hA1 (by decide) (by decide) (by decide) (by decide))
  have hlt1 : Hid (w.heap.size < W1.drew.heap.size) := Lib.hid (by have h := congrArg (fun W => W.heap.size) hW1.out; simp at h; show w.heap.size < W1.heap.size; omega)
  replace hA1 := Lib.hid hA1
  replace hB1 := Lib.hid hB1
  replace hx := Lib.hid hx
  clear hv
  go_enter Try.func27, Try.ntmps27
  go_wp2_with fail
  rw [← hW1.out]
  clear hW1
  go_region_held3 (fun w' => w'.cell? ⟨w.heap.size, 0, none⟩ = some (.int .u32 a) ∧ w'.cell? ⟨w.heap.size, 1, none⟩ = some (.int .u32 b) ∧ w'.cell? ⟨w.heap.size, 2, none⟩ = some (.int .u32 c) ∧ w'.cell? ⟨w.heap.size, 3, none⟩ = some (.int .u32 e) ∧ w'.cell? ⟨w.heap.size, 4, none⟩ = some (.int .u32 f)) (go_keep) (first
    | (go_at_call 22; (with_reducible refine (hpl.out _).mono ?_); rintro _ w5 ⟨rfl, hb5⟩; have hA5 := Lib.hid (hA1.out.below hb5 hlt1.out); have hv5 := Lib.hid (hv1.out.below hb5); have f0 : w5.cell? ⟨w.heap.size, 0, none⟩ = some (.int .u32 a) := hA5.out.cell 0; have f1 : w5.cell? ⟨w.heap.size, 1, none⟩ = some (.int .u32 b) := hA5.out.cell 1; have f2 : w5.cell? ⟨w.heap.size, 2, none⟩ = some (.int .u32 c) := hA5.out.cell 2; have f3 : w5.cell? ⟨w.heap.size, 3, none⟩ = some (.int .u32 e) := hA5.out.cell 3; have f4 : w5.cell? ⟨w.heap.size, 4, none⟩ = some (.int .u32 f) := hA5.out.cell 4; have hB5 := Lib.hid (hB1.out.trans (hb5.mono hB1.out.size)))
    | (go_at_call 20; (with_reducible refine (hen.out _).mono ?_); rintro _ w6 ⟨rfl, hb6⟩; have hA6 := Lib.hid (hA5.out.below hb6 (Nat.lt_of_lt_of_le hlt1.out hb5.size)); have hv6 := Lib.hid (hv5.out.below hb6); have g0 : w6.cell? ⟨w.heap.size, 0, none⟩ = some (.int .u32 a) := hA6.out.cell 0; have g1 : w6.cell? ⟨w.heap.size, 1, none⟩ = some (.int .u32 b) := hA6.out.cell 1; have g2 : w6.cell? ⟨w.heap.size, 2, none⟩ = some (.int .u32 c) := hA6.out.cell 2; have g3 : w6.cell? ⟨w.heap.size, 3, none⟩ = some (.int .u32 e) := hA6.out.cell 3; have g4 : w6.cell? ⟨w.heap.size, 4, none⟩ = some (.int .u32 f) := hA6.out.cell 4; have hB6 := Lib.hid (hB5.out.trans (hb6.mono hB5.out.size)))
    | (go_at_call 31; (with_reducible refine (hwr.out _ hv6.out).mono ?_); rintro _ w7 ⟨rfl, ht7⟩; have hA7 : Whole w7 w.heap.size 43 (u32s a b c e f) := (by obtain ⟨_, _, _, hk⟩ := ht7; exact hA6.out.of_kept hk hoff.out); have h0 : w7.cell? ⟨w.heap.size, 0, none⟩ = some (.int .u32 a) := hA7.cell 0; have h1 : w7.cell? ⟨w.heap.size, 1, none⟩ = some (.int .u32 b) := hA7.cell 1; have h2 : w7.cell? ⟨w.heap.size, 2, none⟩ = some (.int .u32 c) := hA7.cell 2; have h3 : w7.cell? ⟨w.heap.size, 3, none⟩ = some (.int .u32 e) := hA7.cell 3; have h4 : w7.cell? ⟨w.heap.size, 4, none⟩ = some (.int .u32 f) := hA7.cell 4; have ht7 := Lib.hid ht7))
  have hfin := Lib.hid (VTurned.pre hB6.out ht7.out)
  clear f0 f1 f2 f3 f4 g0 g1 g2 g3 g4 h0 h1 h2 h3 h4 c0 c1 c2 c3 c4
  go_wp2_with fail
  go_ret
  exact ⟨rfl, hfin.out⟩
set_option maxRecDepth 100000 in
set_option maxHeartbeats 4000000 in
/-- Its Write is done. -/
theorem store_go (x : Int) (a b c e f p : Nat) (U : ByteArray) (hv : Vw w vb d g v lie ws from_ n fuse steps gone)
    (hpl : ∀ W : World, Calls Try.prog 22 #[.agg #[.int .u32 a, .int .u32 b, .int .u32 c, .int .u32 e, .int .u32 f]] W fun x w' => x = .returned (.int .i64 p) ∧ Below W.heap.size W w')
    (hen : ∀ W : World, Calls Try.prog 20 #[.agg #[.int .u32 a, .int .u32 b, .int .u32 c, .int .u32 e, .int .u32 f]] W fun x w' => x = .returned (.string U) ∧ Below W.heap.size W w')
    (hwr : ∀ W : World, Vw W vb d g v lie ws from_ n fuse steps gone → Calls Try.prog 31 #[.pointer (some ⟨vb, 0, none⟩), .int .i64 p, .string U] W fun e w' => e = .returned (.int .i64 0) ∧ VTurned W vb d g v lie1 ws1 from_ n fuse1 steps1 gone1 w')
    (hfl : ∀ (W : World) (v1 : Value), Vw W vb d g v1 lie1 ws1 from_ n fuse1 steps1 gone1 → Calls Try.prog 43 #[.pointer (some ⟨vb, 0, none⟩)] W fun e w' => e = .returned (.int .i64 x) ∧ VTurned W vb d g v1 lie2 ws2 from_ n fuse2 steps2 gone2 w') :
    Calls Try.prog 27 #[.pointer (some ⟨vb, 0, none⟩), .agg #[.int .u32 a, .int .u32 b, .int .u32 c, .int .u32 e, .int .u32 f]] w fun e w' => e = .returned (.int .i64 x) ∧ VTurned w vb d g v lie2 ws2 from_ n fuse2 steps2 gone2 w' := by
  replace hpl := Lib.hid hpl
  replace hen := Lib.hid hen
  replace hwr := Lib.hid hwr
  replace hfl := Lib.hid hfl
  obtain ⟨W1, hW1⟩ : ∃ W, Hid (W = w.alloc (.cells (u32s a b c e f).toArray 43)) := ⟨_, Lib.hid rfl⟩
  have hB1 : Below w.heap.size w W1.drew := by
    have := allocBelow w (.cells (u32s a b c e f).toArray 43)
    rw [← hW1.out] at this
    exact this.trans ⟨rfl, rfl, rfl, Nat.le_refl _, fun _ _ => rfl⟩
  have hA1 : Whole W1.drew w.heap.size 43 (u32s a b c e f) := by
    have := Whole.new w 43 (u32s a b c e f)
    rw [← hW1.out] at this
    exact this
  have hv1 := Lib.hid (hv.below hB1)
  have c0 : W1.drew.cell? ⟨w.heap.size, 0, none⟩ = some (.int .u32 a) := hA1.cell 0
  have c1 : W1.drew.cell? ⟨w.heap.size, 1, none⟩ = some (.int .u32 b) := hA1.cell 1
  have c2 : W1.drew.cell? ⟨w.heap.size, 2, none⟩ = some (.int .u32 c) := hA1.cell 2
  have c3 : W1.drew.cell? ⟨w.heap.size, 3, none⟩ = some (.int .u32 e) := hA1.cell 3
  have c4 : W1.drew.cell? ⟨w.heap.size, 4, none⟩ = some (.int .u32 f) := hA1.cell 4
  have hoff := Lib.hid (off_view hv1.out hA1 (by decide) (by decide) (by decide) (by decide))
  have hlt1 : Hid (w.heap.size < W1.drew.heap.size) := Lib.hid (by have h := congrArg (fun W => W.heap.size) hW1.out; simp at h; show w.heap.size < W1.heap.size; omega)
  replace hA1 := Lib.hid hA1
  replace hB1 := Lib.hid hB1
  clear hv
  go_enter Try.func27, Try.ntmps27
  go_wp2_with fail
  rw [← hW1.out]
  clear hW1
  go_region_held3 (fun w' => w'.cell? ⟨w.heap.size, 0, none⟩ = some (.int .u32 a) ∧ w'.cell? ⟨w.heap.size, 1, none⟩ = some (.int .u32 b) ∧ w'.cell? ⟨w.heap.size, 2, none⟩ = some (.int .u32 c) ∧ w'.cell? ⟨w.heap.size, 3, none⟩ = some (.int .u32 e) ∧ w'.cell? ⟨w.heap.size, 4, none⟩ = some (.int .u32 f)) (go_keep) (first
    | (go_at_call 22; (with_reducible refine (hpl.out _).mono ?_); rintro _ w5 ⟨rfl, hb5⟩; have hA5 := Lib.hid (hA1.out.below hb5 hlt1.out); have hv5 := Lib.hid (hv1.out.below hb5); have f0 : w5.cell? ⟨w.heap.size, 0, none⟩ = some (.int .u32 a) := hA5.out.cell 0; have f1 : w5.cell? ⟨w.heap.size, 1, none⟩ = some (.int .u32 b) := hA5.out.cell 1; have f2 : w5.cell? ⟨w.heap.size, 2, none⟩ = some (.int .u32 c) := hA5.out.cell 2; have f3 : w5.cell? ⟨w.heap.size, 3, none⟩ = some (.int .u32 e) := hA5.out.cell 3; have f4 : w5.cell? ⟨w.heap.size, 4, none⟩ = some (.int .u32 f) := hA5.out.cell 4; have hB5 := Lib.hid (hB1.out.trans (hb5.mono hB1.out.size)))
    | (go_at_call 20; (with_reducible refine (hen.out _).mono ?_); rintro _ w6 ⟨rfl, hb6⟩; have hA6 := Lib.hid (hA5.out.below hb6 (Nat.lt_of_lt_of_le hlt1.out hb5.size)); have hv6 := Lib.hid (hv5.out.below hb6); have g0 : w6.cell? ⟨w.heap.size, 0, none⟩ = some (.int .u32 a) := hA6.out.cell 0; have g1 : w6.cell? ⟨w.heap.size, 1, none⟩ = some (.int .u32 b) := hA6.out.cell 1; have g2 : w6.cell? ⟨w.heap.size, 2, none⟩ = some (.int .u32 c) := hA6.out.cell 2; have g3 : w6.cell? ⟨w.heap.size, 3, none⟩ = some (.int .u32 e) := hA6.out.cell 3; have g4 : w6.cell? ⟨w.heap.size, 4, none⟩ = some (.int .u32 f) := hA6.out.cell 4; have hB6 := Lib.hid (hB5.out.trans (hb6.mono hB5.out.size)))
    | (go_at_call 31; (with_reducible refine (hwr.out _ hv6.out).mono ?_); rintro _ w7 ⟨rfl, ht7⟩; have hA7 : Whole w7 w.heap.size 43 (u32s a b c e f) := (by obtain ⟨_, _, _, hk⟩ := ht7; exact hA6.out.of_kept hk hoff.out); have h0 : w7.cell? ⟨w.heap.size, 0, none⟩ = some (.int .u32 a) := hA7.cell 0; have h1 : w7.cell? ⟨w.heap.size, 1, none⟩ = some (.int .u32 b) := hA7.cell 1; have h2 : w7.cell? ⟨w.heap.size, 2, none⟩ = some (.int .u32 c) := hA7.cell 2; have h3 : w7.cell? ⟨w.heap.size, 3, none⟩ = some (.int .u32 e) := hA7.cell 3; have h4 : w7.cell? ⟨w.heap.size, 4, none⟩ = some (.int .u32 f) := hA7.cell 4; have ht7 := Lib.hid ht7))
  have hfin := Lib.hid (VTurned.pre hB6.out ht7.out)
  clear f0 f1 f2 f3 f4 g0 g1 g2 g3 g4 h0 h1 h2 h3 h4 c0 c1 c2 c3 c4
  obtain ⟨v7, hv7, ho7, hk7⟩ := hfin.out
  replace hv7 := Lib.hid hv7
  go_wp2_with fail
  refine (hfl.out _ _ hv7.out).mono ?_
  rintro _ w8 ⟨rfl, ht8⟩
  have hz := Lib.hid (turn_two ho7 hk7 ht8)
  go_wp2_with fail
  go_ret
  exact ⟨rfl, hz.out⟩
end
end Go.Proofs.Ytkmlmondhmpkkaa.W
end
section
namespace Go.Proofs.Ytkmlmondhmpkkaa.W
open Go.RowKit
open Go.Proofs.Ytkmlmondhmpkkaa.M Go.Proofs.Ytkmlmondhmpkkaa.D Go.Proofs.Ytkmlmondhmpkkaa.Z
set_option linter.unusedVariables false

theorem load_boxes (w : World) (t1 t2 : TypeId) (x y : List Value) : ∃ W, W = (w.alloc (.cells x.toArray t1)).alloc (.cells y.toArray t2) ∧
    Whole W w.heap.size t1 x ∧ Whole W (w.heap.size + 1) t2 y ∧ Below w.heap.size w W := by
  refine ⟨_, rfl, (Whole.new w t1 x).alloc _, ?_, ((Below.refl _ _).alloc (Nat.le_refl _) _).alloc (by simp) _⟩
  have h := Whole.new (w.alloc (.cells x.toArray t1)) t2 y
  rw [show (w.alloc (.cells x.toArray t1)).heap.size = w.heap.size + 1 from by simp] at h
  exact h
set_option maxRecDepth 100000 in
set_option maxHeartbeats 4000000 in
/-- Its first Read is refused. -/
theorem load_no (x : Int) (hx : x ≠ 0) (pa : Option Addr) (w : World)
    (hrd : ∀ W : World, Below w.heap.size w W → Calls Try.prog 45 #[.pointer pa, .int .i64 0] W fun e w' => e = .returned (.tuple #[.string ⟨#[]⟩, .int .i64 x]) ∧ Below W.heap.size W w') :
    Calls Try.prog 30 #[.pointer pa] w fun e w' => e = .returned (.tuple #[.agg #[.int .u32 0, .int .u32 0, .int .u32 0, .int .u32 0, .int .u32 0], .int .i64 x]) ∧ Below w.heap.size w w' := by
  have hxb : (x != 0) = true := by simpa using hx
  replace hrd := Lib.hid hrd
  replace hx := Lib.hid hx
  obtain ⟨W, hW, hR, hP, hB⟩ := load_boxes w 43 91 (u32s 0 0 0 0 0) [.string ⟨#[]⟩, .string ⟨#[]⟩]
  replace hW := Lib.hid hW
  go_enter Try.func30, Try.ntmps30
  go_wp2_with fail
  rw [show (w.alloc (Obj.cells #[.int .u32 0, .int .u32 0, .int .u32 0, .int .u32 0, .int .u32 0] 43)).alloc (Obj.cells #[.string ⟨#[]⟩, .string ⟨#[]⟩] 91) = W from hW.out.symm]
  clear hW
  refine wp_loop_rounds 1 ?_
  rw [rounds_succ]
  go_wp2_with fail
  refine (hrd.out _ hB).mono ?_
  rintro _ w1 ⟨rfl, hb1⟩
  replace hR := Lib.hid (hR.below hb1 hR.lt)
  replace hB := Lib.hid (grew hB hb1)
  clear hP hb1
  go_wp2_with (with_reducible refine zStore 43 _ _ rfl ?_)
  refine Lib.hid ?_
  refine wpList_store_mid rfl 43 _ _ rfl w.heap.size 0 (u32s 0 0 0 0 0).toArray rfl rfl (hR.out.there 0 5 (by simp)) sizeS5 (all_oneCell_toArray (u32s_one _ _ _ _ _)) ?_
  have hfin := Lib.hid (whole_all hR.out (vs := u32s 0 0 0 0 0) rfl)
  go_wp2_with fail
  exact bodyPost_ret (result_cell_tmp Try.results30 rfl rfl hfin.out.range Try.underlying43 rfl sizeS5) rfl ⟨rfl, below_store hB.out (Nat.le_refl _) (Nat.le_refl _) 0 _⟩
set_option maxRecDepth 100000 in
set_option maxHeartbeats 4000000 in
/-- Both Reads are done. -/
theorem load_in (a b : ByteArray) (n0 n1 n2 n3 n4 : Nat) (x : Int) (pa : Option Addr) (w : World)
    (hr0 : ∀ W : World, Below w.heap.size w W → Calls Try.prog 45 #[.pointer pa, .int .i64 0] W fun e w' => e = .returned (.tuple #[.string a, .int .i64 0]) ∧ Below W.heap.size W w')
    (hr1 : ∀ W : World, Below w.heap.size w W → Calls Try.prog 45 #[.pointer pa, .int .i64 1] W fun e w' => e = .returned (.tuple #[.string b, .int .i64 0]) ∧ Below W.heap.size W w')
    (hpi : ∀ W : World, Calls Try.prog 23 #[.string a, .string b] W fun e w' => e = .returned (.tuple #[.agg #[.int .u32 n0, .int .u32 n1, .int .u32 n2, .int .u32 n3, .int .u32 n4], .int .i64 x]) ∧ Below W.heap.size W w') :
    Calls Try.prog 30 #[.pointer pa] w fun e w' => e = .returned (.tuple #[.agg #[.int .u32 n0, .int .u32 n1, .int .u32 n2, .int .u32 n3, .int .u32 n4], .int .i64 x]) ∧ Below w.heap.size w w' := by
  replace hr0 := Lib.hid hr0
  replace hr1 := Lib.hid hr1
  replace hpi := Lib.hid hpi
  obtain ⟨W, hW, hR, hP, hB⟩ := load_boxes w 43 91 (u32s 0 0 0 0 0) [.string ⟨#[]⟩, .string ⟨#[]⟩]
  replace hW := Lib.hid hW
  go_enter Try.func30, Try.ntmps30
  go_wp2_with fail
  rw [show (w.alloc (Obj.cells #[.int .u32 0, .int .u32 0, .int .u32 0, .int .u32 0, .int .u32 0] 43)).alloc (Obj.cells #[.string ⟨#[]⟩, .string ⟨#[]⟩] 91) = W from hW.out.symm]
  clear hW
  refine wp_loop_rounds 3 ?_
  rw [rounds_succ]
  go_wp2_with fail
  refine (hr0.out _ hB).mono ?_
  rintro _ w1 ⟨rfl, hb1⟩
  replace hR := Lib.hid (hR.below hb1 hR.lt)
  replace hB := Lib.hid (grew hB hb1)
  replace hP := hP.below hb1 hP.lt
  clear hb1
  have p0 : w1.cell? ⟨w.heap.size + 1, 0, none⟩ = some (.string ⟨#[]⟩) := hP.cell 0
  have f0 := hP.frozen 0
  have hP2 := Lib.hid (hP.store 0 [.string a] (by simp))
  have hR2 := Lib.hid (hR.out.far (c := w.heap.size + 1) (by omega) 0 [.string a])
  have hB2 := Lib.hid (below_store hB.out (c := w.heap.size + 1) (by omega) (Nat.le_refl _) 0 [.string a])
  clear hP hR hB
  go_wp2_with fail
  rw [show w1.setCell ⟨w.heap.size + 1, 0, none⟩ (.string a) = w1.setCells (w.heap.size + 1) 0 [.string a] from rfl]
  generalize w1.setCells (w.heap.size + 1) 0 [.string a] = w2 at hP2 hR2 hB2 ⊢
  clear p0 f0
  rw [rounds_succ]
  go_wp2_with fail
  refine (hr1.out _ hB2.out).mono ?_
  rintro _ w3 ⟨rfl, hb3⟩
  have hR := Lib.hid (hR2.out.below hb3 hR2.out.lt)
  have hB := Lib.hid (grew hB2.out hb3)
  have hP : Whole w3 (w.heap.size + 1) 91 [.string a, .string ⟨#[]⟩] := hP2.out.below hb3 hP2.out.lt
  clear hb3 hP2 hR2 hB2
  have p1 : w3.cell? ⟨w.heap.size + 1, 1, none⟩ = some (.string ⟨#[]⟩) := hP.cell 1
  have f1 := hP.frozen 1
  have hP4 : Hid (Whole (w3.setCells (w.heap.size + 1) 1 [.string b]) (w.heap.size + 1) 91 [.string a, .string b]) := Lib.hid (hP.store 1 [.string b] (by simp))
  have hR4 := Lib.hid (hR.out.far (c := w.heap.size + 1) (by omega) 1 [.string b])
  have hB4 := Lib.hid (below_store hB.out (c := w.heap.size + 1) (by omega) (Nat.le_refl _) 1 [.string b])
  clear hP hR hB
  go_wp2_with fail
  rw [show w3.setCell ⟨w.heap.size + 1, 1, none⟩ (.string b) = w3.setCells (w.heap.size + 1) 1 [.string b] from rfl]
  generalize w3.setCells (w.heap.size + 1) 1 [.string b] = w4 at hP4 hR4 hB4 ⊢
  clear p1 f1
  have p0 : w4.cell? ⟨w.heap.size + 1, 0, none⟩ = some (.string a) := hP4.out.cell 0
  have p1 : w4.cell? ⟨w.heap.size + 1, 1, none⟩ = some (.string b) := hP4.out.cell 1
  rw [rounds_succ]
  go_wp2_with fail
  refine (hpi.out _).mono ?_
  rintro _ w5 ⟨rfl, hb5⟩
  have hR5 := Lib.hid (hR4.out.below hb5 hR4.out.lt)
  have hB5 := Lib.hid (grew hB4.out hb5)
  clear hb5 hP4 hR4 hB4 p0 p1
  go_wp2_with (with_reducible refine zStore 43 _ _ rfl ?_)
  refine Lib.hid ?_
  refine wpList_store_mid rfl 43 _ _ rfl w.heap.size 0 (u32s n0 n1 n2 n3 n4).toArray rfl rfl (hR5.out.there 0 5 (by simp)) sizeS5 (all_oneCell_toArray (u32s_one _ _ _ _ _)) ?_
  have hfin := Lib.hid (whole_all hR5.out (vs := u32s n0 n1 n2 n3 n4) rfl)
  go_wp2_with fail
  exact bodyPost_ret (result_cell_tmp Try.results30 rfl rfl hfin.out.range Try.underlying43 rfl sizeS5) rfl ⟨rfl, below_store hB5.out (Nat.le_refl _) (Nat.le_refl _) 0 _⟩
end Go.Proofs.Ytkmlmondhmpkkaa.W
end
section
namespace Go.Proofs.Ytkmlmondhmpkkaa.W
open Go.RowKit
open Go.Proofs.Ytkmlmondhmpkkaa.M Go.Proofs.Ytkmlmondhmpkkaa.D Go.Proofs.Ytkmlmondhmpkkaa.Z
set_option linter.unusedVariables false

/-- The view of block vb, all of whose blocks were made since the world w0, which stands as it stood. -/
def SV (w0 : World) (vb d g : Nat) (lie : List (List UInt8)) (ws : List (Nat × List UInt8)) (from_ n : Nat) (fuse steps : Int) (gone : Bool) (W : World) : Prop :=
  ∃ v, Vw W vb d g v lie ws from_ n fuse steps gone ∧ (∀ k, (k = vb ∨ mine d g v k) → w0.heap.size ≤ k) ∧ Below w0.heap.size w0 W
section
variable {w0 W : World} {vb d g : Nat} {lie : List (List UInt8)} {ws : List (Nat × List UInt8)} {from_ n : Nat} {fuse steps : Int} {gone : Bool}
theorem SV.below {W' : World} (h : SV w0 vb d g lie ws from_ n fuse steps gone W) (hb : Below W.heap.size W W') : SV w0 vb d g lie ws from_ n fuse steps gone W' := by
  obtain ⟨v, h1, h2, h3⟩ := h
  exact ⟨v, h1.below hb, h2, grew h3 hb⟩
theorem SV.since (h : SV w0 vb d g lie ws from_ n fuse steps gone W) : Below w0.heap.size w0 W := by
  obtain ⟨v, h1, h2, h3⟩ := h
  exact h3
theorem SV.turn {v : Value} {lie2 : List (List UInt8)} {ws2 : List (Nat × List UInt8)} {fuse2 steps2 : Int} {gone2 : Bool} {W' : World} (h2 : ∀ k, (k = vb ∨ mine d g v k) → w0.heap.size ≤ k) (h3 : Below w0.heap.size w0 W) (ht : VTurned W vb d g v lie2 ws2 from_ n fuse2 steps2 gone2 W') :
    SV w0 vb d g lie2 ws2 from_ n fuse2 steps2 gone2 W' := by
  obtain ⟨v', k1, k2, k3⟩ := ht
  refine ⟨v', k1, ?_, h3.trans (k3.below h3.size (fun q hq => h2 q hq))⟩
  rintro k (e | e | e | e)
  · exact h2 k (.inl e)
  · exact h2 k (.inr (.inl e))
  · exact h2 k (.inr (.inr (.inl e)))
  · rcases k2 k e with e | e
    · exact h2 k (.inr (.inr (.inr e)))
    · exact Nat.le_trans h3.size e
theorem sv_new (N from_ n : Nat) (w0 w4 w5 : World) (hb : Below w0.heap.size w0 w4) (hv : Vw w5 w4.heap.size (w0.heap.size + 1) w0.heap.size (.slice none 0 0) lie ws from_ n (-1) 0 false) (hb5 : Below w4.heap.size w4 w5) :
    SV w0 w4.heap.size (w0.heap.size + 1) w0.heap.size lie ws from_ n (-1) 0 false w5 := by
  refine ⟨_, hv, ?_, grew hb hb5⟩
  rintro k (e | e | e | e)
  · rw [e]; exact hb.size
  · omega
  · omega
  · cases e
theorem sv_write (a : Nat) (s : ByteArray) (h : SV w0 vb d g lie ws from_ n fuse steps false W) (ha : a < n) (hz : s.size = 64) (hf : fuse ≠ 0) (h0 : 0 ≤ steps) (h1 : steps < 1000000) (h2 : -9223372036854775808 ≤ fuse) (h3 : fuse ≤ 9223372036854775807) (hw : ws.length ≤ 100000) :
    Calls Try.prog 31 #[.pointer (some ⟨vb, 0, none⟩), .int .i64 a, .string s] W fun e w' => e = .returned (.int .i64 0) ∧ SV w0 vb d g lie (ws ++ [(from_ + a, s.data.toList)]) from_ n (if 0 < fuse then fuse - 1 else fuse) (steps + 1) false w' := by
  obtain ⟨v, k1, k2, k3⟩ := h
  exact (vwrite_in a s k1 ha hz hf h0 h1 h2 h3 hw).mono fun e w' h => ⟨h.1, SV.turn k2 k3 h.2⟩
theorem sv_fuse (k : Int) (h : SV w0 vb d g lie ws from_ n fuse steps false W) :
    Calls Try.prog 28 #[.pointer (some ⟨vb, 0, none⟩), .int .i64 k] W fun e w' => e = .returned (.tuple #[]) ∧ SV w0 vb d g lie ws from_ n k steps false w' := by
  obtain ⟨v, k1, k2, k3⟩ := h
  refine (vfuse_any k k1).mono fun e w' h => ⟨h.1, v, h.2.1, k2, k3.trans (h.2.2.below k3.size (fun q hq => k2 q (.inl hq)))⟩
theorem place_nat (a b c e f : Nat) (ha : a < 4294967296) (W : World) :
    Calls Try.prog 22 #[.agg #[.int .u32 a, .int .u32 b, .int .u32 c, .int .u32 e, .int .u32 f]] W fun x w' => x = .returned (.int .i64 ((a % 2 : Nat) : Int)) ∧ Below W.heap.size W w' := by
  have h := place_any (a : Int) b c e f W (by omega) (by omega)
  rwa [show (a : Int) % 2 = ((a % 2 : Nat) : Int) from by omega] at h
theorem sizeSuper (a b c e f : Nat) : (B (superU a b c e f)).size = 64 := by rw [B_size, superU_len]
section
variable (a b c e f : Nat) (ha : a < 4294967296) (hb : b < 4294967296) (hc : c < 4294967296) (he : e < 4294967296) (hf : f < 4294967296)
include ha hb hc he hf
theorem store_none (W : World) :
    Calls Try.prog 27 #[.pointer none, .agg #[.int .u32 a, .int .u32 b, .int .u32 c, .int .u32 e, .int .u32 f]] W fun x w' => x = .returned (.int .i64 7) ∧ Below W.heap.size W w' :=
  store_nil a b c e f (a % 2) (B (superU a b c e f)) W (place_nat a b c e f ha) (fun W => suEncode_any a b c e f W ha hb hc he hf) (fun W => vwrite_nil _ _ W)
theorem sv_store_dead (h : SV w0 vb d g lie ws from_ n fuse steps gone W) (hn : 2 ≤ n) (hno : gone = true ∨ fuse = 0) :
    Calls Try.prog 27 #[.pointer (some ⟨vb, 0, none⟩), .agg #[.int .u32 a, .int .u32 b, .int .u32 c, .int .u32 e, .int .u32 f]] W fun x w' => x = .returned (.int .i64 21) ∧ SV w0 vb d g lie ws from_ n fuse steps true w' := by
  obtain ⟨v, k1, k2, k3⟩ := h
  refine (store_refused 21 (by decide) a b c e f (a % 2) (B (superU a b c e f)) k1 (place_nat a b c e f ha) (fun W => suEncode_any a b c e f W ha hb hc he hf) (fun W hW => write_dead (a % 2) _ hW (by omega) (sizeSuper a b c e f) hno)).mono ?_
  rintro x w' ⟨h1, h2⟩
  exact ⟨h1, SV.turn k2 k3 h2⟩
theorem sv_store_half (h : SV w0 vb d g lie ws from_ n 1 steps false W) (hn : 2 ≤ n) (h0 : 0 ≤ steps) (h1 : steps < 1000000) (hw : ws.length ≤ 1000) :
    Calls Try.prog 27 #[.pointer (some ⟨vb, 0, none⟩), .agg #[.int .u32 a, .int .u32 b, .int .u32 c, .int .u32 e, .int .u32 f]] W fun x w' => x = .returned (.int .i64 21) ∧ SV w0 vb d g lie (ws ++ [(from_ + a % 2, superU a b c e f)]) from_ n 0 (steps + 1) true w' := by
  obtain ⟨v, k1, k2, k3⟩ := h
  refine (store_go (fuse1 := 0) (steps1 := steps + 1) (gone1 := false) (lie1 := lie) (ws1 := ws ++ [(from_ + a % 2, superU a b c e f)]) 21 a b c e f (a % 2) (B (superU a b c e f)) k1 (place_nat a b c e f ha) (fun W => suEncode_any a b c e f W ha hb hc he hf)
    (fun W hW => vwrite_in (a % 2) _ hW (by omega) (sizeSuper a b c e f) (by decide) h0 h1 (by decide) (by decide) (by omega)) (fun W v1 hW => flush_dead hW (.inr rfl))).mono ?_
  rintro x w' ⟨h1, h2⟩
  exact ⟨h1, SV.turn k2 k3 h2⟩
theorem sv_store (h : SV w0 vb d g lie ws from_ n fuse steps false W) (hn : 2 ≤ n) (hf0 : fuse ≠ 0) (hf1 : fuse ≠ 1) (h0 : 0 ≤ steps) (h1 : steps < 1000) (h2 : -9223372036854775808 ≤ fuse) (h3 : fuse ≤ 9223372036854775807) (hw : ws.length ≤ 1000) :
    Calls Try.prog 27 #[.pointer (some ⟨vb, 0, none⟩), .agg #[.int .u32 a, .int .u32 b, .int .u32 c, .int .u32 e, .int .u32 f]] W fun x w' => x = .returned (.int .i64 0) ∧
      SV w0 vb d g (laid lie ((ws ++ [(from_ + a % 2, superU a b c e f)]).filter (spanB from_ n))) ((ws ++ [(from_ + a % 2, superU a b c e f)]).filter (keepB from_ n)) from_ n (if 0 < fuse then fuse - 1 - 1 else fuse) (steps + 1 + 1) false w' := by
  obtain ⟨v, k1, k2, k3⟩ := h
  have e1 : (if 0 < (if 0 < fuse then fuse - 1 else fuse) then (if 0 < fuse then fuse - 1 else fuse) - 1 else (if 0 < fuse then fuse - 1 else fuse)) = if 0 < fuse then fuse - 1 - 1 else fuse := by
    by_cases hp : 0 < fuse
    · rw [if_pos hp, if_pos hp, if_pos (by omega)]
    · rw [if_neg hp, if_neg hp, if_neg hp]
  refine (store_go 0 a b c e f (a % 2) (B (superU a b c e f)) k1 (place_nat a b c e f ha) (fun W => suEncode_any a b c e f W ha hb hc he hf)
    (fun W hW => vwrite_in (a % 2) _ hW (by omega) (sizeSuper a b c e f) hf0 h0 (by omega) h2 h3 (by omega))
    (fun W v1 hW => vflush_in hW (by split <;> omega) (by omega) (by omega) (by split <;> omega) (by split <;> omega) (by simp; omega))).mono ?_
  rintro x w' ⟨h1, h2⟩
  rw [e1] at h2
  exact ⟨h1, SV.turn k2 k3 h2⟩
end
theorem sv_load (s0 s1 : List UInt8) (h : SV w0 vb d g lie ws from_ n fuse steps false W) (hn : 2 ≤ n) (h0 : lie[from_ + 0]? = some s0) (h1 : lie[from_ + 1]? = some s1) (hw : ws.length ≤ 100000) (r : Option ByteArray) (hr : Picks (B (rd ws (from_ + 0) s0)) (B (rd ws (from_ + 1) s1)) r) (z0 : (rd ws (from_ + 0) s0).length = 64) (z1 : (rd ws (from_ + 1) s1).length = 64) :
    Calls Try.prog 30 #[.pointer (some ⟨vb, 0, none⟩)] W fun e w' => e = .returned (pickV r) ∧ Below W.heap.size W w' := by
  obtain ⟨v, k1, k2, k3⟩ := h
  have hp := fun W => suPick_any _ _ W (by rw [B_size]; omega) (by rw [B_size]; omega) r hr
  have r0 := fun W' (hb : Below W.heap.size W W') => vread_in 0 s0 (k1.below hb) (by omega) h0 hw
  have r1 := fun W' (hb : Below W.heap.size W W') => vread_in 1 s1 (k1.below hb) (by omega) h1 hw
  cases r with
  | none =>
    simp only [pickV] at hp ⊢
    exact load_in _ _ 0 0 0 0 0 22 _ W r0 r1 hp
  | some s =>
    simp only [pickV, u5] at hp ⊢
    exact load_in _ _ _ _ _ _ _ 0 _ W r0 r1 hp
theorem sv_load_dead (h : SV w0 vb d g lie ws from_ n fuse steps true W) (hn : 2 ≤ n) :
    Calls Try.prog 30 #[.pointer (some ⟨vb, 0, none⟩)] W fun e w' => e = .returned (.tuple #[.agg #[.int .u32 0, .int .u32 0, .int .u32 0, .int .u32 0, .int .u32 0], .int .i64 21]) ∧ Below W.heap.size W w' := by
  obtain ⟨v, k1, k2, k3⟩ := h
  have e : vwhy n true 0 = 21 := by unfold vwhy; rw [if_pos (by omega), if_pos rfl]
  refine load_no 21 (by decide) _ W (fun W' hb => ?_)
  have h := vread_no 0 (k1.below hb) (by rw [e]; decide)
  rw [e] at h
  exact h
end
theorem load_none (W : World) :
    Calls Try.prog 30 #[.pointer none] W fun e w' => e = .returned (.tuple #[.agg #[.int .u32 0, .int .u32 0, .int .u32 0, .int .u32 0, .int .u32 0], .int .i64 7]) ∧ Below W.heap.size W w' :=
  load_no 7 (by decide) none W (fun W' hb => (vread_nil 0 W').mono fun e w' h => ⟨h.1, h.2 ▸ Below.refl _ _⟩)
end Go.Proofs.Ytkmlmondhmpkkaa.W
end
