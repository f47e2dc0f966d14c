/- Views: what they are, and the walks of their calls. The walks of a view's calls. The walks of a view's Write, Flush, Waiting, and of the calls of none. The walks of a view's Write and Flush that are done, and of its Waiting. The walks of a view's Read and Crash. A view of a law's own making; what a view's calls leave of it, and of what is not its own. -/
import Derived.Test.YtgogackkeodciabGreatDoorProg
import Derived.Test.YtgogackkeodciabGreatDoorCrash
import Derived.Test.YtgogackkeodciabGreatDoorPut
import Derived.Test.YtgogackkeodciabGreatDoorStops
import Derived.Test.YtgogackkeodciabGreatDoorTail
import Derived.Deep.RegionHeld3
import Derived.Test.YtgogackkeodciabGreatDoorWorld
section
section
namespace Go.Proofs.YtgogackkeodciabGreatDoor.D
open Go.RowKit
open Go.Proofs.YtgogackkeodciabGreatDoor.Z
set_option linter.unusedVariables false

/-- The view whose object is block vb, of a disk. -/
structure Vw (w : World) (vb d g : Nat) (v : Value) (lie : List (List UInt8)) (ws : List (Nat × List UInt8)) (from_ n : Nat) (fuse steps : Int) (gone : Bool) : Prop where
  obj : Whole w vb 101 [.pointer (some ⟨d, 0, none⟩), .int .i64 from_, .int .i64 n, .int .i64 fuse, .int .i64 steps, .bool gone]
  disk : Dk w d g v lie ws
  fits : from_ + n ≤ lie.length
section
variable {w : World} {vb d g : Nat} {v : Value} {lie : List (List UInt8)} {ws : List (Nat × List UInt8)} {from_ n : Nat} {fuse steps : Int} {gone : Bool}
theorem Vw.below {w' : World} (h : Vw w vb d g v lie ws from_ n fuse steps gone) (hb : Below w.heap.size w w') : Vw w' vb d g v lie ws from_ n fuse steps gone :=
  ⟨h.obj.below hb h.obj.lt, h.disk.below hb, h.fits⟩
theorem Vw.drewN (h : Vw w vb d g v lie ws from_ n fuse steps gone) (k : Nat) : Vw (w.drewN k) vb d g v lie ws from_ n fuse steps gone :=
  h.below ⟨rfl, rfl, rfl, Nat.le_refl _, fun _ _ => rfl⟩
theorem Vw.apart (h : Vw w vb d g v lie ws from_ n fuse steps gone) : ¬ mine d g v vb := by
  rintro (e | e | e)
  · exact h.obj.ne h.disk.obj (by decide) e
  · exact h.obj.ne h.disk.lying (by decide) e
  · rcases h.disk.form with ⟨rfl, _⟩ | ⟨k, cap, cur, rfl, hW, _⟩
    · cases e
    · have e2 : k = vb := by simpa [Value.ownBlock] using e
      exact (h.obj.ne hW (by decide)) e2.symm
theorem Vw.c0 (h : Vw w vb d g v lie ws from_ n fuse steps gone) : w.cell? ⟨vb, 0, none⟩ = some (.pointer (some ⟨d, 0, none⟩)) := h.obj.cell 0
theorem Vw.c1 (h : Vw w vb d g v lie ws from_ n fuse steps gone) : w.cell? ⟨vb, 1, none⟩ = some (.int .i64 from_) := h.obj.cell 1
theorem Vw.c2 (h : Vw w vb d g v lie ws from_ n fuse steps gone) : w.cell? ⟨vb, 2, none⟩ = some (.int .i64 n) := h.obj.cell 2
theorem Vw.c3 (h : Vw w vb d g v lie ws from_ n fuse steps gone) : w.cell? ⟨vb, 3, none⟩ = some (.int .i64 fuse) := h.obj.cell 3
theorem Vw.c4 (h : Vw w vb d g v lie ws from_ n fuse steps gone) : w.cell? ⟨vb, 4, none⟩ = some (.int .i64 steps) := h.obj.cell 4
theorem Vw.c5 (h : Vw w vb d g v lie ws from_ n fuse steps gone) : w.cell? ⟨vb, 5, none⟩ = some (.bool gone) := h.obj.cell 5
/-- What is done to the disk. -/
theorem Vw.turned {w' : World} {lie' : List (List UInt8)} {ws' : List (Nat × List UInt8)} (h : Vw w vb d g v lie ws from_ n fuse steps gone) (ht : Turned w d g v lie' ws' w') (hl : lie'.length = lie.length) :
    ∃ v', Vw w' vb d g v' lie' ws' from_ n fuse steps gone ∧ (∀ k, v'.ownBlock = some k → v.ownBlock = some k ∨ w.heap.size ≤ k) ∧ Kept (mine d g v) w w' := by
  obtain ⟨v', h1, h2, h3⟩ := ht
  exact ⟨v', ⟨h.obj.of_kept h3 h.apart, h1, by rw [hl]; exact h.fits⟩, h2, h3⟩

theorem vnew_in (w : World) (h : Dk w d g v lie ws) (hn : 1 ≤ n) (hf : from_ + n ≤ lie.length) :
    Calls Tryz.prog 36 #[.pointer (some ⟨d, 0, none⟩), .int .i64 from_, .int .i64 n] w fun e w' => e = .returned (.tuple #[.pointer (some ⟨w.heap.size, 0, none⟩), .int .i64 0]) ∧ Vw w' w.heap.size d g v lie ws from_ n (-1) 0 false ∧ Below w.heap.size w w' := by
  have hfw := h.few
  have hbel := allocBelow w (.cells #[.pointer (some ⟨d, 0, none⟩), .int .i64 from_, .int .i64 n, .int .i64 (-1), .int .i64 0, .bool false] 101)
  have hV : Hid (Vw (w.alloc (.cells #[.pointer (some ⟨d, 0, none⟩), .int .i64 from_, .int .i64 n, .int .i64 (-1), .int .i64 0, .bool false] 101)) w.heap.size d g v lie ws from_ n (-1) 0 false) :=
    Lib.hid ⟨Whole.new w 101 [.pointer (some ⟨d, 0, none⟩), .int .i64 from_, .int .i64 n, .int .i64 (-1), .int .i64 0, .bool false], h.below hbel, hf⟩
  replace h := Lib.hid h
  replace hbel := Lib.hid hbel
  obtain ⟨L, hL⟩ : ∃ L, Hid (lie.length = L) := ⟨_, Lib.hid rfl⟩
  rw [hL.out] at hf hfw
  have hsub : (n : Int) ≤ (L : Int) - (from_ : Int) := by omega
  go_enter Tryz.func36, Tryz.ntmps36
  go_wp2_with fail
  refine (size_any _ _ _ _ _ _ h.out).mono ?_
  rintro e w1 ⟨rfl, rfl⟩
  rw [hL.out]
  go_wp2_with fail
  go_ret2
  exact ⟨rfl, hV.out, hbel.out⟩
theorem vnew_nil (a b : Int) (w : World) :
    Calls Tryz.prog 36 #[.pointer none, .int .i64 a, .int .i64 b] w fun e w' => e = .returned (.tuple #[.pointer none, .int .i64 7]) ∧ w = w' := by
  go_enter Tryz.func36, Tryz.ntmps36
  go_wp2
  go_ret2
  exact ⟨rfl, rfl⟩
end
end Go.Proofs.YtgogackkeodciabGreatDoor.D
end
section
namespace Go.Proofs.YtgogackkeodciabGreatDoor.D
open Go.RowKit
open Go.Proofs.YtgogackkeodciabGreatDoor.Z
set_option linter.unusedVariables false

section
variable {w : World} {vb d g : Nat} {v : Value} {lie : List (List UInt8)} {ws : List (Nat × List UInt8)} {from_ n : Nat} {fuse steps : Int} {gone : Bool}
theorem Dk.farOne {w' : World} {b : Nat} (h : Dk w d g v lie ws) (hb : ¬ mine d g v b) (k : Kept (fun q => q = b) w w') : Dk w' d g v lie ws :=
  ⟨h.obj.of_kept k (fun e => hb (.inl e.symm)), h.lying.of_kept k (fun e => hb (.inr (.inl e.symm))), own_of_kept h.wait k (fun q hq e => hb (.inr (.inr (by rw [hq, e])))), h.lie64, h.ws64, h.some_, h.few, h.within⟩
/-- Cells of the view itself that are stored. -/
theorem Vw.stored (h : Vw w vb d g v lie ws from_ n fuse steps gone) (o : Nat) (vs : List Value) (fuse' steps' : Int) (gone' : Bool) (hl : o + vs.length ≤ 6)
    (e : splice [.pointer (some ⟨d, 0, none⟩), .int .i64 from_, .int .i64 n, .int .i64 fuse, .int .i64 steps, .bool gone] o vs = [.pointer (some ⟨d, 0, none⟩), .int .i64 from_, .int .i64 n, .int .i64 fuse', .int .i64 steps', .bool gone']) :
    Vw (w.setCells vb o vs) vb d g v lie ws from_ n fuse' steps' gone' ∧ Kept (fun q => q = vb) w (w.setCells vb o vs) := by
  have hk : Kept (fun q => q = vb) w (w.setCells vb o vs) := (Kept.refl (fun q => q = vb) w).setCells (c := vb) (.inl rfl) o vs
  refine ⟨⟨?_, h.disk.farOne h.apart hk, h.fits⟩, hk⟩
  have := h.obj.store o vs (by simpa using hl)
  rw [e] at this
  exact this

theorem step_no (h : Vw w vb d g v lie ws from_ n fuse steps gone) (hno : gone = true ∨ fuse = 0) :
    Calls Tryz.prog 109 #[.pointer (some ⟨vb, 3, none⟩)] w fun e w' => e = .returned (.int .i64 21) ∧ Vw w' vb d g v lie ws from_ n fuse steps true ∧ Kept (fun q => q = vb) w w' := by
  have c3 := h.c3
  have c5 := h.c5
  have f5 := h.obj.frozen 5
  by_cases h0 : fuse = 0
  · have hb : (fuse == 0) = true := by simp [h0]
    obtain ⟨hs, hk⟩ := h.stored 5 [.bool true] fuse steps true (by simp) rfl
    replace hs := Lib.hid hs
    replace hk := Lib.hid hk
    replace h0 := Lib.hid h0
    clear h
    go_enter Tryz.func109, Tryz.ntmps109
    go_wp2_with fail
    go_ret
    exact ⟨rfl, hs.out, hk.out⟩
  · have hb : (fuse == 0) = false := by simp [h0]
    obtain rfl : gone = true := by rcases hno with e | e; exact e; exact absurd e h0
    replace h := Lib.hid h
    replace h0 := Lib.hid h0
    go_enter Tryz.func109, Tryz.ntmps109
    go_wp2_with fail
    go_ret
    exact ⟨rfl, h.out, Kept.refl _ _⟩
theorem step_yes (h : Vw w vb d g v lie ws from_ n fuse steps false) (hf : fuse ≠ 0) (h0 : 0 ≤ steps) (h1 : steps < 1000000) (h2 : -9223372036854775808 ≤ fuse) (h3 : fuse ≤ 9223372036854775807) :
    Calls Tryz.prog 109 #[.pointer (some ⟨vb, 3, none⟩)] w fun e w' => e = .returned (.int .i64 0) ∧ Vw w' vb d g v lie ws from_ n (if 0 < fuse then fuse - 1 else fuse) (steps + 1) false ∧ Kept (fun q => q = vb) w w' := by
  have c3 := h.c3
  have c4 := h.c4
  have c5 := h.c5
  have f3 := h.obj.frozen 3
  have f4 := h.obj.frozen 4
  have hb : (fuse == 0) = false := by simp [hf]
  by_cases hp : 0 < fuse
  · rw [if_pos hp]
    obtain ⟨hs, hk⟩ := h.stored 3 [.int .i64 (fuse - 1), .int .i64 (steps + 1)] (fuse - 1) (steps + 1) false (by simp) rfl
    replace hs := Lib.hid hs
    replace hk := Lib.hid hk
    replace hf := Lib.hid hf
    clear h
    go_enter Tryz.func109, Tryz.ntmps109
    go_wp2_with fail
    go_ret
    exact ⟨rfl, hs.out, hk.out⟩
  · rw [if_neg hp]
    have hneg : fuse < 0 := by omega
    obtain ⟨hs, hk⟩ := h.stored 4 [.int .i64 (steps + 1)] fuse (steps + 1) false (by simp) rfl
    replace hs := Lib.hid hs
    replace hk := Lib.hid hk
    replace hf := Lib.hid hf
    clear h hp
    go_enter Tryz.func109, Tryz.ntmps109
    go_wp2_with fail
    go_ret
    exact ⟨rfl, hs.out, hk.out⟩
theorem vsize_any (h : Vw w vb d g v lie ws from_ n fuse steps gone) :
    Calls Tryz.prog 107 #[.pointer (some ⟨vb, 0, none⟩)] w fun e w' => e = .returned (.int .i64 (n : Int)) ∧ w = w' := by
  have c2 := h.c2
  clear h
  go_enter Tryz.func107, Tryz.ntmps107
  go_wp2_with fail
  go_ret
  exact ⟨rfl, rfl⟩
theorem vsize_nil (w : World) : Calls Tryz.prog 107 #[.pointer none] w fun e w' => e = .returned (.int .i64 0) ∧ w = w' := by
  go_enter Tryz.func107, Tryz.ntmps107
  go_wp2_with fail
  go_ret
  exact ⟨rfl, rfl⟩
end
end Go.Proofs.YtgogackkeodciabGreatDoor.D
end
section
namespace Go.Proofs.YtgogackkeodciabGreatDoor.D
open Go.RowKit
open Go.Proofs.YtgogackkeodciabGreatDoor.Z
set_option linter.unusedVariables false

theorem ret_b7 {a b : Bool} (h : a = b) : Ending.returned (.bool a) = .returned (.bool b) := by rw [h]
theorem vhas_any (a : Int) (f m : Int) (w : World) :
    Calls Tryz.prog 120 #[.agg #[.int .i64 f, .int .i64 m], .int .i64 a] w fun e w' => e = .returned (.bool (decide (0 ≤ a) && decide (a < m))) ∧ Below w.heap.size w w' := by
  by_cases h : 0 ≤ a
  · by_cases h2 : a < m
    · go_enter Tryz.func120, Tryz.ntmps120
      go_wp2
      go_ret
      exact ⟨ret_b7 (by rw [Bool.eq_iff_iff]; simp; omega), (Below.refl _ _).alloc (Nat.le_refl _) _⟩
    · go_enter Tryz.func120, Tryz.ntmps120
      go_wp2
      go_ret
      exact ⟨ret_b7 (by rw [Bool.eq_iff_iff]; simp; omega), (Below.refl _ _).alloc (Nat.le_refl _) _⟩
  · go_enter Tryz.func120, Tryz.ntmps120
    go_wp2
    go_ret
    exact ⟨ret_b7 (by rw [Bool.eq_iff_iff]; simp; omega), (Below.refl _ _).alloc (Nat.le_refl _) _⟩
section
variable {w : World} {vb d g : Nat} {v : Value} {lie : List (List UInt8)} {ws : List (Nat × List UInt8)} {from_ n : Nat} {fuse steps : Int} {gone : Bool}
theorem vsector_any (a : Int) (h : Vw w vb d g v lie ws from_ n fuse steps gone) :
    Calls Tryz.prog 108 #[.pointer (some ⟨vb, 0, none⟩), .int .i64 a] w fun e w' => e = .returned (.int .i64 (if 0 ≤ a ∧ a < n then 0 else 20)) ∧ Below w.heap.size w w' := by
  have c1 := h.c1
  have c2 := h.c2
  clear h
  by_cases hin : 0 ≤ a ∧ a < n
  · rw [if_pos hin]
    have hb := Lib.hid (show (decide (0 ≤ a) && decide (a < (n : Int))) = true from by simp [hin.1, hin.2])
    clear hin
    go_enter Tryz.func108, Tryz.ntmps108
    go_wp2_with fail
    refine (vhas_any a _ _ _).mono ?_
    rintro e w1 ⟨rfl, hb1⟩
    rw [hb.out]
    go_wp2_with fail
    go_ret
    exact ⟨rfl, hb1⟩
  · rw [if_neg hin]
    have hb := Lib.hid (show (decide (0 ≤ a) && decide (a < (n : Int))) = false from by
      rw [Bool.and_eq_false_iff]
      by_cases h : 0 ≤ a
      · exact .inr (decide_eq_false (fun e => hin ⟨h, e⟩))
      · exact .inl (decide_eq_false h))
    clear hin
    go_enter Tryz.func108, Tryz.ntmps108
    go_wp2_with fail
    refine (vhas_any a _ _ _).mono ?_
    rintro e w1 ⟨rfl, hb1⟩
    rw [hb.out]
    go_wp2_with fail
    go_ret
    exact ⟨rfl, hb1⟩
theorem vsector_nil (a : Int) (w : World) : Calls Tryz.prog 108 #[.pointer none, .int .i64 a] w fun e w' => e = .returned (.int .i64 7) ∧ w = w' := by
  go_enter Tryz.func108, Tryz.ntmps108
  go_wp2_with fail
  go_ret
  exact ⟨rfl, rfl⟩
theorem vwrite_nil (a : Int) (s : ByteArray) (w : World) : Calls Tryz.prog 94 #[.pointer none, .int .i64 a, .string s] w fun e w' => e = .returned (.int .i64 7) ∧ w = w' := by
  go_enter Tryz.func94, Tryz.ntmps94
  go_wp2_with fail
  refine (vsector_nil a _).mono ?_
  rintro e w1 ⟨rfl, rfl⟩
  go_wp2_with fail
  go_ret
  exact ⟨rfl, rfl⟩
theorem vwrite_out (a : Int) (s : ByteArray) (h : Vw w vb d g v lie ws from_ n fuse steps gone) (ha : ¬ (0 ≤ a ∧ a < n)) :
    Calls Tryz.prog 94 #[.pointer (some ⟨vb, 0, none⟩), .int .i64 a, .string s] w fun e w' => e = .returned (.int .i64 20) ∧ Below w.heap.size w w' := by
  have hs := vsector_any a h
  rw [if_neg ha] at hs
  replace hs := Lib.hid hs
  clear ha h
  go_enter Tryz.func94, Tryz.ntmps94
  go_wp2_with fail
  refine hs.out.mono ?_
  rintro e w1 ⟨rfl, hb1⟩
  go_wp2_with fail
  go_ret
  exact ⟨rfl, hb1⟩
theorem vwrite_arg (a : Int) (s : ByteArray) (h : Vw w vb d g v lie ws from_ n fuse steps gone) (ha : 0 ≤ a ∧ a < n) (hz : s.size < 64) :
    Calls Tryz.prog 94 #[.pointer (some ⟨vb, 0, none⟩), .int .i64 a, .string s] w fun e w' => e = .returned (.int .i64 1) ∧ Below w.heap.size w w' := by
  have hs := vsector_any a h
  rw [if_pos ha] at hs
  replace hs := Lib.hid hs
  have hne : ((s.size : Int) != 64) = true := by simp; omega
  clear ha h
  go_enter Tryz.func94, Tryz.ntmps94
  go_wp2_with fail
  refine hs.out.mono ?_
  rintro e w1 ⟨rfl, hb1⟩
  go_wp2_with fail
  go_ret
  exact ⟨rfl, hb1⟩
/-- What a refused step leaves. -/
def Still (w : World) (vb d g : Nat) (v : Value) (lie : List (List UInt8)) (ws : List (Nat × List UInt8)) (from_ n : Nat) (fuse steps : Int) (w' : World) : Prop :=
  Vw w' vb d g v lie ws from_ n fuse steps true ∧ Kept (fun q => q = vb) w w'
theorem vwrite_power (a : Int) (s : ByteArray) (h : Vw w vb d g v lie ws from_ n fuse steps gone) (ha : 0 ≤ a ∧ a < n) (hz : s.size = 64) (hno : gone = true ∨ fuse = 0) :
    Calls Tryz.prog 94 #[.pointer (some ⟨vb, 0, none⟩), .int .i64 a, .string s] w fun e w' => e = .returned (.int .i64 21) ∧ Still w vb d g v lie ws from_ n fuse steps w' := by
  have hs := vsector_any a h
  rw [if_pos ha] at hs
  replace hs := Lib.hid hs
  have hne : ((s.size : Int) != 64) = false := by simp [hz]
  clear ha
  replace h := Lib.hid h
  replace hno := Lib.hid hno
  replace hz := Lib.hid hz
  go_enter Tryz.func94, Tryz.ntmps94
  go_wp2_with fail
  refine hs.out.mono ?_
  rintro e w1 ⟨rfl, hb1⟩
  have h1 := h.out.below hb1
  have g1 : Kept (fun q => q = vb) w w1 := Kept.of_below hb1
  have hnn : ((vb : Nat) : Int) = vb := rfl
  go_wp2_with fail
  refine (step_no h1 hno.out).mono ?_
  rintro e w2 ⟨rfl, h2, hk2⟩
  go_wp2_with fail
  go_ret
  exact ⟨rfl, h2, g1.trans hk2⟩
end
end Go.Proofs.YtgogackkeodciabGreatDoor.D
end
section
namespace Go.Proofs.YtgogackkeodciabGreatDoor.D
open Go.RowKit
open Go.Proofs.YtgogackkeodciabGreatDoor.Z
set_option linter.unusedVariables false

section
variable {w : World} {vb d g : Nat} {v : Value} {lie : List (List UInt8)} {ws : List (Nat × List UInt8)} {from_ n : Nat} {fuse steps : Int} {gone : Bool}
/-- What a call makes of a view. -/
def VTurned (w : World) (vb d g : Nat) (v : Value) (lie : List (List UInt8)) (ws : List (Nat × List UInt8)) (from_ n : Nat) (fuse steps : Int) (gone : Bool) (w' : World) : Prop :=
  ∃ v', Vw w' vb d g v' lie ws from_ n fuse steps gone ∧ (∀ k, v'.ownBlock = some k → v.ownBlock = some k ∨ w.heap.size ≤ k) ∧ Kept (fun k => k = vb ∨ mine d g v k) w w'
theorem below_undrew' {p : Nat → Prop} {W w2 : World} (h : Kept p W.drew w2) : Kept p W w2 := ⟨h.os, h.tape, h.output, h.size, h.block⟩

set_option maxHeartbeats 2000000 in
set_option maxRecDepth 100000 in
theorem vwrite_in (a : Nat) (s : ByteArray) (h : Vw w vb d g v lie ws from_ n fuse steps false) (ha : a < n) (hz : s.size = 64) (hf : fuse ≠ 0) (h0 : 0 ≤ steps) (h1 : steps < 1000000) (h2 : -9223372036854775808 ≤ fuse) (h3 : fuse ≤ 9223372036854775807) (hw : ws.length ≤ 100000) :
    Calls Tryz.prog 94 #[.pointer (some ⟨vb, 0, none⟩), .int .i64 a, .string s] w fun e w' => e = .returned (.int .i64 0) ∧ VTurned w vb d g v lie (ws ++ [(from_ + a, s.data.toList)]) from_ n (if 0 < fuse then fuse - 1 else fuse) (steps + 1) false w' := by
  have hs := vsector_any (a : Int) h
  rw [if_pos (by omega)] at hs
  replace hs := Lib.hid hs
  have hne : ((s.size : Int) != 64) = false := by simp [hz]
  have hfits := h.fits
  have hfew := h.disk.few
  obtain ⟨p, hp⟩ : ∃ p : Nat, Hid (from_ + a = p) := ⟨_, Lib.hid rfl⟩
  have hpI : (from_ : Int) + (a : Int) = (p : Int) := by have := hp.out; omega
  have hpw : IntKind.i64.wrap (p : Int) = (p : Int) := IntWalk.i64_in _ (by have := hp.out; omega)
  rw [hp.out]
  have hpl : p < lie.length := by have := hp.out; omega
  obtain ⟨F, hF⟩ : ∃ F, Hid ((if 0 < fuse then fuse - 1 else fuse) = F) := ⟨_, Lib.hid rfl⟩
  have hst : Hid (∀ W, Vw W vb d g v lie ws from_ n fuse steps false → Calls Tryz.prog 109 #[.pointer (some ⟨vb, 3, none⟩)] W fun e w' => e = .returned (.int .i64 0) ∧ Vw w' vb d g v lie ws from_ n F (steps + 1) false ∧ Kept (fun q => q = vb) W w') := Lib.hid (fun W hW => by
    have := step_yes hW hf h0 h1 h2 h3
    rw [hF.out] at this
    exact this)
  rw [hF.out]
  have hwr : Hid (∀ W, Vw W vb d g v lie ws from_ n F (steps + 1) false → Calls Tryz.prog 110 #[.pointer (some ⟨d, 0, none⟩), .int .i64 p, .string s] W fun e w' => e = .returned (.int .i64 0) ∧ ∃ v', Vw w' vb d g v' lie (ws ++ [(p, s.data.toList)]) from_ n F (steps + 1) false ∧ (∀ k, v'.ownBlock = some k → v.ownBlock = some k ∨ W.heap.size ≤ k) ∧ Kept (mine d g v) W w') := Lib.hid (fun W hW => by
    refine (write_in d g v lie ws W p s hW.disk hpl hz hw).mono ?_
    rintro e w' ⟨rfl, ht⟩
    exact ⟨rfl, hW.turned ht rfl⟩)
  replace h := Lib.hid h
  clear hfits hfew hz hF h2 h3 hf
  go_enter Tryz.func94, Tryz.ntmps94
  go_wp2_with fail
  refine hs.out.mono ?_
  rintro e w1 ⟨rfl, hb1⟩
  have hv1 := h.out.below hb1
  have k1 : Hid (Kept (fun q => q = vb) w w1) := Lib.hid (Kept.of_below hb1)
  go_wp2_with fail
  refine (hst.out _ hv1).mono ?_
  rintro e w2 ⟨rfl, hv2, hk2⟩
  replace k1 := Lib.hid (k1.out.trans hk2)
  have c0 : w2.drew.cell? ⟨vb, 0, none⟩ = some (.pointer (some ⟨d, 0, none⟩)) := hv2.c0
  have c1 : w2.drew.cell? ⟨vb, 1, none⟩ = some (.int .i64 (from_ : Int)) := hv2.c1
  have hv3 : Hid (Vw w2.drew vb d g v lie ws from_ n F (steps + 1) false) := Lib.hid (hv2.drewN 1)
  have hsz := hb1.size
  have hsz2 := hk2.size
  clear hst hk2 hv2 hv1 hb1 hs
  go_wp2_with fail
  go_region_held3 (fun w' => w'.cell? ⟨vb, 0, none⟩ = some (.pointer (some ⟨d, 0, none⟩)) ∧ w'.cell? ⟨vb, 1, none⟩ = some (.int .i64 (from_ : Int))) (go_keep) (first
    | (go_at_call 110; (with_reducible refine (hwr.out _ hv3.out).mono ?_); rintro e w5 ⟨rfl, v', hv5, ho5, hk5⟩; have d0 := hv5.c0; have d1 := hv5.c1))
  have hfin : Hid (VTurned w vb d g v lie (ws ++ [(p, s.data.toList)]) from_ n F (steps + 1) false w5) := Lib.hid ⟨v', hv5, fun k hk => by
      rcases ho5 k hk with h | h
      · exact .inl h
      · exact .inr (Nat.le_trans hsz (Nat.le_trans hsz2 h)), (k1.out.mono (own' := fun k => k = vb ∨ mine d g v k) (fun k _ h => .inl h)).trans ((below_undrew' hk5).mono (own' := fun k => k = vb ∨ mine d g v k) (fun k _ h => .inr h))⟩
  clear hv5 ho5 hk5 d0 d1 c0 c1
  go_wp2_with fail
  go_ret
  exact ⟨rfl, hfin.out⟩
end
end Go.Proofs.YtgogackkeodciabGreatDoor.D
end
section
namespace Go.Proofs.YtgogackkeodciabGreatDoor.D
open Go.RowKit
open Go.Proofs.YtgogackkeodciabGreatDoor.Z
set_option linter.unusedVariables false

section
variable {w : World} {vb d g : Nat} {v : Value} {lie : List (List UInt8)} {ws : List (Nat × List UInt8)} {from_ n : Nat} {fuse steps : Int} {gone : Bool}
/-- What a view's Read tells of a sector's number. -/
def vwhy (n : Nat) (gone : Bool) (a : Int) : Int := if 0 ≤ a ∧ a < n then (if gone then 21 else 0) else 20
end
end Go.Proofs.YtgogackkeodciabGreatDoor.D
end
end
section
namespace Go.Proofs.YtgogackkeodciabGreatDoor.W
open Go.RowKit
open Go.Proofs.YtgogackkeodciabGreatDoor.D Go.Proofs.YtgogackkeodciabGreatDoor.Z
open Go.Proofs.YtgogackkeodciabGreatDoor.M (grew grewAlloc)
set_option linter.unusedVariables false

section
variable {w w' : World} {vb d g : Nat} {v : Value} {lie : List (List UInt8)} {ws : List (Nat × List UInt8)} {from_ n : Nat} {fuse steps : Int} {gone : Bool}
/-- A block of another type is none of a view's. -/
theorem off_view (h : Vw w vb d g v lie ws from_ n fuse steps gone) {b : Nat} {t : TypeId} {cs : List Value} (hb : Whole w b t cs) (h1 : t ≠ 101) (h2 : t ≠ 95) (h3 : t ≠ 161) (h4 : t ≠ 163) : ¬ (b = vb ∨ mine d g v b) := by
  rintro (e | e | e | e)
  · exact hb.ne h.obj h1 e
  · exact hb.ne h.disk.obj h2 e
  · exact hb.ne h.disk.lying h3 e
  · rcases h.disk.form with ⟨rfl, _⟩ | ⟨k, cap, cur, rfl, hW, _⟩
    · cases e
    · have e2 : k = b := by simpa [Value.ownBlock] using e
      exact hb.ne hW h4 e2.symm
theorem VTurned.pre {W : World} (hb : Below w.heap.size w W) (h : VTurned W vb d g v lie ws from_ n fuse steps gone w') : VTurned w vb d g v lie ws from_ n fuse steps gone w' := by
  obtain ⟨v', h1, h2, h3⟩ := h
  refine ⟨v', h1, fun k hk => ?_, (Kept.of_below hb).trans h3⟩
  rcases h2 k hk with e | e
  · exact .inl e
  · exact .inr (Nat.le_trans hb.size e)
theorem VTurned.post {W : World} (h : VTurned w vb d g v lie ws from_ n fuse steps gone W) (hb : Below W.heap.size W w') : VTurned w vb d g v lie ws from_ n fuse steps gone w' := by
  obtain ⟨v', h1, h2, h3⟩ := h
  exact ⟨v', h1.below hb, h2, h3.trans (Kept.of_below hb)⟩
/-- Two turns, one behind the other. -/
theorem turn_two {W : World} {v1 : Value} {lie2 : List (List UInt8)} {ws2 : List (Nat × List UInt8)} {fuse2 steps2 : Int} {gone2 : Bool}
    (h2 : ∀ k, v1.ownBlock = some k → v.ownBlock = some k ∨ w.heap.size ≤ k) (h3 : Kept (fun k => k = vb ∨ mine d g v k) w W)
    (k : VTurned W vb d g v1 lie2 ws2 from_ n fuse2 steps2 gone2 w') : VTurned w vb d g v lie2 ws2 from_ n fuse2 steps2 gone2 w' := by
  obtain ⟨v2, k1, k2, k3⟩ := k
  have hs := h3.size
  refine ⟨v2, k1, fun q hq => ?_, ⟨k3.os.trans h3.os, k3.tape.trans h3.tape, k3.output.trans h3.output, Nat.le_trans h3.size k3.size, fun q hq ho => ?_⟩⟩
  · rcases k2 q hq with e | e
    · exact h2 q e
    · exact .inr (by omega)
  · refine (k3.block q (by omega) ?_).trans (h3.block q hq ho)
    rintro (e | e | e | e)
    · exact ho (.inl e)
    · exact ho (.inr (.inl e))
    · exact ho (.inr (.inr (.inl e)))
    · rcases h2 q e with e2 | e2
      · exact ho (.inr (.inr (.inr e2)))
      · omega
theorem kept_whole {own : Nat → Prop} {b : Nat} {t : TypeId} {cs : List Value} (h : Whole w b t cs) (hk : Kept own w w') (ho : ¬ own b) : Whole w' b t cs := h.of_kept hk ho
/-- What Write does with a view whose power goes, or is gone. -/
theorem write_dead (p : Nat) (U : ByteArray) (h : Vw w vb d g v lie ws from_ n fuse steps gone) (hp : p < n) (hU : U.size = 64) (hno : gone = true ∨ fuse = 0) :
    Calls Tryz.prog 94 #[.pointer (some ⟨vb, 0, none⟩), .int .i64 p, .string U] w fun e w' => e = .returned (.int .i64 21) ∧ VTurned w vb d g v lie ws from_ n fuse steps true w' := by
  refine (vwrite_power (p : Int) U h ⟨by omega, by omega⟩ hU hno).mono ?_
  rintro e w1 ⟨rfl, h1, h2⟩
  exact ⟨rfl, v, h1, fun k hk => .inl hk, h2.mono fun k _ e => .inl e⟩
end
/-- The view of block vb, all of whose blocks were made since the world w0, which stands as it stood. -/
def SV (w0 : World) (vb d g : Nat) (lie : List (List UInt8)) (ws : List (Nat × List UInt8)) (from_ n : Nat) (fuse steps : Int) (gone : Bool) (W : World) : Prop :=
  ∃ v, Vw W vb d g v lie ws from_ n fuse steps gone ∧ (∀ k, (k = vb ∨ mine d g v k) → w0.heap.size ≤ k) ∧ Below w0.heap.size w0 W
section
variable {w0 W : World} {vb d g : Nat} {lie : List (List UInt8)} {ws : List (Nat × List UInt8)} {from_ n : Nat} {fuse steps : Int} {gone : Bool}
theorem SV.below {W' : World} (h : SV w0 vb d g lie ws from_ n fuse steps gone W) (hb : Below W.heap.size W W') : SV w0 vb d g lie ws from_ n fuse steps gone W' := by
  obtain ⟨v, h1, h2, h3⟩ := h
  exact ⟨v, h1.below hb, h2, grew h3 hb⟩
theorem SV.since (h : SV w0 vb d g lie ws from_ n fuse steps gone W) : Below w0.heap.size w0 W := by
  obtain ⟨v, h1, h2, h3⟩ := h
  exact h3
theorem SV.turn {v : Value} {lie2 : List (List UInt8)} {ws2 : List (Nat × List UInt8)} {fuse2 steps2 : Int} {gone2 : Bool} {W' : World} (h2 : ∀ k, (k = vb ∨ mine d g v k) → w0.heap.size ≤ k) (h3 : Below w0.heap.size w0 W) (ht : VTurned W vb d g v lie2 ws2 from_ n fuse2 steps2 gone2 W') :
    SV w0 vb d g lie2 ws2 from_ n fuse2 steps2 gone2 W' := by
  obtain ⟨v', k1, k2, k3⟩ := ht
  refine ⟨v', k1, ?_, h3.trans (k3.below h3.size (fun q hq => h2 q hq))⟩
  rintro k (e | e | e | e)
  · exact h2 k (.inl e)
  · exact h2 k (.inr (.inl e))
  · exact h2 k (.inr (.inr (.inl e)))
  · rcases k2 k e with e | e
    · exact h2 k (.inr (.inr (.inr e)))
    · exact Nat.le_trans h3.size e
theorem sv_new (N from_ n : Nat) (w0 w4 w5 : World) (hb : Below w0.heap.size w0 w4) (hv : Vw w5 w4.heap.size (w0.heap.size + 1) w0.heap.size (.slice none 0 0) lie ws from_ n (-1) 0 false) (hb5 : Below w4.heap.size w4 w5) :
    SV w0 w4.heap.size (w0.heap.size + 1) w0.heap.size lie ws from_ n (-1) 0 false w5 := by
  refine ⟨_, hv, ?_, grew hb hb5⟩
  rintro k (e | e | e | e)
  · rw [e]; exact hb.size
  · omega
  · omega
  · cases e
theorem sv_write (a : Nat) (s : ByteArray) (h : SV w0 vb d g lie ws from_ n fuse steps false W) (ha : a < n) (hz : s.size = 64) (hf : fuse ≠ 0) (h0 : 0 ≤ steps) (h1 : steps < 1000000) (h2 : -9223372036854775808 ≤ fuse) (h3 : fuse ≤ 9223372036854775807) (hw : ws.length ≤ 100000) :
    Calls Tryz.prog 94 #[.pointer (some ⟨vb, 0, none⟩), .int .i64 a, .string s] W fun e w' => e = .returned (.int .i64 0) ∧ SV w0 vb d g lie (ws ++ [(from_ + a, s.data.toList)]) from_ n (if 0 < fuse then fuse - 1 else fuse) (steps + 1) false w' := by
  obtain ⟨v, k1, k2, k3⟩ := h
  exact (vwrite_in a s k1 ha hz hf h0 h1 h2 h3 hw).mono fun e w' h => ⟨h.1, SV.turn k2 k3 h.2⟩
end
end Go.Proofs.YtgogackkeodciabGreatDoor.W
end
