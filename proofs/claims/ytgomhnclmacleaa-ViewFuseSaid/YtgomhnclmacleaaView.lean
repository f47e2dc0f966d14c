/- Views: what they are, and the walks of their calls. -/
import Derived.Test.YtgomhnclmacleaaProg
import Derived.Test.YtgomhnclmacleaaFlush
import Derived.Test.YtgomhnclmacleaaPut
import Derived.Test.YtgomhnclmacleaaStops
import Derived.Test.YtgomhnclmacleaaTail
import Derived.Deep.RegionHeld3
namespace Go.Proofs.Ytgomhnclmacleaa.D
open Go.RowKit
open Go.Proofs.Ytgomhnclmacleaa.Z
set_option linter.unusedVariables false

/-- The view whose object is block vb, of a disk. -/
structure Vw (w : World) (vb d g : Nat) (v : Value) (lie : List (List UInt8)) (ws : List (Nat × List UInt8)) (from_ n : Nat) (fuse steps : Int) (gone : Bool) : Prop where
  obj : Whole w vb 119 [.pointer (some ⟨d, 0, none⟩), .int .i64 from_, .int .i64 n, .int .i64 fuse, .int .i64 steps, .bool gone]
  disk : Dk w d g v lie ws
  fits : from_ + n ≤ lie.length
section
variable {w : World} {vb d g : Nat} {v : Value} {lie : List (List UInt8)} {ws : List (Nat × List UInt8)} {from_ n : Nat} {fuse steps : Int} {gone : Bool}
theorem Vw.below {w' : World} (h : Vw w vb d g v lie ws from_ n fuse steps gone) (hb : Below w.heap.size w w') : Vw w' vb d g v lie ws from_ n fuse steps gone :=
  ⟨h.obj.below hb h.obj.lt, h.disk.below hb, h.fits⟩
theorem Vw.drewN (h : Vw w vb d g v lie ws from_ n fuse steps gone) (k : Nat) : Vw (w.drewN k) vb d g v lie ws from_ n fuse steps gone :=
  h.below ⟨rfl, rfl, rfl, Nat.le_refl _, fun _ _ => rfl⟩
theorem Vw.apart (h : Vw w vb d g v lie ws from_ n fuse steps gone) : ¬ mine d g v vb := by
  rintro (e | e | e)
  · exact h.obj.ne h.disk.obj (by decide) e
  · exact h.obj.ne h.disk.lying (by decide) e
  · rcases h.disk.form with ⟨rfl, _⟩ | ⟨k, cap, cur, rfl, hW, _⟩
    · cases e
    · have e2 : k = vb := by simpa [Value.ownBlock] using e
      exact (h.obj.ne hW (by decide)) e2.symm
theorem Vw.c0 (h : Vw w vb d g v lie ws from_ n fuse steps gone) : w.cell? ⟨vb, 0, none⟩ = some (.pointer (some ⟨d, 0, none⟩)) := h.obj.cell 0
theorem Vw.c1 (h : Vw w vb d g v lie ws from_ n fuse steps gone) : w.cell? ⟨vb, 1, none⟩ = some (.int .i64 from_) := h.obj.cell 1
theorem Vw.c2 (h : Vw w vb d g v lie ws from_ n fuse steps gone) : w.cell? ⟨vb, 2, none⟩ = some (.int .i64 n) := h.obj.cell 2
theorem Vw.c3 (h : Vw w vb d g v lie ws from_ n fuse steps gone) : w.cell? ⟨vb, 3, none⟩ = some (.int .i64 fuse) := h.obj.cell 3
theorem Vw.c4 (h : Vw w vb d g v lie ws from_ n fuse steps gone) : w.cell? ⟨vb, 4, none⟩ = some (.int .i64 steps) := h.obj.cell 4
theorem Vw.c5 (h : Vw w vb d g v lie ws from_ n fuse steps gone) : w.cell? ⟨vb, 5, none⟩ = some (.bool gone) := h.obj.cell 5
/-- What is done to the disk. -/
theorem Vw.turned {w' : World} {lie' : List (List UInt8)} {ws' : List (Nat × List UInt8)} (h : Vw w vb d g v lie ws from_ n fuse steps gone) (ht : Turned w d g v lie' ws' w') (hl : lie'.length = lie.length) :
    ∃ v', Vw w' vb d g v' lie' ws' from_ n fuse steps gone ∧ (∀ k, v'.ownBlock = some k → v.ownBlock = some k ∨ w.heap.size ≤ k) ∧ Kept (mine d g v) w w' := by
  obtain ⟨v', h1, h2, h3⟩ := ht
  exact ⟨v', ⟨h.obj.of_kept h3 h.apart, h1, by rw [hl]; exact h.fits⟩, h2, h3⟩

theorem vnew_in (w : World) (h : Dk w d g v lie ws) (hn : 1 ≤ n) (hf : from_ + n ≤ lie.length) :
    Calls Try.prog 28 #[.pointer (some ⟨d, 0, none⟩), .int .i64 from_, .int .i64 n] w fun e w' => e = .returned (.tuple #[.pointer (some ⟨w.heap.size, 0, none⟩), .int .i64 0]) ∧ Vw w' w.heap.size d g v lie ws from_ n (-1) 0 false ∧ Below w.heap.size w w' := by
  have hfw := h.few
  have hbel := allocBelow w (.cells #[.pointer (some ⟨d, 0, none⟩), .int .i64 from_, .int .i64 n, .int .i64 (-1), .int .i64 0, .bool false] 119)
  have hV : Hid (Vw (w.alloc (.cells #[.pointer (some ⟨d, 0, none⟩), .int .i64 from_, .int .i64 n, .int .i64 (-1), .int .i64 0, .bool false] 119)) w.heap.size d g v lie ws from_ n (-1) 0 false) :=
    Lib.hid ⟨Whole.new w 119 [.pointer (some ⟨d, 0, none⟩), .int .i64 from_, .int .i64 n, .int .i64 (-1), .int .i64 0, .bool false], h.below hbel, hf⟩
  replace h := Lib.hid h
  replace hbel := Lib.hid hbel
  obtain ⟨L, hL⟩ : ∃ L, Hid (lie.length = L) := ⟨_, Lib.hid rfl⟩
  rw [hL.out] at hf hfw
  have hsub : (n : Int) ≤ (L : Int) - (from_ : Int) := by omega
  go_enter Try.func28, Try.ntmps28
  go_wp2_with fail
  refine (size_any _ _ _ _ _ _ h.out).mono ?_
  rintro e w1 ⟨rfl, rfl⟩
  rw [hL.out]
  go_wp2_with fail
  go_ret2
  exact ⟨rfl, hV.out, hbel.out⟩
theorem vnew_nil (a b : Int) (w : World) :
    Calls Try.prog 28 #[.pointer none, .int .i64 a, .int .i64 b] w fun e w' => e = .returned (.tuple #[.pointer none, .int .i64 7]) ∧ w = w' := by
  go_enter Try.func28, Try.ntmps28
  go_wp2
  go_ret2
  exact ⟨rfl, rfl⟩
end
end Go.Proofs.Ytgomhnclmacleaa.D
