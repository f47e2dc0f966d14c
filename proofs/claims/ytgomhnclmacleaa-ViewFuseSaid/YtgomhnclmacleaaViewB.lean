/- The walks of a view's calls. -/
import Derived.Test.YtgomhnclmacleaaProg
import Derived.Test.YtgomhnclmacleaaView
namespace Go.Proofs.Ytgomhnclmacleaa.D
open Go.RowKit
open Go.Proofs.Ytgomhnclmacleaa.Z
set_option linter.unusedVariables false

section
variable {w : World} {vb d g : Nat} {v : Value} {lie : List (List UInt8)} {ws : List (Nat × List UInt8)} {from_ n : Nat} {fuse steps : Int} {gone : Bool}
theorem Dk.farOne {w' : World} {b : Nat} (h : Dk w d g v lie ws) (hb : ¬ mine d g v b) (k : Kept (fun q => q = b) w w') : Dk w' d g v lie ws :=
  ⟨h.obj.of_kept k (fun e => hb (.inl e.symm)), h.lying.of_kept k (fun e => hb (.inr (.inl e.symm))), own_of_kept h.wait k (fun q hq e => hb (.inr (.inr (by rw [hq, e])))), h.lie64, h.ws64, h.some_, h.few, h.within⟩
/-- Cells of the view itself that are stored. -/
theorem Vw.stored (h : Vw w vb d g v lie ws from_ n fuse steps gone) (o : Nat) (vs : List Value) (fuse' steps' : Int) (gone' : Bool) (hl : o + vs.length ≤ 6)
    (e : splice [.pointer (some ⟨d, 0, none⟩), .int .i64 from_, .int .i64 n, .int .i64 fuse, .int .i64 steps, .bool gone] o vs = [.pointer (some ⟨d, 0, none⟩), .int .i64 from_, .int .i64 n, .int .i64 fuse', .int .i64 steps', .bool gone']) :
    Vw (w.setCells vb o vs) vb d g v lie ws from_ n fuse' steps' gone' ∧ Kept (fun q => q = vb) w (w.setCells vb o vs) := by
  have hk : Kept (fun q => q = vb) w (w.setCells vb o vs) := (Kept.refl (fun q => q = vb) w).setCells (c := vb) (.inl rfl) o vs
  refine ⟨⟨?_, h.disk.farOne h.apart hk, h.fits⟩, hk⟩
  have := h.obj.store o vs (by simpa using hl)
  rw [e] at this
  exact this

theorem step_no (h : Vw w vb d g v lie ws from_ n fuse steps gone) (hno : gone = true ∨ fuse = 0) :
    Calls Try.prog 69 #[.pointer (some ⟨vb, 3, none⟩)] w fun e w' => e = .returned (.int .i64 21) ∧ Vw w' vb d g v lie ws from_ n fuse steps true ∧ Kept (fun q => q = vb) w w' := by
  have c3 := h.c3
  have c5 := h.c5
  have f5 := h.obj.frozen 5
  by_cases h0 : fuse = 0
  · have hb : (fuse == 0) = true := by simp [h0]
    obtain ⟨hs, hk⟩ := h.stored 5 [.bool true] fuse steps true (by simp) rfl
    replace hs := Lib.hid hs
    replace hk := Lib.hid hk
    replace h0 := Lib.hid h0
    clear h
    go_enter Try.func69, Try.ntmps69
    go_wp2_with fail
    go_ret
    exact ⟨rfl, hs.out, hk.out⟩
  · have hb : (fuse == 0) = false := by simp [h0]
    obtain rfl : gone = true := by rcases hno with e | e; exact e; exact absurd e h0
    replace h := Lib.hid h
    replace h0 := Lib.hid h0
    go_enter Try.func69, Try.ntmps69
    go_wp2_with fail
    go_ret
    exact ⟨rfl, h.out, Kept.refl _ _⟩
theorem step_yes (h : Vw w vb d g v lie ws from_ n fuse steps false) (hf : fuse ≠ 0) (h0 : 0 ≤ steps) (h1 : steps < 1000000) (h2 : -9223372036854775808 ≤ fuse) (h3 : fuse ≤ 9223372036854775807) :
    Calls Try.prog 69 #[.pointer (some ⟨vb, 3, none⟩)] w fun e w' => e = .returned (.int .i64 0) ∧ Vw w' vb d g v lie ws from_ n (if 0 < fuse then fuse - 1 else fuse) (steps + 1) false ∧ Kept (fun q => q = vb) w w' := by
  have c3 := h.c3
  have c4 := h.c4
  have c5 := h.c5
  have f3 := h.obj.frozen 3
  have f4 := h.obj.frozen 4
  have hb : (fuse == 0) = false := by simp [hf]
  by_cases hp : 0 < fuse
  · rw [if_pos hp]
    obtain ⟨hs, hk⟩ := h.stored 3 [.int .i64 (fuse - 1), .int .i64 (steps + 1)] (fuse - 1) (steps + 1) false (by simp) rfl
    replace hs := Lib.hid hs
    replace hk := Lib.hid hk
    replace hf := Lib.hid hf
    clear h
    go_enter Try.func69, Try.ntmps69
    go_wp2_with fail
    go_ret
    exact ⟨rfl, hs.out, hk.out⟩
  · rw [if_neg hp]
    have hneg : fuse < 0 := by omega
    obtain ⟨hs, hk⟩ := h.stored 4 [.int .i64 (steps + 1)] fuse (steps + 1) false (by simp) rfl
    replace hs := Lib.hid hs
    replace hk := Lib.hid hk
    replace hf := Lib.hid hf
    clear h hp
    go_enter Try.func69, Try.ntmps69
    go_wp2_with fail
    go_ret
    exact ⟨rfl, hs.out, hk.out⟩
theorem vfuse_any (k : Int) (h : Vw w vb d g v lie ws from_ n fuse steps false) :
    Calls Try.prog 29 #[.pointer (some ⟨vb, 0, none⟩), .int .i64 k] w fun e w' => e = .returned (.tuple #[]) ∧ Vw w' vb d g v lie ws from_ n k steps false ∧ Kept (fun q => q = vb) w w' := by
  have c3 := h.c3
  have c5 := h.c5
  have f3 := h.obj.frozen 3
  obtain ⟨hs, hk⟩ := h.stored 3 [.int .i64 k] k steps false (by simp) rfl
  replace hs := Lib.hid hs
  replace hk := Lib.hid hk
  clear h
  go_enter Try.func29, Try.ntmps29
  go_wp2_with fail
  go_end0
  exact ⟨rfl, hs.out, hk.out⟩
theorem vfuse_nil (k : Int) (w : World) :
    Calls Try.prog 29 #[.pointer none, .int .i64 k] w fun e w' => e = .returned (.tuple #[]) ∧ w = w' := by
  go_enter Try.func29, Try.ntmps29
  go_wp2_with fail
  exact bodyPost_ret (v := .tuple #[]) (by simp [results, Try.results29, go_sem]) rfl ⟨rfl, rfl⟩
theorem vsteps_any (h : Vw w vb d g v lie ws from_ n fuse steps gone) :
    Calls Try.prog 31 #[.pointer (some ⟨vb, 0, none⟩)] w fun e w' => e = .returned (.int .i64 steps) ∧ w = w' := by
  have c4 := h.c4
  clear h
  go_enter Try.func31, Try.ntmps31
  go_wp2_with fail
  go_ret
  exact ⟨rfl, rfl⟩
theorem vsteps_nil (w : World) : Calls Try.prog 31 #[.pointer none] w fun e w' => e = .returned (.int .i64 0) ∧ w = w' := by
  go_enter Try.func31, Try.ntmps31
  go_wp2_with fail
  go_ret
  exact ⟨rfl, rfl⟩
theorem vsize_any (h : Vw w vb d g v lie ws from_ n fuse steps gone) :
    Calls Try.prog 38 #[.pointer (some ⟨vb, 0, none⟩)] w fun e w' => e = .returned (.int .i64 (n : Int)) ∧ w = w' := by
  have c2 := h.c2
  clear h
  go_enter Try.func38, Try.ntmps38
  go_wp2_with fail
  go_ret
  exact ⟨rfl, rfl⟩
theorem vsize_nil (w : World) : Calls Try.prog 38 #[.pointer none] w fun e w' => e = .returned (.int .i64 0) ∧ w = w' := by
  go_enter Try.func38, Try.ntmps38
  go_wp2_with fail
  go_ret
  exact ⟨rfl, rfl⟩
theorem vdead_any (h : Vw w vb d g v lie ws from_ n fuse steps gone) :
    Calls Try.prog 32 #[.pointer (some ⟨vb, 0, none⟩)] w fun e w' => e = .returned (.bool gone) ∧ w = w' := by
  have c5 := h.c5
  clear h
  go_enter Try.func32, Try.ntmps32
  go_wp2_with fail
  go_ret
  exact ⟨rfl, rfl⟩
theorem vdead_nil (w : World) : Calls Try.prog 32 #[.pointer none] w fun e w' => e = .returned (.bool false) ∧ w = w' := by
  go_enter Try.func32, Try.ntmps32
  go_wp2_with fail
  go_ret
  exact ⟨rfl, rfl⟩
end
end Go.Proofs.Ytgomhnclmacleaa.D
