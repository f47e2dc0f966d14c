/- The walks of a view's Write and Flush that are done, and of its Waiting. -/
import Derived.Test.YtgomhnclmacleaaProg
import Derived.Test.YtgomhnclmacleaaViewC
namespace Go.Proofs.Ytgomhnclmacleaa.D
open Go.RowKit
open Go.Proofs.Ytgomhnclmacleaa.Z
set_option linter.unusedVariables false

section
variable {w : World} {vb d g : Nat} {v : Value} {lie : List (List UInt8)} {ws : List (Nat × List UInt8)} {from_ n : Nat} {fuse steps : Int} {gone : Bool}
/-- What a call makes of a view. -/
def VTurned (w : World) (vb d g : Nat) (v : Value) (lie : List (List UInt8)) (ws : List (Nat × List UInt8)) (from_ n : Nat) (fuse steps : Int) (gone : Bool) (w' : World) : Prop :=
  ∃ v', Vw w' vb d g v' lie ws from_ n fuse steps gone ∧ (∀ k, v'.ownBlock = some k → v.ownBlock = some k ∨ w.heap.size ≤ k) ∧ Kept (fun k => k = vb ∨ mine d g v k) w w'
theorem below_undrew' {p : Nat → Prop} {W w2 : World} (h : Kept p W.drew w2) : Kept p W w2 := ⟨h.os, h.tape, h.output, h.size, h.block⟩

set_option maxHeartbeats 2000000 in
set_option maxRecDepth 100000 in
theorem vwrite_in (a : Nat) (s : ByteArray) (h : Vw w vb d g v lie ws from_ n fuse steps false) (ha : a < n) (hz : s.size = 64) (hf : fuse ≠ 0) (h0 : 0 ≤ steps) (h1 : steps < 1000000) (h2 : -9223372036854775808 ≤ fuse) (h3 : fuse ≤ 9223372036854775807) (hw : ws.length ≤ 100000) :
    Calls Try.prog 34 #[.pointer (some ⟨vb, 0, none⟩), .int .i64 a, .string s] w fun e w' => e = .returned (.int .i64 0) ∧ VTurned w vb d g v lie (ws ++ [(from_ + a, s.data.toList)]) from_ n (if 0 < fuse then fuse - 1 else fuse) (steps + 1) false w' := by
  have hs := vsector_any (a : Int) h
  rw [if_pos (by omega)] at hs
  replace hs := Lib.hid hs
  have hne : ((s.size : Int) != 64) = false := by simp [hz]
  have hfits := h.fits
  have hfew := h.disk.few
  obtain ⟨p, hp⟩ : ∃ p : Nat, Hid (from_ + a = p) := ⟨_, Lib.hid rfl⟩
  have hpI : (from_ : Int) + (a : Int) = (p : Int) := by have := hp.out; omega
  have hpw : IntKind.i64.wrap (p : Int) = (p : Int) := IntWalk.i64_in _ (by have := hp.out; omega)
  rw [hp.out]
  have hpl : p < lie.length := by have := hp.out; omega
  obtain ⟨F, hF⟩ : ∃ F, Hid ((if 0 < fuse then fuse - 1 else fuse) = F) := ⟨_, Lib.hid rfl⟩
  have hst : Hid (∀ W, Vw W vb d g v lie ws from_ n fuse steps false → Calls Try.prog 69 #[.pointer (some ⟨vb, 3, none⟩)] W fun e w' => e = .returned (.int .i64 0) ∧ Vw w' vb d g v lie ws from_ n F (steps + 1) false ∧ Kept (fun q => q = vb) W w') := Lib.hid (fun W hW => by
    have := step_yes hW hf h0 h1 h2 h3
    rw [hF.out] at this
    exact this)
  rw [hF.out]
  have hwr : Hid (∀ W, Vw W vb d g v lie ws from_ n F (steps + 1) false → Calls Try.prog 51 #[.pointer (some ⟨d, 0, none⟩), .int .i64 p, .string s] W fun e w' => e = .returned (.int .i64 0) ∧ ∃ v', Vw w' vb d g v' lie (ws ++ [(p, s.data.toList)]) from_ n F (steps + 1) false ∧ (∀ k, v'.ownBlock = some k → v.ownBlock = some k ∨ W.heap.size ≤ k) ∧ Kept (mine d g v) W w') := Lib.hid (fun W hW => by
    refine (write_in d g v lie ws W p s hW.disk hpl hz hw).mono ?_
    rintro e w' ⟨rfl, ht⟩
    exact ⟨rfl, hW.turned ht rfl⟩)
  replace h := Lib.hid h
  clear hfits hfew hz hF h2 h3 hf
  go_enter Try.func34, Try.ntmps34
  go_wp2_with fail
  refine hs.out.mono ?_
  rintro e w1 ⟨rfl, hb1⟩
  have hv1 := h.out.below hb1
  have k1 : Hid (Kept (fun q => q = vb) w w1) := Lib.hid (Kept.of_below hb1)
  go_wp2_with fail
  refine (hst.out _ hv1).mono ?_
  rintro e w2 ⟨rfl, hv2, hk2⟩
  replace k1 := Lib.hid (k1.out.trans hk2)
  have c0 : w2.drew.cell? ⟨vb, 0, none⟩ = some (.pointer (some ⟨d, 0, none⟩)) := hv2.c0
  have c1 : w2.drew.cell? ⟨vb, 1, none⟩ = some (.int .i64 (from_ : Int)) := hv2.c1
  have hv3 : Hid (Vw w2.drew vb d g v lie ws from_ n F (steps + 1) false) := Lib.hid (hv2.drewN 1)
  have hsz := hb1.size
  have hsz2 := hk2.size
  clear hst hk2 hv2 hv1 hb1 hs
  go_wp2_with fail
  go_region_held3 (fun w' => w'.cell? ⟨vb, 0, none⟩ = some (.pointer (some ⟨d, 0, none⟩)) ∧ w'.cell? ⟨vb, 1, none⟩ = some (.int .i64 (from_ : Int))) (go_keep) (first
    | (go_at_call 51; (with_reducible refine (hwr.out _ hv3.out).mono ?_); rintro e w5 ⟨rfl, v', hv5, ho5, hk5⟩; have d0 := hv5.c0; have d1 := hv5.c1))
  have hfin : Hid (VTurned w vb d g v lie (ws ++ [(p, s.data.toList)]) from_ n F (steps + 1) false w5) := Lib.hid ⟨v', hv5, fun k hk => by
      rcases ho5 k hk with h | h
      · exact .inl h
      · exact .inr (Nat.le_trans hsz (Nat.le_trans hsz2 h)), (k1.out.mono (own' := fun k => k = vb ∨ mine d g v k) (fun k _ h => .inl h)).trans ((below_undrew' hk5).mono (own' := fun k => k = vb ∨ mine d g v k) (fun k _ h => .inr h))⟩
  clear hv5 ho5 hk5 d0 d1 c0 c1
  go_wp2_with fail
  go_ret
  exact ⟨rfl, hfin.out⟩
theorem vflush_power (h : Vw w vb d g v lie ws from_ n fuse steps gone) (hno : gone = true ∨ fuse = 0) :
    Calls Try.prog 36 #[.pointer (some ⟨vb, 0, none⟩)] w fun e w' => e = .returned (.int .i64 21) ∧ Still w vb d g v lie ws from_ n fuse steps w' := by
  replace h := Lib.hid h
  replace hno := Lib.hid hno
  go_enter Try.func36, Try.ntmps36
  go_wp2_with fail
  refine (step_no h.out hno.out).mono ?_
  rintro e w2 ⟨rfl, h2, hk2⟩
  go_wp2_with fail
  go_ret
  exact ⟨rfl, h2, hk2⟩
set_option maxHeartbeats 2000000 in
set_option maxRecDepth 100000 in
theorem vflush_in (h : Vw w vb d g v lie ws from_ n fuse steps false) (hf : fuse ≠ 0) (h0 : 0 ≤ steps) (h1 : steps < 1000000) (h2 : -9223372036854775808 ≤ fuse) (h3 : fuse ≤ 9223372036854775807) (hw : ws.length ≤ 100000) :
    Calls Try.prog 36 #[.pointer (some ⟨vb, 0, none⟩)] w fun e w' => e = .returned (.int .i64 0) ∧ VTurned w vb d g v (laid lie (ws.filter (spanB from_ n))) (ws.filter (keepB from_ n)) from_ n (if 0 < fuse then fuse - 1 else fuse) (steps + 1) false w' := by
  have hfits := h.fits
  obtain ⟨F, hF⟩ : ∃ F, Hid ((if 0 < fuse then fuse - 1 else fuse) = F) := ⟨_, Lib.hid rfl⟩
  have hst := Lib.hid (step_yes h hf h0 h1 h2 h3)
  rw [hF.out] at hst ⊢
  have hwr : Hid (∀ W, Vw W vb d g v lie ws from_ n F (steps + 1) false → Calls Try.prog 24 #[.pointer (some ⟨d, 0, none⟩), .int .i64 from_, .int .i64 n] W fun e w' => e = .returned (.int .i64 0) ∧ ∃ v', Vw w' vb d g v' (laid lie (ws.filter (spanB from_ n))) (ws.filter (keepB from_ n)) from_ n F (steps + 1) false ∧ (∀ k, v'.ownBlock = some k → v.ownBlock = some k ∨ W.heap.size ≤ k) ∧ Kept (mine d g v) W w') := Lib.hid (fun W hW => by
    refine (flush_in d g v lie ws W from_ n hW.disk hfits hw).mono ?_
    rintro e w' ⟨rfl, ht⟩
    exact ⟨rfl, hW.turned ht (laid_len _ _)⟩)
  clear hfits hF h2 h3 hf h
  go_enter Try.func36, Try.ntmps36
  go_wp2_with fail
  refine hst.out.mono ?_
  rintro e w2 ⟨rfl, hv2, hk2⟩
  have c0 : w2.drew.cell? ⟨vb, 0, none⟩ = some (.pointer (some ⟨d, 0, none⟩)) := hv2.c0
  have c1 : w2.drew.cell? ⟨vb, 1, none⟩ = some (.int .i64 (from_ : Int)) := hv2.c1
  have c2 : w2.drew.cell? ⟨vb, 2, none⟩ = some (.int .i64 (n : Int)) := hv2.c2
  have hv3 : Hid (Vw w2.drew vb d g v lie ws from_ n F (steps + 1) false) := Lib.hid (hv2.drewN 1)
  have hsz2 := hk2.size
  clear hst hv2
  go_wp2_with fail
  go_region_held3 (fun w' => w'.cell? ⟨vb, 0, none⟩ = some (.pointer (some ⟨d, 0, none⟩)) ∧ w'.cell? ⟨vb, 1, none⟩ = some (.int .i64 (from_ : Int)) ∧ w'.cell? ⟨vb, 2, none⟩ = some (.int .i64 (n : Int))) (go_keep) (first
    | (go_at_call 24; (with_reducible refine (hwr.out _ hv3.out).mono ?_); rintro e w5 ⟨rfl, v', hv5, ho5, hk5⟩; have d0 := hv5.c0; have d1 := hv5.c1; have d2 := hv5.c2))
  have hfin : Hid (VTurned w vb d g v (laid lie (ws.filter (spanB from_ n))) (ws.filter (keepB from_ n)) from_ n F (steps + 1) false w5) := Lib.hid ⟨v', hv5, fun k hk => by
      rcases ho5 k hk with h | h
      · exact .inl h
      · exact .inr (Nat.le_trans hsz2 h), (hk2.mono (own' := fun k => k = vb ∨ mine d g v k) (fun k _ h => .inl h)).trans ((below_undrew' hk5).mono (own' := fun k => k = vb ∨ mine d g v k) (fun k _ h => .inr h))⟩
  clear hv5 ho5 hk5 d0 d1 d2 c0 c1 c2
  go_wp2_with fail
  go_ret
  exact ⟨rfl, hfin.out⟩
set_option maxHeartbeats 2000000 in
set_option maxRecDepth 100000 in
theorem vwaiting_any (h : Vw w vb d g v lie ws from_ n fuse steps gone) (hw : ws.length ≤ 100000) :
    Calls Try.prog 39 #[.pointer (some ⟨vb, 0, none⟩)] w fun e w' => e = .returned (.int .i64 (ws.filter (spanB from_ n)).length) ∧ Below w.heap.size w w' := by
  have hfits := h.fits
  have hwt : Hid (∀ W, Vw W vb d g v lie ws from_ n fuse steps gone → Calls Try.prog 20 #[.pointer (some ⟨d, 0, none⟩), .int .i64 from_, .int .i64 n] W fun e w' => e = .returned (.int .i64 (ws.filter (spanB from_ n)).length) ∧ Below W.heap.size W w') := Lib.hid (fun W hW => waiting_in d g v lie ws W from_ n hW.disk hfits hw)
  have c0 : w.drew.cell? ⟨vb, 0, none⟩ = some (.pointer (some ⟨d, 0, none⟩)) := h.c0
  have c1 : w.drew.cell? ⟨vb, 1, none⟩ = some (.int .i64 (from_ : Int)) := h.c1
  have c2 : w.drew.cell? ⟨vb, 2, none⟩ = some (.int .i64 (n : Int)) := h.c2
  have hv3 : Hid (Vw w.drew vb d g v lie ws from_ n fuse steps gone) := Lib.hid (h.drewN 1)
  clear hfits h
  go_enter Try.func39, Try.ntmps39
  go_wp2_with fail
  go_region_held3 (fun w' => w'.cell? ⟨vb, 0, none⟩ = some (.pointer (some ⟨d, 0, none⟩)) ∧ w'.cell? ⟨vb, 1, none⟩ = some (.int .i64 (from_ : Int)) ∧ w'.cell? ⟨vb, 2, none⟩ = some (.int .i64 (n : Int))) (go_keep) (first
    | (go_at_call 20; (with_reducible refine (hwt.out _ hv3.out).mono ?_); rintro e w5 ⟨rfl, hb5⟩; have d0 := keepCell hb5 c0; have d1 := keepCell hb5 c1; have d2 := keepCell hb5 c2))
  go_wp2_with fail
  go_ret
  exact ⟨rfl, ⟨hb5.os, hb5.tape, hb5.output, hb5.size, hb5.block⟩⟩
end
end Go.Proofs.Ytgomhnclmacleaa.D
