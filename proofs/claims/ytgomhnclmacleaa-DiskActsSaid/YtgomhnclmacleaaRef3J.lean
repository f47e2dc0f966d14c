/- The law's same: a disk as the document's. -/
import Derived.Test.YtgomhnclmacleaaProg
import Derived.Test.YtgomhnclmacleaaRef3F
import Derived.Test.YtgomhnclmacleaaRef3I
namespace Go.Proofs.Ytgomhnclmacleaa.D
open Go.RowKit
open Go.Proofs.Ytgomhnclmacleaa.Z
set_option linter.unusedVariables false

theorem span_full (len : Nat) (ws : List (Nat × List UInt8)) (h : ∀ p ∈ ws, p.1 < len) : ws.filter (spanB 0 len) = ws := by
  rw [List.filter_eq_self]
  intro p hp
  have := h p hp
  unfold spanB
  simp
  omega
section
variable (d g : Nat) (v lv wv : Value) (lie : List (List UInt8)) (ws : List (Nat × List UInt8)) (w : World)
set_option maxHeartbeats 4000000 in
set_option maxRecDepth 100000 in
theorem same_any (hd : Dk w d g v lie ws) (hr : RD w lv wv lie ws) (hws : ws.length ≤ 100) :
    Calls Try.prog 19 #[.pointer (some ⟨d, 0, none⟩), .agg #[lv, wv]] w fun e w' => e = .returned (.bool true) ∧ Below w.heap.size w w' := by
  obtain ⟨wa, wc, rfl, _⟩ := hr.waits.form
  obtain ⟨la, lc, rfl, hl1, hl2, hl3⟩ := hr.lies.form
  have hfew := hr.few
  obtain ⟨m, hm⟩ : ∃ n, Hid (ws.length = n) := ⟨_, Lib.hid rfl⟩
  obtain ⟨ln, hln⟩ : ∃ n, Hid (lie.length = n) := ⟨_, Lib.hid rfl⟩
  obtain ⟨B0, hB0⟩ : ∃ n, Hid (w.heap.size = n) := ⟨_, Lib.hid rfl⟩
  obtain ⟨W, hW⟩ : ∃ W, Hid (W = w.alloc (.cells #[.slice la lie.length lc, .slice wa ws.length wc] 32)) := ⟨_, Lib.hid rfl⟩
  have hbW : Below w.heap.size w W := by rw [hW.out]; exact allocBelow w _
  have hX : Whole W B0 32 [.slice la lie.length lc, .slice wa ws.length wc] := by rw [hW.out, ← hB0.out]; exact Whole.new w _ _
  have hdW := Lib.hid (hd.below hbW)
  have hrW := Lib.hid (hr.below hbW)
  have hl3' := Lib.hid hl3
  have hcell : Hid (∀ k s, lie[k]? = some s → ∃ b, la = some ⟨b, 0, none⟩ ∧ ∀ w', Below W.heap.size W w' → w'.cell? ⟨b, k, none⟩ = some (strV s)) := Lib.hid (fun k s hk => by
    obtain ⟨b, e, e1⟩ := hl3 k s hk
    exact ⟨b, e, fun w' hb => keepCell hb (keepCell hbW e1)⟩)
  have hget : Hid (∀ j, j < ln → ∃ q, lie[j]? = some q) := fun j hj => ⟨_, List.getElem?_eq_getElem (by rw [hln.out]; exact hj)⟩
  have hrd : Hid (∀ (k : Nat) (s : List UInt8) (W2 : World), lie[k]? = some s → Below W.heap.size W W2 → Calls Try.prog 22 #[.pointer (some ⟨d, 0, none⟩), .int .i64 k] W2 fun e w' => e = .returned (.tuple #[strV (rd ws k s), .int .i64 0]) ∧ W2 = w') := Lib.hid (fun k s W2 hs hb => read_in d g v lie ws W2 k s (hdW.out.below hb) hs (by omega))
  have hli : Hid (∀ (k : Nat) (s : List UInt8) (W2 : World), lie[k]? = some s → Below W.heap.size W W2 → Calls Try.prog 23 #[.pointer (some ⟨d, 0, none⟩), .int .i64 k] W2 fun e w' => e = .returned (.tuple #[strV s, .int .i64 0]) ∧ W2 = w') := Lib.hid (fun k s W2 hs hb => lies_in d g v lie ws W2 k s (hdW.out.below hb) hs)
  have hrr : Hid (∀ (k : Nat) (s : List UInt8) (W2 : World), lie[k]? = some s → Below W.heap.size W W2 → Calls Try.prog 60 #[.agg #[.slice la ln lc, .slice wa m wc], .int .i64 k] W2 fun e w' => e = .returned (strV (rd ws k s)) ∧ Below W2.heap.size W2 w') := Lib.hid (fun k s W2 hs hb => by
    have := rread_any _ _ lie ws W2 k s (hrW.out.below hb) hs
    rw [hm.out, hln.out] at this
    exact this)
  have hsz : Hid (∀ W2 : World, Below W.heap.size W W2 → Calls Try.prog 53 #[.pointer (some ⟨d, 0, none⟩)] W2 fun e w' => e = .returned (.int .i64 ln) ∧ W2 = w') := Lib.hid (fun W2 hb => by
    have := size_any d g v lie ws W2 (hdW.out.below hb)
    rw [hln.out] at this
    exact this)
  have hwt : Hid (∀ W2 : World, Below W.heap.size W W2 → Calls Try.prog 20 #[.pointer (some ⟨d, 0, none⟩), .int .i64 0, .int .i64 ln] W2 fun e w' => e = .returned (.int .i64 m) ∧ Below W2.heap.size W2 w') := Lib.hid (fun W2 hb => by
    have := waiting_in d g v lie ws W2 0 lie.length (hdW.out.below hb) (by omega) (by omega)
    rw [span_full _ _ hd.within, hm.out, hln.out] at this
    exact this)
  rw [hm.out, hln.out] at hX hW ⊢
  rw [hln.out] at hl1 hfew
  replace hX := Lib.hid hX
  clear hd hr hl3
  have y0 : W.cell? ⟨B0, 0, none⟩ = some (.slice la ln lc) := hX.out.cell 0
  have hXlt := hX.out.lt
  unfold strV at hrd hli hrr hcell
  go_enter Try.func19, Try.ntmps19
  go_wp2_with (with_reducible refine zLoad 29 _ rfl ?_)
  rw [← hW.out, hB0.out]
  clear hW
  refine Lib.hid ?_
  go_wp2_with fail
  clear y0 hl3' hdW hrW
  go_loopg [13] ln (fun ga i wr => ∃ k : Nat, k ≤ ln ∧ ln ≤ k + ga ∧ i = .int .i64 k ∧ Hid (Below W.heap.size W wr))
  case atStart => exact ⟨0, by omega, by omega, rfl, Lib.hid (Below.refl _ _)⟩
  case round =>
    obtain ⟨k, hk, hg, rfl, hbr⟩ := hrel
    generalize wr = wo at *
    have z0 : wo.cell? ⟨B0, 0, none⟩ = some (.slice la ln lc) := keepCell hbr.out (hX.out.cell 0)
    have z1 : wo.cell? ⟨B0, 1, none⟩ = some (.slice wa m wc) := keepCell hbr.out (hX.out.cell 1)
    by_cases hlt : k < ln
    · obtain ⟨s, hs⟩ := hget.out k hlt
      have h1 := hrd.out k s wo hs hbr.out
      have h2 := hli.out k s wo hs hbr.out
      have h3 := hrr.out k s wo hs hbr.out
      obtain ⟨b, rfl, hc⟩ := hcell.out k s hs
      obtain ⟨X, hX2⟩ : ∃ X : ByteArray, Hid (⟨(rd ws k s).toArray⟩ = X) := ⟨_, Lib.hid rfl⟩
      obtain ⟨Y, hY2⟩ : ∃ X : ByteArray, Hid (⟨s.toArray⟩ = X) := ⟨_, Lib.hid rfl⟩
      rw [hX2.out] at h1 h3
      rw [hY2.out] at h2 hc
      have exx : (X.toList == X.toList) = true := by simp
      have eyy : (Y.toList == Y.toList) = true := by simp
      replace h1 := Lib.hid h1
      replace h2 := Lib.hid h2
      replace h3 := Lib.hid h3
      replace hc := Lib.hid hc
      clear hs hX2 hY2
      go_wp2_with fail
      refine h1.out.mono ?_
      rintro e w2 ⟨rfl, rfl⟩
      go_wp2_with fail
      refine h2.out.mono ?_
      rintro e w2 ⟨rfl, rfl⟩
      go_wp2_with fail
      refine h3.out.mono ?_
      rintro e w2 ⟨rfl, hb2⟩
      have hb3 := Lib.hid (hbr.out.trans (hb2.mono hbr.out.size))
      have c0 := hc.out w2 hb3.out
      have q0 : w2.cell? ⟨B0, 0, none⟩ = some (.slice (some ⟨b, 0, none⟩) ln lc) := keepCell hb2 z0
      clear z0 z1 hb2 h1 h2 h3
      go_wp2_with fail
      go_roundg (gk - 1)
      case measure => omega
      case rel => exact ⟨k + 1, by omega, by omega, by go_num, hb3⟩
    · obtain rfl : k = ln := by omega
      have hbd : Hid (Below W.heap.size W wo.drew) := Lib.hid (let h := hbr.out; ⟨h.os, h.tape, h.output, h.size, h.block⟩)
      have d0 : wo.drew.cell? ⟨B0, 0, none⟩ = some (.slice la k lc) := z0
      have d1 : wo.drew.cell? ⟨B0, 1, none⟩ = some (.slice wa m wc) := z1
      clear hrd hli hrr hcell hget hlt
      go_wp2_with fail
      go_region_held3 (fun w' => w'.cell? ⟨B0, 0, none⟩ = some (.slice la k lc) ∧ w'.cell? ⟨B0, 1, none⟩ = some (.slice wa m wc)) (go_keep) (first
        | (go_at_call 53; (with_reducible refine (hsz.out _ hbd.out).mono ?_); rintro e w5 ⟨rfl, rfl⟩)
        | (go_at_call 20; (with_reducible refine (hwt.out _ hbd.out).mono ?_); rintro e w6 ⟨rfl, hb6⟩; have e0 := keepCell hb6 d0; have e1 := keepCell hb6 d1))
      have hfin := Lib.hid (hbW.trans ((hbd.out.trans (hb6.mono hbd.out.size)).mono hbW.size))
      go_wp2_with fail
      go_ret
      exact ⟨rfl, hfin.out⟩
end
end Go.Proofs.Ytgomhnclmacleaa.D
