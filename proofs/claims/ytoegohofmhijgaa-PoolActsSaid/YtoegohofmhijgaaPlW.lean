/- Is a pool the document's? -/
import Derived.Test.YtoegohofmhijgaaPlV
namespace Go.Proofs.Ytoegohofmhijgaa.W
open Go.RowKit Go.Sort
open Go.Proofs.Ytoegohofmhijgaa.M Go.Proofs.Ytoegohofmhijgaa.D Go.Proofs.Ytoegohofmhijgaa.Z
set_option linter.unusedVariables false

theorem same_below {P : Program} {f : FuncId} {args : Array Value} {v : Value} {W : World} (h : Calls P f args W fun e w' => e = .returned v ∧ W = w') : Calls P f args W fun e w' => e = .returned v ∧ Below W.heap.size W w' :=
  h.mono fun e w' ⟨h1, h2⟩ => ⟨h1, h2 ▸ Below.refl _ _⟩
set_option maxHeartbeats 4000000 in
set_option maxRecDepth 100000 in
theorem sameP_any {w : World} {b a B0 r : Nat} {l : List Int} {ep ct : Nat} (hp : Pl w b a l ep ct) (hr : Rp w B0 r l) (cc : Nat) (ep2 ct2 : Int) (hn : l.length ≤ 64) (hG : GoodO l) :
    Calls Try.prog 17 #[.pointer (some ⟨b, 0, none⟩), rv r l.length cc ep2 ct2] w fun e w' => e = .returned (.bool true) ∧ Below w.heap.size w w' := by
  have hB := (Below.refl w.heap.size w).alloc (Nat.le_refl _) (.cells #[.slice (some ⟨r, 0, none⟩) l.length cc, .int .i64 ep2, .int .i64 ct2] 32)
  have hX := Whole.new w 32 [.slice (some ⟨r, 0, none⟩) l.length cc, .int .i64 ep2, .int .i64 ct2]
  have hP := hp.grow hB
  have hR := hr.grow hB
  obtain ⟨W, hW⟩ : ∃ W, Hid (W = w.alloc (.cells #[.slice (some ⟨r, 0, none⟩) l.length cc, .int .i64 ep2, .int .i64 ct2] 32)) := ⟨_, Lib.hid rfl⟩
  rw [← hW.out] at hB hP hR
  replace hX : Whole W w.heap.size 32 [.slice (some ⟨r, 0, none⟩) l.length cc, .int .i64 ep2, .int .i64 ct2] := by rw [hW.out]; exact hX
  have hrow : Hid (∀ k, k < l.length → ∃ o : Int, W.cell? ⟨r, k, none⟩ = some (.int .i64 o) ∧ Calls Try.prog 23 #[.pointer (some ⟨b, 0, none⟩), .int .i64 (k : Int)] W fun e w' => e = .returned (.int .i64 o) ∧ W = w') := Lib.hid (fun k hk => ⟨l[k], hR.at_ k _ (List.getElem?_eq_getElem hk), powner_in hP k _ (List.getElem?_eq_getElem hk)⟩)
  have cs := fun (W' : World) (h : Pl W' b a l ep ct) => same_below (psize_any h)
  have cf := fun (W' : World) (h : Pl W' b a l ep ct) => pfree_any h hn
  have co := fun (W' : World) (h : Pl W' b a l ep ct) => same_below (powner_out h (-1) (by omega))
  have cn := fun (W' : World) (h : Pl W' b a l ep ct) => same_below (powner_out h (l.length : Int) (by omega))
  have cz := fun (W' : World) (h : Pl W' b a l ep ct) => pof_zero h hn hG
  have cr := fun (W' : World) (h : Rp W' B0 r l) => rfree_any h cc ep2 ct2 hn
  have hPg : ∀ w', Below W.heap.size W w' → Pl w' b a l ep ct := fun w' hb => hP.grow hb
  have hRg : ∀ w', Below W.heap.size W w' → Rp w' B0 r l := fun w' hb => hR.grow hb
  have cs2 := Lib.hid (regrown_if cs W hPg)
  have cf2 := Lib.hid (regrown_if cf W hPg)
  have co2 := Lib.hid (regrown_if co W hPg)
  have cn2 := Lib.hid (regrown_if cn W hPg)
  have cz2 := Lib.hid (regrown_if cz W hPg)
  have cr2 := Lib.hid (regrown_if cr W hRg)
  have hbox : W.cell? ⟨w.heap.size, 0, none⟩ = some (.slice (some ⟨r, 0, none⟩) l.length cc) := hX.cell 0
  generalize freeN l = f at *
  generalize l.length = n at *
  have g0 : ∀ dd os, (grow (redrawn W dd) os).cell? ⟨w.heap.size, 0, none⟩ = some (.slice (some ⟨r, 0, none⟩) n cc) := fun dd os => (hX.below (below_regrown W dd os) hX.lt).cell 0
  have hrl : Hid (∀ w', (∃ p : Regrown, w' = grow (redrawn W p.d) p.os) → w'.rangeAt w.heap.size 0 [.slice (some ⟨r, 0, none⟩) n cc, .int .i64 ep2, .int .i64 ct2]) := Lib.hid (by rintro _ ⟨p, rfl⟩; exact (hX.below (below_regrown W p.d p.os) hX.lt).range)
  have hi0 : Hid ((Try.prog.info? 32).map (·.size) = some ([.slice (some ⟨r, 0, none⟩) n cc, .int .i64 ep2, .int .i64 ct2] : List Value).length) := Lib.hid sizeP3
  have n1 : ((n : Int) == (n : Int)) = true := by simp
  have n2 : ((f : Int) == (f : Int)) = true := by simp
  replace hB := Lib.hid hB
  clear hp hr hP hR cs cf co cn cz cr hPg hRg hX hG
  go_enter Try.func17, Try.ntmps17
  go_wp2_with fail
  rw [← hW.out]
  clear hW
  go_loopg [10] n (fun ga i wr => ∃ k : Nat, k ≤ n ∧ n ≤ k + ga ∧ i = .int .i64 k ∧ wr = W)
  case atStart => exact ⟨0, by omega, by omega, rfl, rfl⟩
  case round =>
    obtain ⟨k, hk, hg, rfl, rfl⟩ := hrel
    by_cases hlt : k < n
    · have hl2 : (k : Int) < (n : Int) := by omega
      obtain ⟨o, ho, hc⟩ := hrow.out k hlt
      have h1 : (o != o) = false := by simp
      replace hc := Lib.hid hc
      go_wp2_with fail
      refine hc.out.mono ?_
      rintro ee w1 ⟨rfl, rfl⟩
      go_wp2_with fail
      go_roundg (gk - 1)
      case measure => omega
      case rel => exact ⟨k + 1, by omega, by omega, by go_num, rfl⟩
    · obtain rfl : k = n := by omega
      clear hrow
      go_wp2_with fail
      refine wp_region_quiet_below (by kernel_rfl) (by kernel_rfl) ?_
      repeat (first
        | ((with_reducible refine quiet_load 32 _ w.heap.size [.slice (some ⟨r, 0, none⟩) k cc, .int .i64 ep2, .int .i64 ct2] ?_ hrl.out Try.underlying32 ?_ hi0.out ?_ ?_); (· rfl); (· rfl); (· rfl); simp only [Act.put, List.setIfInBounds_toArray, List.set_cons_zero, List.set_cons_succ])
        | go_big_quiet_step (first | (with_reducible exact cs2.out _ _) | (with_reducible exact cf2.out _ _) | (with_reducible exact co2.out _ _) | (with_reducible exact cn2.out _ _) | (with_reducible exact cz2.out _ _) | (with_reducible exact cr2.out _ _)))
      refine wpQuiet_nil ?_
      intro _ hw'
      obtain ⟨⟨dq, osq⟩, hw''⟩ := hw'
      subst hw''
      have hB5 := Lib.hid (grew hB.out (below_regrown wr dq osq))
      clear hrl hi0 cs2 cf2 co2 cn2 cz2 cr2 g0 hB
      generalize grow (redrawn wr dq) osq = w7 at *
      go_wp2_with fail
      go_ret
      exact ⟨rfl, hB5.out⟩
end Go.Proofs.Ytoegohofmhijgaa.W
