/- A segment in memory; the small walks of package segment. The walk of package segment's lay, by what the view's Writes do. A segment with its frames in memory; the walk of package segment's put. The walk of a segment's Append, by what the view's Writes do. -/
import Derived.Test.YtgogackkeodciabGreatDoorProg
import Derived.Test.YtgogackkeodciabGreatDoorView
import Derived.Test.YtgogackkeodciabGreatDoorWorld
import Derived.Test.YtgogackkeodciabGreatDoorSeal
import Derived.Test.YtgogackkeodciabGreatDoorPiecesA
import Derived.Deep.RegionHeld3
import Derived.Test.YtgogackkeodciabGreatDoorSegRef
import Derived.Deep.AppendLies
import Derived.Test.YtgogackkeodciabGreatDoorFrame
import Derived.Test.YtgogackkeodciabGreatDoorClone
import Derived.Test.YtgogackkeodciabGreatDoorMinMax
import Derived.Deep.Cut
section
namespace Go.Proofs.YtgogackkeodciabGreatDoor.W
open Go.RowKit
open Go.Proofs.YtgogackkeodciabGreatDoor.M Go.Proofs.YtgogackkeodciabGreatDoor.D Go.Proofs.YtgogackkeodciabGreatDoor.Z
set_option linter.unusedVariables false

/-- What is kept of blocks that are no view's. -/
def TK (W W' : World) : Prop := W.heap.size ≤ W'.heap.size ∧ ∀ (b : Nat) (t : TypeId) (cs : List Value), Whole W b t cs → t ≠ 101 → t ≠ 95 → t ≠ 161 → t ≠ 163 → Whole W' b t cs
theorem TK.refl (W : World) : TK W W := ⟨Nat.le_refl _, fun _ _ _ h _ _ _ _ => h⟩
theorem TK.trans {a b c : World} (h : TK a b) (k : TK b c) : TK a c := ⟨Nat.le_trans h.1 k.1, fun q t cs hw h1 h2 h3 h4 => k.2 q t cs (h.2 q t cs hw h1 h2 h3 h4) h1 h2 h3 h4⟩
theorem TK.of_below {a b : World} (h : Below a.heap.size a b) : TK a b := ⟨h.size, fun q t cs hw _ _ _ _ => hw.below h hw.lt⟩
theorem TK.of_turn {w w' : World} {vb d g : Nat} {v : Value} {lie lie' : List (List UInt8)} {ws ws' : List (Nat × List UInt8)} {from_ n : Nat} {fuse steps fuse' steps' : Int} {gone gone' : Bool}
    (h : Vw w vb d g v lie ws from_ n fuse steps gone) (ht : VTurned w vb d g v lie' ws' from_ n fuse' steps' gone' w') : TK w w' := by
  obtain ⟨v', h1, h2, h3⟩ := ht
  exact ⟨h3.size, fun q t cs hw t1 t2 t3 t4 => hw.of_kept h3 (off_view h hw t1 t2 t3 t4)⟩
/-- A segment's object, as cells. -/
abbrev sgL (vb n a g s b : Nat) (fv : Value) (E : Nat) (sl : Bool) : List Value := [.pointer (some ⟨vb, 0, none⟩), .int .i64 (n : Int), .int .i64 (a : Int), .int .u32 (g : Int), .int .u32 (s : Int), .int .i64 (b : Int), fv, .int .i64 (E : Int), .bool sl]
theorem len_any (sb : Nat) (fa : Option Addr) (fn fc : Nat) (w : World) (c6 : w.cell? ⟨sb, 6, none⟩ = some (.slice fa fn fc)) :
    Calls Tryz.prog 43 #[.pointer (some ⟨sb, 0, none⟩)] w fun e w' => e = .returned (.int .i64 (fn : Int)) ∧ w = w' := by
  go_enter Tryz.func43, Tryz.ntmps43
  go_wp2_with fail
  go_ret
  exact ⟨rfl, rfl⟩
theorem len_nil (w : World) : Calls Tryz.prog 43 #[.pointer none] w fun e w' => e = .returned (.int .i64 0) ∧ w = w' := by
  go_enter Tryz.func43, Tryz.ntmps43
  go_wp2_with fail
  go_ret
  exact ⟨rfl, rfl⟩
theorem number_any (sb n : Nat) (w : World) (c1 : w.cell? ⟨sb, 1, none⟩ = some (.int .i64 (n : Int))) :
    Calls Tryz.prog 59 #[.pointer (some ⟨sb, 0, none⟩)] w fun e w' => e = .returned (.int .i64 (n : Int)) ∧ w = w' := by
  go_enter Tryz.func59, Tryz.ntmps59
  go_wp2_with fail
  go_ret
  exact ⟨rfl, rfl⟩
theorem number_nil (w : World) : Calls Tryz.prog 59 #[.pointer none] w fun e w' => e = .returned (.int .i64 0) ∧ w = w' := by
  go_enter Tryz.func59, Tryz.ntmps59
  go_wp2_with fail
  go_ret
  exact ⟨rfl, rfl⟩
theorem end_any (sb E : Nat) (w : World) (c7 : w.cell? ⟨sb, 7, none⟩ = some (.int .i64 (E : Int))) :
    Calls Tryz.prog 80 #[.pointer (some ⟨sb, 0, none⟩)] w fun e w' => e = .returned (.int .i64 (E : Int)) ∧ w = w' := by
  go_enter Tryz.func80, Tryz.ntmps80
  go_wp2_with fail
  go_ret
  exact ⟨rfl, rfl⟩
theorem end_nil (w : World) : Calls Tryz.prog 80 #[.pointer none] w fun e w' => e = .returned (.int .i64 0) ∧ w = w' := by
  go_enter Tryz.func80, Tryz.ntmps80
  go_wp2_with fail
  go_ret
  exact ⟨rfl, rfl⟩
theorem sealed_any (sb : Nat) (sl : Bool) (w : World) (c8 : w.cell? ⟨sb, 8, none⟩ = some (.bool sl)) :
    Calls Tryz.prog 79 #[.pointer (some ⟨sb, 0, none⟩)] w fun e w' => e = .returned (.bool sl) ∧ w = w' := by
  go_enter Tryz.func79, Tryz.ntmps79
  go_wp2_with fail
  go_ret
  exact ⟨rfl, rfl⟩
theorem sealed_nil (w : World) : Calls Tryz.prog 79 #[.pointer none] w fun e w' => e = .returned (.bool true) ∧ w = w' := by
  go_enter Tryz.func79, Tryz.ntmps79
  go_wp2_with fail
  go_ret
  exact ⟨rfl, rfl⟩
theorem doSeal_any (sb vb n a g s b E : Nat) (fv : Value) (sl : Bool) (w : World) (h : Whole w sb 112 (sgL vb n a g s b fv E sl)) :
    Calls Tryz.prog 50 #[.pointer (some ⟨sb, 0, none⟩)] w fun e w' => e = .returned (.tuple #[]) ∧ Whole w' sb 112 (sgL vb n a g s b fv E true) ∧ Kept (fun q => q = sb) w w' := by
  have c8 := h.cell 8
  have f8 := h.frozen 8
  simp only [List.getElem?_cons_zero, List.getElem?_cons_succ] at c8
  have hs : Whole (w.setCell ⟨sb, 8, none⟩ (.bool true)) sb 112 (sgL vb n a g s b fv E true) := h.store 8 [.bool true] (by simp)
  have hk : Kept (fun q => q = sb) w (w.setCell ⟨sb, 8, none⟩ (.bool true)) := (Kept.refl (fun q => q = sb) w).setCell (c := sb) (.inl rfl) 8 _
  replace hs := Lib.hid hs
  replace hk := Lib.hid hk
  clear h
  go_enter Tryz.func50, Tryz.ntmps50
  go_wp2_with fail
  go_end0
  exact ⟨rfl, hs.out, hk.out⟩
theorem doSeal_nil (w : World) : Calls Tryz.prog 50 #[.pointer none] w fun e w' => e = .returned (.tuple #[]) ∧ w = w' := by
  go_enter Tryz.func50, Tryz.ntmps50
  go_wp2_with fail
  go_end0
  exact ⟨rfl, rfl⟩
theorem count_any (sb : Nat) (fa : Option Addr) (fn fc : Nat) (w : World) (hn : fn ≤ 100000) (c6 : w.cell? ⟨sb, 6, none⟩ = some (.slice fa fn fc)) :
    Calls Tryz.prog 90 #[.pointer (some ⟨sb, 0, none⟩)] w fun e w' => e = .returned (.int .i64 ((fn + 2 : Nat) : Int)) ∧ w = w' := by
  have h1 : IntKind.i64.wrap (1 + (fn : Int)) = ((fn + 1 : Nat) : Int) := by rw [IntWalk.i64_in _ (by omega)]; omega
  have h2 : IntKind.i64.wrap (((fn + 1 : Nat) : Int) + 1) = ((fn + 2 : Nat) : Int) := by rw [IntWalk.i64_in _ (by omega)]; omega
  go_enter Tryz.func90, Tryz.ntmps90
  go_wp2_with fail
  refine (len_any sb fa fn fc _ c6).mono ?_
  rintro e w1 ⟨rfl, rfl⟩
  go_wp2_with fail
  go_ret
  exact ⟨rfl, rfl⟩
theorem sectorAt_any (sb n p : Nat) (w : World) (hn : n ≤ 100000) (hp : p ≤ 100000) (c1 : w.cell? ⟨sb, 1, none⟩ = some (.int .i64 (n : Int))) :
    Calls Tryz.prog 95 #[.pointer (some ⟨sb, 0, none⟩), .int .i64 (p : Int)] w fun e w' => e = .returned (.int .i64 ((2 + 16 * n + p : Nat) : Int)) ∧ w = w' := by
  have h1 : IntKind.i64.wrap (16 * (n : Int)) = ((16 * n : Nat) : Int) := by rw [IntWalk.i64_in _ (by omega)]; omega
  have h2 : IntKind.i64.wrap (2 + ((16 * n : Nat) : Int)) = ((2 + 16 * n : Nat) : Int) := by rw [IntWalk.i64_in _ (by omega)]; omega
  have h3 : IntKind.i64.wrap (((2 + 16 * n : Nat) : Int) + (p : Int)) = ((2 + 16 * n + p : Nat) : Int) := by rw [IntWalk.i64_in _ (by omega)]; omega
  go_enter Tryz.func95, Tryz.ntmps95
  go_wp2_with fail
  go_ret
  exact ⟨rfl, rfl⟩
theorem find_nil (n : Int) (w : World) : Calls Tryz.prog 93 #[.pointer none, .int .i64 n] w fun e w' => e = .returned (.tuple #[.pointer none, .int .i64 7]) ∧ w = w' := by
  go_enter Tryz.func93, Tryz.ntmps93
  go_wp2_with fail
  go_ret2
  exact ⟨rfl, rfl⟩
section
variable {w : World} {vb d g : Nat} {v : Value} {lie : List (List UInt8)} {ws : List (Nat × List UInt8)} {from_ m : Nat} {fuse steps : Int} {gone : Bool}
theorem find_out (n : Int) (k : Nat) (h : Vw w vb d g v lie ws from_ m fuse steps gone) (hm : m = k + 2) (hk : k ≤ 1000000) (hn : ¬ (0 ≤ n ∧ n < ((k / 16 : Nat) : Int))) :
    Calls Tryz.prog 93 #[.pointer (some ⟨vb, 0, none⟩), .int .i64 n] w fun e w' => e = .returned (.tuple #[.pointer none, .int .i64 20]) ∧ w = w' := by
  have hs := vsize_any h
  subst hm
  have h1 : IntKind.i64.wrap (((k + 2 : Nat) : Int) - 2) = (k : Int) := by rw [IntWalk.i64_in _ (by omega)]; omega
  obtain ⟨q, hq⟩ : ∃ q : Nat, Hid (k / 16 = q) := ⟨_, Lib.hid rfl⟩
  have hquo : Int.tdiv (k : Int) 16 = (q : Int) := by rw [← hq.out]; rfl
  have hqk : q ≤ 1000000 := by have := hq.out; omega
  have hwq : IntKind.i64.wrap (q : Int) = (q : Int) := IntWalk.i64_in _ (by omega)
  rw [hq.out] at hn
  replace hs := Lib.hid hs
  clear h
  by_cases h0 : n < 0
  · clear hn
    go_enter Tryz.func93, Tryz.ntmps93
    go_wp2_with fail
    go_ret2
    exact ⟨rfl, rfl⟩
  · have h2 : (q : Int) ≤ n := by omega
    have h3 : 0 ≤ n := by omega
    clear hn h0
    go_enter Tryz.func93, Tryz.ntmps93
    go_wp2_with fail
    refine hs.out.mono ?_
    rintro e w1 ⟨rfl, rfl⟩
    go_wp2_with fail
    go_ret2
    exact ⟨rfl, rfl⟩
theorem find_in (n k : Nat) (h : Vw w vb d g v lie ws from_ m fuse steps gone) (hm : m = k + 2) (hk : k ≤ 1000000) (hn : n < k / 16) :
    Calls Tryz.prog 93 #[.pointer (some ⟨vb, 0, none⟩), .int .i64 (n : Int)] w fun e w' => e = .returned (.tuple #[.pointer (some ⟨w.heap.size, 0, none⟩), .int .i64 0]) ∧ Whole w' w.heap.size 112 (sgL vb n 0 0 0 0 (.slice none 0 0) 1 false) ∧ Below w.heap.size w w' := by
  have hs := vsize_any h
  subst hm
  have h1 : IntKind.i64.wrap (((k + 2 : Nat) : Int) - 2) = (k : Int) := by rw [IntWalk.i64_in _ (by omega)]; omega
  obtain ⟨q, hq⟩ : ∃ q : Nat, Hid (k / 16 = q) := ⟨_, Lib.hid rfl⟩
  have hquo : Int.tdiv (k : Int) 16 = (q : Int) := by rw [← hq.out]; rfl
  have hqk : q ≤ 1000000 := by have := hq.out; omega
  have hwq : IntKind.i64.wrap (q : Int) = (q : Int) := IntWalk.i64_in _ (by omega)
  rw [hq.out] at hn
  have hn2 : (n : Int) < (q : Int) := by omega
  have hn3 : ¬ (n : Int) < 0 := by omega
  replace hs := Lib.hid hs
  clear h
  have hW := Lib.hid (Whole.new w 112 (sgL vb n 0 0 0 0 (.slice none 0 0) 1 false))
  have hB := Lib.hid (allocBelow w (.cells (sgL vb n 0 0 0 0 (.slice none 0 0) 1 false).toArray 112))
  go_enter Tryz.func93, Tryz.ntmps93
  go_wp2_with fail
  refine hs.out.mono ?_
  rintro e w1 ⟨rfl, rfl⟩
  go_wp2_with fail
  go_ret2
  exact ⟨rfl, hW.out, hB.out⟩
end
end Go.Proofs.YtgogackkeodciabGreatDoor.W
end
section
namespace Go.Proofs.YtgogackkeodciabGreatDoor.W
open Go.RowKit
open Go.Proofs.YtgogackkeodciabGreatDoor.M Go.Proofs.YtgogackkeodciabGreatDoor.D Go.Proofs.YtgogackkeodciabGreatDoor.Z
set_option linter.unusedVariables false

theorem pcRow_at (l : List UInt8) (n k : Nat) (h : k < n) : (pcRow l n n)[k]? = some (.string (B (pcL l k))) := by
  unfold pcRow
  rw [List.getElem?_map, List.getElem?_range h]
  simp [h]
theorem drewBelow (w : World) : Below w.heap.size w w.drew := ⟨rfl, rfl, rfl, Nat.le_refl _, fun _ _ => rfl⟩
theorem below_of_drewB {B : Nat} {W w2 : World} (h : Below B W.drew w2) : Below B W w2 := ⟨h.os, h.tape, h.output, h.size, h.block⟩
set_option maxRecDepth 100000 in
set_option maxHeartbeats 4000000 in
theorem lay_any (vb sb n p st c np okN J : Nat) (x r : Int) (cs : List Value) (T : ByteArray) (V : Nat → World → Prop) (w : World)
    (hcs0 : cs[0]? = some (.pointer (some ⟨vb, 0, none⟩))) (hcs1 : cs[1]? = some (.int .i64 (n : Int))) (hcs4 : cs[4]? = some (.int .u32 (st : Int)))
    (hT : T.size ≤ 1000) (hnp : (T.size + 51) / 52 = np) (hn : n ≤ 1000) (hp : p ≤ 1000) (hst : st < 4294967296) (hc : 1 ≤ c) (hc2 : c ≤ 65535)
    (hV0 : V 0 w) (hVb : ∀ j W W', V j W → Below W.heap.size W W' → V j W') (hVs : ∀ j W, V j W → Whole W sb 112 cs)
    (hWr : ∀ j, j < okN → ∀ W, V j W → Calls Tryz.prog 94 #[.pointer (some ⟨vb, 0, none⟩), .int .i64 ((2 + 16 * n + (p + j) : Nat) : Int), .string (B (sealL st c (pcL T.data.toList j)))] W fun e w' => e = .returned (.int .i64 0) ∧ V (j + 1) w' ∧ TK W w')
    (hok : okN ≤ np)
    (hend : (okN = np ∧ r = 0 ∧ J = np) ∨ (okN < np ∧ r ≠ 0 ∧ J = okN + 1 ∧ ∀ W, V okN W → Calls Tryz.prog 94 #[.pointer (some ⟨vb, 0, none⟩), .int .i64 ((2 + 16 * n + (p + okN) : Nat) : Int), .string (B (sealL st c (pcL T.data.toList okN)))] W fun e w' => e = .returned (.int .i64 r) ∧ V (okN + 1) w' ∧ TK W w')) :
    Calls Tryz.prog 89 #[.pointer (some ⟨sb, 0, none⟩), .int .i64 (p : Int), .int .i64 (c : Int), .string T] w fun e w' => e = .returned (.int .i64 r) ∧ V J w' ∧ TK w w' := by
  have hpi := pieces_any T w hT
  have hnpl : np ≤ 20 := by omega
  have hseal := Lib.hid (fun j W => seal_yes st c (B (pcL T.data.toList j)) W hst hc hc2 (by rw [B_size, pcL_len]))
  have hrowAt := Lib.hid (fun k (h : k < np) => pcRow_at T.data.toList np k h)
  obtain ⟨P, hP⟩ : ∃ P : Nat → List UInt8, Hid (pcL T.data.toList = P) := ⟨_, Lib.hid rfl⟩
  simp only [B_data] at hseal
  simp only [hP.out] at hseal hWr hend hrowAt
  obtain ⟨R, hR⟩ : ∃ R, Hid (pcRow T.data.toList np np = R) := ⟨_, Lib.hid rfl⟩
  replace hpi : Calls Tryz.prog 104 #[.string T] w fun e w' => e = .returned (.slice (some ⟨w.heap.size, 0, none⟩) np np) ∧ Whole w' w.heap.size 9 R ∧ Below w.heap.size w w' := by
    refine hpi.mono ?_
    rintro e w' ⟨n', hn', he, hw, hb⟩
    obtain rfl : n' = np := by omega
    rw [← hR.out]
    exact ⟨he, hw, hb⟩
  rw [hR.out] at hrowAt
  replace hpi := Lib.hid hpi
  replace hV0 := Lib.hid hV0
  replace hVb := Lib.hid hVb
  replace hVs := Lib.hid hVs
  replace hWr := Lib.hid hWr
  replace hend := Lib.hid hend
  clear hR hP hnp
  go_enter Tryz.func89, Tryz.ntmps89
  go_wp2_with fail
  refine hpi.out.mono ?_
  rintro e w1 ⟨rfl, hrow1, hb1⟩
  have hV1 := Lib.hid (hVb.out _ _ _ hV0.out hb1)
  have hT1 := Lib.hid (TK.of_below hb1)
  replace hrow1 := Lib.hid hrow1
  clear hV0 hb1
  go_wp2_with fail
  go_loopg [17] np (fun ga i wr => ∃ k : Nat, k ≤ okN ∧ np ≤ k + ga ∧ i = .int .i64 k ∧ Hid (V k wr ∧ Whole wr w.heap.size 9 R ∧ TK w wr))
  case atStart => exact ⟨0, by omega, by omega, rfl, Lib.hid ⟨hV1.out, hrow1.out, hT1.out⟩⟩
  case round =>
    clear hV1 hrow1 hT1
    obtain ⟨k, hk, hg, rfl, hrel⟩ := hrel
    generalize wr = wo at *
    by_cases hlt : k < np
    · have c0 : wo.cell? ⟨w.heap.size, k, none⟩ = some (.string (B (P k))) := (hrel.out.2.1.cell k).trans (hrowAt.out k hlt)
      have s4 : wo.cell? ⟨sb, 4, none⟩ = some (.int .u32 (st : Int)) := ((hVs.out _ _ hrel.out.1).cell 4).trans hcs4
      have hse := Lib.hid (hseal.out k)
      obtain ⟨S, hS⟩ : ∃ S, Hid (B (sealL st c (P k)) = S) := ⟨_, Lib.hid rfl⟩
      have hw1 : IntKind.i64.wrap ((p : Int) + (k : Int)) = ((p + k : Nat) : Int) := by rw [IntWalk.i64_in _ (by omega)]; omega
      obtain ⟨q, hq⟩ : ∃ q : Nat, Hid (p + k = q) := ⟨_, Lib.hid rfl⟩
      have hq2 : q ≤ 2000 := by have := hq.out; omega
      obtain ⟨A, hA⟩ : ∃ A : Nat, Hid (2 + 16 * n + q = A) := ⟨_, Lib.hid rfl⟩
      have hsec : Hid (∀ W : World, W.cell? ⟨sb, 1, none⟩ = some (.int .i64 (n : Int)) → Calls Tryz.prog 95 #[.pointer (some ⟨sb, 0, none⟩), .int .i64 (q : Int)] W fun e w' => e = .returned (.int .i64 (A : Int)) ∧ W = w') := Lib.hid (fun W hc => by
        have h := sectorAt_any sb n q W (by omega) (by omega) hc
        rw [hA.out] at h
        exact h)
      by_cases hlt2 : k < okN
      · have hwr := hWr.out k hlt2
        rw [hS.out] at hse hwr
        rw [hq.out] at hw1 hwr
        rw [hA.out] at hwr
        replace hwr := Lib.hid hwr
        obtain ⟨PK, hPK⟩ : ∃ PK, Hid (P k = PK) := ⟨_, Lib.hid rfl⟩
        rw [hPK.out] at c0 hse
        clear hend hPK hS
        go_wp2_with fail
        refine (hse.out _).mono ?_
        rintro e w5 ⟨rfl, hb5⟩
        have hV5 := Lib.hid (hVb.out _ _ _ hrel.out.1 hb5)
        have hR5 := Lib.hid (hrel.out.2.1.below hb5 hrel.out.2.1.lt)
        have hT5 := Lib.hid (hrel.out.2.2.trans (TK.of_below hb5))
        have hV6 := Lib.hid (hVb.out _ _ _ hV5.out (drewBelow w5))
        have d0 : w5.drew.cell? ⟨sb, 0, none⟩ = some (.pointer (some ⟨vb, 0, none⟩)) := ((hVs.out _ _ hV6.out).cell 0).trans hcs0
        have d1 : w5.drew.cell? ⟨sb, 1, none⟩ = some (.int .i64 (n : Int)) := ((hVs.out _ _ hV6.out).cell 1).trans hcs1
        clear c0 s4 hb5
        go_wp2_with fail
        go_region_held3 (fun w' => w'.cell? ⟨sb, 0, none⟩ = some (.pointer (some ⟨vb, 0, none⟩)) ∧ w'.cell? ⟨sb, 1, none⟩ = some (.int .i64 (n : Int))) (go_keep) (first
          | (go_at_call 95; (with_reducible refine (hsec.out _ d1).mono ?_); rintro _ w6 ⟨rfl, rfl⟩)
          | (go_at_call 94; (with_reducible refine (hwr.out _ hV6.out).mono ?_); rintro _ w7 ⟨rfl, hv7, htk7⟩; have e0 := ((hVs.out _ _ hv7).cell 0).trans hcs0; have e1 := ((hVs.out _ _ hv7).cell 1).trans hcs1))
        have hfin : Hid (V (k + 1) w7 ∧ Whole w7 w.heap.size 9 R ∧ TK w w7) := Lib.hid ⟨hv7, htk7.2 _ _ _ (hR5.out.drewN 1) (by decide) (by decide) (by decide) (by decide), (hT5.out.trans (TK.of_below (drewBelow w5))).trans htk7⟩
        clear hv7 htk7 d0 d1
        go_wp2_with fail
        go_roundg (gk - 1)
        case measure => omega
        case rel => exact ⟨k + 1, by omega, by omega, by go_num, hfin⟩
      · obtain rfl : k = okN := by omega
        obtain ⟨_, hr0, hJ, hwr⟩ : _ ∧ _ ∧ _ ∧ _ := hend.out.resolve_left (fun h => by omega)
        rw [hS.out] at hse hwr
        rw [hq.out] at hw1 hwr
        rw [hA.out] at hwr
        replace hwr := Lib.hid hwr
        replace hJ := Lib.hid hJ
        have hrb : (r != 0) = true := by simp [hr0]
        obtain ⟨PK, hPK⟩ : ∃ PK, Hid (P k = PK) := ⟨_, Lib.hid rfl⟩
        rw [hPK.out] at c0 hse
        clear hend hPK hS hr0
        go_wp2_with fail
        refine (hse.out _).mono ?_
        rintro e w5 ⟨rfl, hb5⟩
        have hV5 := Lib.hid (hVb.out _ _ _ hrel.out.1 hb5)
        have hT5 := Lib.hid (hrel.out.2.2.trans (TK.of_below hb5))
        have hV6 := Lib.hid (hVb.out _ _ _ hV5.out (drewBelow w5))
        have d0 : w5.drew.cell? ⟨sb, 0, none⟩ = some (.pointer (some ⟨vb, 0, none⟩)) := ((hVs.out _ _ hV6.out).cell 0).trans hcs0
        have d1 : w5.drew.cell? ⟨sb, 1, none⟩ = some (.int .i64 (n : Int)) := ((hVs.out _ _ hV6.out).cell 1).trans hcs1
        clear c0 s4 hb5
        go_wp2_with fail
        go_region_held3 (fun w' => w'.cell? ⟨sb, 0, none⟩ = some (.pointer (some ⟨vb, 0, none⟩)) ∧ w'.cell? ⟨sb, 1, none⟩ = some (.int .i64 (n : Int))) (go_keep) (first
          | (go_at_call 95; (with_reducible refine (hsec.out _ d1).mono ?_); rintro _ w6 ⟨rfl, rfl⟩)
          | (go_at_call 94; (with_reducible refine (hwr.out _ hV6.out).mono ?_); rintro _ w7 ⟨rfl, hv7, htk7⟩; have e0 := ((hVs.out _ _ hv7).cell 0).trans hcs0; have e1 := ((hVs.out _ _ hv7).cell 1).trans hcs1))
        have hfin : Hid (V J w7 ∧ TK w w7) := Lib.hid ⟨by rw [hJ.out]; exact hv7, (hT5.out.trans (TK.of_below (drewBelow w5))).trans htk7⟩
        clear hv7 htk7 d0 d1
        go_wp2_with fail
        go_ret
        exact ⟨rfl, hfin.out⟩
    · obtain rfl : k = np := by omega
      obtain ⟨hokn, rfl, hJ⟩ : _ ∧ _ ∧ _ := hend.out.resolve_right (fun h => by omega)
      have hfin : Hid (V J wo ∧ TK w wo) := Lib.hid ⟨by rw [hJ]; exact hrel.out.1, hrel.out.2.2⟩
      clear hJ hend
      go_wp2_with fail
      go_ret
      exact ⟨rfl, hfin.out⟩
end Go.Proofs.YtgogackkeodciabGreatDoor.W
end
section
namespace Go.Proofs.YtgogackkeodciabGreatDoor.W
open Go.RowKit
open Go.Proofs.YtgogackkeodciabGreatDoor.M Go.Proofs.YtgogackkeodciabGreatDoor.D Go.Proofs.YtgogackkeodciabGreatDoor.Z
set_option linter.unusedVariables false

/-- The segment whose object is block sb. -/
structure Sg (w : World) (sb vb n a g s b : Nat) (fa : Option Addr) (fc : Nat) (fs : List (Int × ByteArray)) (E : Nat) (sl : Bool) : Prop where
  obj : Whole w sb 112 (sgL vb n a g s b (.slice fa fs.length fc) E sl)
  own : w.ownsRow 0 36 2 (.slice fa fs.length fc) fs.length (frRows fs)
  none_ : fs = [] → fa = none
/-- Is the block one of the segment's? -/
def ofS (sb : Nat) (fa : Option Addr) (q : Nat) : Prop := q = sb ∨ (Value.slice fa 0 0).ownBlock = some q
theorem ownBlock_slice (fa : Option Addr) (n c : Nat) : (Value.slice fa n c).ownBlock = (Value.slice fa 0 0).ownBlock := by cases fa <;> rfl
section
variable {w w' : World} {sb vb n a g s b : Nat} {fa : Option Addr} {fc : Nat} {fs : List (Int × ByteArray)} {E : Nat} {sl : Bool}
theorem Sg.lt (h : Sg w sb vb n a g s b fa fc fs E sl) : ∀ q, ofS sb fa q → q < w.heap.size := by
  rintro q (e | e)
  · rw [e]; exact h.obj.lt
  · rcases h.own with ⟨h0, ⟨h1, h2⟩ | ⟨k, cap, cur, h1, hB, h2, h3⟩⟩
    · injection h1 with e1 e2 e3; subst e1; cases e
    · cases h1
      have e2 : k = q := by simpa [Value.ownBlock] using e
      subst e2
      exact (Array.getElem?_eq_some_iff.1 h2).1
theorem Sg.of_kept {own : Nat → Prop} (h : Sg w sb vb n a g s b fa fc fs E sl) (hk : Kept own w w') (ho : ∀ q, ofS sb fa q → ¬ own q) : Sg w' sb vb n a g s b fa fc fs E sl :=
  ⟨h.obj.of_kept hk (ho sb (.inl rfl)), own_of_kept h.own hk (fun q hq => ho q (.inr (by rw [← ownBlock_slice fa fs.length fc]; exact hq))), h.none_⟩
theorem Sg.below (h : Sg w sb vb n a g s b fa fc fs E sl) (hb : Below w.heap.size w w') : Sg w' sb vb n a g s b fa fc fs E sl := h.of_kept (own := fun _ => False) (Kept.of_below hb) (fun _ _ h => h)
/-- What a segment's blocks are, by their types. -/
theorem Sg.typed (h : Sg w sb vb n a g s b fa fc fs E sl) : ∀ q, ofS sb fa q → ∃ t cs, Whole w q t cs ∧ (t = 112 ∨ t = 36) := by
  rintro q (e | e)
  · exact ⟨_, _, by rw [e]; exact h.obj, .inl rfl⟩
  · rcases h.own with ⟨h0, ⟨h1, h2⟩ | ⟨k, cap, cur, h1, hB, h2, h3⟩⟩
    · injection h1 with e1 e2 e3; subst e1; cases e
    · cases h1
      have e2 : k = q := by simpa [Value.ownBlock] using e
      subst e2
      exact ⟨_, cur.toList, by simpa [Whole] using h2, .inr rfl⟩
/-- A view's call leaves a segment. -/
theorem Sg.off {d g' : Nat} {v : Value} {lie : List (List UInt8)} {ws : List (Nat × List UInt8)} {from_ m : Nat} {fuse steps : Int} {gone : Bool} {vc : Nat} (h : Sg w sb vb n a g s b fa fc fs E sl) (hv : Vw w vc d g' v lie ws from_ m fuse steps gone) : ∀ q, ofS sb fa q → ¬ (q = vc ∨ mine d g' v q) := by
  intro q hq
  obtain ⟨t, cs, hw, ht⟩ := h.typed q hq
  exact off_view hv hw (by rcases ht with rfl | rfl <;> decide) (by rcases ht with rfl | rfl <;> decide) (by rcases ht with rfl | rfl <;> decide) (by rcases ht with rfl | rfl <;> decide)
/-- A segment's call leaves a view. -/
theorem Vw.of_seg {d g' : Nat} {v : Value} {lie : List (List UInt8)} {ws : List (Nat × List UInt8)} {from_ m : Nat} {fuse steps : Int} {gone : Bool} {vc : Nat} {own : Nat → Prop} (hv : Vw w vc d g' v lie ws from_ m fuse steps gone) (hk : Kept own w w') (ho : ∀ q, own q → ¬ (q = vc ∨ mine d g' v q)) : Vw w' vc d g' v lie ws from_ m fuse steps gone :=
  ⟨hv.obj.of_kept hk (fun e => ho _ e (.inl rfl)), ⟨hv.disk.obj.of_kept hk (fun e => ho _ e (.inr (.inl rfl))), hv.disk.lying.of_kept hk (fun e => ho _ e (.inr (.inr (.inl rfl)))), own_of_kept hv.disk.wait hk (fun q hq e => ho _ e (.inr (.inr (.inr hq)))), hv.disk.lie64, hv.disk.ws64, hv.disk.some_, hv.disk.few, hv.disk.within⟩, hv.fits⟩
theorem put_done {W w4 : World} {gg cap np : Nat} {k : Int} {p : ByteArray} (h : Sg w sb vb n a g s b fa fc fs E sl) (hb : Below w.heap.size w W) {o : Obj}
    (hown4 : w4.ownsRow 0 36 2 (.slice (some ⟨gg, 0, none⟩) (fs.length + 1) cap) (fs.length + 1) (frRows fs ++ [.int .i64 k, .string p]))
    (hobj4 : Whole w4 sb 112 (sgL vb n a g s b (.slice fa fs.length fc) E sl)) (hgrow4 : (W.drew.alloc o).grownBy w4 (Value.slice fa fs.length fc).ownBlock)
    (hat4 : (Value.slice fa fs.length fc).ownBlock = some gg ∨ gg = W.heap.size + 1) :
    ∃ fa' fc', Sg ((w4.setCell ⟨sb, 6, none⟩ (.slice (some ⟨gg, 0, none⟩) (fs.length + 1) cap)).setCell ⟨sb, 7, none⟩ (.int .i64 ((E + np : Nat) : Int))) sb vb n a g s b fa' fc' (fs ++ [(k, p)]) (E + np) sl ∧ (∀ q, ofS sb fa' q → ofS sb fa q ∨ w.heap.size ≤ q) ∧
      Kept (ofS sb fa) w ((w4.setCell ⟨sb, 6, none⟩ (.slice (some ⟨gg, 0, none⟩) (fs.length + 1) cap)).setCell ⟨sb, 7, none⟩ (.int .i64 ((E + np : Nat) : Int))) := by
  have hne := own_ne hown4 hobj4 (by decide)
  have hk5 : Kept (fun q => q = sb) w4 ((w4.setCell ⟨sb, 6, none⟩ (.slice (some ⟨gg, 0, none⟩) (fs.length + 1) cap)).setCell ⟨sb, 7, none⟩ (.int .i64 ((E + np : Nat) : Int))) := ((Kept.refl (fun q => q = sb) w4).setCell (c := sb) (.inl rfl) 6 _).setCell (c := sb) (.inl rfl) 7 _
  have k3 : Kept (ofS sb fa) w (W.drew.alloc o) := ((Kept.of_below (own := ofS sb fa) hb).drewN 1).alloc o
  refine ⟨some ⟨gg, 0, none⟩, cap, ⟨?_, ?_, fun e => by simp at e⟩, ?_, ?_⟩
  · rw [List.length_append]
    exact (hobj4.store 6 [.slice (some ⟨gg, 0, none⟩) (fs.length + 1) cap] (by simp)).store 7 [.int .i64 ((E + np : Nat) : Int)] (by simp [splice])
  · rw [List.length_append, frRows_add]
    exact own_of_kept hown4 hk5 hne
  · rintro q (e | e)
    · exact .inl (.inl e)
    · have e2 : gg = q := by simpa [Value.ownBlock] using e
      subst e2
      rcases hat4 with h1 | h1
      · exact .inl (.inr (by rw [← ownBlock_slice fa fs.length fc]; exact h1))
      · exact .inr (by have := hb.size; omega)
  · have k4 := k3.grown hgrow4 (fun q hq => .inl (.inr (by rw [← ownBlock_slice fa fs.length fc]; exact hq)))
    exact (k4.setCell (c := sb) (.inl (.inl rfl)) 6 _).setCell (c := sb) (.inl (.inl rfl)) 7 _
set_option maxRecDepth 100000 in
set_option maxHeartbeats 4000000 in
theorem put_any (np : Nat) (k : Int) (p : ByteArray) (h : Sg w sb vb n a g s b fa fc fs E sl) (hn : fs.length ≤ 1000) (hE : E + np ≤ 1000) :
    Calls Tryz.prog 91 #[.pointer (some ⟨sb, 0, none⟩), .agg #[.int .i64 k, .string p], .int .i64 (np : Int)] w fun e w' => e = .returned (.tuple #[]) ∧
      ∃ fa' fc', Sg w' sb vb n a g s b fa' fc' (fs ++ [(k, p)]) (E + np) sl ∧ (∀ q, ofS sb fa' q → ofS sb fa q ∨ w.heap.size ≤ q) ∧ Kept (ofS sb fa) w w' := by
  obtain ⟨i0, hi0, hz0, hz1, hz2⟩ := info_parts infoFrame
  obtain ⟨W, hW⟩ : ∃ W, Hid (W = w.alloc (.cells #[.int .i64 k, .string p] 36)) := ⟨_, Lib.hid rfl⟩
  have hbW : Below w.heap.size w W := by rw [hW.out]; exact allocBelow w _
  have hbox : Whole W w.heap.size 36 [.int .i64 k, .string p] := by rw [hW.out]; exact Whole.new w _ _
  have hS := h.below hbW
  have c6 : W.cell? ⟨sb, 6, none⟩ = some (.slice fa fs.length fc) := hS.obj.cell 6
  have f6 := hS.obj.frozen 6
  have g6 : (W.alloc (.cells #[.int .i64 k, .string p] 36)).cell? ⟨sb, 6, none⟩ = some (.slice fa fs.length fc) := (hS.obj.alloc _).cell 6
  have d0 : W.cell? ⟨w.heap.size, 0, none⟩ = some (.int .i64 k) := hbox.cell 0
  have d1 : W.cell? ⟨w.heap.size, 1, none⟩ = some (.string p) := hbox.cell 1
  have hown := Lib.hid hS.own
  have hobj := Lib.hid hS.obj
  have hne6 : Hid (∀ q, (Value.slice fa fs.length fc).ownBlock = some q → ¬ q = sb) := Lib.hid (own_ne hS.own hS.obj (by decide))
  have hsz := hbW.size
  replace hW := Lib.hid hW.out
  go_enter Tryz.func91, Tryz.ntmps91
  go_wp2_with fail
  rw [← hW.out]
  clear hW
  go_region_law
    ((refine step_append_lies _ (by rfl) _ _ _ (by rfl) 0 36 i0 _ 2 24 Tryz.underlying22 hi0 hz0 hz1 hz2 rfl (by omega) (.slice fa fs.length fc) fs.length (frRows fs) (by rfl) (hown.out.drew.alloc _) _ 1 1 [.int .i64 k, .string p] (by rfl) (by rfl) (World.news_of_block (heap_alloc_new _ _)) (by simp [Value.oneCell']) (by omega) (by unfold maxLen; omega) (by omega) (Nat.zero_le _) (W.heap.size + 1) (by simp) ?_; intro gg cap w4 hown4 hgrow4 hat4 hlt4; have hobj4 := (hobj.out.alloc (w := W.drew) (.cells #[.int .i64 k, .string p] 36)).kept hgrow4 (fun e => hne6.out _ e.symm rfl); have hc4 := hobj4.cell 6; have hf4 := hobj4.frozen 6; have hc5 := hobj4.cell 7; have hf5 := hobj4.frozen 7; simp only [List.getElem?_cons_succ, List.getElem?_cons_zero] at hc4 hc5))
  all_goals
    have hwE : IntKind.i64.wrap ((E : Int) + (np : Int)) = ((E + np : Nat) : Int) := by rw [IntWalk.i64_in _ (by omega)]; omega
    have hfin := put_done (np := np) h hbW hown4 hobj4 hgrow4 hat4
    replace hfin := Lib.hid hfin
    clear hobj hown hne6 hS hgrow4 hown4 hobj4
    go_wp2_with fail
    go_end0
    exact ⟨rfl, hfin.out⟩
end
end Go.Proofs.YtgogackkeodciabGreatDoor.W
end
section
namespace Go.Proofs.YtgogackkeodciabGreatDoor.W
open Go.RowKit
open Go.Proofs.YtgogackkeodciabGreatDoor.M Go.Proofs.YtgogackkeodciabGreatDoor.D Go.Proofs.YtgogackkeodciabGreatDoor.Z
set_option linter.unusedVariables false

/-- The place of which the frame is encoded. -/
def plS (E : Nat) : Nat := min E 15
theorem manyI_pcs (n : Nat) : manyI ((n + 7 : Nat) : Int) = ((pcsN n : Nat) : Int) := by unfold manyI pcsN; rw [if_neg (by omega)]; omega
/-- What an Append comes to. -/
def Appd (sb vb n a g s b : Nat) (fa : Option Addr) (fs : List (Int × ByteArray)) (E : Nat) (k : Int) (p : ByteArray) (np J : Nat) (r : Int) (V : Nat → World → Prop) (e : Ending) (w' : World) : Prop :=
  (r ≠ 0 ∧ e = .returned (.tuple #[.int .i64 0, .int .i64 r]) ∧ V J w') ∨
  (r = 0 ∧ e = .returned (.tuple #[.int .i64 (E : Int), .int .i64 0]) ∧ ∃ W1 fa' fc', V J W1 ∧ Sg w' sb vb n a g s b fa' fc' (fs ++ [(k, p)]) (E + np) false ∧ (∀ q, ofS sb fa' q → ofS sb fa q ∨ W1.heap.size ≤ q) ∧ Kept (ofS sb fa) W1 w')
theorem append_nil (k : Int) (p : ByteArray) (w : World) :
    Calls Tryz.prog 75 #[.pointer none, .agg #[.int .i64 k, .string p]] w fun e w' => e = .returned (.tuple #[.int .i64 0, .int .i64 7]) ∧ Below w.heap.size w w' := by
  have hB := Lib.hid (allocBelow w (.cells #[.int .i64 k, .string p] 36))
  go_enter Tryz.func75, Tryz.ntmps75
  go_wp2_with fail
  go_ret2
  exact ⟨rfl, hB.out⟩
section
variable {w : World} {sb vb n a g s b : Nat} {fa : Option Addr} {fc : Nat} {fs : List (Int × ByteArray)} {E : Nat}
theorem append_sealed (k : Int) (p : ByteArray) (h : Sg w sb vb n a g s b fa fc fs E true) :
    Calls Tryz.prog 75 #[.pointer (some ⟨sb, 0, none⟩), .agg #[.int .i64 k, .string p]] w fun e w' => e = .returned (.tuple #[.int .i64 0, .int .i64 39]) ∧ Below w.heap.size w w' := by
  have hB := Lib.hid (allocBelow w (.cells #[.int .i64 k, .string p] 36))
  have c8 : (w.alloc (.cells #[.int .i64 k, .string p] 36)).cell? ⟨sb, 8, none⟩ = some (.bool true) := (h.obj.alloc _).cell 8
  clear h
  go_enter Tryz.func75, Tryz.ntmps75
  go_wp2_with fail
  go_ret2
  exact ⟨rfl, hB.out⟩
set_option maxRecDepth 100000 in
set_option maxHeartbeats 4000000 in
theorem append_no (k : Int) (p : ByteArray) (h : Sg w sb vb n a g s b fa fc fs E false) (hs : s < 4294967296) (hE : E ≤ 16) (hp : p.size ≤ 1000000) (hc : wrongF ((plS E : Nat) : Int) k p.size ≠ 0) :
    Calls Tryz.prog 75 #[.pointer (some ⟨sb, 0, none⟩), .agg #[.int .i64 k, .string p]] w fun e w' => e = .returned (.tuple #[.int .i64 0, .int .i64 (wrongF ((plS E : Nat) : Int) k p.size)]) ∧ Below w.heap.size w w' := by
  have hen := fun W => encode_no (s : Int) ((plS E : Nat) : Int) k p W hp hc
  obtain ⟨x, hx⟩ : ∃ x, Hid (wrongF ((plS E : Nat) : Int) k p.size = x) := ⟨_, Lib.hid rfl⟩
  rw [hx.out] at hen hc ⊢
  obtain ⟨pl, hpl⟩ : ∃ pl : Nat, Hid (plS E = pl) := ⟨_, Lib.hid rfl⟩
  have hmin : min (E : Int) 15 = (pl : Int) := by have h := hpl.out; unfold plS at h; omega
  rw [hpl.out] at hen
  have hxb : (x != 0) = true := by simp [hc]
  obtain ⟨W, hW⟩ : ∃ W, Hid (W = w.alloc (.cells #[.int .i64 k, .string p] 36)) := ⟨_, Lib.hid rfl⟩
  have hbW : Below w.heap.size w W := by rw [hW.out]; exact allocBelow w _
  have hbox : Whole W w.heap.size 36 [.int .i64 k, .string p] := by rw [hW.out]; exact Whole.new w _ _
  have hS := h.below hbW
  have c4 : W.cell? ⟨sb, 4, none⟩ = some (.int .u32 (s : Int)) := hS.obj.cell 4
  have c7 : W.cell? ⟨sb, 7, none⟩ = some (.int .i64 (E : Int)) := hS.obj.cell 7
  have c8 : W.cell? ⟨sb, 8, none⟩ = some (.bool false) := hS.obj.cell 8
  have d0 : W.cell? ⟨w.heap.size, 0, none⟩ = some (.int .i64 k) := hbox.cell 0
  have d1 : W.cell? ⟨w.heap.size, 1, none⟩ = some (.string p) := hbox.cell 1
  replace hen := Lib.hid hen
  replace hc := Lib.hid hc
  clear h hS hbox hx
  go_enter Tryz.func75, Tryz.ntmps75
  go_upto_region 1 with fail
  rw [← show W = _ from hW.out]
  clear hW
  go_wp2_with fail
  go_region_held3 (fun w' => w'.cell? ⟨sb, 4, none⟩ = some (.int .u32 (s : Int)) ∧ w'.cell? ⟨w.heap.size, 0, none⟩ = some (.int .i64 k) ∧ w'.cell? ⟨w.heap.size, 1, none⟩ = some (.string p)) (go_keep) (first
    | (go_at_call 88; (with_reducible refine (hen.out _).mono ?_); rintro _ w5 ⟨rfl, hb5⟩; have e4 := keepCell hb5 c4; have e0 := keepCell hb5 d0; have e1 := keepCell hb5 d1)
    | (refine stepMinZ (by rfl) _ _ _ _ (by rfl) (E : Int) 15 (pl : Int) (by rfl) (by rfl) hmin ?_))
  all_goals
    have hfin := Lib.hid (hbW.trans ((below_of_drewB hb5).mono hbW.size))
    clear c4 c7 c8 d0 d1 e4 e0 e1 hb5
    go_wp2_with fail
    go_ret2
    exact ⟨rfl, hfin.out⟩
set_option maxRecDepth 100000 in
set_option maxHeartbeats 4000000 in
theorem append_full (k : Int) (p : ByteArray) (h : Sg w sb vb n a g s b fa fc fs E false) (hs : s < 4294967296) (hE : E ≤ 16) (hc : wrongF ((plS E : Nat) : Int) k p.size = 0) (hf : 16 < E + pcsN p.size) :
    Calls Tryz.prog 75 #[.pointer (some ⟨sb, 0, none⟩), .agg #[.int .i64 k, .string p]] w fun e w' => e = .returned (.tuple #[.int .i64 0, .int .i64 5]) ∧ Below w.heap.size w w' := by
  obtain ⟨z1, z2, z3, z4, z5⟩ := wrong_zero hc
  have hen := fun W => encode_yes (s : Int) ((plS E : Nat) : Int) k p W (by omega) (by omega) z1 z2 ⟨z3, z4⟩ z5
  have hLl : (B (encF (s : Int) ((plS E : Nat) : Int) k p.data.toList)).size = p.size + 7 := by
    rw [B_size, encF_len, Array.length_toList]
    exact Nat.add_comm _ _
  obtain ⟨L, hL⟩ : ∃ L, Hid (B (encF (s : Int) ((plS E : Nat) : Int) k p.data.toList) = L) := ⟨_, Lib.hid rfl⟩
  rw [hL.out] at hen hLl
  have hma := fun W => many_any ((p.size + 7 : Nat) : Int) W (by omega) (by omega)
  rw [manyI_pcs] at hma
  obtain ⟨np, hnp⟩ : ∃ np, Hid (pcsN p.size = np) := ⟨_, Lib.hid rfl⟩
  rw [hnp.out] at hma hf
  obtain ⟨pz, hpz⟩ : ∃ pz : Nat, Hid (p.size + 7 = pz) := ⟨_, Lib.hid rfl⟩
  rw [hpz.out] at hma hLl
  obtain ⟨pl, hpl⟩ : ∃ pl : Nat, Hid (plS E = pl) := ⟨_, Lib.hid rfl⟩
  have hmin : min (E : Int) 15 = (pl : Int) := by have h := hpl.out; unfold plS at h; omega
  rw [hpl.out] at hen
  have hsub : IntKind.i64.wrap (16 - (E : Int)) = ((16 - E : Nat) : Int) := by rw [IntWalk.i64_in _ (by omega)]; omega
  obtain ⟨room, hroom⟩ : ∃ room : Nat, Hid (16 - E = room) := ⟨_, Lib.hid rfl⟩
  rw [hroom.out] at hsub
  have hlt : (room : Int) < (np : Int) := by have := hroom.out; omega
  obtain ⟨W, hW⟩ : ∃ W, Hid (W = w.alloc (.cells #[.int .i64 k, .string p] 36)) := ⟨_, Lib.hid rfl⟩
  have hbW : Below w.heap.size w W := by rw [hW.out]; exact allocBelow w _
  have hbox : Whole W w.heap.size 36 [.int .i64 k, .string p] := by rw [hW.out]; exact Whole.new w _ _
  have hS := h.below hbW
  have c4 : W.cell? ⟨sb, 4, none⟩ = some (.int .u32 (s : Int)) := hS.obj.cell 4
  have c7 : W.cell? ⟨sb, 7, none⟩ = some (.int .i64 (E : Int)) := hS.obj.cell 7
  have c8 : W.cell? ⟨sb, 8, none⟩ = some (.bool false) := hS.obj.cell 8
  have d0 : W.cell? ⟨w.heap.size, 0, none⟩ = some (.int .i64 k) := hbox.cell 0
  have d1 : W.cell? ⟨w.heap.size, 1, none⟩ = some (.string p) := hbox.cell 1
  replace hen := Lib.hid hen
  replace hma := Lib.hid hma
  clear h hS hbox hL z1 z2 z3 z4 z5 hc
  go_enter Tryz.func75, Tryz.ntmps75
  go_upto_region 1 with fail
  rw [← show W = _ from hW.out]
  clear hW
  go_wp2_with fail
  go_region_held3 (fun w' => w'.cell? ⟨sb, 4, none⟩ = some (.int .u32 (s : Int)) ∧ w'.cell? ⟨w.heap.size, 0, none⟩ = some (.int .i64 k) ∧ w'.cell? ⟨w.heap.size, 1, none⟩ = some (.string p)) (go_keep) (first
    | (go_at_call 88; (with_reducible refine (hen.out _).mono ?_); rintro _ w5 ⟨rfl, hb5⟩; have e4 := keepCell hb5 c4; have e0 := keepCell hb5 d0; have e1 := keepCell hb5 d1)
    | (refine stepMinZ (by rfl) _ _ _ _ (by rfl) (E : Int) 15 (pl : Int) (by rfl) (by rfl) hmin ?_))
  all_goals
    have hfin := Lib.hid (hbW.trans ((below_of_drewB hb5).mono hbW.size))
    clear c4 c7 c8 d0 d1 e4 e0 e1 hb5
    go_wp2_with fail
    refine (hma.out _).mono ?_
    rintro _ w6 ⟨rfl, rfl⟩
    go_wp2_with fail
    go_ret2
    exact ⟨rfl, hfin.out⟩
set_option maxRecDepth 100000 in
set_option maxHeartbeats 8000000 in
theorem append_by (k : Int) (p : ByteArray) (np okN J : Nat) (r : Int) (V : Nat → World → Prop) (h : Sg w sb vb n a g s b fa fc fs E false) (hn : n ≤ 1000) (hs : s < 4294967296) (hfs : fs.length ≤ 1000) (hE1 : 1 ≤ E) (hE : E + np ≤ 16) (hc : wrongF ((plS E : Nat) : Int) k p.size = 0) (hnp : pcsN p.size = np)
    (hV0 : V 0 w) (hVb : ∀ j W W', V j W → Below W.heap.size W W' → V j W') (hVs : ∀ j W, V j W → Sg W sb vb n a g s b fa fc fs E false)
    (hWr : ∀ j, j < okN → ∀ W, V j W → Calls Tryz.prog 94 #[.pointer (some ⟨vb, 0, none⟩), .int .i64 ((2 + 16 * n + (E + j) : Nat) : Int), .string (B (sealL s (fs.length + 2) (pcL (encF (s : Int) (E : Int) k p.data.toList) j)))] W fun e w' => e = .returned (.int .i64 0) ∧ V (j + 1) w' ∧ TK W w')
    (hok : okN ≤ np)
    (hend : (okN = np ∧ r = 0 ∧ J = np) ∨ (okN < np ∧ r ≠ 0 ∧ J = okN + 1 ∧ ∀ W, V okN W → Calls Tryz.prog 94 #[.pointer (some ⟨vb, 0, none⟩), .int .i64 ((2 + 16 * n + (E + okN) : Nat) : Int), .string (B (sealL s (fs.length + 2) (pcL (encF (s : Int) (E : Int) k p.data.toList) okN)))] W fun e w' => e = .returned (.int .i64 r) ∧ V (okN + 1) w' ∧ TK W w')) :
    Calls Tryz.prog 75 #[.pointer (some ⟨sb, 0, none⟩), .agg #[.int .i64 k, .string p]] w fun e w' =>
      Appd sb vb n a g s b fa fs E k p np J r V e w' := by
  obtain ⟨z1, z2, z3, z4, z5⟩ := wrong_zero hc
  have hnz : 1 ≤ np := by rw [← hnp]; unfold pcsN; omega
  have hplE : plS E = E := by unfold plS; omega
  rw [hplE] at z3 z4
  have hen := fun W => encode_yes (s : Int) (E : Int) k p W (by omega) (by omega) z1 z2 ⟨z3, z4⟩ z5
  have hLl : (B (encF (s : Int) (E : Int) k p.data.toList)).size = p.size + 7 := by
    rw [B_size, encF_len, Array.length_toList]
    exact Nat.add_comm _ _
  obtain ⟨L, hL⟩ : ∃ L, Hid (B (encF (s : Int) (E : Int) k p.data.toList) = L) := ⟨_, Lib.hid rfl⟩
  have hLd : encF (s : Int) (E : Int) k p.data.toList = L.data.toList := by rw [← hL.out, B_data]
  rw [hL.out] at hen hLl
  simp only [hLd] at hWr hend
  have hma := fun W => many_any ((p.size + 7 : Nat) : Int) W (by omega) (by omega)
  rw [manyI_pcs, hnp] at hma
  have hlay := fun (W : World) (hW : V 0 W) => lay_any vb sb n E s (fs.length + 2) np okN J 0 r (sgL vb n a g s b (.slice fa fs.length fc) E false) L V W rfl rfl rfl (by omega) (by rw [hLl]; exact hnp) hn (by omega) hs (by omega) (by omega) hW hVb (fun j W hW => (hVs j W hW).obj) hWr hok hend
  have hcnt := fun (W : World) (hW : V 0 W) => count_any sb fa fs.length fc W (by omega) ((hVs 0 W hW).obj.cell 6)
  have hput := fun (W : World) (hW : V J W) => put_any np k p (hVs J W hW) hfs (by omega)
  obtain ⟨pz, hpz⟩ : ∃ pz : Nat, Hid (p.size + 7 = pz) := ⟨_, Lib.hid rfl⟩
  rw [hpz.out] at hma hLl
  have hmin : min (E : Int) 15 = (E : Int) := by omega
  have hsub : IntKind.i64.wrap (16 - (E : Int)) = ((16 - E : Nat) : Int) := by rw [IntWalk.i64_in _ (by omega)]; omega
  obtain ⟨room, hroom⟩ : ∃ room : Nat, Hid (16 - E = room) := ⟨_, Lib.hid rfl⟩
  rw [hroom.out] at hsub
  have hlt : (np : Int) ≤ (room : Int) := by have := hroom.out; omega
  obtain ⟨W, hW⟩ : ∃ W, Hid (W = w.alloc (.cells #[.int .i64 k, .string p] 36)) := ⟨_, Lib.hid rfl⟩
  have hbW : Below w.heap.size w W := by rw [hW.out]; exact allocBelow w _
  have hbox : Whole W w.heap.size 36 [.int .i64 k, .string p] := by rw [hW.out]; exact Whole.new w _ _
  have hS := h.below hbW
  have c4 : W.cell? ⟨sb, 4, none⟩ = some (.int .u32 (s : Int)) := hS.obj.cell 4
  have c7 : W.cell? ⟨sb, 7, none⟩ = some (.int .i64 (E : Int)) := hS.obj.cell 7
  have c8 : W.cell? ⟨sb, 8, none⟩ = some (.bool false) := hS.obj.cell 8
  have d0 : W.cell? ⟨w.heap.size, 0, none⟩ = some (.int .i64 k) := hbox.cell 0
  have d1 : W.cell? ⟨w.heap.size, 1, none⟩ = some (.string p) := hbox.cell 1
  have hVW := Lib.hid (hVb _ _ _ hV0 hbW)
  have hcl := Lib.hid (fun W => clone_str p W (by omega))
  have hfar : Hid (¬ ofS sb fa w.heap.size) := Lib.hid (fun e => Nat.lt_irrefl _ (h.lt _ e))
  replace hen := Lib.hid hen
  replace hma := Lib.hid hma
  replace hlay := Lib.hid hlay
  replace hcnt := Lib.hid hcnt
  replace hput := Lib.hid hput
  replace hVb := Lib.hid hVb
  replace hbox := Lib.hid hbox
  clear h hS hL hLd z1 z2 z3 z4 z5 hc hVs hWr hend hV0 hplE
  go_enter Tryz.func75, Tryz.ntmps75
  go_upto_region 1 with fail
  rw [← show W = _ from hW.out]
  clear hW
  go_wp2_with fail
  go_region_held3 (fun w' => w'.cell? ⟨sb, 4, none⟩ = some (.int .u32 (s : Int)) ∧ w'.cell? ⟨w.heap.size, 0, none⟩ = some (.int .i64 k) ∧ w'.cell? ⟨w.heap.size, 1, none⟩ = some (.string p)) (go_keep) (first
    | (go_at_call 88; (with_reducible refine (hen.out _).mono ?_); rintro _ w5 ⟨rfl, hb5⟩; have e4 := keepCell hb5 c4; have e0 := keepCell hb5 d0; have e1 := keepCell hb5 d1)
    | (refine stepMinZ (by rfl) _ _ _ _ (by rfl) (E : Int) 15 (E : Int) (by rfl) (by rfl) hmin ?_))
  all_goals
    have hV5 := Lib.hid (hVb.out _ _ _ hVW.out (below_of_drewB hb5))
    have hbox5 := Lib.hid (hbox.out.below (below_of_drewB hb5) hbox.out.lt)
    clear c4 c7 c8 d0 d1 e4 e0 e1 hb5
    go_wp2_with fail
    refine (hma.out _).mono ?_
    rintro _ w6 ⟨rfl, rfl⟩
    go_wp2_with fail
    refine (hcnt.out _ hV5.out).mono ?_
    rintro _ w6 ⟨rfl, rfl⟩
    go_wp2_with fail
    refine (hlay.out _ hV5.out).mono ?_
    rintro _ w7 ⟨rfl, hV7, hk7⟩
    have hbox7 := hk7.2 _ _ _ hbox5.out (by decide) (by decide) (by decide) (by decide)
    clear hk7
    by_cases hr : r = 0
    · subst hr
      have hV8 := Lib.hid (hVb.out _ _ _ hV7 (drewBelow w7))
      have d0 : w7.drew.cell? ⟨w.heap.size, 0, none⟩ = some (.int .i64 k) := hbox7.cell 0
      have d1 : w7.drew.cell? ⟨w.heap.size, 1, none⟩ = some (.string p) := hbox7.cell 1
      go_wp2_with fail
      go_region_held3 (fun w' => w'.cell? ⟨w.heap.size, 0, none⟩ = some (.int .i64 k) ∧ w'.cell? ⟨w.heap.size, 1, none⟩ = some (.string p)) (go_keep) (first
        | (go_at_call 92; (with_reducible refine (hcl.out _).mono ?_); rintro _ w8 ⟨rfl, hb8⟩; have f0 := keepCell hb8 d0; have f1 := keepCell hb8 d1; have hV9 := Lib.hid (hVb.out _ _ _ hV8.out hb8))
        | (go_at_call 91; (with_reducible refine (hput.out _ hV9.out).mono ?_); rintro _ w9 ⟨rfl, fa', fc', hS9, hf9, hk9⟩; have hl9 := World.block_lt_of_cell? _ _ f0; have g0 := (World.cell?_of_block (hk9.block w.heap.size hl9 hfar.out)).trans f0; have g1 := (World.cell?_of_block (hk9.block w.heap.size hl9 hfar.out)).trans f1))
      have hfin := Lib.hid (show ∃ W1 fa' fc', V J W1 ∧ Sg w9 sb vb n a g s b fa' fc' (fs ++ [(k, p)]) (E + np) false ∧ (∀ q, ofS sb fa' q → ofS sb fa q ∨ W1.heap.size ≤ q) ∧ Kept (ofS sb fa) W1 w9 from ⟨w8, fa', fc', hV9.out, hS9, hf9, hk9⟩)
      clear g0 g1 f0 f1 d0 d1 hk9 hS9
      go_wp2_with fail
      go_ret2
      exact .inr ⟨rfl, rfl, hfin.out⟩
    · have hrb : (r != 0) = true := by simp [hr]
      replace hV7 := Lib.hid hV7
      clear hbox7
      go_wp2_with fail
      go_ret2
      exact .inl ⟨hr, rfl, hV7.out⟩
end
end Go.Proofs.YtgogackkeodciabGreatDoor.W
end
