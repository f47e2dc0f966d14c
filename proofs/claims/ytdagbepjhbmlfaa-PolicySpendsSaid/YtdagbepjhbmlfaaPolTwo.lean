/- The small case that each statement of layer 5 asks. -/
import Derived.Test.YtdagbepjhbmlfaaProg
import Derived.Test.YtdagbepjhbmlfaaPolNew
import Derived.Test.YtdagbepjhbmlfaaSpend
import Derived.Test.YtdagbepjhbmlfaaMade
namespace Go.Proofs.Ytdagbepjhbmlfaa.Q
open Go.RowKit
open Go.Proofs.Ytdagbepjhbmlfaa.Z
open Go.Proofs.Ytdagbepjhbmlfaa.D (Whole Kept)
open Go.Proofs.Ytdagbepjhbmlfaa.L (Lat hasB Tab Full wrongN)
set_option linter.unusedVariables false

def twoB : Nat → Nat → Bool := fun a b => a == b || a == 0
def twoW (w : World) : World := ((w.alloc (.cells #[.bool true, .bool true] 4)).alloc (.cells #[.bool false, .bool true] 4)).alloc
  (.cells #[.slice (some ⟨w.heap.size, 0, none⟩) 2 2, .slice (some ⟨w.heap.size + 1, 0, none⟩) 2 2] 87)
theorem two_lt {p : Nat → Prop} (h0 : p 0) (h1 : p 1) : ∀ k, k < 2 → p k := fun k hk => by
  rcases (by omega : k = 0 ∨ k = 1) with rfl | rfl <;> assumption
theorem heap_newQ (w : World) (o : Obj) (n : Nat) (h : n = w.heap.size) : (w.alloc o).heap[n]? = some o := by rw [h]; exact heap_alloc_new w o
theorem heap_oldQ {w : World} {o q : Obj} {n : Nat} (h : w.heap[n]? = some o) : (w.alloc q).heap[n]? = some o := (Below.heap_alloc w q n (Array.getElem?_eq_some_iff.1 h).1).trans h
theorem two_heap (w : World) :
    (twoW w).heap[w.heap.size]? = some (.cells #[.bool true, .bool true] 4) ∧ (twoW w).heap[w.heap.size + 1]? = some (.cells #[.bool false, .bool true] 4) ∧
    (twoW w).heap[w.heap.size + 2]? = some (.cells #[.slice (some ⟨w.heap.size, 0, none⟩) 2 2, .slice (some ⟨w.heap.size + 1, 0, none⟩) 2 2] 87) := by
  unfold twoW
  exact ⟨heap_oldQ (heap_oldQ (heap_newQ _ _ _ rfl)), heap_oldQ (heap_newQ _ _ _ (by simp)), heap_newQ _ _ _ (by simp)⟩
theorem two_tab (w : World) : Tab (twoW w) (some ⟨w.heap.size + 2, 0, none⟩) 2 (fun r => some ⟨w.heap.size + r, 0, none⟩) (fun _ => 2) (fun _ => 2) twoB := by
  obtain ⟨h0, h1, h2⟩ := two_heap w
  refine ⟨by unfold maxLen; omega, two_lt ?_ ?_, ?_⟩
  · exact ⟨_, _, rfl, (cell_of_row _ _ 0 _ _ _ h2).trans rfl, by unfold maxLen; omega⟩
  · exact ⟨_, _, rfl, (cell_of_row _ _ 1 _ _ _ h2).trans rfl, by unfold maxLen; omega⟩
  · intro r c hr hc
    refine ⟨w.heap.size + r, 0, rfl, ?_⟩
    have hall : ∀ r, r < 2 → ∀ c, c < 2 → (twoW w).cell? ⟨w.heap.size + r, 0 + c, none⟩ = some (.bool (twoB r c)) := two_lt
      (two_lt ((cell_of_row _ _ 0 _ _ _ h0).trans rfl) ((cell_of_row _ _ 1 _ _ _ h0).trans rfl))
      (two_lt ((cell_of_row _ _ 0 _ _ _ h1).trans rfl) ((cell_of_row _ _ 1 _ _ _ h1).trans rfl))
    exact hall r hr c hc
theorem two_below (w : World) : Below w.heap.size w (twoW w) := by
  unfold twoW
  exact (((Below.refl _ _).alloc (Nat.le_refl _) _).alloc (by simp) _).alloc (by simp; omega) _
theorem two_ok : wrongN 2 (fun _ => 2) twoB = 0 := by decide
/-- One rule, from 1 down to 0. -/
def oneR (b : Int) : Nat → Rule1 := fun _ => ⟨1, 0, b⟩
theorem one_ok (b : Int) (h1 : 1 ≤ b) (h2 : b ≤ 1048576) : polWrong 2 twoB (oneR b) 1 = 0 := by
  have hE : ruleE 2 twoB ⟨1, 0, b⟩ = 0 := by
    simp [ruleE, hasB, pointB, h1, h2, twoB]
  simp [polWrong, firstBad, ruleF, oneR, hE, sameB]
theorem one_rls (w : World) (b : Int) : Rls (w.alloc (.cells #[.int .i64 1, .int .i64 0, .int .i64 b] 69)) (some ⟨w.heap.size, 0, none⟩) 1 1 (oneR b) := by
  have hall := fun i => (Whole.new w 69 [.int .i64 1, .int .i64 0, .int .i64 b]).cell i
  refine ⟨Nat.le_refl _, by decide, (fun h => by cases h), fun k hk => ?_⟩
  obtain rfl : k = 0 := by omega
  exact ⟨w.heap.size, 0, rfl, hall 0, hall 1, hall 2⟩

set_option maxHeartbeats 2000000 in
set_option maxRecDepth 100000 in
theorem two_any (w : World) :
    Calls Try.prog 30 #[] w fun e w' => e = .returned (.bool true) ∧ Below w.heap.size w w' := by
  have hT := two_tab w
  have hB := two_below w
  go_enter Try.func30, Try.ntmps30
  go_wp2_with fail
  refine (Go.Proofs.Ytdagbepjhbmlfaa.L.new_any (some ⟨w.heap.size + 2, 0, none⟩) 2 2 _ _ _ _ (twoW w) hT).mono ?_
  rintro e w1 (⟨hne, _⟩ | ⟨_, lp, rfl, hF, hb1⟩)
  · exact absurd two_ok hne
  replace hb1 := hB.trans (hb1.mono hB.size)
  have hL := hF.lat
  clear hT hB hF
  obtain ⟨W2, hW2⟩ : ∃ W, Hid (W = w1.alloc (.cells #[.int .i64 1, .int .i64 0, .int .i64 2] 69)) := ⟨_, Lib.hid rfl⟩
  have hb2 : Below w1.heap.size w1 W2 := by rw [hW2.out]; exact allocB w1 _
  have hR : Rls W2 (some ⟨w1.heap.size, 0, none⟩) 1 1 (oneR 2) := by rw [hW2.out]; exact one_rls w1 2
  have hN := Lib.hid (polnew_any lp 2 twoB _ 1 1 (oneR 2) W2 (latB hL hb2) hR)
  replace hb2 := hb1.trans (hb2.mono hb1.size)
  clear hR hL hb1
  go_wp2_with fail
  rw [← hW2.out]
  refine hN.out.mono ?_
  rintro e w3 (⟨hne, _⟩ | ⟨_, p, rfl, hP, hb3⟩)
  · exact absurd (one_ok 2 (by decide) (by decide)) hne
  clear hN hW2
  replace hb3 := hb2.trans (hb3.mono hb2.size)
  clear hb2
  have hPol := hP.pol
  clear hP
  obtain ⟨B, hBB⟩ : ∃ B, Hid (w3.heap.size = B) := ⟨_, Lib.hid rfl⟩
  rw [hBB.out] at hPol
  go_wp2_with fail
  refine (ledger_in B p 1 (oneR 2) w3 10 hPol (by omega)).mono ?_
  rintro e w4 ⟨rfl, hb4, hLed⟩
  rw [hBB.out] at hLed ⊢
  replace hb4 := hb3.trans (hb4.mono hb3.size)
  have hgw : w.heap.size ≤ B := by rw [← hBB.out]; exact hb3.size
  clear hb3 hPol hBB
  have hkb : Hid (∀ a c : World, Below w.heap.size w a → Kept (fun b => b = B) a c → Below w.heap.size w c) := Lib.hid (fun a c h1 h2 => h1.trans (h2.below h1.size (fun k hk => by omega)))
  go_wp2_with fail
  refine (spend_one B B p 1 (oneR 2) 10 0 _ _ 0 hLed (by omega) (by decide)).mono ?_
  rintro e w5 ⟨rfl, hk5, hL5⟩
  replace hk5 := hkb.out _ _ hb4 hk5
  clear hb4 hLed
  go_wp2_with fail
  refine (spend_one B B p 1 (oneR 2) 10 0 _ _ 0 hL5 (by omega) (by decide)).mono ?_
  rintro e w6 ⟨rfl, hk6, hL6⟩
  replace hk6 := hkb.out _ _ hk5 hk6
  clear hk5 hL5
  go_wp2_with fail
  refine (spend_none B B p 1 (oneR 2) 10 0 _ _ 0 hL6 (by omega) (by decide)).mono ?_
  rintro e w7 ⟨rfl, hb7⟩
  have hL7 := hL6.below hb7
  replace hb7 := Lib.hid (hk6.trans (hb7.mono hk6.size))
  clear hk6 hL6
  replace hL7 := Lib.hid hL7
  go_wp2_with fail
  go_loopg [35] 10 (fun ga i wr => ∃ k : Nat, k ≤ 10 ∧ 10 ≤ k + ga ∧ i = .int .i64 k ∧ Hid (Below w.heap.size w wr) ∧ Hid (∃ sp, Led wr B B p 1 (oneR 2) 10 (if k = 10 then 0 else k) sp ∧ (k = 10 → sp 0 = 0)))
  case atStart => exact ⟨0, by omega, by omega, rfl, hb7, Lib.hid ⟨_, hL7.out, fun h => by omega⟩⟩
  case round =>
    clear hb7 hL7
    obtain ⟨k, hk, hg, rfl, hb, hex⟩ := hrel
    obtain ⟨sp, hL, hsp⟩ := hex.out
    clear hex
    by_cases hlt : k < 10
    · rw [if_neg (by omega)] at hL
      go_wp2_with fail
      refine (tick_any B B p 1 (oneR 2) 10 k sp _ hL).mono ?_
      rintro e w8 ⟨rfl, hk8, hL8⟩
      have hb8 := Lib.hid (hkb.out _ _ hb.out hk8)
      have hL9 : Hid (∃ sp, Led w8 B B p 1 (oneR 2) 10 (if k + 1 = 10 then 0 else k + 1) sp ∧ (k + 1 = 10 → sp 0 = 0)) := Lib.hid ⟨_, hL8, fun h => by simp [tickS, h]⟩
      clear hL hk8 hL8 hb hsp
      go_wp2_with fail
      go_roundg (gk - 1)
      case measure => omega
      case rel => exact ⟨k + 1, by omega, by omega, by go_num, hb8, hL9⟩
    · obtain rfl : k = 10 := by omega
      rw [if_pos rfl] at hL
      have hs0 := hsp rfl
      clear hsp
      replace hb := hb.out
      go_wp2_with fail
      refine (spend_one B B p 1 (oneR 2) 10 0 _ _ 0 hL (by omega) (by rw [hs0]; decide)).mono ?_
      rintro e w8 ⟨rfl, hk8, hL8⟩
      replace hk8 := hkb.out _ _ hb hk8
      clear hb hL
      have hx : (oneR 2 0).bud - (more sp 0 0 : Nat) = 1 := by simp [more, hs0, oneR]
      go_wp2_with fail
      refine (left_in B B p 1 (oneR 2) 10 0 _ _ 0 hL8 (by omega)).mono ?_
      rintro e w9 ⟨rfl, hb9⟩
      have hP9 := (hL8.below hb9).pol
      rw [hx]
      replace hb9 := hk8.trans (hb9.mono hk8.size)
      clear hk8 hL8 hx
      go_wp2_with fail
      refine (psize_any B p 1 (oneR 2) _ hP9).mono ?_
      rintro e w10 ⟨rfl, rfl⟩
      go_wp2_with fail
      go_ret
      exact ⟨rfl, hb9⟩
end Go.Proofs.Ytdagbepjhbmlfaa.Q
