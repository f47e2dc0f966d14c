/- The lattice: the nearest labels of pairs, and the maps of them. -/
import Derived.Test.YtdagbepjhbmlfaaProg
import Derived.Test.YtdagbepjhbmlfaaLattice
import Derived.Test.YtdagbepjhbmlfaaPairs
import Derived.Deep.MidRow
import Derived.Maps.OwnSet
import Derived.Maps.OwnOps
namespace Go.Proofs.Ytdagbepjhbmlfaa.L
open Go.RowKit
set_option linter.unusedVariables false

theorem box1_cell (w : World) (v : Value) (t : TypeId) : (w.alloc (.cells #[v] t)).cell? ⟨w.heap.size, 0, none⟩ = some v :=
  (cell_of_row _ _ 0 #[v] t (0, 0) (heap_alloc_new w _)).trans rfl
theorem old_cell {w : World} {q : Addr} {v : Value} (o : Obj) (h : w.cell? q = some v) : (w.alloc o).cell? q = some v := by
  rw [World.cell?_alloc_lt _ _ _ (World.block_lt_of_cell? w _ h)]; exact h

/-- A method of the object that tells of two labels whether the one is beyond the other. -/
structure Beyond (g p n : Nat) (F R : Nat → Nat → Bool) : Prop where
  enter : ∀ (args : Array Value) (w : World), (callFunc g args).run Try.prog w = .ok (.enter g args) w
  tells : ∀ (a b : Nat) (w : World), a < n → b < n → Lat w p n F → Calls Try.prog g #[.pointer (some ⟨p, 0, none⟩), .int .i64 a, .int .i64 b] w fun e w' => e = .returned (.bool (R a b)) ∧ w = w'
theorem beyond_flows (p n : Nat) (F : Nat → Nat → Bool) : Beyond 74 p n F F := ⟨fun _ _ => by kernel_rfl, fun a b w ha hb h => flows_in p n a b F w h ha hb⟩
theorem beyond_comes (p n : Nat) (F : Nat → Nat → Bool) : Beyond 75 p n F (turn F) := ⟨fun _ _ => by kernel_rfl, fun a b w ha hb h => comes_in p n a b F w h ha hb⟩
theorem Lat.below {w w' : World} {p n B : Nat} {F : Nat → Nat → Bool} (h : Lat w p n F) (hb : Below B w w') (hp : p < B) : Lat w' p n F :=
  ⟨h.small, (hb.cell (p := ⟨p, 0, none⟩) hp).trans h.size, fun a b ha hb' => (hb.cell (p := ⟨p, 1 + a * 6 + b, none⟩) hp).trans (h.flows a b ha hb')⟩
theorem Lat.lt {w : World} {p n : Nat} {F : Nat → Nat → Bool} (h : Lat w p n F) : p < w.heap.size := World.block_lt_of_cell? w ⟨p, 0, none⟩ h.size

theorem both_any (g p n a b c q1 q2 q3 : Nat) (F R : Nat → Nat → Bool) (w : World) (hB : Beyond g p n F R) (h : Lat w p n F) (ha : a < n) (hb : b < n) (hc : c < n)
    (h1 : w.cell? ⟨q1, 0, none⟩ = some (.func (.func g) #[.pointer (some ⟨p, 0, none⟩)] #[])) (h2 : w.cell? ⟨q2, 0, none⟩ = some (.int .i64 a)) (h3 : w.cell? ⟨q3, 0, none⟩ = some (.int .i64 b)) :
    Calls Try.prog 90 #[.int .i64 c, .pointer (some ⟨q1, 0, none⟩), .pointer (some ⟨q2, 0, none⟩), .pointer (some ⟨q3, 0, none⟩)] w fun e w' => e = .returned (.bool (R a c && R b c)) ∧ w = w' := by
  have eg := hB.enter
  have k1 := hB.tells a c w ha hc h
  have k2 := hB.tells b c w hb hc h
  replace k1 := Lib.hid k1
  replace k2 := Lib.hid k2
  go_enter Try.func90, Try.ntmps90
  go_wp2_with fail
  refine k1.out.mono ?_
  rintro e w1 ⟨rfl, rfl⟩
  cases r1 : R a c <;> replace r1 := Lib.hid r1
  · go_wp2_with fail
    go_ret
    exact ⟨ret_bool (by rw [r1.out]; rfl), rfl⟩
  · go_wp2_with fail
    refine k2.out.mono ?_
    rintro e w1 ⟨rfl, rfl⟩
    go_wp2_with fail
    go_ret
    exact ⟨ret_bool (by rw [r1.out]; rfl), rfl⟩

set_option maxHeartbeats 400000 in
theorem near_any (g p n a b : Nat) (F R : Nat → Nat → Bool) (w : World) (hB : Beyond g p n F R) (h : Lat w p n F) (ha : a < n) (hb : b < n) :
    Calls Try.prog 86 #[.int .i64 n, .int .i64 a, .int .i64 b, .func (.func g) #[.pointer (some ⟨p, 0, none⟩)] #[]] w fun e w' =>
      e = .returned (.tuple #[.int .i64 ((near n R a b).getD 0 : Nat), .bool (near n R a b).isSome]) ∧ Below w.heap.size w w' := by
  have hs := h.small
  have hp := h.lt
  obtain ⟨W, hW⟩ : ∃ W, Hid (W = ((w.alloc (.cells #[.int .i64 a] 3)).alloc (.cells #[.int .i64 b] 3)).alloc (.cells #[.func (.func g) #[.pointer (some ⟨p, 0, none⟩)] #[]] 110)) := ⟨_, Lib.hid rfl⟩
  have hbel : Below w.heap.size w W := by rw [hW.out]; exact (((Below.refl _ _).alloc (Nat.le_refl _) _).alloc (by simp) _).alloc (by simp; omega) _
  have hL : Lat W p n F := h.below hbel hp
  have c1 : W.cell? ⟨w.heap.size, 0, none⟩ = some (.int .i64 a) := by rw [hW.out]; exact old_cell _ (old_cell _ (box1_cell w _ _))
  have c2 : W.cell? ⟨w.heap.size + 1, 0, none⟩ = some (.int .i64 b) := by rw [hW.out]; exact old_cell _ (by simp)
  have c3 : W.cell? ⟨w.heap.size + 1 + 1, 0, none⟩ = some (.func (.func g) #[.pointer (some ⟨p, 0, none⟩)] #[]) := by rw [hW.out]; have := box1_cell ((w.alloc (.cells #[.int .i64 a] 3)).alloc (.cells #[.int .i64 b] 3)) (.func (.func g) #[.pointer (some ⟨p, 0, none⟩)] #[]) 110; simpa using this
  have eg := hB.enter
  have k0 : Hid (∀ c, c < n → Calls Try.prog 90 #[.int .i64 c, .pointer (some ⟨w.heap.size + 1 + 1, 0, none⟩), .pointer (some ⟨w.heap.size, 0, none⟩), .pointer (some ⟨w.heap.size + 1, 0, none⟩)] W fun e w' => e = .returned (.bool (R a c && R b c)) ∧ W = w') :=
    fun c hc => both_any g p n a b c _ _ _ F R W hB hL ha hb hc c3 c1 c2
  have k1 : Hid (∀ c o, c < n → o < n → Calls Try.prog g #[.pointer (some ⟨p, 0, none⟩), .int .i64 c, .int .i64 o] W fun e w' => e = .returned (.bool (R c o)) ∧ W = w') := fun c o hc ho => hB.tells c o W hc ho hL
  go_enter Try.func86, Try.ntmps86
  go_wp2_with fail
  rw [← hW.out]
  go_step3
  go_wp2_with fail
  go_step3
  go_wp2_with fail
  go_loopg [15] n (fun g i wr => ∃ k : Nat, k ≤ n ∧ n ≤ k + g ∧ i = .int .i64 k ∧ Hid (∀ j, j < k → nearP n R a b j = false) ∧ W = wr)
  case atStart => exact ⟨0, by omega, by omega, rfl, fun j hj => by omega, rfl⟩
  case round =>
    obtain ⟨k, hk, hg, rfl, hj, rfl⟩ := hrel
    by_cases hkn : k < n
    · generalize gk = gout at *
      go_wp2_with fail
      refine (k0.out k hkn).mono ?_
      rintro e w1 ⟨rfl, rfl⟩
      cases r1 : (R a k && R b k) <;> replace r1 := Lib.hid r1
      · go_wp2_with fail
        go_roundg (gout - 1)
        case measure => omega
        case rel => exact ⟨k + 1, by omega, by omega, by go_num, uptoF hj.out (by unfold nearP; rw [r1.out]; rfl), rfl⟩
      · go_wp2_with fail
        go_loopg [23] n (fun g i wr => ∃ l : Nat, l ≤ n ∧ n ≤ l + g ∧ i = .int .i64 l ∧ Hid (∀ j, j < l → (!(R a j && R b j) || R k j) = true) ∧ W = wr)
        case atStart => exact ⟨0, by omega, by omega, rfl, fun j hj => by omega, rfl⟩
        case round =>
          obtain ⟨l, hl, hgl, rfl, hjl, rfl⟩ := hrel
          by_cases hln : l < n
          · go_wp2_with fail
            refine (k0.out l hln).mono ?_
            rintro e w1 ⟨rfl, rfl⟩
            cases r2 : (R a l && R b l) <;> replace r2 := Lib.hid r2
            · go_wp2_with fail
              go_roundg (gk - 1)
              case measure => omega
              case rel => exact ⟨l + 1, by omega, by omega, by go_num, upto hjl.out (by rw [r2.out]; rfl), rfl⟩
            · go_wp2_with fail
              refine (k1.out k l hkn hln).mono ?_
              rintro e w1 ⟨rfl, rfl⟩
              cases r3 : R k l <;> replace r3 := Lib.hid r3
              · go_wp2_with fail
                go_roundg (gout - 1)
                case measure => omega
                case rel => exact ⟨k + 1, by omega, by omega, by go_num, uptoF hj.out (by unfold nearP; rw [r1.out, allB_false hln (by rw [r2.out, r3.out]; rfl)]; rfl), rfl⟩
              · go_wp2_with fail
                go_roundg (gk - 1)
                case measure => omega
                case rel => exact ⟨l + 1, by omega, by omega, by go_num, upto hjl.out (by rw [r2.out, r3.out]; rfl), rfl⟩
          · obtain rfl : l = n := by omega
            have hfin := Lib.hid (show near l R a b = some k from findB_some hkn (by unfold nearP; rw [r1.out, allB_true hjl.out]; rfl) hj.out)
            go_wp2_with fail
            try rw [Exit.noGoto_ret]
            go_ret2
            exact ⟨by rw [hfin.out]; rfl, hbel⟩
    · obtain rfl : k = n := by omega
      have hfin := Lib.hid (show near k R a b = none from findB_none hj.out)
      go_wp2_with fail
      try rw [Exit.noGoto_ret]
      go_ret2
      exact ⟨by rw [hfin.out]; rfl, hbel⟩

theorem stopHere {p : Prop} (h : Hid p) : p := h
theorem grownOf {a w : World} (h : Below a.heap.size a w) (row : Option Nat) : a.grownBy w row := ⟨h.os, h.tape, h.output, h.size, fun i hi _ => h.block i hi⟩
/-- What the map of the nearest labels is: a new one, that tells of all pairs. -/
def Nearest (w : World) (n : Nat) (R : Nat → Nat → Bool) (e : Ending) (w' : World) : Prop :=
  ∃ D, e = .returned (.map (some w.heap.size)) ∧ w'.ownsMap Try.prog 154 (plainElem Try.prog 3) w.heap.size (n * n) D ∧ Told n R (n * n) D ∧ Below w.heap.size w w'
theorem zeroInt (w : World) : (zeroValue 3).run Try.prog w = .ok (.int .i64 0) w := by kernel_rfl

set_option maxRecDepth 100000 in
set_option maxHeartbeats 1000000 in
theorem nearest_any (g p n : Nat) (F R : Nat → Nat → Bool) (w : World) (hB : Beyond g p n F R) (h : Lat w p n F) :
    Calls Try.prog 73 #[.int .i64 n, .func (.func g) #[.pointer (some ⟨p, 0, none⟩)] #[]] w (Nearest w n R) := by
  have hs := h.small
  have hp := h.lt
  have hmm := @run_makeMap Try.prog
  go_enter Try.func73, Try.ntmps73
  go_wp2_with fail
  clear hmm
  go_loopg [12] n (fun g i wr => ∃ k : Nat, ∃ D : DataW Unit, k ≤ n ∧ n ≤ k + g ∧ i = .int .i64 k ∧ wr.ownsMap Try.prog 154 (plainElem Try.prog 3) w.heap.size (k * n) D ∧ Told n R (k * n) D ∧ Below w.heap.size w wr)
  case atStart => exact ⟨0, .map [], by omega, by omega, rfl, by rw [Nat.zero_mul]; exact World.ownsMap_made _ _ _ _, by rw [Nat.zero_mul]; exact told_nil n R, (Below.refl _ _).alloc (Nat.le_refl _) _⟩
  case round =>
    obtain ⟨k, D, hk, hg, rfl, hown, htold, hbel⟩ := hrel
    by_cases hkn : k < n
    · generalize gk = gout at *
      go_wp2_with fail
      go_loopg [16] n (fun g i wr => ∃ l : Nat, ∃ D : DataW Unit, l ≤ n ∧ n ≤ l + g ∧ i = .int .i64 l ∧ wr.ownsMap Try.prog 154 (plainElem Try.prog 3) w.heap.size (k * n + l) D ∧ Told n R (k * n + l) D ∧ Below w.heap.size w wr)
      case atStart => exact ⟨0, D, by omega, by omega, rfl, hown, htold, hbel⟩
      case round =>
        clear hown htold hbel
        obtain ⟨l, D2, hl, hgl, rfl, hown, htold, hbel⟩ := hrel
        by_cases hln : l < n
        · have hL : Lat wr p n F := h.below hbel hp
          go_wp2_with fail
          refine (near_any g p n k l F R _ hB hL hkn hln).mono ?_
          rintro e w1 ⟨rfl, hb1⟩
          have hbel1 := hbel.trans (hb1.mono hbel.size)
          have hown1 := hown.kept (grownOf hb1 none) (by simp)
          cases hn : near n R k l <;> replace hn := Lib.hid hn
          · have htold1 := told_skip htold rfl hkn hln hn.out
            go_wp2_with fail
            go_roundg (gk - 1)
            case measure => omega
            case rel => exact ⟨l + 1, D2, by omega, by omega, by go_num, hown1.mono (by omega), htold1, hbel1⟩
          · rename_i c
            have htold1 := told_put htold hs rfl hkn hln hn.out
            have hc := of_findB hn.out
            have hc6 : c < n := hc.1
            clear hc
            have hkey := kl_of (a := k) (b := l) (by omega) (by omega)
            unfold pairV at hkey
            replace hkey := Lib.hid hkey
            have hlen : k * n + l < maxLen := by
              have := Nat.mul_le_mul (show k ≤ 6 by omega) (show n ≤ 6 by omega)
              unfold maxLen; omega
            have hwf : (Lit.int .i64 (c : Int)).wf = true := WalkArith.wf_i64 (by omega)
            replace hwf := Lib.hid hwf
            replace hlen := Lib.hid hlen
            go_wp2_with (at_mapUpdate; refine stopHere ?_)
            refine Lib.hid ?_
            refine wpList_mapUpdate_own _ rfl _ _ _ 129 rfl 154 3 pairLaw Try.underlying129 (plainElem Try.prog 3) w.heap.size (k * n + l) D2 rfl hown1 hlen.out _ _ _ rfl rfl hkey.out (numD c) [] (plainElem_int Try.underlying3 hwf.out) ?_
            intro w2 hown2 hgrow2
            have hbel2 := hbel1.grown hgrow2 hbel1.size (fun i hi => by injection hi with hi; omega)
            go_wp2_with fail
            go_roundg (gk - 1)
            case measure => omega
            case rel => exact ⟨l + 1, _, by omega, by omega, by go_num, hown2, htold1, hbel2⟩
        · obtain rfl : l = n := by omega
          rw [show k * l + l = (k + 1) * l by rw [Nat.succ_mul]] at hown htold
          go_wp2_with fail
          go_roundg (gout - 1)
          case measure => omega
          case rel => exact ⟨k + 1, D2, by omega, by omega, by go_num, hown, htold, hbel⟩
    · obtain rfl : k = n := by omega
      go_wp2_with fail
      go_ret
      exact ⟨D, rfl, hown, htold, hbel⟩
end Go.Proofs.Ytdagbepjhbmlfaa.L
