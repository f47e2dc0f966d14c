/- The law's same: is a table a list? Two rows of numbers. -/
import Derived.Test.YtbbeapglkdkajaaDdS
import Derived.Test.YtbbeapglkdkajaaDdW
import Derived.Deep.DrawnRows
import Derived.Deep.Quiet
import Derived.Deep.QuietTactic
namespace Go.Proofs.Ytbbeapglkdkajaa.W
open Go.RowKit Go.Sort
open Go.Proofs.Ytbbeapglkdkajaa.M Go.Proofs.Ytbbeapglkdkajaa.D Go.Proofs.Ytbbeapglkdkajaa.Z
set_option linter.unusedVariables false
set_option linter.unusedSimpArgs false

set_option maxRecDepth 100000 in
theorem ints_rows (A1 A2 : Option Addr) (c1 c2 len : Nat) (xs : List Int) (w : World) (h1 : RowI w A1 xs) (h2 : RowI w A2 xs) (hlen : xs.length = len) (hl : len ≤ 64) :
    Calls Try.prog 40 #[.slice A1 len c1, .slice A2 len c2] w fun e w' => e = .returned (.bool true) ∧ Below w.heap.size w w' := by
  have k1 : Hid (∀ k, k < len → ∃ g, A1 = some ⟨g, 0, none⟩ ∧ w.cell? ⟨g, k, none⟩ = some (.int .i64 (xs.getD k 0))) := Lib.hid (fun k hk => by
    obtain ⟨g, e, hc⟩ := h1.cell (List.getElem?_eq_getElem (show k < xs.length by omega))
    exact ⟨g, e, by rw [hc, List.getD, List.getElem?_eq_getElem (show k < xs.length by omega)]; rfl⟩)
  have k2 : Hid (∀ k, k < len → ∃ g, A2 = some ⟨g, 0, none⟩ ∧ w.cell? ⟨g, k, none⟩ = some (.int .i64 (xs.getD k 0))) := Lib.hid (fun k hk => by
    obtain ⟨g, e, hc⟩ := h2.cell (List.getElem?_eq_getElem (show k < xs.length by omega))
    exact ⟨g, e, by rw [hc, List.getD, List.getElem?_eq_getElem (show k < xs.length by omega)]; rfl⟩)
  clear h1 h2 hlen
  go_enter Try.func40, Try.ntmps40
  go_wp2_with fail
  go_loopg [13] len (fun g i wr => ∃ k m : Nat, k ≤ len ∧ len ≤ k + g ∧ i = .int .i64 k ∧ wr = w.drewN m)
  case atStart => exact ⟨0, 0, by omega, by omega, rfl, rfl⟩
  case round =>
    obtain ⟨k, m, hk, hg, rfl, rfl⟩ := hrel
    by_cases hlt : k < len
    · obtain ⟨b1, rfl, f1⟩ := k1.out k hlt
      obtain ⟨b2, rfl, f2⟩ := k2.out k hlt
      obtain ⟨x, hx⟩ : ∃ x, Hid (xs.getD k 0 = x) := ⟨_, Lib.hid rfl⟩
      rw [hx.out] at f1 f2
      have hk0 : (0 : Int) ≤ (k : Int) := by omega
      have hk1 : (k : Int) < (len : Int) := by omega
      go_wp2_with fail
      go_quiet (fail)
      go_wp2_with fail
      go_roundg (gk - 1)
      case measure => omega
      case rel => exact ⟨k + 1, _, by omega, by omega, by go_num, rfl⟩
    · obtain rfl : k = len := by omega
      go_wp2_with fail
      go_ret
      exact ⟨rfl, (fun (h : Below w.heap.size w w) => ⟨h.os, h.tape, h.output, h.size, h.block⟩) (Below.refl _ _)⟩
theorem keysL_take {l : List La} {k : Nat} {x : La} (h : l[k]? = some x) : keysL (l.take (k + 1)) = keysL (l.take k) ++ [x.p] := by
  unfold keysL
  rw [List.take_add_one, h, List.map_append]
  rfl
set_option maxRecDepth 100000 in
set_option maxHeartbeats 4000000 in
theorem same_any {B0 : Nat} (tb : Nat) (A : Option Addr) (c : Nat) (l : List La) (w : World) (h : Tb B0 w tb l) (hL : LaL w A l) (hok : TabOk l) :
    Calls Try.prog 23 #[.pointer (some ⟨tb, 0, none⟩), .slice A l.length c] w fun e w' => e = .returned (.bool true) ∧ Below w.heap.size w w' := by
  obtain ⟨N, hN⟩ : ∃ N, Hid (l.length = N) := ⟨_, Lib.hid rfl⟩
  have hN16 : N ≤ 16 := by have := hok.few; have := hN.out; omega
  have hpr := fun W (hb : Below w.heap.size w W) => prods_any tb l W (h.below hb) hok.rise (by have := hok.few; omega)
  have hen := fun W (hb : Below w.heap.size w W) => enc_any tb l W (h.below hb) hok
  have hre := fun W (hb : Below w.heap.size w W) => rencL_any A c l W (hL.below hb) hok.ok (by have := hok.few; omega)
  have hkl : (keysL l).length = N := by unfold keysL; rw [List.length_map]; exact hN.out
  unfold ProdsP at hpr
  rw [hN.out] at hpr hre ⊢
  obtain ⟨E, hE⟩ : ∃ E, Hid (M.B (encL l) = E) := ⟨_, Lib.hid rfl⟩
  rw [hE.out] at hen hre
  have hEE : (E.toList == E.toList) = true := by simp
  obtain ⟨i0, hi0, hz0, hz1, hz2⟩ := info_parts infoIn
  replace h := Lib.hid h
  replace hL := Lib.hid hL
  replace hok := Lib.hid hok
  replace hpr := Lib.hid hpr
  replace hen := Lib.hid hen
  replace hre := Lib.hid hre
  go_enter Try.func23, Try.ntmps23
  go_wp2_with fail
  go_loopg [5, 10] N (fun ga pv i wr => ∃ (k : Nat) (ks : List Int) (O : Option Addr) (oc : Nat), k ≤ N ∧ N ≤ k + ga ∧ i = .int .i64 k ∧ pv = .slice O ks.length oc ∧ Hid (ks = keysL (l.take k) ∧ wr.ownsRow w.heap.size 3 1 (.slice O ks.length oc) ks.length (ks.map (Value.int .i64)) ∧ Below w.heap.size w wr))
  case atStart => exact ⟨0, [], none, 0, by omega, by omega, rfl, rfl, Lib.hid ⟨rfl, own_nilI, Below.refl _ _⟩⟩
  case round =>
    obtain ⟨k, ks, O, oc, hk, hg, rfl, rfl, hrel⟩ := hrel
    generalize wr = wo at *
    obtain ⟨hks, how, hB⟩ := hrel.out
    clear hrel
    by_cases hlt : k < N
    · obtain ⟨x, hx⟩ : ∃ x, l[k]? = some x := ⟨_, List.getElem?_eq_getElem (by have := hN.out; omega)⟩
      have hkl0 : ks.length ≤ 16 := by rw [hks]; unfold keysL; rw [List.length_map, List.length_take]; omega
      obtain ⟨⟨p0, p1⟩, ⟨s0, s1⟩, ⟨n0, n1⟩, _⟩ := hok.out.ok x (List.mem_of_getElem? hx)
      have hwf := wf_prod p0 p1
      have hgv := getV_at hok.out.rise hx
      have hks2 := keysL_take hx
      rw [← hks] at hks2
      obtain ⟨g, rfl, c0, c1, c2, c3⟩ := (hL.out.below hB).cell hx
      obtain ⟨T, hT⟩ : ∃ T, Hid (x.s + x.n = T) := ⟨_, Lib.hid rfl⟩
      have hw : IntKind.i64.wrap (x.s + x.n) = T := by rw [IntWalk.i64_in _ (by omega)]; exact hT.out
      have hTT : (T == T) = true := by simp
      obtain ⟨W1, hW1⟩ : ∃ V, Hid (V = wo.alloc (.cells #[.int .i64 x.p, .int .i64 x.s, .int .i64 x.n, .int .i64 x.o] 49)) := ⟨_, Lib.hid rfl⟩
      have hb1 : Below wo.heap.size wo W1 := by rw [hW1.out]; exact grewAlloc (Below.refl _ _) _
      have hY : Whole W1 wo.heap.size 49 [.int .i64 x.p, .int .i64 x.s, .int .i64 x.n, .int .i64 x.o] := by rw [hW1.out]; exact Whole.new wo _ _
      have how1 : W1.ownsRow w.heap.size 3 1 (.slice O ks.length oc) ks.length (ks.map (Value.int .i64)) := by rw [hW1.out]; exact how.alloc _
      have hB1 : Below w.heap.size w W1 := hB.trans (hb1.mono hB.size)
      have hne : some wo.heap.size ≠ (Value.slice O ks.length oc).ownBlock := fun e => by have := ownLt how e.symm; omega
      obtain ⟨yb, hyb⟩ : ∃ q, Hid (wo.heap.size = q) := ⟨_, Lib.hid rfl⟩
      rw [hyb.out] at hY hne
      obtain ⟨y0, y1, y2, y3⟩ := la4Cells hY
      have how2 := how1.alloc (.cells #[.int .i64 x.p] 3)
      have hB2 := hB1.alloc hB1.size (.cells #[.int .i64 x.p] 3)
      have hki : (k : Int) < (N : Int) := by omega
      replace hx := Lib.hid hx
      replace hY := Lib.hid hY
      replace how2 := Lib.hid how2
      replace hB2 := Lib.hid hB2
      replace hne := Lib.hid hne
      replace hks2 := Lib.hid hks2
      replace hgv := Lib.hid hgv
      replace hks := Lib.hid hks
      clear how hB hb1 how1 hB1
      go_upto_region 5 with fail
      rw [← show W1 = _ from hW1.out, hyb.out]
      clear hW1 hyb c0 c1 c2 c3
      go_wp2_with (with_reducible refine zAppend _ _ _ rfl ?_)
      refine Lib.hid ?_
      refine wpList_append_lies _ rfl _ _ 65 rfl w.heap.size 3 i0 _ 1 8 Try.underlying65 hi0 hz0 hz1 hz2 rfl (by omega) (.slice O ks.length oc) ks.length (ks.map (Value.int .i64)) rfl how2.out _ 1 1 [.int .i64 x.p] rfl rfl (World.news_of_block (heap_alloc_new _ _)) (by simp [Value.oneCell']) (by omega) (by unfold maxLen; omega) (by omega) (by have := hB2.out.size; simpa using this) (W1.heap.size + 1) (by simp) ?_
      intro gg cap w6 hown6 hgrow6 hat6 hlt6
      have hb6 : Below w.heap.size w w6 := below_grown hB2.out hgrow6 (by have := hB2.out.size; simpa using this) (fun k hk => ownFar how2.out k hk)
      have hY6 := (hY.out.alloc (.cells #[.int .i64 x.p] 3)).kept hgrow6 hne.out
      obtain ⟨z0, z1, z2, z3⟩ := la4Cells hY6
      have g0 := fun d os => cell_regrown z0 d os
      have g1 := fun d os => cell_regrown z1 d os
      have g2 := fun d os => cell_regrown z2 d os
      have hT6 := h.out.below hb6
      have u1 := Z.regrown_if (C := fun W => Tb B0 W tb l) (fun W hW => dnextOf_any tb l x.p W hW hok.out.ok hwf) w6 (fun w' hb => hT6.below hb)
      rw [hgv.out, hT.out] at u1
      have how6 : w6.ownsRow w.heap.size 3 1 (.slice (some ⟨gg, 0, none⟩) (ks ++ [x.p]).length cap) (ks ++ [x.p]).length ((ks ++ [x.p]).map (Value.int .i64)) := by rw [List.length_append, List.map_append]; exact hown6
      have hfin := Lib.hid (And.intro hks2.out.symm (And.intro how6 hb6))
      replace u1 := Lib.hid u1
      have hsl : ks.length + 1 = (ks ++ [x.p]).length := by rw [List.length_append, List.length_singleton]
      rw [hsl]
      clear hown6 hgrow6 hat6 hlt6 hb6 hY6 hT6 how6 hY how2 hB2 hne hks2 hks y0 y1 y2 y3 z0 z1 z2 z3 hsl
      go_upto_region 6 with fail
      refine wp_region_quiet_below (by kernel_rfl) (by kernel_rfl) ?_
      repeat (go_big_quiet_step (first | (with_reducible exact u1.out _ _)))
      refine wpQuiet_nil ?_
      intro _ hw'
      obtain ⟨⟨dq, osq⟩, hw''⟩ := hw'
      subst hw''
      have hbq := below_regrown w6 dq osq
      have hfin2 : Hid ((ks ++ [x.p]) = keysL (l.take (k + 1)) ∧ (grow (redrawn w6 dq) osq).ownsRow w.heap.size 3 1 (.slice (some ⟨gg, 0, none⟩) (ks ++ [x.p]).length cap) (ks ++ [x.p]).length ((ks ++ [x.p]).map (Value.int .i64)) ∧ Below w.heap.size w (grow (redrawn w6 dq) osq)) := Lib.hid ⟨hfin.out.1, own_of_kept (own := fun _ => False) hfin.out.2.1 (Kept.of_below hbq) (fun _ _ h => h), hfin.out.2.2.trans (hbq.mono hfin.out.2.2.size)⟩
      clear g0 g1 g2 u1 hfin hbq
      generalize grow (redrawn w6 dq) osq = w7 at *
      go_wp2_with fail
      go_roundg (gk - 1)
      case measure => omega
      case rel => exact ⟨k + 1, ks ++ [x.p], some ⟨gg, 0, none⟩, cap, by omega, by omega, by go_num, by rw [List.length_append]; rfl, hfin2⟩
    · obtain rfl : k = N := by omega
      rw [List.take_of_length_le (by have := hN.out; omega)] at hks
      have hkk : ks.length = k := by rw [hks]; exact hkl
      rw [hkk] at how ⊢
      have hrow := rowI_own how hkk
      rw [hks] at hrow
      have hp2 := Lib.hid (hpr.out wo hB)
      replace hrow := Lib.hid hrow
      replace hB := Lib.hid hB
      clear how hpr hks hkk
      go_wp2_with fail
      refine hp2.out.mono ?_
      rintro e w2 ⟨A2, c2, rfl, ho2, hb2⟩
      have hi := Lib.hid (ints_rows A2 O c2 oc k (keysL l) w2 (rowI_own ho2 hkl) (hrow.out.below hb2) hkl (by omega))
      have hB2 := Lib.hid (hB.out.trans (hb2.mono hB.out.size))
      clear hp2 ho2 hb2 hrow hB
      go_wp2_with fail
      refine hi.out.mono ?_
      rintro e w3 ⟨rfl, hb3⟩
      have hB3 := Lib.hid (hB2.out.trans (hb3.mono hB2.out.size))
      have he2 := Lib.hid (hen.out w3 hB3.out)
      clear hi hB2 hb3 hen
      go_wp2_with fail
      refine he2.out.mono ?_
      rintro e w4 ⟨rfl, hb4⟩
      have hB4 := Lib.hid (hB3.out.trans (hb4.mono hB3.out.size))
      have hr2 := Lib.hid (hre.out w4 hB4.out)
      clear he2 hB3 hb4 hre
      go_wp2_with fail
      refine hr2.out.mono ?_
      rintro e w5 ⟨rfl, hb5⟩
      have hB5 := Lib.hid (hB4.out.trans (hb5.mono hB4.out.size))
      clear hr2 hB4 hb5
      go_wp2_with fail
      go_ret
      exact ⟨rfl, hB5.out⟩
end Go.Proofs.Ytbbeapglkdkajaa.W
