/- Package offsets: a row of one key, sorted; Keys of a table of one key. -/
import Derived.Test.YtgogackkeodciaaOfG
import Derived.Test.YtgogackkeodciaaOfD
import Derived.Test.YtgogackkeodciaaShelf
import Derived.LoopN
namespace Go.Proofs.Ytgogackkeodciaa.W
open Go.RowKit Go.Sort
open Go.Proofs.Ytgogackkeodciaa.M Go.Proofs.Ytgogackkeodciaa.D Go.Proofs.Ytgogackkeodciaa.Z
set_option linter.unusedVariables false
set_option linter.unusedSimpArgs false

set_option maxRecDepth 100000 in
set_option maxHeartbeats 4000000 in
theorem insOne24 (A : Option Addr) (c : Nat) (cmp : Value) (w : World) : Calls Try.prog 118 #[.slice A 1 c, .int .i64 0, .int .i64 1, cmp] w fun e w' => e = .returned (.tuple #[]) ∧ w = w' := by
  go_enter Try.func118, Try.ntmps118
  go_wp2_with fail
  refine wp_loop_rounds 1 ?_
  rw [rounds_succ]
  go_wp2_with fail
  go_end0
  exact ⟨rfl, rfl⟩
set_option maxRecDepth 100000 in
set_option maxHeartbeats 4000000 in
theorem pdqOne24 (A : Option Addr) (c : Nat) (lim : Int) (cmp : Value) (w : World) : Calls Try.prog 104 #[.slice A 1 c, .int .i64 0, .int .i64 1, .int .i64 lim, cmp] w fun e w' => e = .returned (.tuple #[]) ∧ w = w' := by
  go_enter Try.func104, Try.ntmps104
  go_wp2_with fail
  refine wp_loop_rounds 1 ?_
  rw [rounds_succ]
  go_wp2_with fail
  refine (insOne24 A c cmp _).mono ?_
  rintro _ w1 ⟨rfl, rfl⟩
  go_wp2_with fail
  exact bodyPost_ret (results_none rfl _ _ _) rfl ⟨rfl, rfl⟩
set_option maxRecDepth 100000 in
set_option maxHeartbeats 4000000 in
theorem sortOne24 (A : Option Addr) (c : Nat) (cmp : Value) (w : World) : Calls Try.prog 82 #[.slice A 1 c, cmp] w fun e w' => e = .returned (.tuple #[]) ∧ w = w' := by
  have hb := Lib.hid (fun W => Try.bits_Len 1 W (by decide) (by decide))
  go_enter Try.func82, Try.ntmps82
  go_wp2_with fail
  refine (hb.out _).mono ?_
  rintro _ w1 ⟨rfl, rfl⟩
  go_wp2_with fail
  refine (pdqOne24 A c _ cmp _).mono ?_
  rintro _ w2 ⟨rfl, rfl⟩
  go_wp2_with fail
  go_end0
  exact ⟨rfl, rfl⟩
theorem row_one24 {W : World} {B e sz : Nat} {v : Value} {xs : List Value} (h : W.ownsRow B e sz v 1 xs) : ∃ A c, v = .slice A 1 c := by
  rcases h.2 with ⟨_, h0⟩ | ⟨g, cap, cur, rfl, _⟩
  · cases h0
  · exact ⟨_, _, rfl⟩
set_option maxRecDepth 100000 in
set_option maxHeartbeats 4000000 in
theorem sorted24_A (g t : ByteArray) (p : Int) (d : DataW Unit) (Bm b nn : Nat) (hg : g.size ≤ maxLen) (ht : t.size ≤ maxLen) (hp : (Lit.int .i64 p).wf = true) (w : World)
    (hm : w.cell? ⟨Bm, 0, none⟩ = some (.map (some b))) (hBm : Bm < w.heap.size) (hown : offM w b nn (.map [(kyK g t p, d)])) (cmp : Value) :
    Calls Try.prog 47 #[.func (.func 83) #[] #[.pointer (some ⟨Bm, 0, none⟩)], cmp] w fun e w' => ∃ A c, e = .returned (.slice A 1 c) ∧ Below w.heap.size w w' := by
  have hc := Lib.hid (collect24_A g t p d Bm b nn hg ht hp w hm hBm hown)
  clear hm hown
  go_enter Try.func47, Try.ntmps47
  go_wp2_with fail
  refine hc.out.mono ?_
  rintro _ w1 ⟨v, rfl, x1, x2⟩
  obtain ⟨A, c, rfl⟩ := row_one24 x1
  replace x2 := Lib.hid x2
  clear x1 hc
  go_wp2_with fail
  refine (sortOne24 A c cmp _).mono ?_
  rintro _ w2 ⟨rfl, rfl⟩
  go_wp2_with fail
  go_ret
  exact ⟨A, c, rfl, x2.out⟩
set_option maxRecDepth 100000 in
set_option maxHeartbeats 4000000 in
theorem keys24_A (tb m1 nn : Nat) (x : Value) (g t : ByteArray) (p : Int) (d : DataW Unit) (w : World) (h : Whole w tb 80 [.map (some m1), x]) (ho : offM w m1 nn (.map [(kyK g t p, d)])) (hg : g.size ≤ maxLen) (ht : t.size ≤ maxLen) (hp : (Lit.int .i64 p).wf = true) :
    Calls Try.prog 19 #[.pointer (some ⟨tb, 0, none⟩)] w fun e w' => ∃ A c, e = .returned (.slice A 1 c) ∧ Below w.heap.size w w' := by
  have c0 : w.cell? ⟨tb, 0, none⟩ = some (.map (some m1)) := h.cell 0
  have hb := Lib.hid (grewAlloc (Below.refl w.heap.size w) (.cells #[.map (some m1)] 77))
  have hk := Lib.hid (keysOf24_any m1 w)
  have hs := Lib.hid (sorted24_A g t p d w.heap.size m1 nn hg ht hp (w.alloc (.cells #[.map (some m1)] 77)) ((Whole.new w 77 [.map (some m1)]).cell 0) (by simp) (ho.alloc _) (.func (.func 49) #[] #[]))
  clear h ho
  go_enter Try.func19, Try.ntmps19
  go_wp2_with fail
  refine hk.out.mono ?_
  rintro _ w1 ⟨rfl, rfl⟩
  go_wp2_with fail
  refine hs.out.mono ?_
  rintro _ w2 ⟨A, c, rfl, x2⟩
  have hfin := Lib.hid (grew hb.out x2)
  clear x2 hs hk
  go_wp2_with fail
  go_ret
  exact ⟨A, c, rfl, hfin.out⟩
end Go.Proofs.Ytgogackkeodciaa.W
