/- Package record's Unpack. -/
import Derived.Test.YtgfamaddghajlaaRcH
namespace Go.Proofs.Ytgfamaddghajlaa.W
open Go.RowKit Go.Sort
open Go.Proofs.Ytgfamaddghajlaa.M Go.Proofs.Ytgfamaddghajlaa.D Go.Proofs.Ytgfamaddghajlaa.Z
set_option linter.unusedVariables false
set_option linter.unusedSimpArgs false

/-- What Unpack's reading comes to. -/
def UnGood (B lb : Nat) (s : ByteArray) (own : Nat → Prop) (w w' : World) : Prop :=
  ∃ rs A c, good rs ∧ packL rs = s.data.toList ∧ Whole w' lb 38 [.slice A rs.length c] ∧ w'.ownsRow B 23 8 (.slice A rs.length c) rs.length (rcRows rs) ∧ Kept own w w'
set_option maxRecDepth 100000 in
set_option maxHeartbeats 4000000 in
theorem two_any (fb lb : Nat) (s : ByteArray) (w : World) (h : Whole w fb 52 (rdL s 0)) (hL : Whole w lb 38 [.slice none 0 0]) (hne : fb ≠ lb) (hs : s.size ≤ 100000) :
    Calls Try.prog 37 #[.pointer (some ⟨fb, 0, none⟩), .pointer (some ⟨lb, 0, none⟩)] w fun e w' => (e = .returned (.tuple #[]) ∧ UnGood w.heap.size lb s (fun k => k = fb ∨ k = lb) w w') ∨ (e = .panicked faultC ∧ (∀ rs, good rs → packL rs ≠ s.data.toList) ∧ Kept (fun k => k = fb) w w') := by
  have hbt := Lib.hid (batch_any fb s w h hs)
  have hlt := hL.lt
  replace hL := Lib.hid hL
  clear h
  go_enter Try.func37, Try.ntmps37
  go_wp2_with fail
  refine hbt.out.mono ?_
  rintro e w1 (⟨rs, A, c, hg, hp, rfl, how, hk⟩ | ⟨hno, rfl, hk⟩)
  · have hL1 := hL.out.of_kept hk (Ne.symm hne)
    have c0 : w1.cell? ⟨lb, 0, none⟩ = some (.slice none 0 0) := hL1.cell 0
    have z0 := hL1.frozen 0
    have hfin : UnGood w.heap.size lb s (fun k => k = fb ∨ k = lb) w (w1.setCell ⟨lb, 0, none⟩ (.slice A rs.length c)) :=
      ⟨rs, A, c, hg, hp, hL1.store 0 [.slice A rs.length c] (by simp), own_of_kept (own := fun k => k = lb) how ((Kept.refl (fun k => k = lb) w1).setCell (c := lb) (.inl rfl) 0 _) (fun k hk' e => by have := ownFar how k hk'; omega), (hk.mono (own' := fun k => k = fb ∨ k = lb) (fun k _ e => .inl e)).setCell (c := lb) (.inl (.inr rfl)) 0 _⟩
    replace hfin := Lib.hid hfin
    clear hg hp how hk hL1
    go_wp2_with fail
    go_end0
    exact .inl ⟨rfl, hfin.out⟩
  · have hfin := Lib.hid (And.intro hno hk)
    clear hno hk
    go_wp2_with fail
    exact ⟨rfl, .inr ⟨rfl, hfin.out⟩⟩

theorem unClo (args : Array Value) (W : World) : (callFunc 37 args).run Try.prog W = .ok (.enter 37 args) W := by kernel_rfl
set_option maxRecDepth 100000 in
set_option maxHeartbeats 4000000 in
theorem unpack_any (s : ByteArray) (w : World) (hs : s.size ≤ 100000) :
    Calls Try.prog 19 #[.string s] w fun e w' => (∃ rs A c, good rs ∧ packL rs = s.data.toList ∧ e = .returned (.tuple #[.slice A rs.length c, .int .i64 0]) ∧ w'.ownsRow w.heap.size 23 8 (.slice A rs.length c) rs.length (rcRows rs) ∧ Below w.heap.size w w') ∨
      ((∀ rs, good rs → packL rs ≠ s.data.toList) ∧ e = .returned (.tuple #[.slice none 0 0, .int .i64 4]) ∧ Below w.heap.size w w') := by
  have hmf : ∀ (fn : Fn) (first cap : Array Value) (w : World), (Instr.makeFunc fn first cap).run Try.prog w = .ok (.func fn first cap) w := fun _ _ _ _ => rfl
  have hF := (Whole.new w 52 (rdL s 0)).alloc (.cells #[.slice none 0 0] 38)
  have hL := Whole.new (w.alloc (.cells #[.string s, .int .i64 0] 52)) 38 [.slice none 0 0]
  rw [show (w.alloc (.cells #[.string s, .int .i64 0] 52)).heap.size = w.heap.size + 1 by simp] at hL
  have hB := ((Below.refl w.heap.size w).alloc (Nat.le_refl _) (.cells #[.string s, .int .i64 0] 52)).alloc (by simp) (.cells #[.slice none 0 0] 38)
  obtain ⟨W, hW⟩ : ∃ W, Hid (W = (w.alloc (.cells #[.string s, .int .i64 0] 52)).alloc (.cells #[.slice none 0 0] 38)) := ⟨_, Lib.hid rfl⟩
  rw [← hW.out] at hL hB
  have hF2 : Whole W w.heap.size 52 (rdL s 0) := by rw [hW.out]; exact hF
  have hsz : w.heap.size ≤ W.heap.size := hB.size
  have htw := two_any w.heap.size (w.heap.size + 1) s W hF2 hL (by omega) hs
  have hrd := reads_any 37 _ W (fun w' => UnGood W.heap.size (w.heap.size + 1) s (fun k => k = w.heap.size ∨ k = w.heap.size + 1) W w') (fun w' => (∀ rs, good rs → packL rs ≠ s.data.toList) ∧ Kept (fun k => k = w.heap.size) W w') unClo htw
  replace hrd := Lib.hid hrd
  replace hB := Lib.hid hB
  clear htw hF hF2 hL
  go_enter Try.func19, Try.ntmps19
  go_upto_region 3 with fail
  rw [← show W = _ from hW.out]
  clear hW
  go_wp2_with fail
  refine hrd.out.mono ?_
  rintro e w1 (⟨rfl, w2, ⟨rs, A, c, hg, hp, hL2, how, hk⟩, hb⟩ | ⟨rfl, w2, ⟨hno, hk⟩, hb⟩)
  · have hL1 := hL2.below hb hL2.lt
    have c0 : w1.cell? ⟨w.heap.size + 1, 0, none⟩ = some (.slice A rs.length c) := hL1.cell 0
    have how1 : w1.ownsRow w.heap.size 23 8 (.slice A rs.length c) rs.length (rcRows rs) := by
      have h1 := own_of_kept (own := fun _ => False) how (Kept.of_below hb) (fun _ _ e => e)
      refine ⟨h1.1, ?_⟩
      rcases h1.2 with h2 | ⟨g, cap, cur, h2, h3, h4⟩
      · exact .inl h2
      · exact .inr ⟨g, cap, cur, h2, Nat.le_trans hsz h3, h4⟩
    have hB1 := (hB.out.trans (hk.below (B := w.heap.size) hsz (fun k e => by omega))).trans (hb.mono (Nat.le_trans hsz hk.size))
    have hfin := Lib.hid (And.intro hg (And.intro hp (And.intro how1 hB1)))
    clear hg hp hL2 how hk hb hL1 how1 hB1 hrd hB
    go_wp2_with fail
    go_ret2
    exact .inl ⟨rs, A, c, hfin.out.1, hfin.out.2.1, rfl, hfin.out.2.2.1, hfin.out.2.2.2⟩
  · have hB1 := (hB.out.trans (hk.below (B := w.heap.size) hsz (fun k e => by omega))).trans (hb.mono (Nat.le_trans hsz hk.size))
    have hfin := Lib.hid (And.intro hno hB1)
    clear hno hk hb hB1 hrd hB
    go_wp2_with fail
    go_ret2
    exact .inr ⟨hfin.out.1, rfl, hfin.out.2⟩
end Go.Proofs.Ytgfamaddghajlaa.W
