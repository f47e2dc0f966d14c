/- Package offsets: the reader of an entry's fields; which keys may be; an entry's bytes. -/
import Derived.Test.YtgogackkeodciaaTpD
import Derived.Test.YtgogackkeodciaaUntexts
import Derived.Test.YtgogackkeodciaaUnchains
import Derived.Deep.Cut
import Derived.Deep.RegionHeld3
namespace Go.Proofs.Ytgogackkeodciaa.W
open Go.RowKit Go.Sort
open Go.Proofs.Ytgogackkeodciaa.M Go.Proofs.Ytgogackkeodciaa.D Go.Proofs.Ytgogackkeodciaa.Z
set_option linter.unusedVariables false
set_option linter.unusedSimpArgs false

theorem keepNew24 {V0 w : World} (h : Below V0.heap.size V0 w) (o : Obj) : Below V0.heap.size V0 (w.alloc o) := grewAlloc h o
theorem textB24 {s : ByteArray} {n : Nat} (h : s.size ≤ n) : (B (textL s.data.toList)).size ≤ n + 10 := by
  rw [B_size]
  have := textL_most s.data.toList
  have h2 : s.data.toList.length = s.size := rfl
  omega
theorem chainB24 (v : Int) : (B (chain v)).size ≤ 10 := by rw [B_size]; exact (chF_length 9 v).2
theorem sizeFr24 : (Try.prog.info? 33).map (·.size) = some 2 := by kernel_rfl
theorem slice_from24 (s : ByteArray) (p : Nat) (hp : p ≤ s.size) (W : World) : (Instr.sliceAt 9 (.string s) (some (.int .i64 (p : Int))) none none).run Try.prog W = .ok (.string (s.extract p s.size)) W := by
  have h1 : (p : Int) ≤ (s.size : Int) := by omega
  simp [go_sem, h1, Try.underlying9]
theorem within24_any (n a b : Int) (w : World) : Calls Try.prog 87 #[.int .i64 n, .int .i64 a, .int .i64 b] w fun e w' => e = .returned (.bool (decide (a ≤ n ∧ n ≤ b))) ∧ w = w' := by
  by_cases h0 : a ≤ n
  · by_cases h1 : n ≤ b
    · rw [decide_eq_true (show a ≤ n ∧ n ≤ b from ⟨h0, h1⟩)]
      go_enter Try.func87, Try.ntmps87
      go_wp2_with fail
      go_ret
      exact ⟨rfl, rfl⟩
    · rw [decide_eq_false (show ¬ (a ≤ n ∧ n ≤ b) from fun h => h1 h.2)]
      have h2 : b < n := by omega
      go_enter Try.func87, Try.ntmps87
      go_wp2_with fail
      go_ret
      exact ⟨rfl, rfl⟩
  · rw [decide_eq_false (show ¬ (a ≤ n ∧ n ≤ b) from fun h => h0 h.1)]
    have h2 : n < a := by omega
    go_enter Try.func87, Try.ntmps87
    go_wp2_with fail
    go_ret
    exact ⟨rfl, rfl⟩
set_option maxRecDepth 100000 in
set_option maxHeartbeats 4000000 in
theorem pass24_any (rb : Nat) (s b : ByteArray) (k : Nat) (w : World) (h : Whole w rb 89 [.string s, .bool false]) (hk : k ≤ s.size) (hs : s.size ≤ 100000) (hb : s.extract k s.size = b) :
    Calls Try.prog 100 #[.pointer (some ⟨rb, 0, none⟩), .int .i64 (k : Int), .int .i64 0] w fun e w' => e = .returned (.tuple #[]) ∧ Whole w' rb 89 [.string b, .bool false] ∧ Kept (fun q => q = rb) w w' := by
  have c0 : w.cell? ⟨rb, 0, none⟩ = some (.string s) := h.cell 0
  have f0 : w.frozen? ⟨rb, 0, none⟩ = false := h.frozen 0
  have c1 : w.cell? ⟨rb, 1, none⟩ = some (.bool false) := h.cell 1
  have f1 : w.frozen? ⟨rb, 1, none⟩ = false := h.frozen 1
  have e2 := fun W => slice_from24 s k hk W
  rw [hb] at e2
  have hfin : Hid (Whole ((w.setCell ⟨rb, 1, none⟩ (.bool false)).setCell ⟨rb, 0, none⟩ (.string b)) rb 89 [.string b, .bool false] ∧ Kept (fun q => q = rb) w ((w.setCell ⟨rb, 1, none⟩ (.bool false)).setCell ⟨rb, 0, none⟩ (.string b))) := Lib.hid ⟨(h.store 1 [.bool false] (by simp)).store 0 [.string b] (by simp [splice]), ((Kept.refl (fun q => q = rb) w).setCells (c := rb) (.inl rfl) 1 [.bool false]).setCells (c := rb) (.inl rfl) 0 [.string b]⟩
  clear h hb
  go_enter Try.func100, Try.ntmps100
  go_wp2_with fail
  go_end0
  exact ⟨rfl, hfin.out⟩
set_option maxRecDepth 100000 in
set_option maxHeartbeats 4000000 in
theorem number24_any (rb : Nat) (s b : ByteArray) (v : Int) (q : Nat) (w : World) (h : Whole w rb 89 [.string s, .bool false]) (hs : s.size ≤ 100000) (hu : unch s.data.toList = (v, (q : Int), 0)) (hq : q ≤ s.size) (hv : v ≤ 9223372036854775807) (h0 : 0 ≤ v) (hb : s.extract q s.size = b) :
    Calls Try.prog 74 #[.pointer (some ⟨rb, 0, none⟩)] w fun e w' => e = .returned (.int .i64 v) ∧ Whole w' rb 89 [.string b, .bool false] ∧ Kept (fun q => q = rb) w w' := by
  have hun := fun W => unchain_any s W (by omega)
  rw [hu] at hun
  replace hun := Lib.hid hun
  have hp := Lib.hid (pass24_any rb s b q w h hq hs hb)
  have c0 : w.cell? ⟨rb, 0, none⟩ = some (.string s) := h.cell 0
  clear h hb hu
  go_enter Try.func74, Try.ntmps74
  go_wp2_with fail
  refine (hun.out _).mono ?_
  rintro _ w1 ⟨rfl, rfl⟩
  go_wp2_with fail
  refine hp.out.mono ?_
  rintro _ w2 ⟨rfl, hW, hk⟩
  replace hW := Lib.hid hW
  replace hk := Lib.hid hk
  go_wp2_with fail
  go_ret
  exact ⟨by go_num, hW.out, hk.out⟩
set_option maxRecDepth 100000 in
set_option maxHeartbeats 4000000 in
theorem text24_any (rb : Nat) (s t b : ByteArray) (q : Nat) (w : World) (h : Whole w rb 89 [.string s, .bool false]) (hs : s.size ≤ 100000) (hu : untx s = (t, (q : Int), 0)) (hq : q ≤ s.size) (hb : s.extract q s.size = b) :
    Calls Try.prog 73 #[.pointer (some ⟨rb, 0, none⟩)] w fun e w' => e = .returned (.string t) ∧ Whole w' rb 89 [.string b, .bool false] ∧ Kept (fun q => q = rb) w w' := by
  have hun := untext_any s w (by omega)
  rw [hu] at hun
  replace hun := Lib.hid hun
  have c0 : w.cell? ⟨rb, 0, none⟩ = some (.string s) := h.cell 0
  have hp := Lib.hid (fun W (hW : Below w.heap.size w W) => pass24_any rb s b q W (h.below hW h.lt) hq hs hb)
  clear h hb hu
  go_enter Try.func73, Try.ntmps73
  go_wp2_with fail
  refine hun.out.mono ?_
  rintro _ w1 ⟨rfl, b1⟩
  replace hp := Lib.hid (hp.out _ b1)
  replace b1 := Lib.hid b1
  go_wp2_with fail
  refine hp.out.mono ?_
  rintro _ w2 ⟨rfl, hW, hk⟩
  have hk2 := Lib.hid ((Kept.of_below (own := fun q => q = rb) b1.out).trans hk)
  replace hW := Lib.hid hW
  clear hk
  go_wp2_with fail
  go_ret
  exact ⟨rfl, hW.out, hk2.out⟩
theorem whole24_yes (rb : Nat) (w : World) (h : Whole w rb 89 [.string ⟨#[]⟩, .bool false]) :
    Calls Try.prog 75 #[.pointer (some ⟨rb, 0, none⟩)] w fun e w' => e = .returned (.bool true) ∧ w = w' := by
  have c0 : w.cell? ⟨rb, 0, none⟩ = some (.string ⟨#[]⟩) := h.cell 0
  have c1 : w.cell? ⟨rb, 1, none⟩ = some (.bool false) := h.cell 1
  clear h
  go_enter Try.func75, Try.ntmps75
  go_wp2_with fail
  go_ret
  exact ⟨rfl, rfl⟩
set_option maxRecDepth 100000 in
set_option maxHeartbeats 4000000 in
theorem may24_yes (g t : ByteArray) (p n : Int) (w : World) (hg : nameB g = true) (ht : nameB t = true) (hp : 0 ≤ p ∧ p ≤ 3) (hn : 0 ≤ n ∧ n ≤ 1048577) :
    Calls Try.prog 50 #[.agg #[.string g, .string t, .int .i64 p], .int .i64 n] w fun e w' => e = .returned (.bool true) ∧ Below w.heap.size w w' := by
  have h1 := fun W => name22_any g W
  rw [hg] at h1
  have h2 := fun W => name22_any t W
  rw [ht] at h2
  have h3 := fun W => within24_any p 0 3 W
  rw [decide_eq_true hp] at h3
  have h4 := fun W => within24_any n 0 1048577 W
  rw [decide_eq_true hn] at h4
  replace h1 := Lib.hid h1
  replace h2 := Lib.hid h2
  replace h3 := Lib.hid h3
  replace h4 := Lib.hid h4
  have hb := Lib.hid (grewAlloc (Below.refl w.heap.size w) (.cells #[.string g, .string t, .int .i64 p] 26))
  clear hp hn
  go_enter Try.func50, Try.ntmps50
  go_wp2_with fail
  refine (h1.out _).mono ?_
  rintro _ w1 ⟨rfl, rfl⟩
  go_wp2_with fail
  refine (h2.out _).mono ?_
  rintro _ w1 ⟨rfl, rfl⟩
  go_wp2_with fail
  refine (h3.out _).mono ?_
  rintro _ w1 ⟨rfl, rfl⟩
  go_wp2_with fail
  refine (h4.out _).mono ?_
  rintro _ w1 ⟨rfl, rfl⟩
  go_wp2_with fail
  go_ret
  exact ⟨rfl, hb.out⟩
end Go.Proofs.Ytgogackkeodciaa.W
