/- Package release: the reader of an entry's fields. -/
import Derived.Test.YtgogackkeodciaaRlA
import Derived.Test.YtgogackkeodciaaMinMax
namespace Go.Proofs.Ytgogackkeodciaa.W
open Go.RowKit Go.Sort
open Go.Proofs.Ytgogackkeodciaa.M Go.Proofs.Ytgogackkeodciaa.D Go.Proofs.Ytgogackkeodciaa.Z
set_option linter.unusedVariables false
set_option linter.unusedSimpArgs false

theorem slice_from25 (s : ByteArray) (p : Nat) (hp : p ≤ s.size) (W : World) : (Instr.sliceAt 9 (.string s) (some (.int .i64 (p : Int))) none none).run Try.prog W = .ok (.string (s.extract p s.size)) W := by
  have h1 : (p : Int) ≤ (s.size : Int) := by omega
  simp [go_sem, h1, Try.underlying9]
theorem slice_to25 (s : ByteArray) (p : Nat) (hp : p ≤ s.size) (W : World) : (Instr.sliceAt 9 (.string s) none (some (.int .i64 (p : Int))) none).run Try.prog W = .ok (.string (s.extract 0 p)) W := by
  have h1 : (p : Int) ≤ (s.size : Int) := by omega
  simp [go_sem, h1, Try.underlying9]
set_option maxRecDepth 100000 in
set_option maxHeartbeats 4000000 in
theorem pass25_any (rb : Nat) (s a b : ByteArray) (k : Nat) (w : World) (h : Whole w rb 117 [.string s]) (hk : k ≤ s.size) (hs : s.size ≤ 100000) (ha : s.extract 0 k = a) (hb : s.extract k s.size = b) :
    Calls Try.prog 98 #[.pointer (some ⟨rb, 0, none⟩), .int .i64 (k : Int)] w fun e w' => e = .returned (.string a) ∧ Whole w' rb 117 [.string b] ∧ Kept (fun q => q = rb) w w' := by
  have c0 : w.cell? ⟨rb, 0, none⟩ = some (.string s) := h.cell 0
  have f0 : w.frozen? ⟨rb, 0, none⟩ = false := h.frozen 0
  have e1 := fun W => slice_to25 s k hk W
  have e2 := fun W => slice_from25 s k hk W
  rw [ha] at e1
  rw [hb] at e2
  have hfin : Hid (Whole (w.setCell ⟨rb, 0, none⟩ (.string b)) rb 117 [.string b] ∧ Kept (fun q => q = rb) w (w.setCell ⟨rb, 0, none⟩ (.string b))) := Lib.hid ⟨h.store 0 [.string b] (by simp), (Kept.refl (fun q => q = rb) w).setCells (c := rb) (.inl rfl) 0 [.string b]⟩
  have hm : min (k : Int) (s.size : Int) = (k : Int) := by omega
  clear h ha hb
  go_enter Try.func98, Try.ntmps98
  go_wp2_with (with_reducible refine zMin _ _ _ _ rfl ?_)
  refine Lib.hid ?_
  refine zwMin rfl _ _ _ _ rfl (k : Int) (s.size : Int) rfl rfl ?_
  rw [hm]
  go_wp2_with fail
  go_ret
  exact ⟨rfl, hfin.out⟩
theorem number25_any (rb : Nat) (s b : ByteArray) (v : Int) (q : Nat) (w : World) (h : Whole w rb 117 [.string s]) (hs : s.size ≤ 100000) (hu : unch s.data.toList = (v, (q : Int), 0)) (hq : q ≤ s.size) (hv : v ≤ 9223372036854775807) (h0 : 0 ≤ v) (hb : s.extract q s.size = b) :
    Calls Try.prog 68 #[.pointer (some ⟨rb, 0, none⟩)] w fun e w' => e = .returned (.int .i64 v) ∧ Whole w' rb 117 [.string b] ∧ Kept (fun q => q = rb) w w' := by
  have hun := fun W => unchain_any s W (by omega)
  rw [hu] at hun
  replace hun := Lib.hid hun
  have hp := Lib.hid (pass25_any rb s _ b q w h hq hs rfl hb)
  have c0 : w.cell? ⟨rb, 0, none⟩ = some (.string s) := h.cell 0
  have f0 : w.frozen? ⟨rb, 0, none⟩ = false := h.frozen 0
  clear h hb hu
  go_enter Try.func68, Try.ntmps68
  go_wp2_with fail
  refine (hun.out _).mono ?_
  rintro _ w1 ⟨rfl, rfl⟩
  go_wp2_with fail
  refine hp.out.mono ?_
  rintro _ w2 ⟨rfl, hW, hk⟩
  replace hW := Lib.hid hW
  replace hk := Lib.hid hk
  go_wp2_with fail
  go_ret
  exact ⟨by go_num, hW.out, hk.out⟩
theorem text25_any (rb : Nat) (s t b : ByteArray) (q : Nat) (w : World) (h : Whole w rb 117 [.string s]) (hs : s.size ≤ 100000) (hu : untx s = (t, (q : Int), 0)) (hq : q ≤ s.size) (hb : s.extract q s.size = b) :
    Calls Try.prog 115 #[.pointer (some ⟨rb, 0, none⟩)] w fun e w' => e = .returned (.string t) ∧ Whole w' rb 117 [.string b] ∧ Kept (fun q => q = rb) w w' := by
  have hun := untext_any s w (by omega)
  rw [hu] at hun
  replace hun := Lib.hid hun
  have c0 : w.cell? ⟨rb, 0, none⟩ = some (.string s) := h.cell 0
  have f0 : w.frozen? ⟨rb, 0, none⟩ = false := h.frozen 0
  have hp := fun W (hW : Below w.heap.size w W) => pass25_any rb s _ b q W (h.below hW h.lt) hq hs rfl hb
  replace hp := Lib.hid hp
  clear h hb hu
  go_enter Try.func115, Try.ntmps115
  go_wp2_with fail
  refine hun.out.mono ?_
  rintro _ w1 ⟨rfl, b1⟩
  replace hp := Lib.hid (hp.out _ b1)
  replace b1 := Lib.hid b1
  go_wp2_with fail
  refine hp.out.mono ?_
  rintro _ w2 ⟨rfl, hW, hk⟩
  have hk2 := Lib.hid ((Kept.of_below (own := fun q => q = rb) b1.out).trans hk)
  replace hW := Lib.hid hW
  clear hk
  go_wp2_with fail
  go_ret
  exact ⟨rfl, hW.out, hk2.out⟩
end Go.Proofs.Ytgogackkeodciaa.W
