/- The definition's Of; lists held against one another; is a pool the document's? -/
import Derived.Test.YtoegohofmhijgaaPlU
import Derived.Deep.AppendLies
namespace Go.Proofs.Ytoegohofmhijgaa.W
open Go.RowKit Go.Sort
open Go.Proofs.Ytoegohofmhijgaa.M Go.Proofs.Ytoegohofmhijgaa.D Go.Proofs.Ytoegohofmhijgaa.Z
set_option linter.unusedVariables false

theorem steps_rof (l : List Int) (g : Int) : Steps l (fun o => o == g && g != 0) (fun k => if g = 0 then [] else ofL (l.take k) g) := by
  refine ⟨by by_cases h : g = 0 <;> simp [h, ofL], fun k o hk => ?_⟩
  by_cases hg : g = 0
  · simp [hg]
  · simp only [if_neg hg]
    rw [ofL_take l k o g hk]
    by_cases h : o = g
    · rw [if_pos h, if_pos (by simp [h, hg])]
    · rw [if_neg h, if_neg (by simp [h])]
set_option maxHeartbeats 4000000 in
set_option maxRecDepth 100000 in
theorem rof_any {w : World} {B0 r : Nat} {l : List Int} (h : Rp w B0 r l) (hn : l.length ≤ 64) (cc : Nat) (ep ct g : Int) :
    Calls Try.prog 20 #[rv r l.length cc ep ct, .int .i64 g] w fun e w' => ∃ A c, e = .returned (.slice A (ofP l g).length c) ∧ Told w' A (ofP l g) ∧ Below w.heap.size w w' := by
  have hS := steps_rof l g
  have hTn : (fun k => if g = 0 then [] else ofL (l.take k) g) l.length = ofP l g := by
    show (if g = 0 then [] else ofL (l.take l.length) g) = ofP l g
    rw [List.take_length]; rfl
  rw [← hTn]
  generalize (fun k => if g = 0 then [] else ofL (l.take k) g) = T at *
  have hP : ∃ P : Int → Bool, (fun o => o == g && g != 0) = P := ⟨_, rfl⟩
  clear hTn
  obtain ⟨is, his, hs0, hs1, hs2⟩ := info_parts infoI
  have hB := (Below.refl w.heap.size w).alloc (Nat.le_refl _) (.cells #[.slice (some ⟨r, 0, none⟩) l.length cc, .int .i64 ep, .int .i64 ct] 32)
  have hR := h.grow hB
  obtain ⟨W, hW⟩ : ∃ W, Hid (W = w.alloc (.cells #[.slice (some ⟨r, 0, none⟩) l.length cc, .int .i64 ep, .int .i64 ct] 32)) := ⟨_, Lib.hid rfl⟩
  rw [← hW.out] at hB hR
  have hcell : Hid (∀ W' : World, Below W.heap.size W W' → ∀ (k : Nat) (o : Int), l[k]? = some o → W'.cell? ⟨r, k, none⟩ = some (.int .i64 o)) := Lib.hid (fun W' hb k o hk => (hR.grow hb).at_ k o hk)
  have hget : Hid (∀ k, k < l.length → ∃ o, l[k]? = some o) := Lib.hid (fun k hk => ⟨_, List.getElem?_eq_getElem hk⟩)
  have hlen := Lib.hid hS.len
  have hzero := hS.zero
  have hnext := Lib.hid hS.next
  have hB2 := Below.refl W.heap.size W
  generalize l.length = n at *
  replace hB := Lib.hid hB
  clear h hS hR hP
  go_enter Try.func20, Try.ntmps20
  go_wp2_with fail
  rw [← hW.out]
  clear hW
  go_loopg [5, 11] n (fun ga v i wr => ∃ k : Nat, k ≤ n ∧ n ≤ k + ga ∧ i = .int .i64 k ∧ Below W.heap.size W wr ∧ Hid (wr.ownsRow W.heap.size 3 1 v (T k).length ((T k).map nv)))
  case atStart => exact ⟨0, by omega, by omega, rfl, hB2, Lib.hid (by rw [hzero]; exact World.ownsRow_nil _ _ _ _)⟩
  case round =>
    clear hB2 hzero
    obtain ⟨k, hk, hg, rfl, hb, how⟩ := hrel
    generalize wr = wq at *
    have hsq := hb.size
    by_cases hlt : k < n
    · have hl2 : (k : Int) < (n : Int) := by omega
      obtain ⟨o, ho⟩ := hget.out k hlt
      have e1 := hcell.out wq hb k o ho
      have hnx := hnext.out k o ho
      have hlk := hlen.out k (by omega)
      by_cases h1 : o = g
      · by_cases h2 : g = 0
        · have b1 : (o == g) = true := by simp [h1]
          have b2 : (g != 0) = false := by simp [h2]
          rw [if_neg (by simp [b2])] at hnx
          replace hnx := Lib.hid hnx
          clear h1 h2 ho
          go_wp2_with fail
          go_roundg (gk - 1)
          case measure => omega
          case rel => exact ⟨k + 1, by omega, by omega, by go_num, hb, by rw [hnx.out]; exact how⟩
        · have b1 : (o == g) = true := by simp [h1]
          have b2 : (g != 0) = true := by simp [h2]
          rw [if_pos (by simp [b1, b2])] at hnx
          replace hnx := Lib.hid hnx
          clear h1 h2 ho
          go_wp2_with (with_reducible refine zAppend _ _ _ rfl ?_)
          refine Lib.hid ?_
          refine wpList_append_lies _ rfl _ _ 30 rfl W.heap.size 3 is _ 1 8 Try.underlying30 his hs0 hs1 hs2 rfl (by omega) _ _ _ rfl (how.out.alloc _) _ 1 1 [.int .i64 k] rfl rfl (World.news_of_block (heap_alloc_new _ _)) (by simp [Value.oneCell']) (by omega) (by unfold maxLen; omega) (by omega) (by simp; omega) (wq.heap.size + 1) (by simp) ?_
          intro gg cap2 w5 hown5 hgrow5 hat5 hlt5
          have hb5 : Below W.heap.size W w5 := (((Kept.of_below (own := fun b => W.heap.size ≤ b) hb).alloc _).grown hgrow5 (fun k hk => .inl (ownFar how.out k hk))).below (Nat.le_refl _) (fun _ h => h)
          have hown6 : Hid (w5.ownsRow W.heap.size 3 1 (.slice (some ⟨gg, 0, none⟩) ((T k).length + 1) cap2) (T (k + 1)).length ((T (k + 1)).map nv)) := by
            rw [hnx.out, List.map_append, List.length_append]; exact Lib.hid hown5
          clear hown5 hgrow5 hat5 how hb
          go_wp2_with fail
          go_roundg (gk - 1)
          case measure => omega
          case rel => exact ⟨k + 1, by omega, by omega, by go_num, hb5, hown6⟩
      · have b1 : (o == g) = false := by simp [h1]
        rw [if_neg (by simp [b1])] at hnx
        replace hnx := Lib.hid hnx
        clear h1 ho
        go_wp2_with fail
        go_roundg (gk - 1)
        case measure => omega
        case rel => exact ⟨k + 1, by omega, by omega, by go_num, hb, by rw [hnx.out]; exact how⟩
    · obtain rfl : k = n := by omega
      obtain ⟨A, c, hv, htl⟩ := own_told how.out
      generalize u5 = v5 at *
      subst hv
      clear how
      go_wp2_with fail
      go_ret
      exact ⟨A, c, rfl, htl, grew hB.out hb⟩
theorem pints_any (A1 A2 : Option Addr) (c1 c2 : Nat) (xs : List Nat) (w : World) (h1 : Told w A1 xs) (h2 : Told w A2 xs) (hl : xs.length ≤ 64) :
    Calls Try.prog 18 #[.slice A1 xs.length c1, .slice A2 xs.length c2] w fun e w' => e = .returned (.bool true) ∧ Below w.heap.size w w' := by
  have k1 := Lib.hid (show ∀ k, k < xs.length → ∃ g, A1 = some ⟨g, 0, none⟩ ∧ w.cell? ⟨g, k, none⟩ = some (.int .i64 (xs.getD k 0 : Nat)) from fun k hk => by
    obtain ⟨g, e, hc⟩ := h1 k _ (List.getElem?_eq_getElem hk)
    exact ⟨g, e, by rw [hc, List.getD, List.getElem?_eq_getElem hk]; rfl⟩)
  have k2 := Lib.hid (show ∀ k, k < xs.length → ∃ g, A2 = some ⟨g, 0, none⟩ ∧ w.cell? ⟨g, k, none⟩ = some (.int .i64 (xs.getD k 0 : Nat)) from fun k hk => by
    obtain ⟨g, e, hc⟩ := h2 k _ (List.getElem?_eq_getElem hk)
    exact ⟨g, e, by rw [hc, List.getD, List.getElem?_eq_getElem hk]; rfl⟩)
  obtain ⟨len, hlen⟩ : ∃ len, Hid (xs.length = len) := ⟨_, Lib.hid rfl⟩
  rw [hlen.out] at hl k1 k2 ⊢
  clear h1 h2
  go_enter Try.func18, Try.ntmps18
  go_wp2_with fail
  go_loopg [13] len (fun g i wr => ∃ k m : Nat, k ≤ len ∧ len ≤ k + g ∧ i = .int .i64 k ∧ wr = w.drewN m)
  case atStart => exact ⟨0, 0, by omega, by omega, rfl, rfl⟩
  case round =>
    obtain ⟨k, m, hk, hg, rfl, rfl⟩ := hrel
    by_cases hlt : k < len
    · obtain ⟨b1, rfl, f1⟩ := k1.out k hlt
      obtain ⟨b2, rfl, f2⟩ := k2.out k hlt
      obtain ⟨x, hx⟩ : ∃ x, Hid (xs.getD k 0 = x) := ⟨_, Lib.hid rfl⟩
      rw [hx.out] at f1 f2
      have hk0 : (0 : Int) ≤ (k : Int) := by omega
      have hk1 : (k : Int) < (len : Int) := by omega
      go_wp2_with fail
      go_quiet (fail)
      go_wp2_with fail
      go_roundg (gk - 1)
      case measure => omega
      case rel => exact ⟨k + 1, _, by omega, by omega, by go_num, rfl⟩
    · obtain rfl : k = len := by omega
      go_wp2_with fail
      go_ret
      exact ⟨rfl, drewS (Below.refl _ _) m⟩
end Go.Proofs.Ytoegohofmhijgaa.W
