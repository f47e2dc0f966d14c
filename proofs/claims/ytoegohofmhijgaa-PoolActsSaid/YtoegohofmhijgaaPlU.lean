/- The definition's pool: what each call comes to; Of, New, May; lists held against one another; a pool and the document's. -/
import Derived.Test.YtoegohofmhijgaaPlT
import Derived.Lib.QuietBelow
import Derived.Test.YtoegohofmhijgaaQuietB
namespace Go.Proofs.Ytoegohofmhijgaa.W
open Go.RowKit Go.Sort
open Go.Proofs.Ytoegohofmhijgaa.M Go.Proofs.Ytoegohofmhijgaa.D Go.Proofs.Ytoegohofmhijgaa.Z
set_option linter.unusedVariables false

section
variable {w : World} {B0 r : Nat} {l : List Int}
theorem rtake_any (h : Rp w B0 r l) (hB : B0 ≤ w.heap.size) (c ep ct : Nat) (hn : l.length ≤ 64) (he : ep < 65536) {g seg : Int} {st : Nat} {er : Int} {l' : List Int} {ct' : Nat} (ht : Tk l ep ct g seg st er l' ct') :
    Calls Try.prog 12 #[rv r l.length c (ep : Int) (ct : Int), .int .i64 g] w fun e w' => ∃ r' c', e = .returned (.agg (tookV r' l.length c' ep (ct' : Int) seg (st : Int) er).toArray) ∧ Rp w' B0 r' l' ∧ Below w.heap.size w w' := by
  rcases ht with ⟨hg, rfl, rfl, rfl, rfl, rfl⟩ | ⟨hg, hf, rfl, rfl, rfl, rfl, rfl⟩ | ⟨hg, k, hk, hc, rfl, rfl, rfl, rfl, rfl⟩
  · exact (rtake_arg h c ep _ g hg).mono fun e w' ⟨h1, h2⟩ => ⟨r, c, h1, h.grow h2, h2⟩
  · exact (rtake_none h c ep _ g hn hg hf).mono fun e w' ⟨h1, h2⟩ => ⟨r, c, h1, h.grow h2, h2⟩
  · refine (rtake_done h c ep ct g hn he hc hg k hk).mono ?_
    rintro e w' ⟨r', c', h1, h2, h3⟩
    exact ⟨r', c', h1, h2.mono hB, h3⟩
theorem rclaim_any (h : Rp w B0 r l) (hB : B0 ≤ w.heap.size) (c : Nat) (ep ct : Int) (hn : l.length ≤ 64) {s g er : Int} {l' : List Int} (hc : Cl l s g er l') :
    Calls Try.prog 13 #[rv r l.length c ep ct, .int .i64 s, .int .i64 g] w fun e w' => ∃ r' c', e = .returned (.agg (didV r' l.length c' ep ct er).toArray) ∧ Rp w' B0 r' l' ∧ Below w.heap.size w w' := by
  rcases hc with ⟨hs, rfl, rfl⟩ | ⟨hs, hg, rfl, rfl⟩ | ⟨hs, hg, ho, rfl, rfl⟩ | ⟨hs, hg, ho, rfl, rfl⟩
  · exact (rclaim_20 h c ep ct s g hn hs).mono fun e w' ⟨h1, h2⟩ => ⟨r, c, h1, h.grow h2, h2⟩
  · exact (rclaim_1 h c ep ct s g hn hs hg).mono fun e w' ⟨h1, h2⟩ => ⟨r, c, h1, h.grow h2, h2⟩
  · obtain ⟨k, rfl⟩ : ∃ k : Nat, s = (k : Int) := ⟨s.toNat, by omega⟩
    rw [Int.toNat_natCast] at ho
    exact (rclaim_8 h c ep ct k g hn hg ho).mono fun e w' ⟨h1, h2⟩ => ⟨r, c, h1, h.grow h2, h2⟩
  · obtain ⟨k, rfl⟩ : ∃ k : Nat, s = (k : Int) := ⟨s.toNat, by omega⟩
    rw [Int.toNat_natCast] at ho ⊢
    refine (rclaim_0 h c ep ct k g hn hg ho).mono ?_
    rintro e w' ⟨r', c', h1, h2, h3⟩
    exact ⟨r', c', h1, h2.mono hB, h3⟩
theorem rgive_any (h : Rp w B0 r l) (hB : B0 ≤ w.heap.size) (c : Nat) (ep ct : Int) (hn : l.length ≤ 64) {s er : Int} {l' : List Int} (hc : Gv l s er l') :
    Calls Try.prog 15 #[rv r l.length c ep ct, .int .i64 s] w fun e w' => ∃ r' c', e = .returned (.agg (didV r' l.length c' ep ct er).toArray) ∧ Rp w' B0 r' l' ∧ Below w.heap.size w w' := by
  rcases hc with ⟨hs, rfl, rfl⟩ | ⟨hs, ho, rfl, rfl⟩ | ⟨hs, ho, rfl, rfl⟩
  · exact (rgive_20 h c ep ct s hn hs).mono fun e w' ⟨h1, h2⟩ => ⟨r, c, h1, h.grow h2, h2⟩
  · obtain ⟨k, rfl⟩ : ∃ k : Nat, s = (k : Int) := ⟨s.toNat, by omega⟩
    rw [Int.toNat_natCast] at ho
    exact (rgive_6 h c ep ct k hn ho).mono fun e w' ⟨h1, h2⟩ => ⟨r, c, h1, h.grow h2, h2⟩
  · obtain ⟨k, rfl⟩ : ∃ k : Nat, s = (k : Int) := ⟨s.toNat, by omega⟩
    rw [Int.toNat_natCast] at ho ⊢
    refine (rgive_0 h c ep ct k hn ho).mono ?_
    rintro e w' ⟨r', c', h1, h2, h3⟩
    exact ⟨r', c', h1, h2.mono hB, h3⟩
theorem rmayP_any (s e : Int) (w : World) :
    Calls Try.prog 9 #[.int .i64 s, .int .i64 e] w fun x w' => x = .returned (.bool (decide (6 ≤ s ∧ s ≤ 64 ∧ 0 ≤ e ∧ e ≤ 65535))) ∧ w = w' := by
  obtain ⟨r, hr⟩ : ∃ r, Hid (decide (6 ≤ s ∧ s ≤ 64 ∧ 0 ≤ e ∧ e ≤ 65535) = r) := ⟨_, Lib.hid rfl⟩
  rw [hr.out]
  have hq := hr.out
  go_enter Try.func9, Try.ntmps9
  by_cases h0 : 6 ≤ s
  · by_cases h1 : s ≤ 64
    · by_cases h2 : 0 ≤ e
      · by_cases h3 : e ≤ 65535
        · obtain rfl : r = true := by rw [← hq]; simp [h0, h1, h2, h3]
          clear hq hr
          go_wp2_with fail
          go_ret
          exact ⟨rfl, rfl⟩
        · obtain rfl : r = false := by rw [← hq]; simp [h3]
          have h4 : 65535 < e := by omega
          clear hq hr
          go_wp2_with fail
          go_ret
          exact ⟨rfl, rfl⟩
      · obtain rfl : r = false := by rw [← hq]; simp [h2]
        have h4 : e < 0 := by omega
        clear hq hr
        go_wp2_with fail
        go_ret
        exact ⟨rfl, rfl⟩
    · obtain rfl : r = false := by rw [← hq]; simp [h1]
      have h4 : 64 < s := by omega
      clear hq hr
      go_wp2_with fail
      go_ret
      exact ⟨rfl, rfl⟩
  · obtain rfl : r = false := by rw [← hq]; simp [h0]
    have h4 : s < 6 := by omega
    clear hq hr
    go_wp2_with fail
    go_ret
    exact ⟨rfl, rfl⟩
theorem rnewP_any (n : Nat) (e : Int) (w : World) (h6 : 0 < n) (h64 : n ≤ 64) :
    Calls Try.prog 10 #[.int .i64 (n : Int), .int .i64 e] w fun x w' => ∃ r c, x = .returned (rv r n c e 0) ∧ Rp w' w.heap.size r (List.replicate n 0) ∧ Below w.heap.size w w' := by
  obtain ⟨cs, hcs, hmk⟩ := make_ints n h64 (w.alloc (.cells #[.slice none 0 0, .int .i64 0, .int .i64 0] 32))
  have hz : (w.alloc (.cells #[.slice none 0 0, .int .i64 0, .int .i64 0] 32)).heap.size = w.heap.size + 1 := by simp
  rw [hz] at hmk
  have hR := Whole.new (w.alloc (.cells #[.slice none 0 0, .int .i64 0, .int .i64 0] 32)) 3 (rowP (List.replicate n 0))
  rw [← hcs, hz] at hR
  have hY := (Whole.new w 32 [.slice none 0 0, .int .i64 0, .int .i64 0]).alloc (.cells cs 3)
  have hB := grewAlloc ((Below.refl w.heap.size w).alloc (Nat.le_refl _) (.cells #[.slice none 0 0, .int .i64 0, .int .i64 0] 32)) (.cells cs 3)
  obtain ⟨W, hW⟩ : ∃ W, Hid (W = (w.alloc (.cells #[.slice none 0 0, .int .i64 0, .int .i64 0] 32)).alloc (.cells cs 3)) := ⟨_, Lib.hid rfl⟩
  rw [← hW.out] at hmk hY hB
  replace hR : Hid (Whole W (w.heap.size + 1) 3 (rowP (List.replicate n 0))) := Lib.hid (by rw [hW.out, ← hcs]; exact hR)
  replace hY := Lib.hid hY
  replace hB := Lib.hid hB
  clear hW hcs hz
  go_enter Try.func10, Try.ntmps10
  go_wp2_with (with_reducible refine zStore 32 _ _ rfl ?_)
  refine Lib.hid ?_
  refine wpList_store_mid rfl 32 _ _ rfl w.heap.size 0 #[.slice (some ⟨w.heap.size + 1, 0, none⟩) n n, .int .i64 e, .int .i64 0] rfl rfl (hY.out.there 0 3 (by simp)) sizeP3 (by simp [Value.oneCell']) ?_
  go_wp2_with fail
  have hfin := whole_all hY.out (vs := [.slice (some ⟨w.heap.size + 1, 0, none⟩) n n, .int .i64 e, .int .i64 0]) rfl
  have hrz : Rp (W.setCells w.heap.size 0 [.slice (some ⟨w.heap.size + 1, 0, none⟩) n n, .int .i64 e, .int .i64 0]) w.heap.size (w.heap.size + 1) (List.replicate n 0) := ⟨by omega, fun j o hj => by
    exact ((hR.out.far (c := w.heap.size) (by omega) 0 [.slice (some ⟨w.heap.size + 1, 0, none⟩) n n, .int .i64 e, .int .i64 0]).cell j).trans (rowP_at hj)⟩
  exact bodyPost_ret (result_cell Try.results10 rfl hfin.range Try.underlying32 rfl sizeP3) rfl ⟨w.heap.size + 1, n, rfl, hrz, below_store hB.out (Nat.le_refl _) (Nat.le_refl _) 0 _⟩
end
end Go.Proofs.Ytoegohofmhijgaa.W
