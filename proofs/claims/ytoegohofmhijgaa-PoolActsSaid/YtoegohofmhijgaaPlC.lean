/- Package pool's New, Take, Claim, Give. -/
import Derived.Test.YtoegohofmhijgaaPlA
import Derived.Deep.DrawnRows
import Derived.Deep.OwnRows
import Derived.OwnWalk
namespace Go.Proofs.Ytoegohofmhijgaa.W
open Go.RowKit
open Go.Proofs.Ytoegohofmhijgaa.M Go.Proofs.Ytoegohofmhijgaa.D Go.Proofs.Ytoegohofmhijgaa.Z
set_option linter.unusedVariables false

/-- What a call leaves that writes a pool. -/
theorem Pl.set {w : World} {b a : Nat} {l : List Int} {ep ct : Nat} (h : Pl w b a l ep ct) (k : Nat) (hk : k < l.length) (g : Int) : Pl (w.setCell ⟨a, k, none⟩ (.int .i64 g)) b a (l.set k g) ep ct := by
  refine ⟨?_, ?_⟩
  · have e := h.box.far (c := a) h.ne k [.int .i64 g]
    rw [List.length_set]
    exact e
  · have e := h.row.store k [.int .i64 g] (by rw [rowP_len]; simp; omega)
    rw [show splice (rowP l) k [.int .i64 g] = (rowP l).set k (.int .i64 g) from by
      unfold splice
      rw [List.set_eq_take_append_cons_drop, if_pos (by rw [rowP_len]; exact hk)]
      rfl, rowP_set] at e
    exact e
theorem Pl.count {w : World} {b a : Nat} {l : List Int} {ep ct : Nat} (h : Pl w b a l ep ct) (c : Nat) : Pl (w.setCell ⟨b, 2, none⟩ (.int .i64 (c : Int))) b a l ep c := by
  refine ⟨?_, h.row.far (c := b) (fun e => h.ne e.symm) 2 [.int .i64 (c : Int)]⟩
  have e := h.box.store 2 [.int .i64 (c : Int)] (by simp)
  exact e
def Own2 (b a : Nat) : Nat → Prop := fun q => q = b ∨ q = a
section
variable {w : World} {b a : Nat} {l : List Int} {ep ct : Nat}
theorem first_idx {k : Nat} (h : FirstAt l k) : Lib.idxOf (l.take l.length) 0 = (k : Int) := by
  have hk : k < l.length := (List.getElem?_eq_some_iff.1 h.1).1
  refine Lib.idxOf_hit l l.length k 0 hk (Nat.le_refl _) ?_ (fun j hj => ?_)
  · rw [List.getD, h.1]; rfl
  · have h2 := h.2 j hj
    rw [List.getElem?_eq_getElem (by omega)] at h2
    rw [List.getD, List.getElem?_eq_getElem (by omega)]
    exact fun e => h2 (congrArg some e)
theorem full_idx (h : Full l) : Lib.idxOf (l.take l.length) 0 = -1 := by
  refine Lib.idxOf_miss l l.length 0 (fun j hj => ?_)
  have h2 := h j
  rw [List.getElem?_eq_getElem hj] at h2
  rw [List.getD, List.getElem?_eq_getElem hj]
  exact fun e => h2 (congrArg some e)
theorem pindex_any (h : Pl w b a l ep ct) (hn : l.length ≤ 64) :
    Calls Try.prog 26 #[.slice (some ⟨a, 0, none⟩) l.length l.length, .int .i64 0] w fun e w' => e = .returned (.int .i64 (Lib.idxOf (l.take l.length) 0)) ∧ w' = w :=
  Try.slices_Index_int a 0 l.length l.length l 0 w (Nat.le_refl _) (by omega) (fun j hj => by
    rw [Nat.zero_add]
    rw [List.getD, List.getElem?_eq_getElem hj]
    exact h.at_ (List.getElem?_eq_getElem hj))
theorem ptake_done (h : Pl w b a l ep ct) (hn : l.length ≤ 64) (he : ep < 65536) (hc : ct < 65536) (g : Int) (hg : okG g = true) (k : Nat) (hk : FirstAt l k) :
    Calls Try.prog 11 #[.pointer (some ⟨b, 0, none⟩), .int .i64 g] w fun e w' => e = .returned (.tuple #[.int .i64 (k : Int), .int .u32 ((65536 * ep + ct : Nat) : Int), .int .i64 0]) ∧ Pl w' b a (l.set k g) ep (ct + 1) ∧ Kept (Own2 b a) w w' := by
  have hkl : k < l.length := (List.getElem?_eq_some_iff.1 hk.1).1
  have hix := pindex_any h hn
  rw [first_idx hk] at hix
  have hlg := fun W => isLog_any g W
  rw [hg] at hlg
  have hst := Lib.hid (fun (W : World) (hb : Below w.heap.size w W) => pstamp_yes (h.grow hb) he hc)
  have c0 := h.c0
  have h2 : (k : Int) < (l.length : Int) := by omega
  have hk0 := Lib.hid hk.1
  have hpl := Lib.hid h
  have hnl := Lib.hid hn
  generalize hnn : l.length = n at *
  replace hix := Lib.hid hix
  replace hlg := Lib.hid hlg
  clear h hn hk hg
  go_enter Try.func11, Try.ntmps11
  go_wp2_with fail
  refine (hlg.out _).mono ?_
  rintro ee w1 ⟨rfl, rfl⟩
  go_wp2_with fail
  refine hix.out.mono ?_
  rintro ee w1 ⟨rfl, rfl⟩
  go_wp2_with fail
  refine (hst.out _ (Below.refl _ _)).mono ?_
  rintro ee w2 ⟨rfl, hb2⟩
  have hp2 := hpl.out.grow hb2
  have d0 : w2.cell? ⟨b, 0, none⟩ = some (.slice (some ⟨a, 0, none⟩) n n) := by rw [← hnn]; exact hp2.c0
  have d2 := hp2.c2
  have dk := hp2.at_ hk0.out
  have dfr := hp2.row.frozen k
  have hp3 := hp2.set k (by rw [hnn]; exact hkl) g
  have e2 := hp3.c2
  have e2f := hp3.box.frozen 2
  have hp4 := Lib.hid (hp3.count (ct + 1))
  have hk4 := Lib.hid (((Kept.of_below (own := Own2 b a) hb2).setCell (c := a) (.inl (.inr rfl)) k (.int .i64 g)).setCell (c := b) (.inl (.inl rfl)) 2 (.int .i64 ((ct + 1 : Nat) : Int)))
  clear hp2 hp3 hpl hst hb2
  go_wp2_with fail
  go_ret3
  exact ⟨rfl, hp4.out, hk4.out⟩
theorem ptake_none (h : Pl w b a l ep ct) (hn : l.length ≤ 64) (he : ep < 65536) (g : Int) (hg : okG g = true) (hf : Full l ∨ 65536 ≤ ct) :
    Calls Try.prog 11 #[.pointer (some ⟨b, 0, none⟩), .int .i64 g] w fun e w' => e = .returned (.tuple #[.int .i64 0, .int .u32 0, .int .i64 32]) ∧ Below w.heap.size w w' := by
  have hix := pindex_any h hn
  have hlg := fun W => isLog_any g W
  rw [hg] at hlg
  have c0 := h.c0
  by_cases hc : ct < 65536
  · have hfl : Full l := by
      rcases hf with h1 | h1
      · exact h1
      · omega
    rw [full_idx hfl] at hix
    have hst := Lib.hid (pstamp_yes h he hc)
    generalize hnn : l.length = n at *
    replace hix := Lib.hid hix
    replace hlg := Lib.hid hlg
    clear h hn hg hf hfl
    go_enter Try.func11, Try.ntmps11
    go_wp2_with fail
    refine (hlg.out _).mono ?_
    rintro ee w1 ⟨rfl, rfl⟩
    go_wp2_with fail
    refine hix.out.mono ?_
    rintro ee w1 ⟨rfl, rfl⟩
    go_wp2_with fail
    refine hst.out.mono ?_
    rintro ee w2 ⟨rfl, hb2⟩
    go_wp2_with fail
    go_ret3
    exact ⟨rfl, hb2⟩
  · have hst := Lib.hid (pstamp_no h (fun e => hc e.2))
    generalize hnn : l.length = n at *
    obtain ⟨i, hi⟩ : ∃ i, Hid (Lib.idxOf (l.take n) 0 = i) := ⟨_, Lib.hid rfl⟩
    rw [hi.out] at hix
    replace hix := Lib.hid hix
    replace hlg := Lib.hid hlg
    clear h hn hg hf hi
    by_cases hi0 : i < 0
    · go_enter Try.func11, Try.ntmps11
      go_wp2_with fail
      refine (hlg.out _).mono ?_
      rintro ee w1 ⟨rfl, rfl⟩
      go_wp2_with fail
      refine hix.out.mono ?_
      rintro ee w1 ⟨rfl, rfl⟩
      go_wp2_with fail
      refine hst.out.mono ?_
      rintro ee w2 ⟨rfl, hb2⟩
      go_wp2_with fail
      go_ret3
      exact ⟨rfl, hb2⟩
    · have hi1 : 0 ≤ i := by omega
      go_enter Try.func11, Try.ntmps11
      go_wp2_with fail
      refine (hlg.out _).mono ?_
      rintro ee w1 ⟨rfl, rfl⟩
      go_wp2_with fail
      refine hix.out.mono ?_
      rintro ee w1 ⟨rfl, rfl⟩
      go_wp2_with fail
      refine hst.out.mono ?_
      rintro ee w2 ⟨rfl, hb2⟩
      go_wp2_with fail
      go_ret3
      exact ⟨rfl, hb2⟩
theorem ptake_arg (g : Int) (hg : okG g = false) (w : World) :
    Calls Try.prog 11 #[.pointer (some ⟨b, 0, none⟩), .int .i64 g] w fun e w' => e = .returned (.tuple #[.int .i64 0, .int .u32 0, .int .i64 1]) ∧ w = w' := by
  have hlg := fun W => isLog_any g W
  rw [hg] at hlg
  replace hlg := Lib.hid hlg
  clear hg
  go_enter Try.func11, Try.ntmps11
  go_wp2_with fail
  refine (hlg.out _).mono ?_
  rintro ee w1 ⟨rfl, rfl⟩
  go_wp2_with fail
  go_ret3
  exact ⟨rfl, rfl⟩
theorem ptake_nil (g : Int) (w : World) :
    Calls Try.prog 11 #[.pointer none, .int .i64 g] w fun e w' => e = .returned (.tuple #[.int .i64 0, .int .u32 0, .int .i64 7]) ∧ w = w' := by
  go_enter Try.func11, Try.ntmps11
  go_wp2_with fail
  go_ret3
  exact ⟨rfl, rfl⟩
theorem ptake_any (h : Pl w b a l ep ct) (hn : l.length ≤ 64) (he : ep < 65536) {g seg : Int} {st : Nat} {er : Int} {l' : List Int} {ct' : Nat} (ht : Tk l ep ct g seg st er l' ct') :
    Calls Try.prog 11 #[.pointer (some ⟨b, 0, none⟩), .int .i64 g] w fun e w' => e = .returned (.tuple #[.int .i64 seg, .int .u32 (st : Int), .int .i64 er]) ∧ Pl w' b a l' ep ct' ∧ Kept (Own2 b a) w w' := by
  rcases ht with ⟨hg, rfl, rfl, rfl, rfl, rfl⟩ | ⟨hg, hf, rfl, rfl, rfl, rfl, rfl⟩ | ⟨hg, k, hk, hc, rfl, rfl, rfl, rfl, rfl⟩
  · exact (ptake_arg g hg w).mono fun e w' ⟨h1, h2⟩ => ⟨h1, h2 ▸ h, h2 ▸ Kept.refl _ _⟩
  · exact (ptake_none h hn he g hg hf).mono fun e w' ⟨h1, h2⟩ => ⟨h1, h.grow h2, Kept.of_below h2⟩
  · exact ptake_done h hn he hc g hg k hk
theorem phas_lit (h : Pl w b a l ep ct) (s : Int) (r : Bool) (hr : decide (0 ≤ s ∧ s < (l.length : Int)) = r) :
    Calls Try.prog 31 #[.pointer (some ⟨b, 0, none⟩), .int .i64 s] w fun e w' => e = .returned (.bool r) ∧ w = w' := by
  have e := phas_any h s
  rwa [hr] at e
theorem pclaim_nil (s g : Int) (w : World) :
    Calls Try.prog 14 #[.pointer none, .int .i64 s, .int .i64 g] w fun e w' => e = .returned (.int .i64 7) ∧ w = w' := by
  go_enter Try.func14, Try.ntmps14
  go_wp2_with fail
  go_ret
  exact ⟨rfl, rfl⟩
theorem pgive_nil (s : Int) (w : World) :
    Calls Try.prog 16 #[.pointer none, .int .i64 s] w fun e w' => e = .returned (.int .i64 7) ∧ w = w' := by
  go_enter Try.func16, Try.ntmps16
  go_wp2_with fail
  go_ret
  exact ⟨rfl, rfl⟩
theorem psize_nil (w : World) :
    Calls Try.prog 22 #[.pointer none] w fun e w' => e = .returned (.int .i64 0) ∧ w = w' := by
  go_enter Try.func22, Try.ntmps22
  go_wp2_with fail
  go_ret
  exact ⟨rfl, rfl⟩
theorem phas_nil (s : Int) (w : World) :
    Calls Try.prog 31 #[.pointer none, .int .i64 s] w fun e w' => e = .returned (.bool false) ∧ w = w' := by
  have hz := Lib.hid (psize_nil w)
  go_enter Try.func31, Try.ntmps31
  by_cases h0 : 0 ≤ s
  · have h1 : decide (s < 0) = false := by simp; omega
    go_wp2_with fail
    refine hz.out.mono ?_
    rintro ee w1 ⟨rfl, rfl⟩
    go_wp2_with fail
    go_ret
    exact ⟨rfl, rfl⟩
  · have h1 : s < 0 := by omega
    clear hz
    go_wp2_with fail
    go_ret
    exact ⟨rfl, rfl⟩
theorem powner_nil (s : Int) (w : World) :
    Calls Try.prog 23 #[.pointer none, .int .i64 s] w fun e w' => e = .returned (.int .i64 0) ∧ w = w' := by
  have hz := Lib.hid (phas_nil s w)
  go_enter Try.func23, Try.ntmps23
  go_wp2_with fail
  refine hz.out.mono ?_
  rintro ee w1 ⟨rfl, rfl⟩
  go_wp2_with fail
  go_ret
  exact ⟨rfl, rfl⟩
theorem pclaim_any (h : Pl w b a l ep ct) {s g er : Int} {l' : List Int} (hc : Cl l s g er l') :
    Calls Try.prog 14 #[.pointer (some ⟨b, 0, none⟩), .int .i64 s, .int .i64 g] w fun e w' => e = .returned (.int .i64 er) ∧ Pl w' b a l' ep ct ∧ Kept (Own2 b a) w w' := by
  have hlg := fun W => isLog_any g W
  have c0 := h.c0
  rcases hc with ⟨hs, rfl, rfl⟩ | ⟨hs, hg, rfl, rfl⟩ | ⟨hs, hg, ⟨o, ho, h0⟩, rfl, rfl⟩ | ⟨hs, hg, ho, rfl, rfl⟩
  · have hz := Lib.hid (phas_lit h s false (by rw [decide_eq_false_iff_not]; exact hs))
    have hk := Lib.hid (And.intro h (Kept.refl (Own2 b a) w))
    clear h hs hlg
    go_enter Try.func14, Try.ntmps14
    go_wp2_with fail
    refine hz.out.mono ?_
    rintro ee w1 ⟨rfl, rfl⟩
    go_wp2_with fail
    go_ret
    exact ⟨rfl, hk.out⟩
  · have hz := Lib.hid (phas_lit h s true (by rw [decide_eq_true_iff]; exact hs))
    have hk := Lib.hid (And.intro h (Kept.refl (Own2 b a) w))
    rw [hg] at hlg
    replace hlg := Lib.hid hlg
    clear h hs hg
    go_enter Try.func14, Try.ntmps14
    go_wp2_with fail
    refine hz.out.mono ?_
    rintro ee w1 ⟨rfl, rfl⟩
    go_wp2_with fail
    refine (hlg.out _).mono ?_
    rintro ee w1 ⟨rfl, rfl⟩
    go_wp2_with fail
    go_ret
    exact ⟨rfl, hk.out⟩
  · have hz := Lib.hid (phas_lit h s true (by rw [decide_eq_true_iff]; exact hs))
    have hk := Lib.hid (And.intro h (Kept.refl (Own2 b a) w))
    rw [hg] at hlg
    replace hlg := Lib.hid hlg
    obtain ⟨k, rfl⟩ : ∃ k : Nat, s = (k : Int) := ⟨s.toNat, by omega⟩
    rw [Int.toNat_natCast] at ho
    have c3 := h.at_ ho
    have h2 : (k : Int) < (l'.length : Int) := hs.2
    have h3 : (o != 0) = true := by simp [h0]
    generalize l'.length = n at *
    clear h hs hg ho h0
    go_enter Try.func14, Try.ntmps14
    go_wp2_with fail
    refine hz.out.mono ?_
    rintro ee w1 ⟨rfl, rfl⟩
    go_wp2_with fail
    refine (hlg.out _).mono ?_
    rintro ee w1 ⟨rfl, rfl⟩
    go_wp2_with fail
    go_ret
    exact ⟨rfl, hk.out⟩
  · have hz := Lib.hid (phas_lit h s true (by rw [decide_eq_true_iff]; exact hs))
    rw [hg] at hlg
    replace hlg := Lib.hid hlg
    obtain ⟨k, rfl⟩ : ∃ k : Nat, s = (k : Int) := ⟨s.toNat, by omega⟩
    rw [Int.toNat_natCast] at ho ⊢
    have c3 := h.at_ ho
    have cf := h.row.frozen k
    have h2 : (k : Int) < (l.length : Int) := hs.2
    have hk := Lib.hid (And.intro (h.set k (by omega) g) ((Kept.refl (Own2 b a) w).setCell (c := a) (.inl (.inr rfl)) k (.int .i64 g)))
    generalize l.length = n at *
    clear h hs hg ho
    go_enter Try.func14, Try.ntmps14
    go_wp2_with fail
    refine hz.out.mono ?_
    rintro ee w1 ⟨rfl, rfl⟩
    go_wp2_with fail
    refine (hlg.out _).mono ?_
    rintro ee w1 ⟨rfl, rfl⟩
    go_wp2_with fail
    go_ret
    exact ⟨rfl, hk.out⟩
theorem pgive_any (h : Pl w b a l ep ct) {s er : Int} {l' : List Int} (hc : Gv l s er l') :
    Calls Try.prog 16 #[.pointer (some ⟨b, 0, none⟩), .int .i64 s] w fun e w' => e = .returned (.int .i64 er) ∧ Pl w' b a l' ep ct ∧ Kept (Own2 b a) w w' := by
  have c0 := h.c0
  rcases hc with ⟨hs, rfl, rfl⟩ | ⟨hs, ho, rfl, rfl⟩ | ⟨hs, ⟨o, ho, h0⟩, rfl, rfl⟩
  · have hz := Lib.hid (phas_lit h s false (by rw [decide_eq_false_iff_not]; exact hs))
    have hk := Lib.hid (And.intro h (Kept.refl (Own2 b a) w))
    clear h hs
    go_enter Try.func16, Try.ntmps16
    go_wp2_with fail
    refine hz.out.mono ?_
    rintro ee w1 ⟨rfl, rfl⟩
    go_wp2_with fail
    go_ret
    exact ⟨rfl, hk.out⟩
  · have hz := Lib.hid (phas_lit h s true (by rw [decide_eq_true_iff]; exact hs))
    have hk := Lib.hid (And.intro h (Kept.refl (Own2 b a) w))
    obtain ⟨k, rfl⟩ : ∃ k : Nat, s = (k : Int) := ⟨s.toNat, by omega⟩
    rw [Int.toNat_natCast] at ho
    have c3 := h.at_ ho
    have h2 : (k : Int) < (l'.length : Int) := hs.2
    generalize l'.length = n at *
    clear h hs ho
    go_enter Try.func16, Try.ntmps16
    go_wp2_with fail
    refine hz.out.mono ?_
    rintro ee w1 ⟨rfl, rfl⟩
    go_wp2_with fail
    go_ret
    exact ⟨rfl, hk.out⟩
  · have hz := Lib.hid (phas_lit h s true (by rw [decide_eq_true_iff]; exact hs))
    obtain ⟨k, rfl⟩ : ∃ k : Nat, s = (k : Int) := ⟨s.toNat, by omega⟩
    rw [Int.toNat_natCast] at ho ⊢
    have c3 := h.at_ ho
    have cf := h.row.frozen k
    have h2 : (k : Int) < (l.length : Int) := hs.2
    have h3 : (o == 0) = false := by simp [h0]
    have hk := Lib.hid (And.intro (h.set k (by omega) 0) ((Kept.refl (Own2 b a) w).setCell (c := a) (.inl (.inr rfl)) k (.int .i64 0)))
    generalize l.length = n at *
    clear h hs ho h0
    go_enter Try.func16, Try.ntmps16
    go_wp2_with fail
    refine hz.out.mono ?_
    rintro ee w1 ⟨rfl, rfl⟩
    go_wp2_with fail
    go_ret
    exact ⟨rfl, hk.out⟩
end
end Go.Proofs.Ytoegohofmhijgaa.W
