/- The definition's records: Decode. -/
import Derived.Test.YtgfamaddghajlaaRcK
import Derived.Test.YtgfamaddghajlaaRcJ
import Derived.Test.YtgfamaddghajlaaStops
import Derived.Deep.Cut
import Derived.Test.YtgfamaddghajlaaCells
namespace Go.Proofs.Ytgfamaddghajlaa.W
open Go.RowKit Go.Sort
open Go.Proofs.Ytgfamaddghajlaa.M Go.Proofs.Ytgfamaddghajlaa.D Go.Proofs.Ytgfamaddghajlaa.Z
set_option linter.unusedVariables false
set_option linter.unusedSimpArgs false

theorem txAt_some {s x : ByteArray} {p q : Nat} (h : txAt s p = some (x, q)) : ∃ n : Nat, untx (s.extract p s.size) = (x, (n : Int), 0) ∧ q = p + n := by
  unfold txAt at h
  obtain ⟨a, n, e, hU⟩ : ∃ v n x, untx (s.extract p s.size) = (v, n, x) := ⟨_, _, _, rfl⟩
  rw [hU] at h ⊢
  dsimp only at h
  by_cases he : e = 0
  · subst he
    rw [if_pos rfl] at h
    simp only [Option.some.injEq, Prod.mk.injEq] at h
    obtain ⟨rfl, rfl⟩ := h
    have := (untx_back _ _ _ hU).1
    exact ⟨n.toNat, by rw [Int.toNat_of_nonneg (by omega)], rfl⟩
  · rw [if_neg he] at h; cases h
theorem txAt_none {s : ByteArray} {p : Nat} (h : txAt s p = none) : ∃ a n e, untx (s.extract p s.size) = (a, n, e) ∧ e ≠ 0 := by
  unfold txAt at h
  obtain ⟨a, n, e, hU⟩ : ∃ v n x, untx (s.extract p s.size) = (v, n, x) := ⟨_, _, _, rfl⟩
  rw [hU] at h
  exact ⟨a, n, e, hU, fun he => by dsimp only at h; rw [if_pos he] at h; cases h⟩
theorem sizeG10 : (Try.prog.info? 35).map (·.size) = some 10 := by kernel_rfl

set_option maxRecDepth 100000 in
set_option maxHeartbeats 4000000 in
theorem rdec_num (s : ByteArray) (w : World) (hs : s.size ≤ 100000) (hc : chs 6 s.data.toList = none) :
    Calls Try.prog 16 #[.string s] w fun e w' => e = .returned (.agg #[.int .i64 0, .int .i64 0, .string ⟨#[]⟩, .string ⟨#[]⟩, .bool false, .int .i64 0, .int .i64 0, .int .i64 0, .int .i64 0, .bool false]) ∧ Below w.heap.size w w' := by
  have hR0 := Lib.hid (Whole.new w 35 [.int .i64 0, .int .i64 0, .string ⟨#[]⟩, .string ⟨#[]⟩, .bool false, .int .i64 0, .int .i64 0, .int .i64 0, .int .i64 0, .bool false])
  have hB0 := Lib.hid ((Below.refl w.heap.size w).alloc (Nat.le_refl _) (.cells #[.int .i64 0, .int .i64 0, .string ⟨#[]⟩, .string ⟨#[]⟩, .bool false, .int .i64 0, .int .i64 0, .int .i64 0, .int .i64 0, .bool false] 35))
  have hnum := Lib.hid (fun W => (numbers_any s W hs).mono fun e w' (h : NumPost s e ∧ Below W.heap.size W w') => (show (∃ a0 a1 a2 a3 a4 a5 : Int, e = .returned (.tuple #[.agg #[.int .i64 a0, .int .i64 a1, .int .i64 a2, .int .i64 a3, .int .i64 a4, .int .i64 a5], .int .i64 (-1)])) ∧ Below W.heap.size W w' from ⟨h.1.elim (fun ⟨vs, p, h1, _⟩ => by rw [hc] at h1; cases h1) (fun h1 => h1.2), h.2⟩))
  clear hc
  go_enter Try.func16, Try.ntmps16
  go_wp2_with fail
  refine (hnum.out _).mono ?_
  rintro e w1 ⟨⟨a0, a1, a2, a3, a4, a5, rfl⟩, hb1⟩
  have hR1 := hR0.out.below hb1 hR0.out.lt
  have hB1 := grew hB0.out hb1
  obtain ⟨nb, hnb⟩ : ∃ nb, Hid (w1.heap.size = nb) := ⟨_, Lib.hid rfl⟩
  have hN := Whole.new w1 57 [.int .i64 a0, .int .i64 a1, .int .i64 a2, .int .i64 a3, .int .i64 a4, .int .i64 a5]
  have hRn := hR1.alloc (.cells #[.int .i64 a0, .int .i64 a1, .int .i64 a2, .int .i64 a3, .int .i64 a4, .int .i64 a5] 57)
  have hBn := grewAlloc hB1 (.cells #[.int .i64 a0, .int .i64 a1, .int .i64 a2, .int .i64 a3, .int .i64 a4, .int .i64 a5] 57)
  rw [hnb.out] at hN
  obtain ⟨W1, hW1⟩ : ∃ W1, Hid (W1 = w1.alloc (.cells #[.int .i64 a0, .int .i64 a1, .int .i64 a2, .int .i64 a3, .int .i64 a4, .int .i64 a5] 57)) := ⟨_, Lib.hid rfl⟩
  rw [← show W1 = _ from hW1.out] at hN hRn hBn
  obtain ⟨c0, c1, c2, c3, c4, c5⟩ := six_cells hN
  have hR := Lib.hid hRn
  have hB := Lib.hid hBn
  replace hN := Lib.hid hN
  clear hR0 hB0 hb1 hR1 hB1 hRn hBn
  go_upto_region 2 with fail
  rw [← show W1 = _ from hW1.out, hnb.out]
  clear hW1
  go_wp2_with (with_reducible refine zStore 35 _ _ rfl ?_)
  refine Lib.hid ?_
  refine wpList_store_mid rfl 35 _ _ rfl w.heap.size 0 #[.int .i64 0, .int .i64 0, .string ⟨#[]⟩, .string ⟨#[]⟩, .bool false, .int .i64 0, .int .i64 0, .int .i64 0, .int .i64 0, .bool false] rfl rfl (hR.out.there 0 10 (by simp)) sizeG10 (by simp [Value.oneCell']) ?_
  go_wp2_with fail
  have hfin := whole_all hR.out (vs := [.int .i64 0, .int .i64 0, .string ⟨#[]⟩, .string ⟨#[]⟩, .bool false, .int .i64 0, .int .i64 0, .int .i64 0, .int .i64 0, .bool false]) rfl
  exact bodyPost_ret (result_cell Try.results16 rfl hfin.range Try.underlying35 rfl sizeG10) rfl ⟨rfl, below_store hB.out (Nat.le_refl _) (Nat.le_refl _) 0 _⟩

set_option maxRecDepth 100000 in
set_option maxHeartbeats 4000000 in
theorem rdec_flag (s : ByteArray) (w : World) (hs : s.size ≤ 100000) (o t c d f g : Int) (p : Nat) (hc : chs 6 s.data.toList = some ([o, t, c, d, f, g], p)) (hg : 1 < g) :
    Calls Try.prog 16 #[.string s] w fun e w' => e = .returned (.agg #[.int .i64 0, .int .i64 0, .string ⟨#[]⟩, .string ⟨#[]⟩, .bool false, .int .i64 0, .int .i64 0, .int .i64 0, .int .i64 0, .bool false]) ∧ Below w.heap.size w w' := by
  have hR0 := Lib.hid (Whole.new w 35 [.int .i64 0, .int .i64 0, .string ⟨#[]⟩, .string ⟨#[]⟩, .bool false, .int .i64 0, .int .i64 0, .int .i64 0, .int .i64 0, .bool false])
  have hB0 := Lib.hid ((Below.refl w.heap.size w).alloc (Nat.le_refl _) (.cells #[.int .i64 0, .int .i64 0, .string ⟨#[]⟩, .string ⟨#[]⟩, .bool false, .int .i64 0, .int .i64 0, .int .i64 0, .int .i64 0, .bool false] 35))
  have hnum := Lib.hid (fun W => (numbers_any s W hs).mono fun e w' (h : NumPost s e ∧ Below W.heap.size W w') => (show e = .returned (.tuple #[.agg #[.int .i64 o, .int .i64 t, .int .i64 c, .int .i64 d, .int .i64 f, .int .i64 g], .int .i64 (p : Int)]) ∧ Below W.heap.size W w' from ⟨h.1.elim (fun ⟨vs, p', h1, h2⟩ => by rw [hc] at h1; simp only [Option.some.injEq, Prod.mk.injEq] at h1; obtain ⟨rfl, rfl⟩ := h1; exact h2) (fun h1 => by rw [hc] at h1; cases h1.1), h.2⟩))
  have hpl := (chs_len hc).2
  rw [show s.data.toList.length = s.size by simp] at hpl
  have hp0 : ¬ (p : Int) < 0 := by omega
  clear hc
  go_enter Try.func16, Try.ntmps16
  go_wp2_with fail
  refine (hnum.out _).mono ?_
  rintro e w1 ⟨rfl, hb1⟩
  have hR1 := hR0.out.below hb1 hR0.out.lt
  have hB1 := grew hB0.out hb1
  obtain ⟨nb, hnb⟩ : ∃ nb, Hid (w1.heap.size = nb) := ⟨_, Lib.hid rfl⟩
  have hN := Whole.new w1 57 [.int .i64 o, .int .i64 t, .int .i64 c, .int .i64 d, .int .i64 f, .int .i64 g]
  have hRn := hR1.alloc (.cells #[.int .i64 o, .int .i64 t, .int .i64 c, .int .i64 d, .int .i64 f, .int .i64 g] 57)
  have hBn := grewAlloc hB1 (.cells #[.int .i64 o, .int .i64 t, .int .i64 c, .int .i64 d, .int .i64 f, .int .i64 g] 57)
  rw [hnb.out] at hN
  obtain ⟨W1, hW1⟩ : ∃ W1, Hid (W1 = w1.alloc (.cells #[.int .i64 o, .int .i64 t, .int .i64 c, .int .i64 d, .int .i64 f, .int .i64 g] 57)) := ⟨_, Lib.hid rfl⟩
  rw [← show W1 = _ from hW1.out] at hN hRn hBn
  obtain ⟨c0, c1, c2, c3, c4, c5⟩ := six_cells hN
  have hR := Lib.hid hRn
  have hB := Lib.hid hBn
  replace hN := Lib.hid hN
  clear hR0 hB0 hb1 hR1 hB1 hRn hBn
  go_upto_region 2 with fail
  rw [← show W1 = _ from hW1.out, hnb.out]
  clear hW1
  go_wp2_with (with_reducible refine zStore 35 _ _ rfl ?_)
  refine Lib.hid ?_
  refine wpList_store_mid rfl 35 _ _ rfl w.heap.size 0 #[.int .i64 0, .int .i64 0, .string ⟨#[]⟩, .string ⟨#[]⟩, .bool false, .int .i64 0, .int .i64 0, .int .i64 0, .int .i64 0, .bool false] rfl rfl (hR.out.there 0 10 (by simp)) sizeG10 (by simp [Value.oneCell']) ?_
  go_wp2_with fail
  have hfin := whole_all hR.out (vs := [.int .i64 0, .int .i64 0, .string ⟨#[]⟩, .string ⟨#[]⟩, .bool false, .int .i64 0, .int .i64 0, .int .i64 0, .int .i64 0, .bool false]) rfl
  exact bodyPost_ret (result_cell Try.results16 rfl hfin.range Try.underlying35 rfl sizeG10) rfl ⟨rfl, below_store hB.out (Nat.le_refl _) (Nat.le_refl _) 0 _⟩

set_option maxRecDepth 100000 in
set_option maxHeartbeats 4000000 in
theorem rdec_key (s : ByteArray) (w : World) (hs : s.size ≤ 100000) (o t c d f g : Int) (p : Nat) (hc : chs 6 s.data.toList = some ([o, t, c, d, f, g], p)) (hg : ¬ 1 < g) (hk : txAt s p = none) :
    Calls Try.prog 16 #[.string s] w fun e w' => e = .returned (.agg #[.int .i64 0, .int .i64 0, .string ⟨#[]⟩, .string ⟨#[]⟩, .bool false, .int .i64 0, .int .i64 0, .int .i64 0, .int .i64 0, .bool false]) ∧ Below w.heap.size w w' := by
  have hR0 := Lib.hid (Whole.new w 35 [.int .i64 0, .int .i64 0, .string ⟨#[]⟩, .string ⟨#[]⟩, .bool false, .int .i64 0, .int .i64 0, .int .i64 0, .int .i64 0, .bool false])
  have hB0 := Lib.hid ((Below.refl w.heap.size w).alloc (Nat.le_refl _) (.cells #[.int .i64 0, .int .i64 0, .string ⟨#[]⟩, .string ⟨#[]⟩, .bool false, .int .i64 0, .int .i64 0, .int .i64 0, .int .i64 0, .bool false] 35))
  have hnum := Lib.hid (fun W => (numbers_any s W hs).mono fun e w' (h : NumPost s e ∧ Below W.heap.size W w') => (show e = .returned (.tuple #[.agg #[.int .i64 o, .int .i64 t, .int .i64 c, .int .i64 d, .int .i64 f, .int .i64 g], .int .i64 (p : Int)]) ∧ Below W.heap.size W w' from ⟨h.1.elim (fun ⟨vs, p', h1, h2⟩ => by rw [hc] at h1; simp only [Option.some.injEq, Prod.mk.injEq] at h1; obtain ⟨rfl, rfl⟩ := h1; exact h2) (fun h1 => by rw [hc] at h1; cases h1.1), h.2⟩))
  have hpl := (chs_len hc).2
  rw [show s.data.toList.length = s.size by simp] at hpl
  have hp0 : ¬ (p : Int) < 0 := by omega
  clear hc
  obtain ⟨kx, kn, ke, hU, he⟩ := txAt_none hk
  have he2 : (ke != 0) = true := by simpa using he
  have hx2 := Lib.hid (fun W => by
    have h := runtext_any (s.extract p s.size) W (by rw [ByteArray.size_extract]; omega)
    rw [hU] at h
    exact h)
  have hsl2 := slice_from s p hpl
  clear hU hk
  replace he := Lib.hid he
  go_enter Try.func16, Try.ntmps16
  go_wp2_with fail
  refine (hnum.out _).mono ?_
  rintro e w1 ⟨rfl, hb1⟩
  have hR1 := hR0.out.below hb1 hR0.out.lt
  have hB1 := grew hB0.out hb1
  obtain ⟨nb, hnb⟩ : ∃ nb, Hid (w1.heap.size = nb) := ⟨_, Lib.hid rfl⟩
  have hN := Whole.new w1 57 [.int .i64 o, .int .i64 t, .int .i64 c, .int .i64 d, .int .i64 f, .int .i64 g]
  have hRn := hR1.alloc (.cells #[.int .i64 o, .int .i64 t, .int .i64 c, .int .i64 d, .int .i64 f, .int .i64 g] 57)
  have hBn := grewAlloc hB1 (.cells #[.int .i64 o, .int .i64 t, .int .i64 c, .int .i64 d, .int .i64 f, .int .i64 g] 57)
  rw [hnb.out] at hN
  obtain ⟨W1, hW1⟩ : ∃ W1, Hid (W1 = w1.alloc (.cells #[.int .i64 o, .int .i64 t, .int .i64 c, .int .i64 d, .int .i64 f, .int .i64 g] 57)) := ⟨_, Lib.hid rfl⟩
  rw [← show W1 = _ from hW1.out] at hN hRn hBn
  obtain ⟨c0, c1, c2, c3, c4, c5⟩ := six_cells hN
  have hR := Lib.hid hRn
  have hB := Lib.hid hBn
  replace hN := Lib.hid hN
  clear hR0 hB0 hb1 hR1 hB1 hRn hBn
  go_upto_region 2 with fail
  rw [← show W1 = _ from hW1.out, hnb.out]
  clear hW1
  go_wp2_with fail
  refine (hx2.out _).mono ?_
  rintro e w2 ⟨rfl, hb2⟩
  obtain ⟨b2, hb2n⟩ : ∃ b, Hid (w2.heap.size = b) := ⟨_, Lib.hid rfl⟩
  have hT2 := Whole.new w2 61 [.string kx, .int .i64 kn, .int .i64 ke]
  rw [hb2n.out] at hT2
  have hRn := (hR.out.below hb2 hR.out.lt).alloc (.cells #[.string kx, .int .i64 kn, .int .i64 ke] 61)
  have hNn := (hN.out.below hb2 hN.out.lt).alloc (.cells #[.string kx, .int .i64 kn, .int .i64 ke] 61)
  have hBn := grewAlloc (grew hB.out hb2) (.cells #[.string kx, .int .i64 kn, .int .i64 ke] 61)
  obtain ⟨W2, hW2⟩ : ∃ W, Hid (W = w2.alloc (.cells #[.string kx, .int .i64 kn, .int .i64 ke] 61)) := ⟨_, Lib.hid rfl⟩
  rw [← show W2 = _ from hW2.out] at hT2 hRn hNn hBn 
  clear hR hN hB hb2 c0 c1 c2 c3 c4 c5
  obtain ⟨c0, c1, c2, c3, c4, c5⟩ := six_cells hNn
  have u20 : W2.cell? ⟨b2, 0, none⟩ = _ := hT2.cell 0
  have u21 : W2.cell? ⟨b2, 1, none⟩ = _ := hT2.cell 1
  have u22 : W2.cell? ⟨b2, 2, none⟩ = _ := hT2.cell 2
  simp only [List.getElem?_cons_zero, List.getElem?_cons_succ] at u20 u21 u22
  have hR := Lib.hid hRn
  have hN := Lib.hid hNn
  have hB := Lib.hid hBn
  replace hT2 := Lib.hid hT2
  clear hRn hNn hBn
  go_upto_region 5 with fail
  rw [← show W2 = _ from hW2.out, hb2n.out]
  clear hW2
  go_wp2_with (with_reducible refine zStore 35 _ _ rfl ?_)
  refine Lib.hid ?_
  refine wpList_store_mid rfl 35 _ _ rfl w.heap.size 0 #[.int .i64 0, .int .i64 0, .string ⟨#[]⟩, .string ⟨#[]⟩, .bool false, .int .i64 0, .int .i64 0, .int .i64 0, .int .i64 0, .bool false] rfl rfl (hR.out.there 0 10 (by simp)) sizeG10 (by simp [Value.oneCell']) ?_
  go_wp2_with fail
  have hfin := whole_all hR.out (vs := [.int .i64 0, .int .i64 0, .string ⟨#[]⟩, .string ⟨#[]⟩, .bool false, .int .i64 0, .int .i64 0, .int .i64 0, .int .i64 0, .bool false]) rfl
  exact bodyPost_ret (result_cell Try.results16 rfl hfin.range Try.underlying35 rfl sizeG10) rfl ⟨rfl, below_store hB.out (Nat.le_refl _) (Nat.le_refl _) 0 _⟩

set_option maxRecDepth 100000 in
set_option maxHeartbeats 4000000 in
theorem rdec_val (s : ByteArray) (w : World) (hs : s.size ≤ 100000) (o t c d f g : Int) (p : Nat) (hc : chs 6 s.data.toList = some ([o, t, c, d, f, g], p)) (hg : ¬ 1 < g) (k : ByteArray) (p2 : Nat) (hk : txAt s p = some (k, p2)) (hv : txAt s p2 = none) :
    Calls Try.prog 16 #[.string s] w fun e w' => e = .returned (.agg #[.int .i64 0, .int .i64 0, .string ⟨#[]⟩, .string ⟨#[]⟩, .bool false, .int .i64 0, .int .i64 0, .int .i64 0, .int .i64 0, .bool false]) ∧ Below w.heap.size w w' := by
  have hR0 := Lib.hid (Whole.new w 35 [.int .i64 0, .int .i64 0, .string ⟨#[]⟩, .string ⟨#[]⟩, .bool false, .int .i64 0, .int .i64 0, .int .i64 0, .int .i64 0, .bool false])
  have hB0 := Lib.hid ((Below.refl w.heap.size w).alloc (Nat.le_refl _) (.cells #[.int .i64 0, .int .i64 0, .string ⟨#[]⟩, .string ⟨#[]⟩, .bool false, .int .i64 0, .int .i64 0, .int .i64 0, .int .i64 0, .bool false] 35))
  have hnum := Lib.hid (fun W => (numbers_any s W hs).mono fun e w' (h : NumPost s e ∧ Below W.heap.size W w') => (show e = .returned (.tuple #[.agg #[.int .i64 o, .int .i64 t, .int .i64 c, .int .i64 d, .int .i64 f, .int .i64 g], .int .i64 (p : Int)]) ∧ Below W.heap.size W w' from ⟨h.1.elim (fun ⟨vs, p', h1, h2⟩ => by rw [hc] at h1; simp only [Option.some.injEq, Prod.mk.injEq] at h1; obtain ⟨rfl, rfl⟩ := h1; exact h2) (fun h1 => by rw [hc] at h1; cases h1.1), h.2⟩))
  have hpl := (chs_len hc).2
  rw [show s.data.toList.length = s.size by simp] at hpl
  have hp0 : ¬ (p : Int) < 0 := by omega
  clear hc
  obtain ⟨n, hU, rfl⟩ := txAt_some hk
  have hpl2 : p + n ≤ s.size := (txAt_back hk hpl).2.1
  have hw2 : IntKind.i64.wrap ((p : Int) + (n : Int)) = ((p + n : Nat) : Int) := by rw [IntWalk.i64_in _ (by omega)]; omega
  obtain ⟨vx, vn, ve, hV, he⟩ := txAt_none hv
  have he2 : (ve != 0) = true := by simpa using he
  have hx2 := Lib.hid (fun W => by
    have h := runtext_any (s.extract p s.size) W (by rw [ByteArray.size_extract]; omega)
    rw [hU] at h
    exact h)
  have hsl2 := slice_from s p hpl
  have hx3 := Lib.hid (fun W => by
    have h := runtext_any (s.extract (p + n) s.size) W (by rw [ByteArray.size_extract]; omega)
    rw [hV] at h
    exact h)
  have hsl3 := slice_from s (p + n) hpl2
  clear hU hk hV hv
  replace he := Lib.hid he
  go_enter Try.func16, Try.ntmps16
  go_wp2_with fail
  refine (hnum.out _).mono ?_
  rintro e w1 ⟨rfl, hb1⟩
  have hR1 := hR0.out.below hb1 hR0.out.lt
  have hB1 := grew hB0.out hb1
  obtain ⟨nb, hnb⟩ : ∃ nb, Hid (w1.heap.size = nb) := ⟨_, Lib.hid rfl⟩
  have hN := Whole.new w1 57 [.int .i64 o, .int .i64 t, .int .i64 c, .int .i64 d, .int .i64 f, .int .i64 g]
  have hRn := hR1.alloc (.cells #[.int .i64 o, .int .i64 t, .int .i64 c, .int .i64 d, .int .i64 f, .int .i64 g] 57)
  have hBn := grewAlloc hB1 (.cells #[.int .i64 o, .int .i64 t, .int .i64 c, .int .i64 d, .int .i64 f, .int .i64 g] 57)
  rw [hnb.out] at hN
  obtain ⟨W1, hW1⟩ : ∃ W1, Hid (W1 = w1.alloc (.cells #[.int .i64 o, .int .i64 t, .int .i64 c, .int .i64 d, .int .i64 f, .int .i64 g] 57)) := ⟨_, Lib.hid rfl⟩
  rw [← show W1 = _ from hW1.out] at hN hRn hBn
  obtain ⟨c0, c1, c2, c3, c4, c5⟩ := six_cells hN
  have hR := Lib.hid hRn
  have hB := Lib.hid hBn
  replace hN := Lib.hid hN
  clear hR0 hB0 hb1 hR1 hB1 hRn hBn
  go_upto_region 2 with fail
  rw [← show W1 = _ from hW1.out, hnb.out]
  clear hW1
  go_wp2_with fail
  refine (hx2.out _).mono ?_
  rintro e w2 ⟨rfl, hb2⟩
  obtain ⟨b2, hb2n⟩ : ∃ b, Hid (w2.heap.size = b) := ⟨_, Lib.hid rfl⟩
  have hT2 := Whole.new w2 61 [.string k, .int .i64 (n : Int), .int .i64 0]
  rw [hb2n.out] at hT2
  have hRn := (hR.out.below hb2 hR.out.lt).alloc (.cells #[.string k, .int .i64 (n : Int), .int .i64 0] 61)
  have hNn := (hN.out.below hb2 hN.out.lt).alloc (.cells #[.string k, .int .i64 (n : Int), .int .i64 0] 61)
  have hBn := grewAlloc (grew hB.out hb2) (.cells #[.string k, .int .i64 (n : Int), .int .i64 0] 61)
  obtain ⟨W2, hW2⟩ : ∃ W, Hid (W = w2.alloc (.cells #[.string k, .int .i64 (n : Int), .int .i64 0] 61)) := ⟨_, Lib.hid rfl⟩
  rw [← show W2 = _ from hW2.out] at hT2 hRn hNn hBn 
  clear hR hN hB hb2 c0 c1 c2 c3 c4 c5
  obtain ⟨c0, c1, c2, c3, c4, c5⟩ := six_cells hNn
  have u20 : W2.cell? ⟨b2, 0, none⟩ = _ := hT2.cell 0
  have u21 : W2.cell? ⟨b2, 1, none⟩ = _ := hT2.cell 1
  have u22 : W2.cell? ⟨b2, 2, none⟩ = _ := hT2.cell 2
  simp only [List.getElem?_cons_zero, List.getElem?_cons_succ] at u20 u21 u22
  have hR := Lib.hid hRn
  have hN := Lib.hid hNn
  have hB := Lib.hid hBn
  replace hT2 := Lib.hid hT2
  clear hRn hNn hBn
  go_upto_region 5 with fail
  rw [← show W2 = _ from hW2.out, hb2n.out]
  clear hW2
  go_wp2_with fail
  refine (hx3.out _).mono ?_
  rintro e w3 ⟨rfl, hb3⟩
  obtain ⟨b3, hb3n⟩ : ∃ b, Hid (w3.heap.size = b) := ⟨_, Lib.hid rfl⟩
  have hT3 := Whole.new w3 61 [.string vx, .int .i64 vn, .int .i64 ve]
  rw [hb3n.out] at hT3
  have hRn := (hR.out.below hb3 hR.out.lt).alloc (.cells #[.string vx, .int .i64 vn, .int .i64 ve] 61)
  have hNn := (hN.out.below hb3 hN.out.lt).alloc (.cells #[.string vx, .int .i64 vn, .int .i64 ve] 61)
  have hBn := grewAlloc (grew hB.out hb3) (.cells #[.string vx, .int .i64 vn, .int .i64 ve] 61)
  have hT2n := (hT2.out.below hb3 hT2.out.lt).alloc (.cells #[.string vx, .int .i64 vn, .int .i64 ve] 61)
  obtain ⟨W3, hW3⟩ : ∃ W, Hid (W = w3.alloc (.cells #[.string vx, .int .i64 vn, .int .i64 ve] 61)) := ⟨_, Lib.hid rfl⟩
  rw [← show W3 = _ from hW3.out] at hT3 hRn hNn hBn hT2n
  clear hR hN hB hb3 c0 c1 c2 c3 c4 c5
  clear hT2 u20 u21 u22
  have u20 : W3.cell? ⟨b2, 0, none⟩ = _ := hT2n.cell 0
  have u21 : W3.cell? ⟨b2, 1, none⟩ = _ := hT2n.cell 1
  have u22 : W3.cell? ⟨b2, 2, none⟩ = _ := hT2n.cell 2
  simp only [List.getElem?_cons_zero, List.getElem?_cons_succ] at u20 u21 u22
  have hT2 := Lib.hid hT2n
  clear hT2n
  obtain ⟨c0, c1, c2, c3, c4, c5⟩ := six_cells hNn
  have u30 : W3.cell? ⟨b3, 0, none⟩ = _ := hT3.cell 0
  have u31 : W3.cell? ⟨b3, 1, none⟩ = _ := hT3.cell 1
  have u32 : W3.cell? ⟨b3, 2, none⟩ = _ := hT3.cell 2
  simp only [List.getElem?_cons_zero, List.getElem?_cons_succ] at u30 u31 u32
  have hR := Lib.hid hRn
  have hN := Lib.hid hNn
  have hB := Lib.hid hBn
  replace hT3 := Lib.hid hT3
  clear hRn hNn hBn
  go_upto_region 8 with fail
  rw [← show W3 = _ from hW3.out, hb3n.out]
  clear hW3
  go_wp2_with (with_reducible refine zStore 35 _ _ rfl ?_)
  refine Lib.hid ?_
  refine wpList_store_mid rfl 35 _ _ rfl w.heap.size 0 #[.int .i64 0, .int .i64 0, .string ⟨#[]⟩, .string ⟨#[]⟩, .bool false, .int .i64 0, .int .i64 0, .int .i64 0, .int .i64 0, .bool false] rfl rfl (hR.out.there 0 10 (by simp)) sizeG10 (by simp [Value.oneCell']) ?_
  go_wp2_with fail
  have hfin := whole_all hR.out (vs := [.int .i64 0, .int .i64 0, .string ⟨#[]⟩, .string ⟨#[]⟩, .bool false, .int .i64 0, .int .i64 0, .int .i64 0, .int .i64 0, .bool false]) rfl
  exact bodyPost_ret (result_cell Try.results16 rfl hfin.range Try.underlying35 rfl sizeG10) rfl ⟨rfl, below_store hB.out (Nat.le_refl _) (Nat.le_refl _) 0 _⟩

set_option maxRecDepth 100000 in
set_option maxHeartbeats 4000000 in
theorem rdec_bad (s : ByteArray) (w : World) (hs : s.size ≤ 100000) (o t c d f g : Int) (p : Nat) (hc : chs 6 s.data.toList = some ([o, t, c, d, f, g], p)) (hg : ¬ 1 < g) (k : ByteArray) (p2 : Nat) (hk : txAt s p = some (k, p2)) (v : ByteArray) (p3 : Nat) (hv : txAt s p2 = some (v, p3)) (hok : ¬ (Rc.mk o t k v (g == 1) c d f).ok) :
    Calls Try.prog 16 #[.string s] w fun e w' => e = .returned (.agg #[.int .i64 0, .int .i64 0, .string ⟨#[]⟩, .string ⟨#[]⟩, .bool false, .int .i64 0, .int .i64 0, .int .i64 0, .int .i64 0, .bool false]) ∧ Below w.heap.size w w' := by
  have hR0 := Lib.hid (Whole.new w 35 [.int .i64 0, .int .i64 0, .string ⟨#[]⟩, .string ⟨#[]⟩, .bool false, .int .i64 0, .int .i64 0, .int .i64 0, .int .i64 0, .bool false])
  have hB0 := Lib.hid ((Below.refl w.heap.size w).alloc (Nat.le_refl _) (.cells #[.int .i64 0, .int .i64 0, .string ⟨#[]⟩, .string ⟨#[]⟩, .bool false, .int .i64 0, .int .i64 0, .int .i64 0, .int .i64 0, .bool false] 35))
  have hnum := Lib.hid (fun W => (numbers_any s W hs).mono fun e w' (h : NumPost s e ∧ Below W.heap.size W w') => (show e = .returned (.tuple #[.agg #[.int .i64 o, .int .i64 t, .int .i64 c, .int .i64 d, .int .i64 f, .int .i64 g], .int .i64 (p : Int)]) ∧ Below W.heap.size W w' from ⟨h.1.elim (fun ⟨vs, p', h1, h2⟩ => by rw [hc] at h1; simp only [Option.some.injEq, Prod.mk.injEq] at h1; obtain ⟨rfl, rfl⟩ := h1; exact h2) (fun h1 => by rw [hc] at h1; cases h1.1), h.2⟩))
  have hpl := (chs_len hc).2
  rw [show s.data.toList.length = s.size by simp] at hpl
  have hp0 : ¬ (p : Int) < 0 := by omega
  clear hc
  obtain ⟨n, hU, rfl⟩ := txAt_some hk
  have hpl2 : p + n ≤ s.size := (txAt_back hk hpl).2.1
  have hw2 : IntKind.i64.wrap ((p : Int) + (n : Int)) = ((p + n : Nat) : Int) := by rw [IntWalk.i64_in _ (by omega)]; omega
  obtain ⟨m, hV, rfl⟩ := txAt_some hv
  have hpl3 : p + n + m ≤ s.size := (txAt_back hv hpl2).2.1
  have hw3 : IntKind.i64.wrap (((p + n : Nat) : Int) + (m : Int)) = ((p + n + m : Nat) : Int) := by rw [IntWalk.i64_in _ (by omega)]; omega
  have hw4 : IntKind.i64.wrap ((p : Int) + (n : Int) + (m : Int)) = ((p + n + m : Nat) : Int) := by rw [IntWalk.i64_in _ (by omega)]; omega
  obtain ⟨G, hG⟩ : ∃ G, Hid ((g == 1) = G) := ⟨_, Lib.hid rfl⟩
  have hG2 : (g == 1) = G := hG.out
  have hx2 := Lib.hid (fun W => by
    have h := runtext_any (s.extract p s.size) W (by rw [ByteArray.size_extract]; omega)
    rw [hU] at h
    exact h)
  have hsl2 := slice_from s p hpl
  have hx3 := Lib.hid (fun W => by
    have h := runtext_any (s.extract (p + n) s.size) W (by rw [ByteArray.size_extract]; omega)
    rw [hV] at h
    exact h)
  have hsl3 := slice_from s (p + n) hpl2
  have hmay := fun W => rmay_any o t k v G c d f W
  rw [show (Rc.mk o t k v G c d f).may = false from decide_eq_false (by rw [← hG2]; exact hok)] at hmay
  replace hmay := Lib.hid hmay
  clear hU hk hV hv hok
  go_enter Try.func16, Try.ntmps16
  go_wp2_with fail
  refine (hnum.out _).mono ?_
  rintro e w1 ⟨rfl, hb1⟩
  have hR1 := hR0.out.below hb1 hR0.out.lt
  have hB1 := grew hB0.out hb1
  obtain ⟨nb, hnb⟩ : ∃ nb, Hid (w1.heap.size = nb) := ⟨_, Lib.hid rfl⟩
  have hN := Whole.new w1 57 [.int .i64 o, .int .i64 t, .int .i64 c, .int .i64 d, .int .i64 f, .int .i64 g]
  have hRn := hR1.alloc (.cells #[.int .i64 o, .int .i64 t, .int .i64 c, .int .i64 d, .int .i64 f, .int .i64 g] 57)
  have hBn := grewAlloc hB1 (.cells #[.int .i64 o, .int .i64 t, .int .i64 c, .int .i64 d, .int .i64 f, .int .i64 g] 57)
  rw [hnb.out] at hN
  obtain ⟨W1, hW1⟩ : ∃ W1, Hid (W1 = w1.alloc (.cells #[.int .i64 o, .int .i64 t, .int .i64 c, .int .i64 d, .int .i64 f, .int .i64 g] 57)) := ⟨_, Lib.hid rfl⟩
  rw [← show W1 = _ from hW1.out] at hN hRn hBn
  obtain ⟨c0, c1, c2, c3, c4, c5⟩ := six_cells hN
  have hR := Lib.hid hRn
  have hB := Lib.hid hBn
  replace hN := Lib.hid hN
  clear hR0 hB0 hb1 hR1 hB1 hRn hBn
  go_upto_region 2 with fail
  rw [← show W1 = _ from hW1.out, hnb.out]
  clear hW1
  go_wp2_with fail
  refine (hx2.out _).mono ?_
  rintro e w2 ⟨rfl, hb2⟩
  obtain ⟨b2, hb2n⟩ : ∃ b, Hid (w2.heap.size = b) := ⟨_, Lib.hid rfl⟩
  have hT2 := Whole.new w2 61 [.string k, .int .i64 (n : Int), .int .i64 0]
  rw [hb2n.out] at hT2
  have hRn := (hR.out.below hb2 hR.out.lt).alloc (.cells #[.string k, .int .i64 (n : Int), .int .i64 0] 61)
  have hNn := (hN.out.below hb2 hN.out.lt).alloc (.cells #[.string k, .int .i64 (n : Int), .int .i64 0] 61)
  have hBn := grewAlloc (grew hB.out hb2) (.cells #[.string k, .int .i64 (n : Int), .int .i64 0] 61)
  obtain ⟨W2, hW2⟩ : ∃ W, Hid (W = w2.alloc (.cells #[.string k, .int .i64 (n : Int), .int .i64 0] 61)) := ⟨_, Lib.hid rfl⟩
  rw [← show W2 = _ from hW2.out] at hT2 hRn hNn hBn 
  clear hR hN hB hb2 c0 c1 c2 c3 c4 c5
  obtain ⟨c0, c1, c2, c3, c4, c5⟩ := six_cells hNn
  have u20 : W2.cell? ⟨b2, 0, none⟩ = _ := hT2.cell 0
  have u21 : W2.cell? ⟨b2, 1, none⟩ = _ := hT2.cell 1
  have u22 : W2.cell? ⟨b2, 2, none⟩ = _ := hT2.cell 2
  simp only [List.getElem?_cons_zero, List.getElem?_cons_succ] at u20 u21 u22
  have hR := Lib.hid hRn
  have hN := Lib.hid hNn
  have hB := Lib.hid hBn
  replace hT2 := Lib.hid hT2
  clear hRn hNn hBn
  go_upto_region 5 with fail
  rw [← show W2 = _ from hW2.out, hb2n.out]
  clear hW2
  go_wp2_with fail
  refine (hx3.out _).mono ?_
  rintro e w3 ⟨rfl, hb3⟩
  obtain ⟨b3, hb3n⟩ : ∃ b, Hid (w3.heap.size = b) := ⟨_, Lib.hid rfl⟩
  have hT3 := Whole.new w3 61 [.string v, .int .i64 (m : Int), .int .i64 0]
  rw [hb3n.out] at hT3
  have hRn := (hR.out.below hb3 hR.out.lt).alloc (.cells #[.string v, .int .i64 (m : Int), .int .i64 0] 61)
  have hNn := (hN.out.below hb3 hN.out.lt).alloc (.cells #[.string v, .int .i64 (m : Int), .int .i64 0] 61)
  have hBn := grewAlloc (grew hB.out hb3) (.cells #[.string v, .int .i64 (m : Int), .int .i64 0] 61)
  have hT2n := (hT2.out.below hb3 hT2.out.lt).alloc (.cells #[.string v, .int .i64 (m : Int), .int .i64 0] 61)
  obtain ⟨W3, hW3⟩ : ∃ W, Hid (W = w3.alloc (.cells #[.string v, .int .i64 (m : Int), .int .i64 0] 61)) := ⟨_, Lib.hid rfl⟩
  rw [← show W3 = _ from hW3.out] at hT3 hRn hNn hBn hT2n
  clear hR hN hB hb3 c0 c1 c2 c3 c4 c5
  clear hT2 u20 u21 u22
  have u20 : W3.cell? ⟨b2, 0, none⟩ = _ := hT2n.cell 0
  have u21 : W3.cell? ⟨b2, 1, none⟩ = _ := hT2n.cell 1
  have u22 : W3.cell? ⟨b2, 2, none⟩ = _ := hT2n.cell 2
  simp only [List.getElem?_cons_zero, List.getElem?_cons_succ] at u20 u21 u22
  have hT2 := Lib.hid hT2n
  clear hT2n
  obtain ⟨c0, c1, c2, c3, c4, c5⟩ := six_cells hNn
  have u30 : W3.cell? ⟨b3, 0, none⟩ = _ := hT3.cell 0
  have u31 : W3.cell? ⟨b3, 1, none⟩ = _ := hT3.cell 1
  have u32 : W3.cell? ⟨b3, 2, none⟩ = _ := hT3.cell 2
  simp only [List.getElem?_cons_zero, List.getElem?_cons_succ] at u30 u31 u32
  have hR := Lib.hid hRn
  have hN := Lib.hid hNn
  have hB := Lib.hid hBn
  replace hT3 := Lib.hid hT3
  clear hRn hNn hBn
  go_upto_region 8 with fail
  rw [← show W3 = _ from hW3.out, hb3n.out]
  clear hW3
  have hXn := Whole.new W3 23 [.int .i64 o, .int .i64 t, .string k, .string v, .bool G, .int .i64 c, .int .i64 d, .int .i64 f]
  have hRn := hR.out.alloc (.cells #[.int .i64 o, .int .i64 t, .string k, .string v, .bool G, .int .i64 c, .int .i64 d, .int .i64 f] 23)
  have hBn := grewAlloc hB.out (.cells #[.int .i64 o, .int .i64 t, .string k, .string v, .bool G, .int .i64 c, .int .i64 d, .int .i64 f] 23)
  have hT2n := hT2.out.alloc (.cells #[.int .i64 o, .int .i64 t, .string k, .string v, .bool G, .int .i64 c, .int .i64 d, .int .i64 f] 23)
  have hT3n := hT3.out.alloc (.cells #[.int .i64 o, .int .i64 t, .string k, .string v, .bool G, .int .i64 c, .int .i64 d, .int .i64 f] 23)
  obtain ⟨b4, hb4⟩ : ∃ b, Hid (W3.heap.size = b) := ⟨_, Lib.hid rfl⟩
  rw [hb4.out] at hXn
  obtain ⟨W4, hW4⟩ : ∃ W, Hid (W = W3.alloc (.cells #[.int .i64 o, .int .i64 t, .string k, .string v, .bool G, .int .i64 c, .int .i64 d, .int .i64 f] 23)) := ⟨_, Lib.hid rfl⟩
  rw [← show W4 = _ from hW4.out] at hXn hRn hBn hT2n hT3n
  go_upto_region 11 with fail
  rw [← show W4 = _ from hW4.out, hb4.out]
  clear hW4 hR hB hT2 hT3 hN c0 c1 c2 c3 c4 c5 u20 u21 u22 u30 u31 u32
  obtain ⟨x0, x1, x2, x3, x4, x5, x6, x7⟩ := recCells hXn
  replace hXn := Lib.hid hXn
  replace hRn := Lib.hid hRn
  replace hBn := Lib.hid hBn
  replace hT2n := Lib.hid hT2n
  replace hT3n := Lib.hid hT3n
  go_wp2_with fail
  refine (hmay.out _).mono ?_
  rintro e w5 ⟨rfl, hb5⟩
  have hX := hXn.out.below hb5 hXn.out.lt
  have hR := Lib.hid (hRn.out.below hb5 hRn.out.lt)
  have hB := Lib.hid (grew hBn.out hb5)
  have hT2 := hT2n.out.below hb5 hT2n.out.lt
  have hT3 := hT3n.out.below hb5 hT3n.out.lt
  clear x0 x1 x2 x3 x4 x5 x6 x7 hXn hRn hBn hT2n hT3n hb5
  obtain ⟨x0, x1, x2, x3, x4, x5, x6, x7⟩ := recCells hX
  have y1 : w5.cell? ⟨b2, 1, none⟩ = some (.int .i64 (n : Int)) := hT2.cell 1
  have y2 : w5.cell? ⟨b3, 1, none⟩ = some (.int .i64 (m : Int)) := hT3.cell 1
  clear hX hT2 hT3
  go_wp2_with (with_reducible refine zStore 35 _ _ rfl ?_)
  refine Lib.hid ?_
  refine wpList_store_mid rfl 35 _ _ rfl w.heap.size 0 #[.int .i64 0, .int .i64 0, .string ⟨#[]⟩, .string ⟨#[]⟩, .bool false, .int .i64 0, .int .i64 0, .int .i64 0, .int .i64 0, .bool false] rfl rfl (hR.out.there 0 10 (by simp)) sizeG10 (by simp [Value.oneCell']) ?_
  go_wp2_with fail
  have hfin := whole_all hR.out (vs := [.int .i64 0, .int .i64 0, .string ⟨#[]⟩, .string ⟨#[]⟩, .bool false, .int .i64 0, .int .i64 0, .int .i64 0, .int .i64 0, .bool false]) rfl
  exact bodyPost_ret (result_cell Try.results16 rfl hfin.range Try.underlying35 rfl sizeG10) rfl ⟨rfl, below_store hB.out (Nat.le_refl _) (Nat.le_refl _) 0 _⟩

set_option maxRecDepth 100000 in
set_option maxHeartbeats 4000000 in
theorem rdec_good (s : ByteArray) (w : World) (hs : s.size ≤ 100000) (o t c d f g : Int) (p : Nat) (hc : chs 6 s.data.toList = some ([o, t, c, d, f, g], p)) (hg : ¬ 1 < g) (k : ByteArray) (p2 : Nat) (hk : txAt s p = some (k, p2)) (v : ByteArray) (p3 : Nat) (hv : txAt s p2 = some (v, p3)) (hok : (Rc.mk o t k v (g == 1) c d f).ok) :
    Calls Try.prog 16 #[.string s] w fun e w' => e = .returned (.agg #[.int .i64 o, .int .i64 t, .string k, .string v, .bool (g == 1), .int .i64 c, .int .i64 d, .int .i64 f, .int .i64 (p3 : Int), .bool true]) ∧ Below w.heap.size w w' := by
  have hR0 := Lib.hid (Whole.new w 35 [.int .i64 0, .int .i64 0, .string ⟨#[]⟩, .string ⟨#[]⟩, .bool false, .int .i64 0, .int .i64 0, .int .i64 0, .int .i64 0, .bool false])
  have hB0 := Lib.hid ((Below.refl w.heap.size w).alloc (Nat.le_refl _) (.cells #[.int .i64 0, .int .i64 0, .string ⟨#[]⟩, .string ⟨#[]⟩, .bool false, .int .i64 0, .int .i64 0, .int .i64 0, .int .i64 0, .bool false] 35))
  have hnum := Lib.hid (fun W => (numbers_any s W hs).mono fun e w' (h : NumPost s e ∧ Below W.heap.size W w') => (show e = .returned (.tuple #[.agg #[.int .i64 o, .int .i64 t, .int .i64 c, .int .i64 d, .int .i64 f, .int .i64 g], .int .i64 (p : Int)]) ∧ Below W.heap.size W w' from ⟨h.1.elim (fun ⟨vs, p', h1, h2⟩ => by rw [hc] at h1; simp only [Option.some.injEq, Prod.mk.injEq] at h1; obtain ⟨rfl, rfl⟩ := h1; exact h2) (fun h1 => by rw [hc] at h1; cases h1.1), h.2⟩))
  have hpl := (chs_len hc).2
  rw [show s.data.toList.length = s.size by simp] at hpl
  have hp0 : ¬ (p : Int) < 0 := by omega
  clear hc
  obtain ⟨n, hU, rfl⟩ := txAt_some hk
  have hpl2 : p + n ≤ s.size := (txAt_back hk hpl).2.1
  have hw2 : IntKind.i64.wrap ((p : Int) + (n : Int)) = ((p + n : Nat) : Int) := by rw [IntWalk.i64_in _ (by omega)]; omega
  obtain ⟨m, hV, rfl⟩ := txAt_some hv
  have hpl3 : p + n + m ≤ s.size := (txAt_back hv hpl2).2.1
  have hw3 : IntKind.i64.wrap (((p + n : Nat) : Int) + (m : Int)) = ((p + n + m : Nat) : Int) := by rw [IntWalk.i64_in _ (by omega)]; omega
  have hw4 : IntKind.i64.wrap ((p : Int) + (n : Int) + (m : Int)) = ((p + n + m : Nat) : Int) := by rw [IntWalk.i64_in _ (by omega)]; omega
  obtain ⟨G, hG⟩ : ∃ G, Hid ((g == 1) = G) := ⟨_, Lib.hid rfl⟩
  have hG2 : (g == 1) = G := hG.out
  have hx2 := Lib.hid (fun W => by
    have h := runtext_any (s.extract p s.size) W (by rw [ByteArray.size_extract]; omega)
    rw [hU] at h
    exact h)
  have hsl2 := slice_from s p hpl
  have hx3 := Lib.hid (fun W => by
    have h := runtext_any (s.extract (p + n) s.size) W (by rw [ByteArray.size_extract]; omega)
    rw [hV] at h
    exact h)
  have hsl3 := slice_from s (p + n) hpl2
  have hmay := fun W => rmay_any o t k v G c d f W
  rw [show (Rc.mk o t k v G c d f).may = true from decide_eq_true (by rw [← hG2]; exact hok)] at hmay
  replace hmay := Lib.hid hmay
  rw [hG2]
  replace hG2 := hG2
  clear hU hk hV hv hok
  go_enter Try.func16, Try.ntmps16
  go_wp2_with fail
  refine (hnum.out _).mono ?_
  rintro e w1 ⟨rfl, hb1⟩
  have hR1 := hR0.out.below hb1 hR0.out.lt
  have hB1 := grew hB0.out hb1
  obtain ⟨nb, hnb⟩ : ∃ nb, Hid (w1.heap.size = nb) := ⟨_, Lib.hid rfl⟩
  have hN := Whole.new w1 57 [.int .i64 o, .int .i64 t, .int .i64 c, .int .i64 d, .int .i64 f, .int .i64 g]
  have hRn := hR1.alloc (.cells #[.int .i64 o, .int .i64 t, .int .i64 c, .int .i64 d, .int .i64 f, .int .i64 g] 57)
  have hBn := grewAlloc hB1 (.cells #[.int .i64 o, .int .i64 t, .int .i64 c, .int .i64 d, .int .i64 f, .int .i64 g] 57)
  rw [hnb.out] at hN
  obtain ⟨W1, hW1⟩ : ∃ W1, Hid (W1 = w1.alloc (.cells #[.int .i64 o, .int .i64 t, .int .i64 c, .int .i64 d, .int .i64 f, .int .i64 g] 57)) := ⟨_, Lib.hid rfl⟩
  rw [← show W1 = _ from hW1.out] at hN hRn hBn
  obtain ⟨c0, c1, c2, c3, c4, c5⟩ := six_cells hN
  have hR := Lib.hid hRn
  have hB := Lib.hid hBn
  replace hN := Lib.hid hN
  clear hR0 hB0 hb1 hR1 hB1 hRn hBn
  go_upto_region 2 with fail
  rw [← show W1 = _ from hW1.out, hnb.out]
  clear hW1
  go_wp2_with fail
  refine (hx2.out _).mono ?_
  rintro e w2 ⟨rfl, hb2⟩
  obtain ⟨b2, hb2n⟩ : ∃ b, Hid (w2.heap.size = b) := ⟨_, Lib.hid rfl⟩
  have hT2 := Whole.new w2 61 [.string k, .int .i64 (n : Int), .int .i64 0]
  rw [hb2n.out] at hT2
  have hRn := (hR.out.below hb2 hR.out.lt).alloc (.cells #[.string k, .int .i64 (n : Int), .int .i64 0] 61)
  have hNn := (hN.out.below hb2 hN.out.lt).alloc (.cells #[.string k, .int .i64 (n : Int), .int .i64 0] 61)
  have hBn := grewAlloc (grew hB.out hb2) (.cells #[.string k, .int .i64 (n : Int), .int .i64 0] 61)
  obtain ⟨W2, hW2⟩ : ∃ W, Hid (W = w2.alloc (.cells #[.string k, .int .i64 (n : Int), .int .i64 0] 61)) := ⟨_, Lib.hid rfl⟩
  rw [← show W2 = _ from hW2.out] at hT2 hRn hNn hBn 
  clear hR hN hB hb2 c0 c1 c2 c3 c4 c5
  obtain ⟨c0, c1, c2, c3, c4, c5⟩ := six_cells hNn
  have u20 : W2.cell? ⟨b2, 0, none⟩ = _ := hT2.cell 0
  have u21 : W2.cell? ⟨b2, 1, none⟩ = _ := hT2.cell 1
  have u22 : W2.cell? ⟨b2, 2, none⟩ = _ := hT2.cell 2
  simp only [List.getElem?_cons_zero, List.getElem?_cons_succ] at u20 u21 u22
  have hR := Lib.hid hRn
  have hN := Lib.hid hNn
  have hB := Lib.hid hBn
  replace hT2 := Lib.hid hT2
  clear hRn hNn hBn
  go_upto_region 5 with fail
  rw [← show W2 = _ from hW2.out, hb2n.out]
  clear hW2
  go_wp2_with fail
  refine (hx3.out _).mono ?_
  rintro e w3 ⟨rfl, hb3⟩
  obtain ⟨b3, hb3n⟩ : ∃ b, Hid (w3.heap.size = b) := ⟨_, Lib.hid rfl⟩
  have hT3 := Whole.new w3 61 [.string v, .int .i64 (m : Int), .int .i64 0]
  rw [hb3n.out] at hT3
  have hRn := (hR.out.below hb3 hR.out.lt).alloc (.cells #[.string v, .int .i64 (m : Int), .int .i64 0] 61)
  have hNn := (hN.out.below hb3 hN.out.lt).alloc (.cells #[.string v, .int .i64 (m : Int), .int .i64 0] 61)
  have hBn := grewAlloc (grew hB.out hb3) (.cells #[.string v, .int .i64 (m : Int), .int .i64 0] 61)
  have hT2n := (hT2.out.below hb3 hT2.out.lt).alloc (.cells #[.string v, .int .i64 (m : Int), .int .i64 0] 61)
  obtain ⟨W3, hW3⟩ : ∃ W, Hid (W = w3.alloc (.cells #[.string v, .int .i64 (m : Int), .int .i64 0] 61)) := ⟨_, Lib.hid rfl⟩
  rw [← show W3 = _ from hW3.out] at hT3 hRn hNn hBn hT2n
  clear hR hN hB hb3 c0 c1 c2 c3 c4 c5
  clear hT2 u20 u21 u22
  have u20 : W3.cell? ⟨b2, 0, none⟩ = _ := hT2n.cell 0
  have u21 : W3.cell? ⟨b2, 1, none⟩ = _ := hT2n.cell 1
  have u22 : W3.cell? ⟨b2, 2, none⟩ = _ := hT2n.cell 2
  simp only [List.getElem?_cons_zero, List.getElem?_cons_succ] at u20 u21 u22
  have hT2 := Lib.hid hT2n
  clear hT2n
  obtain ⟨c0, c1, c2, c3, c4, c5⟩ := six_cells hNn
  have u30 : W3.cell? ⟨b3, 0, none⟩ = _ := hT3.cell 0
  have u31 : W3.cell? ⟨b3, 1, none⟩ = _ := hT3.cell 1
  have u32 : W3.cell? ⟨b3, 2, none⟩ = _ := hT3.cell 2
  simp only [List.getElem?_cons_zero, List.getElem?_cons_succ] at u30 u31 u32
  have hR := Lib.hid hRn
  have hN := Lib.hid hNn
  have hB := Lib.hid hBn
  replace hT3 := Lib.hid hT3
  clear hRn hNn hBn
  go_upto_region 8 with fail
  rw [← show W3 = _ from hW3.out, hb3n.out]
  clear hW3
  have hXn := Whole.new W3 23 [.int .i64 o, .int .i64 t, .string k, .string v, .bool G, .int .i64 c, .int .i64 d, .int .i64 f]
  have hRn := hR.out.alloc (.cells #[.int .i64 o, .int .i64 t, .string k, .string v, .bool G, .int .i64 c, .int .i64 d, .int .i64 f] 23)
  have hBn := grewAlloc hB.out (.cells #[.int .i64 o, .int .i64 t, .string k, .string v, .bool G, .int .i64 c, .int .i64 d, .int .i64 f] 23)
  have hT2n := hT2.out.alloc (.cells #[.int .i64 o, .int .i64 t, .string k, .string v, .bool G, .int .i64 c, .int .i64 d, .int .i64 f] 23)
  have hT3n := hT3.out.alloc (.cells #[.int .i64 o, .int .i64 t, .string k, .string v, .bool G, .int .i64 c, .int .i64 d, .int .i64 f] 23)
  obtain ⟨b4, hb4⟩ : ∃ b, Hid (W3.heap.size = b) := ⟨_, Lib.hid rfl⟩
  rw [hb4.out] at hXn
  obtain ⟨W4, hW4⟩ : ∃ W, Hid (W = W3.alloc (.cells #[.int .i64 o, .int .i64 t, .string k, .string v, .bool G, .int .i64 c, .int .i64 d, .int .i64 f] 23)) := ⟨_, Lib.hid rfl⟩
  rw [← show W4 = _ from hW4.out] at hXn hRn hBn hT2n hT3n
  go_upto_region 11 with fail
  rw [← show W4 = _ from hW4.out, hb4.out]
  clear hW4 hR hB hT2 hT3 hN c0 c1 c2 c3 c4 c5 u20 u21 u22 u30 u31 u32
  obtain ⟨x0, x1, x2, x3, x4, x5, x6, x7⟩ := recCells hXn
  replace hXn := Lib.hid hXn
  replace hRn := Lib.hid hRn
  replace hBn := Lib.hid hBn
  replace hT2n := Lib.hid hT2n
  replace hT3n := Lib.hid hT3n
  go_wp2_with fail
  refine (hmay.out _).mono ?_
  rintro e w5 ⟨rfl, hb5⟩
  have hX := hXn.out.below hb5 hXn.out.lt
  have hR := Lib.hid (hRn.out.below hb5 hRn.out.lt)
  have hB := Lib.hid (grew hBn.out hb5)
  have hT2 := hT2n.out.below hb5 hT2n.out.lt
  have hT3 := hT3n.out.below hb5 hT3n.out.lt
  clear x0 x1 x2 x3 x4 x5 x6 x7 hXn hRn hBn hT2n hT3n hb5
  obtain ⟨x0, x1, x2, x3, x4, x5, x6, x7⟩ := recCells hX
  have y1 : w5.cell? ⟨b2, 1, none⟩ = some (.int .i64 (n : Int)) := hT2.cell 1
  have y2 : w5.cell? ⟨b3, 1, none⟩ = some (.int .i64 (m : Int)) := hT3.cell 1
  clear hX hT2 hT3
  go_wp2_with (with_reducible refine zStore 35 _ _ rfl ?_)
  refine Lib.hid ?_
  refine wpList_store_mid rfl 35 _ _ rfl w.heap.size 0 #[.int .i64 o, .int .i64 t, .string k, .string v, .bool G, .int .i64 c, .int .i64 d, .int .i64 f, .int .i64 ((p + n + m : Nat) : Int), .bool true] rfl rfl (hR.out.there 0 10 (by simp)) sizeG10 (by simp [Value.oneCell']) ?_
  go_wp2_with fail
  have hfin := whole_all hR.out (vs := [.int .i64 o, .int .i64 t, .string k, .string v, .bool G, .int .i64 c, .int .i64 d, .int .i64 f, .int .i64 ((p + n + m : Nat) : Int), .bool true]) rfl
  exact bodyPost_ret (result_cell Try.results16 rfl hfin.range Try.underlying35 rfl sizeG10) rfl ⟨rfl, below_store hB.out (Nat.le_refl _) (Nat.le_refl _) 0 _⟩
end Go.Proofs.Ytgfamaddghajlaa.W
