/- Package offsets: an entry laid; New; the room for a group. -/
import Derived.Test.YtgogackkeodciaaOfA
namespace Go.Proofs.Ytgogackkeodciaa.W
open Go.RowKit Go.Sort
open Go.Proofs.Ytgogackkeodciaa.M Go.Proofs.Ytgogackkeodciaa.D Go.Proofs.Ytgogackkeodciaa.Z
set_option linter.unusedVariables false
set_option linter.unusedSimpArgs false

theorem new24_any (w : World) : Calls Try.prog 10 #[] w fun e w' => e = .returned (.pointer (some ⟨w.heap.size, 0, none⟩)) ∧ Whole w' w.heap.size 80 [.map none, .map none] ∧ Below w.heap.size w w' := by
  have hW := Lib.hid (Whole.new w 80 [.map none, .map none])
  have hb := Lib.hid (grewAlloc (Below.refl w.heap.size w) (.cells #[.map none, .map none] 80))
  go_enter Try.func10, Try.ntmps10
  go_wp2_with fail
  go_ret
  exact ⟨rfl, hW.out, hb.out⟩
def offE (g t : ByteArray) (p n : Int) : List UInt8 := textL g.data.toList ++ textL t.data.toList ++ (chain p ++ chain n)
set_option maxRecDepth 100000 in
set_option maxHeartbeats 4000000 in
theorem layCommit24_any (g t : ByteArray) (p n : Int) (w : World) (hg : g.size ≤ 1000) (ht : t.size ≤ 1000) (hp : 0 ≤ p ∧ p ≤ 9223372036854775807) (hn : 0 ≤ n ∧ n ≤ 9223372036854775807) (L : ByteArray) (hL : B (offE g t p n) = L) :
    Calls Try.prog 46 #[.agg #[.string g, .string t, .int .i64 p], .int .i64 n] w fun e w' => e = .returned (.agg #[.int .i64 1, .string L]) ∧ Below w.heap.size w w' := by
  obtain ⟨V, hV⟩ : ∃ V, Hid (V = (w.alloc (.cells #[.string g, .string t, .int .i64 p] 26)).alloc (.cells #[.int .i64 0, .string ⟨#[]⟩] 33)) := ⟨_, Lib.hid rfl⟩
  have hB : Below w.heap.size w V := by rw [hV.out]; exact grewAlloc (grewAlloc (Below.refl _ _) _) _
  have hP : Whole V w.heap.size 26 [.string g, .string t, .int .i64 p] := by rw [hV.out]; exact (Whole.new w _ _).alloc _
  have hR : Whole V (w.heap.size + 1) 33 [.int .i64 0, .string ⟨#[]⟩] := by
    rw [hV.out]
    have := Whole.new (w.alloc (.cells #[.string g, .string t, .int .i64 p] 26)) 33 [.int .i64 0, .string ⟨#[]⟩]
    simpa using this
  obtain ⟨pb, hpb⟩ : ∃ q, Hid (w.heap.size = q) := ⟨_, Lib.hid rfl⟩
  obtain ⟨fb, hfb⟩ : ∃ q, Hid (w.heap.size + 1 = q) := ⟨_, Lib.hid rfl⟩
  rw [hpb.out] at hP
  rw [hfb.out] at hR
  have hfw : w.heap.size ≤ fb := by have := hfb.out; omega
  have hpf : pb ≠ fb := by have := hpb.out; have := hfb.out; omega
  have z1 := textB24 hg
  have z2 := textB24 ht
  have z3 := chainB24 p
  have z4 := chainB24 n
  obtain ⟨A, hA⟩ : ∃ A, Hid (B (textL g.data.toList) = A) := ⟨_, Lib.hid rfl⟩
  obtain ⟨C, hC⟩ : ∃ C, Hid (B (textL t.data.toList) = C) := ⟨_, Lib.hid rfl⟩
  obtain ⟨P, hPp⟩ : ∃ C, Hid (B (chain p) = C) := ⟨_, Lib.hid rfl⟩
  obtain ⟨N, hN⟩ : ∃ C, Hid (B (chain n) = C) := ⟨_, Lib.hid rfl⟩
  have h1 : Hid (∀ W, Calls Try.prog 53 #[.string g] W fun e w' => e = .returned (.string A) ∧ Below W.heap.size W w') := Lib.hid (fun W => by rw [← hA.out]; exact text_any g W (by omega))
  have h2 : Hid (∀ W, Calls Try.prog 53 #[.string t] W fun e w' => e = .returned (.string C) ∧ Below W.heap.size W w') := Lib.hid (fun W => by rw [← hC.out]; exact text_any t W (by omega))
  have h3 : Hid (∀ W, Calls Try.prog 80 #[.int .u64 p] W fun e w' => e = .returned (.string P) ∧ Below W.heap.size W w') := Lib.hid (fun W => by rw [← hPp.out]; exact chain_any p W hp.1 (by omega))
  have h4 : Hid (∀ W, Calls Try.prog 80 #[.int .u64 n] W fun e w' => e = .returned (.string N) ∧ Below W.heap.size W w') := Lib.hid (fun W => by rw [← hN.out]; exact chain_any n W hn.1 (by omega))
  rw [hA.out] at z1
  rw [hC.out] at z2
  rw [hPp.out] at z3
  rw [hN.out] at z4
  have hdl : (A ++ C) ++ (P ++ N) = L := by rw [← hL, ← hA.out, ← hC.out, ← hPp.out, ← hN.out, B_append, B_append, B_append]; rfl
  have ha1 : ¬ 9223372036854775807 < P.size + N.size := by omega
  have ha2 : ¬ 9223372036854775807 < A.size + C.size := by omega
  have ha3 : ¬ 9223372036854775807 < A.size + C.size + (P.size + N.size) := by omega
  have ha4 : ¬ 9223372036854775807 < (A ++ C).size + (P ++ N).size := by rw [ByteArray.size_append, ByteArray.size_append]; omega
  have w1 : IntKind.u64.wrap p = p := by rw [IntWalk.u64_in _ (by omega)]
  have w2 : IntKind.u64.wrap n = n := by rw [IntWalk.u64_in _ (by omega)]
  have p2 : V.cell? ⟨pb, 2, none⟩ = some (.int .i64 p) := hP.cell 2
  have x0 : ∀ W, Kept (fun q => q = fb) V W → W.cell? ⟨pb, 0, none⟩ = some (.string g) := fun W hk => (hP.of_kept hk hpf).cell 0
  have x1 : ∀ W, Kept (fun q => q = fb) V W → W.cell? ⟨pb, 1, none⟩ = some (.string t) := fun W hk => (hP.of_kept hk hpf).cell 1
  have hRb : Hid (∀ W, Below V.heap.size V W → Whole W fb 33 [.int .i64 0, .string ⟨#[]⟩]) := Lib.hid (fun W hb => hR.below hb hR.lt)
  have hB4 := Lib.hid hB
  replace hdl := Lib.hid hdl
  clear hA hC hPp hN hL hP hR hB z1 z2 z3 z4 hg ht hp hn
  go_enter Try.func46, Try.ntmps46
  go_upto_region 1 with fail
  rw [← show V = _ from hV.out, hfb.out, hpb.out]
  clear hV hpb hfb
  go_wp2_with fail
  refine (h3.out _).mono ?_
  rintro _ v1 ⟨rfl, b1⟩
  replace b1 := Lib.hid b1
  clear p2
  go_wp2_with fail
  refine (h4.out _).mono ?_
  rintro _ v2 ⟨rfl, b2⟩
  have s2 : Below V.heap.size V v2 := grew b1.out b2
  have s10 : Kept (fun q => q = fb) V v2 := Kept.of_below s2
  have s10d : Kept (fun q => q = fb) V v2.drew := s10.drewN 1
  have hb2 : Below V.heap.size V v2.drew := s2.drew
  replace hb2 := Lib.hid hb2
  clear b1 b2 h3 h4 s2
  go_upto_region 2 with fail
  go_region_held3 (fun w' => Kept (fun q => q = fb) V w') (with_reducible first | assumption | exact ((by assumption : Kept (fun q => q = fb) V _).setCell (.inl rfl) 0 _).setCell (.inl rfl) 1 _) (first
    | (go_at_call 53; have qq := ss1; (with_reducible refine (h2.out _).mono ?_); rintro _ y2 ⟨rfl, c2⟩; have ss2 := grew ss1 c2; have s12 : Kept (fun q => q = fb) V y2 := Kept.of_below ss2; have hR9 := hRb.out _ ss2; have r0 : y2.cell? ⟨fb, 0, none⟩ = some (.int .i64 0) := hR9.cell 0; have r1 : y2.cell? ⟨fb, 1, none⟩ = some (.string ⟨#[]⟩) := hR9.cell 1; have f0 := hR9.frozen 0; have f1 := hR9.frozen 1)
    | (go_at_call 53; (with_reducible refine (h1.out _).mono ?_); rintro _ y1 ⟨rfl, c1⟩; have ss1 : Below V.heap.size V y1 := grew hb2.out c1; have s11 : Kept (fun q => q = fb) V y1 := Kept.of_below ss1))
  all_goals
    rw [hdl.out]
    have hend : Hid (Whole (y2.setCells fb 0 [.int .i64 1, .string L]) fb 33 [.int .i64 1, .string L]) := Lib.hid (whole_all hR9 rfl)
    have hB9 : Hid (Below w.heap.size w (y2.setCells fb 0 [.int .i64 1, .string L])) := Lib.hid (below_store (grew hB4.out ss2) hfw (Nat.le_refl _) 0 [.int .i64 1, .string L])
    clear x0 x1 h1 h2 hR9 r0 r1 f0 f1 qq hRb
    go_wp2_with fail
    exact bodyPost_ret (result_cell Try.results46 rfl hend.out.range Try.underlying33 rfl sizeFr24) rfl ⟨rfl, hB9.out⟩
end Go.Proofs.Ytgogackkeodciaa.W
