/- The walk of package super's Decode. The walks of package super's Pick. -/
import Derived.Test.YtkmlmondhmpkkaaProg
import Derived.Test.YtkmlmondhmpkkaaSuperA
import Derived.Deep.LoopGhost
section
namespace Go.Proofs.Ytkmlmondhmpkkaa.W
open Go.RowKit Go.Sort
open Go.Proofs.Ytkmlmondhmpkkaa.M Go.Proofs.Ytkmlmondhmpkkaa.D Go.Proofs.Ytkmlmondhmpkkaa.Z
set_option linter.unusedVariables false

set_option maxRecDepth 100000 in
set_option maxHeartbeats 4000000 in
theorem suDecode_is (s X : ByteArray) (w : World) (ho : opensS s) (hX : s.extract 6 58 = X) (h1 : X.data.toList = dataU (numU X 0) (numU X 1) (numU X 2) (numU X 3) (numU X 4)) (h2 : stampS s = numU X 0) (h3 : countS s = 1) :
    Calls Try.prog 17 #[.string s] w fun x w' => x = .returned (.tuple #[.agg #[.int .u32 (numU X 0 : Nat), .int .u32 (numU X 1 : Nat), .int .u32 (numU X 2 : Nat), .int .u32 (numU X 3 : Nat), .int .u32 (numU X 4 : Nat)], .int .i64 0]) ∧ Below w.heap.size w w' := by
  have hop := fun W => open_yes s W ho
  have hxz : X.size = 52 := by rw [← hX]; have := ho.1; simp; omega
  have hxl : X.data.toList.length = 52 := by simpa using hxz
  rw [hX] at hop
  have hrd := fun W => suRead_any X W hxz
  have hnl := numU_lt X
  have hly := fun W => lay_any (numU X 0) (numU X 1) (numU X 2) (numU X 3) (numU X 4) W (hnl 0) (hnl 1) (hnl 2) (hnl 3) (hnl 4)
  have hsu := fun W => superOf_any (numU X 0 : Nat) (numU X 1 : Nat) (numU X 2 : Nat) (numU X 3 : Nat) (numU X 4 : Nat) W
  have hdl := dataU_len (numU X 0) (numU X 1) (numU X 2) (numU X 3) (numU X 4)
  have heq := equal_bytes 87 52 Try.underlying87 X.data.toList (dataU (numU X 0) (numU X 1) (numU X 2) (numU X 3) (numU X 4)) hxl hdl
  obtain ⟨E, hE⟩ : ∃ E, Hid (dataU (numU X 0) (numU X 1) (numU X 2) (numU X 3) (numU X 4) = E) := ⟨_, Lib.hid rfl⟩
  rw [hE.out] at hly hdl heq h1
  obtain ⟨a, e0⟩ : ∃ a, Hid (numU X 0 = a) := ⟨_, Lib.hid rfl⟩
  obtain ⟨b, e1⟩ : ∃ a, Hid (numU X 1 = a) := ⟨_, Lib.hid rfl⟩
  obtain ⟨c, e2⟩ : ∃ a, Hid (numU X 2 = a) := ⟨_, Lib.hid rfl⟩
  obtain ⟨d, e3⟩ : ∃ a, Hid (numU X 3 = a) := ⟨_, Lib.hid rfl⟩
  obtain ⟨e, e4⟩ : ∃ a, Hid (numU X 4 = a) := ⟨_, Lib.hid rfl⟩
  rw [e0.out, e1.out, e2.out, e3.out, e4.out] at hrd hly hsu ⊢
  obtain ⟨st, hst⟩ : ∃ a, Hid (stampS s = a) := ⟨_, Lib.hid rfl⟩
  obtain ⟨ct, hct⟩ : ∃ a, Hid (countS s = a) := ⟨_, Lib.hid rfl⟩
  rw [hst.out, hct.out] at hop
  rw [hst.out, e0.out] at h2
  rw [hct.out] at h3
  replace h2 := h2.symm
  subst h2 h3
  rw [show decide (X.data.toList = E) = true from by simp [h1]] at heq
  have hs1 : ((a : Int) != (a : Int)) = false := by simp
  replace hop : ∀ W : World, Calls Try.prog 10 #[.string s] W fun e w' => e = .returned (.tuple #[.int .u32 a, .int .i64 1, .string X, .int .i64 0]) ∧ Below W.heap.size W w' := fun W => hop W
  obtain ⟨D1, hD1⟩ : ∃ x, Hid (bytesV X.data.toList = x) := ⟨_, Lib.hid rfl⟩
  obtain ⟨D2, hD2⟩ : ∃ x, Hid (bytesV E = x) := ⟨_, Lib.hid rfl⟩
  have hl1 : Hid (D1.length = 52) := Lib.hid (by rw [← hD1.out, bytesV_len, hxl])
  have hsp : Hid (splice (List.replicate 52 (Value.int .u8 0)) 0 D1 = D1) := Lib.hid (by unfold splice; rw [List.take_zero, List.nil_append, Nat.zero_add, hl1.out, List.drop_replicate]; simp)
  rw [hD1.out, hD2.out] at heq
  rw [hD2.out] at hly
  clear hnl hdl hxl ho h1 hX
  replace hop := Lib.hid hop
  replace hrd := Lib.hid hrd
  replace hly := Lib.hid hly
  replace hsu := Lib.hid hsu
  replace hxz := Lib.hid hxz
  go_enter Try.func17, Try.ntmps17
  go_wp2_with fail
  have hR := Whole.new w 43 (u32s 0 0 0 0 0)
  have hB := (Below.refl w.heap.size w).alloc (Nat.le_refl _) (.cells (u32s 0 0 0 0 0).toArray 43)
  refine (hop.out _).mono ?_
  rintro ee w1 ⟨rfl, hb1⟩
  replace hR := hR.below hb1 hR.lt
  replace hB := grew hB hb1
  clear hb1
  go_wp2_with fail
  refine (hrd.out _).mono ?_
  rintro ee w2 ⟨rfl, hb2⟩
  replace hR := hR.below hb2 hR.lt
  replace hB := grew hB hb2
  clear hb2
  go_wp2_with fail
  have hN := Whole.new w2 84 (u32s a b c d e)
  replace hR := hR.alloc (.cells (u32s a b c d e).toArray 84)
  replace hB := grewAlloc hB (.cells (u32s a b c d e).toArray 84)
  refine (hsu.out _).mono ?_
  rintro ee w3 ⟨rfl, hb3⟩
  replace hR := hR.below hb3 hR.lt
  replace hN := hN.below hb3 hN.lt
  replace hB := grew hB hb3
  clear hb3
  generalize w2.heap.size = nb at *
  go_wp2_with (with_reducible refine zCopy _ _ _ _ rfl ?_)
  refine Lib.hid ?_
  have hS := (Whole.new w3 43 (u32s a b c d e)).alloc (.cells (List.replicate 52 (Value.int .u8 0)).toArray 87)
  have hT := Whole.new (w3.alloc (.cells (u32s a b c d e).toArray 43)) 87 (List.replicate 52 (Value.int .u8 0))
  rw [show (w3.alloc (.cells (u32s a b c d e).toArray 43)).heap.size = w3.heap.size + 1 from by simp] at hT
  replace hR := (hR.alloc (.cells (u32s a b c d e).toArray 43)).alloc (.cells (List.replicate 52 (Value.int .u8 0)).toArray 87)
  replace hN := (hN.alloc (.cells (u32s a b c d e).toArray 43)).alloc (.cells (List.replicate 52 (Value.int .u8 0)).toArray 87)
  have hws := hB.size
  replace hB := grewAlloc (grewAlloc hB (.cells (u32s a b c d e).toArray 43)) (.cells (List.replicate 52 (Value.int .u8 0)).toArray 87)
  have hne1 := hR.ne hT (by decide)
  have hne2 := hN.ne hT (by decide)
  refine wpList_copy_text rfl _ _ rfl (w3.heap.size + 1) 0 52 52 rfl X rfl (by rw [hxz.out]; exact Nat.le_refl _) 87 _ hT (by rw [hxz.out]; simp) ?_
  intro w4 hT4 hk4 hsz4
  replace hk4 := hk4 (fun q => q = w3.heap.size + 1) _ (.inl rfl) (Kept.refl _ _)
  rw [hD1.out, hsp.out] at hT4
  replace hR := hR.of_kept hk4 hne1
  replace hN := hN.of_kept hk4 hne2
  replace hS := hS.of_kept hk4 (by omega)
  replace hB := hB.trans (hk4.below hB.size (fun q hq => by omega))
  clear hT hk4 hsz4 hws hne1 hne2
  go_wp2_with fail
  generalize w3.heap.size = sb at *
  have g0 : ∀ dd os, (grow (redrawn w4 dd) os).cell? ⟨sb, 0, none⟩ = some (.int .u32 a) := fun dd os => (hS.below (below_regrown w4 dd os) hS.lt).cell 0
  have hrn : Hid (∀ w', (∃ p : Regrown, w' = grow (redrawn w4 p.d) p.os) → w'.rangeAt nb 0 (u32s a b c d e)) := Lib.hid (by rintro _ ⟨p, rfl⟩; exact (hN.below (below_regrown w4 p.d p.os) hN.lt).range)
  have hrt : Hid (∀ w', (∃ p : Regrown, w' = grow (redrawn w4 p.d) p.os) → w'.rangeAt (sb + 1) 0 D1) := Lib.hid (by rintro _ ⟨p, rfl⟩; exact (hT4.below (below_regrown w4 p.d p.os) hT4.lt).range)
  have hi1 : Hid ((Try.prog.info? 87).map (·.size) = some D1.length) := Lib.hid (by rw [hl1.out]; exact sizeLaid)
  have hi2 : Hid ((Try.prog.info? 84).map (·.size) = some (u32s a b c d e).length) := Lib.hid sizeN5
  have cl := Lib.hid (regrown_any hly.out w4)
  replace hR := Lib.hid hR
  replace hS := Lib.hid hS
  clear hN hT4
  refine wp_region_quiet_below (by kernel_rfl) (by kernel_rfl) ?_
  repeat (first
    | ((with_reducible refine quiet_load 87 _ (sb + 1) D1 ?_ hrt.out Try.underlying87 ?_ hi1.out ?_ ?_); (· rfl); (· rfl); (· rfl); simp only [Act.put, List.setIfInBounds_toArray, List.set_cons_zero, List.set_cons_succ])
    | ((with_reducible refine quiet_load 84 _ nb (u32s a b c d e) ?_ hrn.out Try.underlying84 ?_ hi2.out ?_ ?_); (· rfl); (· rfl); (· rfl); simp only [Act.put, List.setIfInBounds_toArray, List.set_cons_zero, List.set_cons_succ])
    | go_big_quiet_step (exact cl.out _ _))
  refine wpQuiet_nil ?_
  intro _ hw'
  obtain ⟨⟨dq, osq⟩, hw''⟩ := hw'
  subst hw''
  have hR5 := Lib.hid (hR.out.below (below_regrown w4 dq osq) hR.out.lt)
  have hS5 := Lib.hid (hS.out.below (below_regrown w4 dq osq) hS.out.lt)
  have hB5 := Lib.hid (grew hB (below_regrown w4 dq osq))
  clear g0 hrn hrt hi1 cl heq hR hS hB
  generalize grow (redrawn w4 dq) osq = w5 at *
  go_wp2_with (with_reducible refine zLoad 43 _ rfl ?_)
  refine Lib.hid ?_
  refine wpList_load_mid rfl 43 _ rfl sb 0 rfl (u32s a b c d e) _ hS5.out.range Try.underlying43 rfl sizeS5 ?_
  go_wp2_with (with_reducible refine zStore 43 _ _ rfl ?_)
  refine Lib.hid ?_
  refine wpList_store_mid rfl 43 _ _ rfl w.heap.size 0 (u32s a b c d e).toArray rfl rfl (hR5.out.there 0 5 (by simp)) sizeS5 (all_oneCell_toArray (u32s_one a b c d e)) ?_
  go_wp2_with fail
  have hfin := whole_all hR5.out (vs := u32s a b c d e) rfl
  exact bodyPost_ret (result_cell_tmp Try.results17 rfl rfl hfin.range Try.underlying43 rfl sizeS5) rfl ⟨rfl, below_store hB5.out (Nat.le_refl _) (Nat.le_refl _) 0 _⟩
set_option maxRecDepth 100000 in
set_option maxHeartbeats 4000000 in
theorem suDecode_data (s X : ByteArray) (w : World) (ho : opensS s) (hX : s.extract 6 58 = X) (h1 : ¬ X.data.toList = dataU (numU X 0) (numU X 1) (numU X 2) (numU X 3) (numU X 4)) :
    Calls Try.prog 17 #[.string s] w fun x w' => x = .returned (.tuple #[.agg #[.int .u32 0, .int .u32 0, .int .u32 0, .int .u32 0, .int .u32 0], .int .i64 4]) ∧ Below w.heap.size w w' := by
  have hop := fun W => open_yes s W ho
  have hxz : X.size = 52 := by rw [← hX]; have := ho.1; simp; omega
  have hxl : X.data.toList.length = 52 := by simpa using hxz
  rw [hX] at hop
  have hrd := fun W => suRead_any X W hxz
  have hnl := numU_lt X
  have hly := fun W => lay_any (numU X 0) (numU X 1) (numU X 2) (numU X 3) (numU X 4) W (hnl 0) (hnl 1) (hnl 2) (hnl 3) (hnl 4)
  have hsu := fun W => superOf_any (numU X 0 : Nat) (numU X 1 : Nat) (numU X 2 : Nat) (numU X 3 : Nat) (numU X 4 : Nat) W
  have hdl := dataU_len (numU X 0) (numU X 1) (numU X 2) (numU X 3) (numU X 4)
  have heq := equal_bytes 87 52 Try.underlying87 X.data.toList (dataU (numU X 0) (numU X 1) (numU X 2) (numU X 3) (numU X 4)) hxl hdl
  obtain ⟨E, hE⟩ : ∃ E, Hid (dataU (numU X 0) (numU X 1) (numU X 2) (numU X 3) (numU X 4) = E) := ⟨_, Lib.hid rfl⟩
  rw [hE.out] at hly hdl heq h1
  obtain ⟨a, e0⟩ : ∃ a, Hid (numU X 0 = a) := ⟨_, Lib.hid rfl⟩
  obtain ⟨b, e1⟩ : ∃ a, Hid (numU X 1 = a) := ⟨_, Lib.hid rfl⟩
  obtain ⟨c, e2⟩ : ∃ a, Hid (numU X 2 = a) := ⟨_, Lib.hid rfl⟩
  obtain ⟨d, e3⟩ : ∃ a, Hid (numU X 3 = a) := ⟨_, Lib.hid rfl⟩
  obtain ⟨e, e4⟩ : ∃ a, Hid (numU X 4 = a) := ⟨_, Lib.hid rfl⟩
  rw [e0.out, e1.out, e2.out, e3.out, e4.out] at hrd hly hsu 
  obtain ⟨st, hst⟩ : ∃ a, Hid (stampS s = a) := ⟨_, Lib.hid rfl⟩
  obtain ⟨ct, hct⟩ : ∃ a, Hid (countS s = a) := ⟨_, Lib.hid rfl⟩
  rw [hst.out, hct.out] at hop
  rw [show decide (X.data.toList = E) = false from by simp [h1]] at heq
  obtain ⟨D1, hD1⟩ : ∃ x, Hid (bytesV X.data.toList = x) := ⟨_, Lib.hid rfl⟩
  obtain ⟨D2, hD2⟩ : ∃ x, Hid (bytesV E = x) := ⟨_, Lib.hid rfl⟩
  have hl1 : Hid (D1.length = 52) := Lib.hid (by rw [← hD1.out, bytesV_len, hxl])
  have hsp : Hid (splice (List.replicate 52 (Value.int .u8 0)) 0 D1 = D1) := Lib.hid (by unfold splice; rw [List.take_zero, List.nil_append, Nat.zero_add, hl1.out, List.drop_replicate]; simp)
  rw [hD1.out, hD2.out] at heq
  rw [hD2.out] at hly
  clear hnl hdl hxl ho h1 hX
  replace hop := Lib.hid hop
  replace hrd := Lib.hid hrd
  replace hly := Lib.hid hly
  replace hsu := Lib.hid hsu
  replace hxz := Lib.hid hxz
  go_enter Try.func17, Try.ntmps17
  go_wp2_with fail
  have hR := Whole.new w 43 (u32s 0 0 0 0 0)
  have hB := (Below.refl w.heap.size w).alloc (Nat.le_refl _) (.cells (u32s 0 0 0 0 0).toArray 43)
  refine (hop.out _).mono ?_
  rintro ee w1 ⟨rfl, hb1⟩
  replace hR := hR.below hb1 hR.lt
  replace hB := grew hB hb1
  clear hb1
  go_wp2_with fail
  refine (hrd.out _).mono ?_
  rintro ee w2 ⟨rfl, hb2⟩
  replace hR := hR.below hb2 hR.lt
  replace hB := grew hB hb2
  clear hb2
  go_wp2_with fail
  have hN := Whole.new w2 84 (u32s a b c d e)
  replace hR := hR.alloc (.cells (u32s a b c d e).toArray 84)
  replace hB := grewAlloc hB (.cells (u32s a b c d e).toArray 84)
  refine (hsu.out _).mono ?_
  rintro ee w3 ⟨rfl, hb3⟩
  replace hR := hR.below hb3 hR.lt
  replace hN := hN.below hb3 hN.lt
  replace hB := grew hB hb3
  clear hb3
  generalize w2.heap.size = nb at *
  go_wp2_with (with_reducible refine zCopy _ _ _ _ rfl ?_)
  refine Lib.hid ?_
  have hS := (Whole.new w3 43 (u32s a b c d e)).alloc (.cells (List.replicate 52 (Value.int .u8 0)).toArray 87)
  have hT := Whole.new (w3.alloc (.cells (u32s a b c d e).toArray 43)) 87 (List.replicate 52 (Value.int .u8 0))
  rw [show (w3.alloc (.cells (u32s a b c d e).toArray 43)).heap.size = w3.heap.size + 1 from by simp] at hT
  replace hR := (hR.alloc (.cells (u32s a b c d e).toArray 43)).alloc (.cells (List.replicate 52 (Value.int .u8 0)).toArray 87)
  replace hN := (hN.alloc (.cells (u32s a b c d e).toArray 43)).alloc (.cells (List.replicate 52 (Value.int .u8 0)).toArray 87)
  have hws := hB.size
  replace hB := grewAlloc (grewAlloc hB (.cells (u32s a b c d e).toArray 43)) (.cells (List.replicate 52 (Value.int .u8 0)).toArray 87)
  have hne1 := hR.ne hT (by decide)
  have hne2 := hN.ne hT (by decide)
  refine wpList_copy_text rfl _ _ rfl (w3.heap.size + 1) 0 52 52 rfl X rfl (by rw [hxz.out]; exact Nat.le_refl _) 87 _ hT (by rw [hxz.out]; simp) ?_
  intro w4 hT4 hk4 hsz4
  replace hk4 := hk4 (fun q => q = w3.heap.size + 1) _ (.inl rfl) (Kept.refl _ _)
  rw [hD1.out, hsp.out] at hT4
  replace hR := hR.of_kept hk4 hne1
  replace hN := hN.of_kept hk4 hne2
  replace hS := hS.of_kept hk4 (by omega)
  replace hB := hB.trans (hk4.below hB.size (fun q hq => by omega))
  clear hT hk4 hsz4 hws hne1 hne2
  go_wp2_with fail
  generalize w3.heap.size = sb at *
  have g0 : ∀ dd os, (grow (redrawn w4 dd) os).cell? ⟨sb, 0, none⟩ = some (.int .u32 a) := fun dd os => (hS.below (below_regrown w4 dd os) hS.lt).cell 0
  have hrn : Hid (∀ w', (∃ p : Regrown, w' = grow (redrawn w4 p.d) p.os) → w'.rangeAt nb 0 (u32s a b c d e)) := Lib.hid (by rintro _ ⟨p, rfl⟩; exact (hN.below (below_regrown w4 p.d p.os) hN.lt).range)
  have hrt : Hid (∀ w', (∃ p : Regrown, w' = grow (redrawn w4 p.d) p.os) → w'.rangeAt (sb + 1) 0 D1) := Lib.hid (by rintro _ ⟨p, rfl⟩; exact (hT4.below (below_regrown w4 p.d p.os) hT4.lt).range)
  have hi1 : Hid ((Try.prog.info? 87).map (·.size) = some D1.length) := Lib.hid (by rw [hl1.out]; exact sizeLaid)
  have hi2 : Hid ((Try.prog.info? 84).map (·.size) = some (u32s a b c d e).length) := Lib.hid sizeN5
  have cl := Lib.hid (regrown_any hly.out w4)
  replace hR := Lib.hid hR
  replace hS := Lib.hid hS
  clear hN hT4
  refine wp_region_quiet_below (by kernel_rfl) (by kernel_rfl) ?_
  repeat (first
    | ((with_reducible refine quiet_load 87 _ (sb + 1) D1 ?_ hrt.out Try.underlying87 ?_ hi1.out ?_ ?_); (· rfl); (· rfl); (· rfl); simp only [Act.put, List.setIfInBounds_toArray, List.set_cons_zero, List.set_cons_succ])
    | ((with_reducible refine quiet_load 84 _ nb (u32s a b c d e) ?_ hrn.out Try.underlying84 ?_ hi2.out ?_ ?_); (· rfl); (· rfl); (· rfl); simp only [Act.put, List.setIfInBounds_toArray, List.set_cons_zero, List.set_cons_succ])
    | go_big_quiet_step (exact cl.out _ _))
  refine wpQuiet_nil ?_
  intro _ hw'
  obtain ⟨⟨dq, osq⟩, hw''⟩ := hw'
  subst hw''
  have hR5 := Lib.hid (hR.out.below (below_regrown w4 dq osq) hR.out.lt)
  have hS5 := Lib.hid (hS.out.below (below_regrown w4 dq osq) hS.out.lt)
  have hB5 := Lib.hid (grew hB (below_regrown w4 dq osq))
  clear g0 hrn hrt hi1 cl heq hR hS hB
  generalize grow (redrawn w4 dq) osq = w5 at *
  go_wp2_with (with_reducible refine zStore 43 _ _ rfl ?_)
  refine Lib.hid ?_
  refine wpList_store_mid rfl 43 _ _ rfl w.heap.size 0 (u32s 0 0 0 0 0).toArray rfl rfl (hR5.out.there 0 5 (by simp)) sizeS5 (all_oneCell_toArray (u32s_one 0 0 0 0 0)) ?_
  go_wp2_with fail
  have hfin := whole_all hR5.out (vs := u32s 0 0 0 0 0) rfl
  exact bodyPost_ret (result_cell_tmp Try.results17 rfl rfl hfin.range Try.underlying43 rfl sizeS5) rfl ⟨rfl, below_store hB5.out (Nat.le_refl _) (Nat.le_refl _) 0 _⟩
set_option maxRecDepth 100000 in
set_option maxHeartbeats 4000000 in
theorem suDecode_stamp (s X : ByteArray) (w : World) (ho : opensS s) (hX : s.extract 6 58 = X) (h1 : X.data.toList = dataU (numU X 0) (numU X 1) (numU X 2) (numU X 3) (numU X 4)) (h2 : ¬ stampS s = numU X 0) :
    Calls Try.prog 17 #[.string s] w fun x w' => x = .returned (.tuple #[.agg #[.int .u32 0, .int .u32 0, .int .u32 0, .int .u32 0, .int .u32 0], .int .i64 4]) ∧ Below w.heap.size w w' := by
  have hop := fun W => open_yes s W ho
  have hxz : X.size = 52 := by rw [← hX]; have := ho.1; simp; omega
  have hxl : X.data.toList.length = 52 := by simpa using hxz
  rw [hX] at hop
  have hrd := fun W => suRead_any X W hxz
  have hnl := numU_lt X
  have hly := fun W => lay_any (numU X 0) (numU X 1) (numU X 2) (numU X 3) (numU X 4) W (hnl 0) (hnl 1) (hnl 2) (hnl 3) (hnl 4)
  have hsu := fun W => superOf_any (numU X 0 : Nat) (numU X 1 : Nat) (numU X 2 : Nat) (numU X 3 : Nat) (numU X 4 : Nat) W
  have hdl := dataU_len (numU X 0) (numU X 1) (numU X 2) (numU X 3) (numU X 4)
  have heq := equal_bytes 87 52 Try.underlying87 X.data.toList (dataU (numU X 0) (numU X 1) (numU X 2) (numU X 3) (numU X 4)) hxl hdl
  obtain ⟨E, hE⟩ : ∃ E, Hid (dataU (numU X 0) (numU X 1) (numU X 2) (numU X 3) (numU X 4) = E) := ⟨_, Lib.hid rfl⟩
  rw [hE.out] at hly hdl heq h1
  obtain ⟨a, e0⟩ : ∃ a, Hid (numU X 0 = a) := ⟨_, Lib.hid rfl⟩
  obtain ⟨b, e1⟩ : ∃ a, Hid (numU X 1 = a) := ⟨_, Lib.hid rfl⟩
  obtain ⟨c, e2⟩ : ∃ a, Hid (numU X 2 = a) := ⟨_, Lib.hid rfl⟩
  obtain ⟨d, e3⟩ : ∃ a, Hid (numU X 3 = a) := ⟨_, Lib.hid rfl⟩
  obtain ⟨e, e4⟩ : ∃ a, Hid (numU X 4 = a) := ⟨_, Lib.hid rfl⟩
  rw [e0.out, e1.out, e2.out, e3.out, e4.out] at hrd hly hsu 
  obtain ⟨st, hst⟩ : ∃ a, Hid (stampS s = a) := ⟨_, Lib.hid rfl⟩
  obtain ⟨ct, hct⟩ : ∃ a, Hid (countS s = a) := ⟨_, Lib.hid rfl⟩
  rw [hst.out, hct.out] at hop
  rw [hst.out, e0.out] at h2
  rw [show decide (X.data.toList = E) = true from by simp [h1]] at heq
  have hs1 : ((st : Int) != (a : Int)) = true := by simp; omega
  obtain ⟨D1, hD1⟩ : ∃ x, Hid (bytesV X.data.toList = x) := ⟨_, Lib.hid rfl⟩
  obtain ⟨D2, hD2⟩ : ∃ x, Hid (bytesV E = x) := ⟨_, Lib.hid rfl⟩
  have hl1 : Hid (D1.length = 52) := Lib.hid (by rw [← hD1.out, bytesV_len, hxl])
  have hsp : Hid (splice (List.replicate 52 (Value.int .u8 0)) 0 D1 = D1) := Lib.hid (by unfold splice; rw [List.take_zero, List.nil_append, Nat.zero_add, hl1.out, List.drop_replicate]; simp)
  rw [hD1.out, hD2.out] at heq
  rw [hD2.out] at hly
  clear hnl hdl hxl ho h1 hX
  replace hop := Lib.hid hop
  replace hrd := Lib.hid hrd
  replace hly := Lib.hid hly
  replace hsu := Lib.hid hsu
  replace hxz := Lib.hid hxz
  go_enter Try.func17, Try.ntmps17
  go_wp2_with fail
  have hR := Whole.new w 43 (u32s 0 0 0 0 0)
  have hB := (Below.refl w.heap.size w).alloc (Nat.le_refl _) (.cells (u32s 0 0 0 0 0).toArray 43)
  refine (hop.out _).mono ?_
  rintro ee w1 ⟨rfl, hb1⟩
  replace hR := hR.below hb1 hR.lt
  replace hB := grew hB hb1
  clear hb1
  go_wp2_with fail
  refine (hrd.out _).mono ?_
  rintro ee w2 ⟨rfl, hb2⟩
  replace hR := hR.below hb2 hR.lt
  replace hB := grew hB hb2
  clear hb2
  go_wp2_with fail
  have hN := Whole.new w2 84 (u32s a b c d e)
  replace hR := hR.alloc (.cells (u32s a b c d e).toArray 84)
  replace hB := grewAlloc hB (.cells (u32s a b c d e).toArray 84)
  refine (hsu.out _).mono ?_
  rintro ee w3 ⟨rfl, hb3⟩
  replace hR := hR.below hb3 hR.lt
  replace hN := hN.below hb3 hN.lt
  replace hB := grew hB hb3
  clear hb3
  generalize w2.heap.size = nb at *
  go_wp2_with (with_reducible refine zCopy _ _ _ _ rfl ?_)
  refine Lib.hid ?_
  have hS := (Whole.new w3 43 (u32s a b c d e)).alloc (.cells (List.replicate 52 (Value.int .u8 0)).toArray 87)
  have hT := Whole.new (w3.alloc (.cells (u32s a b c d e).toArray 43)) 87 (List.replicate 52 (Value.int .u8 0))
  rw [show (w3.alloc (.cells (u32s a b c d e).toArray 43)).heap.size = w3.heap.size + 1 from by simp] at hT
  replace hR := (hR.alloc (.cells (u32s a b c d e).toArray 43)).alloc (.cells (List.replicate 52 (Value.int .u8 0)).toArray 87)
  replace hN := (hN.alloc (.cells (u32s a b c d e).toArray 43)).alloc (.cells (List.replicate 52 (Value.int .u8 0)).toArray 87)
  have hws := hB.size
  replace hB := grewAlloc (grewAlloc hB (.cells (u32s a b c d e).toArray 43)) (.cells (List.replicate 52 (Value.int .u8 0)).toArray 87)
  have hne1 := hR.ne hT (by decide)
  have hne2 := hN.ne hT (by decide)
  refine wpList_copy_text rfl _ _ rfl (w3.heap.size + 1) 0 52 52 rfl X rfl (by rw [hxz.out]; exact Nat.le_refl _) 87 _ hT (by rw [hxz.out]; simp) ?_
  intro w4 hT4 hk4 hsz4
  replace hk4 := hk4 (fun q => q = w3.heap.size + 1) _ (.inl rfl) (Kept.refl _ _)
  rw [hD1.out, hsp.out] at hT4
  replace hR := hR.of_kept hk4 hne1
  replace hN := hN.of_kept hk4 hne2
  replace hS := hS.of_kept hk4 (by omega)
  replace hB := hB.trans (hk4.below hB.size (fun q hq => by omega))
  clear hT hk4 hsz4 hws hne1 hne2
  go_wp2_with fail
  generalize w3.heap.size = sb at *
  have g0 : ∀ dd os, (grow (redrawn w4 dd) os).cell? ⟨sb, 0, none⟩ = some (.int .u32 a) := fun dd os => (hS.below (below_regrown w4 dd os) hS.lt).cell 0
  have hrn : Hid (∀ w', (∃ p : Regrown, w' = grow (redrawn w4 p.d) p.os) → w'.rangeAt nb 0 (u32s a b c d e)) := Lib.hid (by rintro _ ⟨p, rfl⟩; exact (hN.below (below_regrown w4 p.d p.os) hN.lt).range)
  have hrt : Hid (∀ w', (∃ p : Regrown, w' = grow (redrawn w4 p.d) p.os) → w'.rangeAt (sb + 1) 0 D1) := Lib.hid (by rintro _ ⟨p, rfl⟩; exact (hT4.below (below_regrown w4 p.d p.os) hT4.lt).range)
  have hi1 : Hid ((Try.prog.info? 87).map (·.size) = some D1.length) := Lib.hid (by rw [hl1.out]; exact sizeLaid)
  have hi2 : Hid ((Try.prog.info? 84).map (·.size) = some (u32s a b c d e).length) := Lib.hid sizeN5
  have cl := Lib.hid (regrown_any hly.out w4)
  replace hR := Lib.hid hR
  replace hS := Lib.hid hS
  clear hN hT4
  refine wp_region_quiet_below (by kernel_rfl) (by kernel_rfl) ?_
  repeat (first
    | ((with_reducible refine quiet_load 87 _ (sb + 1) D1 ?_ hrt.out Try.underlying87 ?_ hi1.out ?_ ?_); (· rfl); (· rfl); (· rfl); simp only [Act.put, List.setIfInBounds_toArray, List.set_cons_zero, List.set_cons_succ])
    | ((with_reducible refine quiet_load 84 _ nb (u32s a b c d e) ?_ hrn.out Try.underlying84 ?_ hi2.out ?_ ?_); (· rfl); (· rfl); (· rfl); simp only [Act.put, List.setIfInBounds_toArray, List.set_cons_zero, List.set_cons_succ])
    | go_big_quiet_step (exact cl.out _ _))
  refine wpQuiet_nil ?_
  intro _ hw'
  obtain ⟨⟨dq, osq⟩, hw''⟩ := hw'
  subst hw''
  have hR5 := Lib.hid (hR.out.below (below_regrown w4 dq osq) hR.out.lt)
  have hS5 := Lib.hid (hS.out.below (below_regrown w4 dq osq) hS.out.lt)
  have hB5 := Lib.hid (grew hB (below_regrown w4 dq osq))
  clear g0 hrn hrt hi1 cl heq hR hS hB
  generalize grow (redrawn w4 dq) osq = w5 at *
  go_wp2_with (with_reducible refine zStore 43 _ _ rfl ?_)
  refine Lib.hid ?_
  refine wpList_store_mid rfl 43 _ _ rfl w.heap.size 0 (u32s 0 0 0 0 0).toArray rfl rfl (hR5.out.there 0 5 (by simp)) sizeS5 (all_oneCell_toArray (u32s_one 0 0 0 0 0)) ?_
  go_wp2_with fail
  have hfin := whole_all hR5.out (vs := u32s 0 0 0 0 0) rfl
  exact bodyPost_ret (result_cell_tmp Try.results17 rfl rfl hfin.range Try.underlying43 rfl sizeS5) rfl ⟨rfl, below_store hB5.out (Nat.le_refl _) (Nat.le_refl _) 0 _⟩
set_option maxRecDepth 100000 in
set_option maxHeartbeats 4000000 in
theorem suDecode_count (s X : ByteArray) (w : World) (ho : opensS s) (hX : s.extract 6 58 = X) (h1 : X.data.toList = dataU (numU X 0) (numU X 1) (numU X 2) (numU X 3) (numU X 4)) (h2 : stampS s = numU X 0) (h3 : ¬ countS s = 1) :
    Calls Try.prog 17 #[.string s] w fun x w' => x = .returned (.tuple #[.agg #[.int .u32 0, .int .u32 0, .int .u32 0, .int .u32 0, .int .u32 0], .int .i64 4]) ∧ Below w.heap.size w w' := by
  have hop := fun W => open_yes s W ho
  have hxz : X.size = 52 := by rw [← hX]; have := ho.1; simp; omega
  have hxl : X.data.toList.length = 52 := by simpa using hxz
  rw [hX] at hop
  have hrd := fun W => suRead_any X W hxz
  have hnl := numU_lt X
  have hly := fun W => lay_any (numU X 0) (numU X 1) (numU X 2) (numU X 3) (numU X 4) W (hnl 0) (hnl 1) (hnl 2) (hnl 3) (hnl 4)
  have hsu := fun W => superOf_any (numU X 0 : Nat) (numU X 1 : Nat) (numU X 2 : Nat) (numU X 3 : Nat) (numU X 4 : Nat) W
  have hdl := dataU_len (numU X 0) (numU X 1) (numU X 2) (numU X 3) (numU X 4)
  have heq := equal_bytes 87 52 Try.underlying87 X.data.toList (dataU (numU X 0) (numU X 1) (numU X 2) (numU X 3) (numU X 4)) hxl hdl
  obtain ⟨E, hE⟩ : ∃ E, Hid (dataU (numU X 0) (numU X 1) (numU X 2) (numU X 3) (numU X 4) = E) := ⟨_, Lib.hid rfl⟩
  rw [hE.out] at hly hdl heq h1
  obtain ⟨a, e0⟩ : ∃ a, Hid (numU X 0 = a) := ⟨_, Lib.hid rfl⟩
  obtain ⟨b, e1⟩ : ∃ a, Hid (numU X 1 = a) := ⟨_, Lib.hid rfl⟩
  obtain ⟨c, e2⟩ : ∃ a, Hid (numU X 2 = a) := ⟨_, Lib.hid rfl⟩
  obtain ⟨d, e3⟩ : ∃ a, Hid (numU X 3 = a) := ⟨_, Lib.hid rfl⟩
  obtain ⟨e, e4⟩ : ∃ a, Hid (numU X 4 = a) := ⟨_, Lib.hid rfl⟩
  rw [e0.out, e1.out, e2.out, e3.out, e4.out] at hrd hly hsu 
  obtain ⟨st, hst⟩ : ∃ a, Hid (stampS s = a) := ⟨_, Lib.hid rfl⟩
  obtain ⟨ct, hct⟩ : ∃ a, Hid (countS s = a) := ⟨_, Lib.hid rfl⟩
  rw [hst.out, hct.out] at hop
  rw [hst.out, e0.out] at h2
  rw [hct.out] at h3
  replace h2 := h2.symm
  subst h2
  rw [show decide (X.data.toList = E) = true from by simp [h1]] at heq
  have hs1 : ((a : Int) != (a : Int)) = false := by simp
  have hc1 : ((ct : Int) != 1) = true := by simp; omega
  obtain ⟨D1, hD1⟩ : ∃ x, Hid (bytesV X.data.toList = x) := ⟨_, Lib.hid rfl⟩
  obtain ⟨D2, hD2⟩ : ∃ x, Hid (bytesV E = x) := ⟨_, Lib.hid rfl⟩
  have hl1 : Hid (D1.length = 52) := Lib.hid (by rw [← hD1.out, bytesV_len, hxl])
  have hsp : Hid (splice (List.replicate 52 (Value.int .u8 0)) 0 D1 = D1) := Lib.hid (by unfold splice; rw [List.take_zero, List.nil_append, Nat.zero_add, hl1.out, List.drop_replicate]; simp)
  rw [hD1.out, hD2.out] at heq
  rw [hD2.out] at hly
  clear hnl hdl hxl ho h1 hX
  replace hop := Lib.hid hop
  replace hrd := Lib.hid hrd
  replace hly := Lib.hid hly
  replace hsu := Lib.hid hsu
  replace hxz := Lib.hid hxz
  go_enter Try.func17, Try.ntmps17
  go_wp2_with fail
  have hR := Whole.new w 43 (u32s 0 0 0 0 0)
  have hB := (Below.refl w.heap.size w).alloc (Nat.le_refl _) (.cells (u32s 0 0 0 0 0).toArray 43)
  refine (hop.out _).mono ?_
  rintro ee w1 ⟨rfl, hb1⟩
  replace hR := hR.below hb1 hR.lt
  replace hB := grew hB hb1
  clear hb1
  go_wp2_with fail
  refine (hrd.out _).mono ?_
  rintro ee w2 ⟨rfl, hb2⟩
  replace hR := hR.below hb2 hR.lt
  replace hB := grew hB hb2
  clear hb2
  go_wp2_with fail
  have hN := Whole.new w2 84 (u32s a b c d e)
  replace hR := hR.alloc (.cells (u32s a b c d e).toArray 84)
  replace hB := grewAlloc hB (.cells (u32s a b c d e).toArray 84)
  refine (hsu.out _).mono ?_
  rintro ee w3 ⟨rfl, hb3⟩
  replace hR := hR.below hb3 hR.lt
  replace hN := hN.below hb3 hN.lt
  replace hB := grew hB hb3
  clear hb3
  generalize w2.heap.size = nb at *
  go_wp2_with (with_reducible refine zCopy _ _ _ _ rfl ?_)
  refine Lib.hid ?_
  have hS := (Whole.new w3 43 (u32s a b c d e)).alloc (.cells (List.replicate 52 (Value.int .u8 0)).toArray 87)
  have hT := Whole.new (w3.alloc (.cells (u32s a b c d e).toArray 43)) 87 (List.replicate 52 (Value.int .u8 0))
  rw [show (w3.alloc (.cells (u32s a b c d e).toArray 43)).heap.size = w3.heap.size + 1 from by simp] at hT
  replace hR := (hR.alloc (.cells (u32s a b c d e).toArray 43)).alloc (.cells (List.replicate 52 (Value.int .u8 0)).toArray 87)
  replace hN := (hN.alloc (.cells (u32s a b c d e).toArray 43)).alloc (.cells (List.replicate 52 (Value.int .u8 0)).toArray 87)
  have hws := hB.size
  replace hB := grewAlloc (grewAlloc hB (.cells (u32s a b c d e).toArray 43)) (.cells (List.replicate 52 (Value.int .u8 0)).toArray 87)
  have hne1 := hR.ne hT (by decide)
  have hne2 := hN.ne hT (by decide)
  refine wpList_copy_text rfl _ _ rfl (w3.heap.size + 1) 0 52 52 rfl X rfl (by rw [hxz.out]; exact Nat.le_refl _) 87 _ hT (by rw [hxz.out]; simp) ?_
  intro w4 hT4 hk4 hsz4
  replace hk4 := hk4 (fun q => q = w3.heap.size + 1) _ (.inl rfl) (Kept.refl _ _)
  rw [hD1.out, hsp.out] at hT4
  replace hR := hR.of_kept hk4 hne1
  replace hN := hN.of_kept hk4 hne2
  replace hS := hS.of_kept hk4 (by omega)
  replace hB := hB.trans (hk4.below hB.size (fun q hq => by omega))
  clear hT hk4 hsz4 hws hne1 hne2
  go_wp2_with fail
  generalize w3.heap.size = sb at *
  have g0 : ∀ dd os, (grow (redrawn w4 dd) os).cell? ⟨sb, 0, none⟩ = some (.int .u32 a) := fun dd os => (hS.below (below_regrown w4 dd os) hS.lt).cell 0
  have hrn : Hid (∀ w', (∃ p : Regrown, w' = grow (redrawn w4 p.d) p.os) → w'.rangeAt nb 0 (u32s a b c d e)) := Lib.hid (by rintro _ ⟨p, rfl⟩; exact (hN.below (below_regrown w4 p.d p.os) hN.lt).range)
  have hrt : Hid (∀ w', (∃ p : Regrown, w' = grow (redrawn w4 p.d) p.os) → w'.rangeAt (sb + 1) 0 D1) := Lib.hid (by rintro _ ⟨p, rfl⟩; exact (hT4.below (below_regrown w4 p.d p.os) hT4.lt).range)
  have hi1 : Hid ((Try.prog.info? 87).map (·.size) = some D1.length) := Lib.hid (by rw [hl1.out]; exact sizeLaid)
  have hi2 : Hid ((Try.prog.info? 84).map (·.size) = some (u32s a b c d e).length) := Lib.hid sizeN5
  have cl := Lib.hid (regrown_any hly.out w4)
  replace hR := Lib.hid hR
  replace hS := Lib.hid hS
  clear hN hT4
  refine wp_region_quiet_below (by kernel_rfl) (by kernel_rfl) ?_
  repeat (first
    | ((with_reducible refine quiet_load 87 _ (sb + 1) D1 ?_ hrt.out Try.underlying87 ?_ hi1.out ?_ ?_); (· rfl); (· rfl); (· rfl); simp only [Act.put, List.setIfInBounds_toArray, List.set_cons_zero, List.set_cons_succ])
    | ((with_reducible refine quiet_load 84 _ nb (u32s a b c d e) ?_ hrn.out Try.underlying84 ?_ hi2.out ?_ ?_); (· rfl); (· rfl); (· rfl); simp only [Act.put, List.setIfInBounds_toArray, List.set_cons_zero, List.set_cons_succ])
    | go_big_quiet_step (exact cl.out _ _))
  refine wpQuiet_nil ?_
  intro _ hw'
  obtain ⟨⟨dq, osq⟩, hw''⟩ := hw'
  subst hw''
  have hR5 := Lib.hid (hR.out.below (below_regrown w4 dq osq) hR.out.lt)
  have hS5 := Lib.hid (hS.out.below (below_regrown w4 dq osq) hS.out.lt)
  have hB5 := Lib.hid (grew hB (below_regrown w4 dq osq))
  clear g0 hrn hrt hi1 cl heq hR hS hB
  generalize grow (redrawn w4 dq) osq = w5 at *
  go_wp2_with (with_reducible refine zStore 43 _ _ rfl ?_)
  refine Lib.hid ?_
  refine wpList_store_mid rfl 43 _ _ rfl w.heap.size 0 (u32s 0 0 0 0 0).toArray rfl rfl (hR5.out.there 0 5 (by simp)) sizeS5 (all_oneCell_toArray (u32s_one 0 0 0 0 0)) ?_
  go_wp2_with fail
  have hfin := whole_all hR5.out (vs := u32s 0 0 0 0 0) rfl
  exact bodyPost_ret (result_cell_tmp Try.results17 rfl rfl hfin.range Try.underlying43 rfl sizeS5) rfl ⟨rfl, below_store hB5.out (Nat.le_refl _) (Nat.le_refl _) 0 _⟩
set_option maxHeartbeats 1000000 in
theorem suDecode_shut (s : ByteArray) (w : World) (hs : s.size ≤ 1000000) (ho : ¬ opensS s) :
    Calls Try.prog 17 #[.string s] w fun x w' => x = .returned (.tuple #[.agg #[.int .u32 0, .int .u32 0, .int .u32 0, .int .u32 0, .int .u32 0], .int .i64 4]) ∧ Below w.heap.size w w' := by
  have hop := Lib.hid (fun W => open_no s W hs ho)
  go_enter Try.func17, Try.ntmps17
  go_wp2_with fail
  have hR := Whole.new w 43 (u32s 0 0 0 0 0)
  have hB := (Below.refl w.heap.size w).alloc (Nat.le_refl _) (.cells (u32s 0 0 0 0 0).toArray 43)
  refine (hop.out _).mono ?_
  rintro ee w1 ⟨rfl, hb1⟩
  have hR5 := Lib.hid (hR.below hb1 hR.lt)
  have hB5 := Lib.hid (grew hB hb1)
  clear hb1 hR hB
  go_wp2_with (with_reducible refine zStore 43 _ _ rfl ?_)
  refine Lib.hid ?_
  refine wpList_store_mid rfl 43 _ _ rfl w.heap.size 0 (u32s 0 0 0 0 0).toArray rfl rfl (hR5.out.there 0 5 (by simp)) sizeS5 (all_oneCell_toArray (u32s_one 0 0 0 0 0)) ?_
  go_wp2_with fail
  have hfin := whole_all hR5.out (vs := u32s 0 0 0 0 0) rfl
  exact bodyPost_ret (result_cell_tmp Try.results17 rfl rfl hfin.range Try.underlying43 rfl sizeS5) rfl ⟨rfl, below_store hB5.out (Nat.le_refl _) (Nat.le_refl _) 0 _⟩
/-- What Decode tells. -/
theorem suDecode_yes (s : ByteArray) (w : World) (h : isU s) :
    Calls Try.prog 17 #[.string s] w fun x w' => x = .returned (.tuple #[.agg #[.int .u32 (numU (s.extract 6 58) 0 : Nat), .int .u32 (numU (s.extract 6 58) 1 : Nat), .int .u32 (numU (s.extract 6 58) 2 : Nat), .int .u32 (numU (s.extract 6 58) 3 : Nat), .int .u32 (numU (s.extract 6 58) 4 : Nat)], .int .i64 0]) ∧ Below w.heap.size w w' := by
  have ho := (isU_opens s h).1
  obtain ⟨h1, h2, h3⟩ := (isU_iff s ho).1 h
  exact suDecode_is s _ w ho rfl h1 h2 h3
theorem suDecode_no (s : ByteArray) (w : World) (hs : s.size ≤ 1000000) (h : ¬ isU s) :
    Calls Try.prog 17 #[.string s] w fun x w' => x = .returned (.tuple #[.agg #[.int .u32 0, .int .u32 0, .int .u32 0, .int .u32 0, .int .u32 0], .int .i64 4]) ∧ Below w.heap.size w w' := by
  by_cases ho : opensS s
  · rw [isU_iff s ho] at h
    by_cases h1 : (s.extract 6 58).data.toList = dataU (numU (s.extract 6 58) 0) (numU (s.extract 6 58) 1) (numU (s.extract 6 58) 2) (numU (s.extract 6 58) 3) (numU (s.extract 6 58) 4)
    · by_cases h2 : stampS s = numU (s.extract 6 58) 0
      · exact suDecode_count s _ w ho rfl h1 h2 (fun h3 => h ⟨h1, h2, h3⟩)
      · exact suDecode_stamp s _ w ho rfl h1 h2
    · exact suDecode_data s _ w ho rfl h1
  · exact suDecode_shut s w hs ho
end Go.Proofs.Ytkmlmondhmpkkaa.W
end
section
namespace Go.Proofs.Ytkmlmondhmpkkaa.W
open Go.RowKit
open Go.Proofs.Ytkmlmondhmpkkaa.M Go.Proofs.Ytkmlmondhmpkkaa.D Go.Proofs.Ytkmlmondhmpkkaa.Z
set_option linter.unusedVariables false

theorem index2a (a b : ByteArray) (w : World) : (Instr.index 91 (.agg #[.string a, .string b]) (.int .i64 0)).run Try.prog w = .ok (.string a) w := by
  simp [Instr.index, run_underlying Try.underlying91, asIntOf, go_sem]
theorem index2b (a b : ByteArray) (w : World) : (Instr.index 91 (.agg #[.string a, .string b]) (.int .i64 1)).run Try.prog w = .ok (.string b) w := by
  simp [Instr.index, run_underlying Try.underlying91, asIntOf, go_sem]
set_option maxRecDepth 100000 in
set_option maxHeartbeats 2000000 in
theorem pick_RRg (a b : ByteArray) {a0 a1 a2 a3 a4 b0 b1 b2 b3 b4 : Nat} (w : World) (hda : ∀ W : World, Calls Try.prog 17 #[.string a] W fun x w' => x = .returned (.tuple #[.agg #[.int .u32 a0, .int .u32 a1, .int .u32 a2, .int .u32 a3, .int .u32 a4], .int .i64 0]) ∧ Below W.heap.size W w') (hdb : ∀ W : World, Calls Try.prog 17 #[.string b] W fun x w' => x = .returned (.tuple #[.agg #[.int .u32 b0, .int .u32 b1, .int .u32 b2, .int .u32 b3, .int .u32 b4], .int .i64 0]) ∧ Below W.heap.size W w') (ha0 : a0 < 4294967296) (pa : ((a0 : Int) % 2 != 0) = false) (hb0 : b0 < 4294967296) (pb : ((b0 : Int) % 2 != 1) = false) (hg : decide (a0 < b0) = false) :
    Calls Try.prog 23 #[.string a, .string b] w fun x w' => x = .returned (.tuple #[.agg (u32s a0 a1 a2 a3 a4).toArray, .int .i64 0]) ∧ Below w.heap.size w w' := by
  replace hda := Lib.hid hda
  replace hdb := Lib.hid hdb
  have ix0 := index2a a b
  have ix1 := index2b a b
  replace pa := Lib.hid pa
  replace pb := Lib.hid pb
  replace hg := Lib.hid hg
  go_enter Try.func23, Try.ntmps23
  go_wp2_with fail
  have hR0 := (Whole.new w 43 (u32s 0 0 0 0 0)).alloc (.cells (u32s 0 0 0 0 0).toArray 43)
  have hP0 := Whole.new (w.alloc (.cells (u32s 0 0 0 0 0).toArray 43)) 43 (u32s 0 0 0 0 0)
  rw [show (w.alloc (.cells (u32s 0 0 0 0 0).toArray 43)).heap.size = w.heap.size + 1 from by simp] at hP0
  have hB0 := grewAlloc (grewAlloc (Below.refl _ w) (.cells (u32s 0 0 0 0 0).toArray 43)) (.cells (u32s 0 0 0 0 0).toArray 43)
  replace hR0 := Lib.hid hR0
  replace hP0 := Lib.hid hP0
  replace hB0 := Lib.hid hB0
  go_loopg [7, 16] 2 (fun ga x i wr => (2 ≤ ga ∧ i = .int .i64 0 ∧ x = .int .i64 22 ∧ Hid (Whole wr (w.heap.size + 1) 43 (u32s 0 0 0 0 0) ∧ Whole wr w.heap.size 43 (u32s 0 0 0 0 0) ∧ Below w.heap.size w wr)) ∨ (1 ≤ ga ∧ i = .int .i64 1 ∧ x = .int .i64 0 ∧ Hid (Whole wr (w.heap.size + 1) 43 (u32s a0 a1 a2 a3 a4) ∧ Whole wr w.heap.size 43 (u32s 0 0 0 0 0) ∧ Below w.heap.size w wr)) ∨ (i = .int .i64 2 ∧ x = .int .i64 0 ∧ Hid (Whole wr (w.heap.size + 1) 43 (u32s a0 a1 a2 a3 a4) ∧ Whole wr w.heap.size 43 (u32s 0 0 0 0 0) ∧ Below w.heap.size w wr)))
  case atStart => exact .inl ⟨by omega, rfl, rfl, Lib.hid ⟨hP0.out, hR0.out, hB0.out⟩⟩
  case round =>
    clear hR0 hP0 hB0
    rcases hrel with ⟨hg2, rfl, rfl, hrow⟩ | ⟨hg1, rfl, rfl, hrow⟩ | ⟨rfl, rfl, hrow⟩
    · skip
      go_wp2_with fail
      refine (hda.out _).mono ?_
      rintro ee w1 ⟨rfl, hb1⟩
      have hP1 := (hrow.out.1.below hb1 hrow.out.1.lt).alloc (.cells (u32s a0 a1 a2 a3 a4).toArray 43)
      have hR1 := (hrow.out.2.1.below hb1 hrow.out.2.1.lt).alloc (.cells (u32s a0 a1 a2 a3 a4).toArray 43)
      have hB1 := grewAlloc (grew hrow.out.2.2 hb1) (.cells (u32s a0 a1 a2 a3 a4).toArray 43)
      have hD1 := Whole.new w1 43 (u32s a0 a1 a2 a3 a4)
      clear hrow hb1
      go_wp2_with fail
      refine (place_any (a0 : Nat) a1 a2 a3 a4 _ (by omega) (by omega)).mono ?_
      rintro ee w2 ⟨rfl, hb2⟩
      replace hP1 := hP1.below hb2 hP1.lt
      replace hR1 := hR1.below hb2 hR1.lt
      replace hB1 := grew hB1 hb2
      replace hD1 := hD1.below hb2 hD1.lt
      clear hb2
      generalize w1.heap.size = db at *
      have px := pa.out
      have q0 : w2.cell? ⟨db, 0, none⟩ = some (.int .u32 a0) := hD1.cell 0
      have q1 := hP1.cell 0
      simp only [List.getElem?_cons_zero] at q1
      replace hP1 := Lib.hid hP1
      replace hR1 := Lib.hid hR1
      replace hB1 := Lib.hid hB1
      go_wp2_with (with_reducible refine zLoad 43 _ rfl ?_)
      refine Lib.hid ?_
      refine wpList_load_mid rfl 43 _ rfl db 0 rfl (u32s a0 a1 a2 a3 a4) _ hD1.range Try.underlying43 rfl sizeS5 ?_
      go_wp2_with (with_reducible refine zStore 43 _ _ rfl ?_)
      refine Lib.hid ?_
      refine wpList_store_mid rfl 43 _ _ rfl (w.heap.size + 1) 0 (u32s a0 a1 a2 a3 a4).toArray rfl rfl (hP1.out.there 0 5 (by simp)) sizeS5 (all_oneCell_toArray (u32s_one _ _ _ _ _)) ?_
      have hP2 := Lib.hid (whole_all hP1.out (vs := u32s a0 a1 a2 a3 a4) rfl)
      have hR2 := Lib.hid (hR1.out.far (c := w.heap.size + 1) (by omega) 0 (u32s a0 a1 a2 a3 a4))
      have hB2 := Lib.hid (below_store hB1.out (c := w.heap.size + 1) (by omega) (Nat.le_refl _) 0 (u32s a0 a1 a2 a3 a4))
      clear hP1 hR1 hB1 hD1 q0 q1
      rw [show ((u32s a0 a1 a2 a3 a4).toArray.toList) = u32s a0 a1 a2 a3 a4 from rfl]
      generalize World.setCells _ (w.heap.size + 1) 0 (u32s a0 a1 a2 a3 a4) = w3 at *
      go_wp2_with fail
      go_roundg (gk - 1)
      case measure => omega
      case rel => exact .inr (.inl ⟨by omega, by go_num, rfl, Lib.hid ⟨hP2.out, hR2.out, hB2.out⟩⟩)
    · skip
      go_wp2_with fail
      refine (hdb.out _).mono ?_
      rintro ee w1 ⟨rfl, hb1⟩
      have hP1 := (hrow.out.1.below hb1 hrow.out.1.lt).alloc (.cells (u32s b0 b1 b2 b3 b4).toArray 43)
      have hR1 := (hrow.out.2.1.below hb1 hrow.out.2.1.lt).alloc (.cells (u32s b0 b1 b2 b3 b4).toArray 43)
      have hB1 := grewAlloc (grew hrow.out.2.2 hb1) (.cells (u32s b0 b1 b2 b3 b4).toArray 43)
      have hD1 := Whole.new w1 43 (u32s b0 b1 b2 b3 b4)
      clear hrow hb1
      go_wp2_with fail
      refine (place_any (b0 : Nat) b1 b2 b3 b4 _ (by omega) (by omega)).mono ?_
      rintro ee w2 ⟨rfl, hb2⟩
      replace hP1 := hP1.below hb2 hP1.lt
      replace hR1 := hR1.below hb2 hR1.lt
      replace hB1 := grew hB1 hb2
      replace hD1 := hD1.below hb2 hD1.lt
      clear hb2
      generalize w1.heap.size = db at *
      have px := pb.out
      have hgg := hg.out
      have q0 : w2.cell? ⟨db, 0, none⟩ = some (.int .u32 b0) := hD1.cell 0
      have q1 := hP1.cell 0
      simp only [List.getElem?_cons_zero] at q1
      have hP2 := Lib.hid hP1
      have hR2 := Lib.hid hR1
      have hB2 := Lib.hid hB1
      clear hP1 hR1 hB1 hD1
      go_wp2_with fail
      go_roundg (gk - 1)
      case measure => omega
      case rel => exact .inr (.inr ⟨by go_num, rfl, Lib.hid ⟨hP2.out, hR2.out, hB2.out⟩⟩)
    · go_wp2_with (with_reducible refine zLoad 43 _ rfl ?_)
      refine Lib.hid ?_
      refine wpList_load_mid rfl 43 _ rfl (w.heap.size + 1) 0 rfl (u32s a0 a1 a2 a3 a4) _ hrow.out.1.range Try.underlying43 rfl sizeS5 ?_
      go_wp2_with (with_reducible refine zStore 43 _ _ rfl ?_)
      refine Lib.hid ?_
      refine wpList_store_mid rfl 43 _ _ rfl w.heap.size 0 (u32s a0 a1 a2 a3 a4).toArray rfl rfl (hrow.out.2.1.there 0 5 (by simp)) sizeS5 (all_oneCell_toArray (u32s_one _ _ _ _ _)) ?_
      go_wp2_with fail
      have hfin := whole_all hrow.out.2.1 (vs := u32s a0 a1 a2 a3 a4) rfl
      exact bodyPost_ret (result_cell_tmp Try.results23 rfl rfl hfin.range Try.underlying43 rfl sizeS5) rfl ⟨rfl, below_store hrow.out.2.2 (Nat.le_refl _) (Nat.le_refl _) 0 _⟩
set_option maxRecDepth 100000 in
set_option maxHeartbeats 2000000 in
theorem pick_RRl (a b : ByteArray) {a0 a1 a2 a3 a4 b0 b1 b2 b3 b4 : Nat} (w : World) (hda : ∀ W : World, Calls Try.prog 17 #[.string a] W fun x w' => x = .returned (.tuple #[.agg #[.int .u32 a0, .int .u32 a1, .int .u32 a2, .int .u32 a3, .int .u32 a4], .int .i64 0]) ∧ Below W.heap.size W w') (hdb : ∀ W : World, Calls Try.prog 17 #[.string b] W fun x w' => x = .returned (.tuple #[.agg #[.int .u32 b0, .int .u32 b1, .int .u32 b2, .int .u32 b3, .int .u32 b4], .int .i64 0]) ∧ Below W.heap.size W w') (ha0 : a0 < 4294967296) (pa : ((a0 : Int) % 2 != 0) = false) (hb0 : b0 < 4294967296) (pb : ((b0 : Int) % 2 != 1) = false) (hg : decide (a0 < b0) = true) :
    Calls Try.prog 23 #[.string a, .string b] w fun x w' => x = .returned (.tuple #[.agg (u32s b0 b1 b2 b3 b4).toArray, .int .i64 0]) ∧ Below w.heap.size w w' := by
  replace hda := Lib.hid hda
  replace hdb := Lib.hid hdb
  have ix0 := index2a a b
  have ix1 := index2b a b
  replace pa := Lib.hid pa
  replace pb := Lib.hid pb
  replace hg := Lib.hid hg
  go_enter Try.func23, Try.ntmps23
  go_wp2_with fail
  have hR0 := (Whole.new w 43 (u32s 0 0 0 0 0)).alloc (.cells (u32s 0 0 0 0 0).toArray 43)
  have hP0 := Whole.new (w.alloc (.cells (u32s 0 0 0 0 0).toArray 43)) 43 (u32s 0 0 0 0 0)
  rw [show (w.alloc (.cells (u32s 0 0 0 0 0).toArray 43)).heap.size = w.heap.size + 1 from by simp] at hP0
  have hB0 := grewAlloc (grewAlloc (Below.refl _ w) (.cells (u32s 0 0 0 0 0).toArray 43)) (.cells (u32s 0 0 0 0 0).toArray 43)
  replace hR0 := Lib.hid hR0
  replace hP0 := Lib.hid hP0
  replace hB0 := Lib.hid hB0
  go_loopg [7, 16] 2 (fun ga x i wr => (2 ≤ ga ∧ i = .int .i64 0 ∧ x = .int .i64 22 ∧ Hid (Whole wr (w.heap.size + 1) 43 (u32s 0 0 0 0 0) ∧ Whole wr w.heap.size 43 (u32s 0 0 0 0 0) ∧ Below w.heap.size w wr)) ∨ (1 ≤ ga ∧ i = .int .i64 1 ∧ x = .int .i64 0 ∧ Hid (Whole wr (w.heap.size + 1) 43 (u32s a0 a1 a2 a3 a4) ∧ Whole wr w.heap.size 43 (u32s 0 0 0 0 0) ∧ Below w.heap.size w wr)) ∨ (i = .int .i64 2 ∧ x = .int .i64 0 ∧ Hid (Whole wr (w.heap.size + 1) 43 (u32s b0 b1 b2 b3 b4) ∧ Whole wr w.heap.size 43 (u32s 0 0 0 0 0) ∧ Below w.heap.size w wr)))
  case atStart => exact .inl ⟨by omega, rfl, rfl, Lib.hid ⟨hP0.out, hR0.out, hB0.out⟩⟩
  case round =>
    clear hR0 hP0 hB0
    rcases hrel with ⟨hg2, rfl, rfl, hrow⟩ | ⟨hg1, rfl, rfl, hrow⟩ | ⟨rfl, rfl, hrow⟩
    · skip
      go_wp2_with fail
      refine (hda.out _).mono ?_
      rintro ee w1 ⟨rfl, hb1⟩
      have hP1 := (hrow.out.1.below hb1 hrow.out.1.lt).alloc (.cells (u32s a0 a1 a2 a3 a4).toArray 43)
      have hR1 := (hrow.out.2.1.below hb1 hrow.out.2.1.lt).alloc (.cells (u32s a0 a1 a2 a3 a4).toArray 43)
      have hB1 := grewAlloc (grew hrow.out.2.2 hb1) (.cells (u32s a0 a1 a2 a3 a4).toArray 43)
      have hD1 := Whole.new w1 43 (u32s a0 a1 a2 a3 a4)
      clear hrow hb1
      go_wp2_with fail
      refine (place_any (a0 : Nat) a1 a2 a3 a4 _ (by omega) (by omega)).mono ?_
      rintro ee w2 ⟨rfl, hb2⟩
      replace hP1 := hP1.below hb2 hP1.lt
      replace hR1 := hR1.below hb2 hR1.lt
      replace hB1 := grew hB1 hb2
      replace hD1 := hD1.below hb2 hD1.lt
      clear hb2
      generalize w1.heap.size = db at *
      have px := pa.out
      have q0 : w2.cell? ⟨db, 0, none⟩ = some (.int .u32 a0) := hD1.cell 0
      have q1 := hP1.cell 0
      simp only [List.getElem?_cons_zero] at q1
      replace hP1 := Lib.hid hP1
      replace hR1 := Lib.hid hR1
      replace hB1 := Lib.hid hB1
      go_wp2_with (with_reducible refine zLoad 43 _ rfl ?_)
      refine Lib.hid ?_
      refine wpList_load_mid rfl 43 _ rfl db 0 rfl (u32s a0 a1 a2 a3 a4) _ hD1.range Try.underlying43 rfl sizeS5 ?_
      go_wp2_with (with_reducible refine zStore 43 _ _ rfl ?_)
      refine Lib.hid ?_
      refine wpList_store_mid rfl 43 _ _ rfl (w.heap.size + 1) 0 (u32s a0 a1 a2 a3 a4).toArray rfl rfl (hP1.out.there 0 5 (by simp)) sizeS5 (all_oneCell_toArray (u32s_one _ _ _ _ _)) ?_
      have hP2 := Lib.hid (whole_all hP1.out (vs := u32s a0 a1 a2 a3 a4) rfl)
      have hR2 := Lib.hid (hR1.out.far (c := w.heap.size + 1) (by omega) 0 (u32s a0 a1 a2 a3 a4))
      have hB2 := Lib.hid (below_store hB1.out (c := w.heap.size + 1) (by omega) (Nat.le_refl _) 0 (u32s a0 a1 a2 a3 a4))
      clear hP1 hR1 hB1 hD1 q0 q1
      rw [show ((u32s a0 a1 a2 a3 a4).toArray.toList) = u32s a0 a1 a2 a3 a4 from rfl]
      generalize World.setCells _ (w.heap.size + 1) 0 (u32s a0 a1 a2 a3 a4) = w3 at *
      go_wp2_with fail
      go_roundg (gk - 1)
      case measure => omega
      case rel => exact .inr (.inl ⟨by omega, by go_num, rfl, Lib.hid ⟨hP2.out, hR2.out, hB2.out⟩⟩)
    · skip
      go_wp2_with fail
      refine (hdb.out _).mono ?_
      rintro ee w1 ⟨rfl, hb1⟩
      have hP1 := (hrow.out.1.below hb1 hrow.out.1.lt).alloc (.cells (u32s b0 b1 b2 b3 b4).toArray 43)
      have hR1 := (hrow.out.2.1.below hb1 hrow.out.2.1.lt).alloc (.cells (u32s b0 b1 b2 b3 b4).toArray 43)
      have hB1 := grewAlloc (grew hrow.out.2.2 hb1) (.cells (u32s b0 b1 b2 b3 b4).toArray 43)
      have hD1 := Whole.new w1 43 (u32s b0 b1 b2 b3 b4)
      clear hrow hb1
      go_wp2_with fail
      refine (place_any (b0 : Nat) b1 b2 b3 b4 _ (by omega) (by omega)).mono ?_
      rintro ee w2 ⟨rfl, hb2⟩
      replace hP1 := hP1.below hb2 hP1.lt
      replace hR1 := hR1.below hb2 hR1.lt
      replace hB1 := grew hB1 hb2
      replace hD1 := hD1.below hb2 hD1.lt
      clear hb2
      generalize w1.heap.size = db at *
      have px := pb.out
      have hgg := hg.out
      have q0 : w2.cell? ⟨db, 0, none⟩ = some (.int .u32 b0) := hD1.cell 0
      have q1 := hP1.cell 0
      simp only [List.getElem?_cons_zero] at q1
      replace hP1 := Lib.hid hP1
      replace hR1 := Lib.hid hR1
      replace hB1 := Lib.hid hB1
      go_wp2_with (with_reducible refine zLoad 43 _ rfl ?_)
      refine Lib.hid ?_
      refine wpList_load_mid rfl 43 _ rfl db 0 rfl (u32s b0 b1 b2 b3 b4) _ hD1.range Try.underlying43 rfl sizeS5 ?_
      go_wp2_with (with_reducible refine zStore 43 _ _ rfl ?_)
      refine Lib.hid ?_
      refine wpList_store_mid rfl 43 _ _ rfl (w.heap.size + 1) 0 (u32s b0 b1 b2 b3 b4).toArray rfl rfl (hP1.out.there 0 5 (by simp)) sizeS5 (all_oneCell_toArray (u32s_one _ _ _ _ _)) ?_
      have hP2 := Lib.hid (whole_all hP1.out (vs := u32s b0 b1 b2 b3 b4) rfl)
      have hR2 := Lib.hid (hR1.out.far (c := w.heap.size + 1) (by omega) 0 (u32s b0 b1 b2 b3 b4))
      have hB2 := Lib.hid (below_store hB1.out (c := w.heap.size + 1) (by omega) (Nat.le_refl _) 0 (u32s b0 b1 b2 b3 b4))
      clear hP1 hR1 hB1 hD1 q0 q1
      rw [show ((u32s b0 b1 b2 b3 b4).toArray.toList) = u32s b0 b1 b2 b3 b4 from rfl]
      generalize World.setCells _ (w.heap.size + 1) 0 (u32s b0 b1 b2 b3 b4) = w3 at *
      go_wp2_with fail
      go_roundg (gk - 1)
      case measure => omega
      case rel => exact .inr (.inr ⟨by go_num, rfl, Lib.hid ⟨hP2.out, hR2.out, hB2.out⟩⟩)
    · go_wp2_with (with_reducible refine zLoad 43 _ rfl ?_)
      refine Lib.hid ?_
      refine wpList_load_mid rfl 43 _ rfl (w.heap.size + 1) 0 rfl (u32s b0 b1 b2 b3 b4) _ hrow.out.1.range Try.underlying43 rfl sizeS5 ?_
      go_wp2_with (with_reducible refine zStore 43 _ _ rfl ?_)
      refine Lib.hid ?_
      refine wpList_store_mid rfl 43 _ _ rfl w.heap.size 0 (u32s b0 b1 b2 b3 b4).toArray rfl rfl (hrow.out.2.1.there 0 5 (by simp)) sizeS5 (all_oneCell_toArray (u32s_one _ _ _ _ _)) ?_
      go_wp2_with fail
      have hfin := whole_all hrow.out.2.1 (vs := u32s b0 b1 b2 b3 b4) rfl
      exact bodyPost_ret (result_cell_tmp Try.results23 rfl rfl hfin.range Try.underlying43 rfl sizeS5) rfl ⟨rfl, below_store hrow.out.2.2 (Nat.le_refl _) (Nat.le_refl _) 0 _⟩
set_option maxRecDepth 100000 in
set_option maxHeartbeats 2000000 in
theorem pick_RN (a b : ByteArray) {a0 a1 a2 a3 a4 : Nat} (w : World) (hda : ∀ W : World, Calls Try.prog 17 #[.string a] W fun x w' => x = .returned (.tuple #[.agg #[.int .u32 a0, .int .u32 a1, .int .u32 a2, .int .u32 a3, .int .u32 a4], .int .i64 0]) ∧ Below W.heap.size W w') (hdb : ∀ W : World, Calls Try.prog 17 #[.string b] W fun x w' => x = .returned (.tuple #[.agg #[.int .u32 0, .int .u32 0, .int .u32 0, .int .u32 0, .int .u32 0], .int .i64 4]) ∧ Below W.heap.size W w') (ha0 : a0 < 4294967296) (pa : ((a0 : Int) % 2 != 0) = false) :
    Calls Try.prog 23 #[.string a, .string b] w fun x w' => x = .returned (.tuple #[.agg (u32s a0 a1 a2 a3 a4).toArray, .int .i64 0]) ∧ Below w.heap.size w w' := by
  replace hda := Lib.hid hda
  replace hdb := Lib.hid hdb
  have ix0 := index2a a b
  have ix1 := index2b a b
  replace pa := Lib.hid pa
  go_enter Try.func23, Try.ntmps23
  go_wp2_with fail
  have hR0 := (Whole.new w 43 (u32s 0 0 0 0 0)).alloc (.cells (u32s 0 0 0 0 0).toArray 43)
  have hP0 := Whole.new (w.alloc (.cells (u32s 0 0 0 0 0).toArray 43)) 43 (u32s 0 0 0 0 0)
  rw [show (w.alloc (.cells (u32s 0 0 0 0 0).toArray 43)).heap.size = w.heap.size + 1 from by simp] at hP0
  have hB0 := grewAlloc (grewAlloc (Below.refl _ w) (.cells (u32s 0 0 0 0 0).toArray 43)) (.cells (u32s 0 0 0 0 0).toArray 43)
  replace hR0 := Lib.hid hR0
  replace hP0 := Lib.hid hP0
  replace hB0 := Lib.hid hB0
  go_loopg [7, 16] 2 (fun ga x i wr => (2 ≤ ga ∧ i = .int .i64 0 ∧ x = .int .i64 22 ∧ Hid (Whole wr (w.heap.size + 1) 43 (u32s 0 0 0 0 0) ∧ Whole wr w.heap.size 43 (u32s 0 0 0 0 0) ∧ Below w.heap.size w wr)) ∨ (1 ≤ ga ∧ i = .int .i64 1 ∧ x = .int .i64 0 ∧ Hid (Whole wr (w.heap.size + 1) 43 (u32s a0 a1 a2 a3 a4) ∧ Whole wr w.heap.size 43 (u32s 0 0 0 0 0) ∧ Below w.heap.size w wr)) ∨ (i = .int .i64 2 ∧ x = .int .i64 0 ∧ Hid (Whole wr (w.heap.size + 1) 43 (u32s a0 a1 a2 a3 a4) ∧ Whole wr w.heap.size 43 (u32s 0 0 0 0 0) ∧ Below w.heap.size w wr)))
  case atStart => exact .inl ⟨by omega, rfl, rfl, Lib.hid ⟨hP0.out, hR0.out, hB0.out⟩⟩
  case round =>
    clear hR0 hP0 hB0
    rcases hrel with ⟨hg2, rfl, rfl, hrow⟩ | ⟨hg1, rfl, rfl, hrow⟩ | ⟨rfl, rfl, hrow⟩
    · skip
      go_wp2_with fail
      refine (hda.out _).mono ?_
      rintro ee w1 ⟨rfl, hb1⟩
      have hP1 := (hrow.out.1.below hb1 hrow.out.1.lt).alloc (.cells (u32s a0 a1 a2 a3 a4).toArray 43)
      have hR1 := (hrow.out.2.1.below hb1 hrow.out.2.1.lt).alloc (.cells (u32s a0 a1 a2 a3 a4).toArray 43)
      have hB1 := grewAlloc (grew hrow.out.2.2 hb1) (.cells (u32s a0 a1 a2 a3 a4).toArray 43)
      have hD1 := Whole.new w1 43 (u32s a0 a1 a2 a3 a4)
      clear hrow hb1
      go_wp2_with fail
      refine (place_any (a0 : Nat) a1 a2 a3 a4 _ (by omega) (by omega)).mono ?_
      rintro ee w2 ⟨rfl, hb2⟩
      replace hP1 := hP1.below hb2 hP1.lt
      replace hR1 := hR1.below hb2 hR1.lt
      replace hB1 := grew hB1 hb2
      replace hD1 := hD1.below hb2 hD1.lt
      clear hb2
      generalize w1.heap.size = db at *
      have px := pa.out
      have q0 : w2.cell? ⟨db, 0, none⟩ = some (.int .u32 a0) := hD1.cell 0
      have q1 := hP1.cell 0
      simp only [List.getElem?_cons_zero] at q1
      replace hP1 := Lib.hid hP1
      replace hR1 := Lib.hid hR1
      replace hB1 := Lib.hid hB1
      go_wp2_with (with_reducible refine zLoad 43 _ rfl ?_)
      refine Lib.hid ?_
      refine wpList_load_mid rfl 43 _ rfl db 0 rfl (u32s a0 a1 a2 a3 a4) _ hD1.range Try.underlying43 rfl sizeS5 ?_
      go_wp2_with (with_reducible refine zStore 43 _ _ rfl ?_)
      refine Lib.hid ?_
      refine wpList_store_mid rfl 43 _ _ rfl (w.heap.size + 1) 0 (u32s a0 a1 a2 a3 a4).toArray rfl rfl (hP1.out.there 0 5 (by simp)) sizeS5 (all_oneCell_toArray (u32s_one _ _ _ _ _)) ?_
      have hP2 := Lib.hid (whole_all hP1.out (vs := u32s a0 a1 a2 a3 a4) rfl)
      have hR2 := Lib.hid (hR1.out.far (c := w.heap.size + 1) (by omega) 0 (u32s a0 a1 a2 a3 a4))
      have hB2 := Lib.hid (below_store hB1.out (c := w.heap.size + 1) (by omega) (Nat.le_refl _) 0 (u32s a0 a1 a2 a3 a4))
      clear hP1 hR1 hB1 hD1 q0 q1
      rw [show ((u32s a0 a1 a2 a3 a4).toArray.toList) = u32s a0 a1 a2 a3 a4 from rfl]
      generalize World.setCells _ (w.heap.size + 1) 0 (u32s a0 a1 a2 a3 a4) = w3 at *
      go_wp2_with fail
      go_roundg (gk - 1)
      case measure => omega
      case rel => exact .inr (.inl ⟨by omega, by go_num, rfl, Lib.hid ⟨hP2.out, hR2.out, hB2.out⟩⟩)
    · skip
      go_wp2_with fail
      refine (hdb.out _).mono ?_
      rintro ee w1 ⟨rfl, hb1⟩
      have hP1 := (hrow.out.1.below hb1 hrow.out.1.lt).alloc (.cells (u32s 0 0 0 0 0).toArray 43)
      have hR1 := (hrow.out.2.1.below hb1 hrow.out.2.1.lt).alloc (.cells (u32s 0 0 0 0 0).toArray 43)
      have hB1 := grewAlloc (grew hrow.out.2.2 hb1) (.cells (u32s 0 0 0 0 0).toArray 43)
      have hD1 := Whole.new w1 43 (u32s 0 0 0 0 0)
      clear hrow hb1
      have hP2 := Lib.hid hP1
      have hR2 := Lib.hid hR1
      have hB2 := Lib.hid hB1
      clear hP1 hR1 hB1 hD1
      go_wp2_with fail
      go_roundg (gk - 1)
      case measure => omega
      case rel => exact .inr (.inr ⟨by go_num, rfl, Lib.hid ⟨hP2.out, hR2.out, hB2.out⟩⟩)
    · go_wp2_with (with_reducible refine zLoad 43 _ rfl ?_)
      refine Lib.hid ?_
      refine wpList_load_mid rfl 43 _ rfl (w.heap.size + 1) 0 rfl (u32s a0 a1 a2 a3 a4) _ hrow.out.1.range Try.underlying43 rfl sizeS5 ?_
      go_wp2_with (with_reducible refine zStore 43 _ _ rfl ?_)
      refine Lib.hid ?_
      refine wpList_store_mid rfl 43 _ _ rfl w.heap.size 0 (u32s a0 a1 a2 a3 a4).toArray rfl rfl (hrow.out.2.1.there 0 5 (by simp)) sizeS5 (all_oneCell_toArray (u32s_one _ _ _ _ _)) ?_
      go_wp2_with fail
      have hfin := whole_all hrow.out.2.1 (vs := u32s a0 a1 a2 a3 a4) rfl
      exact bodyPost_ret (result_cell_tmp Try.results23 rfl rfl hfin.range Try.underlying43 rfl sizeS5) rfl ⟨rfl, below_store hrow.out.2.2 (Nat.le_refl _) (Nat.le_refl _) 0 _⟩
set_option maxRecDepth 100000 in
set_option maxHeartbeats 2000000 in
theorem pick_RW (a b : ByteArray) {a0 a1 a2 a3 a4 b0 b1 b2 b3 b4 : Nat} (w : World) (hda : ∀ W : World, Calls Try.prog 17 #[.string a] W fun x w' => x = .returned (.tuple #[.agg #[.int .u32 a0, .int .u32 a1, .int .u32 a2, .int .u32 a3, .int .u32 a4], .int .i64 0]) ∧ Below W.heap.size W w') (hdb : ∀ W : World, Calls Try.prog 17 #[.string b] W fun x w' => x = .returned (.tuple #[.agg #[.int .u32 b0, .int .u32 b1, .int .u32 b2, .int .u32 b3, .int .u32 b4], .int .i64 0]) ∧ Below W.heap.size W w') (ha0 : a0 < 4294967296) (pa : ((a0 : Int) % 2 != 0) = false) (hb0 : b0 < 4294967296) (pb : ((b0 : Int) % 2 != 1) = true) :
    Calls Try.prog 23 #[.string a, .string b] w fun x w' => x = .returned (.tuple #[.agg (u32s a0 a1 a2 a3 a4).toArray, .int .i64 0]) ∧ Below w.heap.size w w' := by
  replace hda := Lib.hid hda
  replace hdb := Lib.hid hdb
  have ix0 := index2a a b
  have ix1 := index2b a b
  replace pa := Lib.hid pa
  replace pb := Lib.hid pb
  go_enter Try.func23, Try.ntmps23
  go_wp2_with fail
  have hR0 := (Whole.new w 43 (u32s 0 0 0 0 0)).alloc (.cells (u32s 0 0 0 0 0).toArray 43)
  have hP0 := Whole.new (w.alloc (.cells (u32s 0 0 0 0 0).toArray 43)) 43 (u32s 0 0 0 0 0)
  rw [show (w.alloc (.cells (u32s 0 0 0 0 0).toArray 43)).heap.size = w.heap.size + 1 from by simp] at hP0
  have hB0 := grewAlloc (grewAlloc (Below.refl _ w) (.cells (u32s 0 0 0 0 0).toArray 43)) (.cells (u32s 0 0 0 0 0).toArray 43)
  replace hR0 := Lib.hid hR0
  replace hP0 := Lib.hid hP0
  replace hB0 := Lib.hid hB0
  go_loopg [7, 16] 2 (fun ga x i wr => (2 ≤ ga ∧ i = .int .i64 0 ∧ x = .int .i64 22 ∧ Hid (Whole wr (w.heap.size + 1) 43 (u32s 0 0 0 0 0) ∧ Whole wr w.heap.size 43 (u32s 0 0 0 0 0) ∧ Below w.heap.size w wr)) ∨ (1 ≤ ga ∧ i = .int .i64 1 ∧ x = .int .i64 0 ∧ Hid (Whole wr (w.heap.size + 1) 43 (u32s a0 a1 a2 a3 a4) ∧ Whole wr w.heap.size 43 (u32s 0 0 0 0 0) ∧ Below w.heap.size w wr)) ∨ (i = .int .i64 2 ∧ x = .int .i64 0 ∧ Hid (Whole wr (w.heap.size + 1) 43 (u32s a0 a1 a2 a3 a4) ∧ Whole wr w.heap.size 43 (u32s 0 0 0 0 0) ∧ Below w.heap.size w wr)))
  case atStart => exact .inl ⟨by omega, rfl, rfl, Lib.hid ⟨hP0.out, hR0.out, hB0.out⟩⟩
  case round =>
    clear hR0 hP0 hB0
    rcases hrel with ⟨hg2, rfl, rfl, hrow⟩ | ⟨hg1, rfl, rfl, hrow⟩ | ⟨rfl, rfl, hrow⟩
    · skip
      go_wp2_with fail
      refine (hda.out _).mono ?_
      rintro ee w1 ⟨rfl, hb1⟩
      have hP1 := (hrow.out.1.below hb1 hrow.out.1.lt).alloc (.cells (u32s a0 a1 a2 a3 a4).toArray 43)
      have hR1 := (hrow.out.2.1.below hb1 hrow.out.2.1.lt).alloc (.cells (u32s a0 a1 a2 a3 a4).toArray 43)
      have hB1 := grewAlloc (grew hrow.out.2.2 hb1) (.cells (u32s a0 a1 a2 a3 a4).toArray 43)
      have hD1 := Whole.new w1 43 (u32s a0 a1 a2 a3 a4)
      clear hrow hb1
      go_wp2_with fail
      refine (place_any (a0 : Nat) a1 a2 a3 a4 _ (by omega) (by omega)).mono ?_
      rintro ee w2 ⟨rfl, hb2⟩
      replace hP1 := hP1.below hb2 hP1.lt
      replace hR1 := hR1.below hb2 hR1.lt
      replace hB1 := grew hB1 hb2
      replace hD1 := hD1.below hb2 hD1.lt
      clear hb2
      generalize w1.heap.size = db at *
      have px := pa.out
      have q0 : w2.cell? ⟨db, 0, none⟩ = some (.int .u32 a0) := hD1.cell 0
      have q1 := hP1.cell 0
      simp only [List.getElem?_cons_zero] at q1
      replace hP1 := Lib.hid hP1
      replace hR1 := Lib.hid hR1
      replace hB1 := Lib.hid hB1
      go_wp2_with (with_reducible refine zLoad 43 _ rfl ?_)
      refine Lib.hid ?_
      refine wpList_load_mid rfl 43 _ rfl db 0 rfl (u32s a0 a1 a2 a3 a4) _ hD1.range Try.underlying43 rfl sizeS5 ?_
      go_wp2_with (with_reducible refine zStore 43 _ _ rfl ?_)
      refine Lib.hid ?_
      refine wpList_store_mid rfl 43 _ _ rfl (w.heap.size + 1) 0 (u32s a0 a1 a2 a3 a4).toArray rfl rfl (hP1.out.there 0 5 (by simp)) sizeS5 (all_oneCell_toArray (u32s_one _ _ _ _ _)) ?_
      have hP2 := Lib.hid (whole_all hP1.out (vs := u32s a0 a1 a2 a3 a4) rfl)
      have hR2 := Lib.hid (hR1.out.far (c := w.heap.size + 1) (by omega) 0 (u32s a0 a1 a2 a3 a4))
      have hB2 := Lib.hid (below_store hB1.out (c := w.heap.size + 1) (by omega) (Nat.le_refl _) 0 (u32s a0 a1 a2 a3 a4))
      clear hP1 hR1 hB1 hD1 q0 q1
      rw [show ((u32s a0 a1 a2 a3 a4).toArray.toList) = u32s a0 a1 a2 a3 a4 from rfl]
      generalize World.setCells _ (w.heap.size + 1) 0 (u32s a0 a1 a2 a3 a4) = w3 at *
      go_wp2_with fail
      go_roundg (gk - 1)
      case measure => omega
      case rel => exact .inr (.inl ⟨by omega, by go_num, rfl, Lib.hid ⟨hP2.out, hR2.out, hB2.out⟩⟩)
    · skip
      go_wp2_with fail
      refine (hdb.out _).mono ?_
      rintro ee w1 ⟨rfl, hb1⟩
      have hP1 := (hrow.out.1.below hb1 hrow.out.1.lt).alloc (.cells (u32s b0 b1 b2 b3 b4).toArray 43)
      have hR1 := (hrow.out.2.1.below hb1 hrow.out.2.1.lt).alloc (.cells (u32s b0 b1 b2 b3 b4).toArray 43)
      have hB1 := grewAlloc (grew hrow.out.2.2 hb1) (.cells (u32s b0 b1 b2 b3 b4).toArray 43)
      have hD1 := Whole.new w1 43 (u32s b0 b1 b2 b3 b4)
      clear hrow hb1
      go_wp2_with fail
      refine (place_any (b0 : Nat) b1 b2 b3 b4 _ (by omega) (by omega)).mono ?_
      rintro ee w2 ⟨rfl, hb2⟩
      replace hP1 := hP1.below hb2 hP1.lt
      replace hR1 := hR1.below hb2 hR1.lt
      replace hB1 := grew hB1 hb2
      replace hD1 := hD1.below hb2 hD1.lt
      clear hb2
      generalize w1.heap.size = db at *
      have px := pb.out
      have hP2 := Lib.hid hP1
      have hR2 := Lib.hid hR1
      have hB2 := Lib.hid hB1
      clear hP1 hR1 hB1 hD1
      go_wp2_with fail
      go_roundg (gk - 1)
      case measure => omega
      case rel => exact .inr (.inr ⟨by go_num, rfl, Lib.hid ⟨hP2.out, hR2.out, hB2.out⟩⟩)
    · go_wp2_with (with_reducible refine zLoad 43 _ rfl ?_)
      refine Lib.hid ?_
      refine wpList_load_mid rfl 43 _ rfl (w.heap.size + 1) 0 rfl (u32s a0 a1 a2 a3 a4) _ hrow.out.1.range Try.underlying43 rfl sizeS5 ?_
      go_wp2_with (with_reducible refine zStore 43 _ _ rfl ?_)
      refine Lib.hid ?_
      refine wpList_store_mid rfl 43 _ _ rfl w.heap.size 0 (u32s a0 a1 a2 a3 a4).toArray rfl rfl (hrow.out.2.1.there 0 5 (by simp)) sizeS5 (all_oneCell_toArray (u32s_one _ _ _ _ _)) ?_
      go_wp2_with fail
      have hfin := whole_all hrow.out.2.1 (vs := u32s a0 a1 a2 a3 a4) rfl
      exact bodyPost_ret (result_cell_tmp Try.results23 rfl rfl hfin.range Try.underlying43 rfl sizeS5) rfl ⟨rfl, below_store hrow.out.2.2 (Nat.le_refl _) (Nat.le_refl _) 0 _⟩
set_option maxRecDepth 100000 in
set_option maxHeartbeats 2000000 in
theorem pick_NR (a b : ByteArray) {b0 b1 b2 b3 b4 : Nat} (w : World) (hda : ∀ W : World, Calls Try.prog 17 #[.string a] W fun x w' => x = .returned (.tuple #[.agg #[.int .u32 0, .int .u32 0, .int .u32 0, .int .u32 0, .int .u32 0], .int .i64 4]) ∧ Below W.heap.size W w') (hdb : ∀ W : World, Calls Try.prog 17 #[.string b] W fun x w' => x = .returned (.tuple #[.agg #[.int .u32 b0, .int .u32 b1, .int .u32 b2, .int .u32 b3, .int .u32 b4], .int .i64 0]) ∧ Below W.heap.size W w') (hb0 : b0 < 4294967296) (pb : ((b0 : Int) % 2 != 1) = false) :
    Calls Try.prog 23 #[.string a, .string b] w fun x w' => x = .returned (.tuple #[.agg (u32s b0 b1 b2 b3 b4).toArray, .int .i64 0]) ∧ Below w.heap.size w w' := by
  replace hda := Lib.hid hda
  replace hdb := Lib.hid hdb
  have ix0 := index2a a b
  have ix1 := index2b a b
  replace pb := Lib.hid pb
  go_enter Try.func23, Try.ntmps23
  go_wp2_with fail
  have hR0 := (Whole.new w 43 (u32s 0 0 0 0 0)).alloc (.cells (u32s 0 0 0 0 0).toArray 43)
  have hP0 := Whole.new (w.alloc (.cells (u32s 0 0 0 0 0).toArray 43)) 43 (u32s 0 0 0 0 0)
  rw [show (w.alloc (.cells (u32s 0 0 0 0 0).toArray 43)).heap.size = w.heap.size + 1 from by simp] at hP0
  have hB0 := grewAlloc (grewAlloc (Below.refl _ w) (.cells (u32s 0 0 0 0 0).toArray 43)) (.cells (u32s 0 0 0 0 0).toArray 43)
  replace hR0 := Lib.hid hR0
  replace hP0 := Lib.hid hP0
  replace hB0 := Lib.hid hB0
  go_loopg [7, 16] 2 (fun ga x i wr => (2 ≤ ga ∧ i = .int .i64 0 ∧ x = .int .i64 22 ∧ Hid (Whole wr (w.heap.size + 1) 43 (u32s 0 0 0 0 0) ∧ Whole wr w.heap.size 43 (u32s 0 0 0 0 0) ∧ Below w.heap.size w wr)) ∨ (1 ≤ ga ∧ i = .int .i64 1 ∧ x = .int .i64 22 ∧ Hid (Whole wr (w.heap.size + 1) 43 (u32s 0 0 0 0 0) ∧ Whole wr w.heap.size 43 (u32s 0 0 0 0 0) ∧ Below w.heap.size w wr)) ∨ (i = .int .i64 2 ∧ x = .int .i64 0 ∧ Hid (Whole wr (w.heap.size + 1) 43 (u32s b0 b1 b2 b3 b4) ∧ Whole wr w.heap.size 43 (u32s 0 0 0 0 0) ∧ Below w.heap.size w wr)))
  case atStart => exact .inl ⟨by omega, rfl, rfl, Lib.hid ⟨hP0.out, hR0.out, hB0.out⟩⟩
  case round =>
    clear hR0 hP0 hB0
    rcases hrel with ⟨hg2, rfl, rfl, hrow⟩ | ⟨hg1, rfl, rfl, hrow⟩ | ⟨rfl, rfl, hrow⟩
    · skip
      go_wp2_with fail
      refine (hda.out _).mono ?_
      rintro ee w1 ⟨rfl, hb1⟩
      have hP1 := (hrow.out.1.below hb1 hrow.out.1.lt).alloc (.cells (u32s 0 0 0 0 0).toArray 43)
      have hR1 := (hrow.out.2.1.below hb1 hrow.out.2.1.lt).alloc (.cells (u32s 0 0 0 0 0).toArray 43)
      have hB1 := grewAlloc (grew hrow.out.2.2 hb1) (.cells (u32s 0 0 0 0 0).toArray 43)
      have hD1 := Whole.new w1 43 (u32s 0 0 0 0 0)
      clear hrow hb1
      have hP2 := Lib.hid hP1
      have hR2 := Lib.hid hR1
      have hB2 := Lib.hid hB1
      clear hP1 hR1 hB1 hD1
      go_wp2_with fail
      go_roundg (gk - 1)
      case measure => omega
      case rel => exact .inr (.inl ⟨by omega, by go_num, rfl, Lib.hid ⟨hP2.out, hR2.out, hB2.out⟩⟩)
    · skip
      go_wp2_with fail
      refine (hdb.out _).mono ?_
      rintro ee w1 ⟨rfl, hb1⟩
      have hP1 := (hrow.out.1.below hb1 hrow.out.1.lt).alloc (.cells (u32s b0 b1 b2 b3 b4).toArray 43)
      have hR1 := (hrow.out.2.1.below hb1 hrow.out.2.1.lt).alloc (.cells (u32s b0 b1 b2 b3 b4).toArray 43)
      have hB1 := grewAlloc (grew hrow.out.2.2 hb1) (.cells (u32s b0 b1 b2 b3 b4).toArray 43)
      have hD1 := Whole.new w1 43 (u32s b0 b1 b2 b3 b4)
      clear hrow hb1
      go_wp2_with fail
      refine (place_any (b0 : Nat) b1 b2 b3 b4 _ (by omega) (by omega)).mono ?_
      rintro ee w2 ⟨rfl, hb2⟩
      replace hP1 := hP1.below hb2 hP1.lt
      replace hR1 := hR1.below hb2 hR1.lt
      replace hB1 := grew hB1 hb2
      replace hD1 := hD1.below hb2 hD1.lt
      clear hb2
      generalize w1.heap.size = db at *
      have px := pb.out
      have q0 : w2.cell? ⟨db, 0, none⟩ = some (.int .u32 b0) := hD1.cell 0
      have q1 := hP1.cell 0
      simp only [List.getElem?_cons_zero] at q1
      replace hP1 := Lib.hid hP1
      replace hR1 := Lib.hid hR1
      replace hB1 := Lib.hid hB1
      go_wp2_with (with_reducible refine zLoad 43 _ rfl ?_)
      refine Lib.hid ?_
      refine wpList_load_mid rfl 43 _ rfl db 0 rfl (u32s b0 b1 b2 b3 b4) _ hD1.range Try.underlying43 rfl sizeS5 ?_
      go_wp2_with (with_reducible refine zStore 43 _ _ rfl ?_)
      refine Lib.hid ?_
      refine wpList_store_mid rfl 43 _ _ rfl (w.heap.size + 1) 0 (u32s b0 b1 b2 b3 b4).toArray rfl rfl (hP1.out.there 0 5 (by simp)) sizeS5 (all_oneCell_toArray (u32s_one _ _ _ _ _)) ?_
      have hP2 := Lib.hid (whole_all hP1.out (vs := u32s b0 b1 b2 b3 b4) rfl)
      have hR2 := Lib.hid (hR1.out.far (c := w.heap.size + 1) (by omega) 0 (u32s b0 b1 b2 b3 b4))
      have hB2 := Lib.hid (below_store hB1.out (c := w.heap.size + 1) (by omega) (Nat.le_refl _) 0 (u32s b0 b1 b2 b3 b4))
      clear hP1 hR1 hB1 hD1 q0 q1
      rw [show ((u32s b0 b1 b2 b3 b4).toArray.toList) = u32s b0 b1 b2 b3 b4 from rfl]
      generalize World.setCells _ (w.heap.size + 1) 0 (u32s b0 b1 b2 b3 b4) = w3 at *
      go_wp2_with fail
      go_roundg (gk - 1)
      case measure => omega
      case rel => exact .inr (.inr ⟨by go_num, rfl, Lib.hid ⟨hP2.out, hR2.out, hB2.out⟩⟩)
    · go_wp2_with (with_reducible refine zLoad 43 _ rfl ?_)
      refine Lib.hid ?_
      refine wpList_load_mid rfl 43 _ rfl (w.heap.size + 1) 0 rfl (u32s b0 b1 b2 b3 b4) _ hrow.out.1.range Try.underlying43 rfl sizeS5 ?_
      go_wp2_with (with_reducible refine zStore 43 _ _ rfl ?_)
      refine Lib.hid ?_
      refine wpList_store_mid rfl 43 _ _ rfl w.heap.size 0 (u32s b0 b1 b2 b3 b4).toArray rfl rfl (hrow.out.2.1.there 0 5 (by simp)) sizeS5 (all_oneCell_toArray (u32s_one _ _ _ _ _)) ?_
      go_wp2_with fail
      have hfin := whole_all hrow.out.2.1 (vs := u32s b0 b1 b2 b3 b4) rfl
      exact bodyPost_ret (result_cell_tmp Try.results23 rfl rfl hfin.range Try.underlying43 rfl sizeS5) rfl ⟨rfl, below_store hrow.out.2.2 (Nat.le_refl _) (Nat.le_refl _) 0 _⟩
set_option maxRecDepth 100000 in
set_option maxHeartbeats 2000000 in
theorem pick_WR (a b : ByteArray) {a0 a1 a2 a3 a4 b0 b1 b2 b3 b4 : Nat} (w : World) (hda : ∀ W : World, Calls Try.prog 17 #[.string a] W fun x w' => x = .returned (.tuple #[.agg #[.int .u32 a0, .int .u32 a1, .int .u32 a2, .int .u32 a3, .int .u32 a4], .int .i64 0]) ∧ Below W.heap.size W w') (hdb : ∀ W : World, Calls Try.prog 17 #[.string b] W fun x w' => x = .returned (.tuple #[.agg #[.int .u32 b0, .int .u32 b1, .int .u32 b2, .int .u32 b3, .int .u32 b4], .int .i64 0]) ∧ Below W.heap.size W w') (ha0 : a0 < 4294967296) (pa : ((a0 : Int) % 2 != 0) = true) (hb0 : b0 < 4294967296) (pb : ((b0 : Int) % 2 != 1) = false) :
    Calls Try.prog 23 #[.string a, .string b] w fun x w' => x = .returned (.tuple #[.agg (u32s b0 b1 b2 b3 b4).toArray, .int .i64 0]) ∧ Below w.heap.size w w' := by
  replace hda := Lib.hid hda
  replace hdb := Lib.hid hdb
  have ix0 := index2a a b
  have ix1 := index2b a b
  replace pa := Lib.hid pa
  replace pb := Lib.hid pb
  go_enter Try.func23, Try.ntmps23
  go_wp2_with fail
  have hR0 := (Whole.new w 43 (u32s 0 0 0 0 0)).alloc (.cells (u32s 0 0 0 0 0).toArray 43)
  have hP0 := Whole.new (w.alloc (.cells (u32s 0 0 0 0 0).toArray 43)) 43 (u32s 0 0 0 0 0)
  rw [show (w.alloc (.cells (u32s 0 0 0 0 0).toArray 43)).heap.size = w.heap.size + 1 from by simp] at hP0
  have hB0 := grewAlloc (grewAlloc (Below.refl _ w) (.cells (u32s 0 0 0 0 0).toArray 43)) (.cells (u32s 0 0 0 0 0).toArray 43)
  replace hR0 := Lib.hid hR0
  replace hP0 := Lib.hid hP0
  replace hB0 := Lib.hid hB0
  go_loopg [7, 16] 2 (fun ga x i wr => (2 ≤ ga ∧ i = .int .i64 0 ∧ x = .int .i64 22 ∧ Hid (Whole wr (w.heap.size + 1) 43 (u32s 0 0 0 0 0) ∧ Whole wr w.heap.size 43 (u32s 0 0 0 0 0) ∧ Below w.heap.size w wr)) ∨ (1 ≤ ga ∧ i = .int .i64 1 ∧ x = .int .i64 22 ∧ Hid (Whole wr (w.heap.size + 1) 43 (u32s 0 0 0 0 0) ∧ Whole wr w.heap.size 43 (u32s 0 0 0 0 0) ∧ Below w.heap.size w wr)) ∨ (i = .int .i64 2 ∧ x = .int .i64 0 ∧ Hid (Whole wr (w.heap.size + 1) 43 (u32s b0 b1 b2 b3 b4) ∧ Whole wr w.heap.size 43 (u32s 0 0 0 0 0) ∧ Below w.heap.size w wr)))
  case atStart => exact .inl ⟨by omega, rfl, rfl, Lib.hid ⟨hP0.out, hR0.out, hB0.out⟩⟩
  case round =>
    clear hR0 hP0 hB0
    rcases hrel with ⟨hg2, rfl, rfl, hrow⟩ | ⟨hg1, rfl, rfl, hrow⟩ | ⟨rfl, rfl, hrow⟩
    · skip
      go_wp2_with fail
      refine (hda.out _).mono ?_
      rintro ee w1 ⟨rfl, hb1⟩
      have hP1 := (hrow.out.1.below hb1 hrow.out.1.lt).alloc (.cells (u32s a0 a1 a2 a3 a4).toArray 43)
      have hR1 := (hrow.out.2.1.below hb1 hrow.out.2.1.lt).alloc (.cells (u32s a0 a1 a2 a3 a4).toArray 43)
      have hB1 := grewAlloc (grew hrow.out.2.2 hb1) (.cells (u32s a0 a1 a2 a3 a4).toArray 43)
      have hD1 := Whole.new w1 43 (u32s a0 a1 a2 a3 a4)
      clear hrow hb1
      go_wp2_with fail
      refine (place_any (a0 : Nat) a1 a2 a3 a4 _ (by omega) (by omega)).mono ?_
      rintro ee w2 ⟨rfl, hb2⟩
      replace hP1 := hP1.below hb2 hP1.lt
      replace hR1 := hR1.below hb2 hR1.lt
      replace hB1 := grew hB1 hb2
      replace hD1 := hD1.below hb2 hD1.lt
      clear hb2
      generalize w1.heap.size = db at *
      have px := pa.out
      have hP2 := Lib.hid hP1
      have hR2 := Lib.hid hR1
      have hB2 := Lib.hid hB1
      clear hP1 hR1 hB1 hD1
      go_wp2_with fail
      go_roundg (gk - 1)
      case measure => omega
      case rel => exact .inr (.inl ⟨by omega, by go_num, rfl, Lib.hid ⟨hP2.out, hR2.out, hB2.out⟩⟩)
    · skip
      go_wp2_with fail
      refine (hdb.out _).mono ?_
      rintro ee w1 ⟨rfl, hb1⟩
      have hP1 := (hrow.out.1.below hb1 hrow.out.1.lt).alloc (.cells (u32s b0 b1 b2 b3 b4).toArray 43)
      have hR1 := (hrow.out.2.1.below hb1 hrow.out.2.1.lt).alloc (.cells (u32s b0 b1 b2 b3 b4).toArray 43)
      have hB1 := grewAlloc (grew hrow.out.2.2 hb1) (.cells (u32s b0 b1 b2 b3 b4).toArray 43)
      have hD1 := Whole.new w1 43 (u32s b0 b1 b2 b3 b4)
      clear hrow hb1
      go_wp2_with fail
      refine (place_any (b0 : Nat) b1 b2 b3 b4 _ (by omega) (by omega)).mono ?_
      rintro ee w2 ⟨rfl, hb2⟩
      replace hP1 := hP1.below hb2 hP1.lt
      replace hR1 := hR1.below hb2 hR1.lt
      replace hB1 := grew hB1 hb2
      replace hD1 := hD1.below hb2 hD1.lt
      clear hb2
      generalize w1.heap.size = db at *
      have px := pb.out
      have q0 : w2.cell? ⟨db, 0, none⟩ = some (.int .u32 b0) := hD1.cell 0
      have q1 := hP1.cell 0
      simp only [List.getElem?_cons_zero] at q1
      replace hP1 := Lib.hid hP1
      replace hR1 := Lib.hid hR1
      replace hB1 := Lib.hid hB1
      go_wp2_with (with_reducible refine zLoad 43 _ rfl ?_)
      refine Lib.hid ?_
      refine wpList_load_mid rfl 43 _ rfl db 0 rfl (u32s b0 b1 b2 b3 b4) _ hD1.range Try.underlying43 rfl sizeS5 ?_
      go_wp2_with (with_reducible refine zStore 43 _ _ rfl ?_)
      refine Lib.hid ?_
      refine wpList_store_mid rfl 43 _ _ rfl (w.heap.size + 1) 0 (u32s b0 b1 b2 b3 b4).toArray rfl rfl (hP1.out.there 0 5 (by simp)) sizeS5 (all_oneCell_toArray (u32s_one _ _ _ _ _)) ?_
      have hP2 := Lib.hid (whole_all hP1.out (vs := u32s b0 b1 b2 b3 b4) rfl)
      have hR2 := Lib.hid (hR1.out.far (c := w.heap.size + 1) (by omega) 0 (u32s b0 b1 b2 b3 b4))
      have hB2 := Lib.hid (below_store hB1.out (c := w.heap.size + 1) (by omega) (Nat.le_refl _) 0 (u32s b0 b1 b2 b3 b4))
      clear hP1 hR1 hB1 hD1 q0 q1
      rw [show ((u32s b0 b1 b2 b3 b4).toArray.toList) = u32s b0 b1 b2 b3 b4 from rfl]
      generalize World.setCells _ (w.heap.size + 1) 0 (u32s b0 b1 b2 b3 b4) = w3 at *
      go_wp2_with fail
      go_roundg (gk - 1)
      case measure => omega
      case rel => exact .inr (.inr ⟨by go_num, rfl, Lib.hid ⟨hP2.out, hR2.out, hB2.out⟩⟩)
    · go_wp2_with (with_reducible refine zLoad 43 _ rfl ?_)
      refine Lib.hid ?_
      refine wpList_load_mid rfl 43 _ rfl (w.heap.size + 1) 0 rfl (u32s b0 b1 b2 b3 b4) _ hrow.out.1.range Try.underlying43 rfl sizeS5 ?_
      go_wp2_with (with_reducible refine zStore 43 _ _ rfl ?_)
      refine Lib.hid ?_
      refine wpList_store_mid rfl 43 _ _ rfl w.heap.size 0 (u32s b0 b1 b2 b3 b4).toArray rfl rfl (hrow.out.2.1.there 0 5 (by simp)) sizeS5 (all_oneCell_toArray (u32s_one _ _ _ _ _)) ?_
      go_wp2_with fail
      have hfin := whole_all hrow.out.2.1 (vs := u32s b0 b1 b2 b3 b4) rfl
      exact bodyPost_ret (result_cell_tmp Try.results23 rfl rfl hfin.range Try.underlying43 rfl sizeS5) rfl ⟨rfl, below_store hrow.out.2.2 (Nat.le_refl _) (Nat.le_refl _) 0 _⟩
set_option maxRecDepth 100000 in
set_option maxHeartbeats 2000000 in
theorem pick_NN (a b : ByteArray) (w : World) (hda : ∀ W : World, Calls Try.prog 17 #[.string a] W fun x w' => x = .returned (.tuple #[.agg #[.int .u32 0, .int .u32 0, .int .u32 0, .int .u32 0, .int .u32 0], .int .i64 4]) ∧ Below W.heap.size W w') (hdb : ∀ W : World, Calls Try.prog 17 #[.string b] W fun x w' => x = .returned (.tuple #[.agg #[.int .u32 0, .int .u32 0, .int .u32 0, .int .u32 0, .int .u32 0], .int .i64 4]) ∧ Below W.heap.size W w')  :
    Calls Try.prog 23 #[.string a, .string b] w fun x w' => x = .returned (.tuple #[.agg (u32s 0 0 0 0 0).toArray, .int .i64 22]) ∧ Below w.heap.size w w' := by
  replace hda := Lib.hid hda
  replace hdb := Lib.hid hdb
  have ix0 := index2a a b
  have ix1 := index2b a b
  go_enter Try.func23, Try.ntmps23
  go_wp2_with fail
  have hR0 := (Whole.new w 43 (u32s 0 0 0 0 0)).alloc (.cells (u32s 0 0 0 0 0).toArray 43)
  have hP0 := Whole.new (w.alloc (.cells (u32s 0 0 0 0 0).toArray 43)) 43 (u32s 0 0 0 0 0)
  rw [show (w.alloc (.cells (u32s 0 0 0 0 0).toArray 43)).heap.size = w.heap.size + 1 from by simp] at hP0
  have hB0 := grewAlloc (grewAlloc (Below.refl _ w) (.cells (u32s 0 0 0 0 0).toArray 43)) (.cells (u32s 0 0 0 0 0).toArray 43)
  replace hR0 := Lib.hid hR0
  replace hP0 := Lib.hid hP0
  replace hB0 := Lib.hid hB0
  go_loopg [7, 16] 2 (fun ga x i wr => (2 ≤ ga ∧ i = .int .i64 0 ∧ x = .int .i64 22 ∧ Hid (Whole wr (w.heap.size + 1) 43 (u32s 0 0 0 0 0) ∧ Whole wr w.heap.size 43 (u32s 0 0 0 0 0) ∧ Below w.heap.size w wr)) ∨ (1 ≤ ga ∧ i = .int .i64 1 ∧ x = .int .i64 22 ∧ Hid (Whole wr (w.heap.size + 1) 43 (u32s 0 0 0 0 0) ∧ Whole wr w.heap.size 43 (u32s 0 0 0 0 0) ∧ Below w.heap.size w wr)) ∨ (i = .int .i64 2 ∧ x = .int .i64 22 ∧ Hid (Whole wr (w.heap.size + 1) 43 (u32s 0 0 0 0 0) ∧ Whole wr w.heap.size 43 (u32s 0 0 0 0 0) ∧ Below w.heap.size w wr)))
  case atStart => exact .inl ⟨by omega, rfl, rfl, Lib.hid ⟨hP0.out, hR0.out, hB0.out⟩⟩
  case round =>
    clear hR0 hP0 hB0
    rcases hrel with ⟨hg2, rfl, rfl, hrow⟩ | ⟨hg1, rfl, rfl, hrow⟩ | ⟨rfl, rfl, hrow⟩
    · skip
      go_wp2_with fail
      refine (hda.out _).mono ?_
      rintro ee w1 ⟨rfl, hb1⟩
      have hP1 := (hrow.out.1.below hb1 hrow.out.1.lt).alloc (.cells (u32s 0 0 0 0 0).toArray 43)
      have hR1 := (hrow.out.2.1.below hb1 hrow.out.2.1.lt).alloc (.cells (u32s 0 0 0 0 0).toArray 43)
      have hB1 := grewAlloc (grew hrow.out.2.2 hb1) (.cells (u32s 0 0 0 0 0).toArray 43)
      have hD1 := Whole.new w1 43 (u32s 0 0 0 0 0)
      clear hrow hb1
      have hP2 := Lib.hid hP1
      have hR2 := Lib.hid hR1
      have hB2 := Lib.hid hB1
      clear hP1 hR1 hB1 hD1
      go_wp2_with fail
      go_roundg (gk - 1)
      case measure => omega
      case rel => exact .inr (.inl ⟨by omega, by go_num, rfl, Lib.hid ⟨hP2.out, hR2.out, hB2.out⟩⟩)
    · skip
      go_wp2_with fail
      refine (hdb.out _).mono ?_
      rintro ee w1 ⟨rfl, hb1⟩
      have hP1 := (hrow.out.1.below hb1 hrow.out.1.lt).alloc (.cells (u32s 0 0 0 0 0).toArray 43)
      have hR1 := (hrow.out.2.1.below hb1 hrow.out.2.1.lt).alloc (.cells (u32s 0 0 0 0 0).toArray 43)
      have hB1 := grewAlloc (grew hrow.out.2.2 hb1) (.cells (u32s 0 0 0 0 0).toArray 43)
      have hD1 := Whole.new w1 43 (u32s 0 0 0 0 0)
      clear hrow hb1
      have hP2 := Lib.hid hP1
      have hR2 := Lib.hid hR1
      have hB2 := Lib.hid hB1
      clear hP1 hR1 hB1 hD1
      go_wp2_with fail
      go_roundg (gk - 1)
      case measure => omega
      case rel => exact .inr (.inr ⟨by go_num, rfl, Lib.hid ⟨hP2.out, hR2.out, hB2.out⟩⟩)
    · go_wp2_with (with_reducible refine zLoad 43 _ rfl ?_)
      refine Lib.hid ?_
      refine wpList_load_mid rfl 43 _ rfl (w.heap.size + 1) 0 rfl (u32s 0 0 0 0 0) _ hrow.out.1.range Try.underlying43 rfl sizeS5 ?_
      go_wp2_with (with_reducible refine zStore 43 _ _ rfl ?_)
      refine Lib.hid ?_
      refine wpList_store_mid rfl 43 _ _ rfl w.heap.size 0 (u32s 0 0 0 0 0).toArray rfl rfl (hrow.out.2.1.there 0 5 (by simp)) sizeS5 (all_oneCell_toArray (u32s_one _ _ _ _ _)) ?_
      go_wp2_with fail
      have hfin := whole_all hrow.out.2.1 (vs := u32s 0 0 0 0 0) rfl
      exact bodyPost_ret (result_cell_tmp Try.results23 rfl rfl hfin.range Try.underlying43 rfl sizeS5) rfl ⟨rfl, below_store hrow.out.2.2 (Nat.le_refl _) (Nat.le_refl _) 0 _⟩
set_option maxRecDepth 100000 in
set_option maxHeartbeats 2000000 in
theorem pick_NW (a b : ByteArray) {b0 b1 b2 b3 b4 : Nat} (w : World) (hda : ∀ W : World, Calls Try.prog 17 #[.string a] W fun x w' => x = .returned (.tuple #[.agg #[.int .u32 0, .int .u32 0, .int .u32 0, .int .u32 0, .int .u32 0], .int .i64 4]) ∧ Below W.heap.size W w') (hdb : ∀ W : World, Calls Try.prog 17 #[.string b] W fun x w' => x = .returned (.tuple #[.agg #[.int .u32 b0, .int .u32 b1, .int .u32 b2, .int .u32 b3, .int .u32 b4], .int .i64 0]) ∧ Below W.heap.size W w') (hb0 : b0 < 4294967296) (pb : ((b0 : Int) % 2 != 1) = true) :
    Calls Try.prog 23 #[.string a, .string b] w fun x w' => x = .returned (.tuple #[.agg (u32s 0 0 0 0 0).toArray, .int .i64 22]) ∧ Below w.heap.size w w' := by
  replace hda := Lib.hid hda
  replace hdb := Lib.hid hdb
  have ix0 := index2a a b
  have ix1 := index2b a b
  replace pb := Lib.hid pb
  go_enter Try.func23, Try.ntmps23
  go_wp2_with fail
  have hR0 := (Whole.new w 43 (u32s 0 0 0 0 0)).alloc (.cells (u32s 0 0 0 0 0).toArray 43)
  have hP0 := Whole.new (w.alloc (.cells (u32s 0 0 0 0 0).toArray 43)) 43 (u32s 0 0 0 0 0)
  rw [show (w.alloc (.cells (u32s 0 0 0 0 0).toArray 43)).heap.size = w.heap.size + 1 from by simp] at hP0
  have hB0 := grewAlloc (grewAlloc (Below.refl _ w) (.cells (u32s 0 0 0 0 0).toArray 43)) (.cells (u32s 0 0 0 0 0).toArray 43)
  replace hR0 := Lib.hid hR0
  replace hP0 := Lib.hid hP0
  replace hB0 := Lib.hid hB0
  go_loopg [7, 16] 2 (fun ga x i wr => (2 ≤ ga ∧ i = .int .i64 0 ∧ x = .int .i64 22 ∧ Hid (Whole wr (w.heap.size + 1) 43 (u32s 0 0 0 0 0) ∧ Whole wr w.heap.size 43 (u32s 0 0 0 0 0) ∧ Below w.heap.size w wr)) ∨ (1 ≤ ga ∧ i = .int .i64 1 ∧ x = .int .i64 22 ∧ Hid (Whole wr (w.heap.size + 1) 43 (u32s 0 0 0 0 0) ∧ Whole wr w.heap.size 43 (u32s 0 0 0 0 0) ∧ Below w.heap.size w wr)) ∨ (i = .int .i64 2 ∧ x = .int .i64 22 ∧ Hid (Whole wr (w.heap.size + 1) 43 (u32s 0 0 0 0 0) ∧ Whole wr w.heap.size 43 (u32s 0 0 0 0 0) ∧ Below w.heap.size w wr)))
  case atStart => exact .inl ⟨by omega, rfl, rfl, Lib.hid ⟨hP0.out, hR0.out, hB0.out⟩⟩
  case round =>
    clear hR0 hP0 hB0
    rcases hrel with ⟨hg2, rfl, rfl, hrow⟩ | ⟨hg1, rfl, rfl, hrow⟩ | ⟨rfl, rfl, hrow⟩
    · skip
      go_wp2_with fail
      refine (hda.out _).mono ?_
      rintro ee w1 ⟨rfl, hb1⟩
      have hP1 := (hrow.out.1.below hb1 hrow.out.1.lt).alloc (.cells (u32s 0 0 0 0 0).toArray 43)
      have hR1 := (hrow.out.2.1.below hb1 hrow.out.2.1.lt).alloc (.cells (u32s 0 0 0 0 0).toArray 43)
      have hB1 := grewAlloc (grew hrow.out.2.2 hb1) (.cells (u32s 0 0 0 0 0).toArray 43)
      have hD1 := Whole.new w1 43 (u32s 0 0 0 0 0)
      clear hrow hb1
      have hP2 := Lib.hid hP1
      have hR2 := Lib.hid hR1
      have hB2 := Lib.hid hB1
      clear hP1 hR1 hB1 hD1
      go_wp2_with fail
      go_roundg (gk - 1)
      case measure => omega
      case rel => exact .inr (.inl ⟨by omega, by go_num, rfl, Lib.hid ⟨hP2.out, hR2.out, hB2.out⟩⟩)
    · skip
      go_wp2_with fail
      refine (hdb.out _).mono ?_
      rintro ee w1 ⟨rfl, hb1⟩
      have hP1 := (hrow.out.1.below hb1 hrow.out.1.lt).alloc (.cells (u32s b0 b1 b2 b3 b4).toArray 43)
      have hR1 := (hrow.out.2.1.below hb1 hrow.out.2.1.lt).alloc (.cells (u32s b0 b1 b2 b3 b4).toArray 43)
      have hB1 := grewAlloc (grew hrow.out.2.2 hb1) (.cells (u32s b0 b1 b2 b3 b4).toArray 43)
      have hD1 := Whole.new w1 43 (u32s b0 b1 b2 b3 b4)
      clear hrow hb1
      go_wp2_with fail
      refine (place_any (b0 : Nat) b1 b2 b3 b4 _ (by omega) (by omega)).mono ?_
      rintro ee w2 ⟨rfl, hb2⟩
      replace hP1 := hP1.below hb2 hP1.lt
      replace hR1 := hR1.below hb2 hR1.lt
      replace hB1 := grew hB1 hb2
      replace hD1 := hD1.below hb2 hD1.lt
      clear hb2
      generalize w1.heap.size = db at *
      have px := pb.out
      have hP2 := Lib.hid hP1
      have hR2 := Lib.hid hR1
      have hB2 := Lib.hid hB1
      clear hP1 hR1 hB1 hD1
      go_wp2_with fail
      go_roundg (gk - 1)
      case measure => omega
      case rel => exact .inr (.inr ⟨by go_num, rfl, Lib.hid ⟨hP2.out, hR2.out, hB2.out⟩⟩)
    · go_wp2_with (with_reducible refine zLoad 43 _ rfl ?_)
      refine Lib.hid ?_
      refine wpList_load_mid rfl 43 _ rfl (w.heap.size + 1) 0 rfl (u32s 0 0 0 0 0) _ hrow.out.1.range Try.underlying43 rfl sizeS5 ?_
      go_wp2_with (with_reducible refine zStore 43 _ _ rfl ?_)
      refine Lib.hid ?_
      refine wpList_store_mid rfl 43 _ _ rfl w.heap.size 0 (u32s 0 0 0 0 0).toArray rfl rfl (hrow.out.2.1.there 0 5 (by simp)) sizeS5 (all_oneCell_toArray (u32s_one _ _ _ _ _)) ?_
      go_wp2_with fail
      have hfin := whole_all hrow.out.2.1 (vs := u32s 0 0 0 0 0) rfl
      exact bodyPost_ret (result_cell_tmp Try.results23 rfl rfl hfin.range Try.underlying43 rfl sizeS5) rfl ⟨rfl, below_store hrow.out.2.2 (Nat.le_refl _) (Nat.le_refl _) 0 _⟩
set_option maxRecDepth 100000 in
set_option maxHeartbeats 2000000 in
theorem pick_WN (a b : ByteArray) {a0 a1 a2 a3 a4 : Nat} (w : World) (hda : ∀ W : World, Calls Try.prog 17 #[.string a] W fun x w' => x = .returned (.tuple #[.agg #[.int .u32 a0, .int .u32 a1, .int .u32 a2, .int .u32 a3, .int .u32 a4], .int .i64 0]) ∧ Below W.heap.size W w') (hdb : ∀ W : World, Calls Try.prog 17 #[.string b] W fun x w' => x = .returned (.tuple #[.agg #[.int .u32 0, .int .u32 0, .int .u32 0, .int .u32 0, .int .u32 0], .int .i64 4]) ∧ Below W.heap.size W w') (ha0 : a0 < 4294967296) (pa : ((a0 : Int) % 2 != 0) = true) :
    Calls Try.prog 23 #[.string a, .string b] w fun x w' => x = .returned (.tuple #[.agg (u32s 0 0 0 0 0).toArray, .int .i64 22]) ∧ Below w.heap.size w w' := by
  replace hda := Lib.hid hda
  replace hdb := Lib.hid hdb
  have ix0 := index2a a b
  have ix1 := index2b a b
  replace pa := Lib.hid pa
  go_enter Try.func23, Try.ntmps23
  go_wp2_with fail
  have hR0 := (Whole.new w 43 (u32s 0 0 0 0 0)).alloc (.cells (u32s 0 0 0 0 0).toArray 43)
  have hP0 := Whole.new (w.alloc (.cells (u32s 0 0 0 0 0).toArray 43)) 43 (u32s 0 0 0 0 0)
  rw [show (w.alloc (.cells (u32s 0 0 0 0 0).toArray 43)).heap.size = w.heap.size + 1 from by simp] at hP0
  have hB0 := grewAlloc (grewAlloc (Below.refl _ w) (.cells (u32s 0 0 0 0 0).toArray 43)) (.cells (u32s 0 0 0 0 0).toArray 43)
  replace hR0 := Lib.hid hR0
  replace hP0 := Lib.hid hP0
  replace hB0 := Lib.hid hB0
  go_loopg [7, 16] 2 (fun ga x i wr => (2 ≤ ga ∧ i = .int .i64 0 ∧ x = .int .i64 22 ∧ Hid (Whole wr (w.heap.size + 1) 43 (u32s 0 0 0 0 0) ∧ Whole wr w.heap.size 43 (u32s 0 0 0 0 0) ∧ Below w.heap.size w wr)) ∨ (1 ≤ ga ∧ i = .int .i64 1 ∧ x = .int .i64 22 ∧ Hid (Whole wr (w.heap.size + 1) 43 (u32s 0 0 0 0 0) ∧ Whole wr w.heap.size 43 (u32s 0 0 0 0 0) ∧ Below w.heap.size w wr)) ∨ (i = .int .i64 2 ∧ x = .int .i64 22 ∧ Hid (Whole wr (w.heap.size + 1) 43 (u32s 0 0 0 0 0) ∧ Whole wr w.heap.size 43 (u32s 0 0 0 0 0) ∧ Below w.heap.size w wr)))
  case atStart => exact .inl ⟨by omega, rfl, rfl, Lib.hid ⟨hP0.out, hR0.out, hB0.out⟩⟩
  case round =>
    clear hR0 hP0 hB0
    rcases hrel with ⟨hg2, rfl, rfl, hrow⟩ | ⟨hg1, rfl, rfl, hrow⟩ | ⟨rfl, rfl, hrow⟩
    · skip
      go_wp2_with fail
      refine (hda.out _).mono ?_
      rintro ee w1 ⟨rfl, hb1⟩
      have hP1 := (hrow.out.1.below hb1 hrow.out.1.lt).alloc (.cells (u32s a0 a1 a2 a3 a4).toArray 43)
      have hR1 := (hrow.out.2.1.below hb1 hrow.out.2.1.lt).alloc (.cells (u32s a0 a1 a2 a3 a4).toArray 43)
      have hB1 := grewAlloc (grew hrow.out.2.2 hb1) (.cells (u32s a0 a1 a2 a3 a4).toArray 43)
      have hD1 := Whole.new w1 43 (u32s a0 a1 a2 a3 a4)
      clear hrow hb1
      go_wp2_with fail
      refine (place_any (a0 : Nat) a1 a2 a3 a4 _ (by omega) (by omega)).mono ?_
      rintro ee w2 ⟨rfl, hb2⟩
      replace hP1 := hP1.below hb2 hP1.lt
      replace hR1 := hR1.below hb2 hR1.lt
      replace hB1 := grew hB1 hb2
      replace hD1 := hD1.below hb2 hD1.lt
      clear hb2
      generalize w1.heap.size = db at *
      have px := pa.out
      have hP2 := Lib.hid hP1
      have hR2 := Lib.hid hR1
      have hB2 := Lib.hid hB1
      clear hP1 hR1 hB1 hD1
      go_wp2_with fail
      go_roundg (gk - 1)
      case measure => omega
      case rel => exact .inr (.inl ⟨by omega, by go_num, rfl, Lib.hid ⟨hP2.out, hR2.out, hB2.out⟩⟩)
    · skip
      go_wp2_with fail
      refine (hdb.out _).mono ?_
      rintro ee w1 ⟨rfl, hb1⟩
      have hP1 := (hrow.out.1.below hb1 hrow.out.1.lt).alloc (.cells (u32s 0 0 0 0 0).toArray 43)
      have hR1 := (hrow.out.2.1.below hb1 hrow.out.2.1.lt).alloc (.cells (u32s 0 0 0 0 0).toArray 43)
      have hB1 := grewAlloc (grew hrow.out.2.2 hb1) (.cells (u32s 0 0 0 0 0).toArray 43)
      have hD1 := Whole.new w1 43 (u32s 0 0 0 0 0)
      clear hrow hb1
      have hP2 := Lib.hid hP1
      have hR2 := Lib.hid hR1
      have hB2 := Lib.hid hB1
      clear hP1 hR1 hB1 hD1
      go_wp2_with fail
      go_roundg (gk - 1)
      case measure => omega
      case rel => exact .inr (.inr ⟨by go_num, rfl, Lib.hid ⟨hP2.out, hR2.out, hB2.out⟩⟩)
    · go_wp2_with (with_reducible refine zLoad 43 _ rfl ?_)
      refine Lib.hid ?_
      refine wpList_load_mid rfl 43 _ rfl (w.heap.size + 1) 0 rfl (u32s 0 0 0 0 0) _ hrow.out.1.range Try.underlying43 rfl sizeS5 ?_
      go_wp2_with (with_reducible refine zStore 43 _ _ rfl ?_)
      refine Lib.hid ?_
      refine wpList_store_mid rfl 43 _ _ rfl w.heap.size 0 (u32s 0 0 0 0 0).toArray rfl rfl (hrow.out.2.1.there 0 5 (by simp)) sizeS5 (all_oneCell_toArray (u32s_one _ _ _ _ _)) ?_
      go_wp2_with fail
      have hfin := whole_all hrow.out.2.1 (vs := u32s 0 0 0 0 0) rfl
      exact bodyPost_ret (result_cell_tmp Try.results23 rfl rfl hfin.range Try.underlying43 rfl sizeS5) rfl ⟨rfl, below_store hrow.out.2.2 (Nat.le_refl _) (Nat.le_refl _) 0 _⟩
set_option maxRecDepth 100000 in
set_option maxHeartbeats 2000000 in
theorem pick_WW (a b : ByteArray) {a0 a1 a2 a3 a4 b0 b1 b2 b3 b4 : Nat} (w : World) (hda : ∀ W : World, Calls Try.prog 17 #[.string a] W fun x w' => x = .returned (.tuple #[.agg #[.int .u32 a0, .int .u32 a1, .int .u32 a2, .int .u32 a3, .int .u32 a4], .int .i64 0]) ∧ Below W.heap.size W w') (hdb : ∀ W : World, Calls Try.prog 17 #[.string b] W fun x w' => x = .returned (.tuple #[.agg #[.int .u32 b0, .int .u32 b1, .int .u32 b2, .int .u32 b3, .int .u32 b4], .int .i64 0]) ∧ Below W.heap.size W w') (ha0 : a0 < 4294967296) (pa : ((a0 : Int) % 2 != 0) = true) (hb0 : b0 < 4294967296) (pb : ((b0 : Int) % 2 != 1) = true) :
    Calls Try.prog 23 #[.string a, .string b] w fun x w' => x = .returned (.tuple #[.agg (u32s 0 0 0 0 0).toArray, .int .i64 22]) ∧ Below w.heap.size w w' := by
  replace hda := Lib.hid hda
  replace hdb := Lib.hid hdb
  have ix0 := index2a a b
  have ix1 := index2b a b
  replace pa := Lib.hid pa
  replace pb := Lib.hid pb
  go_enter Try.func23, Try.ntmps23
  go_wp2_with fail
  have hR0 := (Whole.new w 43 (u32s 0 0 0 0 0)).alloc (.cells (u32s 0 0 0 0 0).toArray 43)
  have hP0 := Whole.new (w.alloc (.cells (u32s 0 0 0 0 0).toArray 43)) 43 (u32s 0 0 0 0 0)
  rw [show (w.alloc (.cells (u32s 0 0 0 0 0).toArray 43)).heap.size = w.heap.size + 1 from by simp] at hP0
  have hB0 := grewAlloc (grewAlloc (Below.refl _ w) (.cells (u32s 0 0 0 0 0).toArray 43)) (.cells (u32s 0 0 0 0 0).toArray 43)
  replace hR0 := Lib.hid hR0
  replace hP0 := Lib.hid hP0
  replace hB0 := Lib.hid hB0
  go_loopg [7, 16] 2 (fun ga x i wr => (2 ≤ ga ∧ i = .int .i64 0 ∧ x = .int .i64 22 ∧ Hid (Whole wr (w.heap.size + 1) 43 (u32s 0 0 0 0 0) ∧ Whole wr w.heap.size 43 (u32s 0 0 0 0 0) ∧ Below w.heap.size w wr)) ∨ (1 ≤ ga ∧ i = .int .i64 1 ∧ x = .int .i64 22 ∧ Hid (Whole wr (w.heap.size + 1) 43 (u32s 0 0 0 0 0) ∧ Whole wr w.heap.size 43 (u32s 0 0 0 0 0) ∧ Below w.heap.size w wr)) ∨ (i = .int .i64 2 ∧ x = .int .i64 22 ∧ Hid (Whole wr (w.heap.size + 1) 43 (u32s 0 0 0 0 0) ∧ Whole wr w.heap.size 43 (u32s 0 0 0 0 0) ∧ Below w.heap.size w wr)))
  case atStart => exact .inl ⟨by omega, rfl, rfl, Lib.hid ⟨hP0.out, hR0.out, hB0.out⟩⟩
  case round =>
    clear hR0 hP0 hB0
    rcases hrel with ⟨hg2, rfl, rfl, hrow⟩ | ⟨hg1, rfl, rfl, hrow⟩ | ⟨rfl, rfl, hrow⟩
    · skip
      go_wp2_with fail
      refine (hda.out _).mono ?_
      rintro ee w1 ⟨rfl, hb1⟩
      have hP1 := (hrow.out.1.below hb1 hrow.out.1.lt).alloc (.cells (u32s a0 a1 a2 a3 a4).toArray 43)
      have hR1 := (hrow.out.2.1.below hb1 hrow.out.2.1.lt).alloc (.cells (u32s a0 a1 a2 a3 a4).toArray 43)
      have hB1 := grewAlloc (grew hrow.out.2.2 hb1) (.cells (u32s a0 a1 a2 a3 a4).toArray 43)
      have hD1 := Whole.new w1 43 (u32s a0 a1 a2 a3 a4)
      clear hrow hb1
      go_wp2_with fail
      refine (place_any (a0 : Nat) a1 a2 a3 a4 _ (by omega) (by omega)).mono ?_
      rintro ee w2 ⟨rfl, hb2⟩
      replace hP1 := hP1.below hb2 hP1.lt
      replace hR1 := hR1.below hb2 hR1.lt
      replace hB1 := grew hB1 hb2
      replace hD1 := hD1.below hb2 hD1.lt
      clear hb2
      generalize w1.heap.size = db at *
      have px := pa.out
      have hP2 := Lib.hid hP1
      have hR2 := Lib.hid hR1
      have hB2 := Lib.hid hB1
      clear hP1 hR1 hB1 hD1
      go_wp2_with fail
      go_roundg (gk - 1)
      case measure => omega
      case rel => exact .inr (.inl ⟨by omega, by go_num, rfl, Lib.hid ⟨hP2.out, hR2.out, hB2.out⟩⟩)
    · skip
      go_wp2_with fail
      refine (hdb.out _).mono ?_
      rintro ee w1 ⟨rfl, hb1⟩
      have hP1 := (hrow.out.1.below hb1 hrow.out.1.lt).alloc (.cells (u32s b0 b1 b2 b3 b4).toArray 43)
      have hR1 := (hrow.out.2.1.below hb1 hrow.out.2.1.lt).alloc (.cells (u32s b0 b1 b2 b3 b4).toArray 43)
      have hB1 := grewAlloc (grew hrow.out.2.2 hb1) (.cells (u32s b0 b1 b2 b3 b4).toArray 43)
      have hD1 := Whole.new w1 43 (u32s b0 b1 b2 b3 b4)
      clear hrow hb1
      go_wp2_with fail
      refine (place_any (b0 : Nat) b1 b2 b3 b4 _ (by omega) (by omega)).mono ?_
      rintro ee w2 ⟨rfl, hb2⟩
      replace hP1 := hP1.below hb2 hP1.lt
      replace hR1 := hR1.below hb2 hR1.lt
      replace hB1 := grew hB1 hb2
      replace hD1 := hD1.below hb2 hD1.lt
      clear hb2
      generalize w1.heap.size = db at *
      have px := pb.out
      have hP2 := Lib.hid hP1
      have hR2 := Lib.hid hR1
      have hB2 := Lib.hid hB1
      clear hP1 hR1 hB1 hD1
      go_wp2_with fail
      go_roundg (gk - 1)
      case measure => omega
      case rel => exact .inr (.inr ⟨by go_num, rfl, Lib.hid ⟨hP2.out, hR2.out, hB2.out⟩⟩)
    · go_wp2_with (with_reducible refine zLoad 43 _ rfl ?_)
      refine Lib.hid ?_
      refine wpList_load_mid rfl 43 _ rfl (w.heap.size + 1) 0 rfl (u32s 0 0 0 0 0) _ hrow.out.1.range Try.underlying43 rfl sizeS5 ?_
      go_wp2_with (with_reducible refine zStore 43 _ _ rfl ?_)
      refine Lib.hid ?_
      refine wpList_store_mid rfl 43 _ _ rfl w.heap.size 0 (u32s 0 0 0 0 0).toArray rfl rfl (hrow.out.2.1.there 0 5 (by simp)) sizeS5 (all_oneCell_toArray (u32s_one _ _ _ _ _)) ?_
      go_wp2_with fail
      have hfin := whole_all hrow.out.2.1 (vs := u32s 0 0 0 0 0) rfl
      exact bodyPost_ret (result_cell_tmp Try.results23 rfl rfl hfin.range Try.underlying43 rfl sizeS5) rfl ⟨rfl, below_store hrow.out.2.2 (Nat.le_refl _) (Nat.le_refl _) 0 _⟩
end Go.Proofs.Ytkmlmondhmpkkaa.W
end
