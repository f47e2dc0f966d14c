/- The walks of package header's Decode. -/
import Derived.Test.YtoegohofmhijgaaDoorHdEnc
namespace Go.Proofs.YtoegohofmhijgaaDoor.W
open Go.RowKit Go.Sort
open Go.Proofs.YtoegohofmhijgaaDoor.M Go.Proofs.YtoegohofmhijgaaDoor.D Go.Proofs.YtoegohofmhijgaaDoor.Z
set_option linter.unusedVariables false

set_option maxRecDepth 100000 in
set_option maxHeartbeats 4000000 in
theorem decH_yes (s X : ByteArray) (w : World) (hT : Wide w) (hs : 32 ≤ s.size) (hX : s.extract 0 32 = X) (hk : okH (numH X 0 : Nat) (wrap64 (numH X 3 : Nat)) = true) (h1 : X.data.toList = headerL (numH X 0) (numH X 1) (numH X 2) (numH X 3)) :
    Calls Tryd.prog 8 #[.string s] w fun x w' => x = .returned (.tuple #[.agg #[.int .i64 (numH X 0 : Nat), .int .u32 (numH X 1 : Nat), .int .u32 (numH X 2 : Nat), .int .i64 (wrap64 (numH X 3 : Nat))], .int .i64 0]) ∧ Below w.heap.size w w' := by
  have hxz : X.size = 32 := by rw [← hX]; simp; omega
  have hxl : X.data.toList.length = 32 := by rw [Array.length_toList]; exact hxz
  have hrd := fun W hW => readH_any X W hW hxz
  have hnl := numH_lt X
  have hly := fun W hW => layH_any (numH X 0) (numH X 1) (numH X 2) (numH X 3) W hW (hnl 0) (hnl 1) (hnl 2) (hnl 3)
  have hho := fun W => headerOf_any (numH X 0) (numH X 1) (numH X 2) (numH X 3) W (hnl 0) (hnl 1) (hnl 2) (hnl 3)
  have hdl := headerL_len (numH X 0) (numH X 1) (numH X 2) (numH X 3)
  have heq := equal_bytes 47 32 Tryd.underlying47 X.data.toList (headerL (numH X 0) (numH X 1) (numH X 2) (numH X 3)) hxl hdl
  have htk : s.data.toList.take 32 = X.data.toList := by rw [← hX, ext_list]; rfl
  obtain ⟨E, hE⟩ : ∃ E, Hid (headerL (numH X 0) (numH X 1) (numH X 2) (numH X 3) = E) := ⟨_, Lib.hid rfl⟩
  rw [hE.out] at hly hdl heq h1
  obtain ⟨a, e0⟩ : ∃ a, Hid (numH X 0 = a) := ⟨_, Lib.hid rfl⟩
  obtain ⟨b, e1⟩ : ∃ a, Hid (numH X 1 = a) := ⟨_, Lib.hid rfl⟩
  obtain ⟨c, e2⟩ : ∃ a, Hid (numH X 2 = a) := ⟨_, Lib.hid rfl⟩
  obtain ⟨d, e3⟩ : ∃ a, Hid (numH X 3 = a) := ⟨_, Lib.hid rfl⟩
  rw [e0.out, e1.out, e2.out, e3.out] at hrd hly hho ⊢
  rw [e0.out, e3.out] at hk
  obtain ⟨z, hz⟩ : ∃ z : Int, Hid (wrap64 (d : Nat) = z) := ⟨_, Lib.hid rfl⟩
  rw [hz.out] at hho hk ⊢
  have hma : ∀ W : World, Calls Tryd.prog 19 #[.agg #[.int .i64 (a : Int), .int .u32 (b : Int), .int .u32 (c : Int), .int .i64 z]] W fun x w' => x = .returned (.bool true) ∧ Below W.heap.size W w' := fun W => by
    have h := mayBe_any a b c z W
    rw [hk] at h
    exact h
  rw [show decide (X.data.toList = E) = true from by simp [h1]] at heq
  obtain ⟨D1, hD1⟩ : ∃ x, Hid (bytesV X.data.toList = x) := ⟨_, Lib.hid rfl⟩
  obtain ⟨D2, hD2⟩ : ∃ x, Hid (bytesV E = x) := ⟨_, Lib.hid rfl⟩
  have hl1 : Hid (D1.length = 32) := Lib.hid (by rw [← hD1.out, bytesV_len, hxl])
  have hsp : Hid (splice (List.replicate 32 (Value.int .u8 0)) 0 D1 = D1) := Lib.hid (by unfold splice; rw [List.take_zero, List.nil_append, Nat.zero_add, hl1.out, List.drop_replicate]; simp)
  rw [hD1.out, hD2.out] at heq
  rw [hD1.out] at hrd
  rw [hD2.out] at hly
  have hsn : ¬ (s.size : Int) < 32 := by omega
  have hsg : (32 : Int) ≤ (s.size : Int) := by omega
  have hmin : Hid (Nat.min s.size 32 = 32) := Lib.hid (Nat.min_eq_right hs)
  replace htk := Lib.hid htk
  clear hnl hdl hxl hX hk h1
  replace hT := Lib.hid hT
  replace hrd := Lib.hid hrd
  replace hly := Lib.hid hly
  replace hho := Lib.hid hho
  replace hma := Lib.hid hma
  replace hxz := Lib.hid hxz
  have hR := (Whole.new w 24 (hdr 0 0 0 0)).alloc (.cells (List.replicate 32 (Value.int .u8 0)).toArray 47)
  have hL := Whole.new (w.alloc (.cells (hdr 0 0 0 0).toArray 24)) 47 (List.replicate 32 (Value.int .u8 0))
  rw [show (w.alloc (.cells (hdr 0 0 0 0).toArray 24)).heap.size = w.heap.size + 1 from by simp] at hL
  have hB := grewAlloc ((Below.refl w.heap.size w).alloc (Nat.le_refl _) (.cells (hdr 0 0 0 0).toArray 24)) (.cells (List.replicate 32 (Value.int .u8 0)).toArray 47)
  obtain ⟨W, hW⟩ : ∃ W, Hid (W = (w.alloc (.cells (hdr 0 0 0 0).toArray 24)).alloc (.cells (List.replicate 32 (Value.int .u8 0)).toArray 47)) := ⟨_, Lib.hid rfl⟩
  rw [← hW.out] at hR hL hB
  replace hR := Lib.hid hR
  replace hL := Lib.hid hL
  replace hB := Lib.hid hB
  go_enter Tryd.func8, Tryd.ntmps8
  go_wp2_with (with_reducible refine zCopy _ _ _ _ rfl ?_)
  refine Lib.hid ?_
  refine wpList_copy_long rfl _ _ rfl (w.heap.size + 1) 0 32 32 rfl s rfl 32 hmin.out 47 _ (by have h := hL.out; rw [hW.out] at h; exact h) (by simp) hs ?_
  intro w4 hL4 hk4 hsz4
  replace hk4 := hk4 (fun q => q = w.heap.size + 1) W (.inl rfl) (by rw [hW.out]; exact Kept.refl _ _)
  rw [htk.out, hD1.out, hsp.out] at hL4
  have hR4 := hR.out.of_kept hk4 (by omega)
  have hB4 := hB.out.trans (hk4.below hB.out.size (fun q hq => by omega))
  clear hW hL hk4 hsz4 hR hB
  go_wp2_with (with_reducible refine zLoad 47 _ rfl ?_)
  refine Lib.hid ?_
  refine wpList_load_mid rfl 47 _ rfl (w.heap.size + 1) 0 rfl D1 _ hL4.range Tryd.underlying47 rfl (by rw [hl1.out]; exact sizeL32) ?_
  go_wp2_with fail
  refine (hrd.out _ (hT.out.below hB4)).mono ?_
  rintro ee w5 ⟨rfl, hb5⟩
  have hN := Whole.new w5 51 (u64s a b c d)
  replace hR4 := (hR4.below hb5 hR4.lt).alloc (.cells (u64s a b c d).toArray 51)
  replace hL4 := (hL4.below hb5 hL4.lt).alloc (.cells (u64s a b c d).toArray 51)
  replace hB4 := grewAlloc (grew hB4 hb5) (.cells (u64s a b c d).toArray 51)
  clear hb5
  go_wp2_with fail
  refine (hho.out _).mono ?_
  rintro ee w6 ⟨rfl, hb6⟩
  have hS := Whole.new w6 24 (hdr a b c z)
  replace hR4 := (hR4.below hb6 hR4.lt).alloc (.cells (hdr a b c z).toArray 24)
  replace hL4 := (hL4.below hb6 hL4.lt).alloc (.cells (hdr a b c z).toArray 24)
  replace hN := (hN.below hb6 hN.lt).alloc (.cells (hdr a b c z).toArray 24)
  replace hB4 := grewAlloc (grew hB4 hb6) (.cells (hdr a b c z).toArray 24)
  clear hb6
  go_wp2_with fail
  generalize w5.heap.size = nb at *
  generalize w6.heap.size = sb at *
  obtain ⟨V, hV⟩ : ∃ V, Hid (V = w6.alloc (.cells (hdr a b c z).toArray 24)) := ⟨_, Lib.hid rfl⟩
  rw [← hV.out] at hR4 hL4 hN hS hB4
  rw [show w6.alloc (.cells #[.int .i64 (a : Int), .int .u32 (b : Int), .int .u32 (c : Int), .int .i64 z] 24) = V from hV.out.symm]
  clear hV
  have hrs : Hid (∀ w', (∃ p : Regrown, w' = grow (redrawn V p.d) p.os) → w'.rangeAt sb 0 (hdr a b c z)) := Lib.hid (by rintro _ ⟨p, rfl⟩; exact (hS.below (below_regrown V p.d p.os) hS.lt).range)
  have hrn : Hid (∀ w', (∃ p : Regrown, w' = grow (redrawn V p.d) p.os) → w'.rangeAt nb 0 (u64s a b c d)) := Lib.hid (by rintro _ ⟨p, rfl⟩; exact (hN.below (below_regrown V p.d p.os) hN.lt).range)
  have hrt : Hid (∀ w', (∃ p : Regrown, w' = grow (redrawn V p.d) p.os) → w'.rangeAt (w.heap.size + 1) 0 D1) := Lib.hid (by rintro _ ⟨p, rfl⟩; exact (hL4.below (below_regrown V p.d p.os) hL4.lt).range)
  have hi0 : Hid ((Tryd.prog.info? 24).map (·.size) = some (hdr a b c z).length) := Lib.hid sizeH4
  have hi1 : Hid ((Tryd.prog.info? 47).map (·.size) = some D1.length) := Lib.hid (by rw [hl1.out]; exact sizeL32)
  have hi2 : Hid ((Tryd.prog.info? 51).map (·.size) = some (u64s a b c d).length) := Lib.hid sizeN4
  have cm := Lib.hid (regrown_any hma.out V)
  have cl := Lib.hid (regrown_if hly.out V (fun w' hb => (hT.out.below hB4).below hb))
  replace hR4 := Lib.hid hR4
  replace hS := Lib.hid hS
  replace hB4 := Lib.hid hB4
  clear hN hL4
  refine wp_region_quiet_below (by kernel_rfl) (by kernel_rfl) ?_
  repeat (first
    | ((with_reducible refine quiet_load 24 _ sb (hdr a b c z) ?_ hrs.out Tryd.underlying24 ?_ hi0.out ?_ ?_); (· rfl); (· rfl); (· rfl); simp only [Act.put, List.setIfInBounds_toArray, List.set_cons_zero, List.set_cons_succ])
    | ((with_reducible refine quiet_load 47 _ (w.heap.size + 1) D1 ?_ hrt.out Tryd.underlying47 ?_ hi1.out ?_ ?_); (· rfl); (· rfl); (· rfl); simp only [Act.put, List.setIfInBounds_toArray, List.set_cons_zero, List.set_cons_succ])
    | ((with_reducible refine quiet_load 51 _ nb (u64s a b c d) ?_ hrn.out Tryd.underlying51 ?_ hi2.out ?_ ?_); (· rfl); (· rfl); (· rfl); simp only [Act.put, List.setIfInBounds_toArray, List.set_cons_zero, List.set_cons_succ])
    | go_big_quiet_step (first | exact cm.out _ _ | exact cl.out _ _))
  refine wpQuiet_nil ?_
  intro _ hw'
  obtain ⟨⟨dq, osq⟩, hw''⟩ := hw'
  subst hw''
  have hR5 := Lib.hid (hR4.out.below (below_regrown V dq osq) hR4.out.lt)
  have hS5 := Lib.hid (hS.out.below (below_regrown V dq osq) hS.out.lt)
  have hB5 := Lib.hid (grew hB4.out (below_regrown V dq osq))
  clear hrs hrn hrt hi0 hi1 hi2 cl cm heq hR4 hS hB4
  generalize grow (redrawn V dq) osq = w7 at *
  go_wp2_with (with_reducible refine zLoad 24 _ rfl ?_)
  refine Lib.hid ?_
  refine wpList_load_mid rfl 24 _ rfl sb 0 rfl (hdr a b c z) _ hS5.out.range Tryd.underlying24 rfl sizeH4 ?_
  go_wp2_with (with_reducible refine zStore 24 _ _ rfl ?_)
  refine Lib.hid ?_
  refine wpList_store_mid rfl 24 _ _ rfl w.heap.size 0 (hdr a b c z).toArray rfl rfl (hR5.out.there 0 4 (by simp)) sizeH4 (all_oneCell_toArray (hdr_one a b c z)) ?_
  go_wp2_with fail
  have hfin := whole_all hR5.out (vs := hdr a b c z) rfl
  exact bodyPost_ret (result_cell_tmp Tryd.results8 rfl rfl hfin.range Tryd.underlying24 rfl sizeH4) rfl ⟨rfl, below_store hB5.out (Nat.le_refl _) (Nat.le_refl _) 0 _⟩
set_option maxRecDepth 100000 in
set_option maxHeartbeats 4000000 in
theorem decH_data (s X : ByteArray) (w : World) (hT : Wide w) (hs : 32 ≤ s.size) (hX : s.extract 0 32 = X) (hk : okH (numH X 0 : Nat) (wrap64 (numH X 3 : Nat)) = true) (h1 : ¬ X.data.toList = headerL (numH X 0) (numH X 1) (numH X 2) (numH X 3)) :
    Calls Tryd.prog 8 #[.string s] w fun x w' => x = .returned (.tuple #[.agg #[.int .i64 0, .int .u32 0, .int .u32 0, .int .i64 0], .int .i64 4]) ∧ Below w.heap.size w w' := by
  have hxz : X.size = 32 := by rw [← hX]; simp; omega
  have hxl : X.data.toList.length = 32 := by rw [Array.length_toList]; exact hxz
  have hrd := fun W hW => readH_any X W hW hxz
  have hnl := numH_lt X
  have hly := fun W hW => layH_any (numH X 0) (numH X 1) (numH X 2) (numH X 3) W hW (hnl 0) (hnl 1) (hnl 2) (hnl 3)
  have hho := fun W => headerOf_any (numH X 0) (numH X 1) (numH X 2) (numH X 3) W (hnl 0) (hnl 1) (hnl 2) (hnl 3)
  have hdl := headerL_len (numH X 0) (numH X 1) (numH X 2) (numH X 3)
  have heq := equal_bytes 47 32 Tryd.underlying47 X.data.toList (headerL (numH X 0) (numH X 1) (numH X 2) (numH X 3)) hxl hdl
  have htk : s.data.toList.take 32 = X.data.toList := by rw [← hX, ext_list]; rfl
  obtain ⟨E, hE⟩ : ∃ E, Hid (headerL (numH X 0) (numH X 1) (numH X 2) (numH X 3) = E) := ⟨_, Lib.hid rfl⟩
  rw [hE.out] at hly hdl heq h1
  obtain ⟨a, e0⟩ : ∃ a, Hid (numH X 0 = a) := ⟨_, Lib.hid rfl⟩
  obtain ⟨b, e1⟩ : ∃ a, Hid (numH X 1 = a) := ⟨_, Lib.hid rfl⟩
  obtain ⟨c, e2⟩ : ∃ a, Hid (numH X 2 = a) := ⟨_, Lib.hid rfl⟩
  obtain ⟨d, e3⟩ : ∃ a, Hid (numH X 3 = a) := ⟨_, Lib.hid rfl⟩
  rw [e0.out, e1.out, e2.out, e3.out] at hrd hly hho
  rw [e0.out, e3.out] at hk
  obtain ⟨z, hz⟩ : ∃ z : Int, Hid (wrap64 (d : Nat) = z) := ⟨_, Lib.hid rfl⟩
  rw [hz.out] at hho hk
  have hma : ∀ W : World, Calls Tryd.prog 19 #[.agg #[.int .i64 (a : Int), .int .u32 (b : Int), .int .u32 (c : Int), .int .i64 z]] W fun x w' => x = .returned (.bool true) ∧ Below W.heap.size W w' := fun W => by
    have h := mayBe_any a b c z W
    rw [hk] at h
    exact h
  rw [show decide (X.data.toList = E) = false from by simp [h1]] at heq
  obtain ⟨D1, hD1⟩ : ∃ x, Hid (bytesV X.data.toList = x) := ⟨_, Lib.hid rfl⟩
  obtain ⟨D2, hD2⟩ : ∃ x, Hid (bytesV E = x) := ⟨_, Lib.hid rfl⟩
  have hl1 : Hid (D1.length = 32) := Lib.hid (by rw [← hD1.out, bytesV_len, hxl])
  have hsp : Hid (splice (List.replicate 32 (Value.int .u8 0)) 0 D1 = D1) := Lib.hid (by unfold splice; rw [List.take_zero, List.nil_append, Nat.zero_add, hl1.out, List.drop_replicate]; simp)
  rw [hD1.out, hD2.out] at heq
  rw [hD1.out] at hrd
  rw [hD2.out] at hly
  have hsn : ¬ (s.size : Int) < 32 := by omega
  have hsg : (32 : Int) ≤ (s.size : Int) := by omega
  have hmin : Hid (Nat.min s.size 32 = 32) := Lib.hid (Nat.min_eq_right hs)
  replace htk := Lib.hid htk
  clear hnl hdl hxl hX hk h1
  replace hT := Lib.hid hT
  replace hrd := Lib.hid hrd
  replace hly := Lib.hid hly
  replace hho := Lib.hid hho
  replace hma := Lib.hid hma
  replace hxz := Lib.hid hxz
  have hR := (Whole.new w 24 (hdr 0 0 0 0)).alloc (.cells (List.replicate 32 (Value.int .u8 0)).toArray 47)
  have hL := Whole.new (w.alloc (.cells (hdr 0 0 0 0).toArray 24)) 47 (List.replicate 32 (Value.int .u8 0))
  rw [show (w.alloc (.cells (hdr 0 0 0 0).toArray 24)).heap.size = w.heap.size + 1 from by simp] at hL
  have hB := grewAlloc ((Below.refl w.heap.size w).alloc (Nat.le_refl _) (.cells (hdr 0 0 0 0).toArray 24)) (.cells (List.replicate 32 (Value.int .u8 0)).toArray 47)
  obtain ⟨W, hW⟩ : ∃ W, Hid (W = (w.alloc (.cells (hdr 0 0 0 0).toArray 24)).alloc (.cells (List.replicate 32 (Value.int .u8 0)).toArray 47)) := ⟨_, Lib.hid rfl⟩
  rw [← hW.out] at hR hL hB
  replace hR := Lib.hid hR
  replace hL := Lib.hid hL
  replace hB := Lib.hid hB
  go_enter Tryd.func8, Tryd.ntmps8
  go_wp2_with (with_reducible refine zCopy _ _ _ _ rfl ?_)
  refine Lib.hid ?_
  refine wpList_copy_long rfl _ _ rfl (w.heap.size + 1) 0 32 32 rfl s rfl 32 hmin.out 47 _ (by have h := hL.out; rw [hW.out] at h; exact h) (by simp) hs ?_
  intro w4 hL4 hk4 hsz4
  replace hk4 := hk4 (fun q => q = w.heap.size + 1) W (.inl rfl) (by rw [hW.out]; exact Kept.refl _ _)
  rw [htk.out, hD1.out, hsp.out] at hL4
  have hR4 := hR.out.of_kept hk4 (by omega)
  have hB4 := hB.out.trans (hk4.below hB.out.size (fun q hq => by omega))
  clear hW hL hk4 hsz4 hR hB
  go_wp2_with (with_reducible refine zLoad 47 _ rfl ?_)
  refine Lib.hid ?_
  refine wpList_load_mid rfl 47 _ rfl (w.heap.size + 1) 0 rfl D1 _ hL4.range Tryd.underlying47 rfl (by rw [hl1.out]; exact sizeL32) ?_
  go_wp2_with fail
  refine (hrd.out _ (hT.out.below hB4)).mono ?_
  rintro ee w5 ⟨rfl, hb5⟩
  have hN := Whole.new w5 51 (u64s a b c d)
  replace hR4 := (hR4.below hb5 hR4.lt).alloc (.cells (u64s a b c d).toArray 51)
  replace hL4 := (hL4.below hb5 hL4.lt).alloc (.cells (u64s a b c d).toArray 51)
  replace hB4 := grewAlloc (grew hB4 hb5) (.cells (u64s a b c d).toArray 51)
  clear hb5
  go_wp2_with fail
  refine (hho.out _).mono ?_
  rintro ee w6 ⟨rfl, hb6⟩
  have hS := Whole.new w6 24 (hdr a b c z)
  replace hR4 := (hR4.below hb6 hR4.lt).alloc (.cells (hdr a b c z).toArray 24)
  replace hL4 := (hL4.below hb6 hL4.lt).alloc (.cells (hdr a b c z).toArray 24)
  replace hN := (hN.below hb6 hN.lt).alloc (.cells (hdr a b c z).toArray 24)
  replace hB4 := grewAlloc (grew hB4 hb6) (.cells (hdr a b c z).toArray 24)
  clear hb6
  go_wp2_with fail
  generalize w5.heap.size = nb at *
  generalize w6.heap.size = sb at *
  obtain ⟨V, hV⟩ : ∃ V, Hid (V = w6.alloc (.cells (hdr a b c z).toArray 24)) := ⟨_, Lib.hid rfl⟩
  rw [← hV.out] at hR4 hL4 hN hS hB4
  rw [show w6.alloc (.cells #[.int .i64 (a : Int), .int .u32 (b : Int), .int .u32 (c : Int), .int .i64 z] 24) = V from hV.out.symm]
  clear hV
  have hrs : Hid (∀ w', (∃ p : Regrown, w' = grow (redrawn V p.d) p.os) → w'.rangeAt sb 0 (hdr a b c z)) := Lib.hid (by rintro _ ⟨p, rfl⟩; exact (hS.below (below_regrown V p.d p.os) hS.lt).range)
  have hrn : Hid (∀ w', (∃ p : Regrown, w' = grow (redrawn V p.d) p.os) → w'.rangeAt nb 0 (u64s a b c d)) := Lib.hid (by rintro _ ⟨p, rfl⟩; exact (hN.below (below_regrown V p.d p.os) hN.lt).range)
  have hrt : Hid (∀ w', (∃ p : Regrown, w' = grow (redrawn V p.d) p.os) → w'.rangeAt (w.heap.size + 1) 0 D1) := Lib.hid (by rintro _ ⟨p, rfl⟩; exact (hL4.below (below_regrown V p.d p.os) hL4.lt).range)
  have hi0 : Hid ((Tryd.prog.info? 24).map (·.size) = some (hdr a b c z).length) := Lib.hid sizeH4
  have hi1 : Hid ((Tryd.prog.info? 47).map (·.size) = some D1.length) := Lib.hid (by rw [hl1.out]; exact sizeL32)
  have hi2 : Hid ((Tryd.prog.info? 51).map (·.size) = some (u64s a b c d).length) := Lib.hid sizeN4
  have cm := Lib.hid (regrown_any hma.out V)
  have cl := Lib.hid (regrown_if hly.out V (fun w' hb => (hT.out.below hB4).below hb))
  replace hR4 := Lib.hid hR4
  replace hS := Lib.hid hS
  replace hB4 := Lib.hid hB4
  clear hN hL4
  refine wp_region_quiet_below (by kernel_rfl) (by kernel_rfl) ?_
  repeat (first
    | ((with_reducible refine quiet_load 24 _ sb (hdr a b c z) ?_ hrs.out Tryd.underlying24 ?_ hi0.out ?_ ?_); (· rfl); (· rfl); (· rfl); simp only [Act.put, List.setIfInBounds_toArray, List.set_cons_zero, List.set_cons_succ])
    | ((with_reducible refine quiet_load 47 _ (w.heap.size + 1) D1 ?_ hrt.out Tryd.underlying47 ?_ hi1.out ?_ ?_); (· rfl); (· rfl); (· rfl); simp only [Act.put, List.setIfInBounds_toArray, List.set_cons_zero, List.set_cons_succ])
    | ((with_reducible refine quiet_load 51 _ nb (u64s a b c d) ?_ hrn.out Tryd.underlying51 ?_ hi2.out ?_ ?_); (· rfl); (· rfl); (· rfl); simp only [Act.put, List.setIfInBounds_toArray, List.set_cons_zero, List.set_cons_succ])
    | go_big_quiet_step (first | exact cm.out _ _ | exact cl.out _ _))
  refine wpQuiet_nil ?_
  intro _ hw'
  obtain ⟨⟨dq, osq⟩, hw''⟩ := hw'
  subst hw''
  have hR5 := Lib.hid (hR4.out.below (below_regrown V dq osq) hR4.out.lt)
  have hS5 := Lib.hid (hS.out.below (below_regrown V dq osq) hS.out.lt)
  have hB5 := Lib.hid (grew hB4.out (below_regrown V dq osq))
  clear hrs hrn hrt hi0 hi1 hi2 cl cm heq hR4 hS hB4
  generalize grow (redrawn V dq) osq = w7 at *
  go_wp2_with (with_reducible refine zStore 24 _ _ rfl ?_)
  refine Lib.hid ?_
  refine wpList_store_mid rfl 24 _ _ rfl w.heap.size 0 (hdr 0 0 0 0).toArray rfl rfl (hR5.out.there 0 4 (by simp)) sizeH4 (all_oneCell_toArray (hdr_one 0 0 0 0)) ?_
  go_wp2_with fail
  have hfin := whole_all hR5.out (vs := hdr 0 0 0 0) rfl
  exact bodyPost_ret (result_cell_tmp Tryd.results8 rfl rfl hfin.range Tryd.underlying24 rfl sizeH4) rfl ⟨rfl, below_store hB5.out (Nat.le_refl _) (Nat.le_refl _) 0 _⟩
set_option maxRecDepth 100000 in
set_option maxHeartbeats 4000000 in
theorem decH_may (s X : ByteArray) (w : World) (hT : Wide w) (hs : 32 ≤ s.size) (hX : s.extract 0 32 = X) (hk : okH (numH X 0 : Nat) (wrap64 (numH X 3 : Nat)) = false) :
    Calls Tryd.prog 8 #[.string s] w fun x w' => x = .returned (.tuple #[.agg #[.int .i64 0, .int .u32 0, .int .u32 0, .int .i64 0], .int .i64 4]) ∧ Below w.heap.size w w' := by
  have hxz : X.size = 32 := by rw [← hX]; simp; omega
  have hxl : X.data.toList.length = 32 := by rw [Array.length_toList]; exact hxz
  have hrd := fun W hW => readH_any X W hW hxz
  have hnl := numH_lt X
  have hly := fun W hW => layH_any (numH X 0) (numH X 1) (numH X 2) (numH X 3) W hW (hnl 0) (hnl 1) (hnl 2) (hnl 3)
  have hho := fun W => headerOf_any (numH X 0) (numH X 1) (numH X 2) (numH X 3) W (hnl 0) (hnl 1) (hnl 2) (hnl 3)
  have hdl := headerL_len (numH X 0) (numH X 1) (numH X 2) (numH X 3)
  have heq := equal_bytes 47 32 Tryd.underlying47 X.data.toList (headerL (numH X 0) (numH X 1) (numH X 2) (numH X 3)) hxl hdl
  have htk : s.data.toList.take 32 = X.data.toList := by rw [← hX, ext_list]; rfl
  obtain ⟨E, hE⟩ : ∃ E, Hid (headerL (numH X 0) (numH X 1) (numH X 2) (numH X 3) = E) := ⟨_, Lib.hid rfl⟩
  rw [hE.out] at hly hdl heq
  obtain ⟨a, e0⟩ : ∃ a, Hid (numH X 0 = a) := ⟨_, Lib.hid rfl⟩
  obtain ⟨b, e1⟩ : ∃ a, Hid (numH X 1 = a) := ⟨_, Lib.hid rfl⟩
  obtain ⟨c, e2⟩ : ∃ a, Hid (numH X 2 = a) := ⟨_, Lib.hid rfl⟩
  obtain ⟨d, e3⟩ : ∃ a, Hid (numH X 3 = a) := ⟨_, Lib.hid rfl⟩
  rw [e0.out, e1.out, e2.out, e3.out] at hrd hly hho
  rw [e0.out, e3.out] at hk
  obtain ⟨z, hz⟩ : ∃ z : Int, Hid (wrap64 (d : Nat) = z) := ⟨_, Lib.hid rfl⟩
  rw [hz.out] at hho hk
  have hma : ∀ W : World, Calls Tryd.prog 19 #[.agg #[.int .i64 (a : Int), .int .u32 (b : Int), .int .u32 (c : Int), .int .i64 z]] W fun x w' => x = .returned (.bool false) ∧ Below W.heap.size W w' := fun W => by
    have h := mayBe_any a b c z W
    rw [hk] at h
    exact h
  obtain ⟨D1, hD1⟩ : ∃ x, Hid (bytesV X.data.toList = x) := ⟨_, Lib.hid rfl⟩
  obtain ⟨D2, hD2⟩ : ∃ x, Hid (bytesV E = x) := ⟨_, Lib.hid rfl⟩
  have hl1 : Hid (D1.length = 32) := Lib.hid (by rw [← hD1.out, bytesV_len, hxl])
  have hsp : Hid (splice (List.replicate 32 (Value.int .u8 0)) 0 D1 = D1) := Lib.hid (by unfold splice; rw [List.take_zero, List.nil_append, Nat.zero_add, hl1.out, List.drop_replicate]; simp)
  rw [hD1.out, hD2.out] at heq
  rw [hD1.out] at hrd
  rw [hD2.out] at hly
  have hsn : ¬ (s.size : Int) < 32 := by omega
  have hsg : (32 : Int) ≤ (s.size : Int) := by omega
  have hmin : Hid (Nat.min s.size 32 = 32) := Lib.hid (Nat.min_eq_right hs)
  replace htk := Lib.hid htk
  clear hnl hdl hxl hX hk
  replace hT := Lib.hid hT
  replace hrd := Lib.hid hrd
  replace hly := Lib.hid hly
  replace hho := Lib.hid hho
  replace hma := Lib.hid hma
  replace hxz := Lib.hid hxz
  have hR := (Whole.new w 24 (hdr 0 0 0 0)).alloc (.cells (List.replicate 32 (Value.int .u8 0)).toArray 47)
  have hL := Whole.new (w.alloc (.cells (hdr 0 0 0 0).toArray 24)) 47 (List.replicate 32 (Value.int .u8 0))
  rw [show (w.alloc (.cells (hdr 0 0 0 0).toArray 24)).heap.size = w.heap.size + 1 from by simp] at hL
  have hB := grewAlloc ((Below.refl w.heap.size w).alloc (Nat.le_refl _) (.cells (hdr 0 0 0 0).toArray 24)) (.cells (List.replicate 32 (Value.int .u8 0)).toArray 47)
  obtain ⟨W, hW⟩ : ∃ W, Hid (W = (w.alloc (.cells (hdr 0 0 0 0).toArray 24)).alloc (.cells (List.replicate 32 (Value.int .u8 0)).toArray 47)) := ⟨_, Lib.hid rfl⟩
  rw [← hW.out] at hR hL hB
  replace hR := Lib.hid hR
  replace hL := Lib.hid hL
  replace hB := Lib.hid hB
  go_enter Tryd.func8, Tryd.ntmps8
  go_wp2_with (with_reducible refine zCopy _ _ _ _ rfl ?_)
  refine Lib.hid ?_
  refine wpList_copy_long rfl _ _ rfl (w.heap.size + 1) 0 32 32 rfl s rfl 32 hmin.out 47 _ (by have h := hL.out; rw [hW.out] at h; exact h) (by simp) hs ?_
  intro w4 hL4 hk4 hsz4
  replace hk4 := hk4 (fun q => q = w.heap.size + 1) W (.inl rfl) (by rw [hW.out]; exact Kept.refl _ _)
  rw [htk.out, hD1.out, hsp.out] at hL4
  have hR4 := hR.out.of_kept hk4 (by omega)
  have hB4 := hB.out.trans (hk4.below hB.out.size (fun q hq => by omega))
  clear hW hL hk4 hsz4 hR hB
  go_wp2_with (with_reducible refine zLoad 47 _ rfl ?_)
  refine Lib.hid ?_
  refine wpList_load_mid rfl 47 _ rfl (w.heap.size + 1) 0 rfl D1 _ hL4.range Tryd.underlying47 rfl (by rw [hl1.out]; exact sizeL32) ?_
  go_wp2_with fail
  refine (hrd.out _ (hT.out.below hB4)).mono ?_
  rintro ee w5 ⟨rfl, hb5⟩
  have hN := Whole.new w5 51 (u64s a b c d)
  replace hR4 := (hR4.below hb5 hR4.lt).alloc (.cells (u64s a b c d).toArray 51)
  replace hL4 := (hL4.below hb5 hL4.lt).alloc (.cells (u64s a b c d).toArray 51)
  replace hB4 := grewAlloc (grew hB4 hb5) (.cells (u64s a b c d).toArray 51)
  clear hb5
  go_wp2_with fail
  refine (hho.out _).mono ?_
  rintro ee w6 ⟨rfl, hb6⟩
  have hS := Whole.new w6 24 (hdr a b c z)
  replace hR4 := (hR4.below hb6 hR4.lt).alloc (.cells (hdr a b c z).toArray 24)
  replace hL4 := (hL4.below hb6 hL4.lt).alloc (.cells (hdr a b c z).toArray 24)
  replace hN := (hN.below hb6 hN.lt).alloc (.cells (hdr a b c z).toArray 24)
  replace hB4 := grewAlloc (grew hB4 hb6) (.cells (hdr a b c z).toArray 24)
  clear hb6
  go_wp2_with fail
  generalize w5.heap.size = nb at *
  generalize w6.heap.size = sb at *
  obtain ⟨V, hV⟩ : ∃ V, Hid (V = w6.alloc (.cells (hdr a b c z).toArray 24)) := ⟨_, Lib.hid rfl⟩
  rw [← hV.out] at hR4 hL4 hN hS hB4
  rw [show w6.alloc (.cells #[.int .i64 (a : Int), .int .u32 (b : Int), .int .u32 (c : Int), .int .i64 z] 24) = V from hV.out.symm]
  clear hV
  have hrs : Hid (∀ w', (∃ p : Regrown, w' = grow (redrawn V p.d) p.os) → w'.rangeAt sb 0 (hdr a b c z)) := Lib.hid (by rintro _ ⟨p, rfl⟩; exact (hS.below (below_regrown V p.d p.os) hS.lt).range)
  have hrn : Hid (∀ w', (∃ p : Regrown, w' = grow (redrawn V p.d) p.os) → w'.rangeAt nb 0 (u64s a b c d)) := Lib.hid (by rintro _ ⟨p, rfl⟩; exact (hN.below (below_regrown V p.d p.os) hN.lt).range)
  have hrt : Hid (∀ w', (∃ p : Regrown, w' = grow (redrawn V p.d) p.os) → w'.rangeAt (w.heap.size + 1) 0 D1) := Lib.hid (by rintro _ ⟨p, rfl⟩; exact (hL4.below (below_regrown V p.d p.os) hL4.lt).range)
  have hi0 : Hid ((Tryd.prog.info? 24).map (·.size) = some (hdr a b c z).length) := Lib.hid sizeH4
  have hi1 : Hid ((Tryd.prog.info? 47).map (·.size) = some D1.length) := Lib.hid (by rw [hl1.out]; exact sizeL32)
  have hi2 : Hid ((Tryd.prog.info? 51).map (·.size) = some (u64s a b c d).length) := Lib.hid sizeN4
  have cm := Lib.hid (regrown_any hma.out V)
  have cl := Lib.hid (regrown_if hly.out V (fun w' hb => (hT.out.below hB4).below hb))
  replace hR4 := Lib.hid hR4
  replace hS := Lib.hid hS
  replace hB4 := Lib.hid hB4
  clear hN hL4
  refine wp_region_quiet_below (by kernel_rfl) (by kernel_rfl) ?_
  repeat (first
    | ((with_reducible refine quiet_load 24 _ sb (hdr a b c z) ?_ hrs.out Tryd.underlying24 ?_ hi0.out ?_ ?_); (· rfl); (· rfl); (· rfl); simp only [Act.put, List.setIfInBounds_toArray, List.set_cons_zero, List.set_cons_succ])
    | ((with_reducible refine quiet_load 47 _ (w.heap.size + 1) D1 ?_ hrt.out Tryd.underlying47 ?_ hi1.out ?_ ?_); (· rfl); (· rfl); (· rfl); simp only [Act.put, List.setIfInBounds_toArray, List.set_cons_zero, List.set_cons_succ])
    | ((with_reducible refine quiet_load 51 _ nb (u64s a b c d) ?_ hrn.out Tryd.underlying51 ?_ hi2.out ?_ ?_); (· rfl); (· rfl); (· rfl); simp only [Act.put, List.setIfInBounds_toArray, List.set_cons_zero, List.set_cons_succ])
    | go_big_quiet_step (first | exact cm.out _ _ | exact cl.out _ _))
  refine wpQuiet_nil ?_
  intro _ hw'
  obtain ⟨⟨dq, osq⟩, hw''⟩ := hw'
  subst hw''
  have hR5 := Lib.hid (hR4.out.below (below_regrown V dq osq) hR4.out.lt)
  have hS5 := Lib.hid (hS.out.below (below_regrown V dq osq) hS.out.lt)
  have hB5 := Lib.hid (grew hB4.out (below_regrown V dq osq))
  clear hrs hrn hrt hi0 hi1 hi2 cl cm heq hR4 hS hB4
  generalize grow (redrawn V dq) osq = w7 at *
  go_wp2_with (with_reducible refine zStore 24 _ _ rfl ?_)
  refine Lib.hid ?_
  refine wpList_store_mid rfl 24 _ _ rfl w.heap.size 0 (hdr 0 0 0 0).toArray rfl rfl (hR5.out.there 0 4 (by simp)) sizeH4 (all_oneCell_toArray (hdr_one 0 0 0 0)) ?_
  go_wp2_with fail
  have hfin := whole_all hR5.out (vs := hdr 0 0 0 0) rfl
  exact bodyPost_ret (result_cell_tmp Tryd.results8 rfl rfl hfin.range Tryd.underlying24 rfl sizeH4) rfl ⟨rfl, below_store hB5.out (Nat.le_refl _) (Nat.le_refl _) 0 _⟩
end Go.Proofs.YtoegohofmhijgaaDoor.W
