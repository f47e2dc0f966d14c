/- The walks of the definition of headers: Decode. -/
import Derived.Test.YtoegohofmhijgaaDoorHdRef
import Derived.Test.YtoegohofmhijgaaDoorTexts
import Derived.Test.YtoegohofmhijgaaDoorStops
namespace Go.Proofs.YtoegohofmhijgaaDoor.W
open Go.RowKit Go.Sort
open Go.Proofs.YtoegohofmhijgaaDoor.M Go.Proofs.YtoegohofmhijgaaDoor.D Go.Proofs.YtoegohofmhijgaaDoor.Z
set_option linter.unusedVariables false

theorem sizeG5 : (Tryd.prog.info? 31).map (·.size) = some 5 := by kernel_rfl
theorem sizeR4 : (Tryd.prog.info? 29).map (·.size) = some 4 := by kernel_rfl
set_option maxRecDepth 100000 in
set_option maxHeartbeats 4000000 in
theorem rdecH_short (s : ByteArray) (w : World) (hs : s.size < 32) :
    Calls Tryd.prog 9 #[.string s] w fun x w' => x = .returned (.agg #[.int .i64 0, .int .u32 0, .int .u32 0, .int .i64 0, .int .i64 3]) ∧ Below w.heap.size w w' := by
  have hz : (s.size : Int) < 32 := by omega
  have hB := Lib.hid ((Below.refl w.heap.size w).alloc (Nat.le_refl _) (.cells #[.int .i64 0, .int .u32 0, .int .u32 0, .int .i64 0, .int .i64 3] 31))
  go_enter Tryd.func9, Tryd.ntmps9
  go_wp2_with fail
  exact bodyPost_ret (v := .agg #[.int .i64 0, .int .u32 0, .int .u32 0, .int .i64 0, .int .i64 3]) (by simp [results, Tryd.results9, go_sem]) rfl ⟨rfl, hB.out⟩
set_option maxRecDepth 100000 in
set_option maxHeartbeats 4000000 in
theorem rdecH_big (s : ByteArray) (w : World) (hs : 32 ≤ s.size) (hsz : s.size ≤ 1000000) (hb : ¬ baseH s ≤ 1099511627776) :
    Calls Tryd.prog 9 #[.string s] w fun x w' => x = .returned (.agg #[.int .i64 0, .int .u32 0, .int .u32 0, .int .i64 0, .int .i64 4]) ∧ Below w.heap.size w w' := by
  have hr3 : ∀ W : World, Calls Tryd.prog 21 #[.string (s.extract 12 20)] W fun e w' => e = .returned (.int .u64 (baseH s : Nat)) ∧ W = w' := fun W => rread_any _ W (by simp; omega)
  have l3 := baseH_lt s
  obtain ⟨d, e3⟩ : ∃ a, Hid (baseH s = a) := ⟨_, Lib.hid rfl⟩
  rw [e3.out] at hr3 hb l3
  replace hr3 := Lib.hid hr3
  have i1 : (32 : Int) ≤ (s.size : Int) := by omega
  have i2 : (20 : Int) ≤ (s.size : Int) := by omega
  have i3 : (12 : Int) ≤ (s.size : Int) := by omega
  have hnb : (1099511627776 : Int) < (d : Int) := by omega
  have hB := Lib.hid ((Below.refl w.heap.size w).alloc (Nat.le_refl _) (.cells #[.int .i64 0, .int .u32 0, .int .u32 0, .int .i64 0, .int .i64 4] 31))
  go_enter Tryd.func9, Tryd.ntmps9
  go_wp2_with fail
  refine (hr3.out _).mono ?_
  rintro ee w1 ⟨rfl, rfl⟩
  go_wp2_with fail
  exact bodyPost_ret (v := .agg #[.int .i64 0, .int .u32 0, .int .u32 0, .int .i64 0, .int .i64 4]) (by simp [results, Tryd.results9, go_sem]) rfl ⟨rfl, hB.out⟩
set_option maxRecDepth 100000 in
set_option maxHeartbeats 8000000 in
theorem rdecH_yes (s : ByteArray) (w : World) (hs : 32 ≤ s.size) (hsz : s.size ≤ 1000000) (h0 : 1 ≤ logH s) (hb : baseH s ≤ 1099511627776) (h1 : B (headerL (logH s) (genH s) (stH s) (baseH s)) = s.extract 0 32) :
    Calls Tryd.prog 9 #[.string s] w fun x w' => x = .returned (.agg #[.int .i64 (logH s : Nat), .int .u32 (genH s : Nat), .int .u32 (stH s : Nat), .int .i64 (baseH s : Nat), .int .i64 0]) ∧ Below w.heap.size w w' := by
  have l0 := logH_lt s
  have l1 := genH_lt s
  have l2 := stH_lt s
  have hr0 : ∀ W : World, Calls Tryd.prog 21 #[.string (s.extract 2 4)] W fun e w' => e = .returned (.int .u64 (logH s : Nat)) ∧ W = w' := fun W => rread_any _ W (by simp; omega)
  have hr1 : ∀ W : World, Calls Tryd.prog 21 #[.string (s.extract 4 8)] W fun e w' => e = .returned (.int .u64 (genH s : Nat)) ∧ W = w' := fun W => rread_any _ W (by simp; omega)
  have hr2 : ∀ W : World, Calls Tryd.prog 21 #[.string (s.extract 8 12)] W fun e w' => e = .returned (.int .u64 (stH s : Nat)) ∧ W = w' := fun W => rread_any _ W (by simp; omega)
  have hr3 : ∀ W : World, Calls Tryd.prog 21 #[.string (s.extract 12 20)] W fun e w' => e = .returned (.int .u64 (baseH s : Nat)) ∧ W = w' := fun W => rread_any _ W (by simp; omega)
  have hen := fun W => rencH_any (logH s) (genH s) (stH s) (baseH s) W l0 l1 l2 hb
  obtain ⟨U, hU⟩ : ∃ U, Hid (B (headerL (logH s) (genH s) (stH s) (baseH s)) = U) := ⟨_, Lib.hid rfl⟩
  rw [hU.out] at hen h1
  obtain ⟨a, e0⟩ : ∃ a, Hid (logH s = a) := ⟨_, Lib.hid rfl⟩
  obtain ⟨b, e1⟩ : ∃ a, Hid (genH s = a) := ⟨_, Lib.hid rfl⟩
  obtain ⟨c, e2⟩ : ∃ a, Hid (stH s = a) := ⟨_, Lib.hid rfl⟩
  obtain ⟨d, e3⟩ : ∃ a, Hid (baseH s = a) := ⟨_, Lib.hid rfl⟩
  rw [e0.out] at hr0 l0 h0 hen ⊢
  rw [e1.out] at hr1 l1 hen ⊢
  rw [e2.out] at hr2 l2 hen ⊢
  rw [e3.out] at hr3 hb hen ⊢
  have hma : ∀ W : World, Calls Tryd.prog 12 #[.agg #[.int .i64 (a : Int), .int .u32 (b : Int), .int .u32 (c : Int), .int .i64 (d : Int)]] W fun x w' => x = .returned (.bool true) ∧ Below W.heap.size W w' := fun W => by
    have h := rmayH_any a b c d W
    rw [show okH (a : Int) (d : Int) = true from by unfold okH; simp; omega] at h
    exact h
  have hus := bytes_eq h1
  have i1 : (32 : Int) ≤ (s.size : Int) := by omega
  have i2 : (20 : Int) ≤ (s.size : Int) := by omega
  have i3 : (12 : Int) ≤ (s.size : Int) := by omega
  have i4 : (8 : Int) ≤ (s.size : Int) := by omega
  have i5 : (4 : Int) ≤ (s.size : Int) := by omega
  have hc0 : IntKind.i64.wrap (a : Int) = a := IntWalk.i64_in _ (by omega)
  have hc1 : IntKind.u32.wrap (b : Int) = b := IntWalk.u32_in _ (by omega)
  have hc2 : IntKind.u32.wrap (c : Int) = c := IntWalk.u32_in _ (by omega)
  have hc3 : IntKind.i64.wrap (d : Int) = d := IntWalk.i64_in _ (by omega)
  have hnb : (d : Int) ≤ 1099511627776 := by omega
  replace hr0 := Lib.hid hr0
  replace hr1 := Lib.hid hr1
  replace hr2 := Lib.hid hr2
  replace hr3 := Lib.hid hr3
  replace hma := Lib.hid hma
  replace hen := Lib.hid hen
  clear e0 e1 e2 e3 h0 h1 hU
  have hR := Whole.new w 31 [.int .i64 0, .int .u32 0, .int .u32 0, .int .i64 0, .int .i64 0]
  have hB := (Below.refl w.heap.size w).alloc (Nat.le_refl _) (.cells #[.int .i64 0, .int .u32 0, .int .u32 0, .int .i64 0, .int .i64 0] 31)
  obtain ⟨W, hW⟩ : ∃ W, Hid (W = w.alloc (.cells #[.int .i64 0, .int .u32 0, .int .u32 0, .int .i64 0, .int .i64 0] 31)) := ⟨_, Lib.hid rfl⟩
  replace hR : Hid (Whole W w.heap.size 31 [.int .i64 0, .int .u32 0, .int .u32 0, .int .i64 0, .int .i64 0]) := Lib.hid (by rw [hW.out]; exact hR)
  replace hB : Hid (Below w.heap.size w W) := Lib.hid (by rw [hW.out]; exact hB)
  go_enter Tryd.func9, Tryd.ntmps9
  go_wp2_with fail
  refine (hr3.out _).mono ?_
  rintro ee w1 ⟨rfl, rfl⟩
  go_wp2_with fail
  rw [← hW.out]
  clear hW
  have hN := (Whole.new W 29 [.int .i64 (a : Int), .int .u32 (b : Int), .int .u32 (c : Int), .int .i64 (d : Int)]).drewN 1
  replace hR := (hR.out.alloc (.cells [.int .i64 (a : Int), .int .u32 (b : Int), .int .u32 (c : Int), .int .i64 (d : Int)].toArray 29)).drewN 1
  replace hB := drewS (grewAlloc hB.out (.cells [.int .i64 (a : Int), .int .u32 (b : Int), .int .u32 (c : Int), .int .i64 (d : Int)].toArray 29)) 1
  obtain ⟨V, hV⟩ : ∃ V, Hid (V = (W.alloc (.cells #[.int .i64 (a : Int), .int .u32 (b : Int), .int .u32 (c : Int), .int .i64 (d : Int)] 29)).drew) := ⟨_, Lib.hid rfl⟩
  replace hN : Whole V W.heap.size 29 [.int .i64 (a : Int), .int .u32 (b : Int), .int .u32 (c : Int), .int .i64 (d : Int)] := by rw [hV.out]; exact hN
  replace hR : Whole V w.heap.size 31 [.int .i64 0, .int .u32 0, .int .u32 0, .int .i64 0, .int .i64 0] := by rw [hV.out]; exact hR
  replace hB : Below w.heap.size w V := by rw [hV.out]; exact hB
  have hrn : Hid (∀ w', (∃ p : Regrown, w' = grow (redrawn V p.d) p.os) → w'.rangeAt W.heap.size 0 [.int .i64 (a : Int), .int .u32 (b : Int), .int .u32 (c : Int), .int .i64 (d : Int)]) := Lib.hid (by rintro _ ⟨p, rfl⟩; exact (hN.below (below_regrown V p.d p.os) hN.lt).range)
  have hi0 : Hid ((Tryd.prog.info? 29).map (·.size) = some ([.int .i64 (a : Int), .int .u32 (b : Int), .int .u32 (c : Int), .int .i64 (d : Int)] : List Value).length) := Lib.hid sizeR4
  have cm := Lib.hid (regrown_any hma.out V)
  have ce := Lib.hid (regrown_any hen.out V)
  replace hN := Lib.hid hN
  replace hR := Lib.hid hR
  replace hB := Lib.hid hB
  go_region_held3 (fun w' => True) (trivial) (first
    | (go_at_call 21; (with_reducible refine (hr0.out _).mono ?_); rintro ee w2 ⟨rfl, rfl⟩)
    | (go_at_call 21; (with_reducible refine (hr1.out _).mono ?_); rintro ee w2 ⟨rfl, rfl⟩)
    | (go_at_call 21; (with_reducible refine (hr2.out _).mono ?_); rintro ee w2 ⟨rfl, rfl⟩))
  · rw [← hV.out]
    clear hV
    go_wp2_with fail
    generalize W.heap.size = nb at *
    refine wp_region_quiet_below (by kernel_rfl) (by kernel_rfl) ?_
    repeat (first
      | ((with_reducible refine quiet_load 29 _ nb [.int .i64 (a : Int), .int .u32 (b : Int), .int .u32 (c : Int), .int .i64 (d : Int)] ?_ hrn.out Tryd.underlying29 ?_ hi0.out ?_ ?_); (· rfl); (· rfl); (· rfl); simp only [Act.put, List.setIfInBounds_toArray, List.set_cons_zero, List.set_cons_succ])
      | go_big_quiet_step (first | exact cm.out _ _ | exact ce.out _ _))
    refine wpQuiet_nil ?_
    intro _ hw'
    obtain ⟨⟨dq, osq⟩, hw''⟩ := hw'
    subst hw''
    have hR5 := Lib.hid (hR.out.below (below_regrown V dq osq) hR.out.lt)
    have hN5 := Lib.hid (hN.out.below (below_regrown V dq osq) hN.out.lt)
    have hB5 := Lib.hid (grew hB.out (below_regrown V dq osq))
    clear hrn hi0 cm ce hR hN hB
    generalize grow (redrawn V dq) osq = w7 at *
    go_wp2_with (with_reducible refine zLoad 29 _ rfl ?_)
    refine Lib.hid ?_
    refine wpList_load_mid rfl 29 _ rfl nb 0 rfl [.int .i64 (a : Int), .int .u32 (b : Int), .int .u32 (c : Int), .int .i64 (d : Int)] _ hN5.out.range Tryd.underlying29 rfl sizeR4 ?_
    go_wp2_with (with_reducible refine zStore 31 _ _ rfl ?_)
    refine Lib.hid ?_
    refine wpList_store_mid rfl 31 _ _ rfl w.heap.size 0 #[.int .i64 (a : Int), .int .u32 (b : Int), .int .u32 (c : Int), .int .i64 (d : Int), .int .i64 0] rfl rfl (hR5.out.there 0 5 (by simp)) sizeG5 (by simp [Value.oneCell']) ?_
    go_wp2_with fail
    have hfin := whole_all hR5.out (vs := [.int .i64 (a : Int), .int .u32 (b : Int), .int .u32 (c : Int), .int .i64 (d : Int), .int .i64 0]) rfl
    exact bodyPost_ret (result_cell Tryd.results9 rfl hfin.range Tryd.underlying31 rfl sizeG5) rfl ⟨rfl, below_store hB5.out (Nat.le_refl _) (Nat.le_refl _) 0 _⟩
  · rw [← hV.out]
    clear hV
    go_wp2_with fail
    generalize W.heap.size = nb at *
    refine wp_region_quiet_below (by kernel_rfl) (by kernel_rfl) ?_
    repeat (first
      | ((with_reducible refine quiet_load 29 _ nb [.int .i64 (a : Int), .int .u32 (b : Int), .int .u32 (c : Int), .int .i64 (d : Int)] ?_ hrn.out Tryd.underlying29 ?_ hi0.out ?_ ?_); (· rfl); (· rfl); (· rfl); simp only [Act.put, List.setIfInBounds_toArray, List.set_cons_zero, List.set_cons_succ])
      | go_big_quiet_step (first | exact cm.out _ _ | exact ce.out _ _))
    refine wpQuiet_nil ?_
    intro _ hw'
    obtain ⟨⟨dq, osq⟩, hw''⟩ := hw'
    subst hw''
    have hR5 := Lib.hid (hR.out.below (below_regrown V dq osq) hR.out.lt)
    have hN5 := Lib.hid (hN.out.below (below_regrown V dq osq) hN.out.lt)
    have hB5 := Lib.hid (grew hB.out (below_regrown V dq osq))
    clear hrn hi0 cm ce hR hN hB
    generalize grow (redrawn V dq) osq = w7 at *
    go_wp2_with (with_reducible refine zLoad 29 _ rfl ?_)
    refine Lib.hid ?_
    refine wpList_load_mid rfl 29 _ rfl nb 0 rfl [.int .i64 (a : Int), .int .u32 (b : Int), .int .u32 (c : Int), .int .i64 (d : Int)] _ hN5.out.range Tryd.underlying29 rfl sizeR4 ?_
    go_wp2_with (with_reducible refine zStore 31 _ _ rfl ?_)
    refine Lib.hid ?_
    refine wpList_store_mid rfl 31 _ _ rfl w.heap.size 0 #[.int .i64 (a : Int), .int .u32 (b : Int), .int .u32 (c : Int), .int .i64 (d : Int), .int .i64 0] rfl rfl (hR5.out.there 0 5 (by simp)) sizeG5 (by simp [Value.oneCell']) ?_
    go_wp2_with fail
    have hfin := whole_all hR5.out (vs := [.int .i64 (a : Int), .int .u32 (b : Int), .int .u32 (c : Int), .int .i64 (d : Int), .int .i64 0]) rfl
    exact bodyPost_ret (result_cell Tryd.results9 rfl hfin.range Tryd.underlying31 rfl sizeG5) rfl ⟨rfl, below_store hB5.out (Nat.le_refl _) (Nat.le_refl _) 0 _⟩
  · rw [← hV.out]
    clear hV
    go_wp2_with fail
    generalize W.heap.size = nb at *
    refine wp_region_quiet_below (by kernel_rfl) (by kernel_rfl) ?_
    repeat (first
      | ((with_reducible refine quiet_load 29 _ nb [.int .i64 (a : Int), .int .u32 (b : Int), .int .u32 (c : Int), .int .i64 (d : Int)] ?_ hrn.out Tryd.underlying29 ?_ hi0.out ?_ ?_); (· rfl); (· rfl); (· rfl); simp only [Act.put, List.setIfInBounds_toArray, List.set_cons_zero, List.set_cons_succ])
      | go_big_quiet_step (first | exact cm.out _ _ | exact ce.out _ _))
    refine wpQuiet_nil ?_
    intro _ hw'
    obtain ⟨⟨dq, osq⟩, hw''⟩ := hw'
    subst hw''
    have hR5 := Lib.hid (hR.out.below (below_regrown V dq osq) hR.out.lt)
    have hN5 := Lib.hid (hN.out.below (below_regrown V dq osq) hN.out.lt)
    have hB5 := Lib.hid (grew hB.out (below_regrown V dq osq))
    clear hrn hi0 cm ce hR hN hB
    generalize grow (redrawn V dq) osq = w7 at *
    go_wp2_with (with_reducible refine zLoad 29 _ rfl ?_)
    refine Lib.hid ?_
    refine wpList_load_mid rfl 29 _ rfl nb 0 rfl [.int .i64 (a : Int), .int .u32 (b : Int), .int .u32 (c : Int), .int .i64 (d : Int)] _ hN5.out.range Tryd.underlying29 rfl sizeR4 ?_
    go_wp2_with (with_reducible refine zStore 31 _ _ rfl ?_)
    refine Lib.hid ?_
    refine wpList_store_mid rfl 31 _ _ rfl w.heap.size 0 #[.int .i64 (a : Int), .int .u32 (b : Int), .int .u32 (c : Int), .int .i64 (d : Int), .int .i64 0] rfl rfl (hR5.out.there 0 5 (by simp)) sizeG5 (by simp [Value.oneCell']) ?_
    go_wp2_with fail
    have hfin := whole_all hR5.out (vs := [.int .i64 (a : Int), .int .u32 (b : Int), .int .u32 (c : Int), .int .i64 (d : Int), .int .i64 0]) rfl
    exact bodyPost_ret (result_cell Tryd.results9 rfl hfin.range Tryd.underlying31 rfl sizeG5) rfl ⟨rfl, below_store hB5.out (Nat.le_refl _) (Nat.le_refl _) 0 _⟩
  · rw [← hV.out]
    clear hV
    go_wp2_with fail
    generalize W.heap.size = nb at *
    refine wp_region_quiet_below (by kernel_rfl) (by kernel_rfl) ?_
    repeat (first
      | ((with_reducible refine quiet_load 29 _ nb [.int .i64 (a : Int), .int .u32 (b : Int), .int .u32 (c : Int), .int .i64 (d : Int)] ?_ hrn.out Tryd.underlying29 ?_ hi0.out ?_ ?_); (· rfl); (· rfl); (· rfl); simp only [Act.put, List.setIfInBounds_toArray, List.set_cons_zero, List.set_cons_succ])
      | go_big_quiet_step (first | exact cm.out _ _ | exact ce.out _ _))
    refine wpQuiet_nil ?_
    intro _ hw'
    obtain ⟨⟨dq, osq⟩, hw''⟩ := hw'
    subst hw''
    have hR5 := Lib.hid (hR.out.below (below_regrown V dq osq) hR.out.lt)
    have hN5 := Lib.hid (hN.out.below (below_regrown V dq osq) hN.out.lt)
    have hB5 := Lib.hid (grew hB.out (below_regrown V dq osq))
    clear hrn hi0 cm ce hR hN hB
    generalize grow (redrawn V dq) osq = w7 at *
    go_wp2_with (with_reducible refine zLoad 29 _ rfl ?_)
    refine Lib.hid ?_
    refine wpList_load_mid rfl 29 _ rfl nb 0 rfl [.int .i64 (a : Int), .int .u32 (b : Int), .int .u32 (c : Int), .int .i64 (d : Int)] _ hN5.out.range Tryd.underlying29 rfl sizeR4 ?_
    go_wp2_with (with_reducible refine zStore 31 _ _ rfl ?_)
    refine Lib.hid ?_
    refine wpList_store_mid rfl 31 _ _ rfl w.heap.size 0 #[.int .i64 (a : Int), .int .u32 (b : Int), .int .u32 (c : Int), .int .i64 (d : Int), .int .i64 0] rfl rfl (hR5.out.there 0 5 (by simp)) sizeG5 (by simp [Value.oneCell']) ?_
    go_wp2_with fail
    have hfin := whole_all hR5.out (vs := [.int .i64 (a : Int), .int .u32 (b : Int), .int .u32 (c : Int), .int .i64 (d : Int), .int .i64 0]) rfl
    exact bodyPost_ret (result_cell Tryd.results9 rfl hfin.range Tryd.underlying31 rfl sizeG5) rfl ⟨rfl, below_store hB5.out (Nat.le_refl _) (Nat.le_refl _) 0 _⟩
set_option maxRecDepth 100000 in
set_option maxHeartbeats 8000000 in
theorem rdecH_data (s : ByteArray) (w : World) (hs : 32 ≤ s.size) (hsz : s.size ≤ 1000000) (h0 : 1 ≤ logH s) (hb : baseH s ≤ 1099511627776) (h1 : ¬ B (headerL (logH s) (genH s) (stH s) (baseH s)) = s.extract 0 32) :
    Calls Tryd.prog 9 #[.string s] w fun x w' => x = .returned (.agg #[.int .i64 0, .int .u32 0, .int .u32 0, .int .i64 0, .int .i64 4]) ∧ Below w.heap.size w w' := by
  have l0 := logH_lt s
  have l1 := genH_lt s
  have l2 := stH_lt s
  have hr0 : ∀ W : World, Calls Tryd.prog 21 #[.string (s.extract 2 4)] W fun e w' => e = .returned (.int .u64 (logH s : Nat)) ∧ W = w' := fun W => rread_any _ W (by simp; omega)
  have hr1 : ∀ W : World, Calls Tryd.prog 21 #[.string (s.extract 4 8)] W fun e w' => e = .returned (.int .u64 (genH s : Nat)) ∧ W = w' := fun W => rread_any _ W (by simp; omega)
  have hr2 : ∀ W : World, Calls Tryd.prog 21 #[.string (s.extract 8 12)] W fun e w' => e = .returned (.int .u64 (stH s : Nat)) ∧ W = w' := fun W => rread_any _ W (by simp; omega)
  have hr3 : ∀ W : World, Calls Tryd.prog 21 #[.string (s.extract 12 20)] W fun e w' => e = .returned (.int .u64 (baseH s : Nat)) ∧ W = w' := fun W => rread_any _ W (by simp; omega)
  have hen := fun W => rencH_any (logH s) (genH s) (stH s) (baseH s) W l0 l1 l2 hb
  obtain ⟨U, hU⟩ : ∃ U, Hid (B (headerL (logH s) (genH s) (stH s) (baseH s)) = U) := ⟨_, Lib.hid rfl⟩
  rw [hU.out] at hen h1
  obtain ⟨a, e0⟩ : ∃ a, Hid (logH s = a) := ⟨_, Lib.hid rfl⟩
  obtain ⟨b, e1⟩ : ∃ a, Hid (genH s = a) := ⟨_, Lib.hid rfl⟩
  obtain ⟨c, e2⟩ : ∃ a, Hid (stH s = a) := ⟨_, Lib.hid rfl⟩
  obtain ⟨d, e3⟩ : ∃ a, Hid (baseH s = a) := ⟨_, Lib.hid rfl⟩
  rw [e0.out] at hr0 l0 h0 hen
  rw [e1.out] at hr1 l1 hen
  rw [e2.out] at hr2 l2 hen
  rw [e3.out] at hr3 hb hen
  have hma : ∀ W : World, Calls Tryd.prog 12 #[.agg #[.int .i64 (a : Int), .int .u32 (b : Int), .int .u32 (c : Int), .int .i64 (d : Int)]] W fun x w' => x = .returned (.bool true) ∧ Below W.heap.size W w' := fun W => by
    have h := rmayH_any a b c d W
    rw [show okH (a : Int) (d : Int) = true from by unfold okH; simp; omega] at h
    exact h
  have hus := bytes_ne h1
  have i1 : (32 : Int) ≤ (s.size : Int) := by omega
  have i2 : (20 : Int) ≤ (s.size : Int) := by omega
  have i3 : (12 : Int) ≤ (s.size : Int) := by omega
  have i4 : (8 : Int) ≤ (s.size : Int) := by omega
  have i5 : (4 : Int) ≤ (s.size : Int) := by omega
  have hc0 : IntKind.i64.wrap (a : Int) = a := IntWalk.i64_in _ (by omega)
  have hc1 : IntKind.u32.wrap (b : Int) = b := IntWalk.u32_in _ (by omega)
  have hc2 : IntKind.u32.wrap (c : Int) = c := IntWalk.u32_in _ (by omega)
  have hc3 : IntKind.i64.wrap (d : Int) = d := IntWalk.i64_in _ (by omega)
  have hnb : (d : Int) ≤ 1099511627776 := by omega
  replace hr0 := Lib.hid hr0
  replace hr1 := Lib.hid hr1
  replace hr2 := Lib.hid hr2
  replace hr3 := Lib.hid hr3
  replace hma := Lib.hid hma
  replace hen := Lib.hid hen
  clear e0 e1 e2 e3 h0 h1 hU
  have hR := Whole.new w 31 [.int .i64 0, .int .u32 0, .int .u32 0, .int .i64 0, .int .i64 0]
  have hB := (Below.refl w.heap.size w).alloc (Nat.le_refl _) (.cells #[.int .i64 0, .int .u32 0, .int .u32 0, .int .i64 0, .int .i64 0] 31)
  obtain ⟨W, hW⟩ : ∃ W, Hid (W = w.alloc (.cells #[.int .i64 0, .int .u32 0, .int .u32 0, .int .i64 0, .int .i64 0] 31)) := ⟨_, Lib.hid rfl⟩
  replace hR : Hid (Whole W w.heap.size 31 [.int .i64 0, .int .u32 0, .int .u32 0, .int .i64 0, .int .i64 0]) := Lib.hid (by rw [hW.out]; exact hR)
  replace hB : Hid (Below w.heap.size w W) := Lib.hid (by rw [hW.out]; exact hB)
  go_enter Tryd.func9, Tryd.ntmps9
  go_wp2_with fail
  refine (hr3.out _).mono ?_
  rintro ee w1 ⟨rfl, rfl⟩
  go_wp2_with fail
  rw [← hW.out]
  clear hW
  have hN := (Whole.new W 29 [.int .i64 (a : Int), .int .u32 (b : Int), .int .u32 (c : Int), .int .i64 (d : Int)]).drewN 1
  replace hR := (hR.out.alloc (.cells [.int .i64 (a : Int), .int .u32 (b : Int), .int .u32 (c : Int), .int .i64 (d : Int)].toArray 29)).drewN 1
  replace hB := drewS (grewAlloc hB.out (.cells [.int .i64 (a : Int), .int .u32 (b : Int), .int .u32 (c : Int), .int .i64 (d : Int)].toArray 29)) 1
  obtain ⟨V, hV⟩ : ∃ V, Hid (V = (W.alloc (.cells #[.int .i64 (a : Int), .int .u32 (b : Int), .int .u32 (c : Int), .int .i64 (d : Int)] 29)).drew) := ⟨_, Lib.hid rfl⟩
  replace hN : Whole V W.heap.size 29 [.int .i64 (a : Int), .int .u32 (b : Int), .int .u32 (c : Int), .int .i64 (d : Int)] := by rw [hV.out]; exact hN
  replace hR : Whole V w.heap.size 31 [.int .i64 0, .int .u32 0, .int .u32 0, .int .i64 0, .int .i64 0] := by rw [hV.out]; exact hR
  replace hB : Below w.heap.size w V := by rw [hV.out]; exact hB
  have hrn : Hid (∀ w', (∃ p : Regrown, w' = grow (redrawn V p.d) p.os) → w'.rangeAt W.heap.size 0 [.int .i64 (a : Int), .int .u32 (b : Int), .int .u32 (c : Int), .int .i64 (d : Int)]) := Lib.hid (by rintro _ ⟨p, rfl⟩; exact (hN.below (below_regrown V p.d p.os) hN.lt).range)
  have hi0 : Hid ((Tryd.prog.info? 29).map (·.size) = some ([.int .i64 (a : Int), .int .u32 (b : Int), .int .u32 (c : Int), .int .i64 (d : Int)] : List Value).length) := Lib.hid sizeR4
  have cm := Lib.hid (regrown_any hma.out V)
  have ce := Lib.hid (regrown_any hen.out V)
  replace hN := Lib.hid hN
  replace hR := Lib.hid hR
  replace hB := Lib.hid hB
  go_region_held3 (fun w' => True) (trivial) (first
    | (go_at_call 21; (with_reducible refine (hr0.out _).mono ?_); rintro ee w2 ⟨rfl, rfl⟩)
    | (go_at_call 21; (with_reducible refine (hr1.out _).mono ?_); rintro ee w2 ⟨rfl, rfl⟩)
    | (go_at_call 21; (with_reducible refine (hr2.out _).mono ?_); rintro ee w2 ⟨rfl, rfl⟩))
  · rw [← hV.out]
    clear hV
    go_wp2_with fail
    generalize W.heap.size = nb at *
    refine wp_region_quiet_below (by kernel_rfl) (by kernel_rfl) ?_
    repeat (first
      | ((with_reducible refine quiet_load 29 _ nb [.int .i64 (a : Int), .int .u32 (b : Int), .int .u32 (c : Int), .int .i64 (d : Int)] ?_ hrn.out Tryd.underlying29 ?_ hi0.out ?_ ?_); (· rfl); (· rfl); (· rfl); simp only [Act.put, List.setIfInBounds_toArray, List.set_cons_zero, List.set_cons_succ])
      | go_big_quiet_step (first | exact cm.out _ _ | exact ce.out _ _))
    refine wpQuiet_nil ?_
    intro _ hw'
    obtain ⟨⟨dq, osq⟩, hw''⟩ := hw'
    subst hw''
    have hR5 := Lib.hid (hR.out.below (below_regrown V dq osq) hR.out.lt)
    have hN5 := Lib.hid (hN.out.below (below_regrown V dq osq) hN.out.lt)
    have hB5 := Lib.hid (grew hB.out (below_regrown V dq osq))
    clear hrn hi0 cm ce hR hN hB
    generalize grow (redrawn V dq) osq = w7 at *
    go_wp2_with (with_reducible refine zStore 31 _ _ rfl ?_)
    refine Lib.hid ?_
    refine wpList_store_mid rfl 31 _ _ rfl w.heap.size 0 #[.int .i64 0, .int .u32 0, .int .u32 0, .int .i64 0, .int .i64 4] rfl rfl (hR5.out.there 0 5 (by simp)) sizeG5 (by simp [Value.oneCell']) ?_
    go_wp2_with fail
    have hfin := whole_all hR5.out (vs := [.int .i64 0, .int .u32 0, .int .u32 0, .int .i64 0, .int .i64 4]) rfl
    exact bodyPost_ret (result_cell Tryd.results9 rfl hfin.range Tryd.underlying31 rfl sizeG5) rfl ⟨rfl, below_store hB5.out (Nat.le_refl _) (Nat.le_refl _) 0 _⟩
  · rw [← hV.out]
    clear hV
    go_wp2_with fail
    generalize W.heap.size = nb at *
    refine wp_region_quiet_below (by kernel_rfl) (by kernel_rfl) ?_
    repeat (first
      | ((with_reducible refine quiet_load 29 _ nb [.int .i64 (a : Int), .int .u32 (b : Int), .int .u32 (c : Int), .int .i64 (d : Int)] ?_ hrn.out Tryd.underlying29 ?_ hi0.out ?_ ?_); (· rfl); (· rfl); (· rfl); simp only [Act.put, List.setIfInBounds_toArray, List.set_cons_zero, List.set_cons_succ])
      | go_big_quiet_step (first | exact cm.out _ _ | exact ce.out _ _))
    refine wpQuiet_nil ?_
    intro _ hw'
    obtain ⟨⟨dq, osq⟩, hw''⟩ := hw'
    subst hw''
    have hR5 := Lib.hid (hR.out.below (below_regrown V dq osq) hR.out.lt)
    have hN5 := Lib.hid (hN.out.below (below_regrown V dq osq) hN.out.lt)
    have hB5 := Lib.hid (grew hB.out (below_regrown V dq osq))
    clear hrn hi0 cm ce hR hN hB
    generalize grow (redrawn V dq) osq = w7 at *
    go_wp2_with (with_reducible refine zStore 31 _ _ rfl ?_)
    refine Lib.hid ?_
    refine wpList_store_mid rfl 31 _ _ rfl w.heap.size 0 #[.int .i64 0, .int .u32 0, .int .u32 0, .int .i64 0, .int .i64 4] rfl rfl (hR5.out.there 0 5 (by simp)) sizeG5 (by simp [Value.oneCell']) ?_
    go_wp2_with fail
    have hfin := whole_all hR5.out (vs := [.int .i64 0, .int .u32 0, .int .u32 0, .int .i64 0, .int .i64 4]) rfl
    exact bodyPost_ret (result_cell Tryd.results9 rfl hfin.range Tryd.underlying31 rfl sizeG5) rfl ⟨rfl, below_store hB5.out (Nat.le_refl _) (Nat.le_refl _) 0 _⟩
  · rw [← hV.out]
    clear hV
    go_wp2_with fail
    generalize W.heap.size = nb at *
    refine wp_region_quiet_below (by kernel_rfl) (by kernel_rfl) ?_
    repeat (first
      | ((with_reducible refine quiet_load 29 _ nb [.int .i64 (a : Int), .int .u32 (b : Int), .int .u32 (c : Int), .int .i64 (d : Int)] ?_ hrn.out Tryd.underlying29 ?_ hi0.out ?_ ?_); (· rfl); (· rfl); (· rfl); simp only [Act.put, List.setIfInBounds_toArray, List.set_cons_zero, List.set_cons_succ])
      | go_big_quiet_step (first | exact cm.out _ _ | exact ce.out _ _))
    refine wpQuiet_nil ?_
    intro _ hw'
    obtain ⟨⟨dq, osq⟩, hw''⟩ := hw'
    subst hw''
    have hR5 := Lib.hid (hR.out.below (below_regrown V dq osq) hR.out.lt)
    have hN5 := Lib.hid (hN.out.below (below_regrown V dq osq) hN.out.lt)
    have hB5 := Lib.hid (grew hB.out (below_regrown V dq osq))
    clear hrn hi0 cm ce hR hN hB
    generalize grow (redrawn V dq) osq = w7 at *
    go_wp2_with (with_reducible refine zStore 31 _ _ rfl ?_)
    refine Lib.hid ?_
    refine wpList_store_mid rfl 31 _ _ rfl w.heap.size 0 #[.int .i64 0, .int .u32 0, .int .u32 0, .int .i64 0, .int .i64 4] rfl rfl (hR5.out.there 0 5 (by simp)) sizeG5 (by simp [Value.oneCell']) ?_
    go_wp2_with fail
    have hfin := whole_all hR5.out (vs := [.int .i64 0, .int .u32 0, .int .u32 0, .int .i64 0, .int .i64 4]) rfl
    exact bodyPost_ret (result_cell Tryd.results9 rfl hfin.range Tryd.underlying31 rfl sizeG5) rfl ⟨rfl, below_store hB5.out (Nat.le_refl _) (Nat.le_refl _) 0 _⟩
  · rw [← hV.out]
    clear hV
    go_wp2_with fail
    generalize W.heap.size = nb at *
    refine wp_region_quiet_below (by kernel_rfl) (by kernel_rfl) ?_
    repeat (first
      | ((with_reducible refine quiet_load 29 _ nb [.int .i64 (a : Int), .int .u32 (b : Int), .int .u32 (c : Int), .int .i64 (d : Int)] ?_ hrn.out Tryd.underlying29 ?_ hi0.out ?_ ?_); (· rfl); (· rfl); (· rfl); simp only [Act.put, List.setIfInBounds_toArray, List.set_cons_zero, List.set_cons_succ])
      | go_big_quiet_step (first | exact cm.out _ _ | exact ce.out _ _))
    refine wpQuiet_nil ?_
    intro _ hw'
    obtain ⟨⟨dq, osq⟩, hw''⟩ := hw'
    subst hw''
    have hR5 := Lib.hid (hR.out.below (below_regrown V dq osq) hR.out.lt)
    have hN5 := Lib.hid (hN.out.below (below_regrown V dq osq) hN.out.lt)
    have hB5 := Lib.hid (grew hB.out (below_regrown V dq osq))
    clear hrn hi0 cm ce hR hN hB
    generalize grow (redrawn V dq) osq = w7 at *
    go_wp2_with (with_reducible refine zStore 31 _ _ rfl ?_)
    refine Lib.hid ?_
    refine wpList_store_mid rfl 31 _ _ rfl w.heap.size 0 #[.int .i64 0, .int .u32 0, .int .u32 0, .int .i64 0, .int .i64 4] rfl rfl (hR5.out.there 0 5 (by simp)) sizeG5 (by simp [Value.oneCell']) ?_
    go_wp2_with fail
    have hfin := whole_all hR5.out (vs := [.int .i64 0, .int .u32 0, .int .u32 0, .int .i64 0, .int .i64 4]) rfl
    exact bodyPost_ret (result_cell Tryd.results9 rfl hfin.range Tryd.underlying31 rfl sizeG5) rfl ⟨rfl, below_store hB5.out (Nat.le_refl _) (Nat.le_refl _) 0 _⟩
set_option maxRecDepth 100000 in
set_option maxHeartbeats 8000000 in
theorem rdecH_may (s : ByteArray) (w : World) (hs : 32 ≤ s.size) (hsz : s.size ≤ 1000000) (h0 : ¬ 1 ≤ logH s) (hb : baseH s ≤ 1099511627776) :
    Calls Tryd.prog 9 #[.string s] w fun x w' => x = .returned (.agg #[.int .i64 0, .int .u32 0, .int .u32 0, .int .i64 0, .int .i64 4]) ∧ Below w.heap.size w w' := by
  have l0 := logH_lt s
  have l1 := genH_lt s
  have l2 := stH_lt s
  have hr0 : ∀ W : World, Calls Tryd.prog 21 #[.string (s.extract 2 4)] W fun e w' => e = .returned (.int .u64 (logH s : Nat)) ∧ W = w' := fun W => rread_any _ W (by simp; omega)
  have hr1 : ∀ W : World, Calls Tryd.prog 21 #[.string (s.extract 4 8)] W fun e w' => e = .returned (.int .u64 (genH s : Nat)) ∧ W = w' := fun W => rread_any _ W (by simp; omega)
  have hr2 : ∀ W : World, Calls Tryd.prog 21 #[.string (s.extract 8 12)] W fun e w' => e = .returned (.int .u64 (stH s : Nat)) ∧ W = w' := fun W => rread_any _ W (by simp; omega)
  have hr3 : ∀ W : World, Calls Tryd.prog 21 #[.string (s.extract 12 20)] W fun e w' => e = .returned (.int .u64 (baseH s : Nat)) ∧ W = w' := fun W => rread_any _ W (by simp; omega)
  obtain ⟨a, e0⟩ : ∃ a, Hid (logH s = a) := ⟨_, Lib.hid rfl⟩
  obtain ⟨b, e1⟩ : ∃ a, Hid (genH s = a) := ⟨_, Lib.hid rfl⟩
  obtain ⟨c, e2⟩ : ∃ a, Hid (stH s = a) := ⟨_, Lib.hid rfl⟩
  obtain ⟨d, e3⟩ : ∃ a, Hid (baseH s = a) := ⟨_, Lib.hid rfl⟩
  rw [e0.out] at hr0 l0 h0
  rw [e1.out] at hr1 l1
  rw [e2.out] at hr2 l2
  rw [e3.out] at hr3 hb
  have hma : ∀ W : World, Calls Tryd.prog 12 #[.agg #[.int .i64 (a : Int), .int .u32 (b : Int), .int .u32 (c : Int), .int .i64 (d : Int)]] W fun x w' => x = .returned (.bool false) ∧ Below W.heap.size W w' := fun W => by
    have h := rmayH_any a b c d W
    rw [show okH (a : Int) (d : Int) = false from by unfold okH; simp; omega] at h
    exact h
  have i1 : (32 : Int) ≤ (s.size : Int) := by omega
  have i2 : (20 : Int) ≤ (s.size : Int) := by omega
  have i3 : (12 : Int) ≤ (s.size : Int) := by omega
  have i4 : (8 : Int) ≤ (s.size : Int) := by omega
  have i5 : (4 : Int) ≤ (s.size : Int) := by omega
  have hc0 : IntKind.i64.wrap (a : Int) = a := IntWalk.i64_in _ (by omega)
  have hc1 : IntKind.u32.wrap (b : Int) = b := IntWalk.u32_in _ (by omega)
  have hc2 : IntKind.u32.wrap (c : Int) = c := IntWalk.u32_in _ (by omega)
  have hc3 : IntKind.i64.wrap (d : Int) = d := IntWalk.i64_in _ (by omega)
  have hnb : (d : Int) ≤ 1099511627776 := by omega
  replace hr0 := Lib.hid hr0
  replace hr1 := Lib.hid hr1
  replace hr2 := Lib.hid hr2
  replace hr3 := Lib.hid hr3
  replace hma := Lib.hid hma
  clear e0 e1 e2 e3 h0
  have hR := Whole.new w 31 [.int .i64 0, .int .u32 0, .int .u32 0, .int .i64 0, .int .i64 0]
  have hB := (Below.refl w.heap.size w).alloc (Nat.le_refl _) (.cells #[.int .i64 0, .int .u32 0, .int .u32 0, .int .i64 0, .int .i64 0] 31)
  obtain ⟨W, hW⟩ : ∃ W, Hid (W = w.alloc (.cells #[.int .i64 0, .int .u32 0, .int .u32 0, .int .i64 0, .int .i64 0] 31)) := ⟨_, Lib.hid rfl⟩
  replace hR : Hid (Whole W w.heap.size 31 [.int .i64 0, .int .u32 0, .int .u32 0, .int .i64 0, .int .i64 0]) := Lib.hid (by rw [hW.out]; exact hR)
  replace hB : Hid (Below w.heap.size w W) := Lib.hid (by rw [hW.out]; exact hB)
  go_enter Tryd.func9, Tryd.ntmps9
  go_wp2_with fail
  refine (hr3.out _).mono ?_
  rintro ee w1 ⟨rfl, rfl⟩
  go_wp2_with fail
  rw [← hW.out]
  clear hW
  have hN := (Whole.new W 29 [.int .i64 (a : Int), .int .u32 (b : Int), .int .u32 (c : Int), .int .i64 (d : Int)]).drewN 1
  replace hR := (hR.out.alloc (.cells [.int .i64 (a : Int), .int .u32 (b : Int), .int .u32 (c : Int), .int .i64 (d : Int)].toArray 29)).drewN 1
  replace hB := drewS (grewAlloc hB.out (.cells [.int .i64 (a : Int), .int .u32 (b : Int), .int .u32 (c : Int), .int .i64 (d : Int)].toArray 29)) 1
  obtain ⟨V, hV⟩ : ∃ V, Hid (V = (W.alloc (.cells #[.int .i64 (a : Int), .int .u32 (b : Int), .int .u32 (c : Int), .int .i64 (d : Int)] 29)).drew) := ⟨_, Lib.hid rfl⟩
  replace hN : Whole V W.heap.size 29 [.int .i64 (a : Int), .int .u32 (b : Int), .int .u32 (c : Int), .int .i64 (d : Int)] := by rw [hV.out]; exact hN
  replace hR : Whole V w.heap.size 31 [.int .i64 0, .int .u32 0, .int .u32 0, .int .i64 0, .int .i64 0] := by rw [hV.out]; exact hR
  replace hB : Below w.heap.size w V := by rw [hV.out]; exact hB
  have hrn : Hid (∀ w', (∃ p : Regrown, w' = grow (redrawn V p.d) p.os) → w'.rangeAt W.heap.size 0 [.int .i64 (a : Int), .int .u32 (b : Int), .int .u32 (c : Int), .int .i64 (d : Int)]) := Lib.hid (by rintro _ ⟨p, rfl⟩; exact (hN.below (below_regrown V p.d p.os) hN.lt).range)
  have hi0 : Hid ((Tryd.prog.info? 29).map (·.size) = some ([.int .i64 (a : Int), .int .u32 (b : Int), .int .u32 (c : Int), .int .i64 (d : Int)] : List Value).length) := Lib.hid sizeR4
  have cm := Lib.hid (regrown_any hma.out V)
  replace hN := Lib.hid hN
  replace hR := Lib.hid hR
  replace hB := Lib.hid hB
  go_region_held3 (fun w' => True) (trivial) (first
    | (go_at_call 21; (with_reducible refine (hr0.out _).mono ?_); rintro ee w2 ⟨rfl, rfl⟩)
    | (go_at_call 21; (with_reducible refine (hr1.out _).mono ?_); rintro ee w2 ⟨rfl, rfl⟩)
    | (go_at_call 21; (with_reducible refine (hr2.out _).mono ?_); rintro ee w2 ⟨rfl, rfl⟩))
  · rw [← hV.out]
    clear hV
    go_wp2_with fail
    generalize W.heap.size = nb at *
    refine wp_region_quiet_below (by kernel_rfl) (by kernel_rfl) ?_
    repeat (first
      | ((with_reducible refine quiet_load 29 _ nb [.int .i64 (a : Int), .int .u32 (b : Int), .int .u32 (c : Int), .int .i64 (d : Int)] ?_ hrn.out Tryd.underlying29 ?_ hi0.out ?_ ?_); (· rfl); (· rfl); (· rfl); simp only [Act.put, List.setIfInBounds_toArray, List.set_cons_zero, List.set_cons_succ])
      | go_big_quiet_step (first | exact cm.out _ _))
    refine wpQuiet_nil ?_
    intro _ hw'
    obtain ⟨⟨dq, osq⟩, hw''⟩ := hw'
    subst hw''
    have hR5 := Lib.hid (hR.out.below (below_regrown V dq osq) hR.out.lt)
    have hN5 := Lib.hid (hN.out.below (below_regrown V dq osq) hN.out.lt)
    have hB5 := Lib.hid (grew hB.out (below_regrown V dq osq))
    clear hrn hi0 cm hR hN hB
    generalize grow (redrawn V dq) osq = w7 at *
    go_wp2_with (with_reducible refine zStore 31 _ _ rfl ?_)
    refine Lib.hid ?_
    refine wpList_store_mid rfl 31 _ _ rfl w.heap.size 0 #[.int .i64 0, .int .u32 0, .int .u32 0, .int .i64 0, .int .i64 4] rfl rfl (hR5.out.there 0 5 (by simp)) sizeG5 (by simp [Value.oneCell']) ?_
    go_wp2_with fail
    have hfin := whole_all hR5.out (vs := [.int .i64 0, .int .u32 0, .int .u32 0, .int .i64 0, .int .i64 4]) rfl
    exact bodyPost_ret (result_cell Tryd.results9 rfl hfin.range Tryd.underlying31 rfl sizeG5) rfl ⟨rfl, below_store hB5.out (Nat.le_refl _) (Nat.le_refl _) 0 _⟩
  · rw [← hV.out]
    clear hV
    go_wp2_with fail
    generalize W.heap.size = nb at *
    refine wp_region_quiet_below (by kernel_rfl) (by kernel_rfl) ?_
    repeat (first
      | ((with_reducible refine quiet_load 29 _ nb [.int .i64 (a : Int), .int .u32 (b : Int), .int .u32 (c : Int), .int .i64 (d : Int)] ?_ hrn.out Tryd.underlying29 ?_ hi0.out ?_ ?_); (· rfl); (· rfl); (· rfl); simp only [Act.put, List.setIfInBounds_toArray, List.set_cons_zero, List.set_cons_succ])
      | go_big_quiet_step (first | exact cm.out _ _))
    refine wpQuiet_nil ?_
    intro _ hw'
    obtain ⟨⟨dq, osq⟩, hw''⟩ := hw'
    subst hw''
    have hR5 := Lib.hid (hR.out.below (below_regrown V dq osq) hR.out.lt)
    have hN5 := Lib.hid (hN.out.below (below_regrown V dq osq) hN.out.lt)
    have hB5 := Lib.hid (grew hB.out (below_regrown V dq osq))
    clear hrn hi0 cm hR hN hB
    generalize grow (redrawn V dq) osq = w7 at *
    go_wp2_with (with_reducible refine zStore 31 _ _ rfl ?_)
    refine Lib.hid ?_
    refine wpList_store_mid rfl 31 _ _ rfl w.heap.size 0 #[.int .i64 0, .int .u32 0, .int .u32 0, .int .i64 0, .int .i64 4] rfl rfl (hR5.out.there 0 5 (by simp)) sizeG5 (by simp [Value.oneCell']) ?_
    go_wp2_with fail
    have hfin := whole_all hR5.out (vs := [.int .i64 0, .int .u32 0, .int .u32 0, .int .i64 0, .int .i64 4]) rfl
    exact bodyPost_ret (result_cell Tryd.results9 rfl hfin.range Tryd.underlying31 rfl sizeG5) rfl ⟨rfl, below_store hB5.out (Nat.le_refl _) (Nat.le_refl _) 0 _⟩
  · rw [← hV.out]
    clear hV
    go_wp2_with fail
    generalize W.heap.size = nb at *
    refine wp_region_quiet_below (by kernel_rfl) (by kernel_rfl) ?_
    repeat (first
      | ((with_reducible refine quiet_load 29 _ nb [.int .i64 (a : Int), .int .u32 (b : Int), .int .u32 (c : Int), .int .i64 (d : Int)] ?_ hrn.out Tryd.underlying29 ?_ hi0.out ?_ ?_); (· rfl); (· rfl); (· rfl); simp only [Act.put, List.setIfInBounds_toArray, List.set_cons_zero, List.set_cons_succ])
      | go_big_quiet_step (first | exact cm.out _ _))
    refine wpQuiet_nil ?_
    intro _ hw'
    obtain ⟨⟨dq, osq⟩, hw''⟩ := hw'
    subst hw''
    have hR5 := Lib.hid (hR.out.below (below_regrown V dq osq) hR.out.lt)
    have hN5 := Lib.hid (hN.out.below (below_regrown V dq osq) hN.out.lt)
    have hB5 := Lib.hid (grew hB.out (below_regrown V dq osq))
    clear hrn hi0 cm hR hN hB
    generalize grow (redrawn V dq) osq = w7 at *
    go_wp2_with (with_reducible refine zStore 31 _ _ rfl ?_)
    refine Lib.hid ?_
    refine wpList_store_mid rfl 31 _ _ rfl w.heap.size 0 #[.int .i64 0, .int .u32 0, .int .u32 0, .int .i64 0, .int .i64 4] rfl rfl (hR5.out.there 0 5 (by simp)) sizeG5 (by simp [Value.oneCell']) ?_
    go_wp2_with fail
    have hfin := whole_all hR5.out (vs := [.int .i64 0, .int .u32 0, .int .u32 0, .int .i64 0, .int .i64 4]) rfl
    exact bodyPost_ret (result_cell Tryd.results9 rfl hfin.range Tryd.underlying31 rfl sizeG5) rfl ⟨rfl, below_store hB5.out (Nat.le_refl _) (Nat.le_refl _) 0 _⟩
  · rw [← hV.out]
    clear hV
    go_wp2_with fail
    generalize W.heap.size = nb at *
    refine wp_region_quiet_below (by kernel_rfl) (by kernel_rfl) ?_
    repeat (first
      | ((with_reducible refine quiet_load 29 _ nb [.int .i64 (a : Int), .int .u32 (b : Int), .int .u32 (c : Int), .int .i64 (d : Int)] ?_ hrn.out Tryd.underlying29 ?_ hi0.out ?_ ?_); (· rfl); (· rfl); (· rfl); simp only [Act.put, List.setIfInBounds_toArray, List.set_cons_zero, List.set_cons_succ])
      | go_big_quiet_step (first | exact cm.out _ _))
    refine wpQuiet_nil ?_
    intro _ hw'
    obtain ⟨⟨dq, osq⟩, hw''⟩ := hw'
    subst hw''
    have hR5 := Lib.hid (hR.out.below (below_regrown V dq osq) hR.out.lt)
    have hN5 := Lib.hid (hN.out.below (below_regrown V dq osq) hN.out.lt)
    have hB5 := Lib.hid (grew hB.out (below_regrown V dq osq))
    clear hrn hi0 cm hR hN hB
    generalize grow (redrawn V dq) osq = w7 at *
    go_wp2_with (with_reducible refine zStore 31 _ _ rfl ?_)
    refine Lib.hid ?_
    refine wpList_store_mid rfl 31 _ _ rfl w.heap.size 0 #[.int .i64 0, .int .u32 0, .int .u32 0, .int .i64 0, .int .i64 4] rfl rfl (hR5.out.there 0 5 (by simp)) sizeG5 (by simp [Value.oneCell']) ?_
    go_wp2_with fail
    have hfin := whole_all hR5.out (vs := [.int .i64 0, .int .u32 0, .int .u32 0, .int .i64 0, .int .i64 4]) rfl
    exact bodyPost_ret (result_cell Tryd.results9 rfl hfin.range Tryd.underlying31 rfl sizeG5) rfl ⟨rfl, below_store hB5.out (Nat.le_refl _) (Nat.le_refl _) 0 _⟩
end Go.Proofs.YtoegohofmhijgaaDoor.W
