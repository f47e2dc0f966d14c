/- Package journal's law: a fresh view, eight frames of two pieces. Package journal: Anew of a journal behind eight frames, with eight frames. -/
import Derived.Test.YtgogackkeodciabGreatDoorJnB
section
namespace Go.Proofs.YtgogackkeodciabGreatDoor.W
open Go.RowKit Go.Sort
open Go.Proofs.YtgogackkeodciabGreatDoor.M Go.Proofs.YtgogackkeodciabGreatDoor.D Go.Proofs.YtgogackkeodciabGreatDoor.Z
set_option linter.unusedVariables false

theorem fresh26_any (w : World) : Calls Tryz.prog 17 #[] w fun e w' => ∃ vb d g, e = .returned (.pointer (some ⟨vb, 0, none⟩)) ∧ SV w vb d g (zeros 98) [] 0 98 (-1) 0 false w' := by
  go_enter Tryz.func17, Tryz.ntmps17
  go_wp2_with fail
  refine (new_in 98 w (by decide) (by decide)).mono ?_
  rintro _ w4 ⟨rfl, hD4, hb4⟩
  go_wp2_with fail
  refine (vnew_in (from_ := 0) (n := 98) w4 hD4 (by decide) (by decide)).mono ?_
  rintro _ w5 ⟨rfl, hv5, hb5⟩
  have h5 := Lib.hid (sv_new 98 0 98 w w4 w5 hb4 hv5 hb5)
  go_wp2_with fail
  go_ret
  exact ⟨_, _, _, rfl, h5.out⟩
theorem own_nilJ {W : World} {B : Nat} {e : TypeId} {sz : Nat} : W.ownsRow B e sz (.slice none 0 0) 0 [] := ⟨by simp, .inl ⟨rfl, rfl⟩⟩
/-- The block of a row of frames. -/
theorem frBlock {W : World} {B g n c : Nat} {fs : List (Int × ByteArray)} (h : W.ownsRow B 36 2 (.slice (some ⟨g, 0, none⟩) n c) n (frRows fs)) (hn : fs.length = n) (h0 : 0 < n) : ∃ cur, Whole W g 36 cur ∧ B ≤ g ∧ n ≤ c ∧ c ≤ maxLen ∧ ∀ V, Whole V g 36 cur → FrAt V (some ⟨g, 0, none⟩) fs := by
  rcases h.2 with ⟨e, h1⟩ | ⟨g', cap, cur, e, h1, h2, h3, h4, h5, h6⟩
  · omega
  · obtain ⟨rfl, rfl⟩ : g = g' ∧ c = cap := by
      have := e
      simp only [Value.slice.injEq, Option.some.injEq, Addr.mk.injEq] at this
      exact ⟨this.1.1, this.2.2⟩
    refine ⟨cur.toList, by show W.heap[g]? = _; rw [h2], h1, h3, h4, fun V hV => ?_⟩
    intro i f hi
    obtain ⟨r1, r2⟩ := frRows_at fs i f hi
    have hlen : i < fs.length := (List.getElem?_eq_some_iff.1 hi).1
    have hc : ∀ j u, j < n * 2 → (frRows fs)[j]? = some u → V.cell? ⟨g, j, none⟩ = some u := fun j u hj hu => by
      have h9 := hV.cell j
      rw [h9, ← hu, ← h6, List.getElem?_take, if_pos hj]
    refine ⟨g, 0, rfl, hV.lt, ?_, ?_⟩
    · rw [Nat.zero_add]; exact hc _ _ (by omega) r1
    · rw [Nat.zero_add]; exact hc _ _ (by omega) r2
set_option maxRecDepth 100000 in
set_option maxHeartbeats 4000000 in
theorem eight26_any (w : World) : Calls Tryz.prog 18 #[] w fun e w' => ∃ g cap, e = .returned (.slice (some ⟨g, 0, none⟩) 8 cap) ∧ w'.ownsRow w.heap.size 36 2 (.slice (some ⟨g, 0, none⟩) 8 cap) 8 (frRows (List.replicate 8 Fj)) ∧ Below w.heap.size w w' := by
  obtain ⟨c8, hc8, hm8⟩ := make_bytes 46 (by omega)
  replace hm8 : ∀ W : World, (Instr.makeSlice 71 (.int .i64 46) (.int .i64 46)).run Tryz.prog W = .ok (.slice (some ⟨W.heap.size, 0, none⟩) 46 46) (W.alloc (.cells c8 5)) := fun W => hm8 W
  have hs8 : ∀ W : World, (convert 71 9 (.slice (some ⟨W.heap.size, 0, none⟩) 46 46)).run Tryz.prog (W.alloc (.cells c8 5)) = .ok (.string (zerosB 46)) (W.alloc (.cells c8 5)) := fun W => zero_string 46 c8 hc8 W
  have hFj : Fj = (3, zerosB 46) := rfl
  obtain ⟨Z, hZ⟩ : ∃ Z, Hid (zerosB 46 = Z) := ⟨_, Lib.hid rfl⟩
  rw [hZ.out] at hs8 hFj
  replace hFj := Lib.hid hFj
  obtain ⟨R8, hR8⟩ : ∃ R, Hid (frRows (List.replicate 8 Fj) = R) := ⟨_, Lib.hid rfl⟩
  rw [hR8.out]
  obtain ⟨i0, hi0, hz0, hz1, hz2⟩ := info_parts infoFrame
  clear hc8
  go_enter Tryz.func18, Tryz.ntmps18
  go_wp2_with fail
  go_loopg [1, 2] 8 (fun ga v ix wr => ∃ (k c : Nat) (A : Option Addr), k ≤ 8 ∧ 8 ≤ k + ga ∧ ix = .int .i64 k ∧ v = .slice A k c ∧ Hid (wr.ownsRow w.heap.size 36 2 (.slice A k c) k (frRows (List.replicate k Fj)) ∧ Below w.heap.size w wr))
  case atStart => exact ⟨0, 0, none, by omega, by omega, rfl, rfl, Lib.hid ⟨own_nilJ, Below.refl _ _⟩⟩
  case round =>
    obtain ⟨k, c, A, hk, hgk, rfl, rfl, hrel⟩ := hrel
    generalize wr = wo at *
    by_cases hlt : k < 8
    · have hlI : (k : Int) < 8 := by omega
      have hm := hm8 wo
      have hs := hs8 wo
      go_wp2_with (with_reducible refine zAppend _ _ _ rfl ?_)
      refine Lib.hid ?_
      obtain ⟨hown, hB⟩ := hrel.out
      clear hrel
      refine wpList_append_lies _ rfl _ _ 22 rfl w.heap.size 36 i0 _ 2 24 Tryz.underlying22 hi0 hz0 hz1 hz2 rfl (by omega) (.slice A k c) k (frRows (List.replicate k Fj)) rfl ((hown.alloc _).alloc _) _ 1 1 [.int .i64 3, .string Z] rfl rfl (World.news_of_block (by have := heap_alloc_new (wo.alloc (.cells c8 5)) (.cells #[.int .i64 3, .string Z] 36); simpa using this)) (by simp [Value.oneCell']) (by omega) (by unfold maxLen; omega) (by omega) (by have := hB.size; simp; omega) (wo.heap.size + 1 + 1) (by simp) ?_
      intro gg cap w8 hown8 hgrow8 hat8 hlt8
      have hk8 : Kept (fun q => w.heap.size ≤ q) w w8 := (((Kept.of_below hB).alloc _).alloc _).grown hgrow8 (fun q hq => .inl (ownFar hown q hq))
      have e8 : frRows (List.replicate k Fj) ++ [.int .i64 3, .string Z] = frRows (List.replicate (k + 1) Fj) := by rw [List.replicate_succ', hFj.out, frRows_add]
      rw [e8] at hown8
      have hend := Lib.hid (And.intro hown8 (hk8.below (Nat.le_refl _) (fun _ h => h)))
      clear hown hB hown8 hgrow8 hk8 e8 hat8 hm hs
      go_wp2_with fail
      go_roundg (gk - 1)
      case measure => omega
      case rel => exact ⟨k + 1, cap, some ⟨gg, 0, none⟩, by omega, by omega, by go_num, rfl, hend⟩
    · obtain rfl : k = 8 := by omega
      have h8 : ¬ ((8 : Nat) : Int) < 8 := by omega
      obtain ⟨g, rfl, _, _⟩ := own_roomF (by decide) hrel.out.1
      go_wp2_with fail
      go_ret
      rw [← hR8.out]
      exact ⟨g, c, rfl, hrel.out⟩
end Go.Proofs.YtgogackkeodciabGreatDoor.W
end
section
namespace Go.Proofs.YtgogackkeodciabGreatDoor.W
open Go.RowKit Go.Sort
open Go.Proofs.YtgogackkeodciabGreatDoor.M Go.Proofs.YtgogackkeodciabGreatDoor.D Go.Proofs.YtgogackkeodciabGreatDoor.Z
set_option linter.unusedVariables false

set_option maxRecDepth 100000 in
set_option maxHeartbeats 4000000 in
theorem janew_8 {w0 W : World} {vb d g' pb pa jb lb c gr cr : Nat} {ws : List (Nat × List UInt8)} {steps : Int} {segs : List Sr} {A va : Option Addr} {pk K : List Bk} {cur : List Value}
    (h1 : LgV w0 vb d g' (zeros 98) ws 0 98 steps pb pa (((List.replicate 6 0).set 0 2).set 1 2) 1 2 lb 2 5 8 segs A c pk K W) (h0 : 0 ≤ steps) (hst : steps ≤ 1000) (hws : ws.length ≤ 1000) (hJ : (jb, 53, jnL vb pb lb) ∈ K)
    (hR : (gr, 36, cur) ∈ K) (hF : ∀ V, Whole V gr 36 cur → FrAt V va (List.replicate 8 Fj)) (hT : Wide w0) :
    Calls Tryz.prog 8 #[.pointer (some ⟨jb, 0, none⟩), .slice va 8 cr] W fun e w' => ∃ jb2 lb2, e = .returned (.tuple #[.pointer (some ⟨jb2, 0, none⟩), .int .i64 0]) ∧
      J8 w0 vb d g' pb pa jb2 lb2 6 2 3 2 ws.length steps (((List.replicate 6 0).set 0 2).set 1 2) ((jb2, 53, jnL vb pb lb2) :: ((lb, 82, lgL vb pb 2 5 A segs.length c 8) :: (pk ++ (segs.flatMap (Sr.K vb) ++ K)))) 8 w' := by
  have hgotK : ∀ x ∈ K, Whole W x.1 x.2.1 x.2.2 := fun x hx => h1.vb_.got (List.mem_append_right _ (List.mem_cons_of_mem _ (List.mem_append_right _ (List.mem_append_right _ hx))))
  have hjw := hgotK _ hJ
  have hid2 := Lib.hid (fun V (hb : Below W.heap.size W V) => (show Calls Tryz.prog 24 #[.pointer (some ⟨lb, 0, none⟩)] V fun e w' => e = .returned (.int .i64 2) ∧ V = w' from id_any lb _ V ((h1.below hb).obj.cell 2)))
  have hgn := Lib.hid (fun V (hb : Below W.heap.size W V) => (show Calls Tryz.prog 25 #[.pointer (some ⟨lb, 0, none⟩)] V fun e w' => e = .returned (.int .u32 5) ∧ V = w' from gen_any lb _ V ((h1.below hb).obj.cell 3)))
  have hnw : Hid (∀ V, Below W.heap.size W V → Calls Tryz.prog 6 #[.pointer (some ⟨vb, 0, none⟩), .pointer (some ⟨pb, 0, none⟩), .int .i64 2, .int .u32 6] V fun e w' => ∃ jb2 lb2, e = .returned (.tuple #[.pointer (some ⟨jb2, 0, none⟩), .int .i64 0]) ∧
      Hid (J8 w0 vb d g' pb pa jb2 lb2 6 2 3 2 ws.length steps (((List.replicate 6 0).set 0 2).set 1 2) ((jb2, 53, jnL vb pb lb2) :: ((lb, 82, lgL vb pb 2 5 A segs.length c 8) :: (pk ++ (segs.flatMap (Sr.K vb) ++ K)))) 0 w') ∧ Below V.heap.size V w') := Lib.hid (fun V hb => by
    have hv := h1.below hb
    refine (jnew_yes vb pb 2 6 V (hT.below hv.vb_.since) (by decide) (by decide) (by decide)).mono ?_
    rintro e w' ⟨jb2, lb2, r1, w1, r2, r3, r4, r5, r6, r7⟩
    exact ⟨jb2, lb2, r1, Lib.hid (J8.second hv h0 r2 r3 r4 r5 r6 r7), grew r4 r7⟩)
  have c0 : ∀ V, Below W.heap.size W V → V.cell? ⟨jb, 0, none⟩ = some (.pointer (some ⟨vb, 0, none⟩)) := fun V hb => keepCell hb (hjw.cell 0)
  have c1 : ∀ V, Below W.heap.size W V → V.cell? ⟨jb, 1, none⟩ = some (.pointer (some ⟨pb, 0, none⟩)) := fun V hb => keepCell hb (hjw.cell 1)
  have c2 : ∀ V, Below W.heap.size W V → V.cell? ⟨jb, 2, none⟩ = some (.pointer (some ⟨lb, 0, none⟩)) := fun V hb => keepCell hb (hjw.cell 2)
  have hw6 : IntKind.u32.wrap 6 = 6 := by decide
  have hV0 : Below W.heap.size W W := Below.refl _ _
  have hV1 : Below W.heap.size W W.drew := (Below.refl _ _).drew
  have hps := Lib.hid (fun (jb2 lb2 k : Nat) (V : World) (h : J8 w0 vb d g' pb pa jb2 lb2 6 2 3 2 ws.length steps (((List.replicate 6 0).set 0 2).set 1 2) ((jb2, 53, jnL vb pb lb2) :: ((lb, 82, lgL vb pb 2 5 A segs.length c 8) :: (pk ++ (segs.flatMap (Sr.K vb) ++ K)))) k V) (hk : k < 8) => h.step hk hT spot2 (by decide) hws hst)
  have hrw : Hid (∀ (jb2 lb2 k : Nat) (V : World) (h : J8 w0 vb d g' pb pa jb2 lb2 6 2 3 2 ws.length steps (((List.replicate 6 0).set 0 2).set 1 2) ((jb2, 53, jnL vb pb lb2) :: ((lb, 82, lgL vb pb 2 5 A segs.length c 8) :: (pk ++ (segs.flatMap (Sr.K vb) ++ K)))) k V), FrAt V va (List.replicate 8 Fj)) := Lib.hid (fun jb2 lb2 k V h => hF V (h.got (List.mem_cons_of_mem _ (List.mem_cons_of_mem _ (List.mem_append_right _ (List.mem_append_right _ hR))))))
  have hFj : ∀ k, k < 8 → (List.replicate 8 Fj)[k]? = some (3, zerosB 46) := fun k hk => by rw [List.getElem?_replicate, if_pos hk]; rfl
  obtain ⟨Z, hZ⟩ : ∃ Z, Hid (zerosB 46 = Z) := ⟨_, Lib.hid rfl⟩
  rw [hZ.out] at hps hFj
  generalize hL0 : (((List.replicate 6 (0 : Int)).set 0 2).set 1 2) = L0 at *
  clear hL0 hJ hR hF hT hjw hgotK h1
  go_enter Tryz.func8, Tryz.ntmps8
  go_wp2_with fail
  go_region_held3 (fun w' => Below W.heap.size W w') (first | assumption | exact grewAlloc (by assumption) _ | (go_keep)) (first
    | (go_at_call 24; (with_reducible refine (hid2.out _ (by assumption)).mono ?_); rintro _ w21 ⟨rfl, rfl⟩)
    | (go_at_call 25; (with_reducible refine (hgn.out _ (by assumption)).mono ?_); rintro _ w22 ⟨rfl, rfl⟩)
    | (go_at_call 6; (with_reducible refine (hnw.out _ (by assumption)).mono ?_); rintro _ w23 ⟨jb2, lb2, rfl, hj23, hb23⟩; have hk23 : Below W.heap.size W w23 := grew (by assumption) hb23))
  go_wp2_with fail
  clear hid2 hgn hnw c0 c1 c2 hV0 hV1
  go_loopg [41] 8 (fun ga ix wr => ∃ (k : Nat), k ≤ 8 ∧ 8 ≤ k + ga ∧ ix = .int .i64 k ∧ Hid (J8 w0 vb d g' pb pa jb2 lb2 6 2 3 2 ws.length steps L0 ((jb2, 53, jnL vb pb lb2) :: ((lb, 82, lgL vb pb 2 5 A segs.length c 8) :: (pk ++ (segs.flatMap (Sr.K vb) ++ K)))) k wr))
  case atStart => exact ⟨0, by omega, by omega, rfl, hj23⟩
  case round =>
    clear hj23
    obtain ⟨k, hk, hgk, rfl, hrel⟩ := hrel
    generalize wr = wo at *
    by_cases hlt : k < 8
    · have hlI : (k : Int) < 8 := by omega
      have hk0 : (0 : Int) ≤ (k : Int) := by omega
      obtain ⟨b1, o1, rfl, l1, c0, c1⟩ := hrw.out jb2 lb2 k wo hrel.out k _ (hFj k hlt)
      have hap := Lib.hid (hps.out jb2 lb2 k _ (hrel.out.below (allocBelow wo (.cells #[.int .i64 3, .string Z] 36))) hlt)
      clear hrel
      go_wp2_with fail
      refine hap.out.mono ?_
      rintro _ w6 ⟨rfl, h6⟩
      replace h6 := Lib.hid h6
      clear hap
      go_wp2_with fail
      go_roundg (gk - 1)
      case measure => omega
      case rel => exact ⟨k + 1, by omega, by omega, by go_num, h6⟩
    · obtain rfl : k = 8 := by omega
      go_wp2_with fail
      go_ret2
      exact ⟨jb2, lb2, rfl, hrel.out⟩
end Go.Proofs.YtgogackkeodciabGreatDoor.W
end
