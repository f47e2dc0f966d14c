/- Package part: the library's Clone of a row of records; own; append to a row of its own; the library's search, below. -/
import Derived.Test.YtahljbjgenepaaaPtA
namespace Go.Proofs.Ytahljbjgenepaaa.W
open Go.RowKit Go.Sort
open Go.Proofs.Ytahljbjgenepaaa.M Go.Proofs.Ytahljbjgenepaaa.D Go.Proofs.Ytahljbjgenepaaa.Z
set_option linter.unusedVariables false
set_option linter.unusedSimpArgs false

/-- Records behind a row of one's own. -/
theorem run_row_append {W : World} {va : Option Addr} {c : Nat} {rs ns : List Rc} (h : RowO W va c rs) (hn : rs.length + ns.length ≤ 1000000) (ad : Addr) (c2 : Nat) (hns : ∀ j u, (rcRows ns)[j]? = some u → W.cell? (ad.add j) = some u) (ty : TypeId) :
    ∃ va' c' W', (Builtin.append_ #[27, 27] ty #[.slice va rs.length c, .slice (some ad) ns.length c2]).run Try.prog W = .ok (.slice va' (rs.length + ns.length) c') W' ∧
      RowO W' va' c' (rs ++ ns) ∧ Kept (ownB va) W W' ∧ ∀ q, ownB va' q → ownB va q ∨ W.heap.size ≤ q := by
  obtain ⟨i0, hi0, hz0, hz1, hz2⟩ := info_parts infoRp
  have hsrc : Src Try.prog i0.size 27 (.slice (some ad) ns.length c2) ns.length (rcRows ns) W :=
    Src.ofSlice W Try.underlying27 ad ns.length c2 (rcRows ns) (by rw [rcRows_len, hz1]) hns (rcRows_one ns)
  have hgrow : c < rs.length + ns.length → (∀ w : World, w.heap = W.heap → (Builtin.firstCells i0.size rs.length (.slice va rs.length c)).run Try.prog w = .ok (rcRows rs).toArray w) → ∃ va' c' W', (Builtin.append_ #[27, 27] ty #[.slice va rs.length c, .slice (some ad) ns.length c2]).run Try.prog W = .ok (.slice va' (rs.length + ns.length) c') W' ∧
      RowO W' va' c' (rs ++ ns) ∧ Kept (ownB va) W W' ∧ ∀ q, ownB va' q → ownB va q ∨ W.heap.size ≤ q := fun hc hold => by
    have hr := run_append_grow_src (P := Try.prog) W 27 27 ty 40 i0 _ Try.underlying27 hi0 hz0 va rs.length c (rcRows rs) (hold W.drew rfl) (.slice (some ad) ns.length c2) ns.length (rcRows ns) hsrc hc (by omega) (growslice_fits hc (by rw [hz2]; omega))
    have hs : (Builtin.zeroCells (Value.agg #[.int .i64 0, .int .i64 0, .string ⟨#[]⟩, .string ⟨#[]⟩, .bool false, .int .i64 0, .int .i64 0, .int .i64 0]).cells (grownCap W (rs.length + ns.length) c 40 - (rs.length + ns.length))).size = (grownCap W (rs.length + ns.length) c 40 - (rs.length + ns.length)) * 8 := by
      rw [size_zeroCells]; rfl
    have hg := grownCap_ge W (rs.length + ns.length) c 40
    have hm := grownCap_le_maxLen W (rs.length + ns.length) c 40 (by unfold maxLen; omega)
    generalize Builtin.zeroCells _ _ = Z at hr hs
    generalize grownCap W (rs.length + ns.length) c 40 = cap at hr hs hg hm
    have hl : (rcRows rs ++ rcRows ns).length = (rs.length + ns.length) * 8 := by rw [List.length_append, rcRows_len, rcRows_len]; omega
    have hwh : Whole (W.drew.alloc (.cells ((rcRows rs ++ rcRows ns).toArray ++ Z) 40)) W.heap.size 40 ((rcRows rs ++ rcRows ns) ++ Z.toList) := by
      have := heap_alloc_new W.drew (.cells ((rcRows rs ++ rcRows ns).toArray ++ Z) 40)
      unfold Whole
      rw [show ((rcRows rs ++ rcRows ns) ++ Z.toList).toArray = (rcRows rs ++ rcRows ns).toArray ++ Z from by apply Array.ext'; simp]
      exact this
    refine ⟨_, _, _, hr, .inr ⟨W.heap.size, 0, _, rfl, hwh, ?_, ?_, hm, ?_⟩, ?_, ?_⟩
    · have hz : Z.toList.length = (cap - (rs.length + ns.length)) * 8 := by rw [← hs]; simp
      rw [List.length_append, hl, hz]
      omega
    · rw [List.length_append]; exact hg
    · rw [List.drop_zero, List.length_append, ← hl, List.take_left, rcRows_append]
    · exact ((Kept.refl _ W).drewN 1).alloc _
    · intro q hq
      obtain ⟨o, e⟩ := hq
      cases e
      exact .inr (Nat.le_refl _)
  rcases h with ⟨rfl, rfl, rfl⟩ | ⟨g, o, cur, rfl, hW, h1, h2, h3, h4⟩
  · by_cases h0 : ns = []
    · subst h0
      refine ⟨none, 0, W, ?_, .inl ⟨rfl, rfl, rfl⟩, Kept.refl _ _, fun q hq => .inl hq⟩
      exact run_append_nothing (P := Try.prog) W 27 27 ty 40 i0 Try.underlying27 hi0 none 0 0 (Nat.le_refl _) _ hsrc
    · have hpos : 0 < ns.length := List.length_pos_iff.2 h0
      exact hgrow (by simpa using hpos) (fun w _ => run_firstCells_none w i0.size 0 0 0)
  · by_cases hroom : rs.length + ns.length ≤ c
    · have hfit : o + rs.length * 8 + (rcRows ns).length ≤ cur.length := by rw [rcRows_len]; omega
      have hr := run_append_room_src (P := Try.prog) W 27 27 ty 40 i0 Try.underlying27 hi0 g o rs.length c (.slice (some ad) ns.length c2) ns.length (rcRows ns) hsrc hroom
        (fun j hj => by rw [hz1]; exact (hW.there (o + rs.length * 8) (rcRows ns).length hfit j hj).1) (fun j hj => by rw [hz1]; exact (hW.there (o + rs.length * 8) (rcRows ns).length hfit j hj).2)
      rw [hz1] at hr
      refine ⟨_, _, _, hr, .inr ⟨g, o, _, rfl, hW.store (o + rs.length * 8) (rcRows ns) hfit, ?_, ?_, h3, ?_⟩, (Kept.refl _ W).setCells (.inl ⟨o, rfl⟩) _ _, fun q hq => .inl hq⟩
      · have : (splice cur (o + rs.length * 8) (rcRows ns)).length = cur.length := by
          unfold splice
          rw [List.length_append, List.length_append, List.length_take, List.length_drop]; omega
        omega
      · rw [List.length_append]; exact hroom
      · have e1 : splice cur (o + rs.length * 8) (rcRows ns) = cur.take o ++ ((cur.drop o).take (rs.length * 8) ++ (rcRows ns ++ cur.drop (o + rs.length * 8 + (rcRows ns).length))) := by
          unfold splice
          rw [List.take_add, List.append_assoc]
        rw [e1, h4, List.drop_append_of_le_length (by rw [List.length_take]; omega), List.drop_take, show o - o = 0 from by omega, List.take_zero, List.nil_append, rcRows_append, ← List.append_assoc, List.take_append_of_le_length (by rw [List.length_append, List.length_append, rcRows_len, rcRows_len]; omega), List.take_of_length_le (by rw [List.length_append, List.length_append, rcRows_len, rcRows_len]; omega)]
    · refine hgrow (by omega) (fun w hw => ?_)
      refine run_firstCells_some w i0.size rs.length _ rs.length c (rcRows rs) (by rw [rcRows_len, hz1]) (fun j u hu => ?_)
      have := rcAt_cells (RowO.at_ (W := W) (.inr ⟨g, o, cur, rfl, hW, h1, h2, h3, h4⟩)) j u hu
      unfold World.cell? at this ⊢
      rw [hw]
      exact this

theorem rcAt_cells2 {W : World} {a : Addr} {rs : List Rc} (h : RcAt W (some a) rs) : ∀ j u, (rcRows rs)[j]? = some u → W.cell? (a.add j) = some u := fun j u hu => by
  have hjl := (List.getElem?_eq_some_iff.1 hu).1
  rw [rcRows_len] at hjl
  obtain ⟨r, hr⟩ : ∃ r, rs[j / 8]? = some r := ⟨_, List.getElem?_eq_getElem (by omega)⟩
  obtain ⟨b, o, e, _⟩ := h _ r hr
  cases e
  exact rcAt_cells h j u hu
/-- A row of one's own that is just made. -/
theorem own_empty {W : World} {B g : Nat} (h : W.heap[g]? = some (.cells #[] 40 (0, 0))) (hB : B ≤ g) : W.ownsRow B 40 8 (.slice (some ⟨g, 0, none⟩) 0 0) 0 [] :=
  ⟨by simp, .inr ⟨g, 0, #[], rfl, hB, h, Nat.le_refl _, Nat.zero_le _, by simp, by simp⟩⟩
theorem cellFar {w : World} {b x i o : Nat} {u v : Value} (h : w.cell? ⟨x, i, none⟩ = some v) (hne : x ≠ b) : (w.setCell ⟨b, o, none⟩ u).cell? ⟨x, i, none⟩ = some v :=
  (World.cell?_of_block (heap_setCells_far b hne [u] o w)).trans h
theorem wpList_append_by {P : Program} {w w' : World} {ops : Array Oper} {rest : List Oper} {o : Oper} {a : Go.Act} {Q : Exit → Go.Act → World → Prop} (hgd : o.guard = none) (s x : Operand) (t : TypeId)
    (ho : o.op = .call { callee := .builtin .append, args := #[s, x], argTypes := #[t, t] }) (vs vx v : Value) (hs : a.eval s = vs) (hx : a.eval x = vx)
    (hr : (Builtin.append_ #[t, t] o.type #[vs, vx]).run P w = .ok v w') (h : wpList P ops Q rest (a.put o.dst v) w') : wpList P ops Q (o :: rest) a w :=
  wpList_plain hgd fun _ hK => by
    unfold Oper.wp execOp
    simp only [ho, resolve, invoke, builtin, Sem.run_bind, Sem.run_pure, Result.andThen_ok, List.map_toArray, List.map_cons, List.map_nil, hs, hx, hr]
    exact hK _ _ h
theorem eql_nilP (w : World) (a : Option Addr) (n c : Nat) : (binOp .eql 27 (.slice a n c) (.slice none 0 0)).run Try.prog w = .ok (.bool a.isNone) w := by
  simp only [binOp]
  simp [Op.equal, Op.maxDepth, Lib.run_equalIn_slice_nil w 9999 27 40 a n c 0 0 Try.underlying27]
set_option maxRecDepth 100000 in
set_option maxHeartbeats 4000000 in
theorem rclone_any (va : Option Addr) (c : Nat) (rs : List Rc) (w : World) (h : RcAt w va rs) (hn : rs.length ≤ 100000) :
    Calls Try.prog 37 #[.slice va rs.length c] w fun e w' => ∃ va' c', e = .returned (.slice va' rs.length c') ∧ RowO w' va' c' rs ∧ (∀ q, ownB va' q → w.heap.size ≤ q) ∧ Below w.heap.size w w' := by
  have hnil := fun W => eql_nilP W va rs.length c
  rcases va with _ | ad
  · obtain rfl : rs = [] := by
      cases rs with
      | nil => rfl
      | cons r t => obtain ⟨b, o, e, _⟩ := h 0 r rfl; cases e
    clear h hnil
    have hnil := fun W => eql_nilP W none 0 c
    go_enter Try.func37, Try.ntmps37
    go_wp2_with fail
    go_ret
    exact ⟨none, 0, rfl, .inl ⟨rfl, rfl, rfl⟩, (fun q ⟨o, e⟩ => by cases e), Below.refl _ _⟩
  · obtain ⟨V, hV⟩ : ∃ V, Hid (V = w.alloc (.cells #[] 40)) := ⟨_, Lib.hid rfl⟩
    have hb0 : Below w.heap.size w V := by rw [hV.out]; exact grewAlloc (Below.refl _ _) _
    have hin : RcAt V (some ad) rs := h.below hb0
    have hrow : RowO V (some ⟨w.heap.size, 0, none⟩) 0 [] := .inr ⟨w.heap.size, 0, [], rfl, by rw [hV.out]; exact Whole.new w _ _, Nat.le_refl _, Nat.le_refl _, Nat.zero_le _, rfl⟩
    obtain ⟨va', c', W', hr, hro, hk, hq⟩ := run_row_append (W := V) (ns := rs) hrow (by simpa using (by omega : rs.length ≤ 1000000)) ad c (rcAt_cells2 hin) 27
    have hb2 : Below w.heap.size w W' := hb0.trans (hk.below hb0.size (fun q hq => by obtain ⟨o', e⟩ := hq; cases e; exact Nat.le_refl _))
    have hfin : Hid (RowO W' va' c' rs ∧ (∀ q, ownB va' q → w.heap.size ≤ q) ∧ Below w.heap.size w W') := Lib.hid ⟨by simpa using hro, fun q h1 => by
      rcases hq q h1 with ⟨o', e⟩ | e
      · cases e; exact Nat.le_refl _
      · exact Nat.le_trans hb0.size e, hb2⟩
    simp only [List.length_nil, Nat.zero_add] at hr
    obtain ⟨N, hN⟩ : ∃ N, Hid (rs.length = N) := ⟨_, Lib.hid rfl⟩
    rw [hN.out] at hr hnil ⊢
    replace hr := Lib.hid hr
    clear hin hrow hro hk hq hb2 h hb0
    go_enter Try.func37, Try.ntmps37
    go_wp2_with (with_reducible refine zAppend _ _ _ rfl ?_)
    refine Lib.hid ?_
    rw [← show V = _ from hV.out]
    refine wpList_append_by rfl _ _ 27 rfl _ _ _ rfl rfl hr.out ?_
    go_wp2_with fail
    go_ret
    exact ⟨va', c', rfl, hfin.out⟩

set_option maxRecDepth 100000 in
set_option maxHeartbeats 4000000 in
/-- own: the same records in memory of their own. -/
theorem own_any (va : Option Addr) (c : Nat) (rs : List Rc) (w : World) (h : RcAt w va rs) (hn : rs.length ≤ 1000) (hsz : ∀ r ∈ rs, r.key.size ≤ 1000000 ∧ r.val.size ≤ 1000000) :
    Calls Try.prog 39 #[.slice va rs.length c] w fun e w' => ∃ va' c', e = .returned (.slice va' rs.length c') ∧ RowO w' va' c' rs ∧ (∀ q, ownB va' q → w.heap.size ≤ q) ∧ Below w.heap.size w w' := by
  have hcl := Lib.hid (rclone_any va c rs w h (by omega))
  obtain ⟨N, hN⟩ : ∃ N, Hid (rs.length = N) := ⟨_, Lib.hid rfl⟩
  rw [hN.out] at hcl hn ⊢
  replace hsz := Lib.hid hsz
  have hst := Lib.hid (fun (s : ByteArray) W (hz : s.size ≤ 1000000) => clone_str s W (by omega))
  clear h
  go_enter Try.func39, Try.ntmps39
  go_wp2_with fail
  refine hcl.out.mono ?_
  rintro _ w1 ⟨vA, vc, rfl, hro, hq, hb1⟩
  have hS := Lib.hid (And.intro hro hb1)
  replace hq := Lib.hid hq
  clear hcl hro hb1
  go_wp2_with fail
  go_loopg [10] N (fun ga i wr => ∃ a : Nat, a ≤ N ∧ N ≤ a + ga ∧ i = .int .i64 (a : Int) ∧ Hid (RowO wr vA vc rs ∧ Below w.heap.size w wr))
  case atStart => exact ⟨0, by omega, by omega, rfl, hS⟩
  case round =>
    clear hS
    obtain ⟨a, ha, hg, rfl, hrel⟩ := hrel
    generalize wr = wo at *
    by_cases hlt : a < N
    · obtain ⟨r, hr⟩ : ∃ r, rs[a]? = some r := ⟨_, List.getElem?_eq_getElem (by have := hN.out; omega)⟩
      obtain ⟨hro, hbl⟩ := hrel.out
      obtain ⟨b, o, rfl, c0, c1, c2, c3, c4, c5, c6, c7⟩ := hro.at_.get hr
      have hsr := hsz.out r (List.mem_of_getElem? hr)
      obtain ⟨W1, hW1⟩ : ∃ W1, Hid (W1 = wo.alloc (.cells #[.int .i64 r.off, .int .i64 r.tick, .string r.key, .string r.val, .bool r.gone, .int .i64 r.prod, .int .i64 r.seq, .int .i64 r.frm] 40)) := ⟨_, Lib.hid rfl⟩
      have hb1 : Below wo.heap.size wo W1 := by rw [hW1.out]; exact grewAlloc (Below.refl _ _) _
      have hX1 : Whole W1 wo.heap.size 40 (rcL r) := by rw [hW1.out]; exact Whole.new wo _ _
      obtain ⟨xb, hxb⟩ : ∃ xb, Hid (wo.heap.size = xb) := ⟨_, Lib.hid rfl⟩
      rw [hxb.out] at hX1
      have x2 : W1.cell? ⟨xb, 2, none⟩ = some (.string r.key) := hX1.cell 2
      have x3 : W1.cell? ⟨xb, 3, none⟩ = some (.string r.val) := hX1.cell 3
      have hk1 := hst.out r.key W1.drew hsr.1
      have hv1 := hst.out r.val W1.drew hsr.2
      have hk2 := Lib.hid (fun W => hst.out r.key W hsr.1)
      have hv2 := Lib.hid (fun W => hst.out r.val W hsr.2)
      have hki : (a : Int) < (N : Int) := by omega
      have hbx : xb ≠ b := by
        have h1 := World.block_lt_of_cell? _ _ c0
        have h2 := hxb.out
        simp only at h1
        omega
      have hR1 := Lib.hid (And.intro (hro.below hb1) (grew hbl hb1))
      replace hk1 := Lib.hid hk1
      replace hv1 := Lib.hid hv1
      replace hr := Lib.hid hr
      clear hrel hro hbl hb1 hX1
      go_upto_region 5 with fail
      rw [← show W1 = _ from hW1.out, hxb.out]
      clear hW1 hxb c0 c1 c2 c3 c4 c5 c6 c7
      have hrow2 : Hid (∀ V, Below W1.heap.size W1 V → (V.cell? ⟨b, o + a * 8 + 2, none⟩ = some (.string r.key) ∧ V.frozen? ⟨b, o + a * 8 + 2, none⟩ = false) ∧ (V.cell? ⟨b, o + a * 8 + 3, none⟩ = some (.string r.val) ∧ V.frozen? ⟨b, o + a * 8 + 3, none⟩ = false) ∧
          (RowO ((V.setCell ⟨b, o + a * 8 + 2, none⟩ (.string r.key)).setCell ⟨b, o + a * 8 + 3, none⟩ (.string r.val)) (some ⟨b, o, none⟩) vc rs ∧ Below w.heap.size w ((V.setCell ⟨b, o + a * 8 + 2, none⟩ (.string r.key)).setCell ⟨b, o + a * 8 + 3, none⟩ (.string r.val)))) := Lib.hid (fun V hb => by
        have hro2 := hR1.out.1.below hb
        have hbl2 := grew hR1.out.2 hb
        obtain ⟨b', o', e', d0, d1, d2, d3, _⟩ := hro2.at_.get hr.out
        cases e'
        rcases hro2 with ⟨e, _⟩ | ⟨g, o', cur, e, hW, h1, h2, h3, h4⟩
        · cases e
        · cases e
          have hB : w.heap.size ≤ b := hq.out b ⟨o, rfl⟩
          have d2' := (hW.cell (o + a * 8 + 2)).symm.trans d2
          have d3' := (hW.cell (o + a * 8 + 3)).symm.trans d3
          have s1 : cur.set (o + a * 8 + 2) (.string r.key) = cur := by
            obtain ⟨hl, e⟩ := List.getElem?_eq_some_iff.1 d2'
            rw [← e]; exact List.set_getElem_self hl
          have s2 : cur.set (o + a * 8 + 3) (.string r.val) = cur := by
            obtain ⟨hl, e⟩ := List.getElem?_eq_some_iff.1 d3'
            rw [← e]; exact List.set_getElem_self hl
          have w1 : Whole (V.setCell ⟨b, o + a * 8 + 2, none⟩ (.string r.key)) b 40 cur := by
            have := hW.store (o + a * 8 + 2) [.string r.key] (by have := (List.getElem?_eq_some_iff.1 d2').1; simp; omega)
            rwa [← splice_cons cur (o + a * 8 + 2) _ [] (List.getElem?_eq_some_iff.1 d2').1, s1, show splice cur (o + a * 8 + 2 + 1) [] = cur from by simp [splice]] at this
          have w2 : Whole ((V.setCell ⟨b, o + a * 8 + 2, none⟩ (.string r.key)).setCell ⟨b, o + a * 8 + 3, none⟩ (.string r.val)) b 40 cur := by
            have := w1.store (o + a * 8 + 3) [.string r.val] (by have := (List.getElem?_eq_some_iff.1 d3').1; simp; omega)
            rwa [← splice_cons cur (o + a * 8 + 3) _ [] (List.getElem?_eq_some_iff.1 d3').1, s2, show splice cur (o + a * 8 + 3 + 1) [] = cur from by simp [splice]] at this
          exact ⟨⟨d2, hW.frozen _⟩, ⟨d3, hW.frozen _⟩, .inr ⟨b, o, cur, rfl, w2, h1, h2, h3, h4⟩, Z.below_store (Z.below_store hbl2 (c := b) hB (Nat.le_refl _) (o + a * 8 + 2) [.string r.key]) (c := b) hB (Nat.le_refl _) (o + a * 8 + 3) [.string r.val]⟩)
      have hD : Below W1.heap.size W1 W1.drew := (Below.refl _ _).drew
      clear hR1 hq hsr
      go_region_held3 (fun w' => w'.cell? ⟨xb, 2, none⟩ = some (.string r.key) ∧ w'.cell? ⟨xb, 3, none⟩ = some (.string r.val)) (first | assumption | exact ⟨cellFar f2 hbx, cellFar f3 hbx⟩ | exact ⟨cellFar (cellFar f2 hbx) hbx, cellFar (cellFar f3 hbx) hbx⟩ | (go_keep)) (first
        | (go_at_call 52; (with_reducible refine hk1.out.mono ?_); rintro _ w3 ⟨rfl, hb3⟩; have hB3 := Lib.hid (grew hD hb3); have d2 := keepZ hB3.out x2; have d3 := keepZ hB3.out x3; replace hb3 := Lib.hid hb3)
        | (go_at_call 52; (with_reducible refine hv1.out.mono ?_); rintro _ w3 ⟨rfl, hb3⟩; have hB3 := Lib.hid (grew hD hb3); have d2 := keepZ hB3.out x2; have d3 := keepZ hB3.out x3; replace hb3 := Lib.hid hb3)
        | (go_at_call 52; (with_reducible refine (hv2.out _).mono ?_); rintro _ w4 ⟨rfl, hb4⟩; have hB4 := Lib.hid (grew hB3.out hb4); obtain ⟨⟨e2, z2⟩, ⟨e3, z3⟩, hF⟩ := hrow2.out _ hB4.out; replace hF := Lib.hid hF; replace hb4 := Lib.hid hb4; have f2 := keepZ hB4.out x2; have f3 := keepZ hB4.out x3)
        | (go_at_call 52; (with_reducible refine (hk2.out _).mono ?_); rintro _ w4 ⟨rfl, hb4⟩; have hB4 := Lib.hid (grew hB3.out hb4); obtain ⟨⟨e2, z2⟩, ⟨e3, z3⟩, hF⟩ := hrow2.out _ hB4.out; replace hF := Lib.hid hF; replace hb4 := Lib.hid hb4; have f2 := keepZ hB4.out x2; have f3 := keepZ hB4.out x3))
      all_goals
        go_wp2_with fail
        go_roundg (gk - 1)
        case measure => omega
        case rel => exact ⟨a + 1, by omega, by omega, by go_num, hF⟩
    · obtain rfl : a = N := by omega
      go_wp2_with fail
      go_ret
      exact ⟨vA, vc, rfl, hrel.out.1, hq.out, hrel.out.2⟩
end Go.Proofs.Ytahljbjgenepaaa.W
