/- Package part: the library's Clone of a row of records; own; append to a row of its own; the library's search, below. -/
import Derived.Test.YtpfnpfbimadjkaaPtA
namespace Go.Proofs.Ytpfnpfbimadjkaa.W
open Go.RowKit Go.Sort
open Go.Proofs.Ytpfnpfbimadjkaa.M Go.Proofs.Ytpfnpfbimadjkaa.D Go.Proofs.Ytpfnpfbimadjkaa.Z
set_option linter.unusedVariables false
set_option linter.unusedSimpArgs false

/-- Records behind a row of one's own. -/
theorem run_row_append {W : World} {va : Option Addr} {c : Nat} {rs ns : List Rc} (h : RowO W va c rs) (hn : rs.length + ns.length ≤ 1000000) (ad : Addr) (c2 : Nat) (hns : ∀ j u, (rcRows ns)[j]? = some u → W.cell? (ad.add j) = some u) (ty : TypeId) :
    ∃ va' c' W', (Builtin.append_ #[22, 22] ty #[.slice va rs.length c, .slice (some ad) ns.length c2]).run Try.prog W = .ok (.slice va' (rs.length + ns.length) c') W' ∧
      RowO W' va' c' (rs ++ ns) ∧ Kept (ownB va) W W' ∧ ∀ q, ownB va' q → ownB va q ∨ W.heap.size ≤ q := by
  obtain ⟨i0, hi0, hz0, hz1, hz2⟩ := info_parts infoRp
  have hsrc : Src Try.prog i0.size 22 (.slice (some ad) ns.length c2) ns.length (rcRows ns) W :=
    Src.ofSlice W Try.underlying22 ad ns.length c2 (rcRows ns) (by rw [rcRows_len, hz1]) hns (rcRows_one ns)
  have hgrow : c < rs.length + ns.length → (∀ w : World, w.heap = W.heap → (Builtin.firstCells i0.size rs.length (.slice va rs.length c)).run Try.prog w = .ok (rcRows rs).toArray w) → ∃ va' c' W', (Builtin.append_ #[22, 22] ty #[.slice va rs.length c, .slice (some ad) ns.length c2]).run Try.prog W = .ok (.slice va' (rs.length + ns.length) c') W' ∧
      RowO W' va' c' (rs ++ ns) ∧ Kept (ownB va) W W' ∧ ∀ q, ownB va' q → ownB va q ∨ W.heap.size ≤ q := fun hc hold => by
    have hr := run_append_grow_src (P := Try.prog) W 22 22 ty 32 i0 _ Try.underlying22 hi0 hz0 va rs.length c (rcRows rs) (hold W.drew rfl) (.slice (some ad) ns.length c2) ns.length (rcRows ns) hsrc hc (by omega) (growslice_fits hc (by rw [hz2]; omega))
    have hs : (Builtin.zeroCells (Value.agg #[.int .i64 0, .int .i64 0, .string ⟨#[]⟩, .string ⟨#[]⟩, .bool false, .int .i64 0, .int .i64 0, .int .i64 0]).cells (grownCap W (rs.length + ns.length) c 32 - (rs.length + ns.length))).size = (grownCap W (rs.length + ns.length) c 32 - (rs.length + ns.length)) * 8 := by
      rw [size_zeroCells]; rfl
    have hg := grownCap_ge W (rs.length + ns.length) c 32
    have hm := grownCap_le_maxLen W (rs.length + ns.length) c 32 (by unfold maxLen; omega)
    generalize Builtin.zeroCells _ _ = Z at hr hs
    generalize grownCap W (rs.length + ns.length) c 32 = cap at hr hs hg hm
    have hl : (rcRows rs ++ rcRows ns).length = (rs.length + ns.length) * 8 := by rw [List.length_append, rcRows_len, rcRows_len]; omega
    have hwh : Whole (W.drew.alloc (.cells ((rcRows rs ++ rcRows ns).toArray ++ Z) 32)) W.heap.size 32 ((rcRows rs ++ rcRows ns) ++ Z.toList) := by
      have := heap_alloc_new W.drew (.cells ((rcRows rs ++ rcRows ns).toArray ++ Z) 32)
      unfold Whole
      rw [show ((rcRows rs ++ rcRows ns) ++ Z.toList).toArray = (rcRows rs ++ rcRows ns).toArray ++ Z from by apply Array.ext'; simp]
      exact this
    refine ⟨_, _, _, hr, .inr ⟨W.heap.size, 0, _, rfl, hwh, ?_, ?_, hm, ?_⟩, ?_, ?_⟩
    · have hz : Z.toList.length = (cap - (rs.length + ns.length)) * 8 := by rw [← hs]; simp
      rw [List.length_append, hl, hz]
      omega
    · rw [List.length_append]; exact hg
    · rw [List.drop_zero, List.length_append, ← hl, List.take_left, rcRows_append]
    · exact ((Kept.refl _ W).drewN 1).alloc _
    · intro q hq
      obtain ⟨o, e⟩ := hq
      cases e
      exact .inr (Nat.le_refl _)
  rcases h with ⟨rfl, rfl, rfl⟩ | ⟨g, o, cur, rfl, hW, h1, h2, h3, h4⟩
  · by_cases h0 : ns = []
    · subst h0
      refine ⟨none, 0, W, ?_, .inl ⟨rfl, rfl, rfl⟩, Kept.refl _ _, fun q hq => .inl hq⟩
      exact run_append_nothing (P := Try.prog) W 22 22 ty 32 i0 Try.underlying22 hi0 none 0 0 (Nat.le_refl _) _ hsrc
    · have hpos : 0 < ns.length := List.length_pos_iff.2 h0
      exact hgrow (by simpa using hpos) (fun w _ => run_firstCells_none w i0.size 0 0 0)
  · by_cases hroom : rs.length + ns.length ≤ c
    · have hfit : o + rs.length * 8 + (rcRows ns).length ≤ cur.length := by rw [rcRows_len]; omega
      have hr := run_append_room_src (P := Try.prog) W 22 22 ty 32 i0 Try.underlying22 hi0 g o rs.length c (.slice (some ad) ns.length c2) ns.length (rcRows ns) hsrc hroom
        (fun j hj => by rw [hz1]; exact (hW.there (o + rs.length * 8) (rcRows ns).length hfit j hj).1) (fun j hj => by rw [hz1]; exact (hW.there (o + rs.length * 8) (rcRows ns).length hfit j hj).2)
      rw [hz1] at hr
      refine ⟨_, _, _, hr, .inr ⟨g, o, _, rfl, hW.store (o + rs.length * 8) (rcRows ns) hfit, ?_, ?_, h3, ?_⟩, (Kept.refl _ W).setCells (.inl ⟨o, rfl⟩) _ _, fun q hq => .inl hq⟩
      · have : (splice cur (o + rs.length * 8) (rcRows ns)).length = cur.length := by
          unfold splice
          rw [List.length_append, List.length_append, List.length_take, List.length_drop]; omega
        omega
      · rw [List.length_append]; exact hroom
      · have e1 : splice cur (o + rs.length * 8) (rcRows ns) = cur.take o ++ ((cur.drop o).take (rs.length * 8) ++ (rcRows ns ++ cur.drop (o + rs.length * 8 + (rcRows ns).length))) := by
          unfold splice
          rw [List.take_add, List.append_assoc]
        rw [e1, h4, List.drop_append_of_le_length (by rw [List.length_take]; omega), List.drop_take, show o - o = 0 from by omega, List.take_zero, List.nil_append, rcRows_append, ← List.append_assoc, List.take_append_of_le_length (by rw [List.length_append, List.length_append, rcRows_len, rcRows_len]; omega), List.take_of_length_le (by rw [List.length_append, List.length_append, rcRows_len, rcRows_len]; omega)]
    · refine hgrow (by omega) (fun w hw => ?_)
      refine run_firstCells_some w i0.size rs.length _ rs.length c (rcRows rs) (by rw [rcRows_len, hz1]) (fun j u hu => ?_)
      have := rcAt_cells (RowO.at_ (W := W) (.inr ⟨g, o, cur, rfl, hW, h1, h2, h3, h4⟩)) j u hu
      unfold World.cell? at this ⊢
      rw [hw]
      exact this

theorem rcAt_cells2 {W : World} {a : Addr} {rs : List Rc} (h : RcAt W (some a) rs) : ∀ j u, (rcRows rs)[j]? = some u → W.cell? (a.add j) = some u := fun j u hu => by
  have hjl := (List.getElem?_eq_some_iff.1 hu).1
  rw [rcRows_len] at hjl
  obtain ⟨r, hr⟩ : ∃ r, rs[j / 8]? = some r := ⟨_, List.getElem?_eq_getElem (by omega)⟩
  obtain ⟨b, o, e, _⟩ := h _ r hr
  cases e
  exact rcAt_cells h j u hu
/-- A row of one's own that is just made. -/
theorem own_empty {W : World} {B g : Nat} (h : W.heap[g]? = some (.cells #[] 32 (0, 0))) (hB : B ≤ g) : W.ownsRow B 32 8 (.slice (some ⟨g, 0, none⟩) 0 0) 0 [] :=
  ⟨by simp, .inr ⟨g, 0, #[], rfl, hB, h, Nat.le_refl _, Nat.zero_le _, by simp, by simp⟩⟩
theorem cellFar {w : World} {b x i o : Nat} {u v : Value} (h : w.cell? ⟨x, i, none⟩ = some v) (hne : x ≠ b) : (w.setCell ⟨b, o, none⟩ u).cell? ⟨x, i, none⟩ = some v :=
  (World.cell?_of_block (heap_setCells_far b hne [u] o w)).trans h
theorem wpList_append_by {P : Program} {w w' : World} {ops : Array Oper} {rest : List Oper} {o : Oper} {a : Go.Act} {Q : Exit → Go.Act → World → Prop} (hgd : o.guard = none) (s x : Operand) (t : TypeId)
    (ho : o.op = .call { callee := .builtin .append, args := #[s, x], argTypes := #[t, t] }) (vs vx v : Value) (hs : a.eval s = vs) (hx : a.eval x = vx)
    (hr : (Builtin.append_ #[t, t] o.type #[vs, vx]).run P w = .ok v w') (h : wpList P ops Q rest (a.put o.dst v) w') : wpList P ops Q (o :: rest) a w :=
  wpList_plain hgd fun _ hK => by
    unfold Oper.wp execOp
    simp only [ho, resolve, invoke, builtin, Sem.run_bind, Sem.run_pure, Result.andThen_ok, List.map_toArray, List.map_cons, List.map_nil, hs, hx, hr]
    exact hK _ _ h
theorem eql_nilP (w : World) (a : Option Addr) (n c : Nat) : (binOp .eql 22 (.slice a n c) (.slice none 0 0)).run Try.prog w = .ok (.bool a.isNone) w := by
  simp only [binOp]
  simp [Op.equal, Op.maxDepth, Lib.run_equalIn_slice_nil w 9999 22 32 a n c 0 0 Try.underlying22]
end Go.Proofs.Ytpfnpfbimadjkaa.W
