/- Rows of segments' numbers: package scan's numbers, the law's numbers. The library's IndexFunc and DeleteFunc at numbers, with a closure that captures one box; package scan's closure of Clean. The library's DeleteFunc at numbers, with a closure that captures one box. Rows of numbers among a law's blocks; package scan's check; nil views. -/
import Derived.Test.YtbbhnbdekblghaaGreatDoorScC
import Derived.Test.YtbbhnbdekblghaaGreatDoorShelf
import Derived.Test.YtbbhnbdekblghaaGreatDoorTake
import Derived.Lib.SliceRun
import Derived.Deep.RegionWith
section
namespace Go.Proofs.YtbbhnbdekblghaaGreatDoor.W
open Go.RowKit Go.Sort
open Go.Proofs.YtbbhnbdekblghaaGreatDoor.M Go.Proofs.YtbbhnbdekblghaaGreatDoor.D Go.Proofs.YtbbhnbdekblghaaGreatDoor.Z
set_option linter.unusedVariables false
set_option linter.unusedSimpArgs false

theorem ownSlice {W : World} {B n : Nat} {t : TypeId} {v : Value} {xs : List Value} (h : W.ownsRow B t 1 v n xs) : ∃ A c, v = .slice A n c := by
  rcases h with ⟨_, ⟨rfl, e⟩ | ⟨g, cap, cur, rfl, _⟩⟩
  · exact ⟨none, 0, by rw [e]⟩
  · exact ⟨_, _, rfl⟩
set_option maxRecDepth 100000 in
set_option maxHeartbeats 4000000 in
theorem snumbers_any {rs : List Sr} {A : Option Addr} {c : Nat} {w : World} (hn : rs.length ≤ 1000) (hrow : ∀ j r, rs[j]? = some r → ∃ q, A = some ⟨q, 0, none⟩ ∧ w.cell? ⟨q, j, none⟩ = some (ptV r.sb))
    (hobj : ∀ r ∈ rs, w.cell? ⟨r.sb, 1, none⟩ = some (.int .i64 (r.n : Int))) :
    Calls Tryz.prog 87 #[.slice A rs.length c] w fun e w' => ∃ (A2 : Option Addr) (c2 : Nat), e = .returned (.slice A2 rs.length c2) ∧ w'.ownsRow w.heap.size 3 1 (.slice A2 rs.length c2) rs.length (rowP (rs.map fun r => (r.n : Int))) ∧ Below w.heap.size w w' := by
  obtain ⟨is, his, hs0, hs1, hs2⟩ := info_parts infoI
  have hr0 : Hid (∀ (W : World), Below w.heap.size w W → ∀ (j : Nat) (r : Sr), rs[j]? = some r → ∃ q, A = some ⟨q, 0, none⟩ ∧ W.cell? ⟨q, j, none⟩ = some (ptV r.sb)) := Lib.hid (fun W hb j r hj => by
    obtain ⟨q, e, hc⟩ := hrow j r hj
    exact ⟨q, e, keepCell hb hc⟩)
  have hnm : Hid (∀ r ∈ rs, ∀ W, Below w.heap.size w W → Calls Tryz.prog 60 #[.pointer (some ⟨r.sb, 0, none⟩)] W fun e w' => e = .returned (.int .i64 (r.n : Int)) ∧ W = w') := Lib.hid (fun r hr W hb => number_any r.sb r.n W (keepCell hb (hobj r hr)))
  have hB := Below.refl w.heap.size w
  have hsn : Hid (∀ (k : Nat) (r : Sr), rs[k]? = some r → rowP ((rs.take (k + 1)).map fun r => (r.n : Int)) = rowP ((rs.take k).map fun r => (r.n : Int)) ++ [.int .i64 (r.n : Int)]) := Lib.hid (fun k r hk => by rw [List.take_add_one, hk]; simp [rowP])
  have hall : Hid (rs.take rs.length = rs) := Lib.hid (List.take_length)
  obtain ⟨n, hnn⟩ : ∃ n, Hid (rs.length = n) := ⟨_, Lib.hid rfl⟩
  rw [hnn.out] at hn hall ⊢
  clear hrow hobj
  go_enter Tryz.func87, Tryz.ntmps87
  go_wp2_with fail
  go_loopg [3, 8] n (fun ga v i wr => ∃ k : Nat, k ≤ n ∧ n ≤ k + ga ∧ i = .int .i64 k ∧ Hid (Below w.heap.size w wr ∧ wr.ownsRow w.heap.size 3 1 v k (rowP ((rs.take k).map fun r => (r.n : Int)))))
  case atStart => exact ⟨0, by omega, by omega, rfl, Lib.hid ⟨hB, by simp only [List.take_zero, List.map_nil, rowP]; exact World.ownsRow_nil _ _ _ _⟩⟩
  case round =>
    clear hB
    obtain ⟨k, hk, hg, rfl, hrel⟩ := hrel
    generalize wr = wq at *
    have hsq := hrel.out.1.size
    by_cases hlt : k < n
    · obtain ⟨r, hr⟩ : ∃ r, rs[k]? = some r := ⟨_, List.getElem?_eq_getElem (by have := hnn.out; omega)⟩
      obtain ⟨q, rfl, cq⟩ := hr0.out wq hrel.out.1 k r hr
      have hnr := Lib.hid (hnm.out r (List.mem_of_getElem? hr) wq hrel.out.1)
      have hsr := Lib.hid (hsn.out k r hr)
      clear hr
      go_wp2_with fail
      refine hnr.out.mono ?_
      rintro ee w1 ⟨rfl, rfl⟩
      go_wp2_with (with_reducible refine zAppend _ _ _ rfl ?_)
      refine Lib.hid ?_
      refine wpList_append_lies _ rfl _ _ 36 rfl w.heap.size 3 is _ 1 8 Tryz.underlying36 his hs0 hs1 hs2 rfl (by omega) _ k _ rfl (hrel.out.2.alloc _) _ 1 1 [.int .i64 (r.n : Int)] rfl rfl (World.news_of_block (heap_alloc_new _ _)) (by simp [Value.oneCell']) (by omega) (by unfold maxLen; omega) (by omega) (by simp; omega) (wq.heap.size + 1) (by simp) ?_
      intro gg cap2 w5 hown5 hgrow5 hat5 hlt5
      have hb5 : Below w.heap.size w w5 := (((Kept.of_below (own := fun b => w.heap.size ≤ b) hrel.out.1).alloc _).grown hgrow5 (fun k hk => .inl (ownFar hrel.out.2 k hk))).below (Nat.le_refl _) (fun _ h => h)
      have hnew : Hid (Below w.heap.size w w5 ∧ w5.ownsRow w.heap.size 3 1 (.slice (some ⟨gg, 0, none⟩) (k + 1) cap2) (k + 1) (rowP ((rs.take (k + 1)).map fun r => (r.n : Int)))) := Lib.hid ⟨hb5, by rw [hsr.out]; exact hown5⟩
      clear hown5 hgrow5 hat5 hb5 hrel hnr hsr hsq
      go_wp2_with fail
      go_roundg (gk - 1)
      case measure => omega
      case rel => exact ⟨k + 1, by omega, by omega, by go_num, hnew⟩
    · obtain rfl : k = n := by omega
      obtain ⟨A2, c2, hv⟩ := ownSlice hrel.out.2
      generalize u3 = v3 at *
      subst hv
      go_wp2_with fail
      go_ret
      exact ⟨A2, c2, rfl, by have h := hrel.out.2; rw [hall.out] at h; exact h, hrel.out.1⟩
set_option maxRecDepth 100000 in
set_option maxHeartbeats 4000000 in
theorem lnumbers_any {rs : List Sr} {A : Option Addr} {c : Nat} {w : World} (hn : rs.length ≤ 1000) (hrow : ∀ j r, rs[j]? = some r → ∃ q, A = some ⟨q, 0, none⟩ ∧ w.cell? ⟨q, j, none⟩ = some (ptV r.sb))
    (hobj : ∀ r ∈ rs, w.cell? ⟨r.sb, 1, none⟩ = some (.int .i64 (r.n : Int))) :
    Calls Tryz.prog 34 #[.slice A rs.length c] w fun e w' => ∃ (A2 : Option Addr) (c2 : Nat), e = .returned (.slice A2 rs.length c2) ∧ w'.ownsRow w.heap.size 3 1 (.slice A2 rs.length c2) rs.length (rowP (rs.map fun r => (r.n : Int))) ∧ Below w.heap.size w w' := by
  obtain ⟨is, his, hs0, hs1, hs2⟩ := info_parts infoI
  have hr0 : Hid (∀ (W : World), Below w.heap.size w W → ∀ (j : Nat) (r : Sr), rs[j]? = some r → ∃ q, A = some ⟨q, 0, none⟩ ∧ W.cell? ⟨q, j, none⟩ = some (ptV r.sb)) := Lib.hid (fun W hb j r hj => by
    obtain ⟨q, e, hc⟩ := hrow j r hj
    exact ⟨q, e, keepCell hb hc⟩)
  have hnm : Hid (∀ r ∈ rs, ∀ W, Below w.heap.size w W → Calls Tryz.prog 60 #[.pointer (some ⟨r.sb, 0, none⟩)] W fun e w' => e = .returned (.int .i64 (r.n : Int)) ∧ W = w') := Lib.hid (fun r hr W hb => number_any r.sb r.n W (keepCell hb (hobj r hr)))
  have hB := Below.refl w.heap.size w
  have hsn : Hid (∀ (k : Nat) (r : Sr), rs[k]? = some r → rowP ((rs.take (k + 1)).map fun r => (r.n : Int)) = rowP ((rs.take k).map fun r => (r.n : Int)) ++ [.int .i64 (r.n : Int)]) := Lib.hid (fun k r hk => by rw [List.take_add_one, hk]; simp [rowP])
  have hall : Hid (rs.take rs.length = rs) := Lib.hid (List.take_length)
  obtain ⟨n, hnn⟩ : ∃ n, Hid (rs.length = n) := ⟨_, Lib.hid rfl⟩
  rw [hnn.out] at hn hall ⊢
  clear hrow hobj
  go_enter Tryz.func34, Tryz.ntmps34
  go_wp2_with fail
  go_loopg [3, 8] n (fun ga v i wr => ∃ k : Nat, k ≤ n ∧ n ≤ k + ga ∧ i = .int .i64 k ∧ Hid (Below w.heap.size w wr ∧ wr.ownsRow w.heap.size 3 1 v k (rowP ((rs.take k).map fun r => (r.n : Int)))))
  case atStart => exact ⟨0, by omega, by omega, rfl, Lib.hid ⟨hB, by simp only [List.take_zero, List.map_nil, rowP]; exact World.ownsRow_nil _ _ _ _⟩⟩
  case round =>
    clear hB
    obtain ⟨k, hk, hg, rfl, hrel⟩ := hrel
    generalize wr = wq at *
    have hsq := hrel.out.1.size
    by_cases hlt : k < n
    · obtain ⟨r, hr⟩ : ∃ r, rs[k]? = some r := ⟨_, List.getElem?_eq_getElem (by have := hnn.out; omega)⟩
      obtain ⟨q, rfl, cq⟩ := hr0.out wq hrel.out.1 k r hr
      have hnr := Lib.hid (hnm.out r (List.mem_of_getElem? hr) wq hrel.out.1)
      have hsr := Lib.hid (hsn.out k r hr)
      clear hr
      go_wp2_with fail
      refine hnr.out.mono ?_
      rintro ee w1 ⟨rfl, rfl⟩
      go_wp2_with (with_reducible refine zAppend _ _ _ rfl ?_)
      refine Lib.hid ?_
      refine wpList_append_lies _ rfl _ _ 36 rfl w.heap.size 3 is _ 1 8 Tryz.underlying36 his hs0 hs1 hs2 rfl (by omega) _ k _ rfl (hrel.out.2.alloc _) _ 1 1 [.int .i64 (r.n : Int)] rfl rfl (World.news_of_block (heap_alloc_new _ _)) (by simp [Value.oneCell']) (by omega) (by unfold maxLen; omega) (by omega) (by simp; omega) (wq.heap.size + 1) (by simp) ?_
      intro gg cap2 w5 hown5 hgrow5 hat5 hlt5
      have hb5 : Below w.heap.size w w5 := (((Kept.of_below (own := fun b => w.heap.size ≤ b) hrel.out.1).alloc _).grown hgrow5 (fun k hk => .inl (ownFar hrel.out.2 k hk))).below (Nat.le_refl _) (fun _ h => h)
      have hnew : Hid (Below w.heap.size w w5 ∧ w5.ownsRow w.heap.size 3 1 (.slice (some ⟨gg, 0, none⟩) (k + 1) cap2) (k + 1) (rowP ((rs.take (k + 1)).map fun r => (r.n : Int)))) := Lib.hid ⟨hb5, by rw [hsr.out]; exact hown5⟩
      clear hown5 hgrow5 hat5 hb5 hrel hnr hsr hsq
      go_wp2_with fail
      go_roundg (gk - 1)
      case measure => omega
      case rel => exact ⟨k + 1, by omega, by omega, by go_num, hnew⟩
    · obtain rfl : k = n := by omega
      obtain ⟨A2, c2, hv⟩ := ownSlice hrel.out.2
      generalize u3 = v3 at *
      subst hv
      go_wp2_with fail
      go_ret
      exact ⟨A2, c2, rfl, by have h := hrel.out.2; rw [hall.out] at h; exact h, hrel.out.1⟩
end Go.Proofs.YtbbhnbdekblghaaGreatDoor.W
end
section
namespace Go.Proofs.YtbbhnbdekblghaaGreatDoor.W
open Go.RowKit Go.Sort
open Go.Proofs.YtbbhnbdekblghaaGreatDoor.M Go.Proofs.YtbbhnbdekblghaaGreatDoor.D Go.Proofs.YtbbhnbdekblghaaGreatDoor.Z
set_option linter.unusedVariables false
set_option linter.unusedSimpArgs false

/-- A row of numbers that a box points at. -/
def StayAt (w : World) (cb : Nat) (xs : List Int) : Prop := ∃ A c, w.cell? ⟨cb, 0, none⟩ = some (.slice A xs.length c) ∧ ∀ j x, xs[j]? = some x → ∃ q, A = some ⟨q, 0, none⟩ ∧ w.cell? ⟨q, j, none⟩ = some (.int .i64 x)
theorem goes_any (cb : Nat) (xs : List Int) (x : Int) (w : World) (h : StayAt w cb xs) (hn : xs.length ≤ 1000) :
    Calls Tryz.prog 89 #[.int .i64 x, .pointer (some ⟨cb, 0, none⟩)] w fun e w' => e = .returned (.bool (xs.contains x)) ∧ w = w' := by
  obtain ⟨A, c, h1, h2⟩ := h
  have hc : Hid (Calls Tryz.prog 90 #[.slice A xs.length c, .int .i64 x] w fun e w' => e = .returned (.bool (xs.contains x)) ∧ w' = w) := Lib.hid (by
    cases xs with
    | nil => exact Tryz.slices_Contains_int_empty A c x w
    | cons y ys =>
      obtain ⟨q, rfl, _⟩ := h2 0 y rfl
      have h3 := Tryz.slices_Contains_int q 0 (y :: ys).length c (y :: ys) x w (Nat.le_refl _) (by omega) (fun j hj => by
        obtain ⟨q2, e, h4⟩ := h2 j _ (List.getElem?_eq_getElem hj)
        cases e
        rw [Nat.zero_add, h4, List.getD_eq_getElem?_getD, List.getElem?_eq_getElem hj]
        rfl)
      rw [List.take_length] at h3
      exact h3)
  obtain ⟨R, hR⟩ : ∃ R, Hid (xs.contains x = R) := ⟨_, Lib.hid rfl⟩
  rw [hR.out] at hc ⊢
  clear h2 hR
  go_enter Tryz.func89, Tryz.ntmps89
  go_wp2_with fail
  refine hc.out.mono ?_
  rintro _ w1 ⟨rfl, rfl⟩
  go_wp2_with fail
  go_ret
  exact ⟨rfl, rfl⟩
section
variable (P : Int → Bool) (gf : FuncId) (cb : Nat)
set_option maxRecDepth 100000 in
theorem nindex_any (q c : Nat) (xs : List Int) (w : World) (hn : xs.length ≤ 1000) (hrow : ∀ j x, xs[j]? = some x → w.cell? ⟨q, j, none⟩ = some (.int .i64 x))
    (eg : ∀ args w, (callFunc gf args).run Tryz.prog w = .ok (.enter gf args) w) (hf : ∀ x : Int, Calls Tryz.prog gf #[.int .i64 x, .pointer (some ⟨cb, 0, none⟩)] w fun e w' => e = .returned (.bool (P x)) ∧ w = w') :
    Calls Tryz.prog 123 #[.slice (some ⟨q, 0, none⟩) xs.length c, .func (.func gf) #[] #[.pointer (some ⟨cb, 0, none⟩)]] w fun e w' =>
      ((∃ (i : Nat) (x : Int), e = .returned (.int .i64 i) ∧ xs[i]? = some x ∧ P x = true ∧ ∀ j y, j < i → xs[j]? = some y → P y = false) ∨ (e = .returned (.int .i64 (-1)) ∧ ∀ y ∈ xs, P y = false)) ∧ w = w' := by
  replace hf := Lib.hid hf
  replace hrow := Lib.hid hrow
  obtain ⟨n, hnn⟩ : ∃ n, Hid (xs.length = n) := ⟨_, Lib.hid rfl⟩
  rw [hnn.out] at hn ⊢
  go_enter Tryz.func123, Tryz.ntmps123
  go_wp2_with fail
  go_loopg [8] n (fun ga i wr => ∃ j : Nat, j ≤ n ∧ n ≤ j + ga ∧ i = .int .i64 j ∧ Hid (∀ i y, i < j → xs[i]? = some y → P y = false) ∧ w = wr)
  case atStart => exact ⟨0, by omega, by omega, rfl, Lib.hid (fun i y hi => by omega), rfl⟩
  case round =>
    obtain ⟨j, hj, hg, rfl, hno, rfl⟩ := hrel
    by_cases hlt : j < n
    · obtain ⟨x, hx⟩ : ∃ x, xs[j]? = some x := ⟨_, List.getElem?_eq_getElem (by have := hnn.out; omega)⟩
      have cx := hrow.out j x hx
      have hfx := hf.out x
      replace hx := Lib.hid hx
      cases hs : P x <;> rw [hs] at hfx <;> replace hs := Lib.hid hs <;> replace hfx := Lib.hid hfx
      · have hno2 : Hid (∀ i y, i < j + 1 → xs[i]? = some y → P y = false) := Lib.hid (fun i y hi hy => by
          rcases Nat.lt_or_ge i j with c | c
          · exact hno.out i y c hy
          · obtain rfl : i = j := by omega
            rw [hx.out] at hy; cases hy; exact hs.out)
        go_wp2_with fail
        refine hfx.out.mono ?_
        rintro _ w1 ⟨rfl, rfl⟩
        go_wp2_with fail
        go_roundg (gk - 1)
        case measure => omega
        case rel => exact ⟨j + 1, by omega, by omega, by go_num, hno2, rfl⟩
      · go_wp2_with fail
        refine hfx.out.mono ?_
        rintro _ w1 ⟨rfl, rfl⟩
        go_wp2_with fail
        go_ret
        exact ⟨.inl ⟨j, x, rfl, hx.out, hs.out, hno.out⟩, rfl⟩
    · obtain rfl : j = n := by omega
      go_wp2_with fail
      go_ret
      exact ⟨.inr ⟨rfl, fun y hy => by
        obtain ⟨i, hi⟩ := List.getElem?_of_mem hy
        exact hno.out i y (by rw [← hnn.out]; exact (List.getElem?_eq_some_iff.1 hi).1) hi⟩, rfl⟩
end
end Go.Proofs.YtbbhnbdekblghaaGreatDoor.W
end
section
namespace Go.Proofs.YtbbhnbdekblghaaGreatDoor.W
open Go.RowKit Go.Sort
open Go.Proofs.YtbbhnbdekblghaaGreatDoor.M Go.Proofs.YtbbhnbdekblghaaGreatDoor.D Go.Proofs.YtbbhnbdekblghaaGreatDoor.Z
set_option linter.unusedVariables false
set_option linter.unusedSimpArgs false

/-- clear(s) of some numbers. -/
theorem wpList_clear_ints {w : World} {ops : Array Oper} {rest : List Oper} {o : Oper} {a : Act} {Q : Exit → Act → World → Prop} (hgd : o.guard = none) (x : Operand)
    (ho : o.op = .call { callee := .builtin .clear, args := #[x], argTypes := #[36] }) (k off n c : Nat) (hx : a.eval x = .slice (some ⟨k, off, none⟩) n c) (hn : 0 < n) (t : TypeId) (cur : List Value) (hW : Whole w k t cur) (hl : off + n ≤ cur.length)
    (h : ∀ zs : List Value, zs.length = n → Whole (w.setCells k off zs) k t (splice cur off zs) → wpList Tryz.prog ops Q rest (a.put o.dst (.tuple #[])) (w.setCells k off zs)) :
    wpList Tryz.prog ops Q (o :: rest) a w := by
  refine wpList_plain hgd fun K hK => ?_
  obtain ⟨i0, hi0, hz0, hz1, hz2⟩ := info_parts infoI
  obtain ⟨z, hz, hzs, hzo⟩ : ∃ z, i0.zero = some z ∧ z.cells.size = 1 ∧ ∀ v ∈ z.cells.toList, v.oneCell' = true := ⟨_, hz0, by simp [Value.cells], fun v hv => by
    have : v = .int .i64 0 := by simpa [Value.cells] using hv
    rw [this]; rfl⟩
  clear hz0
  have hzv : (zeroValue 3).run Tryz.prog w = .ok z w := by simp [zeroValue, typeInfo, hi0, hz]
  have hzl : (Builtin.zeroCells z.cells n).toList.length = n := by simp [size_zeroCells, hzs]
  have hth := hW.there off n hl
  have hst := run_storeCells_cells (P := Tryz.prog) k off (Builtin.zeroCells z.cells n).toList 0 w (fun j hj => by rw [hzl] at hj; simpa using (hth j hj).1) (fun j hj => by rw [hzl] at hj; simpa using (hth j hj).2) (fun v hv => by
    simp only [Builtin.zeroCells, Array.toList_map, List.mem_map] at hv
    obtain ⟨j, -, rfl⟩ := hv
    have hlt : j % z.cells.size < z.cells.size := Nat.mod_lt _ (by rw [hzs]; decide)
    rw [getElem!_pos z.cells _ hlt]
    exact hzo _ (by simp))
  obtain ⟨L, hL⟩ : ∃ L, (Builtin.zeroCells z.cells n).toList = L := ⟨_, rfl⟩
  rw [hL] at hzl hst
  rw [Nat.add_zero] at hst
  obtain ⟨m, rfl⟩ : ∃ m, n = m + 1 := ⟨n - 1, by omega⟩
  have hcl : (Builtin.clear_ #[36] o.type #[.slice (some ⟨k, off, none⟩) (m + 1) c]).run Tryz.prog w = .ok (.tuple #[]) (w.setCells k off L) := by
    simp [Builtin.clear_, run_underlying Tryz.underlying36, hzv, hL, hst]
  unfold Oper.wp
  simp [execOp, ho, resolve, invoke, builtin, hx, hcl, Result.andThen]
  exact hK _ _ (h _ hzl (hW.store off _ (by rw [hzl]; exact hl)))
/-- Where a deletion stands: i numbers kept, j looked at. -/
structure DelAt (w wr : World) (q L : Nat) (P : Int → Bool) (xs : List Int) (i j : Nat) : Prop where
  rows : ∃ cu, Whole wr q 3 cu ∧ cu.length = L ∧ cu.take i = rowP ((xs.take j).filter fun x => !P x) ∧ ∀ k x, j ≤ k → xs[k]? = some x → cu[k]? = some (.int .i64 x)
  len : ((xs.take j).filter fun x => !P x).length = i
  kept : Kept (fun r => r = q) w wr
section
variable {w wr : World} {q L : Nat} {P : Int → Bool} {xs : List Int} {i j : Nat}
theorem DelAt.cell (h : DelAt w wr q L P xs i j) {x : Int} (hx : xs[j]? = some x) : wr.cell? ⟨q, j, none⟩ = some (.int .i64 x) := by
  obtain ⟨cu, h1, h2, h3, h4⟩ := h.rows
  rw [h1.cell j]
  exact h4 j x (Nat.le_refl _) hx
theorem DelAt.room (h : DelAt w wr q L P xs i j) (hi : i < L) : ∃ v, wr.cell? ⟨q, i, none⟩ = some v ∧ wr.frozen? ⟨q, i, none⟩ = false := by
  obtain ⟨cu, h1, h2, h3, h4⟩ := h.rows
  exact ⟨_, (h1.cell i).trans (List.getElem?_eq_getElem (by omega)), h1.frozen i⟩
theorem DelAt.skip (h : DelAt w wr q L P xs i j) {x : Int} (hx : xs[j]? = some x) (hs : P x = true) : DelAt w wr q L P xs i (j + 1) := by
  obtain ⟨cu, h1, h2, h3, h4⟩ := h.rows
  have e : (xs.take (j + 1)).filter (fun x => !P x) = (xs.take j).filter fun x => !P x := by rw [List.take_add_one, hx]; simp [hs]
  exact ⟨⟨cu, h1, h2, by rw [e]; exact h3, fun k y hk hy => h4 k y (by omega) hy⟩, by rw [e]; exact h.len, h.kept⟩
theorem DelAt.move (h : DelAt w wr q L P xs i j) {x : Int} (hx : xs[j]? = some x) (hs : P x = false) (hij : i < j) (hL : i < L) : DelAt w (wr.setCell ⟨q, i, none⟩ (.int .i64 x)) q L P xs (i + 1) (j + 1) := by
  obtain ⟨cu, h1, h2, h3, h4⟩ := h.rows
  have e : (xs.take (j + 1)).filter (fun x => !P x) = ((xs.take j).filter fun x => !P x) ++ [x] := by rw [List.take_add_one, hx]; simp [hs]
  have h9 := h1.store i [.int .i64 x] (by simp; omega)
  rw [set_at _ _ _ (by omega)] at h9
  refine ⟨⟨cu.set i (.int .i64 x), h9, by simpa using h2, ?_, fun k y hk hy => ?_⟩, by rw [e, List.length_append, h.len]; rfl, h.kept.setCell (.inl rfl) i _⟩
  · rw [e, List.take_add_one, List.take_set_of_le (Nat.le_refl _), List.getElem?_set_self (by omega), h3]
    simp [rowP]
  · rw [List.getElem?_set_ne (by omega)]
    exact h4 k y (by omega) hy
end
section
variable (P : Int → Bool) (gf : FuncId) (cb : Nat)
set_option maxRecDepth 100000 in
set_option maxHeartbeats 4000000 in
theorem ndelete_any (q c : Nat) (xs : List Int) (cur : List Value) (w : World) (hn : xs.length ≤ 1000) (hc : xs.length ≤ c) (hcm : c ≤ maxLen) (hW : Whole w q 3 cur) (hl : xs.length ≤ cur.length) (hcur : cur.take xs.length = rowP xs)
    (eg : ∀ args w, (callFunc gf args).run Tryz.prog w = .ok (.enter gf args) w) (hf : ∀ W, Kept (fun r => r = q) w W → ∀ x : Int, Calls Tryz.prog gf #[.int .i64 x, .pointer (some ⟨cb, 0, none⟩)] W fun e w' => e = .returned (.bool (P x)) ∧ W = w') :
    Calls Tryz.prog 88 #[.slice (some ⟨q, 0, none⟩) xs.length c, .func (.func gf) #[] #[.pointer (some ⟨cb, 0, none⟩)]] w fun e w' =>
      e = .returned (.slice (some ⟨q, 0, none⟩) (xs.filter fun x => !P x).length c) ∧ (∃ cur', Whole w' q 3 cur' ∧ cur'.length = cur.length ∧ cur'.take (xs.filter fun x => !P x).length = rowP (xs.filter fun x => !P x)) ∧ Kept (fun r => r = q) w w' := by
  have hat : ∀ (k : Nat) (x : Int), xs[k]? = some x → cur[k]? = some (.int .i64 x) := fun k x hk => by
    have h6 := (List.getElem?_eq_some_iff.1 hk).1
    have h5 : (cur.take xs.length)[k]? = some (.int .i64 x) := by rw [hcur]; exact rowP_at hk
    rwa [List.getElem?_take_of_lt h6] at h5
  have hix := nindex_any P gf cb q c xs w hn (fun j x hx => (hW.cell j).trans (hat j x hx)) eg (hf w (Kept.refl _ _))
  have hG : ∀ (i : Nat) (x : Int), xs[i]? = some x → P x = true → (∀ j y, j < i → xs[j]? = some y → P y = false) → DelAt w w q cur.length P xs i (i + 1) := fun i x hx hp hno => by
    have hil := (List.getElem?_eq_some_iff.1 hx).1
    have e0 : (xs.take i).filter (fun x => !P x) = xs.take i := List.filter_eq_self.2 (fun y hy => by
      obtain ⟨k, hk⟩ := List.getElem?_of_mem hy
      have h6 := (List.getElem?_eq_some_iff.1 hk).1
      rw [List.length_take] at h6
      rw [List.getElem?_take_of_lt (by omega)] at hk
      rw [hno k y (by omega) hk]
      rfl)
    have e1 : (xs.take (i + 1)).filter (fun x => !P x) = xs.take i := by rw [List.take_add_one, hx, List.filter_append, e0]; simp [hp]
    refine ⟨⟨cur, hW, rfl, ?_, fun k y hk hy => hat k y hy⟩, by rw [e1, List.length_take]; omega, Kept.refl _ _⟩
    rw [e1, show rowP (xs.take i) = (rowP xs).take i from by unfold rowP; rw [List.map_take], ← hcur, List.take_take, Nat.min_eq_left (by omega)]
  have hfin : ∀ (wr w2 : World) (i : Nat) (zs : List Value), DelAt w wr q cur.length P xs i xs.length → i < xs.length → zs.length = xs.length - i → (∀ cu, Whole wr q 3 cu → Whole w2 q 3 (splice cu i zs)) → Kept (fun r => r = q) wr w2 →
      (xs.filter fun x => !P x).length = i ∧ (∃ cur', Whole w2 q 3 cur' ∧ cur'.length = cur.length ∧ cur'.take (xs.filter fun x => !P x).length = rowP (xs.filter fun x => !P x)) ∧ Kept (fun r => r = q) w w2 := fun wr w2 i zs h hi hz hs hk => by
    obtain ⟨cu, h1, h2, h3, h4⟩ := h.rows
    have h5 := h.len
    rw [List.take_length] at h3 h5
    refine ⟨h5, ⟨_, hs cu h1, ?_, ?_⟩, h.kept.trans hk⟩
    · simp only [splice, List.length_append, List.length_take, List.length_drop, hz, h2]
      omega
    · rw [h5]
      simp only [splice]
      rw [List.take_append_of_le_length (by rw [List.length_take]; omega), List.take_take, Nat.min_self]
      exact h3
  have hget : Hid (∀ j, j < xs.length → ∃ x, xs[j]? = some x) := Lib.hid (fun j hj => ⟨_, List.getElem?_eq_getElem hj⟩)
  have hall : Hid ((∀ y ∈ xs, P y = false) → xs.filter (fun x => !P x) = xs) := Lib.hid (fun h => List.filter_eq_self.2 (fun y hy => by rw [h y hy]; rfl))
  obtain ⟨m, hml⟩ : ∃ m, Hid (xs.length = m) := ⟨_, Lib.hid rfl⟩
  obtain ⟨L, hL⟩ : ∃ L, Hid (cur.length = L) := ⟨_, Lib.hid rfl⟩
  rw [hml.out] at hn hc hl hcur hix hfin hget ⊢
  rw [hL.out] at hl hG hfin ⊢
  unfold maxLen at hcm
  have hfall : Hid (∃ cur', Whole w q 3 cur' ∧ cur'.length = L ∧ cur'.take m = rowP xs) := Lib.hid ⟨cur, hW, hL.out, hcur⟩
  replace hG := Lib.hid hG
  replace hfin := Lib.hid hfin
  replace hf := Lib.hid hf
  replace hix := Lib.hid hix
  clear hW hcur hat
  go_enter Tryz.func88, Tryz.ntmps88
  go_wp2_with fail
  refine hix.out.mono ?_
  rintro _ w1 ⟨⟨i0, x0, rfl, hx0, hp0, hno0⟩ | ⟨rfl, hno0⟩, rfl⟩
  · have hG0 := Lib.hid (hG.out i0 x0 hx0 hp0 hno0)
    have hi0 : i0 < m := by rw [← hml.out]; exact (List.getElem?_eq_some_iff.1 hx0).1
    have hneb : ((i0 : Int) == -1) = false := by rw [beq_eq_false_iff_ne]; omega
    clear hx0 hp0 hno0 hix hG hall hfall
    go_wp2_with fail
    go_loopg [5, 6] m (fun ga vi vj wr => ∃ i j : Nat, i < j ∧ j ≤ m ∧ m ≤ j + ga ∧ vi = .int .i64 i ∧ vj = .int .i64 j ∧ Hid (DelAt w wr q L P xs i j))
    case atStart => exact ⟨i0, i0 + 1, by omega, by omega, by omega, by go_num, by go_num, hG0⟩
    case round =>
      clear hG0 hi0 hneb
      obtain ⟨i, j, hij, hj, hg, rfl, rfl, hG⟩ := hrel
      generalize wr = wq at *
      by_cases hlt : j < m
      · obtain ⟨x, hx⟩ := hget.out j hlt
        have cx := hG.out.cell hx
        have hfx := hf.out wq hG.out.kept x
        cases hs : P x <;> rw [hs] at hfx <;> replace hfx := Lib.hid hfx
        · have hG4 := Lib.hid (hG.out.move hx hs hij (by omega))
          obtain ⟨v0, ck, zk⟩ := hG.out.room (by omega)
          have hic : i < m := by omega
          clear hx hs hG
          go_wp2_with fail
          refine hfx.out.mono ?_
          rintro _ w3 ⟨rfl, rfl⟩
          go_wp2_with fail
          go_roundg (gk - 1)
          case measure => omega
          case rel => exact ⟨i + 1, j + 1, by omega, by omega, by omega, by go_num, by go_num, hG4⟩
        · have hG4 := Lib.hid (hG.out.skip hx hs)
          clear hx hs hG
          go_wp2_with fail
          refine hfx.out.mono ?_
          rintro _ w3 ⟨rfl, rfl⟩
          go_wp2_with fail
          go_roundg (gk - 1)
          case measure => omega
          case rel => exact ⟨i, j + 1, by omega, by omega, by omega, by go_num, by go_num, hG4⟩
      · obtain rfl : j = m := by omega
        have hic : i < c := by omega
        go_wp2_with (with_reducible refine stopClear _ _ rfl ?_)
        refine Lib.hid ?_
        obtain ⟨cu, r1, r2, r3, r4⟩ := hG.out.rows
        refine wpList_clear_ints rfl _ rfl q i (j - i) (c - i) rfl (by omega) 3 _ r1 (by omega) ?_
        intro zs hz hW2
        have hfin2 := Lib.hid (hfin.out wq (wq.setCells q i zs) i zs hG.out (by omega) hz (fun cu' h' => by rw [h'.uniq r1]; exact hW2) ((Kept.refl (fun b => b = q) wq).setCells (.inl rfl) _ _))
        clear hW2 hz r1 r2 r3 r4 hG hfin
        obtain ⟨w2, hw2⟩ : ∃ w2, wq.setCells q i zs = w2 := ⟨_, rfl⟩
        rw [hw2] at hfin2 ⊢
        clear hw2
        go_wp2_with fail
        go_ret
        obtain ⟨f1, f2, f3⟩ := hfin2.out
        exact ⟨by rw [f1]; rfl, f2, f3⟩
  · have hid := hall.out hno0
    replace hno0 := Lib.hid hno0
    clear hix hG hfin
    go_wp2_with fail
    go_ret
    rw [hid, hml.out]
    exact ⟨rfl, hfall.out, Kept.refl _ _⟩
end
end Go.Proofs.YtbbhnbdekblghaaGreatDoor.W
end
section
namespace Go.Proofs.YtbbhnbdekblghaaGreatDoor.W
open Go.RowKit Go.Sort
open Go.Proofs.YtbbhnbdekblghaaGreatDoor.M Go.Proofs.YtbbhnbdekblghaaGreatDoor.D Go.Proofs.YtbbhnbdekblghaaGreatDoor.Z
set_option linter.unusedVariables false
set_option linter.unusedSimpArgs false

/-- A row of numbers among blocks. -/
def InRow (K : List Bk) (A : Option Addr) (xs : List Int) : Prop := ∀ (j : Nat) (x : Int), xs[j]? = some x → ∃ (q : Nat) (cur : List Value), A = some ⟨q, 0, none⟩ ∧ (q, 3, cur) ∈ K ∧ cur[j]? = some (.int .i64 x)
theorem InRow.more {K K' : List Bk} {A : Option Addr} {xs : List Int} (h : InRow K A xs) (hs : ∀ x ∈ K, x ∈ K') : InRow K' A xs := fun j x hx => by
  obtain ⟨q, cur, e, h1, h2⟩ := h j x hx
  exact ⟨q, cur, e, hs _ h1, h2⟩
section
variable {w0 W W' : World} {vb d g' from_ m n : Nat} {lie : List (List UInt8)} {ws : List (Nat × List UInt8)} {steps : Int} {K : List Bk}
theorem VB.in_row {A : Option Addr} {xs : List Int} (h : VB w0 vb d g' lie ws from_ m steps K W) (hr : InRow K A xs) {j : Nat} {x : Int} (hx : xs[j]? = some x) : ∃ q, A = some ⟨q, 0, none⟩ ∧ W.cell? ⟨q, j, none⟩ = some (.int .i64 x) := by
  obtain ⟨q, cur, e, h1, h2⟩ := hr j x hx
  exact ⟨q, e, ((h.got h1).cell j).trans h2⟩
/-- A new row of numbers. -/
theorem VB.own_new {A : Option Addr} {c : Nat} {xs : List Int} (h : VB w0 vb d g' lie ws from_ m steps K W) (hb : Below W.heap.size W W') (ho : W'.ownsRow W.heap.size 3 1 (.slice A xs.length c) xs.length (rowP xs)) :
    (xs = [] ∧ A = none ∧ c = 0 ∧ VB w0 vb d g' lie ws from_ m steps K W') ∨ ∃ q cur, A = some ⟨q, 0, none⟩ ∧ xs.length ≤ c ∧ c ≤ maxLen ∧ cur.length = c ∧ cur.take xs.length = rowP xs ∧ VB w0 vb d g' lie ws from_ m steps ((q, 3, cur) :: K) W' := by
  rcases ho.2 with ⟨e, h0⟩ | ⟨q, cap, cur, e, hq, hc, h1, h2, h3, h4⟩
  · injection e with e1 e2 e3
    exact .inl ⟨List.eq_nil_of_length_eq_zero h0, e1, e3, h.below hb⟩
  · injection e with e1 e2 e3
    subst e1 e3
    rw [Nat.mul_one] at h3 h4
    exact .inr ⟨q, cur.toList, rfl, h1, h2, by rw [Array.length_toList, h3], h4, h.new hb (by simpa [Whole] using hc) hq (by show plainT 3; decide)⟩
theorem row_in {q : Nat} {cur : List Value} {xs : List Int} (h : cur.take xs.length = rowP xs) (hK : (q, 3, cur) ∈ K) : InRow K (some ⟨q, 0, none⟩) xs := fun j x hx => by
  have h6 := (List.getElem?_eq_some_iff.1 hx).1
  have h5 : (cur.take xs.length)[j]? = some (.int .i64 x) := by rw [h]; exact rowP_at hx
  rw [List.getElem?_take_of_lt h6] at h5
  exact ⟨q, cur, rfl, hK, h5⟩
/-- Loading whatever lies there. -/
theorem sload_ok {x : Option Hd} (h : VB w0 vb d g' lie ws from_ m steps K W) (hr : Room from_ m n) (hT : Wide w0) (hw : ws.length ≤ 90000) (hl : Lies lie ws from_ n x) :
    Calls Tryz.prog 79 #[.pointer (some ⟨vb, 0, none⟩), .int .i64 (n : Int)] W fun e w' => ∃ v, e = .returned (.tuple #[.pointer v, .int .i64 0]) ∧ VB w0 vb d g' lie ws from_ m steps K w' := by
  cases x with
  | none =>
    refine (sload_no h hr hT hw hl).mono ?_
    rintro e w' ⟨r1, r2⟩
    exact ⟨_, r1, r2⟩
  | some x =>
    refine (sload_yes h hr hT hw hl).mono ?_
    rintro e w' ⟨r, r1, _, _, _, _, r2⟩
    exact ⟨_, r1, r2.sub (List.sublist_append_right _ _)⟩
set_option maxRecDepth 100000 in
set_option maxHeartbeats 4000000 in
theorem scheck_any {A : Option Addr} {c : Nat} (xs : List Int) (h : VB w0 vb d g' lie ws from_ m steps K W) (hin : InRow K A xs) (hn : xs.length ≤ 1000) (hx : ∀ x ∈ xs, ∃ (i : Nat) (o : Option Hd), x = (i : Int) ∧ Room from_ m i ∧ Lies lie ws from_ i o) (hT : Wide w0) (hw : ws.length ≤ 90000) :
    Calls Tryz.prog 91 #[.pointer (some ⟨vb, 0, none⟩), .slice A xs.length c] W fun e w' => e = .returned (.int .i64 0) ∧ VB w0 vb d g' lie ws from_ m steps K w' := by
  have hld : Hid (∀ (j : Nat) (x : Int) (V : World), xs[j]? = some x → VB w0 vb d g' lie ws from_ m steps K V → Calls Tryz.prog 79 #[.pointer (some ⟨vb, 0, none⟩), .int .i64 x] V fun e w' => ∃ v, e = .returned (.tuple #[.pointer v, .int .i64 0]) ∧ VB w0 vb d g' lie ws from_ m steps K w') := Lib.hid (fun j x V hj hV => by
    obtain ⟨i, o, rfl, h1, h2⟩ := hx x (List.mem_of_getElem? hj)
    exact sload_ok hV h1 hT hw h2)
  obtain ⟨N, hN⟩ : ∃ N, Hid (xs.length = N) := ⟨_, Lib.hid rfl⟩
  rw [hN.out] at hn ⊢
  replace h := Lib.hid h
  replace hin := Lib.hid hin
  clear hx hT hw
  go_enter Tryz.func91, Tryz.ntmps91
  go_wp2_with fail
  go_loopg [11] N (fun ga ix wr => ∃ k : Nat, k ≤ N ∧ N ≤ k + ga ∧ ix = .int .i64 k ∧ Hid (VB w0 vb d g' lie ws from_ m steps K wr))
  case atStart => exact ⟨0, by omega, by omega, rfl, h⟩
  case round =>
    clear h
    obtain ⟨k, hk, hg, rfl, hrel⟩ := hrel
    generalize wr = wo at *
    by_cases hlt : k < N
    · obtain ⟨x, hx⟩ : ∃ x, xs[k]? = some x := ⟨_, List.getElem?_eq_getElem (by have := hN.out; omega)⟩
      obtain ⟨q, rfl, cq⟩ := hrel.out.in_row hin.out hx
      have hc := Lib.hid (hld.out k x wo hx hrel.out)
      clear hx hrel
      go_wp2_with fail
      refine hc.out.mono ?_
      rintro _ w5 ⟨v, rfl, hv5⟩
      replace hv5 := Lib.hid hv5
      clear hc
      go_wp2_with fail
      go_roundg (gk - 1)
      case measure => omega
      case rel => exact ⟨k + 1, by omega, by omega, by go_num, hv5⟩
    · go_wp2_with fail
      go_ret
      exact ⟨rfl, hrel.out⟩
end
section
variable {w : World}
theorem nindex_nil (f : Value) (w : World) : Calls Tryz.prog 123 #[.slice none 0 0, f] w fun e w' => e = .returned (.int .i64 (-1)) ∧ w = w' := by
  go_enter Tryz.func123, Tryz.ntmps123
  go_wp2_with fail
  go_loopg [8] 0 (fun g i wr => i = .int .i64 0 ∧ w = wr)
  case atStart => exact ⟨rfl, rfl⟩
  case round =>
    obtain ⟨rfl, rfl⟩ := hrel
    go_wp2_with fail
    go_ret
    exact ⟨rfl, rfl⟩
theorem ndelete_nil (f : Value) (w : World) : Calls Tryz.prog 88 #[.slice none 0 0, f] w fun e w' => e = .returned (.slice none 0 0) ∧ w = w' := by
  go_enter Tryz.func88, Tryz.ntmps88
  go_wp2_with fail
  refine (nindex_nil _ _).mono ?_
  rintro _ w1 ⟨rfl, rfl⟩
  go_wp2_with fail
  go_ret
  exact ⟨rfl, rfl⟩
theorem sclean_nil (a b : Value) (w : World) : Calls Tryz.prog 38 #[.pointer none, a, b] w fun e w' => e = .returned (.int .i64 7) ∧ w = w' := by
  go_enter Tryz.func38, Tryz.ntmps38
  go_wp2_with fail
  go_ret
  exact ⟨rfl, rfl⟩
theorem sall_nil (n : Int) (w : World) : Calls Tryz.prog 33 #[.pointer none, .int .i64 n] w fun e w' => e = .returned (.tuple #[.slice none 0 0, .int .i64 7]) ∧ w = w' := by
  go_enter Tryz.func33, Tryz.ntmps33
  go_wp2_with fail
  go_ret2
  exact ⟨rfl, rfl⟩
end
end Go.Proofs.YtbbhnbdekblghaaGreatDoor.W
end
