/- The law's read of a segment's sectors; sectors held against one another; Seal, Sealed. -/
import Derived.Test.YtlgoepbfdldgnaaDoorSegO
import Derived.Test.YtlgoepbfdldgnaaDoorHdAll
namespace Go.Proofs.YtlgoepbfdldgnaaDoor.W
open Go.RowKit Go.Sort
open Go.Proofs.YtlgoepbfdldgnaaDoor.M Go.Proofs.YtlgoepbfdldgnaaDoor.D Go.Proofs.YtlgoepbfdldgnaaDoor.Z
set_option linter.unusedVariables false

theorem sizeSecs : (Tryd.prog.info? 52).map (·.size) = some 17 := by kernel_rfl
/-- The first k of sixteen sectors, no others. -/
def upS (X : List ByteArray) (k : Nat) : List ByteArray := X.take k ++ List.replicate (16 - k) ⟨#[]⟩
theorem upS_len (X : List ByteArray) (k : Nat) (hX : X.length = 16) (hk : k ≤ 16) : (upS X k).length = 16 := by simp [upS, hX]; omega
theorem upS_all (X : List ByteArray) (hX : X.length = 16) : upS X 16 = X := by simp [upS, List.take_of_length_le (Nat.le_of_eq hX)]
theorem upS_zero (X : List ByteArray) : upS X 0 = noS := rfl
theorem upS_set (X : List ByteArray) (k : Nat) (y : ByteArray) (hX : X.length = 16) (hy : X[k]? = some y) : (upS X k).set k y = upS X (k + 1) := by
  have hk : k < 16 := by rw [← hX]; exact (List.getElem?_eq_some_iff.1 hy).1
  have hyg : X[k] = y := (List.getElem?_eq_some_iff.1 hy).2
  unfold upS
  obtain ⟨m, hm⟩ : ∃ m, 16 - k = m + 1 := ⟨16 - k - 1, by omega⟩
  rw [show 16 - (k + 1) = m from by omega, hm, List.replicate_succ, List.set_append_right _ _ (by simp; omega)]
  rw [List.take_add_one, List.getElem?_eq_getElem (by omega), Option.toList_some, List.append_assoc]
  congr 1
  have e : k - (List.take k X).length = 0 := by rw [List.length_take]; omega
  rw [e, List.set_cons_zero]
  simp [hyg]
abbrev cells17 : List Value := [.string ⟨#[]⟩, .string ⟨#[]⟩, .string ⟨#[]⟩, .string ⟨#[]⟩, .string ⟨#[]⟩, .string ⟨#[]⟩, .string ⟨#[]⟩, .string ⟨#[]⟩, .string ⟨#[]⟩, .string ⟨#[]⟩, .string ⟨#[]⟩, .string ⟨#[]⟩, .string ⟨#[]⟩, .string ⟨#[]⟩, .string ⟨#[]⟩, .string ⟨#[]⟩, .bool false]
abbrev cells17t : List Value := [.string ⟨#[]⟩, .string ⟨#[]⟩, .string ⟨#[]⟩, .string ⟨#[]⟩, .string ⟨#[]⟩, .string ⟨#[]⟩, .string ⟨#[]⟩, .string ⟨#[]⟩, .string ⟨#[]⟩, .string ⟨#[]⟩, .string ⟨#[]⟩, .string ⟨#[]⟩, .string ⟨#[]⟩, .string ⟨#[]⟩, .string ⟨#[]⟩, .string ⟨#[]⟩, .bool true]
/-- Sectors as they are read, as cells. -/
abbrev secL (R : List Value) (ok : Bool) : List Value := R ++ [.bool ok]
theorem secL_set (R : List Value) (k : Nat) (v : Value) (hk : k < R.length) : (secL R true).set k v = secL (R.set k v) true := by
  rw [List.set_append_left _ _ hk]
theorem secL_one (R : List Value) (ok : Bool) (h : ∀ v ∈ R, v.oneCell' = true) : ∀ v ∈ secL R ok, v.oneCell' = true := by
  intro v hv
  rcases List.mem_append.1 hv with h1 | h1
  · exact h v h1
  · obtain rfl := List.mem_singleton.1 h1
    rfl
set_option maxRecDepth 100000 in
set_option maxHeartbeats 4000000 in
theorem read13_any (vb n : Nat) (X : List ByteArray) (w : World) (hX : X.length = 16) (hn : n ≤ 1000) (hr : Reads w vb n X) :
    Calls Tryd.prog 19 #[.pointer (some ⟨vb, 0, none⟩), .int .i64 (n : Int)] w fun e w' => e = .returned (.agg (secL (rowS X) true).toArray) ∧ Below w.heap.size w w' := by
  have hset : Hid (∀ k y, X[k]? = some y → (rowS (upS X k)).set k (.string y) = rowS (upS X (k + 1))) := Lib.hid (fun k y hy => by rw [rowS_set, upS_set X k y hX hy])
  have hlen : Hid (∀ k, k ≤ 16 → (rowS (upS X k)).length = 16) := Lib.hid (fun k hk => by rw [rowS_len, upS_len X k hX hk])
  have hone : Hid (∀ k, ∀ v ∈ rowS (upS X k), v.oneCell' = true) := Lib.hid (fun k => rowS_one _)
  have hend : Hid (rowS (upS X 16) = rowS X) := Lib.hid (by rw [upS_all X hX])
  have h0 : Hid (secL (rowS (upS X 0)) true = cells17t) := Lib.hid rfl
  obtain ⟨T, hT⟩ : ∃ T, Hid ((fun k => rowS (upS X k)) = T) := ⟨_, Lib.hid rfl⟩
  have eT : ∀ k, rowS (upS X k) = T k := fun k => congrFun hT.out k
  simp only [eT] at hset hlen hone h0 hend
  rw [← hend.out]
  obtain ⟨W, hW, hR, hXX, hB⟩ := two_boxes w 52 52 cells17 cells17
  replace hW := Lib.hid hW
  replace hXX := Lib.hid hXX
  replace hR := Lib.hid hR
  replace hB := Lib.hid hB
  replace hr := Lib.hid hr
  clear hend
  go_enter Tryd.func19, Tryd.ntmps19
  go_wp2_with (with_reducible refine zStore 52 _ _ rfl ?_)
  rw [← show W = (w.alloc (.cells cells17.toArray 52)).alloc (.cells cells17.toArray 52) from hW.out]
  clear hW
  refine Lib.hid ?_
  refine wpList_store_mid rfl 52 _ _ rfl (w.heap.size + 1) 0 cells17t.toArray rfl rfl (hXX.out.there 0 17 (Nat.le_refl 17)) sizeSecs (all_oneCell_toArray (secL_one (rowS noS) true (rowS_one _))) ?_
  have hXa : Hid (Whole (W.setCells (w.heap.size + 1) 0 cells17t.toArray.toList) (w.heap.size + 1) 52 (secL (T 0) true)) := Lib.hid (by rw [h0.out]; exact whole_all hXX.out rfl)
  have hRa : Hid (Whole (W.setCells (w.heap.size + 1) 0 cells17t.toArray.toList) w.heap.size 52 cells17) := Lib.hid (hR.out.far (c := w.heap.size + 1) (by omega) 0 _)
  have hBa : Hid (Below w.heap.size w (W.setCells (w.heap.size + 1) 0 cells17t.toArray.toList)) := Lib.hid (below_store hB.out (c := w.heap.size + 1) (by omega) (Nat.le_refl _) 0 _)
  generalize W.setCells (w.heap.size + 1) 0 cells17t.toArray.toList = Wa at *
  clear hXX hR hB
  go_wp2_with fail
  go_loopg [10] 16 (fun ga i wr => ∃ k : Nat, k ≤ 16 ∧ 16 ≤ k + ga ∧ i = .int .i64 k ∧ Hid (Whole wr (w.heap.size + 1) 52 (secL (T k) true) ∧ Whole wr w.heap.size 52 cells17 ∧ Below w.heap.size w wr))
  case atStart => exact ⟨0, by omega, by omega, rfl, Lib.hid ⟨hXa.out, hRa.out, hBa.out⟩⟩
  case round =>
    clear hXa hRa hBa
    obtain ⟨k, hk, hg, rfl, hrow⟩ := hrel
    generalize wr = wo at *
    by_cases hlt : k < 16
    · obtain ⟨y, hy⟩ : ∃ y, X[k]? = some y := ⟨_, List.getElem?_eq_getElem (by omega)⟩
      have hst2 := Lib.hid (hset.out k y hy)
      have hl2 := hlen.out k hk
      have hrd : Hid (Calls Tryd.prog 46 #[.pointer (some ⟨vb, 0, none⟩), .int .i64 ((2 + 16 * n + k : Nat) : Int)] wo fun e w' => e = .returned (.tuple #[.string y, .int .i64 0]) ∧ Below wo.heap.size wo w') := Lib.hid (hr.out k y hy wo hrow.out.2.2)
      obtain ⟨A, hA⟩ : ∃ A : Nat, Hid (2 + 16 * n + k = A) := ⟨_, Lib.hid rfl⟩
      rw [hA.out] at hrd
      have hw1 : IntKind.i64.wrap (16 * (n : Int)) = 16 * (n : Int) := IntWalk.i64_in _ (by omega)
      have hw2 : IntKind.i64.wrap (2 + 16 * (n : Int)) = 2 + 16 * (n : Int) := IntWalk.i64_in _ (by omega)
      have hw3 : IntKind.i64.wrap (2 + 16 * (n : Int) + (k : Int)) = (A : Int) := by rw [IntWalk.i64_in _ (by omega), ← hA.out]; omega
      obtain ⟨v0, hv0⟩ : ∃ v, (secL (T k) true)[k]? = some v := ⟨_, List.getElem?_eq_getElem (by rw [List.length_append, List.length_singleton]; omega)⟩
      go_wp2_with fail
      refine hrd.out.mono ?_
      rintro _ w5 ⟨rfl, hb5⟩
      have hX5 := hrow.out.1.below hb5 hrow.out.1.lt
      have hR5 := hrow.out.2.1.below hb5 hrow.out.2.1.lt
      have hB5 := grew hrow.out.2.2 hb5
      have cq : w5.cell? ⟨w.heap.size + 1, k, none⟩ = some v0 := (hX5.cell k).trans hv0
      have fq := hX5.frozen k
      have hX6 : Hid (Whole (w5.setCell ⟨w.heap.size + 1, k, none⟩ (.string y)) (w.heap.size + 1) 52 (secL (T (k + 1)) true)) := Lib.hid (by
        have h := hX5.store k [.string y] (by simp; omega)
        rw [set_at _ _ _ (by simp; omega), secL_set _ _ _ (by omega), hst2.out] at h
        exact h)
      have hR6 : Hid (Whole (w5.setCell ⟨w.heap.size + 1, k, none⟩ (.string y)) w.heap.size 52 cells17) := Lib.hid (hR5.far (c := w.heap.size + 1) (by omega) k [.string y])
      have hB6 : Hid (Below w.heap.size w (w5.setCell ⟨w.heap.size + 1, k, none⟩ (.string y))) := Lib.hid (below_store hB5 (c := w.heap.size + 1) (by omega) (Nat.le_refl _) k [.string y])
      have hl3 := hlen.out (k + 1) (by omega)
      have ct : (w5.setCell ⟨w.heap.size + 1, k, none⟩ (.string y)).cell? ⟨w.heap.size + 1, 16, none⟩ = some (.bool true) := (hX6.out.cell 16).trans (by rw [List.getElem?_append_right (by omega), hl3]; rfl)
      have ft := hX6.out.frozen 16
      have hX7 : Hid (Whole ((w5.setCell ⟨w.heap.size + 1, k, none⟩ (.string y)).setCell ⟨w.heap.size + 1, 16, none⟩ (.bool true)) (w.heap.size + 1) 52 (secL (T (k + 1)) true)) := Lib.hid (by
        have h := hX6.out.store 16 [.bool true] (by simp; omega)
        rw [set_at _ _ _ (by simp; omega), List.set_append_right _ _ (by omega), hl3] at h
        exact h)
      have hR7 : Hid (Whole ((w5.setCell ⟨w.heap.size + 1, k, none⟩ (.string y)).setCell ⟨w.heap.size + 1, 16, none⟩ (.bool true)) w.heap.size 52 cells17) := Lib.hid (hR6.out.far (c := w.heap.size + 1) (by omega) 16 [.bool true])
      have hB7 : Hid (Below w.heap.size w ((w5.setCell ⟨w.heap.size + 1, k, none⟩ (.string y)).setCell ⟨w.heap.size + 1, 16, none⟩ (.bool true))) := Lib.hid (below_store hB6.out (c := w.heap.size + 1) (by omega) (Nat.le_refl _) 16 [.bool true])
      clear hX5 hR5 hB5 hv0 hy hX6 hR6 hB6 hb5
      go_wp2_with fail
      go_roundg (gk - 1)
      case measure => omega
      case rel => exact ⟨k + 1, by omega, by omega, by go_num, Lib.hid ⟨hX7.out, hR7.out, hB7.out⟩⟩
    · obtain rfl : k = 16 := by omega
      have hl2 := hlen.out 16 (by omega)
      have hl3 : (secL (T 16) true).length = 17 := by rw [List.length_append, List.length_singleton, hl2]
      have hone2 := Lib.hid (secL_one (T 16) true (hone.out 16))
      clear hset hlen hone h0 eT hT
      obtain ⟨Y, hY⟩ : ∃ Y, Hid (secL (T 16) true = Y) := ⟨_, Lib.hid rfl⟩
      rw [hY.out] at hl3 hone2 hrow
      go_wp2_with (with_reducible refine zLoad 52 _ rfl ?_)
      refine Lib.hid ?_
      refine wpList_load_mid rfl 52 _ rfl (w.heap.size + 1) 0 rfl Y _ hrow.out.1.range Tryd.underlying52 rfl (by rw [hl3]; exact sizeSecs) ?_
      go_wp2_with (with_reducible refine zStore 52 _ _ rfl ?_)
      refine Lib.hid ?_
      refine wpList_store_mid rfl 52 _ _ rfl w.heap.size 0 Y.toArray rfl rfl (hrow.out.2.1.there 0 Y.toArray.size (by rw [List.size_toArray, hl3]; exact Nat.le_refl 17)) (by rw [List.size_toArray, hl3]; exact sizeSecs) (all_oneCell_toArray hone2.out) ?_
      go_wp2_with fail
      have hfin := whole_all hrow.out.2.1 (vs := Y) hl3
      exact bodyPost_ret (result_cell Tryd.results19 rfl hfin.range Tryd.underlying52 rfl (by rw [hl3]; exact sizeSecs)) rfl ⟨by rw [hY.out], below_store hrow.out.2.2 (Nat.le_refl _) (Nat.le_refl _) 0 _⟩
theorem key_secs : Tryd.prog.keyTypeAt 4 39 = true := by kernel_rfl
theorem cSecs : Tryd.prog.cellsOf 39 = 16 := by kernel_rfl
theorem cArr16 : Tryd.prog.cellsOf 37 = 16 := by kernel_rfl
theorem cStr16 : Tryd.prog.cellsOf 9 = 1 := by kernel_rfl
theorem litSs (s : ByteArray) (h : s.size ≤ maxLen) (d : Nat) : Tryd.prog.keyLits (d + 1) 9 [.string s] = some [.string s.data.toList] := by
  unfold Program.keyLits
  rw [Tryd.underlying9]
  simp [h]
theorem str16 {l : List ByteArray} (h : l.length = 16) : ∃ y0 y1 y2 y3 y4 y5 y6 y7 y8 y9 ya yb yc yd ye yf, l = [y0, y1, y2, y3, y4, y5, y6, y7, y8, y9, ya, yb, yc, yd, ye, yf] := by
  match l, h with
  | [y0, y1, y2, y3, y4, y5, y6, y7, y8, y9, ya, yb, yc, yd, ye, yf], _ => exact ⟨y0, y1, y2, y3, y4, y5, y6, y7, y8, y9, ya, yb, yc, yd, ye, yf, rfl⟩
theorem lits_arr (X : List ByteArray) (hX : X.length = 16) (h : ∀ y ∈ X, y.size ≤ maxLen) : Tryd.prog.keyLits 3 37 (rowS X) = some (X.map fun y => .string y.data.toList) := by
  obtain ⟨y0, y1, y2, y3, y4, y5, y6, y7, y8, y9, ya, yb, yc, yd, ye, yf, rfl⟩ := str16 hX
  unfold Program.keyLits
  rw [Tryd.underlying37]
  simp only [List.mem_cons, List.not_mem_nil, or_false, forall_eq_or_imp, forall_eq] at h
  obtain ⟨k0, k1, k2, k3, k4, k5, k6, k7, k8, k9, ka, kb, kc, kd, ke, kf⟩ := h
  simp [rowS, cArr16, cStr16, List.range_succ, litSs _ k0 1, litSs _ k1 1, litSs _ k2 1, litSs _ k3 1, litSs _ k4 1, litSs _ k5 1, litSs _ k6 1, litSs _ k7 1, litSs _ k8 1, litSs _ k9 1, litSs _ ka 1, litSs _ kb 1, litSs _ kc 1, litSs _ kd 1, litSs _ ke 1, litSs _ kf 1]
theorem lits_secs (X : List ByteArray) (hX : X.length = 16) (h : ∀ y ∈ X, y.size ≤ maxLen) : Tryd.prog.keyLits 4 39 (rowS X) = some (X.map fun y => .string y.data.toList) := by
  have ha := lits_arr X hX h
  have hl : (rowS X).length = 16 := by rw [rowS_len, hX]
  unfold Program.keyLits
  rw [Tryd.underlying39]
  simp [cArr16, cSecs, hl]
  rw [List.take_of_length_le (by omega), ha]
  simp
theorem same_secs (X : List ByteArray) (hX : X.length = 16) (h : ∀ y ∈ X, y.size ≤ maxLen) (w : World) :
    (Op.equalIn 10000 39 (.agg (rowS X).toArray) (.agg (rowS X).toArray)).run Tryd.prog w = .ok true w := by
  have hf : Value.formed Tryd.prog 39 (.agg (rowS X).toArray) = true := by
    obtain ⟨y0, y1, y2, y3, y4, y5, y6, y7, y8, y9, ya, yb, yc, yd, ye, yf, rfl⟩ := str16 hX
    kernel_rfl
  obtain ⟨r, h1, h2⟩ := run_equalIn_deep 9996 4 39 key_secs w 4 4 (.agg (rowS X).toArray) (.agg (rowS X).toArray) _ _ hf hf (lits_secs X hX h) (lits_secs X hX h)
  rw [h1, h2.2 rfl]
end Go.Proofs.YtlgoepbfdldgnaaDoor.W
