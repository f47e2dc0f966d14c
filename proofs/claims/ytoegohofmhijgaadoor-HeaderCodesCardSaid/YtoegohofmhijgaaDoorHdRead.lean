/- The walk of package header's read. -/
import Derived.Test.YtoegohofmhijgaaDoorHdLay
namespace Go.Proofs.YtoegohofmhijgaaDoor.W
open Go.RowKit
open Go.Proofs.YtoegohofmhijgaaDoor.M Go.Proofs.YtoegohofmhijgaaDoor.D Go.Proofs.YtoegohofmhijgaaDoor.Z
set_option linter.unusedVariables false

theorem laidH_part (b p n : Nat) (hn : p + n ≤ 32) (hp : p < 32) (w : World) :
    (Instr.sliceAt 47 (.pointer (some ⟨b, 0, none⟩)) (some (.int .i64 (p : Int))) (some (.int .i64 ((p : Int) + (n : Int)))) none).run Tryd.prog w = .ok (.slice (some ⟨b, p, none⟩) n (32 - p)) w := by
  rw [run_sliceAt_array_lh w 47 ⟨b, 0, none⟩ (by rw [lenL32, elemL32]; exact Tryd.underlying47) .i64 .i64 (p : Int) ((p : Int) + (n : Int)) (by omega) (by omega) (by rw [lenL32]; omega), elemL32, sizeOf1, lenL32]
  have hne : ¬ 32 = p := by omega
  have e1 : ((p : Int) + (n : Int)).toNat = p + n := by omega
  simp [slicedAt, Result.andThen, Addr.add_mid, hne, e1]
theorem set_one (cur : List Value) (j : Nat) (v : Value) (h : j < cur.length) : splice cur j [v] = cur.set j v := by
  unfold splice
  rw [List.set_eq_take_append_cons_drop, if_pos h]
  rfl
set_option maxRecDepth 100000 in
set_option maxHeartbeats 4000000 in
theorem readH_any (x : ByteArray) (w : World) (hT : Wide w) (hx : x.size = 32) :
    Calls Tryd.prog 17 #[.agg (bytesV x.data.toList).toArray] w fun e w' => e = .returned (.agg #[.int .u64 (numH x 0 : Nat), .int .u64 (numH x 1 : Nat), .int .u64 (numH x 2 : Nat), .int .u64 (numH x 3 : Nat)]) ∧ Below w.heap.size w w' := by
  have hxl : (bytesV x.data.toList).length = 32 := by rw [bytesV_len]; simpa using hx
  have hfin : Hid (toldH x 4 = u64s (numH x 0 : Nat) (numH x 1 : Nat) (numH x 2 : Nat) (numH x 3 : Nat)) := Lib.hid rfl
  have hnl := Lib.hid (numH_lt x)
  have hnd : Hid (∀ i, M.rd (x.extract (ofH i) (ofH i + wdH i)).data.toList = numH x i) := Lib.hid fun i => rfl
  have hix := index4 63 3 Tryd.underlying63 sizeI64' aggI64 .i64 2 4 4 8
  replace hix : Hid (∀ k : Nat, k < 4 → ∀ W : World, (Instr.index 63 (.agg #[.int .i64 2, .int .i64 4, .int .i64 4, .int .i64 8]) (.int .i64 (k : Int))).run Tryd.prog W = .ok (.int .i64 (wdH k : Nat)) W) := Lib.hid (fun k hk W => by
    have h := hix k hk W
    rw [nh_wd] at h
    exact h)
  obtain ⟨f, hf⟩ : ∃ f, Hid (numH x = f) := ⟨_, Lib.hid rfl⟩
  rw [hf.out] at hfin hnl hnd ⊢
  obtain ⟨a, e0⟩ : ∃ a, Hid (f 0 = a) := ⟨_, Lib.hid rfl⟩
  obtain ⟨b, e1⟩ : ∃ a, Hid (f 1 = a) := ⟨_, Lib.hid rfl⟩
  obtain ⟨c, e2⟩ : ∃ a, Hid (f 2 = a) := ⟨_, Lib.hid rfl⟩
  obtain ⟨d, e3⟩ : ∃ a, Hid (f 3 = a) := ⟨_, Lib.hid rfl⟩
  rw [e0.out, e1.out, e2.out, e3.out] at hfin ⊢
  have hset := Lib.hid (toldH_set x)
  rw [hf.out] at hset
  have hat := Lib.hid (toldH_at x)
  obtain ⟨X, hXX⟩ : ∃ X, Hid (bytesV x.data.toList = X) := ⟨_, Lib.hid rfl⟩
  rw [hXX.out] at hxl ⊢
  obtain ⟨W, hW, hX, hR, hN, hB⟩ := three_boxes w 47 51 51 X (u64s 0 0 0 0) (u64s 0 0 0 0)
  have hTW := hT.below hB
  have d0 : W.cell? ⟨0, 0, none⟩ = some (.int .i64 2) := hTW 0 (by decide)
  have d1 : W.cell? ⟨0, 1, none⟩ = some (.int .i64 4) := hTW 1 (by decide)
  have d2 : W.cell? ⟨0, 2, none⟩ = some (.int .i64 4) := hTW 2 (by decide)
  have d3 : W.cell? ⟨0, 3, none⟩ = some (.int .i64 8) := hTW 3 (by decide)
  subst hW
  replace hX := Lib.hid hX
  replace hR := Lib.hid hR
  replace hN := Lib.hid hN
  replace hB := Lib.hid hB
  clear hTW hT
  go_enter Tryd.func17, Tryd.ntmps17
  go_wp2_with fail
  go_loopg [4, 8] 4 (fun ga p i wr => ∃ k : Nat, k ≤ 4 ∧ 4 ≤ k + ga ∧ p = .int .i64 ((ofH k : Nat) : Int) ∧ i = .int .i64 k ∧ Hid (Whole wr (w.heap.size + 1 + 1) 51 (toldH x k) ∧ Whole wr (w.heap.size + 1) 51 (u64s 0 0 0 0) ∧ Whole wr w.heap.size 47 X ∧ Below w.heap.size w wr))
  case atStart => exact ⟨0, by omega, by omega, rfl, rfl, Lib.hid ⟨hN.out, hR.out, hX.out, hB.out⟩⟩
  case round =>
    clear hN hR hX hB d0 d1 d2 d3
    obtain ⟨k, hk, hg, rfl, rfl, hrow⟩ := hrel
    by_cases hlt : k < 4
    · obtain ⟨hw1, hw2, hw3, hw4⟩ := ofH_le k hlt
      have hnx := Lib.hid (ofH_next k hlt)
      have hi := hix.out k hlt
      have hc : wr.cell? ⟨w.heap.size + 1 + 1, k, none⟩ = some (.int .u64 0) := (hrow.out.1.cell k).trans (hat.out k hlt)
      have hfr := hrow.out.1.frozen k
      have hnd5 := Lib.hid (hnd.out k)
      obtain ⟨v, hv⟩ : ∃ v : Nat, Hid (f k = v) := ⟨_, Lib.hid rfl⟩
      obtain ⟨p, hp⟩ : ∃ p : Nat, Hid (ofH k = p) := ⟨_, Lib.hid rfl⟩
      obtain ⟨n, hn⟩ : ∃ n : Nat, Hid (wdH k = n) := ⟨_, Lib.hid rfl⟩
      rw [hp.out] at hw1 hw4 hnd5 ⊢
      rw [hn.out] at hw1 hw2 hw3 hnd5 hi
      rw [hp.out, hn.out] at hnx
      rw [hv.out] at hnd5
      have hsl := laidH_part w.heap.size p n (by omega) (by omega)
      have hez : (x.extract p (p + n)).size = n := by simp; omega
      have hcv : (convert 48 9 (.slice (some ⟨w.heap.size, p, none⟩) n (32 - p))).run Tryd.prog wr = .ok (.string (x.extract p (p + n))) wr := by
        have hel : (x.extract p (p + n)).data.toList.length = n := by rw [Array.length_toList]; exact hez
        have h := run_convert_bytes_back (P := Tryd.prog) wr 48 9 5 ⟨w.heap.size, p, none⟩ (32 - p) (x.extract p (p + n)).data.toList Tryd.underlying48 Tryd.underlying5 Tryd.underlying9 (fun j hj => by
          rw [show (⟨w.heap.size, p, none⟩ : Addr).add j = ⟨w.heap.size, p + j, none⟩ from by simp [Addr.add]; try omega]
          rw [hrow.out.2.2.1.cell, ← hXX.out]
          rw [hel] at hj
          have hl : x.data.toList.length = 32 := by simpa using hx
          have e : (x.extract p (p + n)).data.toList = (x.data.toList.drop p).take n := by rw [ext_list]; congr 1; omega
          have e2 : (x.extract p (p + n)).data.toList[j]? = x.data.toList[p + j]? := by rw [e, List.getElem?_take, if_pos hj, List.getElem?_drop]
          unfold bytesV
          rw [List.getElem?_map, ← e2, List.getElem?_eq_getElem (by rw [hel]; exact hj)]
          rfl)
        rw [hel] at h
        have h' : (convert 48 9 (.slice (some ⟨w.heap.size, p, none⟩) n (32 - p))).run Tryd.prog wr = .ok (.string (B (x.extract p (p + n)).data.toList)) wr := h
        rw [B_of] at h'
        exact h'
      obtain ⟨Q, hQ⟩ : ∃ Q, Hid (x.extract p (p + n) = Q) := ⟨_, Lib.hid rfl⟩
      rw [hQ.out] at hez hcv hnd5
      have hst : Hid (Whole (wr.setCell ⟨w.heap.size + 1 + 1, k, none⟩ (.int .u64 (v : Nat))) (w.heap.size + 1 + 1) 51 (toldH x (k + 1))) := Lib.hid (by
        have h := hrow.out.1.store k [.int .u64 (v : Nat)] (by rw [toldH_len]; simp; omega)
        rw [set_one _ _ _ (by rw [toldH_len]; exact hlt)] at h
        have e := hset.out k
        rw [hv.out] at e
        rw [e] at h
        exact h)
      have hR2 : Hid (Whole (wr.setCell ⟨w.heap.size + 1 + 1, k, none⟩ (.int .u64 (v : Nat))) (w.heap.size + 1) 51 (u64s 0 0 0 0)) := Lib.hid (hrow.out.2.1.far (c := w.heap.size + 1 + 1) (by omega) k [.int .u64 (v : Nat)])
      have hX2 : Hid (Whole (wr.setCell ⟨w.heap.size + 1 + 1, k, none⟩ (.int .u64 (v : Nat))) w.heap.size 47 X) := Lib.hid (hrow.out.2.2.1.far (c := w.heap.size + 1 + 1) (by omega) k [.int .u64 (v : Nat)])
      have hB2 : Hid (Below w.heap.size w (wr.setCell ⟨w.heap.size + 1 + 1, k, none⟩ (.int .u64 (v : Nat)))) := Lib.hid (below_store hrow.out.2.2.2 (c := w.heap.size + 1 + 1) (by omega) (Nat.le_refl _) k [.int .u64 (v : Nat)])
      have hps : IntKind.i64.wrap ((p : Int) + (n : Int)) = (p : Int) + (n : Int) := IntWalk.i64_in _ (by omega)
      have hp4 : Hid (((ofH (k + 1) : Nat) : Int) = (p : Int) + (n : Int)) := Lib.hid (by rw [hnx.out]; omega)
      clear hp hn hv hQ
      go_wp2_with fail
      refine (read_any _ _ (by omega) (by omega)).mono ?_
      rintro ee w5 ⟨rfl, rfl⟩
      rw [hnd5.out]
      go_wp2_with fail
      go_roundg (gk - 1)
      case measure => omega
      case rel => exact ⟨k + 1, by omega, by omega, by rw [hp4.out], by go_num, Lib.hid ⟨hst.out, hR2.out, hX2.out, hB2.out⟩⟩
    · obtain rfl : k = 4 := by omega
      rw [hfin.out] at hrow
      rw [show ((ofH 4 : Nat) : Int) = 20 from rfl, show ((4 : Nat) : Int) = 4 from rfl]
      clear hat hset hnd hnl hfin
      go_wp2_with (with_reducible refine zLoad 51 _ rfl ?_)
      refine Lib.hid ?_
      refine wpList_load_mid rfl 51 _ rfl (w.heap.size + 1 + 1) 0 rfl (u64s a b c d) _ hrow.out.1.range Tryd.underlying51 rfl sizeN4 ?_
      go_wp2_with (with_reducible refine zStore 51 _ _ rfl ?_)
      refine Lib.hid ?_
      refine wpList_store_mid rfl 51 _ _ rfl (w.heap.size + 1) 0 (u64s a b c d).toArray rfl rfl (hrow.out.2.1.there 0 4 (by simp)) sizeN4 (all_oneCell_toArray (u64s_one a b c d)) ?_
      go_wp2_with fail
      have hend := whole_all hrow.out.2.1 (vs := u64s a b c d) rfl
      exact bodyPost_ret (result_cell Tryd.results17 rfl hend.range Tryd.underlying51 rfl sizeN4) rfl ⟨rfl, below_store hrow.out.2.2.2 (by omega) (Nat.le_refl _) 0 _⟩
end Go.Proofs.YtoegohofmhijgaaDoor.W
