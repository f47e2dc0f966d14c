/- The walk of package header's read. The walks of package header's Encode and Decode. The walks of package header's Decode. -/
import Derived.Test.YtahljbjgenepaaaGreatDoorHdLay
section
namespace Go.Proofs.YtahljbjgenepaaaGreatDoor.W
open Go.RowKit
open Go.Proofs.YtahljbjgenepaaaGreatDoor.M Go.Proofs.YtahljbjgenepaaaGreatDoor.D Go.Proofs.YtahljbjgenepaaaGreatDoor.Z
set_option linter.unusedVariables false

theorem laidH_part (b p n : Nat) (hn : p + n ≤ 32) (hp : p < 32) (w : World) :
    (Instr.sliceAt 154 (.pointer (some ⟨b, 0, none⟩)) (some (.int .i64 (p : Int))) (some (.int .i64 ((p : Int) + (n : Int)))) none).run Tryz.prog w = .ok (.slice (some ⟨b, p, none⟩) n (32 - p)) w := by
  rw [run_sliceAt_array_lh w 154 ⟨b, 0, none⟩ (by rw [lenL32, elemL32]; exact Tryz.underlying154) .i64 .i64 (p : Int) ((p : Int) + (n : Int)) (by omega) (by omega) (by rw [lenL32]; omega), elemL32, sizeOf1, lenL32]
  have hne : ¬ 32 = p := by omega
  have e1 : ((p : Int) + (n : Int)).toNat = p + n := by omega
  simp [slicedAt, Result.andThen, Addr.add_mid, hne, e1]
theorem set_one (cur : List Value) (j : Nat) (v : Value) (h : j < cur.length) : splice cur j [v] = cur.set j v := by
  unfold splice
  rw [List.set_eq_take_append_cons_drop, if_pos h]
  rfl
set_option maxRecDepth 100000 in
set_option maxHeartbeats 4000000 in
theorem readH_any (x : ByteArray) (w : World) (hT : Wide w) (hx : x.size = 32) :
    Calls Tryz.prog 168 #[.agg (bytesV x.data.toList).toArray] w fun e w' => e = .returned (.agg #[.int .u64 (numH x 0 : Nat), .int .u64 (numH x 1 : Nat), .int .u64 (numH x 2 : Nat), .int .u64 (numH x 3 : Nat)]) ∧ Below w.heap.size w w' := by
  have hxl : (bytesV x.data.toList).length = 32 := by rw [bytesV_len]; simpa using hx
  have hfin : Hid (toldH x 4 = u64s (numH x 0 : Nat) (numH x 1 : Nat) (numH x 2 : Nat) (numH x 3 : Nat)) := Lib.hid rfl
  have hnl := Lib.hid (numH_lt x)
  have hnd : Hid (∀ i, M.rd (x.extract (ofH i) (ofH i + wdH i)).data.toList = numH x i) := Lib.hid fun i => rfl
  have hix := index4 192 3 Tryz.underlying192 sizeI64' aggI64 .i64 2 4 4 8
  replace hix : Hid (∀ k : Nat, k < 4 → ∀ W : World, (Instr.index 192 (.agg #[.int .i64 2, .int .i64 4, .int .i64 4, .int .i64 8]) (.int .i64 (k : Int))).run Tryz.prog W = .ok (.int .i64 (wdH k : Nat)) W) := Lib.hid (fun k hk W => by
    have h := hix k hk W
    rw [nh_wd] at h
    exact h)
  obtain ⟨f, hf⟩ : ∃ f, Hid (numH x = f) := ⟨_, Lib.hid rfl⟩
  rw [hf.out] at hfin hnl hnd ⊢
  obtain ⟨a, e0⟩ : ∃ a, Hid (f 0 = a) := ⟨_, Lib.hid rfl⟩
  obtain ⟨b, e1⟩ : ∃ a, Hid (f 1 = a) := ⟨_, Lib.hid rfl⟩
  obtain ⟨c, e2⟩ : ∃ a, Hid (f 2 = a) := ⟨_, Lib.hid rfl⟩
  obtain ⟨d, e3⟩ : ∃ a, Hid (f 3 = a) := ⟨_, Lib.hid rfl⟩
  rw [e0.out, e1.out, e2.out, e3.out] at hfin ⊢
  have hset := Lib.hid (toldH_set x)
  rw [hf.out] at hset
  have hat := Lib.hid (toldH_at x)
  obtain ⟨X, hXX⟩ : ∃ X, Hid (bytesV x.data.toList = X) := ⟨_, Lib.hid rfl⟩
  rw [hXX.out] at hxl ⊢
  obtain ⟨W, hW, hX, hR, hN, hB⟩ := three_boxes w 154 157 157 X (u64s 0 0 0 0) (u64s 0 0 0 0)
  have hTW := hT.below hB
  have d0 : W.cell? ⟨0, 0, none⟩ = some (.int .i64 2) := hTW 0 (by decide)
  have d1 : W.cell? ⟨0, 1, none⟩ = some (.int .i64 4) := hTW 1 (by decide)
  have d2 : W.cell? ⟨0, 2, none⟩ = some (.int .i64 4) := hTW 2 (by decide)
  have d3 : W.cell? ⟨0, 3, none⟩ = some (.int .i64 8) := hTW 3 (by decide)
  subst hW
  replace hX := Lib.hid hX
  replace hR := Lib.hid hR
  replace hN := Lib.hid hN
  replace hB := Lib.hid hB
  clear hTW hT
  go_enter Tryz.func168, Tryz.ntmps168
  go_wp2_with fail
  go_loopg [4, 8] 4 (fun ga p i wr => ∃ k : Nat, k ≤ 4 ∧ 4 ≤ k + ga ∧ p = .int .i64 ((ofH k : Nat) : Int) ∧ i = .int .i64 k ∧ Hid (Whole wr (w.heap.size + 1 + 1) 157 (toldH x k) ∧ Whole wr (w.heap.size + 1) 157 (u64s 0 0 0 0) ∧ Whole wr w.heap.size 154 X ∧ Below w.heap.size w wr))
  case atStart => exact ⟨0, by omega, by omega, rfl, rfl, Lib.hid ⟨hN.out, hR.out, hX.out, hB.out⟩⟩
  case round =>
    clear hN hR hX hB d0 d1 d2 d3
    obtain ⟨k, hk, hg, rfl, rfl, hrow⟩ := hrel
    by_cases hlt : k < 4
    · obtain ⟨hw1, hw2, hw3, hw4⟩ := ofH_le k hlt
      have hnx := Lib.hid (ofH_next k hlt)
      have hi := hix.out k hlt
      have hc : wr.cell? ⟨w.heap.size + 1 + 1, k, none⟩ = some (.int .u64 0) := (hrow.out.1.cell k).trans (hat.out k hlt)
      have hfr := hrow.out.1.frozen k
      have hnd5 := Lib.hid (hnd.out k)
      obtain ⟨v, hv⟩ : ∃ v : Nat, Hid (f k = v) := ⟨_, Lib.hid rfl⟩
      obtain ⟨p, hp⟩ : ∃ p : Nat, Hid (ofH k = p) := ⟨_, Lib.hid rfl⟩
      obtain ⟨n, hn⟩ : ∃ n : Nat, Hid (wdH k = n) := ⟨_, Lib.hid rfl⟩
      rw [hp.out] at hw1 hw4 hnd5 ⊢
      rw [hn.out] at hw1 hw2 hw3 hnd5 hi
      rw [hp.out, hn.out] at hnx
      rw [hv.out] at hnd5
      have hsl := laidH_part w.heap.size p n (by omega) (by omega)
      have hez : (x.extract p (p + n)).size = n := by simp; omega
      have hcv : (convert 149 9 (.slice (some ⟨w.heap.size, p, none⟩) n (32 - p))).run Tryz.prog wr = .ok (.string (x.extract p (p + n))) wr := by
        have hel : (x.extract p (p + n)).data.toList.length = n := by rw [Array.length_toList]; exact hez
        have h := run_convert_bytes_back (P := Tryz.prog) wr 149 9 5 ⟨w.heap.size, p, none⟩ (32 - p) (x.extract p (p + n)).data.toList Tryz.underlying149 Tryz.underlying5 Tryz.underlying9 (fun j hj => by
          rw [show (⟨w.heap.size, p, none⟩ : Addr).add j = ⟨w.heap.size, p + j, none⟩ from by simp [Addr.add]; try omega]
          rw [hrow.out.2.2.1.cell, ← hXX.out]
          rw [hel] at hj
          have hl : x.data.toList.length = 32 := by simpa using hx
          have e : (x.extract p (p + n)).data.toList = (x.data.toList.drop p).take n := by rw [ext_list]; congr 1; omega
          have e2 : (x.extract p (p + n)).data.toList[j]? = x.data.toList[p + j]? := by rw [e, List.getElem?_take, if_pos hj, List.getElem?_drop]
          unfold bytesV
          rw [List.getElem?_map, ← e2, List.getElem?_eq_getElem (by rw [hel]; exact hj)]
          rfl)
        rw [hel] at h
        have h' : (convert 149 9 (.slice (some ⟨w.heap.size, p, none⟩) n (32 - p))).run Tryz.prog wr = .ok (.string (B (x.extract p (p + n)).data.toList)) wr := h
        rw [B_of] at h'
        exact h'
      obtain ⟨Q, hQ⟩ : ∃ Q, Hid (x.extract p (p + n) = Q) := ⟨_, Lib.hid rfl⟩
      rw [hQ.out] at hez hcv hnd5
      have hst : Hid (Whole (wr.setCell ⟨w.heap.size + 1 + 1, k, none⟩ (.int .u64 (v : Nat))) (w.heap.size + 1 + 1) 157 (toldH x (k + 1))) := Lib.hid (by
        have h := hrow.out.1.store k [.int .u64 (v : Nat)] (by rw [toldH_len]; simp; omega)
        rw [set_one _ _ _ (by rw [toldH_len]; exact hlt)] at h
        have e := hset.out k
        rw [hv.out] at e
        rw [e] at h
        exact h)
      have hR2 : Hid (Whole (wr.setCell ⟨w.heap.size + 1 + 1, k, none⟩ (.int .u64 (v : Nat))) (w.heap.size + 1) 157 (u64s 0 0 0 0)) := Lib.hid (hrow.out.2.1.far (c := w.heap.size + 1 + 1) (by omega) k [.int .u64 (v : Nat)])
      have hX2 : Hid (Whole (wr.setCell ⟨w.heap.size + 1 + 1, k, none⟩ (.int .u64 (v : Nat))) w.heap.size 154 X) := Lib.hid (hrow.out.2.2.1.far (c := w.heap.size + 1 + 1) (by omega) k [.int .u64 (v : Nat)])
      have hB2 : Hid (Below w.heap.size w (wr.setCell ⟨w.heap.size + 1 + 1, k, none⟩ (.int .u64 (v : Nat)))) := Lib.hid (below_store hrow.out.2.2.2 (c := w.heap.size + 1 + 1) (by omega) (Nat.le_refl _) k [.int .u64 (v : Nat)])
      have hps : IntKind.i64.wrap ((p : Int) + (n : Int)) = (p : Int) + (n : Int) := IntWalk.i64_in _ (by omega)
      have hp4 : Hid (((ofH (k + 1) : Nat) : Int) = (p : Int) + (n : Int)) := Lib.hid (by rw [hnx.out]; omega)
      clear hp hn hv hQ
      go_wp2_with fail
      refine (read_any _ _ (by omega) (by omega)).mono ?_
      rintro ee w5 ⟨rfl, rfl⟩
      rw [hnd5.out]
      go_wp2_with fail
      go_roundg (gk - 1)
      case measure => omega
      case rel => exact ⟨k + 1, by omega, by omega, by rw [hp4.out], by go_num, Lib.hid ⟨hst.out, hR2.out, hX2.out, hB2.out⟩⟩
    · obtain rfl : k = 4 := by omega
      rw [hfin.out] at hrow
      rw [show ((ofH 4 : Nat) : Int) = 20 from rfl, show ((4 : Nat) : Int) = 4 from rfl]
      clear hat hset hnd hnl hfin
      go_wp2_with (with_reducible refine zLoad 157 _ rfl ?_)
      refine Lib.hid ?_
      refine wpList_load_mid rfl 157 _ rfl (w.heap.size + 1 + 1) 0 rfl (u64s a b c d) _ hrow.out.1.range Tryz.underlying157 rfl sizeN4 ?_
      go_wp2_with (with_reducible refine zStore 157 _ _ rfl ?_)
      refine Lib.hid ?_
      refine wpList_store_mid rfl 157 _ _ rfl (w.heap.size + 1) 0 (u64s a b c d).toArray rfl rfl (hrow.out.2.1.there 0 4 (by simp)) sizeN4 (all_oneCell_toArray (u64s_one a b c d)) ?_
      go_wp2_with fail
      have hend := whole_all hrow.out.2.1 (vs := u64s a b c d) rfl
      exact bodyPost_ret (result_cell Tryz.results168 rfl hend.range Tryz.underlying157 rfl sizeN4) rfl ⟨rfl, below_store hrow.out.2.2.2 (by omega) (Nat.le_refl _) 0 _⟩
end Go.Proofs.YtahljbjgenepaaaGreatDoor.W
end
section
namespace Go.Proofs.YtahljbjgenepaaaGreatDoor.W
open Go.RowKit Go.Sort
open Go.Proofs.YtahljbjgenepaaaGreatDoor.M Go.Proofs.YtahljbjgenepaaaGreatDoor.D Go.Proofs.YtahljbjgenepaaaGreatDoor.Z
set_option linter.unusedVariables false

/-- A text that may be longer than what it is copied into. -/
theorem wpList_copy_long {w : World} {ops : Array Oper} {rest : List Oper} {o : Oper} {a : Act} {Q : Exit → Act → World → Prop} (hgd : o.guard = none) (d x : Operand)
    (ho : o.op = .call { callee := .builtin .copy, args := #[d, x], argTypes := #[149, 9] }) (b off dLen dCap : Nat) (hd : a.eval d = .slice (some ⟨b, off, none⟩) dLen dCap) (s : ByteArray) (hx : a.eval x = .string s) (m : Nat) (hm : Nat.min s.size dLen = m)
    (t : TypeId) (cs : List Value) (hW : Whole w b t cs) (hl : off + m ≤ cs.length) (hml : m ≤ s.size)
    (h : ∀ w2, Whole w2 b t (splice cs off (bytesV (s.data.toList.take m))) → (∀ own : Nat → Prop, ∀ w0, (own b ∨ w0.heap.size ≤ b) → Kept own w0 w → Kept own w0 w2) → w2.heap.size = w.heap.size → wpList Tryz.prog ops Q rest (a.put o.dst (goInt m)) w2) :
    wpList Tryz.prog ops Q (o :: rest) a w := by
  refine wpList_plain hgd fun K hK => ?_
  have hth := hW.there off m hl
  have hrun := run_copy_str (P := Tryz.prog) w 149 9 o.type 5 b off dLen dCap s m Tryz.underlying149 sizeU8' hm (fun j hj => (hth j hj).1) (fun j hj => (hth j hj).2)
  unfold Oper.wp
  simp [execOp, ho, resolve, invoke, builtin, hd, hx, hrun, Result.andThen]
  have hsz : (bytesV (s.data.toList.take m)).length = m := by
    rw [bytesV_len, List.length_take, Array.length_toList]
    exact Nat.min_eq_left hml
  have h2 := h _ (hW.store off (bytesV (s.data.toList.take m)) (by rw [hsz]; exact hl)) (fun own w0 hb hk => hk.setCells hb _ _) (size_setCells _ _ _ _)
  exact hK _ _ h2
theorem sizeH4 : (Tryz.prog.info? 81).map (·.size) = some 4 := by kernel_rfl
abbrev hdr (a g s b : Int) : List Value := [.int .i64 a, .int .u32 g, .int .u32 s, .int .i64 b]
theorem hdr_one (a g s b : Int) : ∀ v ∈ hdr a g s b, v.oneCell' = true := by intro v hv; simp at hv; rcases hv with h | h | h | h <;> rw [h] <;> rfl
theorem okH_yes (a b : Nat) (h0 : 1 ≤ a) (h1 : a < 65536) (h2 : b ≤ 1099511627776) : okH (a : Int) (b : Int) = true := by
  unfold okH; simp; omega
set_option maxRecDepth 100000 in
set_option maxHeartbeats 4000000 in
theorem encH_yes (a g s b : Nat) (w : World) (hT : Wide w) (h0 : 1 ≤ a) (ha : a < 65536) (hg : g < 4294967296) (hs : s < 4294967296) (hb : b ≤ 1099511627776) :
    Calls Tryz.prog 54 #[.agg #[.int .i64 (a : Int), .int .u32 (g : Int), .int .u32 (s : Int), .int .i64 (b : Int)]] w fun x w' => x = .returned (.tuple #[.string (B (headerL a g s b)), .int .i64 0]) ∧ Below w.heap.size w w' := by
  have hm : ∀ W : World, Calls Tryz.prog 101 #[.agg #[.int .i64 (a : Int), .int .u32 (g : Int), .int .u32 (s : Int), .int .i64 (b : Int)]] W fun x w' => x = .returned (.bool true) ∧ Below W.heap.size W w' := fun W => by
    have h := mayBe_any a g s b W
    rw [okH_yes a b h0 ha hb] at h
    exact h
  have hn := Lib.hid (fun W => numbersOfH_any a g s b W ha hg hs hb)
  have hl := fun W hW => layH_any a g s b W hW ha hg hs (by omega)
  have hdl := headerL_len a g s b
  obtain ⟨D, hD⟩ : ∃ D, Hid (headerL a g s b = D) := ⟨_, Lib.hid rfl⟩
  rw [hD.out] at hl hdl ⊢
  have hvl : Hid ((bytesV D).length = 32) := Lib.hid (by rw [bytesV_len, hdl])
  replace hm := Lib.hid hm
  replace hl := Lib.hid hl
  replace hT := Lib.hid hT
  replace hdl := Lib.hid hdl
  clear h0 ha hg hs hb
  go_enter Tryz.func54, Tryz.ntmps54
  go_wp2_with fail
  have hX := Whole.new w 81 (hdr a g s b)
  have hB := (Below.refl w.heap.size w).alloc (Nat.le_refl _) (.cells (hdr a g s b).toArray 81)
  refine (hm.out _).mono ?_
  rintro ee w1 ⟨rfl, hb1⟩
  replace hX := hX.below hb1 hX.lt
  replace hB := grew hB hb1
  clear hb1
  have q0 := hX.cell 0
  have q1 := hX.cell 1
  have q2 := hX.cell 2
  have q3 := hX.cell 3
  simp at q0 q1 q2 q3
  go_wp2_with fail
  refine (hn.out _).mono ?_
  rintro ee w2 ⟨rfl, hb2⟩
  replace hB := grew hB hb2
  clear hb2 hX q0 q1 q2 q3
  go_wp2_with fail
  refine (hl.out _ (hT.out.below hB)).mono ?_
  rintro ee w3 ⟨rfl, hb3⟩
  replace hB := grew hB hb3
  clear hb3
  go_wp2_with (with_reducible refine zStore 154 _ _ rfl ?_)
  refine Lib.hid ?_
  refine wpList_fresh rfl 154 _ _ rfl w3.heap.size rfl (bytesV D) rfl w3 _ rfl rfl (by rw [hvl.out]; rfl) (by rw [hvl.out]; exact sizeL32) (bytesV_one D) ?_
  intro w4 hN hb4 hsz4
  replace hB := grew hB hb4
  clear hb4 hsz4
  have hcv : (convert 149 9 (.slice (some ⟨w3.heap.size, 0, none⟩) 32 32)).run Tryz.prog w4 = .ok (.string (B D)) w4 := by
    have h := (rowOf hN).back (P := Tryz.prog) 149 9 5 32 32 hdl.out.symm Tryz.underlying149 Tryz.underlying5 Tryz.underlying9
    exact h
  replace hB := Lib.hid hB
  clear hN
  go_wp2_with fail
  go_ret2
  exact ⟨rfl, hB.out⟩
theorem encH_no (a g s b : Int) (w : World) (h : okH a b = false) :
    Calls Tryz.prog 54 #[.agg #[.int .i64 a, .int .u32 g, .int .u32 s, .int .i64 b]] w fun x w' => x = .returned (.tuple #[.string ⟨#[]⟩, .int .i64 1]) ∧ Below w.heap.size w w' := by
  have hm : Hid (∀ W : World, Calls Tryz.prog 101 #[.agg #[.int .i64 a, .int .u32 g, .int .u32 s, .int .i64 b]] W fun x w' => x = .returned (.bool false) ∧ Below W.heap.size W w') := Lib.hid (fun W => by
    have h' := mayBe_any a g s b W
    rw [h] at h'
    exact h')
  have hB := Lib.hid ((Below.refl w.heap.size w).alloc (Nat.le_refl _) (.cells (hdr a g s b).toArray 81))
  go_enter Tryz.func54, Tryz.ntmps54
  go_wp2_with fail
  refine (hm.out _).mono ?_
  rintro ee w1 ⟨rfl, hb1⟩
  replace hB := Lib.hid (grew hB.out hb1)
  clear hb1
  go_wp2_with fail
  go_ret2
  exact ⟨rfl, hB.out⟩
set_option maxRecDepth 100000 in
set_option maxHeartbeats 4000000 in
theorem decH_short (s : ByteArray) (w : World) (hs : s.size < 32) :
    Calls Tryz.prog 143 #[.string s] w fun x w' => x = .returned (.tuple #[.agg #[.int .i64 0, .int .u32 0, .int .u32 0, .int .i64 0], .int .i64 3]) ∧ Below w.heap.size w w' := by
  have hR := Whole.new w 81 (hdr 0 0 0 0)
  have hB := (Below.refl w.heap.size w).alloc (Nat.le_refl _) (.cells (hdr 0 0 0 0).toArray 81)
  obtain ⟨W, hW⟩ : ∃ W, Hid (W = w.alloc (.cells (hdr 0 0 0 0).toArray 81)) := ⟨_, Lib.hid rfl⟩
  rw [← hW.out] at hR hB
  have hz1 : (s.size : Int) < 32 := by omega
  replace hR := Lib.hid hR
  replace hB := Lib.hid hB
  go_enter Tryz.func143, Tryz.ntmps143
  go_wp2_with (with_reducible refine zStore 81 _ _ rfl ?_)
  rw [← hW.out]
  clear hW
  refine Lib.hid ?_
  refine wpList_store_mid rfl 81 _ _ rfl w.heap.size 0 (hdr 0 0 0 0).toArray rfl rfl (hR.out.there 0 4 (by simp)) sizeH4 (all_oneCell_toArray (hdr_one 0 0 0 0)) ?_
  go_wp2_with fail
  have hfin := whole_all hR.out (vs := hdr 0 0 0 0) rfl
  exact bodyPost_ret (result_cell_tmp Tryz.results143 rfl rfl hfin.range Tryz.underlying81 rfl sizeH4) rfl ⟨rfl, below_store hB.out (Nat.le_refl _) (Nat.le_refl _) 0 _⟩
end Go.Proofs.YtahljbjgenepaaaGreatDoor.W
end
section
namespace Go.Proofs.YtahljbjgenepaaaGreatDoor.W
open Go.RowKit Go.Sort
open Go.Proofs.YtahljbjgenepaaaGreatDoor.M Go.Proofs.YtahljbjgenepaaaGreatDoor.D Go.Proofs.YtahljbjgenepaaaGreatDoor.Z
set_option linter.unusedVariables false

set_option maxRecDepth 100000 in
set_option maxHeartbeats 4000000 in
theorem decH_yes (s X : ByteArray) (w : World) (hT : Wide w) (hs : 32 ≤ s.size) (hX : s.extract 0 32 = X) (hk : okH (numH X 0 : Nat) (wrap64 (numH X 3 : Nat)) = true) (h1 : X.data.toList = headerL (numH X 0) (numH X 1) (numH X 2) (numH X 3)) :
    Calls Tryz.prog 143 #[.string s] w fun x w' => x = .returned (.tuple #[.agg #[.int .i64 (numH X 0 : Nat), .int .u32 (numH X 1 : Nat), .int .u32 (numH X 2 : Nat), .int .i64 (wrap64 (numH X 3 : Nat))], .int .i64 0]) ∧ Below w.heap.size w w' := by
  have hxz : X.size = 32 := by rw [← hX]; simp; omega
  have hxl : X.data.toList.length = 32 := by rw [Array.length_toList]; exact hxz
  have hrd := fun W hW => readH_any X W hW hxz
  have hnl := numH_lt X
  have hly := fun W hW => layH_any (numH X 0) (numH X 1) (numH X 2) (numH X 3) W hW (hnl 0) (hnl 1) (hnl 2) (hnl 3)
  have hho := fun W => headerOf_any (numH X 0) (numH X 1) (numH X 2) (numH X 3) W (hnl 0) (hnl 1) (hnl 2) (hnl 3)
  have hdl := headerL_len (numH X 0) (numH X 1) (numH X 2) (numH X 3)
  have heq := equal_bytes 154 32 Tryz.underlying154 X.data.toList (headerL (numH X 0) (numH X 1) (numH X 2) (numH X 3)) hxl hdl
  have htk : s.data.toList.take 32 = X.data.toList := by rw [← hX, ext_list]; rfl
  obtain ⟨E, hE⟩ : ∃ E, Hid (headerL (numH X 0) (numH X 1) (numH X 2) (numH X 3) = E) := ⟨_, Lib.hid rfl⟩
  rw [hE.out] at hly hdl heq h1
  obtain ⟨a, e0⟩ : ∃ a, Hid (numH X 0 = a) := ⟨_, Lib.hid rfl⟩
  obtain ⟨b, e1⟩ : ∃ a, Hid (numH X 1 = a) := ⟨_, Lib.hid rfl⟩
  obtain ⟨c, e2⟩ : ∃ a, Hid (numH X 2 = a) := ⟨_, Lib.hid rfl⟩
  obtain ⟨d, e3⟩ : ∃ a, Hid (numH X 3 = a) := ⟨_, Lib.hid rfl⟩
  rw [e0.out, e1.out, e2.out, e3.out] at hrd hly hho ⊢
  rw [e0.out, e3.out] at hk
  obtain ⟨z, hz⟩ : ∃ z : Int, Hid (wrap64 (d : Nat) = z) := ⟨_, Lib.hid rfl⟩
  rw [hz.out] at hho hk ⊢
  have hma : ∀ W : World, Calls Tryz.prog 101 #[.agg #[.int .i64 (a : Int), .int .u32 (b : Int), .int .u32 (c : Int), .int .i64 z]] W fun x w' => x = .returned (.bool true) ∧ Below W.heap.size W w' := fun W => by
    have h := mayBe_any a b c z W
    rw [hk] at h
    exact h
  rw [show decide (X.data.toList = E) = true from by simp [h1]] at heq
  obtain ⟨D1, hD1⟩ : ∃ x, Hid (bytesV X.data.toList = x) := ⟨_, Lib.hid rfl⟩
  obtain ⟨D2, hD2⟩ : ∃ x, Hid (bytesV E = x) := ⟨_, Lib.hid rfl⟩
  have hl1 : Hid (D1.length = 32) := Lib.hid (by rw [← hD1.out, bytesV_len, hxl])
  have hsp : Hid (splice (List.replicate 32 (Value.int .u8 0)) 0 D1 = D1) := Lib.hid (by unfold splice; rw [List.take_zero, List.nil_append, Nat.zero_add, hl1.out, List.drop_replicate]; simp)
  rw [hD1.out, hD2.out] at heq
  rw [hD1.out] at hrd
  rw [hD2.out] at hly
  have hsn : ¬ (s.size : Int) < 32 := by omega
  have hsg : (32 : Int) ≤ (s.size : Int) := by omega
  have hmin : Hid (Nat.min s.size 32 = 32) := Lib.hid (Nat.min_eq_right hs)
  replace htk := Lib.hid htk
  clear hnl hdl hxl hX hk h1
  replace hT := Lib.hid hT
  replace hrd := Lib.hid hrd
  replace hly := Lib.hid hly
  replace hho := Lib.hid hho
  replace hma := Lib.hid hma
  replace hxz := Lib.hid hxz
  have hR := (Whole.new w 81 (hdr 0 0 0 0)).alloc (.cells (List.replicate 32 (Value.int .u8 0)).toArray 154)
  have hL := Whole.new (w.alloc (.cells (hdr 0 0 0 0).toArray 81)) 154 (List.replicate 32 (Value.int .u8 0))
  rw [show (w.alloc (.cells (hdr 0 0 0 0).toArray 81)).heap.size = w.heap.size + 1 from by simp] at hL
  have hB := grewAlloc ((Below.refl w.heap.size w).alloc (Nat.le_refl _) (.cells (hdr 0 0 0 0).toArray 81)) (.cells (List.replicate 32 (Value.int .u8 0)).toArray 154)
  obtain ⟨W, hW⟩ : ∃ W, Hid (W = (w.alloc (.cells (hdr 0 0 0 0).toArray 81)).alloc (.cells (List.replicate 32 (Value.int .u8 0)).toArray 154)) := ⟨_, Lib.hid rfl⟩
  rw [← hW.out] at hR hL hB
  replace hR := Lib.hid hR
  replace hL := Lib.hid hL
  replace hB := Lib.hid hB
  go_enter Tryz.func143, Tryz.ntmps143
  go_wp2_with (with_reducible refine zCopy _ _ _ _ rfl ?_)
  refine Lib.hid ?_
  refine wpList_copy_long rfl _ _ rfl (w.heap.size + 1) 0 32 32 rfl s rfl 32 hmin.out 154 _ (by have h := hL.out; rw [hW.out] at h; exact h) (by simp) hs ?_
  intro w4 hL4 hk4 hsz4
  replace hk4 := hk4 (fun q => q = w.heap.size + 1) W (.inl rfl) (by rw [hW.out]; exact Kept.refl _ _)
  rw [htk.out, hD1.out, hsp.out] at hL4
  have hR4 := hR.out.of_kept hk4 (by omega)
  have hB4 := hB.out.trans (hk4.below hB.out.size (fun q hq => by omega))
  clear hW hL hk4 hsz4 hR hB
  go_wp2_with (with_reducible refine zLoad 154 _ rfl ?_)
  refine Lib.hid ?_
  refine wpList_load_mid rfl 154 _ rfl (w.heap.size + 1) 0 rfl D1 _ hL4.range Tryz.underlying154 rfl (by rw [hl1.out]; exact sizeL32) ?_
  go_wp2_with fail
  refine (hrd.out _ (hT.out.below hB4)).mono ?_
  rintro ee w5 ⟨rfl, hb5⟩
  have hN := Whole.new w5 157 (u64s a b c d)
  replace hR4 := (hR4.below hb5 hR4.lt).alloc (.cells (u64s a b c d).toArray 157)
  replace hL4 := (hL4.below hb5 hL4.lt).alloc (.cells (u64s a b c d).toArray 157)
  replace hB4 := grewAlloc (grew hB4 hb5) (.cells (u64s a b c d).toArray 157)
  clear hb5
  go_wp2_with fail
  refine (hho.out _).mono ?_
  rintro ee w6 ⟨rfl, hb6⟩
  have hS := Whole.new w6 81 (hdr a b c z)
  replace hR4 := (hR4.below hb6 hR4.lt).alloc (.cells (hdr a b c z).toArray 81)
  replace hL4 := (hL4.below hb6 hL4.lt).alloc (.cells (hdr a b c z).toArray 81)
  replace hN := (hN.below hb6 hN.lt).alloc (.cells (hdr a b c z).toArray 81)
  replace hB4 := grewAlloc (grew hB4 hb6) (.cells (hdr a b c z).toArray 81)
  clear hb6
  go_wp2_with fail
  generalize w5.heap.size = nb at *
  generalize w6.heap.size = sb at *
  obtain ⟨V, hV⟩ : ∃ V, Hid (V = w6.alloc (.cells (hdr a b c z).toArray 81)) := ⟨_, Lib.hid rfl⟩
  rw [← hV.out] at hR4 hL4 hN hS hB4
  rw [show w6.alloc (.cells #[.int .i64 (a : Int), .int .u32 (b : Int), .int .u32 (c : Int), .int .i64 z] 81) = V from hV.out.symm]
  clear hV
  have hrs : Hid (∀ w', (∃ p : Regrown, w' = grow (redrawn V p.d) p.os) → w'.rangeAt sb 0 (hdr a b c z)) := Lib.hid (by rintro _ ⟨p, rfl⟩; exact (hS.below (below_regrown V p.d p.os) hS.lt).range)
  have hrn : Hid (∀ w', (∃ p : Regrown, w' = grow (redrawn V p.d) p.os) → w'.rangeAt nb 0 (u64s a b c d)) := Lib.hid (by rintro _ ⟨p, rfl⟩; exact (hN.below (below_regrown V p.d p.os) hN.lt).range)
  have hrt : Hid (∀ w', (∃ p : Regrown, w' = grow (redrawn V p.d) p.os) → w'.rangeAt (w.heap.size + 1) 0 D1) := Lib.hid (by rintro _ ⟨p, rfl⟩; exact (hL4.below (below_regrown V p.d p.os) hL4.lt).range)
  have hi0 : Hid ((Tryz.prog.info? 81).map (·.size) = some (hdr a b c z).length) := Lib.hid sizeH4
  have hi1 : Hid ((Tryz.prog.info? 154).map (·.size) = some D1.length) := Lib.hid (by rw [hl1.out]; exact sizeL32)
  have hi2 : Hid ((Tryz.prog.info? 157).map (·.size) = some (u64s a b c d).length) := Lib.hid sizeN4
  have cm := Lib.hid (regrown_any hma.out V)
  have cl := Lib.hid (regrown_if hly.out V (fun w' hb => (hT.out.below hB4).below hb))
  replace hR4 := Lib.hid hR4
  replace hS := Lib.hid hS
  replace hB4 := Lib.hid hB4
  clear hN hL4
  refine wp_region_quiet_below (by kernel_rfl) (by kernel_rfl) ?_
  repeat (first
    | ((with_reducible refine quiet_load 81 _ sb (hdr a b c z) ?_ hrs.out Tryz.underlying81 ?_ hi0.out ?_ ?_); (· rfl); (· rfl); (· rfl); simp only [Act.put, List.setIfInBounds_toArray, List.set_cons_zero, List.set_cons_succ])
    | ((with_reducible refine quiet_load 154 _ (w.heap.size + 1) D1 ?_ hrt.out Tryz.underlying154 ?_ hi1.out ?_ ?_); (· rfl); (· rfl); (· rfl); simp only [Act.put, List.setIfInBounds_toArray, List.set_cons_zero, List.set_cons_succ])
    | ((with_reducible refine quiet_load 157 _ nb (u64s a b c d) ?_ hrn.out Tryz.underlying157 ?_ hi2.out ?_ ?_); (· rfl); (· rfl); (· rfl); simp only [Act.put, List.setIfInBounds_toArray, List.set_cons_zero, List.set_cons_succ])
    | go_big_quiet_step (first | exact cm.out _ _ | exact cl.out _ _))
  refine wpQuiet_nil ?_
  intro _ hw'
  obtain ⟨⟨dq, osq⟩, hw''⟩ := hw'
  subst hw''
  have hR5 := Lib.hid (hR4.out.below (below_regrown V dq osq) hR4.out.lt)
  have hS5 := Lib.hid (hS.out.below (below_regrown V dq osq) hS.out.lt)
  have hB5 := Lib.hid (grew hB4.out (below_regrown V dq osq))
  clear hrs hrn hrt hi0 hi1 hi2 cl cm heq hR4 hS hB4
  generalize grow (redrawn V dq) osq = w7 at *
  go_wp2_with (with_reducible refine zLoad 81 _ rfl ?_)
  refine Lib.hid ?_
  refine wpList_load_mid rfl 81 _ rfl sb 0 rfl (hdr a b c z) _ hS5.out.range Tryz.underlying81 rfl sizeH4 ?_
  go_wp2_with (with_reducible refine zStore 81 _ _ rfl ?_)
  refine Lib.hid ?_
  refine wpList_store_mid rfl 81 _ _ rfl w.heap.size 0 (hdr a b c z).toArray rfl rfl (hR5.out.there 0 4 (by simp)) sizeH4 (all_oneCell_toArray (hdr_one a b c z)) ?_
  go_wp2_with fail
  have hfin := whole_all hR5.out (vs := hdr a b c z) rfl
  exact bodyPost_ret (result_cell_tmp Tryz.results143 rfl rfl hfin.range Tryz.underlying81 rfl sizeH4) rfl ⟨rfl, below_store hB5.out (Nat.le_refl _) (Nat.le_refl _) 0 _⟩
set_option maxRecDepth 100000 in
set_option maxHeartbeats 4000000 in
theorem decH_data (s X : ByteArray) (w : World) (hT : Wide w) (hs : 32 ≤ s.size) (hX : s.extract 0 32 = X) (hk : okH (numH X 0 : Nat) (wrap64 (numH X 3 : Nat)) = true) (h1 : ¬ X.data.toList = headerL (numH X 0) (numH X 1) (numH X 2) (numH X 3)) :
    Calls Tryz.prog 143 #[.string s] w fun x w' => x = .returned (.tuple #[.agg #[.int .i64 0, .int .u32 0, .int .u32 0, .int .i64 0], .int .i64 4]) ∧ Below w.heap.size w w' := by
  have hxz : X.size = 32 := by rw [← hX]; simp; omega
  have hxl : X.data.toList.length = 32 := by rw [Array.length_toList]; exact hxz
  have hrd := fun W hW => readH_any X W hW hxz
  have hnl := numH_lt X
  have hly := fun W hW => layH_any (numH X 0) (numH X 1) (numH X 2) (numH X 3) W hW (hnl 0) (hnl 1) (hnl 2) (hnl 3)
  have hho := fun W => headerOf_any (numH X 0) (numH X 1) (numH X 2) (numH X 3) W (hnl 0) (hnl 1) (hnl 2) (hnl 3)
  have hdl := headerL_len (numH X 0) (numH X 1) (numH X 2) (numH X 3)
  have heq := equal_bytes 154 32 Tryz.underlying154 X.data.toList (headerL (numH X 0) (numH X 1) (numH X 2) (numH X 3)) hxl hdl
  have htk : s.data.toList.take 32 = X.data.toList := by rw [← hX, ext_list]; rfl
  obtain ⟨E, hE⟩ : ∃ E, Hid (headerL (numH X 0) (numH X 1) (numH X 2) (numH X 3) = E) := ⟨_, Lib.hid rfl⟩
  rw [hE.out] at hly hdl heq h1
  obtain ⟨a, e0⟩ : ∃ a, Hid (numH X 0 = a) := ⟨_, Lib.hid rfl⟩
  obtain ⟨b, e1⟩ : ∃ a, Hid (numH X 1 = a) := ⟨_, Lib.hid rfl⟩
  obtain ⟨c, e2⟩ : ∃ a, Hid (numH X 2 = a) := ⟨_, Lib.hid rfl⟩
  obtain ⟨d, e3⟩ : ∃ a, Hid (numH X 3 = a) := ⟨_, Lib.hid rfl⟩
  rw [e0.out, e1.out, e2.out, e3.out] at hrd hly hho
  rw [e0.out, e3.out] at hk
  obtain ⟨z, hz⟩ : ∃ z : Int, Hid (wrap64 (d : Nat) = z) := ⟨_, Lib.hid rfl⟩
  rw [hz.out] at hho hk
  have hma : ∀ W : World, Calls Tryz.prog 101 #[.agg #[.int .i64 (a : Int), .int .u32 (b : Int), .int .u32 (c : Int), .int .i64 z]] W fun x w' => x = .returned (.bool true) ∧ Below W.heap.size W w' := fun W => by
    have h := mayBe_any a b c z W
    rw [hk] at h
    exact h
  rw [show decide (X.data.toList = E) = false from by simp [h1]] at heq
  obtain ⟨D1, hD1⟩ : ∃ x, Hid (bytesV X.data.toList = x) := ⟨_, Lib.hid rfl⟩
  obtain ⟨D2, hD2⟩ : ∃ x, Hid (bytesV E = x) := ⟨_, Lib.hid rfl⟩
  have hl1 : Hid (D1.length = 32) := Lib.hid (by rw [← hD1.out, bytesV_len, hxl])
  have hsp : Hid (splice (List.replicate 32 (Value.int .u8 0)) 0 D1 = D1) := Lib.hid (by unfold splice; rw [List.take_zero, List.nil_append, Nat.zero_add, hl1.out, List.drop_replicate]; simp)
  rw [hD1.out, hD2.out] at heq
  rw [hD1.out] at hrd
  rw [hD2.out] at hly
  have hsn : ¬ (s.size : Int) < 32 := by omega
  have hsg : (32 : Int) ≤ (s.size : Int) := by omega
  have hmin : Hid (Nat.min s.size 32 = 32) := Lib.hid (Nat.min_eq_right hs)
  replace htk := Lib.hid htk
  clear hnl hdl hxl hX hk h1
  replace hT := Lib.hid hT
  replace hrd := Lib.hid hrd
  replace hly := Lib.hid hly
  replace hho := Lib.hid hho
  replace hma := Lib.hid hma
  replace hxz := Lib.hid hxz
  have hR := (Whole.new w 81 (hdr 0 0 0 0)).alloc (.cells (List.replicate 32 (Value.int .u8 0)).toArray 154)
  have hL := Whole.new (w.alloc (.cells (hdr 0 0 0 0).toArray 81)) 154 (List.replicate 32 (Value.int .u8 0))
  rw [show (w.alloc (.cells (hdr 0 0 0 0).toArray 81)).heap.size = w.heap.size + 1 from by simp] at hL
  have hB := grewAlloc ((Below.refl w.heap.size w).alloc (Nat.le_refl _) (.cells (hdr 0 0 0 0).toArray 81)) (.cells (List.replicate 32 (Value.int .u8 0)).toArray 154)
  obtain ⟨W, hW⟩ : ∃ W, Hid (W = (w.alloc (.cells (hdr 0 0 0 0).toArray 81)).alloc (.cells (List.replicate 32 (Value.int .u8 0)).toArray 154)) := ⟨_, Lib.hid rfl⟩
  rw [← hW.out] at hR hL hB
  replace hR := Lib.hid hR
  replace hL := Lib.hid hL
  replace hB := Lib.hid hB
  go_enter Tryz.func143, Tryz.ntmps143
  go_wp2_with (with_reducible refine zCopy _ _ _ _ rfl ?_)
  refine Lib.hid ?_
  refine wpList_copy_long rfl _ _ rfl (w.heap.size + 1) 0 32 32 rfl s rfl 32 hmin.out 154 _ (by have h := hL.out; rw [hW.out] at h; exact h) (by simp) hs ?_
  intro w4 hL4 hk4 hsz4
  replace hk4 := hk4 (fun q => q = w.heap.size + 1) W (.inl rfl) (by rw [hW.out]; exact Kept.refl _ _)
  rw [htk.out, hD1.out, hsp.out] at hL4
  have hR4 := hR.out.of_kept hk4 (by omega)
  have hB4 := hB.out.trans (hk4.below hB.out.size (fun q hq => by omega))
  clear hW hL hk4 hsz4 hR hB
  go_wp2_with (with_reducible refine zLoad 154 _ rfl ?_)
  refine Lib.hid ?_
  refine wpList_load_mid rfl 154 _ rfl (w.heap.size + 1) 0 rfl D1 _ hL4.range Tryz.underlying154 rfl (by rw [hl1.out]; exact sizeL32) ?_
  go_wp2_with fail
  refine (hrd.out _ (hT.out.below hB4)).mono ?_
  rintro ee w5 ⟨rfl, hb5⟩
  have hN := Whole.new w5 157 (u64s a b c d)
  replace hR4 := (hR4.below hb5 hR4.lt).alloc (.cells (u64s a b c d).toArray 157)
  replace hL4 := (hL4.below hb5 hL4.lt).alloc (.cells (u64s a b c d).toArray 157)
  replace hB4 := grewAlloc (grew hB4 hb5) (.cells (u64s a b c d).toArray 157)
  clear hb5
  go_wp2_with fail
  refine (hho.out _).mono ?_
  rintro ee w6 ⟨rfl, hb6⟩
  have hS := Whole.new w6 81 (hdr a b c z)
  replace hR4 := (hR4.below hb6 hR4.lt).alloc (.cells (hdr a b c z).toArray 81)
  replace hL4 := (hL4.below hb6 hL4.lt).alloc (.cells (hdr a b c z).toArray 81)
  replace hN := (hN.below hb6 hN.lt).alloc (.cells (hdr a b c z).toArray 81)
  replace hB4 := grewAlloc (grew hB4 hb6) (.cells (hdr a b c z).toArray 81)
  clear hb6
  go_wp2_with fail
  generalize w5.heap.size = nb at *
  generalize w6.heap.size = sb at *
  obtain ⟨V, hV⟩ : ∃ V, Hid (V = w6.alloc (.cells (hdr a b c z).toArray 81)) := ⟨_, Lib.hid rfl⟩
  rw [← hV.out] at hR4 hL4 hN hS hB4
  rw [show w6.alloc (.cells #[.int .i64 (a : Int), .int .u32 (b : Int), .int .u32 (c : Int), .int .i64 z] 81) = V from hV.out.symm]
  clear hV
  have hrs : Hid (∀ w', (∃ p : Regrown, w' = grow (redrawn V p.d) p.os) → w'.rangeAt sb 0 (hdr a b c z)) := Lib.hid (by rintro _ ⟨p, rfl⟩; exact (hS.below (below_regrown V p.d p.os) hS.lt).range)
  have hrn : Hid (∀ w', (∃ p : Regrown, w' = grow (redrawn V p.d) p.os) → w'.rangeAt nb 0 (u64s a b c d)) := Lib.hid (by rintro _ ⟨p, rfl⟩; exact (hN.below (below_regrown V p.d p.os) hN.lt).range)
  have hrt : Hid (∀ w', (∃ p : Regrown, w' = grow (redrawn V p.d) p.os) → w'.rangeAt (w.heap.size + 1) 0 D1) := Lib.hid (by rintro _ ⟨p, rfl⟩; exact (hL4.below (below_regrown V p.d p.os) hL4.lt).range)
  have hi0 : Hid ((Tryz.prog.info? 81).map (·.size) = some (hdr a b c z).length) := Lib.hid sizeH4
  have hi1 : Hid ((Tryz.prog.info? 154).map (·.size) = some D1.length) := Lib.hid (by rw [hl1.out]; exact sizeL32)
  have hi2 : Hid ((Tryz.prog.info? 157).map (·.size) = some (u64s a b c d).length) := Lib.hid sizeN4
  have cm := Lib.hid (regrown_any hma.out V)
  have cl := Lib.hid (regrown_if hly.out V (fun w' hb => (hT.out.below hB4).below hb))
  replace hR4 := Lib.hid hR4
  replace hS := Lib.hid hS
  replace hB4 := Lib.hid hB4
  clear hN hL4
  refine wp_region_quiet_below (by kernel_rfl) (by kernel_rfl) ?_
  repeat (first
    | ((with_reducible refine quiet_load 81 _ sb (hdr a b c z) ?_ hrs.out Tryz.underlying81 ?_ hi0.out ?_ ?_); (· rfl); (· rfl); (· rfl); simp only [Act.put, List.setIfInBounds_toArray, List.set_cons_zero, List.set_cons_succ])
    | ((with_reducible refine quiet_load 154 _ (w.heap.size + 1) D1 ?_ hrt.out Tryz.underlying154 ?_ hi1.out ?_ ?_); (· rfl); (· rfl); (· rfl); simp only [Act.put, List.setIfInBounds_toArray, List.set_cons_zero, List.set_cons_succ])
    | ((with_reducible refine quiet_load 157 _ nb (u64s a b c d) ?_ hrn.out Tryz.underlying157 ?_ hi2.out ?_ ?_); (· rfl); (· rfl); (· rfl); simp only [Act.put, List.setIfInBounds_toArray, List.set_cons_zero, List.set_cons_succ])
    | go_big_quiet_step (first | exact cm.out _ _ | exact cl.out _ _))
  refine wpQuiet_nil ?_
  intro _ hw'
  obtain ⟨⟨dq, osq⟩, hw''⟩ := hw'
  subst hw''
  have hR5 := Lib.hid (hR4.out.below (below_regrown V dq osq) hR4.out.lt)
  have hS5 := Lib.hid (hS.out.below (below_regrown V dq osq) hS.out.lt)
  have hB5 := Lib.hid (grew hB4.out (below_regrown V dq osq))
  clear hrs hrn hrt hi0 hi1 hi2 cl cm heq hR4 hS hB4
  generalize grow (redrawn V dq) osq = w7 at *
  go_wp2_with (with_reducible refine zStore 81 _ _ rfl ?_)
  refine Lib.hid ?_
  refine wpList_store_mid rfl 81 _ _ rfl w.heap.size 0 (hdr 0 0 0 0).toArray rfl rfl (hR5.out.there 0 4 (by simp)) sizeH4 (all_oneCell_toArray (hdr_one 0 0 0 0)) ?_
  go_wp2_with fail
  have hfin := whole_all hR5.out (vs := hdr 0 0 0 0) rfl
  exact bodyPost_ret (result_cell_tmp Tryz.results143 rfl rfl hfin.range Tryz.underlying81 rfl sizeH4) rfl ⟨rfl, below_store hB5.out (Nat.le_refl _) (Nat.le_refl _) 0 _⟩
set_option maxRecDepth 100000 in
set_option maxHeartbeats 4000000 in
theorem decH_may (s X : ByteArray) (w : World) (hT : Wide w) (hs : 32 ≤ s.size) (hX : s.extract 0 32 = X) (hk : okH (numH X 0 : Nat) (wrap64 (numH X 3 : Nat)) = false) :
    Calls Tryz.prog 143 #[.string s] w fun x w' => x = .returned (.tuple #[.agg #[.int .i64 0, .int .u32 0, .int .u32 0, .int .i64 0], .int .i64 4]) ∧ Below w.heap.size w w' := by
  have hxz : X.size = 32 := by rw [← hX]; simp; omega
  have hxl : X.data.toList.length = 32 := by rw [Array.length_toList]; exact hxz
  have hrd := fun W hW => readH_any X W hW hxz
  have hnl := numH_lt X
  have hly := fun W hW => layH_any (numH X 0) (numH X 1) (numH X 2) (numH X 3) W hW (hnl 0) (hnl 1) (hnl 2) (hnl 3)
  have hho := fun W => headerOf_any (numH X 0) (numH X 1) (numH X 2) (numH X 3) W (hnl 0) (hnl 1) (hnl 2) (hnl 3)
  have hdl := headerL_len (numH X 0) (numH X 1) (numH X 2) (numH X 3)
  have heq := equal_bytes 154 32 Tryz.underlying154 X.data.toList (headerL (numH X 0) (numH X 1) (numH X 2) (numH X 3)) hxl hdl
  have htk : s.data.toList.take 32 = X.data.toList := by rw [← hX, ext_list]; rfl
  obtain ⟨E, hE⟩ : ∃ E, Hid (headerL (numH X 0) (numH X 1) (numH X 2) (numH X 3) = E) := ⟨_, Lib.hid rfl⟩
  rw [hE.out] at hly hdl heq
  obtain ⟨a, e0⟩ : ∃ a, Hid (numH X 0 = a) := ⟨_, Lib.hid rfl⟩
  obtain ⟨b, e1⟩ : ∃ a, Hid (numH X 1 = a) := ⟨_, Lib.hid rfl⟩
  obtain ⟨c, e2⟩ : ∃ a, Hid (numH X 2 = a) := ⟨_, Lib.hid rfl⟩
  obtain ⟨d, e3⟩ : ∃ a, Hid (numH X 3 = a) := ⟨_, Lib.hid rfl⟩
  rw [e0.out, e1.out, e2.out, e3.out] at hrd hly hho
  rw [e0.out, e3.out] at hk
  obtain ⟨z, hz⟩ : ∃ z : Int, Hid (wrap64 (d : Nat) = z) := ⟨_, Lib.hid rfl⟩
  rw [hz.out] at hho hk
  have hma : ∀ W : World, Calls Tryz.prog 101 #[.agg #[.int .i64 (a : Int), .int .u32 (b : Int), .int .u32 (c : Int), .int .i64 z]] W fun x w' => x = .returned (.bool false) ∧ Below W.heap.size W w' := fun W => by
    have h := mayBe_any a b c z W
    rw [hk] at h
    exact h
  obtain ⟨D1, hD1⟩ : ∃ x, Hid (bytesV X.data.toList = x) := ⟨_, Lib.hid rfl⟩
  obtain ⟨D2, hD2⟩ : ∃ x, Hid (bytesV E = x) := ⟨_, Lib.hid rfl⟩
  have hl1 : Hid (D1.length = 32) := Lib.hid (by rw [← hD1.out, bytesV_len, hxl])
  have hsp : Hid (splice (List.replicate 32 (Value.int .u8 0)) 0 D1 = D1) := Lib.hid (by unfold splice; rw [List.take_zero, List.nil_append, Nat.zero_add, hl1.out, List.drop_replicate]; simp)
  rw [hD1.out, hD2.out] at heq
  rw [hD1.out] at hrd
  rw [hD2.out] at hly
  have hsn : ¬ (s.size : Int) < 32 := by omega
  have hsg : (32 : Int) ≤ (s.size : Int) := by omega
  have hmin : Hid (Nat.min s.size 32 = 32) := Lib.hid (Nat.min_eq_right hs)
  replace htk := Lib.hid htk
  clear hnl hdl hxl hX hk
  replace hT := Lib.hid hT
  replace hrd := Lib.hid hrd
  replace hly := Lib.hid hly
  replace hho := Lib.hid hho
  replace hma := Lib.hid hma
  replace hxz := Lib.hid hxz
  have hR := (Whole.new w 81 (hdr 0 0 0 0)).alloc (.cells (List.replicate 32 (Value.int .u8 0)).toArray 154)
  have hL := Whole.new (w.alloc (.cells (hdr 0 0 0 0).toArray 81)) 154 (List.replicate 32 (Value.int .u8 0))
  rw [show (w.alloc (.cells (hdr 0 0 0 0).toArray 81)).heap.size = w.heap.size + 1 from by simp] at hL
  have hB := grewAlloc ((Below.refl w.heap.size w).alloc (Nat.le_refl _) (.cells (hdr 0 0 0 0).toArray 81)) (.cells (List.replicate 32 (Value.int .u8 0)).toArray 154)
  obtain ⟨W, hW⟩ : ∃ W, Hid (W = (w.alloc (.cells (hdr 0 0 0 0).toArray 81)).alloc (.cells (List.replicate 32 (Value.int .u8 0)).toArray 154)) := ⟨_, Lib.hid rfl⟩
  rw [← hW.out] at hR hL hB
  replace hR := Lib.hid hR
  replace hL := Lib.hid hL
  replace hB := Lib.hid hB
  go_enter Tryz.func143, Tryz.ntmps143
  go_wp2_with (with_reducible refine zCopy _ _ _ _ rfl ?_)
  refine Lib.hid ?_
  refine wpList_copy_long rfl _ _ rfl (w.heap.size + 1) 0 32 32 rfl s rfl 32 hmin.out 154 _ (by have h := hL.out; rw [hW.out] at h; exact h) (by simp) hs ?_
  intro w4 hL4 hk4 hsz4
  replace hk4 := hk4 (fun q => q = w.heap.size + 1) W (.inl rfl) (by rw [hW.out]; exact Kept.refl _ _)
  rw [htk.out, hD1.out, hsp.out] at hL4
  have hR4 := hR.out.of_kept hk4 (by omega)
  have hB4 := hB.out.trans (hk4.below hB.out.size (fun q hq => by omega))
  clear hW hL hk4 hsz4 hR hB
  go_wp2_with (with_reducible refine zLoad 154 _ rfl ?_)
  refine Lib.hid ?_
  refine wpList_load_mid rfl 154 _ rfl (w.heap.size + 1) 0 rfl D1 _ hL4.range Tryz.underlying154 rfl (by rw [hl1.out]; exact sizeL32) ?_
  go_wp2_with fail
  refine (hrd.out _ (hT.out.below hB4)).mono ?_
  rintro ee w5 ⟨rfl, hb5⟩
  have hN := Whole.new w5 157 (u64s a b c d)
  replace hR4 := (hR4.below hb5 hR4.lt).alloc (.cells (u64s a b c d).toArray 157)
  replace hL4 := (hL4.below hb5 hL4.lt).alloc (.cells (u64s a b c d).toArray 157)
  replace hB4 := grewAlloc (grew hB4 hb5) (.cells (u64s a b c d).toArray 157)
  clear hb5
  go_wp2_with fail
  refine (hho.out _).mono ?_
  rintro ee w6 ⟨rfl, hb6⟩
  have hS := Whole.new w6 81 (hdr a b c z)
  replace hR4 := (hR4.below hb6 hR4.lt).alloc (.cells (hdr a b c z).toArray 81)
  replace hL4 := (hL4.below hb6 hL4.lt).alloc (.cells (hdr a b c z).toArray 81)
  replace hN := (hN.below hb6 hN.lt).alloc (.cells (hdr a b c z).toArray 81)
  replace hB4 := grewAlloc (grew hB4 hb6) (.cells (hdr a b c z).toArray 81)
  clear hb6
  go_wp2_with fail
  generalize w5.heap.size = nb at *
  generalize w6.heap.size = sb at *
  obtain ⟨V, hV⟩ : ∃ V, Hid (V = w6.alloc (.cells (hdr a b c z).toArray 81)) := ⟨_, Lib.hid rfl⟩
  rw [← hV.out] at hR4 hL4 hN hS hB4
  rw [show w6.alloc (.cells #[.int .i64 (a : Int), .int .u32 (b : Int), .int .u32 (c : Int), .int .i64 z] 81) = V from hV.out.symm]
  clear hV
  have hrs : Hid (∀ w', (∃ p : Regrown, w' = grow (redrawn V p.d) p.os) → w'.rangeAt sb 0 (hdr a b c z)) := Lib.hid (by rintro _ ⟨p, rfl⟩; exact (hS.below (below_regrown V p.d p.os) hS.lt).range)
  have hrn : Hid (∀ w', (∃ p : Regrown, w' = grow (redrawn V p.d) p.os) → w'.rangeAt nb 0 (u64s a b c d)) := Lib.hid (by rintro _ ⟨p, rfl⟩; exact (hN.below (below_regrown V p.d p.os) hN.lt).range)
  have hrt : Hid (∀ w', (∃ p : Regrown, w' = grow (redrawn V p.d) p.os) → w'.rangeAt (w.heap.size + 1) 0 D1) := Lib.hid (by rintro _ ⟨p, rfl⟩; exact (hL4.below (below_regrown V p.d p.os) hL4.lt).range)
  have hi0 : Hid ((Tryz.prog.info? 81).map (·.size) = some (hdr a b c z).length) := Lib.hid sizeH4
  have hi1 : Hid ((Tryz.prog.info? 154).map (·.size) = some D1.length) := Lib.hid (by rw [hl1.out]; exact sizeL32)
  have hi2 : Hid ((Tryz.prog.info? 157).map (·.size) = some (u64s a b c d).length) := Lib.hid sizeN4
  have cm := Lib.hid (regrown_any hma.out V)
  have cl := Lib.hid (regrown_if hly.out V (fun w' hb => (hT.out.below hB4).below hb))
  replace hR4 := Lib.hid hR4
  replace hS := Lib.hid hS
  replace hB4 := Lib.hid hB4
  clear hN hL4
  refine wp_region_quiet_below (by kernel_rfl) (by kernel_rfl) ?_
  repeat (first
    | ((with_reducible refine quiet_load 81 _ sb (hdr a b c z) ?_ hrs.out Tryz.underlying81 ?_ hi0.out ?_ ?_); (· rfl); (· rfl); (· rfl); simp only [Act.put, List.setIfInBounds_toArray, List.set_cons_zero, List.set_cons_succ])
    | ((with_reducible refine quiet_load 154 _ (w.heap.size + 1) D1 ?_ hrt.out Tryz.underlying154 ?_ hi1.out ?_ ?_); (· rfl); (· rfl); (· rfl); simp only [Act.put, List.setIfInBounds_toArray, List.set_cons_zero, List.set_cons_succ])
    | ((with_reducible refine quiet_load 157 _ nb (u64s a b c d) ?_ hrn.out Tryz.underlying157 ?_ hi2.out ?_ ?_); (· rfl); (· rfl); (· rfl); simp only [Act.put, List.setIfInBounds_toArray, List.set_cons_zero, List.set_cons_succ])
    | go_big_quiet_step (first | exact cm.out _ _ | exact cl.out _ _))
  refine wpQuiet_nil ?_
  intro _ hw'
  obtain ⟨⟨dq, osq⟩, hw''⟩ := hw'
  subst hw''
  have hR5 := Lib.hid (hR4.out.below (below_regrown V dq osq) hR4.out.lt)
  have hS5 := Lib.hid (hS.out.below (below_regrown V dq osq) hS.out.lt)
  have hB5 := Lib.hid (grew hB4.out (below_regrown V dq osq))
  clear hrs hrn hrt hi0 hi1 hi2 cl cm heq hR4 hS hB4
  generalize grow (redrawn V dq) osq = w7 at *
  go_wp2_with (with_reducible refine zStore 81 _ _ rfl ?_)
  refine Lib.hid ?_
  refine wpList_store_mid rfl 81 _ _ rfl w.heap.size 0 (hdr 0 0 0 0).toArray rfl rfl (hR5.out.there 0 4 (by simp)) sizeH4 (all_oneCell_toArray (hdr_one 0 0 0 0)) ?_
  go_wp2_with fail
  have hfin := whole_all hR5.out (vs := hdr 0 0 0 0) rfl
  exact bodyPost_ret (result_cell_tmp Tryz.results143 rfl rfl hfin.range Tryz.underlying81 rfl sizeH4) rfl ⟨rfl, below_store hB5.out (Nat.le_refl _) (Nat.le_refl _) 0 _⟩
end Go.Proofs.YtahljbjgenepaaaGreatDoor.W
end
