/- The walks of package header's Encode and Decode. -/
import Derived.Test.YtoegohofmhijgaaDoorHdRead
namespace Go.Proofs.YtoegohofmhijgaaDoor.W
open Go.RowKit Go.Sort
open Go.Proofs.YtoegohofmhijgaaDoor.M Go.Proofs.YtoegohofmhijgaaDoor.D Go.Proofs.YtoegohofmhijgaaDoor.Z
set_option linter.unusedVariables false

/-- A text that may be longer than what it is copied into. -/
theorem wpList_copy_long {w : World} {ops : Array Oper} {rest : List Oper} {o : Oper} {a : Act} {Q : Exit → Act → World → Prop} (hgd : o.guard = none) (d x : Operand)
    (ho : o.op = .call { callee := .builtin .copy, args := #[d, x], argTypes := #[48, 9] }) (b off dLen dCap : Nat) (hd : a.eval d = .slice (some ⟨b, off, none⟩) dLen dCap) (s : ByteArray) (hx : a.eval x = .string s) (m : Nat) (hm : Nat.min s.size dLen = m)
    (t : TypeId) (cs : List Value) (hW : Whole w b t cs) (hl : off + m ≤ cs.length) (hml : m ≤ s.size)
    (h : ∀ w2, Whole w2 b t (splice cs off (bytesV (s.data.toList.take m))) → (∀ own : Nat → Prop, ∀ w0, (own b ∨ w0.heap.size ≤ b) → Kept own w0 w → Kept own w0 w2) → w2.heap.size = w.heap.size → wpList Tryd.prog ops Q rest (a.put o.dst (goInt m)) w2) :
    wpList Tryd.prog ops Q (o :: rest) a w := by
  refine wpList_plain hgd fun K hK => ?_
  have hth := hW.there off m hl
  have hrun := run_copy_str (P := Tryd.prog) w 48 9 o.type 5 b off dLen dCap s m Tryd.underlying48 sizeU8' hm (fun j hj => (hth j hj).1) (fun j hj => (hth j hj).2)
  unfold Oper.wp
  simp [execOp, ho, resolve, invoke, builtin, hd, hx, hrun, Result.andThen]
  have hsz : (bytesV (s.data.toList.take m)).length = m := by
    rw [bytesV_len, List.length_take, Array.length_toList]
    exact Nat.min_eq_left hml
  have h2 := h _ (hW.store off (bytesV (s.data.toList.take m)) (by rw [hsz]; exact hl)) (fun own w0 hb hk => hk.setCells hb _ _) (size_setCells _ _ _ _)
  exact hK _ _ h2
theorem sizeH4 : (Tryd.prog.info? 24).map (·.size) = some 4 := by kernel_rfl
abbrev hdr (a g s b : Int) : List Value := [.int .i64 a, .int .u32 g, .int .u32 s, .int .i64 b]
theorem hdr_one (a g s b : Int) : ∀ v ∈ hdr a g s b, v.oneCell' = true := by intro v hv; simp at hv; rcases hv with h | h | h | h <;> rw [h] <;> rfl
theorem okH_yes (a b : Nat) (h0 : 1 ≤ a) (h1 : a < 65536) (h2 : b ≤ 1099511627776) : okH (a : Int) (b : Int) = true := by
  unfold okH; simp; omega
set_option maxRecDepth 100000 in
set_option maxHeartbeats 4000000 in
theorem encH_yes (a g s b : Nat) (w : World) (hT : Wide w) (h0 : 1 ≤ a) (ha : a < 65536) (hg : g < 4294967296) (hs : s < 4294967296) (hb : b ≤ 1099511627776) :
    Calls Tryd.prog 11 #[.agg #[.int .i64 (a : Int), .int .u32 (g : Int), .int .u32 (s : Int), .int .i64 (b : Int)]] w fun x w' => x = .returned (.tuple #[.string (B (headerL a g s b)), .int .i64 0]) ∧ Below w.heap.size w w' := by
  have hm : ∀ W : World, Calls Tryd.prog 19 #[.agg #[.int .i64 (a : Int), .int .u32 (g : Int), .int .u32 (s : Int), .int .i64 (b : Int)]] W fun x w' => x = .returned (.bool true) ∧ Below W.heap.size W w' := fun W => by
    have h := mayBe_any a g s b W
    rw [okH_yes a b h0 ha hb] at h
    exact h
  have hn := Lib.hid (fun W => numbersOfH_any a g s b W ha hg hs hb)
  have hl := fun W hW => layH_any a g s b W hW ha hg hs (by omega)
  have hdl := headerL_len a g s b
  obtain ⟨D, hD⟩ : ∃ D, Hid (headerL a g s b = D) := ⟨_, Lib.hid rfl⟩
  rw [hD.out] at hl hdl ⊢
  have hvl : Hid ((bytesV D).length = 32) := Lib.hid (by rw [bytesV_len, hdl])
  replace hm := Lib.hid hm
  replace hl := Lib.hid hl
  replace hT := Lib.hid hT
  replace hdl := Lib.hid hdl
  clear h0 ha hg hs hb
  go_enter Tryd.func11, Tryd.ntmps11
  go_wp2_with fail
  have hX := Whole.new w 24 (hdr a g s b)
  have hB := (Below.refl w.heap.size w).alloc (Nat.le_refl _) (.cells (hdr a g s b).toArray 24)
  refine (hm.out _).mono ?_
  rintro ee w1 ⟨rfl, hb1⟩
  replace hX := hX.below hb1 hX.lt
  replace hB := grew hB hb1
  clear hb1
  have q0 := hX.cell 0
  have q1 := hX.cell 1
  have q2 := hX.cell 2
  have q3 := hX.cell 3
  simp at q0 q1 q2 q3
  go_wp2_with fail
  refine (hn.out _).mono ?_
  rintro ee w2 ⟨rfl, hb2⟩
  replace hB := grew hB hb2
  clear hb2 hX q0 q1 q2 q3
  go_wp2_with fail
  refine (hl.out _ (hT.out.below hB)).mono ?_
  rintro ee w3 ⟨rfl, hb3⟩
  replace hB := grew hB hb3
  clear hb3
  go_wp2_with (with_reducible refine zStore 47 _ _ rfl ?_)
  refine Lib.hid ?_
  refine wpList_fresh rfl 47 _ _ rfl w3.heap.size rfl (bytesV D) rfl w3 _ rfl rfl (by rw [hvl.out]; rfl) (by rw [hvl.out]; exact sizeL32) (bytesV_one D) ?_
  intro w4 hN hb4 hsz4
  replace hB := grew hB hb4
  clear hb4 hsz4
  have hcv : (convert 48 9 (.slice (some ⟨w3.heap.size, 0, none⟩) 32 32)).run Tryd.prog w4 = .ok (.string (B D)) w4 := by
    have h := (rowOf hN).back (P := Tryd.prog) 48 9 5 32 32 hdl.out.symm Tryd.underlying48 Tryd.underlying5 Tryd.underlying9
    exact h
  replace hB := Lib.hid hB
  clear hN
  go_wp2_with fail
  go_ret2
  exact ⟨rfl, hB.out⟩
theorem encH_no (a g s b : Int) (w : World) (h : okH a b = false) :
    Calls Tryd.prog 11 #[.agg #[.int .i64 a, .int .u32 g, .int .u32 s, .int .i64 b]] w fun x w' => x = .returned (.tuple #[.string ⟨#[]⟩, .int .i64 1]) ∧ Below w.heap.size w w' := by
  have hm : Hid (∀ W : World, Calls Tryd.prog 19 #[.agg #[.int .i64 a, .int .u32 g, .int .u32 s, .int .i64 b]] W fun x w' => x = .returned (.bool false) ∧ Below W.heap.size W w') := Lib.hid (fun W => by
    have h' := mayBe_any a g s b W
    rw [h] at h'
    exact h')
  have hB := Lib.hid ((Below.refl w.heap.size w).alloc (Nat.le_refl _) (.cells (hdr a g s b).toArray 24))
  go_enter Tryd.func11, Tryd.ntmps11
  go_wp2_with fail
  refine (hm.out _).mono ?_
  rintro ee w1 ⟨rfl, hb1⟩
  replace hB := Lib.hid (grew hB.out hb1)
  clear hb1
  go_wp2_with fail
  go_ret2
  exact ⟨rfl, hB.out⟩
set_option maxRecDepth 100000 in
set_option maxHeartbeats 4000000 in
theorem decH_short (s : ByteArray) (w : World) (hs : s.size < 32) :
    Calls Tryd.prog 8 #[.string s] w fun x w' => x = .returned (.tuple #[.agg #[.int .i64 0, .int .u32 0, .int .u32 0, .int .i64 0], .int .i64 3]) ∧ Below w.heap.size w w' := by
  have hR := Whole.new w 24 (hdr 0 0 0 0)
  have hB := (Below.refl w.heap.size w).alloc (Nat.le_refl _) (.cells (hdr 0 0 0 0).toArray 24)
  obtain ⟨W, hW⟩ : ∃ W, Hid (W = w.alloc (.cells (hdr 0 0 0 0).toArray 24)) := ⟨_, Lib.hid rfl⟩
  rw [← hW.out] at hR hB
  have hz1 : (s.size : Int) < 32 := by omega
  replace hR := Lib.hid hR
  replace hB := Lib.hid hB
  go_enter Tryd.func8, Tryd.ntmps8
  go_wp2_with (with_reducible refine zStore 24 _ _ rfl ?_)
  rw [← hW.out]
  clear hW
  refine Lib.hid ?_
  refine wpList_store_mid rfl 24 _ _ rfl w.heap.size 0 (hdr 0 0 0 0).toArray rfl rfl (hR.out.there 0 4 (by simp)) sizeH4 (all_oneCell_toArray (hdr_one 0 0 0 0)) ?_
  go_wp2_with fail
  have hfin := whole_all hR.out (vs := hdr 0 0 0 0) rfl
  exact bodyPost_ret (result_cell_tmp Tryd.results8 rfl rfl hfin.range Tryd.underlying24 rfl sizeH4) rfl ⟨rfl, below_store hB.out (Nat.le_refl _) (Nat.le_refl _) 0 _⟩
end Go.Proofs.YtoegohofmhijgaaDoor.W
