/- Package catalog: entries laid: chains, layMake; Create. -/
import Derived.Test.YtbbhnbdekblghaaGreatCgL
import Derived.Test.YtbbhnbdekblghaaGreatTpD
namespace Go.Proofs.YtbbhnbdekblghaaGreat.W
open Go.RowKit Go.Sort
open Go.Proofs.YtbbhnbdekblghaaGreat.M Go.Proofs.YtbbhnbdekblghaaGreat.D Go.Proofs.YtbbhnbdekblghaaGreat.Z
set_option linter.unusedVariables false
set_option linter.unusedSimpArgs false

theorem sizeFr23 : (Tryz.prog.info? 37).map (·.size) = some 2 := by kernel_rfl
def chainsL (xs : List Int) : List UInt8 := xs.flatMap chain
theorem chainsL_len (xs : List Int) : (chainsL xs).length ≤ 10 * xs.length := by
  induction xs with
  | nil => simp [chainsL]
  | cons x r ih =>
    have : (chain x).length ≤ 10 := (chF_length 9 x).2
    show (chain x ++ chainsL r).length ≤ _
    rw [List.length_append, List.length_cons]; omega
theorem chainsL_take {xs : List Int} {j : Nat} {x : Int} (h : xs[j]? = some x) : chainsL (xs.take (j + 1)) = chainsL (xs.take j) ++ chain x := by
  unfold chainsL
  rw [List.take_add_one, h, List.flatMap_append]
  simp
set_option maxRecDepth 100000 in
set_option maxHeartbeats 2000000 in
theorem chains23_any (q c : Nat) (xs : List Int) (w : World) (hn : xs.length ≤ 100) (hrow : ∀ j x, xs[j]? = some x → w.cell? ⟨q, j, none⟩ = some (.int .i64 x)) (hx : ∀ x ∈ xs, 0 ≤ x ∧ x ≤ 1099511627776) :
    Calls Tryz.prog 71 #[.slice (some ⟨q, 0, none⟩) xs.length c] w fun e w' => e = .returned (.string (B (chainsL xs))) ∧ Below w.heap.size w w' := by
  have hr0 : Hid (∀ W, Below w.heap.size w W → ∀ j x, xs[j]? = some x → W.cell? ⟨q, j, none⟩ = some (.int .i64 x)) := Lib.hid (fun W hb j x hj => keepZ (w := w) (w' := W) (a := ⟨q, j, none⟩) hb (hrow j x hj))
  have hB := Below.refl w.heap.size w
  have hch := Lib.hid (fun (x : Int) (hxm : x ∈ xs) (W : World) => chain_any x W (hx x hxm).1 (by have := (hx x hxm).2; omega))
  have hxl := Lib.hid hx
  obtain ⟨n, hnn⟩ : ∃ n, Hid (xs.length = n) := ⟨_, Lib.hid rfl⟩
  have hfull : Hid (xs.take n = xs) := Lib.hid (List.take_of_length_le (by have := hnn.out; omega))
  rw [hnn.out] at hn ⊢
  clear hrow hx
  go_enter Tryz.func71, Tryz.ntmps71
  go_wp2_with fail
  go_loopg [3, 8] n (fun ga sv i wr => ∃ j : Nat, j ≤ n ∧ n ≤ j + ga ∧ i = .int .i64 j ∧ sv = .string (B (chainsL (xs.take j))) ∧ Hid (Below w.heap.size w wr))
  case atStart => exact ⟨0, by omega, by omega, rfl, rfl, Lib.hid hB⟩
  case round =>
    clear hB
    obtain ⟨j, hj, hg, rfl, rfl, hb⟩ := hrel
    generalize wr = wo at *
    by_cases hlt : j < n
    · obtain ⟨x, hxj⟩ : ∃ x, xs[j]? = some x := ⟨_, List.getElem?_eq_getElem (by have := hnn.out; omega)⟩
      have c0 := hr0.out wo hb.out j x hxj
      have hmx := List.mem_of_getElem? hxj
      have hcx := Lib.hid (hch.out x hmx wo)
      obtain ⟨x0, x1⟩ := hxl.out x hmx
      have hst := chainsL_take hxj
      have hl1 := chainsL_len (xs.take j)
      have hl2 : (xs.take j).length ≤ 100 := by rw [List.length_take]; omega
      have hz1 : (B (chainsL (xs.take j))).size ≤ 1000 := by rw [B_size]; omega
      have hz2 : (B (chain x)).size ≤ 10 := chF_size 9 x
      have hap : Hid (B (chainsL (xs.take j)) ++ B (chain x) = B (chainsL (xs.take (j + 1)))) := Lib.hid (by rw [hst, B_append])
      have hwx : IntKind.u64.wrap x = x := IntWalk.u64_in x ⟨x0, by omega⟩
      obtain ⟨S1, hS1⟩ : ∃ s, Hid (B (chainsL (xs.take j)) = s) := ⟨_, Lib.hid rfl⟩
      obtain ⟨S2, hS2⟩ : ∃ s, Hid (B (chain x) = s) := ⟨_, Lib.hid rfl⟩
      rw [hS1.out] at hz1 hap ⊢
      rw [hS2.out] at hz2 hap hcx
      clear hst hl1 hl2 hmx hxj hS1 hS2
      have hji : (j : Int) < (n : Int) := by omega
      go_wp2_with fail
      refine hcx.out.mono ?_
      rintro _ w1 ⟨rfl, hb1⟩
      have hb2 := Lib.hid (grew hb.out hb1)
      clear hb1 hcx hb c0
      go_wp2_with fail
      go_roundg (gk - 1)
      case measure => omega
      case rel => exact ⟨j + 1, by omega, by omega, by go_num, by rw [hap.out], hb2⟩
    · obtain rfl : j = n := by omega
      rw [hfull.out]
      go_wp2_with fail
      go_ret
      exact ⟨rfl, hb.out⟩
theorem tenc_any (x : Sp) (w : World) (h : x.may = true) :
    Calls Tryz.prog 70 #[.agg #[.string x.nm, .int .i64 x.parts, .int .i64 x.age, .int .i64 x.size, .bool x.comp]] w fun e w' => e = .returned (.tuple #[.string (B (encT x)), .int .i64 0]) ∧ Below w.heap.size w w' := by
  obtain ⟨nm, pa, ag, sz, cp⟩ := x
  cases cp
  · exact encode_false nm pa ag sz w h
  · exact encode_true nm pa ag sz w h
set_option maxRecDepth 100000 in
set_option maxHeartbeats 2000000 in
theorem layMake_any (v g : Int) (x : Sp) (w : World) (h : x.may = true) (hv : 0 ≤ v ∧ v ≤ 1099511627776) (hg : 0 ≤ g ∧ g ≤ 1099511627776) :
    Calls Tryz.prog 46 #[.int .i64 v, .int .i64 g, .agg #[.string x.nm, .int .i64 x.parts, .int .i64 x.age, .int .i64 x.size, .bool x.comp]] w fun e w' => e = .returned (.agg #[.int .i64 1, .string (B (makeE v g x))]) ∧ Below w.heap.size w w' := by
  obtain ⟨V, hV⟩ : ∃ V, Hid (V = (w.alloc (.cells #[.string x.nm, .int .i64 x.parts, .int .i64 x.age, .int .i64 x.size, .bool x.comp] 31)).alloc (.cells #[.int .i64 0, .string ⟨#[]⟩] 37)) := ⟨_, Lib.hid rfl⟩
  have hB : Below w.heap.size w V := by rw [hV.out]; exact grewAlloc (grewAlloc (Below.refl _ _) _) _
  have hX : Whole V w.heap.size 31 [.string x.nm, .int .i64 x.parts, .int .i64 x.age, .int .i64 x.size, .bool x.comp] := by rw [hV.out]; exact (Whole.new w _ _).alloc _
  have hR : Whole V (w.heap.size + 1) 37 [.int .i64 0, .string ⟨#[]⟩] := by
    rw [hV.out]
    have := Whole.new (w.alloc (.cells #[.string x.nm, .int .i64 x.parts, .int .i64 x.age, .int .i64 x.size, .bool x.comp] 31)) 37 [.int .i64 0, .string ⟨#[]⟩]
    simpa using this
  obtain ⟨xb, hxb⟩ : ∃ q, Hid (w.heap.size = q) := ⟨_, Lib.hid rfl⟩
  obtain ⟨rb, hrb⟩ : ∃ q, Hid (w.heap.size + 1 = q) := ⟨_, Lib.hid rfl⟩
  rw [hxb.out] at hX
  rw [hrb.out] at hR
  have hrw : w.heap.size ≤ rb := by have := hrb.out; omega
  have q0 : V.cell? ⟨xb, 0, none⟩ = some (.string x.nm) := hX.cell 0
  have q1 : V.cell? ⟨xb, 1, none⟩ = some (.int .i64 x.parts) := hX.cell 1
  have q2 : V.cell? ⟨xb, 2, none⟩ = some (.int .i64 x.age) := hX.cell 2
  have q3 : V.cell? ⟨xb, 3, none⟩ = some (.int .i64 x.size) := hX.cell 3
  have q4 : V.cell? ⟨xb, 4, none⟩ = some (.bool x.comp) := hX.cell 4
  have hen := Lib.hid (tenc_any x V h)
  have hlen := encT_len h
  have hcl := chainsL_len [v, g]
  have hz1 : (B (chainsL [v, g])).size ≤ 20 := by rw [B_size]; simpa using hcl
  have hz2 : (B (encT x)).size ≤ 100 := by rw [B_size]; exact hlen
  have hap : Hid (B (chainsL [v, g]) ++ B (encT x) = B (makeE v g x)) := Lib.hid (by rw [B_append]; unfold chainsL makeE; simp)
  have hch : Hid (∀ (W : World) (q : Nat), W.cell? ⟨q, 0, none⟩ = some (.int .i64 v) → W.cell? ⟨q, 1, none⟩ = some (.int .i64 g) → Calls Tryz.prog 71 #[.slice (some ⟨q, 0, none⟩) 2 2] W fun e w' => e = .returned (.string (B (chainsL [v, g]))) ∧ Below W.heap.size W w') := Lib.hid (fun W q h0 h1 => chains23_any q 2 [v, g] W (by simp) (fun j x hj => by
      match j, hj with
      | 0, hj => cases hj; exact h0
      | 1, hj => cases hj; exact h1
      | j + 2, hj => simp at hj) (fun y hy => by
      rcases List.mem_cons.1 hy with rfl | hy
      · exact hv
      · rw [List.mem_singleton.1 hy]; exact hg))
  obtain ⟨S1, hS1⟩ : ∃ s, Hid (B (chainsL [v, g]) = s) := ⟨_, Lib.hid rfl⟩
  obtain ⟨S2, hS2⟩ : ∃ s, Hid (B (encT x) = s) := ⟨_, Lib.hid rfl⟩
  rw [hS1.out] at hz1 hap hch
  rw [hS2.out] at hz2 hap hen
  rw [← hap.out]
  obtain ⟨nm, pa, ag, sz, cp⟩ := x
  dsimp only at hV q0 q1 q2 q3 q4 hen ⊢
  replace hB := Lib.hid hB
  replace hR := Lib.hid hR
  clear hX hlen hcl hS1 hS2 h hv hg hap
  go_enter Tryz.func46, Tryz.ntmps46
  go_upto_region 1 with fail
  rw [← show V = _ from hV.out, hrb.out, hxb.out]
  clear hV hxb hrb
  go_wp2_with fail
  refine hen.out.mono ?_
  rintro _ w2 ⟨rfl, hb2⟩
  obtain ⟨V3, hV3⟩ : ∃ W, Hid (W = w2.alloc (.cells #[.int .i64 v, .int .i64 g] 3)) := ⟨_, Lib.hid rfl⟩
  have hb3 : Below V.heap.size V V3 := by rw [hV3.out]; exact grewAlloc hb2 _
  have hT : Whole V3 w2.heap.size 3 [.int .i64 v, .int .i64 g] := by rw [hV3.out]; exact Whole.new w2 _ _
  have hc3 := Lib.hid (hch.out V3 w2.heap.size (hT.cell 0) (hT.cell 1))
  have hR3 := Lib.hid (hR.out.below hb3 hR.out.lt)
  have hB3 := Lib.hid (grew hB.out hb3)
  clear hT hb2 hb3 hch hen hR hB q0 q1 q2 q3 q4
  go_upto_region 2 with fail
  go_wp2_with (go_at_call 71; rw [← show V3 = _ from hV3.out]; refine hc3.out.mono ?_; rintro _ w4 ⟨rfl, hb4⟩; have hR4 := hR3.out.below hb4 hR3.out.lt; have r0 : w4.cell? ⟨rb, 0, none⟩ = some (.int .i64 0) := hR4.cell 0; have r1 : w4.cell? ⟨rb, 1, none⟩ = some (.string ⟨#[]⟩) := hR4.cell 1; have f0 := hR4.frozen 0; have f1 := hR4.frozen 1; have hend : Hid (Whole (w4.setCells rb 0 [.int .i64 1, .string (S1 ++ S2)]) rb 37 [.int .i64 1, .string (S1 ++ S2)]) := Lib.hid (whole_all hR4 rfl); have hB9 : Hid (Below w.heap.size w (w4.setCells rb 0 [.int .i64 1, .string (S1 ++ S2)])) := Lib.hid (below_store (grew hB3.out hb4) hrw (Nat.le_refl _) 0 [.int .i64 1, .string (S1 ++ S2)]); clear hR4 hb4)
  exact bodyPost_ret (result_cell Tryz.results46 rfl hend.out.range Tryz.underlying37 rfl sizeFr23) rfl ⟨rfl, hB9.out⟩
theorem makeE_len {v g : Int} {x : Sp} (h : x.may = true) : (makeE v g x).length ≤ 120 := by
  have h1 : (chain v).length ≤ 10 := (chF_length 9 v).2
  have h2 : (chain g).length ≤ 10 := (chF_length 9 g).2
  have h3 := encT_len h
  unfold makeE
  rw [List.length_append, List.length_append]
  omega
end Go.Proofs.YtbbhnbdekblghaaGreat.W
