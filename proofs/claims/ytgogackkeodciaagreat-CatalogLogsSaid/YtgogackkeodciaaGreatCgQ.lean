/- Package catalog: entries laid: chains, layMake; Create. Package catalog: Meta; entries laid: chains, layMake. Package catalog: Create; the calls of nil. -/
import Derived.Test.YtgogackkeodciaaGreatCgL
import Derived.Test.YtgogackkeodciaaGreatTpD
section
namespace Go.Proofs.YtgogackkeodciaaGreat.W
open Go.RowKit Go.Sort
open Go.Proofs.YtgogackkeodciaaGreat.M Go.Proofs.YtgogackkeodciaaGreat.D Go.Proofs.YtgogackkeodciaaGreat.Z
set_option linter.unusedVariables false
set_option linter.unusedSimpArgs false

theorem sizeFr23 : (Tryz.prog.info? 37).map (·.size) = some 2 := by kernel_rfl
def chainsL (xs : List Int) : List UInt8 := xs.flatMap chain
theorem chainsL_len (xs : List Int) : (chainsL xs).length ≤ 10 * xs.length := by
  induction xs with
  | nil => simp [chainsL]
  | cons x r ih =>
    have : (chain x).length ≤ 10 := (chF_length 9 x).2
    show (chain x ++ chainsL r).length ≤ _
    rw [List.length_append, List.length_cons]; omega
theorem chainsL_take {xs : List Int} {j : Nat} {x : Int} (h : xs[j]? = some x) : chainsL (xs.take (j + 1)) = chainsL (xs.take j) ++ chain x := by
  unfold chainsL
  rw [List.take_add_one, h, List.flatMap_append]
  simp
set_option maxRecDepth 100000 in
set_option maxHeartbeats 2000000 in
theorem chains23_any (q c : Nat) (xs : List Int) (w : World) (hn : xs.length ≤ 100) (hrow : ∀ j x, xs[j]? = some x → w.cell? ⟨q, j, none⟩ = some (.int .i64 x)) (hx : ∀ x ∈ xs, 0 ≤ x ∧ x ≤ 1099511627776) :
    Calls Tryz.prog 70 #[.slice (some ⟨q, 0, none⟩) xs.length c] w fun e w' => e = .returned (.string (B (chainsL xs))) ∧ Below w.heap.size w w' := by
  have hr0 : Hid (∀ W, Below w.heap.size w W → ∀ j x, xs[j]? = some x → W.cell? ⟨q, j, none⟩ = some (.int .i64 x)) := Lib.hid (fun W hb j x hj => keepZ (w := w) (w' := W) (a := ⟨q, j, none⟩) hb (hrow j x hj))
  have hB := Below.refl w.heap.size w
  have hch := Lib.hid (fun (x : Int) (hxm : x ∈ xs) (W : World) => chain_any x W (hx x hxm).1 (by have := (hx x hxm).2; omega))
  have hxl := Lib.hid hx
  obtain ⟨n, hnn⟩ : ∃ n, Hid (xs.length = n) := ⟨_, Lib.hid rfl⟩
  have hfull : Hid (xs.take n = xs) := Lib.hid (List.take_of_length_le (by have := hnn.out; omega))
  rw [hnn.out] at hn ⊢
  clear hrow hx
  go_enter Tryz.func70, Tryz.ntmps70
  go_wp2_with fail
  go_loopg [3, 8] n (fun ga sv i wr => ∃ j : Nat, j ≤ n ∧ n ≤ j + ga ∧ i = .int .i64 j ∧ sv = .string (B (chainsL (xs.take j))) ∧ Hid (Below w.heap.size w wr))
  case atStart => exact ⟨0, by omega, by omega, rfl, rfl, Lib.hid hB⟩
  case round =>
    clear hB
    obtain ⟨j, hj, hg, rfl, rfl, hb⟩ := hrel
    generalize wr = wo at *
    by_cases hlt : j < n
    · obtain ⟨x, hxj⟩ : ∃ x, xs[j]? = some x := ⟨_, List.getElem?_eq_getElem (by have := hnn.out; omega)⟩
      have c0 := hr0.out wo hb.out j x hxj
      have hmx := List.mem_of_getElem? hxj
      have hcx := Lib.hid (hch.out x hmx wo)
      obtain ⟨x0, x1⟩ := hxl.out x hmx
      have hst := chainsL_take hxj
      have hl1 := chainsL_len (xs.take j)
      have hl2 : (xs.take j).length ≤ 100 := by rw [List.length_take]; omega
      have hz1 : (B (chainsL (xs.take j))).size ≤ 1000 := by rw [B_size]; omega
      have hz2 : (B (chain x)).size ≤ 10 := chF_size 9 x
      have hap : Hid (B (chainsL (xs.take j)) ++ B (chain x) = B (chainsL (xs.take (j + 1)))) := Lib.hid (by rw [hst, B_append])
      have hwx : IntKind.u64.wrap x = x := IntWalk.u64_in x ⟨x0, by omega⟩
      obtain ⟨S1, hS1⟩ : ∃ s, Hid (B (chainsL (xs.take j)) = s) := ⟨_, Lib.hid rfl⟩
      obtain ⟨S2, hS2⟩ : ∃ s, Hid (B (chain x) = s) := ⟨_, Lib.hid rfl⟩
      rw [hS1.out] at hz1 hap ⊢
      rw [hS2.out] at hz2 hap hcx
      clear hst hl1 hl2 hmx hxj hS1 hS2
      have hji : (j : Int) < (n : Int) := by omega
      go_wp2_with fail
      refine hcx.out.mono ?_
      rintro _ w1 ⟨rfl, hb1⟩
      have hb2 := Lib.hid (grew hb.out hb1)
      clear hb1 hcx hb c0
      go_wp2_with fail
      go_roundg (gk - 1)
      case measure => omega
      case rel => exact ⟨j + 1, by omega, by omega, by go_num, by rw [hap.out], hb2⟩
    · obtain rfl : j = n := by omega
      rw [hfull.out]
      go_wp2_with fail
      go_ret
      exact ⟨rfl, hb.out⟩
theorem tenc_any (x : Sp) (w : World) (h : x.may = true) :
    Calls Tryz.prog 69 #[.agg #[.string x.nm, .int .i64 x.parts, .int .i64 x.age, .int .i64 x.size, .bool x.comp]] w fun e w' => e = .returned (.tuple #[.string (B (encT x)), .int .i64 0]) ∧ Below w.heap.size w w' := by
  obtain ⟨nm, pa, ag, sz, cp⟩ := x
  cases cp
  · exact encode_false nm pa ag sz w h
  · exact encode_true nm pa ag sz w h
set_option maxRecDepth 100000 in
set_option maxHeartbeats 2000000 in
theorem layMake_any (v g : Int) (x : Sp) (w : World) (h : x.may = true) (hv : 0 ≤ v ∧ v ≤ 1099511627776) (hg : 0 ≤ g ∧ g ≤ 1099511627776) :
    Calls Tryz.prog 45 #[.int .i64 v, .int .i64 g, .agg #[.string x.nm, .int .i64 x.parts, .int .i64 x.age, .int .i64 x.size, .bool x.comp]] w fun e w' => e = .returned (.agg #[.int .i64 1, .string (B (makeE v g x))]) ∧ Below w.heap.size w w' := by
  obtain ⟨V, hV⟩ : ∃ V, Hid (V = (w.alloc (.cells #[.string x.nm, .int .i64 x.parts, .int .i64 x.age, .int .i64 x.size, .bool x.comp] 31)).alloc (.cells #[.int .i64 0, .string ⟨#[]⟩] 37)) := ⟨_, Lib.hid rfl⟩
  have hB : Below w.heap.size w V := by rw [hV.out]; exact grewAlloc (grewAlloc (Below.refl _ _) _) _
  have hX : Whole V w.heap.size 31 [.string x.nm, .int .i64 x.parts, .int .i64 x.age, .int .i64 x.size, .bool x.comp] := by rw [hV.out]; exact (Whole.new w _ _).alloc _
  have hR : Whole V (w.heap.size + 1) 37 [.int .i64 0, .string ⟨#[]⟩] := by
    rw [hV.out]
    have := Whole.new (w.alloc (.cells #[.string x.nm, .int .i64 x.parts, .int .i64 x.age, .int .i64 x.size, .bool x.comp] 31)) 37 [.int .i64 0, .string ⟨#[]⟩]
    simpa using this
  obtain ⟨xb, hxb⟩ : ∃ q, Hid (w.heap.size = q) := ⟨_, Lib.hid rfl⟩
  obtain ⟨rb, hrb⟩ : ∃ q, Hid (w.heap.size + 1 = q) := ⟨_, Lib.hid rfl⟩
  rw [hxb.out] at hX
  rw [hrb.out] at hR
  have hrw : w.heap.size ≤ rb := by have := hrb.out; omega
  have q0 : V.cell? ⟨xb, 0, none⟩ = some (.string x.nm) := hX.cell 0
  have q1 : V.cell? ⟨xb, 1, none⟩ = some (.int .i64 x.parts) := hX.cell 1
  have q2 : V.cell? ⟨xb, 2, none⟩ = some (.int .i64 x.age) := hX.cell 2
  have q3 : V.cell? ⟨xb, 3, none⟩ = some (.int .i64 x.size) := hX.cell 3
  have q4 : V.cell? ⟨xb, 4, none⟩ = some (.bool x.comp) := hX.cell 4
  have hen := Lib.hid (tenc_any x V h)
  have hlen := encT_len h
  have hcl := chainsL_len [v, g]
  have hz1 : (B (chainsL [v, g])).size ≤ 20 := by rw [B_size]; simpa using hcl
  have hz2 : (B (encT x)).size ≤ 100 := by rw [B_size]; exact hlen
  have hap : Hid (B (chainsL [v, g]) ++ B (encT x) = B (makeE v g x)) := Lib.hid (by rw [B_append]; unfold chainsL makeE; simp)
  have hch : Hid (∀ (W : World) (q : Nat), W.cell? ⟨q, 0, none⟩ = some (.int .i64 v) → W.cell? ⟨q, 1, none⟩ = some (.int .i64 g) → Calls Tryz.prog 70 #[.slice (some ⟨q, 0, none⟩) 2 2] W fun e w' => e = .returned (.string (B (chainsL [v, g]))) ∧ Below W.heap.size W w') := Lib.hid (fun W q h0 h1 => chains23_any q 2 [v, g] W (by simp) (fun j x hj => by
      match j, hj with
      | 0, hj => cases hj; exact h0
      | 1, hj => cases hj; exact h1
      | j + 2, hj => simp at hj) (fun y hy => by
      rcases List.mem_cons.1 hy with rfl | hy
      · exact hv
      · rw [List.mem_singleton.1 hy]; exact hg))
  obtain ⟨S1, hS1⟩ : ∃ s, Hid (B (chainsL [v, g]) = s) := ⟨_, Lib.hid rfl⟩
  obtain ⟨S2, hS2⟩ : ∃ s, Hid (B (encT x) = s) := ⟨_, Lib.hid rfl⟩
  rw [hS1.out] at hz1 hap hch
  rw [hS2.out] at hz2 hap hen
  rw [← hap.out]
  obtain ⟨nm, pa, ag, sz, cp⟩ := x
  dsimp only at hV q0 q1 q2 q3 q4 hen ⊢
  replace hB := Lib.hid hB
  replace hR := Lib.hid hR
  clear hX hlen hcl hS1 hS2 h hv hg hap
  go_enter Tryz.func45, Tryz.ntmps45
  go_upto_region 1 with fail
  rw [← show V = _ from hV.out, hrb.out, hxb.out]
  clear hV hxb hrb
  go_wp2_with fail
  refine hen.out.mono ?_
  rintro _ w2 ⟨rfl, hb2⟩
  obtain ⟨V3, hV3⟩ : ∃ W, Hid (W = w2.alloc (.cells #[.int .i64 v, .int .i64 g] 3)) := ⟨_, Lib.hid rfl⟩
  have hb3 : Below V.heap.size V V3 := by rw [hV3.out]; exact grewAlloc hb2 _
  have hT : Whole V3 w2.heap.size 3 [.int .i64 v, .int .i64 g] := by rw [hV3.out]; exact Whole.new w2 _ _
  have hc3 := Lib.hid (hch.out V3 w2.heap.size (hT.cell 0) (hT.cell 1))
  have hR3 := Lib.hid (hR.out.below hb3 hR.out.lt)
  have hB3 := Lib.hid (grew hB.out hb3)
  clear hT hb2 hb3 hch hen hR hB q0 q1 q2 q3 q4
  go_upto_region 2 with fail
  go_wp2_with (go_at_call 70; rw [← show V3 = _ from hV3.out]; refine hc3.out.mono ?_; rintro _ w4 ⟨rfl, hb4⟩; have hR4 := hR3.out.below hb4 hR3.out.lt; have r0 : w4.cell? ⟨rb, 0, none⟩ = some (.int .i64 0) := hR4.cell 0; have r1 : w4.cell? ⟨rb, 1, none⟩ = some (.string ⟨#[]⟩) := hR4.cell 1; have f0 := hR4.frozen 0; have f1 := hR4.frozen 1; have hend : Hid (Whole (w4.setCells rb 0 [.int .i64 1, .string (S1 ++ S2)]) rb 37 [.int .i64 1, .string (S1 ++ S2)]) := Lib.hid (whole_all hR4 rfl); have hB9 : Hid (Below w.heap.size w (w4.setCells rb 0 [.int .i64 1, .string (S1 ++ S2)])) := Lib.hid (below_store (grew hB3.out hb4) hrw (Nat.le_refl _) 0 [.int .i64 1, .string (S1 ++ S2)]); clear hR4 hb4)
  exact bodyPost_ret (result_cell Tryz.results45 rfl hend.out.range Tryz.underlying37 rfl sizeFr23) rfl ⟨rfl, hB9.out⟩
theorem makeE_len {v g : Int} {x : Sp} (h : x.may = true) : (makeE v g x).length ≤ 120 := by
  have h1 : (chain v).length ≤ 10 := (chF_length 9 v).2
  have h2 : (chain g).length ≤ 10 := (chF_length 9 g).2
  have h3 := encT_len h
  unfold makeE
  rw [List.length_append, List.length_append]
  omega
end Go.Proofs.YtgogackkeodciaaGreat.W
end
section
namespace Go.Proofs.YtgogackkeodciaaGreat.W
open Go.RowKit Go.Sort
open Go.Proofs.YtgogackkeodciaaGreat.M Go.Proofs.YtgogackkeodciaaGreat.D Go.Proofs.YtgogackkeodciaaGreat.Z
set_option linter.unusedVariables false
set_option linter.unusedSimpArgs false

theorem sizeMt : (Tryz.prog.info? 35).map (·.size) = some 5 := by kernel_rfl
def metaE' (T : List To) (nm : ByteArray) (p : Int) : Int := if (metaT T nm p).isSome = true then 0 else 6
set_option maxRecDepth 100000 in
set_option maxHeartbeats 2000000 in
theorem meta23_any {B0 : Nat} (cb : Nat) (m : Option Nat) (T : List To) (n : Int) (c : Nat) (nm : ByteArray) (p : Int) (w : World) (h : CaAt B0 w cb m T n c) (h0 : nm.size ≤ maxLen) (h1 : (Lit.int .i64 p).wf = true) (x : Mt) (hxe : (metaT T nm p).getD zMt = x) :
    Calls Tryz.prog 19 #[.pointer (some ⟨cb, 0, none⟩), .agg #[.string nm, .int .i64 p]] w fun e w' => e = .returned (.tuple #[.agg #[.int .i64 x.gen, .int .i64 x.seq, .int .i64 x.start, .int .i64 x.next, .string x.tab], .int .i64 (metaE' T nm p)]) ∧ Below w.heap.size w w' := by
  obtain ⟨V, hV⟩ : ∃ V, Hid (V = (w.alloc (.cells #[.string nm, .int .i64 p] 33)).alloc (.cells #[.int .i64 0, .int .i64 0, .int .i64 0, .int .i64 0, .string ⟨#[]⟩] 35)) := ⟨_, Lib.hid rfl⟩
  have hB : Below w.heap.size w V := by rw [hV.out]; exact grewAlloc (grewAlloc (Below.refl _ _) _) _
  have hX : Whole V w.heap.size 33 [.string nm, .int .i64 p] := by rw [hV.out]; exact (Whole.new w _ _).alloc _
  have hR : Whole V (w.heap.size + 1) 35 [.int .i64 0, .int .i64 0, .int .i64 0, .int .i64 0, .string ⟨#[]⟩] := by
    rw [hV.out]
    have := Whole.new (w.alloc (.cells #[.string nm, .int .i64 p] 33)) 35 [.int .i64 0, .int .i64 0, .int .i64 0, .int .i64 0, .string ⟨#[]⟩]
    simpa using this
  obtain ⟨xb, hxb⟩ : ∃ q, Hid (w.heap.size = q) := ⟨_, Lib.hid rfl⟩
  obtain ⟨rb, hrb⟩ : ∃ q, Hid (w.heap.size + 1 = q) := ⟨_, Lib.hid rfl⟩
  rw [hxb.out] at hX
  rw [hrb.out] at hR
  have hrw : w.heap.size ≤ rb := by have := hrb.out; omega
  have hC := h.below hB
  have q0 : V.cell? ⟨xb, 0, none⟩ = some (.string nm) := hX.cell 0
  have q1 : V.cell? ⟨xb, 1, none⟩ = some (.int .i64 p) := hX.cell 1
  have hhp := hasPlace_any cb m _ _ n c nm p V hC.at_ h0 h1
  have hin : Hid (CaAt B0 V cb m T n c ∧ Whole V xb 33 [.string nm, .int .i64 p] ∧ Whole V rb 35 [.int .i64 0, .int .i64 0, .int .i64 0, .int .i64 0, .string ⟨#[]⟩]) := Lib.hid ⟨hC, hX, hR⟩
  obtain ⟨g, q, s, nx, tb⟩ := x
  dsimp only
  replace hB := Lib.hid hB
  unfold metaE'
  cases hm : (metaT T nm p).isSome with
  | false =>
    rw [hm] at hhp
    rw [if_neg (by decide)]
    have hno : metaT T nm p = none := by simpa using hm
    rw [hno] at hxe
    simp only [Option.getD_none, Mt.mk.injEq] at hxe
    obtain ⟨rfl, rfl, rfl, rfl, rfl⟩ := hxe
    replace hhp := Lib.hid hhp
    clear h hX hC hm hno hR
    go_enter Tryz.func19, Tryz.ntmps19
    go_upto_region 1 with fail
    rw [← show V = _ from hV.out, hrb.out, hxb.out]
    clear hV hxb hrb
    go_wp2_with fail
    refine hhp.out.mono ?_
    rintro _ W2 ⟨rfl, hb2⟩
    have hB2 := Lib.hid (grew hB.out hb2)
    have hR2 := hin.out.2.2.below hb2 hin.out.2.2.lt
    have r0 : W2.cell? ⟨rb, 0, none⟩ = some (.int .i64 0) := hR2.cell 0
    have r1 : W2.cell? ⟨rb, 1, none⟩ = some (.int .i64 0) := hR2.cell 1
    have r2 : W2.cell? ⟨rb, 2, none⟩ = some (.int .i64 0) := hR2.cell 2
    have r3 : W2.cell? ⟨rb, 3, none⟩ = some (.int .i64 0) := hR2.cell 3
    have r4 : W2.cell? ⟨rb, 4, none⟩ = some (.string ⟨#[]⟩) := hR2.cell 4
    have f0 := hR2.frozen 0
    have f1 := hR2.frozen 1
    have f2 := hR2.frozen 2
    have f3 := hR2.frozen 3
    have f4 := hR2.frozen 4
    have hend : Hid (Whole (W2.setCells rb 0 [.int .i64 0, .int .i64 0, .int .i64 0, .int .i64 0, .string ⟨#[]⟩]) rb 35 [.int .i64 0, .int .i64 0, .int .i64 0, .int .i64 0, .string ⟨#[]⟩]) := Lib.hid (whole_all hR2 rfl)
    have hB9 : Hid (Below w.heap.size w (W2.setCells rb 0 [.int .i64 0, .int .i64 0, .int .i64 0, .int .i64 0, .string ⟨#[]⟩])) := Lib.hid (below_store hB2.out hrw (Nat.le_refl _) 0 [.int .i64 0, .int .i64 0, .int .i64 0, .int .i64 0, .string ⟨#[]⟩])
    clear hb2 hhp q0 q1 hR2 hin
    go_wp2_with fail
    exact bodyPost_ret (result_cell_tmp Tryz.results19 rfl rfl hend.out.range Tryz.underlying35 rfl sizeMt) rfl ⟨rfl, hB9.out⟩
  | true =>
    rw [hm] at hhp
    rw [if_pos rfl]
    have hlk : Hid (∀ W, Below V.heap.size V W → (Instr.lookup 65 (.map m) (.agg #[.string nm, .int .i64 p]) false).run Tryz.prog W = .ok (.agg #[.int .i64 g, .int .i64 q, .int .i64 s, .int .i64 nx, .string tb]) W) := Lib.hid (fun W hb => by
      have := (hC.at_.map.below hb).look (nm := nm) (p := p) h0 h1
      rw [hxe] at this
      exact this)
    replace hhp := Lib.hid hhp
    clear h hX hC hm hxe hR
    go_enter Tryz.func19, Tryz.ntmps19
    go_upto_region 1 with fail
    rw [← show V = _ from hV.out, hrb.out, hxb.out]
    clear hV hxb hrb
    go_wp2_with fail
    refine hhp.out.mono ?_
    rintro _ W2 ⟨rfl, hb2⟩
    have hB2 := Lib.hid (grew hB.out hb2)
    have hX2 := hin.out.2.1.below hb2 hin.out.2.1.lt
    have hR2 := hin.out.2.2.below hb2 hin.out.2.2.lt
    have hC2 := hin.out.1.below hb2
    have hl2 := hlk.out W2.drew (grew hb2 (Below.refl _ _).drew)
    have x0 : W2.cell? ⟨xb, 0, none⟩ = some (.string nm) := hX2.cell 0
    have x1 : W2.cell? ⟨xb, 1, none⟩ = some (.int .i64 p) := hX2.cell 1
    have c40 : W2.cell? ⟨cb, 40, none⟩ = some (.map m) := by rw [hC2.at_.box.cell, ctL_map hC2.at_.eight]
    have r0 : W2.cell? ⟨rb, 0, none⟩ = some (.int .i64 0) := hR2.cell 0
    have r1 : W2.cell? ⟨rb, 1, none⟩ = some (.int .i64 0) := hR2.cell 1
    have r2 : W2.cell? ⟨rb, 2, none⟩ = some (.int .i64 0) := hR2.cell 2
    have r3 : W2.cell? ⟨rb, 3, none⟩ = some (.int .i64 0) := hR2.cell 3
    have r4 : W2.cell? ⟨rb, 4, none⟩ = some (.string ⟨#[]⟩) := hR2.cell 4
    have f0 := hR2.frozen 0
    have f1 := hR2.frozen 1
    have f2 := hR2.frozen 2
    have f3 := hR2.frozen 3
    have f4 := hR2.frozen 4
    have hend : Hid (Whole (W2.setCells rb 0 [.int .i64 g, .int .i64 q, .int .i64 s, .int .i64 nx, .string tb]).drew rb 35 [.int .i64 g, .int .i64 q, .int .i64 s, .int .i64 nx, .string tb]) := Lib.hid (whole_all hR2 rfl)
    have hB9 : Hid (Below w.heap.size w (W2.setCells rb 0 [.int .i64 g, .int .i64 q, .int .i64 s, .int .i64 nx, .string tb]).drew) := Lib.hid ((below_store hB2.out hrw (Nat.le_refl _) 0 [.int .i64 g, .int .i64 q, .int .i64 s, .int .i64 nx, .string tb]).drew)
    clear hb2 hhp q0 q1 hR2 hin hX2 hC2 hlk hB hB2
    go_upto_region 5 with fail
    go_region
    all_goals
      clear hl2 x0 x1 c40
      go_wp2_with fail
      exact bodyPost_ret (result_cell_tmp Tryz.results19 rfl rfl hend.out.range Tryz.underlying35 rfl sizeMt) rfl ⟨rfl, hB9.out⟩
end Go.Proofs.YtgogackkeodciaaGreat.W
end
section
namespace Go.Proofs.YtgogackkeodciaaGreat.W
open Go.RowKit Go.Sort
open Go.Proofs.YtgogackkeodciaaGreat.M Go.Proofs.YtgogackkeodciaaGreat.D Go.Proofs.YtgogackkeodciaaGreat.Z
set_option linter.unusedVariables false
set_option linter.unusedSimpArgs false

theorem lowT_ways (T : List To) : (∃ k : Nat, lowT T = (k : Int) ∧ k < 8 ∧ freeS T (k : Int) = true) ∨ lowT T = -1 := by
  unfold lowT
  cases h : (List.range 8).find? fun i : Nat => freeS T (i : Int) with
  | none => exact .inr rfl
  | some k => exact .inl ⟨k, rfl, List.mem_range.1 (List.mem_of_find?_eq_some h), List.find?_some (p := fun i : Nat => freeS T (i : Int)) h⟩
/-- What Create tells: kind, payload, error (23.2). -/
def createF (T : List To) (n : Int) (x : Sp) : Int × ByteArray × Int :=
  if x.may = false then (0, ⟨#[]⟩, 1) else if hasT T x.nm = true then (0, ⟨#[]⟩, 8) else if lowT T < 0 ∨ n = 4294967295 then (0, ⟨#[]⟩, 5) else (1, B (makeE (lowT T) (n + 1) x), 0)
theorem kR2 {rb : Nat} {V w : World} (h : Kept (fun q => q = rb) V w) (c0 c1 : Value) : Kept (fun q => q = rb) V ((w.setCell ⟨rb, 0, none⟩ c0).setCell ⟨rb, 1, none⟩ c1) := h.setCells (c := rb) (.inl rfl) 0 [c0, c1]
theorem kD9 {V0 w : World} {q : Nat} (h : Below V0.heap.size V0 w) (hq : V0.heap.size ≤ q) (vs : List Value) : Below V0.heap.size V0 (w.setCells q 0 vs) := below_store h hq (Nat.le_refl _) 0 vs
set_option maxRecDepth 100000 in
set_option maxHeartbeats 4000000 in
theorem create23_any {B0 : Nat} (cb : Nat) (m : Option Nat) (T : List To) (n : Int) (c : Nat) (x : Sp) (w : World) (h : CaAt B0 w cb m T n c) :
    Calls Tryz.prog 18 #[.pointer (some ⟨cb, 0, none⟩), .agg #[.string x.nm, .int .i64 x.parts, .int .i64 x.age, .int .i64 x.size, .bool x.comp]] w fun e w' => e = .returned (.tuple #[.agg #[.int .i64 (createF T n x).1, .string (createF T n x).2.1], .int .i64 (createF T n x).2.2]) ∧ Below w.heap.size w w' := by
  obtain ⟨V, hV⟩ : ∃ V, Hid (V = (w.alloc (.cells #[.string x.nm, .int .i64 x.parts, .int .i64 x.age, .int .i64 x.size, .bool x.comp] 31)).alloc (.cells #[.int .i64 0, .string ⟨#[]⟩] 37)) := ⟨_, Lib.hid rfl⟩
  have hB : Below w.heap.size w V := by rw [hV.out]; exact grewAlloc (grewAlloc (Below.refl _ _) _) _
  have hX : Whole V w.heap.size 31 [.string x.nm, .int .i64 x.parts, .int .i64 x.age, .int .i64 x.size, .bool x.comp] := by rw [hV.out]; exact (Whole.new w _ _).alloc _
  have hR : Whole V (w.heap.size + 1) 37 [.int .i64 0, .string ⟨#[]⟩] := by
    rw [hV.out]
    have := Whole.new (w.alloc (.cells #[.string x.nm, .int .i64 x.parts, .int .i64 x.age, .int .i64 x.size, .bool x.comp] 31)) 37 [.int .i64 0, .string ⟨#[]⟩]
    simpa using this
  obtain ⟨xb, hxb⟩ : ∃ q, Hid (w.heap.size = q) := ⟨_, Lib.hid rfl⟩
  obtain ⟨rb, hrb⟩ : ∃ q, Hid (w.heap.size + 1 = q) := ⟨_, Lib.hid rfl⟩
  rw [hxb.out] at hX
  rw [hrb.out] at hR
  have hrw : w.heap.size ≤ rb := by have := hrb.out; omega
  have hxr : xb ≠ rb := by have := hrb.out; have := hxb.out; omega
  have hcr : cb ≠ rb := by have := h.at_.box.lt; omega
  have hC := h.below hB
  have q0 : V.cell? ⟨xb, 0, none⟩ = some (.string x.nm) := hX.cell 0
  have q1 : V.cell? ⟨xb, 1, none⟩ = some (.int .i64 x.parts) := hX.cell 1
  have q2 : V.cell? ⟨xb, 2, none⟩ = some (.int .i64 x.age) := hX.cell 2
  have q3 : V.cell? ⟨xb, 3, none⟩ = some (.int .i64 x.size) := hX.cell 3
  have q4 : V.cell? ⟨xb, 4, none⟩ = some (.bool x.comp) := hX.cell 4
  have hri := right22_any x.nm x.parts x.age x.size x.comp V
  rw [show (⟨x.nm, x.parts, x.age, x.size, x.comp⟩ : Sp) = x from rfl] at hri
  have hin : Hid (CaAt B0 V cb m T n c ∧ Whole V xb 31 [.string x.nm, .int .i64 x.parts, .int .i64 x.age, .int .i64 x.size, .bool x.comp] ∧ Whole V rb 37 [.int .i64 0, .string ⟨#[]⟩]) := Lib.hid ⟨hC, hX, hR⟩
  have hha := fun W (hb : Below V.heap.size V W) => has23_any cb m T n c x.nm W (hC.below hb)
  have hsl : Hid (∀ W, Below V.heap.size V W → Calls Tryz.prog 42 #[.pointer (some ⟨cb, 0, none⟩), .string ⟨#[]⟩] W fun e w' => e = .returned (.int .i64 (lowT T)) ∧ Below W.heap.size W w') := Lib.hid (fun W hb => by
    have := slot_any cb m _ _ n c ⟨#[]⟩ W (hC.at_.below hb)
    rwa [idx_free h.ok rfl] at this)
  have hn01 := And.intro h.ok.n0 h.ok.n1
  replace hB := Lib.hid hB
  obtain ⟨r, hr⟩ : ∃ r, createF T n x = r := ⟨_, rfl⟩
  rw [hr]
  unfold createF at hr
  cases hm : x.may with
  | false =>
    rw [if_pos hm] at hr
    subst hr
    rw [hm] at hri
    replace hri := Lib.hid hri
    obtain ⟨nm, pa, ag, sz, cp⟩ := x
    dsimp only at hV q0 q1 q2 q3 q4 hri hin ⊢
    clear h hX hR hC hha hsl hm hn01
    go_enter Tryz.func18, Tryz.ntmps18
    go_upto_region 1 with fail
    rw [← show V = _ from hV.out, hrb.out, hxb.out]
    clear hV hxb hrb
    go_wp2_with fail
    refine hri.out.mono ?_
    rintro _ W2 ⟨rfl, b2⟩
    have hb2 : Below V.heap.size V W2 := b2
    have hR9 := hin.out.2.2.below hb2 hin.out.2.2.lt
    have r0 : W2.cell? ⟨rb, 0, none⟩ = some (.int .i64 0) := hR9.cell 0
    have r1 : W2.cell? ⟨rb, 1, none⟩ = some (.string ⟨#[]⟩) := hR9.cell 1
    have f0 := hR9.frozen 0
    have f1 := hR9.frozen 1
    have hC9 := hin.out.1.below hb2
    have c41 : W2.cell? ⟨cb, 41, none⟩ = some (.int .i64 n) := by rw [hC9.at_.box.cell, ctL_cnt hC9.at_.eight]
    have hend : Hid (Whole (W2.setCells rb 0 [.int .i64 0, .string ⟨#[]⟩]) rb 37 [.int .i64 0, .string ⟨#[]⟩]) := Lib.hid (whole_all hR9 rfl)
    have hB9 : Hid (Below w.heap.size w (W2.setCells rb 0 [.int .i64 0, .string ⟨#[]⟩])) := Lib.hid (below_store (grew hB.out hb2) hrw (Nat.le_refl _) 0 [.int .i64 0, .string ⟨#[]⟩])
    clear hR9 hC9 hin
    go_wp2_with fail
    exact bodyPost_ret (result_cell_tmp Tryz.results18 rfl rfl hend.out.range Tryz.underlying37 rfl sizeFr23) rfl ⟨rfl, hB9.out⟩
  | true =>
    rw [if_neg (by rw [hm]; decide)] at hr
    rw [hm] at hri
    replace hri := Lib.hid hri
    cases hv : hasT T x.nm with
    | true =>
      rw [if_pos hv] at hr
      subst hr
      rw [hv] at hha
      replace hha := Lib.hid hha
      obtain ⟨nm, pa, ag, sz, cp⟩ := x
      dsimp only at hV q0 q1 q2 q3 q4 hri hin hha ⊢
      clear h hX hR hC hsl hm hn01 hv
      go_enter Tryz.func18, Tryz.ntmps18
      go_upto_region 1 with fail
      rw [← show V = _ from hV.out, hrb.out, hxb.out]
      clear hV hxb hrb
      go_wp2_with fail
      refine hri.out.mono ?_
      rintro _ W2 ⟨rfl, b2⟩
      have hb2 : Below V.heap.size V W2 := b2
      have hX2 := hin.out.2.1.below hb2 hin.out.2.1.lt
      have y2 : W2.cell? ⟨xb, 0, none⟩ = some (.string nm) := hX2.cell 0
      clear hX2
      go_wp2_with fail
      refine (hha.out _ hb2).mono ?_
      rintro _ W3 ⟨rfl, b3⟩
      have hb3 : Below V.heap.size V W3 := grew hb2 b3
      have hR9 := hin.out.2.2.below hb3 hin.out.2.2.lt
      have r0 : W3.cell? ⟨rb, 0, none⟩ = some (.int .i64 0) := hR9.cell 0
      have r1 : W3.cell? ⟨rb, 1, none⟩ = some (.string ⟨#[]⟩) := hR9.cell 1
      have f0 := hR9.frozen 0
      have f1 := hR9.frozen 1
      have hC9 := hin.out.1.below hb3
      have c41 : W3.cell? ⟨cb, 41, none⟩ = some (.int .i64 n) := by rw [hC9.at_.box.cell, ctL_cnt hC9.at_.eight]
      have hend : Hid (Whole (W3.setCells rb 0 [.int .i64 0, .string ⟨#[]⟩]) rb 37 [.int .i64 0, .string ⟨#[]⟩]) := Lib.hid (whole_all hR9 rfl)
      have hB9 : Hid (Below w.heap.size w (W3.setCells rb 0 [.int .i64 0, .string ⟨#[]⟩])) := Lib.hid (below_store (grew hB.out hb3) hrw (Nat.le_refl _) 0 [.int .i64 0, .string ⟨#[]⟩])
      clear hR9 hC9 hin
      go_wp2_with fail
      exact bodyPost_ret (result_cell_tmp Tryz.results18 rfl rfl hend.out.range Tryz.underlying37 rfl sizeFr23) rfl ⟨rfl, hB9.out⟩
    | false =>
      rw [if_neg (by rw [hv]; decide)] at hr
      rw [hv] at hha
      replace hha := Lib.hid hha
      rcases lowT_ways T with ⟨k, hk, hk8, hkf⟩ | hk
      · rw [hk] at hsl hr
        by_cases hn : n = 4294967295
        · rw [if_pos (.inr hn)] at hr
          subst hr
          subst hn
          have hkn : ¬ (k : Int) < 0 := by omega
          obtain ⟨nm, pa, ag, sz, cp⟩ := x
          dsimp only at hV q0 q1 q2 q3 q4 hri hin hha ⊢
          clear h hX hR hC hm hn01 hv hk hkf
          go_enter Tryz.func18, Tryz.ntmps18
          go_upto_region 1 with fail
          rw [← show V = _ from hV.out, hrb.out, hxb.out]
          clear hV hxb hrb
          go_wp2_with fail
          refine hri.out.mono ?_
          rintro _ W2 ⟨rfl, b2⟩
          have hb2 : Below V.heap.size V W2 := b2
          have hX2 := hin.out.2.1.below hb2 hin.out.2.1.lt
          have y2 : W2.cell? ⟨xb, 0, none⟩ = some (.string nm) := hX2.cell 0
          clear hX2
          go_wp2_with fail
          refine (hha.out _ hb2).mono ?_
          rintro _ W3 ⟨rfl, b3⟩
          have hb3 : Below V.heap.size V W3 := grew hb2 b3
          have hX3 := hin.out.2.1.below hb3 hin.out.2.1.lt
          have y3 : W3.cell? ⟨xb, 0, none⟩ = some (.string nm) := hX3.cell 0
          clear hX3
          go_wp2_with fail
          refine (hsl.out _ hb3).mono ?_
          rintro _ W4 ⟨rfl, b4⟩
          have hb4 : Below V.heap.size V W4 := grew hb3 b4
          have hR9 := hin.out.2.2.below hb4 hin.out.2.2.lt
          have r0 : W4.cell? ⟨rb, 0, none⟩ = some (.int .i64 0) := hR9.cell 0
          have r1 : W4.cell? ⟨rb, 1, none⟩ = some (.string ⟨#[]⟩) := hR9.cell 1
          have f0 := hR9.frozen 0
          have f1 := hR9.frozen 1
          have hC9 := hin.out.1.below hb4
          have c41 : W4.cell? ⟨cb, 41, none⟩ = some (.int .i64 4294967295) := by rw [hC9.at_.box.cell, ctL_cnt hC9.at_.eight]
          have hend : Hid (Whole (W4.setCells rb 0 [.int .i64 0, .string ⟨#[]⟩]) rb 37 [.int .i64 0, .string ⟨#[]⟩]) := Lib.hid (whole_all hR9 rfl)
          have hB9 : Hid (Below w.heap.size w (W4.setCells rb 0 [.int .i64 0, .string ⟨#[]⟩])) := Lib.hid (below_store (grew hB.out hb4) hrw (Nat.le_refl _) 0 [.int .i64 0, .string ⟨#[]⟩])
          clear hR9 hC9 hin
          go_wp2_with fail
          exact bodyPost_ret (result_cell_tmp Tryz.results18 rfl rfl hend.out.range Tryz.underlying37 rfl sizeFr23) rfl ⟨rfl, hB9.out⟩
        · rw [if_neg (by rintro (q | q); omega; exact hn q)] at hr
          have hlm : Hid (∀ W, Calls Tryz.prog 45 #[.int .i64 (k : Int), .int .i64 (n + 1), .agg #[.string x.nm, .int .i64 x.parts, .int .i64 x.age, .int .i64 x.size, .bool x.comp]] W fun e w' => e = .returned (.agg #[.int .i64 1, .string (B (makeE (k : Int) (n + 1) x))]) ∧ Below W.heap.size W w') := Lib.hid (fun W => layMake_any (k : Int) (n + 1) x W hm (by omega) (by omega))
          obtain ⟨P, hP⟩ : ∃ P, Hid (B (makeE (k : Int) (n + 1) x) = P) := ⟨_, Lib.hid rfl⟩
          rw [hP.out] at hlm hr
          subst hr
          have hnb : (n == 4294967295) = false := by simpa using hn
          have hwn : IntKind.i64.wrap (n + 1) = n + 1 := IntWalk.i64_in _ (by omega)
          have hkn : ¬ (k : Int) < 0 := by omega
          have hkn2 : decide ((k : Int) < 0) = false := decide_eq_false hkn
          obtain ⟨nm, pa, ag, sz, cp⟩ := x
          dsimp only at hV q0 q1 q2 q3 q4 hri hin hha hlm ⊢
          replace hn := Lib.hid hn
          clear h hX hR hC hm hn01 hv hk hkf hP
          go_enter Tryz.func18, Tryz.ntmps18
          go_upto_region 1 with fail
          rw [← show V = _ from hV.out, hrb.out, hxb.out]
          clear hV hxb hrb
          go_wp2_with fail
          refine hri.out.mono ?_
          rintro _ W2 ⟨rfl, b2⟩
          have hb2 : Below V.heap.size V W2 := b2
          have hX2 := hin.out.2.1.below hb2 hin.out.2.1.lt
          have y2 : W2.cell? ⟨xb, 0, none⟩ = some (.string nm) := hX2.cell 0
          clear hX2
          go_wp2_with fail
          refine (hha.out _ hb2).mono ?_
          rintro _ W3 ⟨rfl, b3⟩
          have hb3 : Below V.heap.size V W3 := grew hb2 b3
          go_wp2_with fail
          refine (hsl.out _ hb3).mono ?_
          rintro _ W4 ⟨rfl, b4⟩
          have hb4 : Below V.heap.size V W4 := grew hb3 b4
          have hC9 := hin.out.1.below hb4
          have hX9 := hin.out.2.1.below hb4 hin.out.2.1.lt
          have hR9 := hin.out.2.2.below hb4 hin.out.2.2.lt
          have c41 : W4.cell? ⟨cb, 41, none⟩ = some (.int .i64 n) := by rw [hC9.at_.box.cell, ctL_cnt hC9.at_.eight]
          have d41 : ∀ W, Kept (fun q => q = rb) W4 W → W.cell? ⟨cb, 41, none⟩ = some (.int .i64 n) := fun W hk => by
            rw [(hC9.at_.box.of_kept hk hcr).cell, ctL_cnt hC9.at_.eight]
          have x0 : ∀ W, Kept (fun q => q = rb) W4 W → W.cell? ⟨xb, 0, none⟩ = some (.string nm) := fun W hk => (hX9.of_kept hk hxr).cell 0
          have x1 : ∀ W, Kept (fun q => q = rb) W4 W → W.cell? ⟨xb, 1, none⟩ = some (.int .i64 pa) := fun W hk => (hX9.of_kept hk hxr).cell 1
          have x2 : ∀ W, Kept (fun q => q = rb) W4 W → W.cell? ⟨xb, 2, none⟩ = some (.int .i64 ag) := fun W hk => (hX9.of_kept hk hxr).cell 2
          have x3 : ∀ W, Kept (fun q => q = rb) W4 W → W.cell? ⟨xb, 3, none⟩ = some (.int .i64 sz) := fun W hk => (hX9.of_kept hk hxr).cell 3
          have x4 : ∀ W, Kept (fun q => q = rb) W4 W → W.cell? ⟨xb, 4, none⟩ = some (.bool cp) := fun W hk => (hX9.of_kept hk hxr).cell 4
          have s10 : Kept (fun q => q = rb) W4 W4 := Kept.refl _ _
          have s10d : Kept (fun q => q = rb) W4 W4.drew := kD (Kept.refl _ _)
          have hB4 := Lib.hid (grew hB.out hb4)
          have hRh := Lib.hid hR9
          clear hC9 hX9 hR9 hin q0 q1 q2 q3 q4 y2 hri hha hsl hb2 b2 hb3 b3 hb4 b4 hB
          go_upto_region 10 with fail
          clear c41
          go_region_held3 (fun w' => Kept (fun q => q = rb) W4 w') (with_reducible first | assumption | exact kR2 (by assumption) _ _) (first
            | (go_at_call 45; (with_reducible refine (hlm.out _).mono ?_); rintro _ y1 ⟨rfl, b1⟩; have hb1 : Below W4.heap.size W4 y1 := grew (Below.refl _ _).drew b1; have s11 : Kept (fun q => q = rb) W4 y1 := Kept.of_below hb1; have hR1 := hRh.out.below hb1 hRh.out.lt; have r0 : y1.cell? ⟨rb, 0, none⟩ = some (.int .i64 0) := hR1.cell 0; have r1 : y1.cell? ⟨rb, 1, none⟩ = some (.string ⟨#[]⟩) := hR1.cell 1; have f0 := hR1.frozen 0; have f1 := hR1.frozen 1; have hend : Hid (Whole (y1.setCells rb 0 [.int .i64 1, .string P]) rb 37 [.int .i64 1, .string P]) := Lib.hid (whole_all hR1 rfl); have hB9 : Hid (Below w.heap.size w (y1.setCells rb 0 [.int .i64 1, .string P])) := Lib.hid (below_store (grew hB4.out hb1) hrw (Nat.le_refl _) 0 [.int .i64 1, .string P])))
          all_goals
            clear d41 x0 x1 x2 x3 x4 hlm
            go_wp2_with fail
            exact bodyPost_ret (result_cell_tmp Tryz.results18 rfl rfl hend.out.range Tryz.underlying37 rfl sizeFr23) rfl ⟨rfl, hB9.out⟩
      · rw [hk] at hsl hr
        rw [if_pos (.inl (by decide))] at hr
        subst hr
        obtain ⟨nm, pa, ag, sz, cp⟩ := x
        dsimp only at hV q0 q1 q2 q3 q4 hri hin hha ⊢
        clear h hX hR hC hm hn01 hv hk
        go_enter Tryz.func18, Tryz.ntmps18
        go_upto_region 1 with fail
        rw [← show V = _ from hV.out, hrb.out, hxb.out]
        clear hV hxb hrb
        go_wp2_with fail
        refine hri.out.mono ?_
        rintro _ W2 ⟨rfl, b2⟩
        have hb2 : Below V.heap.size V W2 := b2
        have hX2 := hin.out.2.1.below hb2 hin.out.2.1.lt
        have y2 : W2.cell? ⟨xb, 0, none⟩ = some (.string nm) := hX2.cell 0
        clear hX2
        go_wp2_with fail
        refine (hha.out _ hb2).mono ?_
        rintro _ W3 ⟨rfl, b3⟩
        have hb3 : Below V.heap.size V W3 := grew hb2 b3
        have hX3 := hin.out.2.1.below hb3 hin.out.2.1.lt
        have y3 : W3.cell? ⟨xb, 0, none⟩ = some (.string nm) := hX3.cell 0
        clear hX3
        go_wp2_with fail
        refine (hsl.out _ hb3).mono ?_
        rintro _ W4 ⟨rfl, b4⟩
        have hb4 : Below V.heap.size V W4 := grew hb3 b4
        have hR9 := hin.out.2.2.below hb4 hin.out.2.2.lt
        have r0 : W4.cell? ⟨rb, 0, none⟩ = some (.int .i64 0) := hR9.cell 0
        have r1 : W4.cell? ⟨rb, 1, none⟩ = some (.string ⟨#[]⟩) := hR9.cell 1
        have f0 := hR9.frozen 0
        have f1 := hR9.frozen 1
        have hC9 := hin.out.1.below hb4
        have c41 : W4.cell? ⟨cb, 41, none⟩ = some (.int .i64 n) := by rw [hC9.at_.box.cell, ctL_cnt hC9.at_.eight]
        have hend : Hid (Whole (W4.setCells rb 0 [.int .i64 0, .string ⟨#[]⟩]) rb 37 [.int .i64 0, .string ⟨#[]⟩]) := Lib.hid (whole_all hR9 rfl)
        have hB9 : Hid (Below w.heap.size w (W4.setCells rb 0 [.int .i64 0, .string ⟨#[]⟩])) := Lib.hid (below_store (grew hB.out hb4) hrw (Nat.le_refl _) 0 [.int .i64 0, .string ⟨#[]⟩])
        clear hR9 hC9 hin
        go_wp2_with fail
        exact bodyPost_ret (result_cell_tmp Tryz.results18 rfl rfl hend.out.range Tryz.underlying37 rfl sizeFr23) rfl ⟨rfl, hB9.out⟩
end Go.Proofs.YtgogackkeodciaaGreat.W
end
