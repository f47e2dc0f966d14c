/- The walks of the definition of supers: Encode. The walk of the definition of supers: Decode. The walks of the definition of Pick. -/
import Derived.Test.YtkmlmondhmpkkaaProg
import Derived.Test.YtkmlmondhmpkkaaSuperA
import Derived.Test.YtkmlmondhmpkkaaSealRef
import Derived.Test.YtkmlmondhmpkkaaSealTwo
import Derived.Test.YtkmlmondhmpkkaaQuietB
import Derived.Deep.RegionHeld3
section
namespace Go.Proofs.Ytkmlmondhmpkkaa.W
open Go.RowKit Go.Sort
open Go.Proofs.Ytkmlmondhmpkkaa.M Go.Proofs.Ytkmlmondhmpkkaa.D Go.Proofs.Ytkmlmondhmpkkaa.Z
set_option linter.unusedVariables false

def cvOpU : Oper := { dst := some 28, op := .convert 39 9 (.tmp 27), type := 9, pos := "ref.go:20", after := #[{ on := 4, ground := .data }], guard := none }
theorem cvOpU_eq : ({ dst := some 28, op := .convert 39 9 (.tmp 27), type := 9, pos := "ref.go:20", after := #[{ on := 4, ground := .data }], guard := none } : Oper) = cvOpU := rfl
attribute [local go_sem] cvOpU
set_option maxRecDepth 100000 in
set_option maxHeartbeats 4000000 in
theorem ruEncode_any (a b c d e : Nat) (w : World) (ha : a < 4294967296) (hb : b < 4294967296) (hc : c < 4294967296) (hd : d < 4294967296) (he : e < 4294967296) :
    Calls Try.prog 21 #[.agg #[.int .u32 a, .int .u32 b, .int .u32 c, .int .u32 d, .int .u32 e]] w fun x w' => x = .returned (.string (B (superU a b c d e))) ∧ Below w.heap.size w w' := by
  have hnl := fun k => nu_lt ha hb hc hd he k
  have hlen := preU_len (nu a b c d e)
  have hhead := preU_head a b c d e
  have hix := index5 46 22 Try.underlying46 sizeU32' aggU32 a b c d e
  obtain ⟨f, hf⟩ : ∃ f, Hid (nu a b c d e = f) := ⟨_, Lib.hid rfl⟩
  rw [hf.out] at hnl hlen hhead hix
  have hhl := headU_len a b c d e
  have hcr := fun W => rcrc_any 0 (B (headU a b c d e)) W (by omega) (by rw [B_size, hhl]; omega)
  rw [B_data] at hcr
  have hcl := crc_lt 0 (headU a b c d e)
  have hsl := fun W => rseal_any a 1 (B (dataU a b c d e)) W ha (by omega) (by rw [B_size, dataU_len]; omega)
  rw [B_data] at hsl
  have hcat : B (headU a b c d e) ++ B (fx (crc 0 (headU a b c d e) : Nat) 4) ++ zerosB 26 = B (dataU a b c d e) := by
    unfold zerosB
    rw [B_append, B_append]
    rfl
  obtain ⟨C, hC⟩ : ∃ C : Nat, Hid (crc 0 (headU a b c d e) = C) := ⟨_, Lib.hid rfl⟩
  rw [hC.out] at hcl hcr hcat
  obtain ⟨H, hH⟩ : ∃ H, Hid (B (headU a b c d e) = H) := ⟨_, Lib.hid rfl⟩
  have hHz : H.size = 22 := by rw [← hH.out, B_size, hhl]
  obtain ⟨T, hT⟩ : ∃ T, Hid (B (dataU a b c d e) = T) := ⟨_, Lib.hid rfl⟩
  obtain ⟨S, hS⟩ : ∃ S, Hid (B (superU a b c d e) = S) := ⟨_, Lib.hid rfl⟩
  unfold superU at hS
  rw [hH.out] at hcr hcat
  rw [hT.out] at hcat hsl
  rw [hS.out] at hsl
  rw [show B (superU a b c d e) = S from hS.out]
  obtain ⟨F, hF⟩ : ∃ F, Hid (B (fx (C : Int) 4) = F) := ⟨_, Lib.hid rfl⟩
  have hFz : F.size = 4 := by rw [← hF.out, fx_size]
  obtain ⟨c26, hc26, hm26⟩ := make_bytes 26 (by omega)
  replace hm26 : ∀ W : World, (Instr.makeSlice 39 (.int .i64 26) (.int .i64 26)).run Try.prog W = .ok (.slice (some ⟨W.heap.size, 0, none⟩) 26 26) (W.alloc (.cells c26 5)) := fun W => hm26 W
  have hs26 := zero_string 26 c26 hc26
  have hs26d : ∀ W : World, (convert 39 9 (.slice (some ⟨W.heap.size, 0, none⟩) 26 26)).run Try.prog (W.alloc (.cells c26 5)).drew = .ok (.string (zerosB 26)) (W.alloc (.cells c26 5)).drew := fun W => by
    have h := zero_string 26 c26 hc26 W.drew
    exact h
  have hZz := zerosB_size 26
  obtain ⟨Z, hZ⟩ : ∃ Z, Hid (zerosB 26 = Z) := ⟨_, Lib.hid rfl⟩
  rw [hZ.out] at hs26 hs26d hZz hcat
  rw [hF.out] at hcat
  have hP0 : Hid (B (preU f 0) = ⟨#[0x57, 0x4c]⟩) := Lib.hid rfl
  have hHd : Hid (B (preU f 5) = H) := Lib.hid (by rw [hhead, hH.out])
  replace hcr : ∀ W : World, Calls Try.prog 41 #[.int .u32 0, .string H] W fun e w' => e = .returned (.int .u32 (C : Nat)) ∧ W = w' := fun W => hcr W
  replace hsl : ∀ W : World, Calls Try.prog 15 #[.int .u32 a, .int .i64 1, .string T] W fun e w' => e = .returned (.string S) ∧ Below W.heap.size W w' := fun W => hsl W
  replace hcr := Lib.hid hcr
  replace hsl := Lib.hid hsl
  replace hnl := Lib.hid hnl
  replace hlen := Lib.hid hlen
  replace hix := Lib.hid hix
  replace hcat := Lib.hid hcat
  clear hhead hhl hc26
  go_enter Try.func21, Try.ntmps21
  go_wp2_with fail
  have hX0 := Lib.hid (Whole.new w 48 (u32s a b c d e))
  have hB0 := Lib.hid ((Below.refl w.heap.size w).alloc (Nat.le_refl _) (.cells (u32s a b c d e).toArray 48))
  go_loopg [3, 8] 5 (fun ga o i wr => ∃ k : Nat, k ≤ 5 ∧ 5 ≤ k + ga ∧ o = .string (B (preU f k)) ∧ i = .int .i64 k ∧ Hid (Whole wr w.heap.size 48 (u32s a b c d e) ∧ Below w.heap.size w wr))
  case atStart => exact ⟨0, by omega, by omega, by rw [hP0.out], rfl, Lib.hid ⟨hX0.out, hB0.out⟩⟩
  case round =>
    clear hX0 hB0
    obtain ⟨k, hk, hg, rfl, rfl, hrow⟩ := hrel
    by_cases hlt : k < 5
    · have hi := hix.out k hlt
      obtain ⟨v, hv⟩ : ∃ v : Nat, Hid (f k = v) := ⟨_, Lib.hid rfl⟩
      have hvl : v < 4294967296 := by rw [← hv.out]; exact hnl.out k
      rw [hv.out] at hi
      have hnx : Hid (B (preU f k) ++ B (fx (v : Int) 4) = B (preU f (k + 1))) := Lib.hid (by rw [B_append, ← hv.out]; rfl)
      have hpz : (B (preU f k)).size = 2 + 4 * k := by rw [B_size, hlen.out]
      obtain ⟨G, hG⟩ : ∃ G, Hid (B (fx (v : Int) 4) = G) := ⟨_, Lib.hid rfl⟩
      have hGz : G.size = 4 := by rw [← hG.out, fx_size]
      obtain ⟨Q, hQ⟩ : ∃ Q, Hid (B (preU f k) = Q) := ⟨_, Lib.hid rfl⟩
      rw [hG.out, hQ.out] at hnx
      rw [hQ.out] at hpz ⊢
      go_wp2_with fail
      refine (rfixed_any (v : Int) 4 _ (by omega) (by omega) (by omega) (by omega)).mono ?_
      rintro ee w5 ⟨rfl, hb5⟩
      rw [show (4 : Int).toNat = 4 from rfl, hG.out]
      have hrow2 := Lib.hid (And.intro (hrow.out.1.below hb5 hrow.out.1.lt) (grew hrow.out.2 hb5))
      go_wp2_with fail
      go_roundg (gk - 1)
      case measure => omega
      case rel => exact ⟨k + 1, by omega, by omega, by rw [hnx.out], by go_num, hrow2⟩
    · obtain rfl : k = 5 := by omega
      rw [hHd.out, show ((5 : Nat) : Int) = 5 from rfl]
      go_wp2_with fail
      refine (hcr.out _).mono ?_
      rintro ee w5 ⟨rfl, rfl⟩
      go_wp2_with fail
      refine (rfixed_any (C : Int) 4 _ (by omega) (by omega) (by omega) (by omega)).mono ?_
      rintro ee w6 ⟨rfl, hb6⟩
      rw [show (4 : Int).toNat = 4 from rfl, hF.out]
      have hX6 := hrow.out.1.below hb6 hrow.out.1.lt
      have hB6 := Lib.hid (grew hrow.out.2 hb6)
      have c0 : w6.drew.cell? ⟨w.heap.size, 0, none⟩ = some (.int .u32 a) := hX6.cell 0
      have c1 : (w6.alloc (.cells c26 5)).drew.cell? ⟨w.heap.size, 0, none⟩ = some (.int .u32 a) := (hX6.alloc _).cell 0
      clear hX6 hb6
      go_wp2_with fail
      rw [cvOpU_eq]
      go_region_held3 (fun w' => w'.cell? ⟨w.heap.size, 0, none⟩ = some (.int .u32 a)) (first | exact c0 | exact c1 | exact d0) (first
        | (go_at_call 15; rw [hcat.out]; (with_reducible refine (hsl.out _).mono ?_); rintro ee w7 ⟨rfl, hb7⟩; have d0 := keepZ hb7 (a := ⟨w.heap.size, 0, none⟩) (v := .int .u32 a) (by assumption)))
      have hB7 := grew (drewS (grewAlloc hB6.out (.cells c26 5)) 1) hb7
      go_wp2_with fail
      go_ret
      exact ⟨rfl, hB7⟩
end Go.Proofs.Ytkmlmondhmpkkaa.W
end
section
namespace Go.Proofs.Ytkmlmondhmpkkaa.W
open Go.RowKit
open Go.Proofs.Ytkmlmondhmpkkaa.M Go.Proofs.Ytkmlmondhmpkkaa.D Go.Proofs.Ytkmlmondhmpkkaa.Z
set_option linter.unusedVariables false

theorem sizeR5 : (Try.prog.info? 48).map (·.size) = some 5 := by kernel_rfl
theorem sizeG6 : (Try.prog.info? 50).map (·.size) = some 6 := by kernel_rfl
set_option maxRecDepth 100000 in
set_option maxHeartbeats 4000000 in
theorem ruDecode_is (s X : ByteArray) (w : World) (ho : opensS s) (hX : s.extract 6 58 = X) (h1 :  B (superU (numU X 0) (numU X 1) (numU X 2) (numU X 3) (numU X 4)) = s) :
    Calls Try.prog 18 #[.string s] w fun x w' => x = .returned (.agg #[.int .u32 (numU X 0 : Nat), .int .u32 (numU X 1 : Nat), .int .u32 (numU X 2 : Nat), .int .u32 (numU X 3 : Nat), .int .u32 (numU X 4 : Nat), .bool true]) ∧ Below w.heap.size w w' := by
  have hop := fun W => ropen_yes s W ho
  have hxz : X.size = 52 := by rw [← hX]; have := ho.1; simp; omega
  rw [hX] at hop
  have hnl := numU_lt X
  have hen := fun W => ruEncode_any (numU X 0) (numU X 1) (numU X 2) (numU X 3) (numU X 4) W (hnl 0) (hnl 1) (hnl 2) (hnl 3) (hnl 4)
  obtain ⟨U, hU⟩ : ∃ U, Hid (B (superU (numU X 0) (numU X 1) (numU X 2) (numU X 3) (numU X 4)) = U) := ⟨_, Lib.hid rfl⟩
  rw [hU.out] at hen h1
  have r0 : M.rd (X.extract 2 6).data.toList = numU X 0 := rfl
  have r1 : M.rd (X.extract 6 10).data.toList = numU X 1 := rfl
  have r2 : M.rd (X.extract 10 14).data.toList = numU X 2 := rfl
  have r3 : M.rd (X.extract 14 18).data.toList = numU X 3 := rfl
  have r4 : M.rd (X.extract 18 22).data.toList = numU X 4 := rfl
  have l0 := hnl 0
  have l1 := hnl 1
  have l2 := hnl 2
  have l3 := hnl 3
  have l4 := hnl 4
  obtain ⟨a, e0⟩ : ∃ a, Hid (numU X 0 = a) := ⟨_, Lib.hid rfl⟩
  obtain ⟨b, e1⟩ : ∃ a, Hid (numU X 1 = a) := ⟨_, Lib.hid rfl⟩
  obtain ⟨c, e2⟩ : ∃ a, Hid (numU X 2 = a) := ⟨_, Lib.hid rfl⟩
  obtain ⟨d, e3⟩ : ∃ a, Hid (numU X 3 = a) := ⟨_, Lib.hid rfl⟩
  obtain ⟨e, e4⟩ : ∃ a, Hid (numU X 4 = a) := ⟨_, Lib.hid rfl⟩
  rw [e0.out, e1.out, e2.out, e3.out, e4.out] at hen ⊢
  rw [e0.out] at r0 l0
  rw [e1.out] at r1 l1
  rw [e2.out] at r2 l2
  rw [e3.out] at r3 l3
  rw [e4.out] at r4 l4
  obtain ⟨st, hst⟩ : ∃ a, Hid (stampS s = a) := ⟨_, Lib.hid rfl⟩
  obtain ⟨ct, hct⟩ : ∃ a, Hid (countS s = a) := ⟨_, Lib.hid rfl⟩
  rw [hst.out, hct.out] at hop
  have i1 : (22 : Int) ≤ (X.size : Int) := by omega
  have i2 : (18 : Int) ≤ (X.size : Int) := by omega
  have i3 : (14 : Int) ≤ (X.size : Int) := by omega
  have i4 : (10 : Int) ≤ (X.size : Int) := by omega
  have i5 : (6 : Int) ≤ (X.size : Int) := by omega
  have hus := bytes_eq h1
  replace hop := Lib.hid hop
  replace hen := Lib.hid hen
  replace r0 := Lib.hid r0
  replace r1 := Lib.hid r1
  replace r2 := Lib.hid r2
  replace r3 := Lib.hid r3
  replace r4 := Lib.hid r4
  clear hnl ho h1 hX
  go_enter Try.func18, Try.ntmps18
  go_wp2_with fail
  have hR := Whole.new w 50 [.int .u32 0, .int .u32 0, .int .u32 0, .int .u32 0, .int .u32 0, .bool false]
  have hB := (Below.refl w.heap.size w).alloc (Nat.le_refl _) (.cells #[.int .u32 0, .int .u32 0, .int .u32 0, .int .u32 0, .int .u32 0, .bool false] 50)
  refine (hop.out _).mono ?_
  rintro ee w1 ⟨rfl, hb1⟩
  replace hR := hR.below hb1 hR.lt
  replace hB := grew hB hb1
  clear hb1
  go_wp2_with fail
  refine (rread_any _ _ (by simp; omega)).mono ?_
  rintro ee w2 ⟨rfl, rfl⟩
  rw [r0.out]
  go_wp2_with fail
  refine (rread_any _ _ (by simp; omega)).mono ?_
  rintro ee w2 ⟨rfl, rfl⟩
  rw [r1.out]
  go_wp2_with fail
  refine (rread_any _ _ (by simp; omega)).mono ?_
  rintro ee w2 ⟨rfl, rfl⟩
  rw [r2.out]
  go_wp2_with fail
  refine (rread_any _ _ (by simp; omega)).mono ?_
  rintro ee w2 ⟨rfl, rfl⟩
  rw [r3.out]
  go_wp2_with fail
  refine (rread_any _ _ (by simp; omega)).mono ?_
  rintro ee w2 ⟨rfl, rfl⟩
  rw [r4.out]
  go_wp2_with fail
  have hN := Whole.new (w1.alloc (.cells #[.int .u32 st, .int .i64 ct, .string X, .bool true] 31)) 48 (u32s a b c d e)
  rw [show (w1.alloc (.cells #[.int .u32 st, .int .i64 ct, .string X, .bool true] 31)).heap.size = w1.heap.size + 1 from by simp] at hN
  replace hR := (hR.alloc (.cells #[.int .u32 st, .int .i64 ct, .string X, .bool true] 31)).alloc (.cells (u32s a b c d e).toArray 48)
  replace hB := grewAlloc (grewAlloc hB (.cells #[.int .u32 st, .int .i64 ct, .string X, .bool true] 31)) (.cells (u32s a b c d e).toArray 48)
  refine (hen.out _).mono ?_
  rintro ee w3 ⟨rfl, hb3⟩
  replace hR := Lib.hid (hR.below hb3 hR.lt)
  replace hN := Lib.hid (hN.below hb3 hN.lt)
  replace hB := Lib.hid (grew hB hb3)
  clear hb3
  go_wp2_with (with_reducible refine zLoad 48 _ rfl ?_)
  refine Lib.hid ?_
  refine wpList_load_mid rfl 48 _ rfl (w1.heap.size + 1) 0 rfl (u32s a b c d e) _ hN.out.range Try.underlying48 rfl sizeR5 ?_
  go_wp2_with (with_reducible refine zStore 50 _ _ rfl ?_)
  refine Lib.hid ?_
  refine wpList_store_mid rfl 50 _ _ rfl w.heap.size 0 #[.int .u32 a, .int .u32 b, .int .u32 c, .int .u32 d, .int .u32 e, .bool true] rfl rfl (hR.out.there 0 6 (by simp)) sizeG6 (by simp [Value.oneCell']) ?_
  go_wp2_with fail
  have hfin := whole_all hR.out (vs := [.int .u32 a, .int .u32 b, .int .u32 c, .int .u32 d, .int .u32 e, .bool true]) rfl
  exact bodyPost_ret (result_cell Try.results18 rfl hfin.range Try.underlying50 rfl sizeG6) rfl ⟨rfl, below_store hB.out (Nat.le_refl _) (Nat.le_refl _) 0 _⟩
set_option maxRecDepth 100000 in
set_option maxHeartbeats 4000000 in
theorem ruDecode_not (s X : ByteArray) (w : World) (ho : opensS s) (hX : s.extract 6 58 = X) (h1 : ¬ B (superU (numU X 0) (numU X 1) (numU X 2) (numU X 3) (numU X 4)) = s) :
    Calls Try.prog 18 #[.string s] w fun x w' => x = .returned (.agg #[.int .u32 0, .int .u32 0, .int .u32 0, .int .u32 0, .int .u32 0, .bool false]) ∧ Below w.heap.size w w' := by
  have hop := fun W => ropen_yes s W ho
  have hxz : X.size = 52 := by rw [← hX]; have := ho.1; simp; omega
  rw [hX] at hop
  have hnl := numU_lt X
  have hen := fun W => ruEncode_any (numU X 0) (numU X 1) (numU X 2) (numU X 3) (numU X 4) W (hnl 0) (hnl 1) (hnl 2) (hnl 3) (hnl 4)
  obtain ⟨U, hU⟩ : ∃ U, Hid (B (superU (numU X 0) (numU X 1) (numU X 2) (numU X 3) (numU X 4)) = U) := ⟨_, Lib.hid rfl⟩
  rw [hU.out] at hen h1
  have r0 : M.rd (X.extract 2 6).data.toList = numU X 0 := rfl
  have r1 : M.rd (X.extract 6 10).data.toList = numU X 1 := rfl
  have r2 : M.rd (X.extract 10 14).data.toList = numU X 2 := rfl
  have r3 : M.rd (X.extract 14 18).data.toList = numU X 3 := rfl
  have r4 : M.rd (X.extract 18 22).data.toList = numU X 4 := rfl
  have l0 := hnl 0
  have l1 := hnl 1
  have l2 := hnl 2
  have l3 := hnl 3
  have l4 := hnl 4
  obtain ⟨a, e0⟩ : ∃ a, Hid (numU X 0 = a) := ⟨_, Lib.hid rfl⟩
  obtain ⟨b, e1⟩ : ∃ a, Hid (numU X 1 = a) := ⟨_, Lib.hid rfl⟩
  obtain ⟨c, e2⟩ : ∃ a, Hid (numU X 2 = a) := ⟨_, Lib.hid rfl⟩
  obtain ⟨d, e3⟩ : ∃ a, Hid (numU X 3 = a) := ⟨_, Lib.hid rfl⟩
  obtain ⟨e, e4⟩ : ∃ a, Hid (numU X 4 = a) := ⟨_, Lib.hid rfl⟩
  rw [e0.out, e1.out, e2.out, e3.out, e4.out] at hen 
  rw [e0.out] at r0 l0
  rw [e1.out] at r1 l1
  rw [e2.out] at r2 l2
  rw [e3.out] at r3 l3
  rw [e4.out] at r4 l4
  obtain ⟨st, hst⟩ : ∃ a, Hid (stampS s = a) := ⟨_, Lib.hid rfl⟩
  obtain ⟨ct, hct⟩ : ∃ a, Hid (countS s = a) := ⟨_, Lib.hid rfl⟩
  rw [hst.out, hct.out] at hop
  have i1 : (22 : Int) ≤ (X.size : Int) := by omega
  have i2 : (18 : Int) ≤ (X.size : Int) := by omega
  have i3 : (14 : Int) ≤ (X.size : Int) := by omega
  have i4 : (10 : Int) ≤ (X.size : Int) := by omega
  have i5 : (6 : Int) ≤ (X.size : Int) := by omega
  have hus := bytes_ne h1
  replace hop := Lib.hid hop
  replace hen := Lib.hid hen
  replace r0 := Lib.hid r0
  replace r1 := Lib.hid r1
  replace r2 := Lib.hid r2
  replace r3 := Lib.hid r3
  replace r4 := Lib.hid r4
  clear hnl ho h1 hX
  go_enter Try.func18, Try.ntmps18
  go_wp2_with fail
  have hR := Whole.new w 50 [.int .u32 0, .int .u32 0, .int .u32 0, .int .u32 0, .int .u32 0, .bool false]
  have hB := (Below.refl w.heap.size w).alloc (Nat.le_refl _) (.cells #[.int .u32 0, .int .u32 0, .int .u32 0, .int .u32 0, .int .u32 0, .bool false] 50)
  refine (hop.out _).mono ?_
  rintro ee w1 ⟨rfl, hb1⟩
  replace hR := hR.below hb1 hR.lt
  replace hB := grew hB hb1
  clear hb1
  go_wp2_with fail
  refine (rread_any _ _ (by simp; omega)).mono ?_
  rintro ee w2 ⟨rfl, rfl⟩
  rw [r0.out]
  go_wp2_with fail
  refine (rread_any _ _ (by simp; omega)).mono ?_
  rintro ee w2 ⟨rfl, rfl⟩
  rw [r1.out]
  go_wp2_with fail
  refine (rread_any _ _ (by simp; omega)).mono ?_
  rintro ee w2 ⟨rfl, rfl⟩
  rw [r2.out]
  go_wp2_with fail
  refine (rread_any _ _ (by simp; omega)).mono ?_
  rintro ee w2 ⟨rfl, rfl⟩
  rw [r3.out]
  go_wp2_with fail
  refine (rread_any _ _ (by simp; omega)).mono ?_
  rintro ee w2 ⟨rfl, rfl⟩
  rw [r4.out]
  go_wp2_with fail
  have hN := Whole.new (w1.alloc (.cells #[.int .u32 st, .int .i64 ct, .string X, .bool true] 31)) 48 (u32s a b c d e)
  rw [show (w1.alloc (.cells #[.int .u32 st, .int .i64 ct, .string X, .bool true] 31)).heap.size = w1.heap.size + 1 from by simp] at hN
  replace hR := (hR.alloc (.cells #[.int .u32 st, .int .i64 ct, .string X, .bool true] 31)).alloc (.cells (u32s a b c d e).toArray 48)
  replace hB := grewAlloc (grewAlloc hB (.cells #[.int .u32 st, .int .i64 ct, .string X, .bool true] 31)) (.cells (u32s a b c d e).toArray 48)
  refine (hen.out _).mono ?_
  rintro ee w3 ⟨rfl, hb3⟩
  replace hR := Lib.hid (hR.below hb3 hR.lt)
  replace hN := Lib.hid (hN.below hb3 hN.lt)
  replace hB := Lib.hid (grew hB hb3)
  clear hb3
  go_wp2_with (with_reducible refine zStore 50 _ _ rfl ?_)
  refine Lib.hid ?_
  refine wpList_store_mid rfl 50 _ _ rfl w.heap.size 0 #[.int .u32 0, .int .u32 0, .int .u32 0, .int .u32 0, .int .u32 0, .bool false] rfl rfl (hR.out.there 0 6 (by simp)) sizeG6 (by simp [Value.oneCell']) ?_
  go_wp2_with fail
  have hfin := whole_all hR.out (vs := [.int .u32 0, .int .u32 0, .int .u32 0, .int .u32 0, .int .u32 0, .bool false]) rfl
  exact bodyPost_ret (result_cell Try.results18 rfl hfin.range Try.underlying50 rfl sizeG6) rfl ⟨rfl, below_store hB.out (Nat.le_refl _) (Nat.le_refl _) 0 _⟩
set_option maxHeartbeats 1000000 in
theorem ruDecode_shut (s : ByteArray) (w : World) (hs : s.size ≤ 1000000) (ho : ¬ opensS s) :
    Calls Try.prog 18 #[.string s] w fun x w' => x = .returned (.agg #[.int .u32 0, .int .u32 0, .int .u32 0, .int .u32 0, .int .u32 0, .bool false]) ∧ Below w.heap.size w w' := by
  have hop := Lib.hid (fun W => ropen_no s W hs ho)
  go_enter Try.func18, Try.ntmps18
  go_wp2_with fail
  have hR := Whole.new w 50 [.int .u32 0, .int .u32 0, .int .u32 0, .int .u32 0, .int .u32 0, .bool false]
  have hB := (Below.refl w.heap.size w).alloc (Nat.le_refl _) (.cells #[.int .u32 0, .int .u32 0, .int .u32 0, .int .u32 0, .int .u32 0, .bool false] 50)
  refine (hop.out _).mono ?_
  rintro ee w1 ⟨rfl, hb1⟩
  replace hR := Lib.hid ((hR.below hb1 hR.lt).alloc (.cells #[.int .u32 0, .int .i64 0, .string ⟨#[]⟩, .bool false] 31))
  replace hB := Lib.hid (grewAlloc (grew hB hb1) (.cells #[.int .u32 0, .int .i64 0, .string ⟨#[]⟩, .bool false] 31))
  clear hb1
  go_wp2_with (with_reducible refine zStore 50 _ _ rfl ?_)
  refine Lib.hid ?_
  refine wpList_store_mid rfl 50 _ _ rfl w.heap.size 0 #[.int .u32 0, .int .u32 0, .int .u32 0, .int .u32 0, .int .u32 0, .bool false] rfl rfl (hR.out.there 0 6 (by simp)) sizeG6 (by simp [Value.oneCell']) ?_
  go_wp2_with fail
  have hfin := whole_all hR.out (vs := [.int .u32 0, .int .u32 0, .int .u32 0, .int .u32 0, .int .u32 0, .bool false]) rfl
  exact bodyPost_ret (result_cell Try.results18 rfl hfin.range Try.underlying50 rfl sizeG6) rfl ⟨rfl, below_store hB.out (Nat.le_refl _) (Nat.le_refl _) 0 _⟩
theorem ruDecode_yes (s : ByteArray) (w : World) (h : isU s) :
    Calls Try.prog 18 #[.string s] w fun x w' => x = .returned (.agg #[.int .u32 (numU (s.extract 6 58) 0 : Nat), .int .u32 (numU (s.extract 6 58) 1 : Nat), .int .u32 (numU (s.extract 6 58) 2 : Nat), .int .u32 (numU (s.extract 6 58) 3 : Nat), .int .u32 (numU (s.extract 6 58) 4 : Nat), .bool true]) ∧ Below w.heap.size w w' :=
  ruDecode_is s _ w (isU_opens s h).1 rfl (Eq.symm h)
theorem ruDecode_no (s : ByteArray) (w : World) (hs : s.size ≤ 1000000) (h : ¬ isU s) :
    Calls Try.prog 18 #[.string s] w fun x w' => x = .returned (.agg #[.int .u32 0, .int .u32 0, .int .u32 0, .int .u32 0, .int .u32 0, .bool false]) ∧ Below w.heap.size w w' := by
  by_cases ho : opensS s
  · exact ruDecode_not s _ w ho rfl (fun e => h (Eq.symm e))
  · exact ruDecode_shut s w hs ho
end Go.Proofs.Ytkmlmondhmpkkaa.W
end
section
namespace Go.Proofs.Ytkmlmondhmpkkaa.W
open Go.RowKit
open Go.Proofs.Ytkmlmondhmpkkaa.M Go.Proofs.Ytkmlmondhmpkkaa.D Go.Proofs.Ytkmlmondhmpkkaa.Z
set_option linter.unusedVariables false

set_option maxRecDepth 100000 in
set_option maxHeartbeats 2000000 in
theorem rpick_RRg (a b : ByteArray) {a0 a1 a2 a3 a4 b0 b1 b2 b3 b4 : Nat} (w : World) (hda : ∀ W : World, Calls Try.prog 18 #[.string a] W fun x w' => x = .returned (.agg #[.int .u32 a0, .int .u32 a1, .int .u32 a2, .int .u32 a3, .int .u32 a4, .bool true]) ∧ Below W.heap.size W w') (hdb : ∀ W : World, Calls Try.prog 18 #[.string b] W fun x w' => x = .returned (.agg #[.int .u32 b0, .int .u32 b1, .int .u32 b2, .int .u32 b3, .int .u32 b4, .bool true]) ∧ Below W.heap.size W w') (pa : ((a0 : Int) % 2 == 0) = true) (pb : ((b0 : Int) % 2 == 1) = true) (hg : decide (b0 < a0) = true) :
    Calls Try.prog 24 #[.string a, .string b] w fun x w' => x = .returned (.agg #[.int .u32 a0, .int .u32 a1, .int .u32 a2, .int .u32 a3, .int .u32 a4, .bool true]) ∧ Below w.heap.size w w' := by
  replace hda := Lib.hid hda
  replace hdb := Lib.hid hdb
  go_enter Try.func24, Try.ntmps24
  go_wp2_with fail
  have hR := Whole.new w 50 [.int .u32 0, .int .u32 0, .int .u32 0, .int .u32 0, .int .u32 0, .bool false]
  have hB := (Below.refl w.heap.size w).alloc (Nat.le_refl _) (.cells #[.int .u32 0, .int .u32 0, .int .u32 0, .int .u32 0, .int .u32 0, .bool false] 50)
  refine (hda.out _).mono ?_
  rintro ee w1 ⟨rfl, hb1⟩
  replace hR := (hR.below hb1 hR.lt).alloc (.cells #[.int .u32 a0, .int .u32 a1, .int .u32 a2, .int .u32 a3, .int .u32 a4, .bool true] 50)
  replace hB := grewAlloc (grew hB hb1) (.cells #[.int .u32 a0, .int .u32 a1, .int .u32 a2, .int .u32 a3, .int .u32 a4, .bool true] 50)
  have hX := Whole.new w1 50 [.int .u32 a0, .int .u32 a1, .int .u32 a2, .int .u32 a3, .int .u32 a4, .bool true]
  clear hb1
  go_wp2_with fail
  refine (hdb.out _).mono ?_
  rintro ee w2 ⟨rfl, hb2⟩
  replace hR := Lib.hid ((hR.below hb2 hR.lt).alloc (.cells #[.int .u32 b0, .int .u32 b1, .int .u32 b2, .int .u32 b3, .int .u32 b4, .bool true] 50))
  replace hB := Lib.hid (grewAlloc (grew hB hb2) (.cells #[.int .u32 b0, .int .u32 b1, .int .u32 b2, .int .u32 b3, .int .u32 b4, .bool true] 50))
  replace hX := (hX.below hb2 hX.lt).alloc (.cells #[.int .u32 b0, .int .u32 b1, .int .u32 b2, .int .u32 b3, .int .u32 b4, .bool true] 50)
  have hY := Whole.new w2 50 [.int .u32 b0, .int .u32 b1, .int .u32 b2, .int .u32 b3, .int .u32 b4, .bool true]
  clear hb2
  generalize w1.heap.size = ab at *
  have x0 := hX.cell 0
  have x5 := hX.cell 5
  simp only [List.getElem?_cons_zero, List.getElem?_cons_succ] at x0 x5
  go_wp2_with (with_reducible refine zLoad 50 _ rfl ?_)
  refine Lib.hid ?_
  refine wpList_load_mid rfl 50 _ rfl ab 0 rfl [.int .u32 a0, .int .u32 a1, .int .u32 a2, .int .u32 a3, .int .u32 a4, .bool true] _ hX.range Try.underlying50 rfl sizeG6 ?_
  go_wp2_with (with_reducible refine zStore 50 _ _ rfl ?_)
  refine Lib.hid ?_
  refine wpList_store_mid rfl 50 _ _ rfl w.heap.size 0 #[.int .u32 a0, .int .u32 a1, .int .u32 a2, .int .u32 a3, .int .u32 a4, .bool true] rfl rfl (hR.out.there 0 6 (by simp)) sizeG6 (by simp [Value.oneCell']) ?_
  go_wp2_with fail
  have hfin := whole_all hR.out (vs := [.int .u32 a0, .int .u32 a1, .int .u32 a2, .int .u32 a3, .int .u32 a4, .bool true]) rfl
  exact bodyPost_ret (result_cell Try.results24 rfl hfin.range Try.underlying50 rfl sizeG6) rfl ⟨rfl, below_store hB.out (Nat.le_refl _) (Nat.le_refl _) 0 _⟩
set_option maxRecDepth 100000 in
set_option maxHeartbeats 2000000 in
theorem rpick_RRl (a b : ByteArray) {a0 a1 a2 a3 a4 b0 b1 b2 b3 b4 : Nat} (w : World) (hda : ∀ W : World, Calls Try.prog 18 #[.string a] W fun x w' => x = .returned (.agg #[.int .u32 a0, .int .u32 a1, .int .u32 a2, .int .u32 a3, .int .u32 a4, .bool true]) ∧ Below W.heap.size W w') (hdb : ∀ W : World, Calls Try.prog 18 #[.string b] W fun x w' => x = .returned (.agg #[.int .u32 b0, .int .u32 b1, .int .u32 b2, .int .u32 b3, .int .u32 b4, .bool true]) ∧ Below W.heap.size W w') (pa : ((a0 : Int) % 2 == 0) = true) (pb : ((b0 : Int) % 2 == 1) = true) (hg : decide (b0 < a0) = false) :
    Calls Try.prog 24 #[.string a, .string b] w fun x w' => x = .returned (.agg #[.int .u32 b0, .int .u32 b1, .int .u32 b2, .int .u32 b3, .int .u32 b4, .bool true]) ∧ Below w.heap.size w w' := by
  replace hda := Lib.hid hda
  replace hdb := Lib.hid hdb
  go_enter Try.func24, Try.ntmps24
  go_wp2_with fail
  have hR := Whole.new w 50 [.int .u32 0, .int .u32 0, .int .u32 0, .int .u32 0, .int .u32 0, .bool false]
  have hB := (Below.refl w.heap.size w).alloc (Nat.le_refl _) (.cells #[.int .u32 0, .int .u32 0, .int .u32 0, .int .u32 0, .int .u32 0, .bool false] 50)
  refine (hda.out _).mono ?_
  rintro ee w1 ⟨rfl, hb1⟩
  replace hR := (hR.below hb1 hR.lt).alloc (.cells #[.int .u32 a0, .int .u32 a1, .int .u32 a2, .int .u32 a3, .int .u32 a4, .bool true] 50)
  replace hB := grewAlloc (grew hB hb1) (.cells #[.int .u32 a0, .int .u32 a1, .int .u32 a2, .int .u32 a3, .int .u32 a4, .bool true] 50)
  have hX := Whole.new w1 50 [.int .u32 a0, .int .u32 a1, .int .u32 a2, .int .u32 a3, .int .u32 a4, .bool true]
  clear hb1
  go_wp2_with fail
  refine (hdb.out _).mono ?_
  rintro ee w2 ⟨rfl, hb2⟩
  replace hR := Lib.hid ((hR.below hb2 hR.lt).alloc (.cells #[.int .u32 b0, .int .u32 b1, .int .u32 b2, .int .u32 b3, .int .u32 b4, .bool true] 50))
  replace hB := Lib.hid (grewAlloc (grew hB hb2) (.cells #[.int .u32 b0, .int .u32 b1, .int .u32 b2, .int .u32 b3, .int .u32 b4, .bool true] 50))
  replace hX := (hX.below hb2 hX.lt).alloc (.cells #[.int .u32 b0, .int .u32 b1, .int .u32 b2, .int .u32 b3, .int .u32 b4, .bool true] 50)
  have hY := Whole.new w2 50 [.int .u32 b0, .int .u32 b1, .int .u32 b2, .int .u32 b3, .int .u32 b4, .bool true]
  clear hb2
  generalize w1.heap.size = ab at *
  have x0 := hX.cell 0
  have x5 := hX.cell 5
  simp only [List.getElem?_cons_zero, List.getElem?_cons_succ] at x0 x5
  go_wp2_with (with_reducible refine zLoad 50 _ rfl ?_)
  refine Lib.hid ?_
  refine wpList_load_mid rfl 50 _ rfl w2.heap.size 0 rfl [.int .u32 b0, .int .u32 b1, .int .u32 b2, .int .u32 b3, .int .u32 b4, .bool true] _ hY.range Try.underlying50 rfl sizeG6 ?_
  go_wp2_with (with_reducible refine zStore 50 _ _ rfl ?_)
  refine Lib.hid ?_
  refine wpList_store_mid rfl 50 _ _ rfl w.heap.size 0 #[.int .u32 b0, .int .u32 b1, .int .u32 b2, .int .u32 b3, .int .u32 b4, .bool true] rfl rfl (hR.out.there 0 6 (by simp)) sizeG6 (by simp [Value.oneCell']) ?_
  go_wp2_with fail
  have hfin := whole_all hR.out (vs := [.int .u32 b0, .int .u32 b1, .int .u32 b2, .int .u32 b3, .int .u32 b4, .bool true]) rfl
  exact bodyPost_ret (result_cell Try.results24 rfl hfin.range Try.underlying50 rfl sizeG6) rfl ⟨rfl, below_store hB.out (Nat.le_refl _) (Nat.le_refl _) 0 _⟩
set_option maxRecDepth 100000 in
set_option maxHeartbeats 2000000 in
theorem rpick_RN (a b : ByteArray) {a0 a1 a2 a3 a4 : Nat} (w : World) (hda : ∀ W : World, Calls Try.prog 18 #[.string a] W fun x w' => x = .returned (.agg #[.int .u32 a0, .int .u32 a1, .int .u32 a2, .int .u32 a3, .int .u32 a4, .bool true]) ∧ Below W.heap.size W w') (hdb : ∀ W : World, Calls Try.prog 18 #[.string b] W fun x w' => x = .returned (.agg #[.int .u32 0, .int .u32 0, .int .u32 0, .int .u32 0, .int .u32 0, .bool false]) ∧ Below W.heap.size W w') (pa : ((a0 : Int) % 2 == 0) = true) :
    Calls Try.prog 24 #[.string a, .string b] w fun x w' => x = .returned (.agg #[.int .u32 a0, .int .u32 a1, .int .u32 a2, .int .u32 a3, .int .u32 a4, .bool true]) ∧ Below w.heap.size w w' := by
  replace hda := Lib.hid hda
  replace hdb := Lib.hid hdb
  go_enter Try.func24, Try.ntmps24
  go_wp2_with fail
  have hR := Whole.new w 50 [.int .u32 0, .int .u32 0, .int .u32 0, .int .u32 0, .int .u32 0, .bool false]
  have hB := (Below.refl w.heap.size w).alloc (Nat.le_refl _) (.cells #[.int .u32 0, .int .u32 0, .int .u32 0, .int .u32 0, .int .u32 0, .bool false] 50)
  refine (hda.out _).mono ?_
  rintro ee w1 ⟨rfl, hb1⟩
  replace hR := (hR.below hb1 hR.lt).alloc (.cells #[.int .u32 a0, .int .u32 a1, .int .u32 a2, .int .u32 a3, .int .u32 a4, .bool true] 50)
  replace hB := grewAlloc (grew hB hb1) (.cells #[.int .u32 a0, .int .u32 a1, .int .u32 a2, .int .u32 a3, .int .u32 a4, .bool true] 50)
  have hX := Whole.new w1 50 [.int .u32 a0, .int .u32 a1, .int .u32 a2, .int .u32 a3, .int .u32 a4, .bool true]
  clear hb1
  go_wp2_with fail
  refine (hdb.out _).mono ?_
  rintro ee w2 ⟨rfl, hb2⟩
  replace hR := Lib.hid ((hR.below hb2 hR.lt).alloc (.cells #[.int .u32 0, .int .u32 0, .int .u32 0, .int .u32 0, .int .u32 0, .bool false] 50))
  replace hB := Lib.hid (grewAlloc (grew hB hb2) (.cells #[.int .u32 0, .int .u32 0, .int .u32 0, .int .u32 0, .int .u32 0, .bool false] 50))
  replace hX := (hX.below hb2 hX.lt).alloc (.cells #[.int .u32 0, .int .u32 0, .int .u32 0, .int .u32 0, .int .u32 0, .bool false] 50)
  have hY := Whole.new w2 50 [.int .u32 0, .int .u32 0, .int .u32 0, .int .u32 0, .int .u32 0, .bool false]
  clear hb2
  generalize w1.heap.size = ab at *
  have x0 := hX.cell 0
  have x5 := hX.cell 5
  simp only [List.getElem?_cons_zero, List.getElem?_cons_succ] at x0 x5
  go_wp2_with (with_reducible refine zLoad 50 _ rfl ?_)
  refine Lib.hid ?_
  refine wpList_load_mid rfl 50 _ rfl ab 0 rfl [.int .u32 a0, .int .u32 a1, .int .u32 a2, .int .u32 a3, .int .u32 a4, .bool true] _ hX.range Try.underlying50 rfl sizeG6 ?_
  go_wp2_with (with_reducible refine zStore 50 _ _ rfl ?_)
  refine Lib.hid ?_
  refine wpList_store_mid rfl 50 _ _ rfl w.heap.size 0 #[.int .u32 a0, .int .u32 a1, .int .u32 a2, .int .u32 a3, .int .u32 a4, .bool true] rfl rfl (hR.out.there 0 6 (by simp)) sizeG6 (by simp [Value.oneCell']) ?_
  go_wp2_with fail
  have hfin := whole_all hR.out (vs := [.int .u32 a0, .int .u32 a1, .int .u32 a2, .int .u32 a3, .int .u32 a4, .bool true]) rfl
  exact bodyPost_ret (result_cell Try.results24 rfl hfin.range Try.underlying50 rfl sizeG6) rfl ⟨rfl, below_store hB.out (Nat.le_refl _) (Nat.le_refl _) 0 _⟩
set_option maxRecDepth 100000 in
set_option maxHeartbeats 2000000 in
theorem rpick_RW (a b : ByteArray) {a0 a1 a2 a3 a4 b0 b1 b2 b3 b4 : Nat} (w : World) (hda : ∀ W : World, Calls Try.prog 18 #[.string a] W fun x w' => x = .returned (.agg #[.int .u32 a0, .int .u32 a1, .int .u32 a2, .int .u32 a3, .int .u32 a4, .bool true]) ∧ Below W.heap.size W w') (hdb : ∀ W : World, Calls Try.prog 18 #[.string b] W fun x w' => x = .returned (.agg #[.int .u32 b0, .int .u32 b1, .int .u32 b2, .int .u32 b3, .int .u32 b4, .bool true]) ∧ Below W.heap.size W w') (pa : ((a0 : Int) % 2 == 0) = true) (pb : ((b0 : Int) % 2 == 1) = false) :
    Calls Try.prog 24 #[.string a, .string b] w fun x w' => x = .returned (.agg #[.int .u32 a0, .int .u32 a1, .int .u32 a2, .int .u32 a3, .int .u32 a4, .bool true]) ∧ Below w.heap.size w w' := by
  replace hda := Lib.hid hda
  replace hdb := Lib.hid hdb
  go_enter Try.func24, Try.ntmps24
  go_wp2_with fail
  have hR := Whole.new w 50 [.int .u32 0, .int .u32 0, .int .u32 0, .int .u32 0, .int .u32 0, .bool false]
  have hB := (Below.refl w.heap.size w).alloc (Nat.le_refl _) (.cells #[.int .u32 0, .int .u32 0, .int .u32 0, .int .u32 0, .int .u32 0, .bool false] 50)
  refine (hda.out _).mono ?_
  rintro ee w1 ⟨rfl, hb1⟩
  replace hR := (hR.below hb1 hR.lt).alloc (.cells #[.int .u32 a0, .int .u32 a1, .int .u32 a2, .int .u32 a3, .int .u32 a4, .bool true] 50)
  replace hB := grewAlloc (grew hB hb1) (.cells #[.int .u32 a0, .int .u32 a1, .int .u32 a2, .int .u32 a3, .int .u32 a4, .bool true] 50)
  have hX := Whole.new w1 50 [.int .u32 a0, .int .u32 a1, .int .u32 a2, .int .u32 a3, .int .u32 a4, .bool true]
  clear hb1
  go_wp2_with fail
  refine (hdb.out _).mono ?_
  rintro ee w2 ⟨rfl, hb2⟩
  replace hR := Lib.hid ((hR.below hb2 hR.lt).alloc (.cells #[.int .u32 b0, .int .u32 b1, .int .u32 b2, .int .u32 b3, .int .u32 b4, .bool true] 50))
  replace hB := Lib.hid (grewAlloc (grew hB hb2) (.cells #[.int .u32 b0, .int .u32 b1, .int .u32 b2, .int .u32 b3, .int .u32 b4, .bool true] 50))
  replace hX := (hX.below hb2 hX.lt).alloc (.cells #[.int .u32 b0, .int .u32 b1, .int .u32 b2, .int .u32 b3, .int .u32 b4, .bool true] 50)
  have hY := Whole.new w2 50 [.int .u32 b0, .int .u32 b1, .int .u32 b2, .int .u32 b3, .int .u32 b4, .bool true]
  clear hb2
  generalize w1.heap.size = ab at *
  have x0 := hX.cell 0
  have x5 := hX.cell 5
  simp only [List.getElem?_cons_zero, List.getElem?_cons_succ] at x0 x5
  go_wp2_with (with_reducible refine zLoad 50 _ rfl ?_)
  refine Lib.hid ?_
  refine wpList_load_mid rfl 50 _ rfl ab 0 rfl [.int .u32 a0, .int .u32 a1, .int .u32 a2, .int .u32 a3, .int .u32 a4, .bool true] _ hX.range Try.underlying50 rfl sizeG6 ?_
  go_wp2_with (with_reducible refine zStore 50 _ _ rfl ?_)
  refine Lib.hid ?_
  refine wpList_store_mid rfl 50 _ _ rfl w.heap.size 0 #[.int .u32 a0, .int .u32 a1, .int .u32 a2, .int .u32 a3, .int .u32 a4, .bool true] rfl rfl (hR.out.there 0 6 (by simp)) sizeG6 (by simp [Value.oneCell']) ?_
  go_wp2_with fail
  have hfin := whole_all hR.out (vs := [.int .u32 a0, .int .u32 a1, .int .u32 a2, .int .u32 a3, .int .u32 a4, .bool true]) rfl
  exact bodyPost_ret (result_cell Try.results24 rfl hfin.range Try.underlying50 rfl sizeG6) rfl ⟨rfl, below_store hB.out (Nat.le_refl _) (Nat.le_refl _) 0 _⟩
set_option maxRecDepth 100000 in
set_option maxHeartbeats 2000000 in
theorem rpick_NR (a b : ByteArray) {b0 b1 b2 b3 b4 : Nat} (w : World) (hda : ∀ W : World, Calls Try.prog 18 #[.string a] W fun x w' => x = .returned (.agg #[.int .u32 0, .int .u32 0, .int .u32 0, .int .u32 0, .int .u32 0, .bool false]) ∧ Below W.heap.size W w') (hdb : ∀ W : World, Calls Try.prog 18 #[.string b] W fun x w' => x = .returned (.agg #[.int .u32 b0, .int .u32 b1, .int .u32 b2, .int .u32 b3, .int .u32 b4, .bool true]) ∧ Below W.heap.size W w') (pb : ((b0 : Int) % 2 == 1) = true) :
    Calls Try.prog 24 #[.string a, .string b] w fun x w' => x = .returned (.agg #[.int .u32 b0, .int .u32 b1, .int .u32 b2, .int .u32 b3, .int .u32 b4, .bool true]) ∧ Below w.heap.size w w' := by
  replace hda := Lib.hid hda
  replace hdb := Lib.hid hdb
  go_enter Try.func24, Try.ntmps24
  go_wp2_with fail
  have hR := Whole.new w 50 [.int .u32 0, .int .u32 0, .int .u32 0, .int .u32 0, .int .u32 0, .bool false]
  have hB := (Below.refl w.heap.size w).alloc (Nat.le_refl _) (.cells #[.int .u32 0, .int .u32 0, .int .u32 0, .int .u32 0, .int .u32 0, .bool false] 50)
  refine (hda.out _).mono ?_
  rintro ee w1 ⟨rfl, hb1⟩
  replace hR := (hR.below hb1 hR.lt).alloc (.cells #[.int .u32 0, .int .u32 0, .int .u32 0, .int .u32 0, .int .u32 0, .bool false] 50)
  replace hB := grewAlloc (grew hB hb1) (.cells #[.int .u32 0, .int .u32 0, .int .u32 0, .int .u32 0, .int .u32 0, .bool false] 50)
  have hX := Whole.new w1 50 [.int .u32 0, .int .u32 0, .int .u32 0, .int .u32 0, .int .u32 0, .bool false]
  clear hb1
  go_wp2_with fail
  refine (hdb.out _).mono ?_
  rintro ee w2 ⟨rfl, hb2⟩
  replace hR := Lib.hid ((hR.below hb2 hR.lt).alloc (.cells #[.int .u32 b0, .int .u32 b1, .int .u32 b2, .int .u32 b3, .int .u32 b4, .bool true] 50))
  replace hB := Lib.hid (grewAlloc (grew hB hb2) (.cells #[.int .u32 b0, .int .u32 b1, .int .u32 b2, .int .u32 b3, .int .u32 b4, .bool true] 50))
  replace hX := (hX.below hb2 hX.lt).alloc (.cells #[.int .u32 b0, .int .u32 b1, .int .u32 b2, .int .u32 b3, .int .u32 b4, .bool true] 50)
  have hY := Whole.new w2 50 [.int .u32 b0, .int .u32 b1, .int .u32 b2, .int .u32 b3, .int .u32 b4, .bool true]
  clear hb2
  generalize w1.heap.size = ab at *
  have x0 := hX.cell 0
  have x5 := hX.cell 5
  simp only [List.getElem?_cons_zero, List.getElem?_cons_succ] at x0 x5
  go_wp2_with (with_reducible refine zLoad 50 _ rfl ?_)
  refine Lib.hid ?_
  refine wpList_load_mid rfl 50 _ rfl w2.heap.size 0 rfl [.int .u32 b0, .int .u32 b1, .int .u32 b2, .int .u32 b3, .int .u32 b4, .bool true] _ hY.range Try.underlying50 rfl sizeG6 ?_
  go_wp2_with (with_reducible refine zStore 50 _ _ rfl ?_)
  refine Lib.hid ?_
  refine wpList_store_mid rfl 50 _ _ rfl w.heap.size 0 #[.int .u32 b0, .int .u32 b1, .int .u32 b2, .int .u32 b3, .int .u32 b4, .bool true] rfl rfl (hR.out.there 0 6 (by simp)) sizeG6 (by simp [Value.oneCell']) ?_
  go_wp2_with fail
  have hfin := whole_all hR.out (vs := [.int .u32 b0, .int .u32 b1, .int .u32 b2, .int .u32 b3, .int .u32 b4, .bool true]) rfl
  exact bodyPost_ret (result_cell Try.results24 rfl hfin.range Try.underlying50 rfl sizeG6) rfl ⟨rfl, below_store hB.out (Nat.le_refl _) (Nat.le_refl _) 0 _⟩
set_option maxRecDepth 100000 in
set_option maxHeartbeats 2000000 in
theorem rpick_WR (a b : ByteArray) {a0 a1 a2 a3 a4 b0 b1 b2 b3 b4 : Nat} (w : World) (hda : ∀ W : World, Calls Try.prog 18 #[.string a] W fun x w' => x = .returned (.agg #[.int .u32 a0, .int .u32 a1, .int .u32 a2, .int .u32 a3, .int .u32 a4, .bool true]) ∧ Below W.heap.size W w') (hdb : ∀ W : World, Calls Try.prog 18 #[.string b] W fun x w' => x = .returned (.agg #[.int .u32 b0, .int .u32 b1, .int .u32 b2, .int .u32 b3, .int .u32 b4, .bool true]) ∧ Below W.heap.size W w') (pa : ((a0 : Int) % 2 == 0) = false) (pb : ((b0 : Int) % 2 == 1) = true) :
    Calls Try.prog 24 #[.string a, .string b] w fun x w' => x = .returned (.agg #[.int .u32 b0, .int .u32 b1, .int .u32 b2, .int .u32 b3, .int .u32 b4, .bool true]) ∧ Below w.heap.size w w' := by
  replace hda := Lib.hid hda
  replace hdb := Lib.hid hdb
  go_enter Try.func24, Try.ntmps24
  go_wp2_with fail
  have hR := Whole.new w 50 [.int .u32 0, .int .u32 0, .int .u32 0, .int .u32 0, .int .u32 0, .bool false]
  have hB := (Below.refl w.heap.size w).alloc (Nat.le_refl _) (.cells #[.int .u32 0, .int .u32 0, .int .u32 0, .int .u32 0, .int .u32 0, .bool false] 50)
  refine (hda.out _).mono ?_
  rintro ee w1 ⟨rfl, hb1⟩
  replace hR := (hR.below hb1 hR.lt).alloc (.cells #[.int .u32 a0, .int .u32 a1, .int .u32 a2, .int .u32 a3, .int .u32 a4, .bool true] 50)
  replace hB := grewAlloc (grew hB hb1) (.cells #[.int .u32 a0, .int .u32 a1, .int .u32 a2, .int .u32 a3, .int .u32 a4, .bool true] 50)
  have hX := Whole.new w1 50 [.int .u32 a0, .int .u32 a1, .int .u32 a2, .int .u32 a3, .int .u32 a4, .bool true]
  clear hb1
  go_wp2_with fail
  refine (hdb.out _).mono ?_
  rintro ee w2 ⟨rfl, hb2⟩
  replace hR := Lib.hid ((hR.below hb2 hR.lt).alloc (.cells #[.int .u32 b0, .int .u32 b1, .int .u32 b2, .int .u32 b3, .int .u32 b4, .bool true] 50))
  replace hB := Lib.hid (grewAlloc (grew hB hb2) (.cells #[.int .u32 b0, .int .u32 b1, .int .u32 b2, .int .u32 b3, .int .u32 b4, .bool true] 50))
  replace hX := (hX.below hb2 hX.lt).alloc (.cells #[.int .u32 b0, .int .u32 b1, .int .u32 b2, .int .u32 b3, .int .u32 b4, .bool true] 50)
  have hY := Whole.new w2 50 [.int .u32 b0, .int .u32 b1, .int .u32 b2, .int .u32 b3, .int .u32 b4, .bool true]
  clear hb2
  generalize w1.heap.size = ab at *
  have x0 := hX.cell 0
  have x5 := hX.cell 5
  simp only [List.getElem?_cons_zero, List.getElem?_cons_succ] at x0 x5
  go_wp2_with (with_reducible refine zLoad 50 _ rfl ?_)
  refine Lib.hid ?_
  refine wpList_load_mid rfl 50 _ rfl w2.heap.size 0 rfl [.int .u32 b0, .int .u32 b1, .int .u32 b2, .int .u32 b3, .int .u32 b4, .bool true] _ hY.range Try.underlying50 rfl sizeG6 ?_
  go_wp2_with (with_reducible refine zStore 50 _ _ rfl ?_)
  refine Lib.hid ?_
  refine wpList_store_mid rfl 50 _ _ rfl w.heap.size 0 #[.int .u32 b0, .int .u32 b1, .int .u32 b2, .int .u32 b3, .int .u32 b4, .bool true] rfl rfl (hR.out.there 0 6 (by simp)) sizeG6 (by simp [Value.oneCell']) ?_
  go_wp2_with fail
  have hfin := whole_all hR.out (vs := [.int .u32 b0, .int .u32 b1, .int .u32 b2, .int .u32 b3, .int .u32 b4, .bool true]) rfl
  exact bodyPost_ret (result_cell Try.results24 rfl hfin.range Try.underlying50 rfl sizeG6) rfl ⟨rfl, below_store hB.out (Nat.le_refl _) (Nat.le_refl _) 0 _⟩
set_option maxRecDepth 100000 in
set_option maxHeartbeats 2000000 in
theorem rpick_NN (a b : ByteArray) (w : World) (hda : ∀ W : World, Calls Try.prog 18 #[.string a] W fun x w' => x = .returned (.agg #[.int .u32 0, .int .u32 0, .int .u32 0, .int .u32 0, .int .u32 0, .bool false]) ∧ Below W.heap.size W w') (hdb : ∀ W : World, Calls Try.prog 18 #[.string b] W fun x w' => x = .returned (.agg #[.int .u32 0, .int .u32 0, .int .u32 0, .int .u32 0, .int .u32 0, .bool false]) ∧ Below W.heap.size W w')  :
    Calls Try.prog 24 #[.string a, .string b] w fun x w' => x = .returned (.agg #[.int .u32 0, .int .u32 0, .int .u32 0, .int .u32 0, .int .u32 0, .bool false]) ∧ Below w.heap.size w w' := by
  replace hda := Lib.hid hda
  replace hdb := Lib.hid hdb
  go_enter Try.func24, Try.ntmps24
  go_wp2_with fail
  have hR := Whole.new w 50 [.int .u32 0, .int .u32 0, .int .u32 0, .int .u32 0, .int .u32 0, .bool false]
  have hB := (Below.refl w.heap.size w).alloc (Nat.le_refl _) (.cells #[.int .u32 0, .int .u32 0, .int .u32 0, .int .u32 0, .int .u32 0, .bool false] 50)
  refine (hda.out _).mono ?_
  rintro ee w1 ⟨rfl, hb1⟩
  replace hR := (hR.below hb1 hR.lt).alloc (.cells #[.int .u32 0, .int .u32 0, .int .u32 0, .int .u32 0, .int .u32 0, .bool false] 50)
  replace hB := grewAlloc (grew hB hb1) (.cells #[.int .u32 0, .int .u32 0, .int .u32 0, .int .u32 0, .int .u32 0, .bool false] 50)
  have hX := Whole.new w1 50 [.int .u32 0, .int .u32 0, .int .u32 0, .int .u32 0, .int .u32 0, .bool false]
  clear hb1
  go_wp2_with fail
  refine (hdb.out _).mono ?_
  rintro ee w2 ⟨rfl, hb2⟩
  replace hR := Lib.hid ((hR.below hb2 hR.lt).alloc (.cells #[.int .u32 0, .int .u32 0, .int .u32 0, .int .u32 0, .int .u32 0, .bool false] 50))
  replace hB := Lib.hid (grewAlloc (grew hB hb2) (.cells #[.int .u32 0, .int .u32 0, .int .u32 0, .int .u32 0, .int .u32 0, .bool false] 50))
  replace hX := (hX.below hb2 hX.lt).alloc (.cells #[.int .u32 0, .int .u32 0, .int .u32 0, .int .u32 0, .int .u32 0, .bool false] 50)
  have hY := Whole.new w2 50 [.int .u32 0, .int .u32 0, .int .u32 0, .int .u32 0, .int .u32 0, .bool false]
  clear hb2
  generalize w1.heap.size = ab at *
  have x0 := hX.cell 0
  have x5 := hX.cell 5
  simp only [List.getElem?_cons_zero, List.getElem?_cons_succ] at x0 x5
  go_wp2_with (with_reducible refine zLoad 4 _ rfl ?_)
  refine Lib.hid ?_
  go_wp2_with (with_reducible refine zStore 50 _ _ rfl ?_)
  refine Lib.hid ?_
  refine wpList_store_mid rfl 50 _ _ rfl w.heap.size 0 #[.int .u32 0, .int .u32 0, .int .u32 0, .int .u32 0, .int .u32 0, .bool false] rfl rfl (hR.out.there 0 6 (by simp)) sizeG6 (by simp [Value.oneCell']) ?_
  go_wp2_with fail
  have hfin := whole_all hR.out (vs := [.int .u32 0, .int .u32 0, .int .u32 0, .int .u32 0, .int .u32 0, .bool false]) rfl
  exact bodyPost_ret (result_cell Try.results24 rfl hfin.range Try.underlying50 rfl sizeG6) rfl ⟨rfl, below_store hB.out (Nat.le_refl _) (Nat.le_refl _) 0 _⟩
set_option maxRecDepth 100000 in
set_option maxHeartbeats 2000000 in
theorem rpick_NW (a b : ByteArray) {b0 b1 b2 b3 b4 : Nat} (w : World) (hda : ∀ W : World, Calls Try.prog 18 #[.string a] W fun x w' => x = .returned (.agg #[.int .u32 0, .int .u32 0, .int .u32 0, .int .u32 0, .int .u32 0, .bool false]) ∧ Below W.heap.size W w') (hdb : ∀ W : World, Calls Try.prog 18 #[.string b] W fun x w' => x = .returned (.agg #[.int .u32 b0, .int .u32 b1, .int .u32 b2, .int .u32 b3, .int .u32 b4, .bool true]) ∧ Below W.heap.size W w') (pb : ((b0 : Int) % 2 == 1) = false) :
    Calls Try.prog 24 #[.string a, .string b] w fun x w' => x = .returned (.agg #[.int .u32 0, .int .u32 0, .int .u32 0, .int .u32 0, .int .u32 0, .bool false]) ∧ Below w.heap.size w w' := by
  replace hda := Lib.hid hda
  replace hdb := Lib.hid hdb
  go_enter Try.func24, Try.ntmps24
  go_wp2_with fail
  have hR := Whole.new w 50 [.int .u32 0, .int .u32 0, .int .u32 0, .int .u32 0, .int .u32 0, .bool false]
  have hB := (Below.refl w.heap.size w).alloc (Nat.le_refl _) (.cells #[.int .u32 0, .int .u32 0, .int .u32 0, .int .u32 0, .int .u32 0, .bool false] 50)
  refine (hda.out _).mono ?_
  rintro ee w1 ⟨rfl, hb1⟩
  replace hR := (hR.below hb1 hR.lt).alloc (.cells #[.int .u32 0, .int .u32 0, .int .u32 0, .int .u32 0, .int .u32 0, .bool false] 50)
  replace hB := grewAlloc (grew hB hb1) (.cells #[.int .u32 0, .int .u32 0, .int .u32 0, .int .u32 0, .int .u32 0, .bool false] 50)
  have hX := Whole.new w1 50 [.int .u32 0, .int .u32 0, .int .u32 0, .int .u32 0, .int .u32 0, .bool false]
  clear hb1
  go_wp2_with fail
  refine (hdb.out _).mono ?_
  rintro ee w2 ⟨rfl, hb2⟩
  replace hR := Lib.hid ((hR.below hb2 hR.lt).alloc (.cells #[.int .u32 b0, .int .u32 b1, .int .u32 b2, .int .u32 b3, .int .u32 b4, .bool true] 50))
  replace hB := Lib.hid (grewAlloc (grew hB hb2) (.cells #[.int .u32 b0, .int .u32 b1, .int .u32 b2, .int .u32 b3, .int .u32 b4, .bool true] 50))
  replace hX := (hX.below hb2 hX.lt).alloc (.cells #[.int .u32 b0, .int .u32 b1, .int .u32 b2, .int .u32 b3, .int .u32 b4, .bool true] 50)
  have hY := Whole.new w2 50 [.int .u32 b0, .int .u32 b1, .int .u32 b2, .int .u32 b3, .int .u32 b4, .bool true]
  clear hb2
  generalize w1.heap.size = ab at *
  have x0 := hX.cell 0
  have x5 := hX.cell 5
  simp only [List.getElem?_cons_zero, List.getElem?_cons_succ] at x0 x5
  go_wp2_with (with_reducible refine zLoad 4 _ rfl ?_)
  refine Lib.hid ?_
  go_wp2_with (with_reducible refine zStore 50 _ _ rfl ?_)
  refine Lib.hid ?_
  refine wpList_store_mid rfl 50 _ _ rfl w.heap.size 0 #[.int .u32 0, .int .u32 0, .int .u32 0, .int .u32 0, .int .u32 0, .bool false] rfl rfl (hR.out.there 0 6 (by simp)) sizeG6 (by simp [Value.oneCell']) ?_
  go_wp2_with fail
  have hfin := whole_all hR.out (vs := [.int .u32 0, .int .u32 0, .int .u32 0, .int .u32 0, .int .u32 0, .bool false]) rfl
  exact bodyPost_ret (result_cell Try.results24 rfl hfin.range Try.underlying50 rfl sizeG6) rfl ⟨rfl, below_store hB.out (Nat.le_refl _) (Nat.le_refl _) 0 _⟩
set_option maxRecDepth 100000 in
set_option maxHeartbeats 2000000 in
theorem rpick_WN (a b : ByteArray) {a0 a1 a2 a3 a4 : Nat} (w : World) (hda : ∀ W : World, Calls Try.prog 18 #[.string a] W fun x w' => x = .returned (.agg #[.int .u32 a0, .int .u32 a1, .int .u32 a2, .int .u32 a3, .int .u32 a4, .bool true]) ∧ Below W.heap.size W w') (hdb : ∀ W : World, Calls Try.prog 18 #[.string b] W fun x w' => x = .returned (.agg #[.int .u32 0, .int .u32 0, .int .u32 0, .int .u32 0, .int .u32 0, .bool false]) ∧ Below W.heap.size W w') (pa : ((a0 : Int) % 2 == 0) = false) :
    Calls Try.prog 24 #[.string a, .string b] w fun x w' => x = .returned (.agg #[.int .u32 0, .int .u32 0, .int .u32 0, .int .u32 0, .int .u32 0, .bool false]) ∧ Below w.heap.size w w' := by
  replace hda := Lib.hid hda
  replace hdb := Lib.hid hdb
  go_enter Try.func24, Try.ntmps24
  go_wp2_with fail
  have hR := Whole.new w 50 [.int .u32 0, .int .u32 0, .int .u32 0, .int .u32 0, .int .u32 0, .bool false]
  have hB := (Below.refl w.heap.size w).alloc (Nat.le_refl _) (.cells #[.int .u32 0, .int .u32 0, .int .u32 0, .int .u32 0, .int .u32 0, .bool false] 50)
  refine (hda.out _).mono ?_
  rintro ee w1 ⟨rfl, hb1⟩
  replace hR := (hR.below hb1 hR.lt).alloc (.cells #[.int .u32 a0, .int .u32 a1, .int .u32 a2, .int .u32 a3, .int .u32 a4, .bool true] 50)
  replace hB := grewAlloc (grew hB hb1) (.cells #[.int .u32 a0, .int .u32 a1, .int .u32 a2, .int .u32 a3, .int .u32 a4, .bool true] 50)
  have hX := Whole.new w1 50 [.int .u32 a0, .int .u32 a1, .int .u32 a2, .int .u32 a3, .int .u32 a4, .bool true]
  clear hb1
  go_wp2_with fail
  refine (hdb.out _).mono ?_
  rintro ee w2 ⟨rfl, hb2⟩
  replace hR := Lib.hid ((hR.below hb2 hR.lt).alloc (.cells #[.int .u32 0, .int .u32 0, .int .u32 0, .int .u32 0, .int .u32 0, .bool false] 50))
  replace hB := Lib.hid (grewAlloc (grew hB hb2) (.cells #[.int .u32 0, .int .u32 0, .int .u32 0, .int .u32 0, .int .u32 0, .bool false] 50))
  replace hX := (hX.below hb2 hX.lt).alloc (.cells #[.int .u32 0, .int .u32 0, .int .u32 0, .int .u32 0, .int .u32 0, .bool false] 50)
  have hY := Whole.new w2 50 [.int .u32 0, .int .u32 0, .int .u32 0, .int .u32 0, .int .u32 0, .bool false]
  clear hb2
  generalize w1.heap.size = ab at *
  have x0 := hX.cell 0
  have x5 := hX.cell 5
  simp only [List.getElem?_cons_zero, List.getElem?_cons_succ] at x0 x5
  go_wp2_with (with_reducible refine zLoad 4 _ rfl ?_)
  refine Lib.hid ?_
  go_wp2_with (with_reducible refine zStore 50 _ _ rfl ?_)
  refine Lib.hid ?_
  refine wpList_store_mid rfl 50 _ _ rfl w.heap.size 0 #[.int .u32 0, .int .u32 0, .int .u32 0, .int .u32 0, .int .u32 0, .bool false] rfl rfl (hR.out.there 0 6 (by simp)) sizeG6 (by simp [Value.oneCell']) ?_
  go_wp2_with fail
  have hfin := whole_all hR.out (vs := [.int .u32 0, .int .u32 0, .int .u32 0, .int .u32 0, .int .u32 0, .bool false]) rfl
  exact bodyPost_ret (result_cell Try.results24 rfl hfin.range Try.underlying50 rfl sizeG6) rfl ⟨rfl, below_store hB.out (Nat.le_refl _) (Nat.le_refl _) 0 _⟩
set_option maxRecDepth 100000 in
set_option maxHeartbeats 2000000 in
theorem rpick_WW (a b : ByteArray) {a0 a1 a2 a3 a4 b0 b1 b2 b3 b4 : Nat} (w : World) (hda : ∀ W : World, Calls Try.prog 18 #[.string a] W fun x w' => x = .returned (.agg #[.int .u32 a0, .int .u32 a1, .int .u32 a2, .int .u32 a3, .int .u32 a4, .bool true]) ∧ Below W.heap.size W w') (hdb : ∀ W : World, Calls Try.prog 18 #[.string b] W fun x w' => x = .returned (.agg #[.int .u32 b0, .int .u32 b1, .int .u32 b2, .int .u32 b3, .int .u32 b4, .bool true]) ∧ Below W.heap.size W w') (pa : ((a0 : Int) % 2 == 0) = false) (pb : ((b0 : Int) % 2 == 1) = false) :
    Calls Try.prog 24 #[.string a, .string b] w fun x w' => x = .returned (.agg #[.int .u32 0, .int .u32 0, .int .u32 0, .int .u32 0, .int .u32 0, .bool false]) ∧ Below w.heap.size w w' := by
  replace hda := Lib.hid hda
  replace hdb := Lib.hid hdb
  go_enter Try.func24, Try.ntmps24
  go_wp2_with fail
  have hR := Whole.new w 50 [.int .u32 0, .int .u32 0, .int .u32 0, .int .u32 0, .int .u32 0, .bool false]
  have hB := (Below.refl w.heap.size w).alloc (Nat.le_refl _) (.cells #[.int .u32 0, .int .u32 0, .int .u32 0, .int .u32 0, .int .u32 0, .bool false] 50)
  refine (hda.out _).mono ?_
  rintro ee w1 ⟨rfl, hb1⟩
  replace hR := (hR.below hb1 hR.lt).alloc (.cells #[.int .u32 a0, .int .u32 a1, .int .u32 a2, .int .u32 a3, .int .u32 a4, .bool true] 50)
  replace hB := grewAlloc (grew hB hb1) (.cells #[.int .u32 a0, .int .u32 a1, .int .u32 a2, .int .u32 a3, .int .u32 a4, .bool true] 50)
  have hX := Whole.new w1 50 [.int .u32 a0, .int .u32 a1, .int .u32 a2, .int .u32 a3, .int .u32 a4, .bool true]
  clear hb1
  go_wp2_with fail
  refine (hdb.out _).mono ?_
  rintro ee w2 ⟨rfl, hb2⟩
  replace hR := Lib.hid ((hR.below hb2 hR.lt).alloc (.cells #[.int .u32 b0, .int .u32 b1, .int .u32 b2, .int .u32 b3, .int .u32 b4, .bool true] 50))
  replace hB := Lib.hid (grewAlloc (grew hB hb2) (.cells #[.int .u32 b0, .int .u32 b1, .int .u32 b2, .int .u32 b3, .int .u32 b4, .bool true] 50))
  replace hX := (hX.below hb2 hX.lt).alloc (.cells #[.int .u32 b0, .int .u32 b1, .int .u32 b2, .int .u32 b3, .int .u32 b4, .bool true] 50)
  have hY := Whole.new w2 50 [.int .u32 b0, .int .u32 b1, .int .u32 b2, .int .u32 b3, .int .u32 b4, .bool true]
  clear hb2
  generalize w1.heap.size = ab at *
  have x0 := hX.cell 0
  have x5 := hX.cell 5
  simp only [List.getElem?_cons_zero, List.getElem?_cons_succ] at x0 x5
  go_wp2_with (with_reducible refine zLoad 4 _ rfl ?_)
  refine Lib.hid ?_
  go_wp2_with (with_reducible refine zStore 50 _ _ rfl ?_)
  refine Lib.hid ?_
  refine wpList_store_mid rfl 50 _ _ rfl w.heap.size 0 #[.int .u32 0, .int .u32 0, .int .u32 0, .int .u32 0, .int .u32 0, .bool false] rfl rfl (hR.out.there 0 6 (by simp)) sizeG6 (by simp [Value.oneCell']) ?_
  go_wp2_with fail
  have hfin := whole_all hR.out (vs := [.int .u32 0, .int .u32 0, .int .u32 0, .int .u32 0, .int .u32 0, .bool false]) rfl
  exact bodyPost_ret (result_cell Try.results24 rfl hfin.range Try.underlying50 rfl sizeG6) rfl ⟨rfl, below_store hB.out (Nat.le_refl _) (Nat.le_refl _) 0 _⟩
end Go.Proofs.Ytkmlmondhmpkkaa.W
end
