/- The walks of the definition of seals. -/
import Derived.Test.YtkmlmondhmpkkaaProg
import Derived.Test.YtkmlmondhmpkkaaSeal
import Derived.Test.YtkmlmondhmpkkaaTexts
namespace Go.Proofs.Ytkmlmondhmpkkaa.W
open Go.RowKit
open Go.Proofs.Ytkmlmondhmpkkaa.M
open Go.Proofs.Ytkmlmondhmpkkaa.D
open Go.Proofs.Ytkmlmondhmpkkaa.Z
set_option linter.unusedVariables false

/-- May there be such a sealed sector? -/
def mayB (c : Int) (n : Nat) : Bool := decide (1 ≤ c ∧ c ≤ 65535 ∧ n = 52)
theorem rmay_any (c : Int) (d : ByteArray) (w : World) (hd : d.size ≤ 1000000) :
    Calls Try.prog 14 #[.int .i64 c, .string d] w fun e w' => e = .returned (.bool (mayB c d.size)) ∧ w = w' := by
  by_cases h1 : 1 ≤ c
  · by_cases h2 : c ≤ 65535
    · have hm := Lib.hid (show decide ((d.size : Int) = 52) = mayB c d.size from by unfold mayB; rw [Bool.eq_iff_iff]; simp; omega)
      go_enter Try.func14, Try.ntmps14
      go_wp2_with fail
      go_ret
      exact ⟨M.ret_bool (by rw [← hm.out, Bool.eq_iff_iff]; simp), rfl⟩
    · have hm := Lib.hid (show false = mayB c d.size from by unfold mayB; simp; omega)
      go_enter Try.func14, Try.ntmps14
      go_wp2_with fail
      go_ret
      exact ⟨M.ret_bool hm.out, rfl⟩
  · have hm := Lib.hid (show false = mayB c d.size from by unfold mayB; simp; omega)
    go_enter Try.func14, Try.ntmps14
    go_wp2_with fail
    go_ret
    exact ⟨M.ret_bool hm.out, rfl⟩

theorem rseal_any (st c : Nat) (d : ByteArray) (w : World) (h1 : st < 4294967296) (h2 : c < 65536) (hd : d.size ≤ 1000000) :
    Calls Try.prog 15 #[.int .u32 st, .int .i64 c, .string d] w fun e w' => e = .returned (.string (B (sealL st c d.data.toList))) ∧ Below w.heap.size w w' := by
  have hcat : B (fx (st : Int) 4) ++ B (fx (c : Int) 2) ++ d ++ (B (fx (st : Int) 4) ++ B (fx (c : Int) 2)) = B (sealL st c d.data.toList) := by
    conv => lhs; rw [← B_of d]
    rw [B_append, B_append, B_append]
    rfl
  have z1 := fx_size (st : Int) 4
  have z2 := fx_size (c : Int) 2
  obtain ⟨X, hX⟩ : ∃ X, Hid (B (fx (st : Int) 4) = X) := ⟨_, Lib.hid rfl⟩
  obtain ⟨Y, hY⟩ : ∃ Y, Hid (B (fx (c : Int) 2) = Y) := ⟨_, Lib.hid rfl⟩
  rw [hX.out, hY.out] at hcat
  rw [hX.out] at z1
  rw [hY.out] at z2
  replace hcat := Lib.hid hcat
  go_enter Try.func15, Try.ntmps15
  go_wp2_with fail
  refine (rfixed_any (st : Int) 4 _ (by omega) (by omega) (by omega) (by omega)).mono ?_
  rintro e w1 ⟨rfl, hb1⟩
  rw [show (4 : Int).toNat = 4 from rfl, hX.out]
  go_wp2_with fail
  refine (rfixed_any (c : Int) 2 _ (by omega) (by omega) (by omega) (by omega)).mono ?_
  rintro e w2 ⟨rfl, hb2⟩
  rw [show (2 : Int).toNat = 2 from rfl, hY.out]
  go_wp2_with fail
  go_ret
  exact ⟨ret_str hcat.out, grew hb1 hb2⟩

theorem farStore {w W : World} {b : Nat} (hb : Below w.heap.size w W) (hB : w.heap.size ≤ b) (o : Nat) (vs : List Value) : Below w.heap.size w (W.setCells b o vs) :=
  hb.trans (((Kept.refl (fun q => q = b) W).setCells (c := b) (.inl rfl) o vs).below hb.size (fun q hq => by omega))
/-- What the definition of Open tells. -/
abbrev gotYes (st c : Nat) (d : ByteArray) : Value := .agg #[.int .u32 st, .int .i64 c, .string d, .bool true]
abbrev gotNo : Value := .agg #[.int .u32 0, .int .i64 0, .string ⟨#[]⟩, .bool false]
set_option maxHeartbeats 1000000 in
theorem ropen_yes (s : ByteArray) (w : World) (ho : opensS s) :
    Calls Try.prog 11 #[.string s] w fun e w' => e = .returned (gotYes (stampS s) (countS s) (s.extract 6 58)) ∧ Below w.heap.size w w' := by
  have hz := ho.1
  have hne : ((s.size : Int) != 64) = false := by simp [hz]
  have hi4 : (4 : Int) ≤ (s.size : Int) := by omega
  have hi6 : (6 : Int) ≤ (s.size : Int) := by omega
  have hi58 : (58 : Int) ≤ (s.size : Int) := by omega
  have z4 : (s.extract 0 4).size ≤ 8 := by simp; omega
  have z6 : (s.extract 4 6).size ≤ 8 := by simp; omega
  have zd : (s.extract 6 58).size ≤ 1000000 := by simp; omega
  have l1 := stampS_lt s
  have l2 := countS_lt s
  have he := (seal_same s hz).2 ho.2.2
  have r1 : M.rd (s.extract 0 4).data.toList = stampS s := rfl
  have r2 : M.rd (s.extract 4 6).data.toList = countS s := rfl
  have hc := ho.2.1
  obtain ⟨st, hst⟩ : ∃ st, Hid (stampS s = st) := ⟨_, Lib.hid rfl⟩
  obtain ⟨c, hcc⟩ : ∃ c, Hid (countS s = c) := ⟨_, Lib.hid rfl⟩
  obtain ⟨D, hD⟩ : ∃ D, Hid (s.extract 6 58 = D) := ⟨_, Lib.hid rfl⟩
  rw [hst.out] at l1 r1 he ⊢
  rw [hcc.out] at l2 r2 he hc ⊢
  rw [hD.out] at zd he ⊢
  have hc0 : ((c : Int) == 0) = false := by rw [beq_eq_false_iff_ne]; omega
  replace r1 := Lib.hid r1
  replace r2 := Lib.hid r2
  replace he := Lib.hid he
  replace hc := Lib.hid hc
  have hss := bytes_eq (rfl : s = s)
  clear hz ho
  go_enter Try.func11, Try.ntmps11
  go_wp2_with fail
  refine (rread_any _ _ z4).mono ?_
  rintro e w1 ⟨rfl, rfl⟩
  rw [r1.out]
  go_wp2_with fail
  refine (rread_any _ _ z6).mono ?_
  rintro e w1 ⟨rfl, rfl⟩
  rw [r2.out]
  go_wp2_with fail
  rw [hD.out]
  have hZ := Whole.new w 31 [.int .u32 0, .int .i64 0, .string ⟨#[]⟩, .bool false]
  have hbW : Hid (Below w.heap.size w (w.alloc (.cells #[.int .u32 0, .int .i64 0, .string ⟨#[]⟩, .bool false] 31))) := Lib.hid ((Below.refl _ _).alloc (Nat.le_refl _) _)
  refine (rseal_any st c _ _ l1 (by omega) zd).mono ?_
  rintro e w1 ⟨rfl, hb1⟩
  rw [he.out]
  have hZ2 := hZ.below hb1 hZ.lt
  have hb2 := Lib.hid (grew hbW.out hb1)
  have q0 := hZ2.cell 0
  have q1 := hZ2.cell 1
  have q2 := hZ2.cell 2
  have q3 := hZ2.cell 3
  have f0 := hZ2.frozen 0
  have f1 := hZ2.frozen 1
  have f2 := hZ2.frozen 2
  have f3 := hZ2.frozen 3
  simp only [List.getElem?_cons_zero, List.getElem?_cons_succ] at q0 q1 q2 q3
  clear hZ hbW hb1 hZ2
  go_wp2_with fail
  rw [hD.out]
  have hfin := farStore hb2.out (Nat.le_refl _) 0 [.int .u32 st, .int .i64 c, .string D, .bool true]
  simp only [World.setCells] at hfin
  refine bodyPost_ret (v := gotYes st c D) (by simp [results, Try.results11, go_sem, q0, q1, q2, q3]) rfl ⟨rfl, ?_⟩
  exact hfin

set_option maxHeartbeats 1000000 in
theorem ropen_size (s : ByteArray) (w : World) (hs : s.size ≤ 1000000) (hz : s.size ≠ 64) :
    Calls Try.prog 11 #[.string s] w fun e w' => e = .returned gotNo ∧ Below w.heap.size w w' := by
  have hne : ((s.size : Int) != 64) = true := by simp; omega
  clear hz
  go_enter Try.func11, Try.ntmps11
  go_wp2_with fail
  have hb := (Below.refl w.heap.size w).alloc (Nat.le_refl _) (.cells #[.int .u32 0, .int .i64 0, .string ⟨#[]⟩, .bool false] 31)
  exact bodyPost_ret (v := gotNo) (by simp [results, Try.results11, go_sem]) rfl ⟨rfl, hb⟩
set_option maxHeartbeats 1000000 in
theorem ropen_zero (s : ByteArray) (w : World) (hz : s.size = 64) (hc : countS s = 0) :
    Calls Try.prog 11 #[.string s] w fun e w' => e = .returned gotNo ∧ Below w.heap.size w w' := by
  have hne : ((s.size : Int) != 64) = false := by simp [hz]
  have hi4 : (4 : Int) ≤ (s.size : Int) := by omega
  have hi6 : (6 : Int) ≤ (s.size : Int) := by omega
  have z4 : (s.extract 0 4).size ≤ 8 := by simp; omega
  have z6 : (s.extract 4 6).size ≤ 8 := by simp; omega
  have l1 := stampS_lt s
  have r1 : M.rd (s.extract 0 4).data.toList = stampS s := rfl
  have r2 : M.rd (s.extract 4 6).data.toList = 0 := hc
  obtain ⟨st, hst⟩ : ∃ st, Hid (stampS s = st) := ⟨_, Lib.hid rfl⟩
  rw [hst.out] at l1 r1
  replace r1 := Lib.hid r1
  replace r2 := Lib.hid r2
  clear hc hz
  go_enter Try.func11, Try.ntmps11
  go_wp2_with fail
  refine (rread_any _ _ z4).mono ?_
  rintro e w1 ⟨rfl, rfl⟩
  rw [r1.out]
  go_wp2_with fail
  refine (rread_any _ _ z6).mono ?_
  rintro e w1 ⟨rfl, rfl⟩
  rw [r2.out]
  go_wp2_with fail
  have hb := (Below.refl w.heap.size w).alloc (Nat.le_refl _) (.cells #[.int .u32 0, .int .i64 0, .string ⟨#[]⟩, .bool false] 31)
  exact bodyPost_ret (v := gotNo) (by simp [results, Try.results11, go_sem]) rfl ⟨rfl, hb⟩
set_option maxHeartbeats 1000000 in
theorem ropen_else (s : ByteArray) (w : World) (hz : s.size = 64) (hc : countS s ≠ 0) (hn : ¬ s.extract 58 64 = s.extract 0 6) :
    Calls Try.prog 11 #[.string s] w fun e w' => e = .returned gotNo ∧ Below w.heap.size w w' := by
  have hne : ((s.size : Int) != 64) = false := by simp [hz]
  have hi4 : (4 : Int) ≤ (s.size : Int) := by omega
  have hi6 : (6 : Int) ≤ (s.size : Int) := by omega
  have hi58 : (58 : Int) ≤ (s.size : Int) := by omega
  have z4 : (s.extract 0 4).size ≤ 8 := by simp; omega
  have z6 : (s.extract 4 6).size ≤ 8 := by simp; omega
  have zd : (s.extract 6 58).size ≤ 1000000 := by simp; omega
  have l1 := stampS_lt s
  have l2 := countS_lt s
  have he := fun e => hn ((seal_same s hz).1 e)
  have r1 : M.rd (s.extract 0 4).data.toList = stampS s := rfl
  have r2 : M.rd (s.extract 4 6).data.toList = countS s := rfl
  obtain ⟨st, hst⟩ : ∃ st, Hid (stampS s = st) := ⟨_, Lib.hid rfl⟩
  obtain ⟨c, hcc⟩ : ∃ c, Hid (countS s = c) := ⟨_, Lib.hid rfl⟩
  obtain ⟨D, hD⟩ : ∃ D, Hid (s.extract 6 58 = D) := ⟨_, Lib.hid rfl⟩
  rw [hst.out] at l1 r1 he
  rw [hcc.out] at l2 r2 he hc
  rw [hD.out] at zd he
  have hc0 : ((c : Int) == 0) = false := by rw [beq_eq_false_iff_ne]; omega
  have hss := bytes_ne he
  obtain ⟨L, hL⟩ : ∃ L, Hid (B (sealL st c D.data.toList) = L) := ⟨_, Lib.hid rfl⟩
  rw [hL.out] at hss
  replace r1 := Lib.hid r1
  replace r2 := Lib.hid r2
  replace hc := Lib.hid hc
  clear hz hn he
  go_enter Try.func11, Try.ntmps11
  go_wp2_with fail
  refine (rread_any _ _ z4).mono ?_
  rintro e w1 ⟨rfl, rfl⟩
  rw [r1.out]
  go_wp2_with fail
  refine (rread_any _ _ z6).mono ?_
  rintro e w1 ⟨rfl, rfl⟩
  rw [r2.out]
  go_wp2_with fail
  rw [hD.out]
  have hZ := Whole.new w 31 [.int .u32 0, .int .i64 0, .string ⟨#[]⟩, .bool false]
  have hbW : Hid (Below w.heap.size w (w.alloc (.cells #[.int .u32 0, .int .i64 0, .string ⟨#[]⟩, .bool false] 31))) := Lib.hid ((Below.refl _ _).alloc (Nat.le_refl _) _)
  refine (rseal_any st c _ _ l1 (by omega) zd).mono ?_
  rintro e w1 ⟨rfl, hb1⟩
  rw [hL.out]
  have hZ2 := hZ.below hb1 hZ.lt
  have hb2 := Lib.hid (grew hbW.out hb1)
  have q0 := hZ2.cell 0
  have q1 := hZ2.cell 1
  have q2 := hZ2.cell 2
  have q3 := hZ2.cell 3
  have f0 := hZ2.frozen 0
  have f1 := hZ2.frozen 1
  have f2 := hZ2.frozen 2
  have f3 := hZ2.frozen 3
  simp only [List.getElem?_cons_zero, List.getElem?_cons_succ] at q0 q1 q2 q3
  clear hZ hbW hb1 hZ2
  go_wp2_with fail
  exact bodyPost_ret (v := gotNo) (by simp [results, Try.results11, go_sem, q0, q1, q2, q3]) rfl ⟨rfl, farStore hb2.out (Nat.le_refl _) 0 [.int .u32 0, .int .i64 0, .string ⟨#[]⟩, .bool false]⟩
theorem ropen_no (s : ByteArray) (w : World) (hs : s.size ≤ 1000000) (ho : ¬ opensS s) :
    Calls Try.prog 11 #[.string s] w fun e w' => e = .returned gotNo ∧ Below w.heap.size w w' := by
  by_cases hz : s.size = 64
  · by_cases hc : countS s = 0
    · exact ropen_zero s w hz hc
    · exact ropen_else s w hz hc (fun h => ho ⟨hz, hc, h⟩)
  · exact ropen_size s w hs hz
end Go.Proofs.Ytkmlmondhmpkkaa.W
