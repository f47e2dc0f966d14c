/- The walks of SealCodes. -/
import Derived.Test.YtkmlmondhmpkkaaSealTwo
import Derived.Test.YtkmlmondhmpkkaaSealRef
import Derived.Test.YtkmlmondhmpkkaaSealLoad
import Derived.Test.YtkmlmondhmpkkaaCrash
namespace Go.Proofs.Ytkmlmondhmpkkaa.W
open Go.RowKit
open Go.Proofs.Ytkmlmondhmpkkaa.M Go.Proofs.Ytkmlmondhmpkkaa.D Go.Proofs.Ytkmlmondhmpkkaa.Z
set_option linter.unusedVariables false
attribute [local go_sem ↓] load_sealed

/-- How many bytes of the data are taken. -/
def lessN (less : Int) : Nat := (52 - min (max less 0) 52).toNat
theorem lessN_le (less : Int) : lessN less ≤ 52 := by unfold lessN; omega
theorem boxed (w : World) (st c : Int) (dl : List UInt8) (h : dl.length = 52) :
    Whole (w.alloc (.cells (sealedV st c dl).toArray 25)) w.heap.size 25 (sealedV st c dl) := Whole.new w _ _
theorem codes_long (st c : Int) (dl : List UInt8) (less : Int) (s : ByteArray) (w : World) (h : 200 < s.size) (hs : s.size ≤ 9223372036854775807) :
    Calls Try.prog 3 #[.agg (sealedV st c dl).toArray, .int .i64 less, .string s] w fun e w' => e = .returned (.bool true) ∧ Below w.heap.size w w' := by
  obtain ⟨X, hX⟩ : ∃ X, Hid (sealedV st c dl = X) := ⟨_, Lib.hid rfl⟩
  rw [hX.out]
  go_enter Try.func3, Try.ntmps3
  go_wp2_with fail
  refine (two_any _).mono ?_
  rintro e w8 ⟨rfl, hb8⟩
  go_wp2_with fail
  go_ret
  exact ⟨rfl, grew (grewAlloc (Below.refl _ w) _) hb8⟩
set_option maxRecDepth 100000 in
set_option maxHeartbeats 4000000 in
theorem codes_yes_may (st c : Int) (dl : List UInt8) (less : Int) (s : ByteArray) (w : World) (hdl : dl.length = 52) (l0 : 0 ≤ st) (l1 : st ≤ 4294967295) (q0 : -9223372036854775808 ≤ less) (q1 : less ≤ 9223372036854775807) (hs : s.size ≤ 200) (ho : opensS s) (hm : mayB c (lessN less) = true) :
    Calls Try.prog 3 #[.agg (sealedV st c dl).toArray, .int .i64 less, .string s] w fun e w' => e = .returned (.bool true) ∧ Below w.heap.size w w' := by
  have hX := boxed w st c dl hdl
  have hXl : (sealedV st c dl).length = 54 := by rw [sealedV_len, hdl]
  have tx := fun W => text_any st c dl W hdl
  have hBz : (B dl).size = 52 := by rw [B_size, hdl]
  have hLle := lessN_le less
  have hLI : Hid (52 - min (max less 0) 52 = (lessN less : Int)) := Lib.hid (by unfold lessN; omega)
  have hmm0 : 0 ≤ min (max less 0) 52 := by omega
  have hmm1 : min (max less 0) 52 ≤ 52 := by omega
  have hDz : ((B dl).extract 0 (lessN less)).size = lessN less := by simp; omega
  have hmy := fun W => rmay_any c ((B dl).extract 0 (lessN less)) W (by omega)
  rw [hDz, hm] at hmy
  have hop1 := fun W => open_yes s W ho
  have hrop := fun W => ropen_yes s W ho
  have he := (seal_same s ho.1).2 ho.2.2
  have hEz : (s.extract 6 58).size = 52 := by have := ho.1; simp; omega
  have hse1 := fun W => seal_yes (stampS s) (countS s) (s.extract 6 58) W (stampS_lt s) (by have := ho.2.1; omega) (by have := countS_lt s; omega) hEz
  rw [he] at hse1
  obtain ⟨st', hst'⟩ : ∃ x, Hid (stampS s = x) := ⟨_, Lib.hid rfl⟩
  obtain ⟨c', hc'⟩ : ∃ x, Hid (countS s = x) := ⟨_, Lib.hid rfl⟩
  obtain ⟨E, hE⟩ : ∃ x, Hid (s.extract 6 58 = x) := ⟨_, Lib.hid rfl⟩
  rw [hst'.out, hc'.out, hE.out] at hop1 hrop hse1
  have hss := bytes_eq (rfl : s = s)
  have hEE := bytes_eq (rfl : E = E)
  have e1 : ((st' : Int) != (st' : Int)) = false := by simp
  have e2 : ((c' : Int) != (c' : Int)) = false := by simp
  clear he
  have hmb : 1 ≤ c ∧ c ≤ 65535 ∧ lessN less = 52 := by unfold mayB at hm; simpa using hm
  obtain ⟨k1, k2, k3⟩ := hmb
  obtain ⟨S', rfl⟩ := Int.eq_ofNat_of_zero_le l0
  obtain ⟨n, rfl⟩ := Int.eq_ofNat_of_zero_le (show 0 ≤ c by omega)
  have hDd : (B dl).extract 0 (lessN less) = B dl := by
    rw [k3, ← B_of ((B dl).extract 0 52), ext_list, B_data, List.drop_zero, List.take_of_length_le (by omega)]
  rw [hDd] at hDz hmy
  have hse2 := fun W => seal_yes S' n (B dl) W (by omega) (by omega) (by omega) hBz
  have hrs := fun W => rseal_any S' n (B dl) W (by omega) (by omega) (by omega)
  rw [B_data] at hse2 hrs
  obtain ⟨o1, o2, o3, o4⟩ := open_seal S' n dl (by omega) (by omega) (by omega) hdl
  have hop2 := fun W => open_yes (B (sealL S' n dl)) W o1
  rw [o2, o3, o4] at hop2
  obtain ⟨R, hR⟩ : ∃ x, Hid (B (sealL S' n dl) = x) := ⟨_, Lib.hid rfl⟩
  rw [hR.out] at hse2 hrs hop2
  have hRR := bytes_eq (rfl : R = R)
  have hTT := bytes_eq (rfl : B dl = B dl)
  have e3 : ((S' : Int) == (S' : Int)) = true := by simp
  have e4 : ((n : Int) == (n : Int)) = true := by simp
  replace hrs := Lib.hid hrs
  replace hop2 := Lib.hid hop2
  replace hDd := Lib.hid hDd
  clear o1 o2 o3 o4
  obtain ⟨L, hL⟩ : ∃ x, Hid (lessN less = x) := ⟨_, Lib.hid rfl⟩
  obtain ⟨T, hT⟩ : ∃ x, Hid (B dl = x) := ⟨_, Lib.hid rfl⟩
  obtain ⟨mm, hmm⟩ : ∃ x, Hid (min (max less 0) 52 = x) := ⟨_, Lib.hid rfl⟩
  obtain ⟨X, hXX⟩ : ∃ x, Hid (sealedV (S' : Int) (n : Int) dl = x) := ⟨_, Lib.hid rfl⟩
  rw [hT.out] at tx hBz
  rw [hL.out] at hLle hLI
  rw [hmm.out] at hLI hmm0 hmm1
  rw [hXX.out] at hX hXl tx ⊢
  have hLI2 : Hid (52 - mm = (L : Int)) := hLI
  rw [hT.out] at hTT hDz hmy hse2 hop2 hrs
  have hDd' : Hid (T.extract 0 L = T) := Lib.hid (by rw [← hT.out, ← hL.out]; exact hDd.out)
  clear hDd k3
  replace tx := Lib.hid tx
  replace hmy := Lib.hid hmy
  replace hse1 := Lib.hid hse1
  replace hse2 := Lib.hid hse2
  replace hop1 := Lib.hid hop1
  replace hrop := Lib.hid hrop
  have hbX := Lib.hid ((Below.refl w.heap.size w).alloc (Nat.le_refl _) (.cells X.toArray 25))
  have hx0 : Hid (X[0]? = some (.int .u32 (S' : Int))) := Lib.hid (by rw [← hXX.out]; rfl)
  have hx1 : Hid (X[1]? = some (.int .i64 (n : Int))) := Lib.hid (by rw [← hXX.out]; rfl)
  replace hXl := Lib.hid hXl
  have hL0 : (0 : Int) ≤ (L : Int) := by omega
  have hL1 : (L : Int) ≤ (T.size : Int) := by omega
  replace hLI := hLI2
  clear hLI2 hm ho hdl
  go_enter Try.func3, Try.ntmps3
  go_wp2_with fail
  generalize w.alloc (.cells X.toArray 25) = V0 at *
  refine (hop1.out _).mono ?_
  rintro e V1 ⟨rfl, hb1⟩
  replace hX := hX.below hb1 hX.lt
  replace hbX := Lib.hid (grew hbX.out hb1)
  clear hb1
  go_wp2_with fail
  refine (hrop.out _).mono ?_
  rintro e V2 ⟨rfl, hb2⟩
  replace hX := hX.below hb2 hX.lt
  replace hbX := Lib.hid (grew hbX.out hb2)
  clear hb2
  go_wp2_with fail
  have hG := Whole.new V2 31 [.int .u32 st', .int .i64 c', .string E, .bool true]
  replace hX := hX.alloc (.cells #[.int .u32 st', .int .i64 c', .string E, .bool true] 31)
  replace hbX := Lib.hid (grewAlloc hbX.out (.cells #[.int .u32 st', .int .i64 c', .string E, .bool true] 31))
  generalize V2.alloc (.cells #[.int .u32 st', .int .i64 c', .string E, .bool true] 31) = V2' at *
  generalize V2.heap.size = gb at *
  refine (hse1.out _).mono ?_
  rintro e V3 ⟨rfl, hb3⟩
  replace hX := hX.below hb3 hX.lt
  replace hG := hG.below hb3 hG.lt
  replace hbX := Lib.hid (grew hbX.out hb3)
  have gc3 := hG.cell 3
  simp only [List.getElem?_cons_zero, List.getElem?_cons_succ] at gc3
  have lX := has_of hX.range hXl.out
  have rX := read_of hX.range hXl.out
  clear hb3
  go_wp2_with fail
  refine (tx.out _).mono ?_
  rintro e V4 ⟨rfl, hb4⟩
  replace hX := hX.below hb4 hX.lt
  replace hbX := Lib.hid (grew hbX.out hb4)
  have x0 := (hX.cell 0).trans hx0.out
  have x1 := (hX.cell 1).trans hx1.out
  clear hb4 hG gc3 lX rX
  go_wp2_with (with_reducible refine zMax _ _ _ _ rfl ?_)
  refine Lib.hid ?_
  refine wpList_max rfl _ _ _ _ rfl less 0 rfl rfl ?_
  go_wp2_with (with_reducible refine zMin _ _ _ _ rfl ?_)
  refine Lib.hid ?_
  refine wpList_min rfl _ _ _ _ rfl (max less 0) 52 rfl rfl ?_
  rw [hmm.out]
  go_wp2_with fail
  rw [hLI.out, Int.toNat_natCast, hDd'.out]
  refine (hse2.out _).mono ?_
  rintro e V5 ⟨rfl, hb5⟩
  replace hX := hX.below hb5 hX.lt
  replace hbX := Lib.hid (grew hbX.out hb5)
  replace x0 := (hX.cell 0).trans hx0.out
  replace x1 := (hX.cell 1).trans hx1.out
  clear hb5
  go_wp2_with fail
  refine (hmy.out _).mono ?_
  rintro e V6 ⟨rfl, rfl⟩
  go_wp2_with fail
  refine (hop2.out _).mono ?_
  rintro e V7 ⟨rfl, hb7⟩
  replace hX := hX.below hb7 hX.lt
  replace hbX := Lib.hid (grew hbX.out hb7)
  replace x0 := (hX.cell 0).trans hx0.out
  replace x1 := (hX.cell 1).trans hx1.out
  clear hb7
  go_wp2_with fail
  refine (hrs.out _).mono ?_
  rintro e V8 ⟨rfl, hb8⟩
  replace hX := hX.below hb8 hX.lt
  replace hbX := Lib.hid (grew hbX.out hb8)
  replace x0 := (hX.cell 0).trans hx0.out
  replace x1 := (hX.cell 1).trans hx1.out
  clear hb8
  go_wp2_with fail
  refine (two_any _).mono ?_
  rintro e V9 ⟨rfl, hb9⟩
  go_wp2_with fail
  go_ret
  exact ⟨rfl, grew hbX.out hb9⟩
set_option maxRecDepth 100000 in
set_option maxHeartbeats 4000000 in
theorem codes_yes_not (st c : Int) (dl : List UInt8) (less : Int) (s : ByteArray) (w : World) (hdl : dl.length = 52) (l0 : 0 ≤ st) (l1 : st ≤ 4294967295) (q0 : -9223372036854775808 ≤ less) (q1 : less ≤ 9223372036854775807) (hs : s.size ≤ 200) (ho : opensS s) (hm : mayB c (lessN less) = false) :
    Calls Try.prog 3 #[.agg (sealedV st c dl).toArray, .int .i64 less, .string s] w fun e w' => e = .returned (.bool true) ∧ Below w.heap.size w w' := by
  have hX := boxed w st c dl hdl
  have hXl : (sealedV st c dl).length = 54 := by rw [sealedV_len, hdl]
  have tx := fun W => text_any st c dl W hdl
  have hBz : (B dl).size = 52 := by rw [B_size, hdl]
  have hLle := lessN_le less
  have hLI : Hid (52 - min (max less 0) 52 = (lessN less : Int)) := Lib.hid (by unfold lessN; omega)
  have hmm0 : 0 ≤ min (max less 0) 52 := by omega
  have hmm1 : min (max less 0) 52 ≤ 52 := by omega
  have hDz : ((B dl).extract 0 (lessN less)).size = lessN less := by simp; omega
  have hmy := fun W => rmay_any c ((B dl).extract 0 (lessN less)) W (by omega)
  rw [hDz, hm] at hmy
  have hop1 := fun W => open_yes s W ho
  have hrop := fun W => ropen_yes s W ho
  have he := (seal_same s ho.1).2 ho.2.2
  have hEz : (s.extract 6 58).size = 52 := by have := ho.1; simp; omega
  have hse1 := fun W => seal_yes (stampS s) (countS s) (s.extract 6 58) W (stampS_lt s) (by have := ho.2.1; omega) (by have := countS_lt s; omega) hEz
  rw [he] at hse1
  obtain ⟨st', hst'⟩ : ∃ x, Hid (stampS s = x) := ⟨_, Lib.hid rfl⟩
  obtain ⟨c', hc'⟩ : ∃ x, Hid (countS s = x) := ⟨_, Lib.hid rfl⟩
  obtain ⟨E, hE⟩ : ∃ x, Hid (s.extract 6 58 = x) := ⟨_, Lib.hid rfl⟩
  rw [hst'.out, hc'.out, hE.out] at hop1 hrop hse1
  have hss := bytes_eq (rfl : s = s)
  have hEE := bytes_eq (rfl : E = E)
  have e1 : ((st' : Int) != (st' : Int)) = false := by simp
  have e2 : ((c' : Int) != (c' : Int)) = false := by simp
  clear he
  have hmb : ¬ (1 ≤ c ∧ c ≤ 65535 ∧ ((B dl).extract 0 (lessN less)).size = 52) := by rw [hDz]; unfold mayB at hm; simpa using hm
  have hse2 := fun W => seal_no st c ((B dl).extract 0 (lessN less)) W (by omega) hmb
  clear hmb
  obtain ⟨L, hL⟩ : ∃ x, Hid (lessN less = x) := ⟨_, Lib.hid rfl⟩
  obtain ⟨T, hT⟩ : ∃ x, Hid (B dl = x) := ⟨_, Lib.hid rfl⟩
  obtain ⟨mm, hmm⟩ : ∃ x, Hid (min (max less 0) 52 = x) := ⟨_, Lib.hid rfl⟩
  obtain ⟨X, hXX⟩ : ∃ x, Hid (sealedV st c dl = x) := ⟨_, Lib.hid rfl⟩
  rw [hT.out] at tx hBz
  rw [hL.out] at hLle hLI
  rw [hmm.out] at hLI hmm0 hmm1
  rw [hXX.out] at hX hXl tx ⊢
  have hLI2 : Hid (52 - mm = (L : Int)) := hLI
  rw [hT.out, hL.out] at hDz hmy hse2
  obtain ⟨D, hD⟩ : ∃ x, Hid (T.extract 0 L = x) := ⟨_, Lib.hid rfl⟩
  rw [hD.out] at hDz hmy hse2
  replace tx := Lib.hid tx
  replace hmy := Lib.hid hmy
  replace hse1 := Lib.hid hse1
  replace hse2 := Lib.hid hse2
  replace hop1 := Lib.hid hop1
  replace hrop := Lib.hid hrop
  have hbX := Lib.hid ((Below.refl w.heap.size w).alloc (Nat.le_refl _) (.cells X.toArray 25))
  have hx0 : Hid (X[0]? = some (.int .u32 st)) := Lib.hid (by rw [← hXX.out]; rfl)
  have hx1 : Hid (X[1]? = some (.int .i64 c)) := Lib.hid (by rw [← hXX.out]; rfl)
  replace hXl := Lib.hid hXl
  have hL0 : (0 : Int) ≤ (L : Int) := by omega
  have hL1 : (L : Int) ≤ (T.size : Int) := by omega
  replace hLI := hLI2
  clear hLI2 hm ho hdl
  go_enter Try.func3, Try.ntmps3
  go_wp2_with fail
  generalize w.alloc (.cells X.toArray 25) = V0 at *
  refine (hop1.out _).mono ?_
  rintro e V1 ⟨rfl, hb1⟩
  replace hX := hX.below hb1 hX.lt
  replace hbX := Lib.hid (grew hbX.out hb1)
  clear hb1
  go_wp2_with fail
  refine (hrop.out _).mono ?_
  rintro e V2 ⟨rfl, hb2⟩
  replace hX := hX.below hb2 hX.lt
  replace hbX := Lib.hid (grew hbX.out hb2)
  clear hb2
  go_wp2_with fail
  have hG := Whole.new V2 31 [.int .u32 st', .int .i64 c', .string E, .bool true]
  replace hX := hX.alloc (.cells #[.int .u32 st', .int .i64 c', .string E, .bool true] 31)
  replace hbX := Lib.hid (grewAlloc hbX.out (.cells #[.int .u32 st', .int .i64 c', .string E, .bool true] 31))
  generalize V2.alloc (.cells #[.int .u32 st', .int .i64 c', .string E, .bool true] 31) = V2' at *
  generalize V2.heap.size = gb at *
  refine (hse1.out _).mono ?_
  rintro e V3 ⟨rfl, hb3⟩
  replace hX := hX.below hb3 hX.lt
  replace hG := hG.below hb3 hG.lt
  replace hbX := Lib.hid (grew hbX.out hb3)
  have gc3 := hG.cell 3
  simp only [List.getElem?_cons_zero, List.getElem?_cons_succ] at gc3
  have lX := has_of hX.range hXl.out
  have rX := read_of hX.range hXl.out
  clear hb3
  go_wp2_with fail
  refine (tx.out _).mono ?_
  rintro e V4 ⟨rfl, hb4⟩
  replace hX := hX.below hb4 hX.lt
  replace hbX := Lib.hid (grew hbX.out hb4)
  have x0 := (hX.cell 0).trans hx0.out
  have x1 := (hX.cell 1).trans hx1.out
  clear hb4 hG gc3 lX rX
  go_wp2_with (with_reducible refine zMax _ _ _ _ rfl ?_)
  refine Lib.hid ?_
  refine wpList_max rfl _ _ _ _ rfl less 0 rfl rfl ?_
  go_wp2_with (with_reducible refine zMin _ _ _ _ rfl ?_)
  refine Lib.hid ?_
  refine wpList_min rfl _ _ _ _ rfl (max less 0) 52 rfl rfl ?_
  rw [hmm.out]
  go_wp2_with fail
  rw [hLI.out, Int.toNat_natCast, hD.out]
  refine (hse2.out _).mono ?_
  rintro e V5 ⟨rfl, rfl⟩
  go_wp2_with fail
  refine (hmy.out _).mono ?_
  rintro e V6 ⟨rfl, rfl⟩
  go_wp2_with fail
  refine (two_any _).mono ?_
  rintro e V9 ⟨rfl, hb9⟩
  go_wp2_with fail
  go_ret
  exact ⟨rfl, grew hbX.out hb9⟩
set_option maxRecDepth 100000 in
set_option maxHeartbeats 4000000 in
theorem codes_no_may (st c : Int) (dl : List UInt8) (less : Int) (s : ByteArray) (w : World) (hdl : dl.length = 52) (l0 : 0 ≤ st) (l1 : st ≤ 4294967295) (q0 : -9223372036854775808 ≤ less) (q1 : less ≤ 9223372036854775807) (hs : s.size ≤ 200) (ho : ¬ opensS s) (hm : mayB c (lessN less) = true) :
    Calls Try.prog 3 #[.agg (sealedV st c dl).toArray, .int .i64 less, .string s] w fun e w' => e = .returned (.bool true) ∧ Below w.heap.size w w' := by
  have hX := boxed w st c dl hdl
  have hXl : (sealedV st c dl).length = 54 := by rw [sealedV_len, hdl]
  have tx := fun W => text_any st c dl W hdl
  have hBz : (B dl).size = 52 := by rw [B_size, hdl]
  have hLle := lessN_le less
  have hLI : Hid (52 - min (max less 0) 52 = (lessN less : Int)) := Lib.hid (by unfold lessN; omega)
  have hmm0 : 0 ≤ min (max less 0) 52 := by omega
  have hmm1 : min (max less 0) 52 ≤ 52 := by omega
  have hDz : ((B dl).extract 0 (lessN less)).size = lessN less := by simp; omega
  have hmy := fun W => rmay_any c ((B dl).extract 0 (lessN less)) W (by omega)
  rw [hDz, hm] at hmy
  have hop1 := fun W => open_no s W (by omega) ho
  have hrop := fun W => ropen_no s W (by omega) ho
  have hse1 : ∀ W : World, Calls Try.prog 12 #[.int .u32 0, .int .i64 0, .string ⟨#[]⟩] W fun e w' => e = .returned (.tuple #[.string ⟨#[]⟩, .int .i64 1]) ∧ Below W.heap.size W w' := fun W => (seal_no 0 0 ⟨#[]⟩ W (by decide) (by omega)).mono fun e w' h => ⟨h.1, h.2 ▸ Below.refl _ _⟩
  have hmb : 1 ≤ c ∧ c ≤ 65535 ∧ lessN less = 52 := by unfold mayB at hm; simpa using hm
  obtain ⟨k1, k2, k3⟩ := hmb
  obtain ⟨S', rfl⟩ := Int.eq_ofNat_of_zero_le l0
  obtain ⟨n, rfl⟩ := Int.eq_ofNat_of_zero_le (show 0 ≤ c by omega)
  have hDd : (B dl).extract 0 (lessN less) = B dl := by
    rw [k3, ← B_of ((B dl).extract 0 52), ext_list, B_data, List.drop_zero, List.take_of_length_le (by omega)]
  rw [hDd] at hDz hmy
  have hse2 := fun W => seal_yes S' n (B dl) W (by omega) (by omega) (by omega) hBz
  have hrs := fun W => rseal_any S' n (B dl) W (by omega) (by omega) (by omega)
  rw [B_data] at hse2 hrs
  obtain ⟨o1, o2, o3, o4⟩ := open_seal S' n dl (by omega) (by omega) (by omega) hdl
  have hop2 := fun W => open_yes (B (sealL S' n dl)) W o1
  rw [o2, o3, o4] at hop2
  obtain ⟨R, hR⟩ : ∃ x, Hid (B (sealL S' n dl) = x) := ⟨_, Lib.hid rfl⟩
  rw [hR.out] at hse2 hrs hop2
  have hRR := bytes_eq (rfl : R = R)
  have hTT := bytes_eq (rfl : B dl = B dl)
  have e3 : ((S' : Int) == (S' : Int)) = true := by simp
  have e4 : ((n : Int) == (n : Int)) = true := by simp
  replace hrs := Lib.hid hrs
  replace hop2 := Lib.hid hop2
  replace hDd := Lib.hid hDd
  clear o1 o2 o3 o4
  obtain ⟨L, hL⟩ : ∃ x, Hid (lessN less = x) := ⟨_, Lib.hid rfl⟩
  obtain ⟨T, hT⟩ : ∃ x, Hid (B dl = x) := ⟨_, Lib.hid rfl⟩
  obtain ⟨mm, hmm⟩ : ∃ x, Hid (min (max less 0) 52 = x) := ⟨_, Lib.hid rfl⟩
  obtain ⟨X, hXX⟩ : ∃ x, Hid (sealedV (S' : Int) (n : Int) dl = x) := ⟨_, Lib.hid rfl⟩
  rw [hT.out] at tx hBz
  rw [hL.out] at hLle hLI
  rw [hmm.out] at hLI hmm0 hmm1
  rw [hXX.out] at hX hXl tx ⊢
  have hLI2 : Hid (52 - mm = (L : Int)) := hLI
  rw [hT.out] at hTT hDz hmy hse2 hop2 hrs
  have hDd' : Hid (T.extract 0 L = T) := Lib.hid (by rw [← hT.out, ← hL.out]; exact hDd.out)
  clear hDd k3
  replace tx := Lib.hid tx
  replace hmy := Lib.hid hmy
  replace hse1 := Lib.hid hse1
  replace hse2 := Lib.hid hse2
  replace hop1 := Lib.hid hop1
  replace hrop := Lib.hid hrop
  have hbX := Lib.hid ((Below.refl w.heap.size w).alloc (Nat.le_refl _) (.cells X.toArray 25))
  have hx0 : Hid (X[0]? = some (.int .u32 (S' : Int))) := Lib.hid (by rw [← hXX.out]; rfl)
  have hx1 : Hid (X[1]? = some (.int .i64 (n : Int))) := Lib.hid (by rw [← hXX.out]; rfl)
  replace hXl := Lib.hid hXl
  have hL0 : (0 : Int) ≤ (L : Int) := by omega
  have hL1 : (L : Int) ≤ (T.size : Int) := by omega
  replace hLI := hLI2
  clear hLI2 hm ho hdl
  go_enter Try.func3, Try.ntmps3
  go_wp2_with fail
  generalize w.alloc (.cells X.toArray 25) = V0 at *
  refine (hop1.out _).mono ?_
  rintro e V1 ⟨rfl, hb1⟩
  replace hX := hX.below hb1 hX.lt
  replace hbX := Lib.hid (grew hbX.out hb1)
  clear hb1
  go_wp2_with fail
  refine (hrop.out _).mono ?_
  rintro e V2 ⟨rfl, hb2⟩
  replace hX := hX.below hb2 hX.lt
  replace hbX := Lib.hid (grew hbX.out hb2)
  clear hb2
  go_wp2_with fail
  have hG := Whole.new V2 31 [.int .u32 0, .int .i64 0, .string ⟨#[]⟩, .bool false]
  replace hX := hX.alloc (.cells #[.int .u32 0, .int .i64 0, .string ⟨#[]⟩, .bool false] 31)
  replace hbX := Lib.hid (grewAlloc hbX.out (.cells #[.int .u32 0, .int .i64 0, .string ⟨#[]⟩, .bool false] 31))
  generalize V2.alloc (.cells #[.int .u32 0, .int .i64 0, .string ⟨#[]⟩, .bool false] 31) = V2' at *
  generalize V2.heap.size = gb at *
  refine (hse1.out _).mono ?_
  rintro e V3 ⟨rfl, hb3⟩
  replace hX := hX.below hb3 hX.lt
  replace hG := hG.below hb3 hG.lt
  replace hbX := Lib.hid (grew hbX.out hb3)
  have gc3 := hG.cell 3
  simp only [List.getElem?_cons_zero, List.getElem?_cons_succ] at gc3
  have lX := has_of hX.range hXl.out
  have rX := read_of hX.range hXl.out
  clear hb3
  go_wp2_with fail
  refine (tx.out _).mono ?_
  rintro e V4 ⟨rfl, hb4⟩
  replace hX := hX.below hb4 hX.lt
  replace hbX := Lib.hid (grew hbX.out hb4)
  have x0 := (hX.cell 0).trans hx0.out
  have x1 := (hX.cell 1).trans hx1.out
  clear hb4 hG gc3 lX rX
  go_wp2_with (with_reducible refine zMax _ _ _ _ rfl ?_)
  refine Lib.hid ?_
  refine wpList_max rfl _ _ _ _ rfl less 0 rfl rfl ?_
  go_wp2_with (with_reducible refine zMin _ _ _ _ rfl ?_)
  refine Lib.hid ?_
  refine wpList_min rfl _ _ _ _ rfl (max less 0) 52 rfl rfl ?_
  rw [hmm.out]
  go_wp2_with fail
  rw [hLI.out, Int.toNat_natCast, hDd'.out]
  refine (hse2.out _).mono ?_
  rintro e V5 ⟨rfl, hb5⟩
  replace hX := hX.below hb5 hX.lt
  replace hbX := Lib.hid (grew hbX.out hb5)
  replace x0 := (hX.cell 0).trans hx0.out
  replace x1 := (hX.cell 1).trans hx1.out
  clear hb5
  go_wp2_with fail
  refine (hmy.out _).mono ?_
  rintro e V6 ⟨rfl, rfl⟩
  go_wp2_with fail
  refine (hop2.out _).mono ?_
  rintro e V7 ⟨rfl, hb7⟩
  replace hX := hX.below hb7 hX.lt
  replace hbX := Lib.hid (grew hbX.out hb7)
  replace x0 := (hX.cell 0).trans hx0.out
  replace x1 := (hX.cell 1).trans hx1.out
  clear hb7
  go_wp2_with fail
  refine (hrs.out _).mono ?_
  rintro e V8 ⟨rfl, hb8⟩
  replace hX := hX.below hb8 hX.lt
  replace hbX := Lib.hid (grew hbX.out hb8)
  replace x0 := (hX.cell 0).trans hx0.out
  replace x1 := (hX.cell 1).trans hx1.out
  clear hb8
  go_wp2_with fail
  refine (two_any _).mono ?_
  rintro e V9 ⟨rfl, hb9⟩
  go_wp2_with fail
  go_ret
  exact ⟨rfl, grew hbX.out hb9⟩
set_option maxRecDepth 100000 in
set_option maxHeartbeats 4000000 in
theorem codes_no_not (st c : Int) (dl : List UInt8) (less : Int) (s : ByteArray) (w : World) (hdl : dl.length = 52) (l0 : 0 ≤ st) (l1 : st ≤ 4294967295) (q0 : -9223372036854775808 ≤ less) (q1 : less ≤ 9223372036854775807) (hs : s.size ≤ 200) (ho : ¬ opensS s) (hm : mayB c (lessN less) = false) :
    Calls Try.prog 3 #[.agg (sealedV st c dl).toArray, .int .i64 less, .string s] w fun e w' => e = .returned (.bool true) ∧ Below w.heap.size w w' := by
  have hX := boxed w st c dl hdl
  have hXl : (sealedV st c dl).length = 54 := by rw [sealedV_len, hdl]
  have tx := fun W => text_any st c dl W hdl
  have hBz : (B dl).size = 52 := by rw [B_size, hdl]
  have hLle := lessN_le less
  have hLI : Hid (52 - min (max less 0) 52 = (lessN less : Int)) := Lib.hid (by unfold lessN; omega)
  have hmm0 : 0 ≤ min (max less 0) 52 := by omega
  have hmm1 : min (max less 0) 52 ≤ 52 := by omega
  have hDz : ((B dl).extract 0 (lessN less)).size = lessN less := by simp; omega
  have hmy := fun W => rmay_any c ((B dl).extract 0 (lessN less)) W (by omega)
  rw [hDz, hm] at hmy
  have hop1 := fun W => open_no s W (by omega) ho
  have hrop := fun W => ropen_no s W (by omega) ho
  have hse1 : ∀ W : World, Calls Try.prog 12 #[.int .u32 0, .int .i64 0, .string ⟨#[]⟩] W fun e w' => e = .returned (.tuple #[.string ⟨#[]⟩, .int .i64 1]) ∧ Below W.heap.size W w' := fun W => (seal_no 0 0 ⟨#[]⟩ W (by decide) (by omega)).mono fun e w' h => ⟨h.1, h.2 ▸ Below.refl _ _⟩
  have hmb : ¬ (1 ≤ c ∧ c ≤ 65535 ∧ ((B dl).extract 0 (lessN less)).size = 52) := by rw [hDz]; unfold mayB at hm; simpa using hm
  have hse2 := fun W => seal_no st c ((B dl).extract 0 (lessN less)) W (by omega) hmb
  clear hmb
  obtain ⟨L, hL⟩ : ∃ x, Hid (lessN less = x) := ⟨_, Lib.hid rfl⟩
  obtain ⟨T, hT⟩ : ∃ x, Hid (B dl = x) := ⟨_, Lib.hid rfl⟩
  obtain ⟨mm, hmm⟩ : ∃ x, Hid (min (max less 0) 52 = x) := ⟨_, Lib.hid rfl⟩
  obtain ⟨X, hXX⟩ : ∃ x, Hid (sealedV st c dl = x) := ⟨_, Lib.hid rfl⟩
  rw [hT.out] at tx hBz
  rw [hL.out] at hLle hLI
  rw [hmm.out] at hLI hmm0 hmm1
  rw [hXX.out] at hX hXl tx ⊢
  have hLI2 : Hid (52 - mm = (L : Int)) := hLI
  rw [hT.out, hL.out] at hDz hmy hse2
  obtain ⟨D, hD⟩ : ∃ x, Hid (T.extract 0 L = x) := ⟨_, Lib.hid rfl⟩
  rw [hD.out] at hDz hmy hse2
  replace tx := Lib.hid tx
  replace hmy := Lib.hid hmy
  replace hse1 := Lib.hid hse1
  replace hse2 := Lib.hid hse2
  replace hop1 := Lib.hid hop1
  replace hrop := Lib.hid hrop
  have hbX := Lib.hid ((Below.refl w.heap.size w).alloc (Nat.le_refl _) (.cells X.toArray 25))
  have hx0 : Hid (X[0]? = some (.int .u32 st)) := Lib.hid (by rw [← hXX.out]; rfl)
  have hx1 : Hid (X[1]? = some (.int .i64 c)) := Lib.hid (by rw [← hXX.out]; rfl)
  replace hXl := Lib.hid hXl
  have hL0 : (0 : Int) ≤ (L : Int) := by omega
  have hL1 : (L : Int) ≤ (T.size : Int) := by omega
  replace hLI := hLI2
  clear hLI2 hm ho hdl
  go_enter Try.func3, Try.ntmps3
  go_wp2_with fail
  generalize w.alloc (.cells X.toArray 25) = V0 at *
  refine (hop1.out _).mono ?_
  rintro e V1 ⟨rfl, hb1⟩
  replace hX := hX.below hb1 hX.lt
  replace hbX := Lib.hid (grew hbX.out hb1)
  clear hb1
  go_wp2_with fail
  refine (hrop.out _).mono ?_
  rintro e V2 ⟨rfl, hb2⟩
  replace hX := hX.below hb2 hX.lt
  replace hbX := Lib.hid (grew hbX.out hb2)
  clear hb2
  go_wp2_with fail
  have hG := Whole.new V2 31 [.int .u32 0, .int .i64 0, .string ⟨#[]⟩, .bool false]
  replace hX := hX.alloc (.cells #[.int .u32 0, .int .i64 0, .string ⟨#[]⟩, .bool false] 31)
  replace hbX := Lib.hid (grewAlloc hbX.out (.cells #[.int .u32 0, .int .i64 0, .string ⟨#[]⟩, .bool false] 31))
  generalize V2.alloc (.cells #[.int .u32 0, .int .i64 0, .string ⟨#[]⟩, .bool false] 31) = V2' at *
  generalize V2.heap.size = gb at *
  refine (hse1.out _).mono ?_
  rintro e V3 ⟨rfl, hb3⟩
  replace hX := hX.below hb3 hX.lt
  replace hG := hG.below hb3 hG.lt
  replace hbX := Lib.hid (grew hbX.out hb3)
  have gc3 := hG.cell 3
  simp only [List.getElem?_cons_zero, List.getElem?_cons_succ] at gc3
  have lX := has_of hX.range hXl.out
  have rX := read_of hX.range hXl.out
  clear hb3
  go_wp2_with fail
  refine (tx.out _).mono ?_
  rintro e V4 ⟨rfl, hb4⟩
  replace hX := hX.below hb4 hX.lt
  replace hbX := Lib.hid (grew hbX.out hb4)
  have x0 := (hX.cell 0).trans hx0.out
  have x1 := (hX.cell 1).trans hx1.out
  clear hb4 hG gc3 lX rX
  go_wp2_with (with_reducible refine zMax _ _ _ _ rfl ?_)
  refine Lib.hid ?_
  refine wpList_max rfl _ _ _ _ rfl less 0 rfl rfl ?_
  go_wp2_with (with_reducible refine zMin _ _ _ _ rfl ?_)
  refine Lib.hid ?_
  refine wpList_min rfl _ _ _ _ rfl (max less 0) 52 rfl rfl ?_
  rw [hmm.out]
  go_wp2_with fail
  rw [hLI.out, Int.toNat_natCast, hD.out]
  refine (hse2.out _).mono ?_
  rintro e V5 ⟨rfl, rfl⟩
  go_wp2_with fail
  refine (hmy.out _).mono ?_
  rintro e V6 ⟨rfl, rfl⟩
  go_wp2_with fail
  refine (two_any _).mono ?_
  rintro e V9 ⟨rfl, hb9⟩
  go_wp2_with fail
  go_ret
  exact ⟨rfl, grew hbX.out hb9⟩
end Go.Proofs.Ytkmlmondhmpkkaa.W
