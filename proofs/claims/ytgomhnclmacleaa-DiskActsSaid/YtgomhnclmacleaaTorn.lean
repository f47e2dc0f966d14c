/- The law's torn: a write of which three bytes stay. -/
import Derived.Test.YtgomhnclmacleaaProg
import Derived.Test.YtgomhnclmacleaaCrash
namespace Go.Proofs.Ytgomhnclmacleaa.D
open Go.RowKit
set_option linter.unusedVariables false

theorem fill_x (w : World) : Calls Try.prog 52 #[.int .u8 120] w fun e w' => e = .returned (.string ⟨(fillL 120).toArray⟩) ∧ Below w.heap.size w w' := fill_any 120 w
theorem fill_0 (w : World) : Calls Try.prog 52 #[.int .u8 0] w fun e w' => e = .returned (.string ⟨(fillL 0).toArray⟩) ∧ Below w.heap.size w w' := fill_any 0 w
def stayed : List UInt8 := List.replicate 3 120 ++ List.replicate 61 0
theorem kept_3 : (kepts (([(1, fillL 120)] : List (Nat × List UInt8)).filter (spanB 0 2)) (zeros 4) [((0 : Int), (3 : Int))])[1]? = some stayed := by decide
theorem kept_none : ([(1, fillL 120)] : List (Nat × List UInt8)).filter (keepB 0 2) = [] := by decide
theorem str_eq : (⟨#[120, 120, 120]⟩ : ByteArray) ++ (⟨(fillL 0).toArray⟩ : ByteArray).extract 3 64 = ⟨stayed.toArray⟩ := by kernel_rfl

set_option maxRecDepth 100000 in
theorem torn_any (w : World) : Calls Try.prog 14 #[] w fun e w' => e = .returned (.bool true) ∧ Below w.heap.size w w' := by
  obtain ⟨X, hX⟩ : ∃ X : ByteArray, Hid (⟨(fillL 120).toArray⟩ = X) := ⟨_, Lib.hid rfl⟩
  obtain ⟨Z, hZ⟩ : ∃ Z : ByteArray, Hid (⟨(fillL 0).toArray⟩ = Z) := ⟨_, Lib.hid rfl⟩
  obtain ⟨C, hC⟩ : ∃ C : ByteArray, Hid (⟨stayed.toArray⟩ = C) := ⟨_, Lib.hid rfl⟩
  go_enter Try.func14, Try.ntmps14
  go_wp2_with fail
  refine (new_in 4 _ (by decide) (by decide)).mono ?_
  rintro e w1 ⟨rfl, hd1, hb1⟩
  go_wp2_with fail
  refine (fill_x _).mono ?_
  rintro e w2 ⟨rfl, hb2⟩
  rw [hX.out]
  have hd2 := hd1.below hb2
  go_wp2_with fail
  refine (write_in _ _ _ _ _ _ 1 X hd2 (by decide) (by rw [← hX.out]; rfl) (by decide)).mono ?_
  rintro e w3 ⟨rfl, v3, hd3, hv3, hk3⟩
  rw [show X.data.toList = fillL 120 by rw [← hX.out]] at hd3
  go_wp2_with fail
  refine (read_in _ _ _ _ _ _ 1 (List.replicate 64 0) hd3 rfl (by decide)).mono ?_
  rintro e w4 ⟨rfl, rfl⟩
  rw [show (⟨(rd ([] ++ [(1, fillL 120)]) 1 (List.replicate 64 0)).toArray⟩ : ByteArray) = X from hX.out]
  go_wp2_with fail
  refine (lies_in _ _ _ _ _ _ 1 (List.replicate 64 0) hd3 rfl).mono ?_
  rintro e w4 ⟨rfl, rfl⟩
  rw [show (⟨(List.replicate 64 (0 : UInt8)).toArray⟩ : ByteArray) = Z from hZ.out]
  go_wp2_with fail
  have hbk := allocBelow w3 (.cells #[.int .i64 0, .int .i64 3] 52)
  have hdl := hd3.obj.lt
  have hgl := hd3.lying.lt
  have hbase : w.heap.size ≤ w2.heap.size := Nat.le_trans hb1.size hb2.size
  have hkeeps : Keeps (w3.alloc (.cells #[.int .i64 0, .int .i64 3] 52)) (.slice (some ⟨w3.heap.size, 0, none⟩) 1 1) [((0 : Int), (3 : Int))] := by
    refine ⟨⟨some ⟨w3.heap.size, 0, none⟩, 1, rfl, by decide, by decide, fun j q hq => ⟨w3.heap.size, 0, rfl, by simp, ?_⟩⟩⟩
    have hW := Whole.new w3 52 [.int .i64 0, .int .i64 3]
    have hj : j = 0 := by
      have := (List.getElem?_eq_some_iff.1 hq).1
      simp at this; omega
    subst hj
    cases hq
    exact ⟨hW.cell 0, hW.cell 1⟩
  refine (crash_in _ _ _ _ _ _ 0 2 _ [((0 : Int), (3 : Int))] (hd3.below hbk) (by decide) (by decide) hkeeps (fun k _ hk hm => ?_) (by decide)).mono ?_
  · have e2 : w3.heap.size = k := by simpa [Value.ownBlock] using hk
    rcases hm with h | h | h
    · omega
    · omega
    · have := hd3.own_lt k h; omega
  rintro e w5 ⟨rfl, v5, hd5, hv5, hk5⟩
  rw [show ([] ++ [(1, fillL 120)] : List (Nat × List UInt8)) = [(1, fillL 120)] from rfl, kept_none] at hd5
  have hl5 : (kepts (([(1, fillL 120)] : List (Nat × List UInt8)).filter (spanB 0 2)) (zeros 4) [((0 : Int), (3 : Int))]).length = 4 := by rw [kepts_len]; rfl
  have h13 := kept_3
  generalize kepts (([(1, fillL 120)] : List (Nat × List UInt8)).filter (spanB 0 2)) (zeros 4) [((0 : Int), (3 : Int))] = lie5 at hd5 hl5 h13
  have hkall : Kept (fun b => w.heap.size ≤ b) w w5 := by
    have k1 : Kept (fun b => w.heap.size ≤ b) w w2 := Kept.of_below (hb1.trans (hb2.mono hb1.size))
    have k2 : Kept (fun b => w.heap.size ≤ b) w2 w3 := hk3.mono fun b _ hm => by
      rcases hm with h | h | h
      · omega
      · omega
      · cases h
    have k3 : Kept (fun b => w.heap.size ≤ b) w3 w5 := (Kept.of_below hbk).trans (hk5.mono fun b _ hm => by
      rcases hm with h | h | h
      · omega
      · omega
      · rcases hv3 b h with h | h
        · cases h
        · omega)
    exact k1.trans (k2.trans k3)
  have hb5 := hkall.below (Nat.le_refl _) (fun _ h => h)
  clear hkall hkeeps hk5 hk3 hv3 hbk
  go_wp2_with fail
  refine (read_in _ _ _ _ _ _ 1 stayed hd5 h13 (by decide)).mono ?_
  rintro e w4 ⟨rfl, rfl⟩
  rw [show (⟨(rd [] 1 stayed).toArray⟩ : ByteArray) = C from hC.out]
  go_wp2_with fail
  have hCe : C.toList = ((⟨#[120, 120, 120]⟩ : ByteArray) ++ Z.extract 3 64).toList := by rw [← hC.out, ← hZ.out, str_eq]
  have hZs : Z.size = 64 := by rw [← hZ.out]; rfl
  refine (fill_x _).mono ?_
  rintro e w6 ⟨rfl, hb6⟩
  rw [hX.out]
  go_wp2_with fail
  refine (fill_0 _).mono ?_
  rintro e w7 ⟨rfl, hb7⟩
  rw [hZ.out]
  go_wp2_with fail
  refine (fill_0 _).mono ?_
  rintro e w8 ⟨rfl, hb8⟩
  rw [hZ.out]
  have hbb := hb6.trans ((hb7.trans (hb8.mono hb7.size)).mono hb6.size)
  have hd8 := hd5.below hbb
  go_wp2_with fail
  refine (size_any _ _ _ _ _ _ hd8).mono ?_
  rintro e w9 ⟨rfl, rfl⟩
  rw [hl5]
  go_wp2_with fail
  go_ret
  exact ⟨rfl, hb5.trans (hbb.mono hb5.size)⟩
end Go.Proofs.Ytgomhnclmacleaa.D
