/- The walks of package seal. The walks of the definition of seals. -/
import Derived.Test.YtgogackkeodciabGreatDoorProg
import Derived.Test.YtgogackkeodciabGreatDoorSealM
import Derived.Test.YtgogackkeodciabGreatDoorFixed
import Derived.Test.YtgogackkeodciabGreatDoorClone
import Derived.Test.YtgogackkeodciabGreatDoorCopyStr
import Derived.Test.YtgogackkeodciabGreatDoorPut
import Derived.Test.YtgogackkeodciabGreatDoorStops
import Derived.Test.YtgogackkeodciabGreatDoorWorld
import Derived.Test.YtgogackkeodciabGreatDoorCells
import Derived.Deep.QuietTactic
import Derived.BigQuiet
section
namespace Go.Proofs.YtgogackkeodciabGreatDoor.W
open Go.RowKit
open Go.Proofs.YtgogackkeodciabGreatDoor.M
open Go.Proofs.YtgogackkeodciabGreatDoor.D
open Go.Proofs.YtgogackkeodciabGreatDoor.Z
set_option linter.unusedVariables false

theorem sealOf_any (st c : Nat) (w : World) (h1 : st < 4294967296) (h2 : c < 65536) :
    Calls Tryz.prog 119 #[.int .u32 st, .int .i64 c] w fun e w' => e = .returned (.string (B (sealB st c))) ∧ Below w.heap.size w w' := by
  have ho := Lib.hid (seal_or st c h1 h2)
  have hn := Lib.hid (seal_num st c h1 h2)
  obtain ⟨V, hV⟩ : ∃ V : Nat, Hid (st * 65536 + c = V) := ⟨_, Lib.hid rfl⟩
  have v1 : V < 281474976710656 := by have := hV.out; omega
  rw [hV.out] at ho hn
  have hf := Lib.hid (fits_small (V : Int) 6 (by show (V : Int) / 281474976710656 = 0; omega) (by omega) (by omega))
  go_enter Tryz.func119, Tryz.ntmps119
  go_wp2_with fail
  rw [ho.out]
  refine (fixed_yes (V : Int) 6 _ (by omega) (by omega) hf.out).mono ?_
  rintro e w1 ⟨rfl, hb⟩
  go_wp2_with fail
  go_ret
  exact ⟨ret_str (by rw [← hn.out]), hb⟩

/-- What Open tells of bytes that do not open. -/
abbrev noSeal : Value := .tuple #[.int .u32 0, .int .i64 0, .string ⟨#[]⟩, .int .i64 4]

theorem seal_no (st c : Int) (d : ByteArray) (w : World) (hs : d.size ≤ 1000000) (h : ¬ (1 ≤ c ∧ c ≤ 65535 ∧ d.size = 52)) :
    Calls Tryz.prog 105 #[.int .u32 st, .int .i64 c, .string d] w fun e w' => e = .returned (.tuple #[.string ⟨#[]⟩, .int .i64 1]) ∧ w = w' := by
  by_cases h1 : c < 1
  · clear h
    go_enter Tryz.func105, Tryz.ntmps105
    go_wp2_with fail
    go_ret2
    exact ⟨rfl, rfl⟩
  by_cases h2 : 65535 < c
  · clear h
    go_enter Tryz.func105, Tryz.ntmps105
    go_wp2_with fail
    go_ret2
    exact ⟨rfl, rfl⟩
  have hne : ((d.size : Int) != 52) = true := by simp; omega
  replace h1 : 1 ≤ c := by omega
  replace h2 : c ≤ 65535 := by omega
  clear h
  go_enter Tryz.func105, Tryz.ntmps105
  go_wp2_with fail
  go_ret2
  exact ⟨rfl, rfl⟩

set_option maxRecDepth 100000 in
theorem seal_yes (st c : Nat) (d : ByteArray) (w : World) (l1 : st < 4294967296) (h1 : 1 ≤ c) (h2 : c ≤ 65535) (hd : d.size = 52) :
    Calls Tryz.prog 105 #[.int .u32 st, .int .i64 c, .string d] w fun e w' => e = .returned (.tuple #[.string (B (sealL st c d.data.toList)), .int .i64 0]) ∧ Below w.heap.size w w' := by
  have hne : ((d.size : Int) != 52) = false := by simp [hd]
  have hb6 := sealB_len st c
  have hB6 : (B (sealB st c)).size = 6 := by rw [B_size, hb6]
  have hdl : d.data.toList.length = 52 := by simpa using hd
  have h3 := Lib.hid (three_splices (sealB st c) d.data.toList hb6 hdl)
  obtain ⟨M6, hM⟩ : ∃ M6, Hid (B (sealB st c) = M6) := ⟨_, Lib.hid rfl⟩
  have hso : Hid (∀ W : World, Calls Tryz.prog 119 #[.int .u32 st, .int .i64 c] W fun e w' => e = .returned (.string M6) ∧ Below W.heap.size W w') := Lib.hid (fun W => by
    have := sealOf_any st c W l1 (by omega)
    rw [hM.out] at this
    exact this)
  have hMd : Hid (sealB st c = M6.data.toList) := Lib.hid (by rw [← hM.out, B_data])
  rw [hM.out] at hB6
  have hLl : (sealL st c d.data.toList).length = 64 := by rw [sealL_len, hdl]
  obtain ⟨L, hL⟩ : ∃ L, Hid (sealL st c d.data.toList = L) := ⟨_, Lib.hid rfl⟩
  have hLe : Hid (sealB st c ++ d.data.toList ++ sealB st c = L) := Lib.hid hL.out
  rw [hL.out] at hLl ⊢
  rw [hLe.out, hMd.out] at h3
  clear hb6 hdl hM
  go_enter Tryz.func105, Tryz.ntmps105
  go_wp2_with fail
  refine (hso.out _).mono ?_
  rintro e w1 ⟨rfl, hb1⟩
  go_wp2_with (with_reducible refine zCopy _ _ _ _ rfl ?_)
  refine Lib.hid ?_
  have hW0 : Whole (w1.alloc (.cells (List.replicate 64 (Value.int .u8 0)).toArray 158)) w1.heap.size 158 (List.replicate 64 (Value.int .u8 0)) := Whole.new w1 158 _
  have hk0 : Below w.heap.size w (w1.alloc (.cells (List.replicate 64 (Value.int .u8 0)).toArray 158)) := hb1.alloc hb1.size _
  have hg := hb1.size
  obtain ⟨g, hgg⟩ : ∃ g, Hid (w1.heap.size = g) := ⟨_, Lib.hid rfl⟩
  rw [hgg.out] at hW0 hg ⊢
  refine wpList_copy_text rfl _ _ rfl g 0 6 64 rfl M6 rfl (by omega) 158 _ hW0 (by simp; omega) ?_
  intro w2 hW1 hk1 hsz1
  replace hk1 := (hk1 (fun k => k = g) w (.inl rfl) (Kept.of_below hk0))
  clear hW0 hk0 hsz1 hb1 hgg
  go_wp2_with (with_reducible refine zCopy _ _ _ _ rfl ?_)
  refine Lib.hid ?_
  refine wpList_copy_text rfl _ _ rfl g 6 52 58 rfl d rfl (by omega) 158 _ hW1 (by rw [length_splice _ _ _ (by rw [bytesV_len]; simp; omega)]; simp; omega) ?_
  intro w3 hW2 hk2 hsz2
  replace hk2 := hk2 (fun k => k = g) w (.inl rfl) hk1
  clear hW1 hk1 hsz2
  go_wp2_with (with_reducible refine zCopy _ _ _ _ rfl ?_)
  refine Lib.hid ?_
  refine wpList_copy_text rfl _ _ rfl g 58 6 6 rfl M6 rfl (by omega) 158 _ hW2 (by rw [length_splice _ _ _ (by rw [bytesV_len, length_splice _ _ _ (by rw [bytesV_len]; simp; omega)]; simp; omega), length_splice _ _ _ (by rw [bytesV_len]; simp; omega)]; simp; omega) ?_
  intro w4 hW3 hk3 hsz3
  replace hk3 := (hk3 (fun k => k = g) w (.inl rfl) hk2).below (Nat.le_refl _) (fun k e => by omega)
  rw [h3.out] at hW3
  have hcv := (rowOf hW3).back (P := Tryz.prog) 71 9 5 64 64 hLl.symm Tryz.underlying71 Tryz.underlying5 Tryz.underlying9
  clear hW2 hk2 hW3 hsz3
  go_wp2_with fail
  go_ret2
  exact ⟨rfl, hk3⟩
end Go.Proofs.YtgogackkeodciabGreatDoor.W
end
section
namespace Go.Proofs.YtgogackkeodciabGreatDoor.W
open Go.RowKit
open Go.Proofs.YtgogackkeodciabGreatDoor.M
open Go.Proofs.YtgogackkeodciabGreatDoor.D
open Go.Proofs.YtgogackkeodciabGreatDoor.Z
set_option linter.unusedVariables false

/-- May there be such a sealed sector? -/
def mayB (c : Int) (n : Nat) : Bool := decide (1 ≤ c ∧ c ≤ 65535 ∧ n = 52)
theorem farStore {w W : World} {b : Nat} (hb : Below w.heap.size w W) (hB : w.heap.size ≤ b) (o : Nat) (vs : List Value) : Below w.heap.size w (W.setCells b o vs) :=
  hb.trans (((Kept.refl (fun q => q = b) W).setCells (c := b) (.inl rfl) o vs).below hb.size (fun q hq => by omega))
/-- What the definition of Open tells. -/
abbrev gotYes (st c : Nat) (d : ByteArray) : Value := .agg #[.int .u32 st, .int .i64 c, .string d, .bool true]
abbrev gotNo : Value := .agg #[.int .u32 0, .int .i64 0, .string ⟨#[]⟩, .bool false]
end Go.Proofs.YtgogackkeodciabGreatDoor.W
end
