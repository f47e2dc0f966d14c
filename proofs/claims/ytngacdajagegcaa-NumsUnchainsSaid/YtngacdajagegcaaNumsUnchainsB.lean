/- A part of the proof of NumsUnchains. -/
import Derived.Test.YtngacdajagegcaaRows
import Derived.Test.YtngacdajagegcaaSome
import Derived.Test.YtngacdajagegcaaChainBack
import Derived.Test.YtngacdajagegcaaWorld
import Derived.Deep.RegionWith
import Derived.ChangeOld
import Derived.ShutString
namespace Go.Proofs.Ytngacdajagegcaa.numsUnchains
open Go.ChangeShapes Go.WideShapes Go.ChangeAt Go.RowKit
open Go.ChangeMaps (open_string shut_string)
open Go.Proofs.Ytngacdajagegcaa.M Go.Proofs.Ytngacdajagegcaa.W
set_option linter.unusedVariables false

theorem take_extract (s : ByteArray) (n : Int) (v : Int) (h : unch s.data.toList = (v, n, 0)) : B (chain v) = s.extract 0 n.toNat := by
  rw [chain_unch _ _ _ h]
  unfold B
  apply ByteArray.ext
  apply Array.toList_inj.1
  simp [ByteArray.data_extract, Array.toList_extract]

set_option maxHeartbeats 4000000 in
theorem walk_good (a0 : ByteArray) (w : World) (hl : ¬ 100 < a0.size) (v n : Int) (hv0 : 0 ≤ v) (hv1 : v < 18446744073709551616) (hn1 : 1 ≤ n) (hn2 : n ≤ a0.size) (hU : unch a0.data.toList = (v, n, 0)) :
    Calls Try.prog 5 #[.string a0] w fun e w' => e = .returned (.bool true) ∧ Below w.heap.size w w' := by
  have hC := Lib.hid (take_extract a0 n v hU)
  replace hU := Lib.hid hU
  go_enter Try.func5, Try.ntmps5
  go_wp2_with fail
  refine (unchain_any a0 _ (by omega)).mono ?_
  rintro e w1 ⟨rfl, rfl⟩
  rw [hU.out]
  go_wp2_with fail
  refine (runchain_any a0 _ (by omega)).mono ?_
  rintro e w1 ⟨rfl, rfl⟩
  rw [hU.out]
  go_wp2_with fail
  generalize hw2 : World.alloc _ _ = w2
  have hb0 : Below w.heap.size w w2 := by rw [← hw2]; exact (((Below.refl _ _).alloc (Nat.le_refl _) _).alloc (by simp) _)
  clear hw2
  first | go_region_with (first | (go_at_call 21; refine (chain_any v _ hv0 hv1).mono ?_; rintro e w' ⟨rfl, hb1⟩; rw [hC.out]) | (go_at_call 15; refine (some_any _).mono ?_; rintro e w3 ⟨rfl, hb2⟩)) | fail
  all_goals go_wp2_with fail
  all_goals go_ret
  all_goals exact ⟨rfl, ((hb0.drew.trans (hb1.mono hb0.size)).trans (hb2.mono (Nat.le_trans hb0.size hb1.size)))⟩
end Go.Proofs.Ytngacdajagegcaa.numsUnchains
