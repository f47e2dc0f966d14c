/- The walk of the small case that each law of layer 9 asks; a sealed sector's text. -/
import Derived.Test.YtkmlmondhmpkkaaProg
import Derived.Test.YtkmlmondhmpkkaaSeal
import Derived.Test.YtkmlmondhmpkkaaOpenSealed
import Derived.Test.YtkmlmondhmpkkaaPut
namespace Go.Proofs.Ytkmlmondhmpkkaa.W
open Go.RowKit
open Go.Proofs.Ytkmlmondhmpkkaa.M
open Go.Proofs.Ytkmlmondhmpkkaa.D
open Go.Proofs.Ytkmlmondhmpkkaa.Z
set_option linter.unusedVariables false

/-- Bytes 0. -/
def zerosB (n : Nat) : ByteArray := B (List.replicate n 0)
theorem zerosB_size (n : Nat) : (zerosB n).size = n := by unfold zerosB; rw [B_size]; simp
/-- 'make([]byte, n)', and its string. -/
theorem zero_string (n : Nat) (cs : Array Value) (hcs : cs.toList = List.replicate n (.int .u8 0)) (W : World) :
    (convert 39 9 (.slice (some ⟨W.heap.size, 0, none⟩) n n)).run Try.prog (W.alloc (.cells cs 5)) = .ok (.string (zerosB n)) (W.alloc (.cells cs 5)) := by
  have hW := Whole.new W 5 (bytesV (List.replicate n 0))
  have e : bytesV (List.replicate n 0) = cs.toList := by rw [hcs]; unfold bytesV; rw [List.map_replicate]; rfl
  rw [e] at hW
  have hR : Whole (W.alloc (.cells cs 5)) W.heap.size 5 (bytesV (List.replicate n 0)) := by rw [e]; exact hW
  exact (rowOf hR).back 39 9 5 n n (by simp) Try.underlying39 Try.underlying5 Try.underlying9
theorem make_bytes (n : Nat) (hn : n ≤ 281474976710656) : ∃ cs : Array Value, cs.toList = List.replicate n (.int .u8 0) ∧
    ∀ W : World, (Instr.makeSlice 39 (.int .i64 (n : Int)) (.int .i64 (n : Int))).run Try.prog W = .ok (.slice (some ⟨W.heap.size, 0, none⟩) n n) (W.alloc (.cells cs 5)) := by
  obtain ⟨i0, hi0, hz0, hz1, hz2⟩ := info_parts infoByte
  have hmk := fun W => run_make_rowN (P := Try.prog) 39 5 i0 _ Try.underlying39 hi0 hz0 .i64 .i64 n (by rw [hz2]; omega) (by omega) W
  rw [hz1, show (Value.int .u8 0).cells = Array.replicate 1 (.int .u8 0) from rfl, Nat.mul_one] at hmk
  exact ⟨_, made_one _ _ _ (by omega), hmk⟩

/-- A sealed sector as it is known to be, or none. -/
theorem opens_zero (n : Nat) : ¬ opensS (zerosB n) := by
  intro h
  have hc := h.2.1
  rw [count_take] at hc
  unfold zerosB at hc
  rw [B_data] at hc
  apply hc
  rw [List.take_replicate, List.drop_replicate]
  generalize min 6 n - 4 = k
  induction k with
  | zero => rfl
  | succ k ih => rw [List.replicate_succ, rd_cons, ih]; simp

theorem text_any (st c : Int) (dl : List UInt8) (w : World) (hd : dl.length = 52) :
    Calls Try.prog 13 #[.agg (sealedV st c dl).toArray] w fun e w' => e = .returned (.string (B dl)) ∧ Below w.heap.size w w' := by
  have hW := Whole.new w 25 (sealedV st c dl)
  have hl := sealedV_len st c dl
  obtain ⟨V, hV⟩ : ∃ V, Hid (sealedV st c dl = V) := ⟨_, Lib.hid rfl⟩
  have hcv := fun (W : World) (b : Nat) (h : Whole W b 25 (sealedV st c dl)) => run_convert_bytes_back (P := Try.prog) W 39 9 5 ⟨b, 2, none⟩ 52 dl Try.underlying39 Try.underlying5 Try.underlying9 (fun j hj => by
    rw [show (⟨b, 2, none⟩ : Addr).add j = ⟨b, 2 + j, none⟩ from by simp [Addr.add]]
    rw [h.cell, Nat.add_comm]
    show (bytesV dl)[j]? = _
    unfold bytesV
    rw [List.getElem?_map, List.getElem?_eq_getElem hj]
    rfl)
  rw [hd] at hcv
  replace hcv := hcv _ _ hW
  rw [hV.out] at hcv ⊢
  go_enter Try.func13, Try.ntmps13
  go_wp2_with fail
  go_ret
  exact ⟨rfl, (Below.refl _ _).alloc (Nat.le_refl _) _⟩

set_option maxRecDepth 100000 in
set_option maxHeartbeats 2000000 in
theorem two_any (w : World) :
    Calls Try.prog 9 #[] w fun e w' => e = .returned (.bool true) ∧ Below w.heap.size w w' := by
  obtain ⟨c51, hc51, hm51⟩ := make_bytes 51 (by omega)
  obtain ⟨c64, hc64, hm64⟩ := make_bytes 64 (by omega)
  replace hm51 : ∀ W : World, (Instr.makeSlice 39 (.int .i64 51) (.int .i64 51)).run Try.prog W = .ok (.slice (some ⟨W.heap.size, 0, none⟩) 51 51) (W.alloc (.cells c51 5)) := fun W => hm51 W
  replace hm64 : ∀ W : World, (Instr.makeSlice 39 (.int .i64 64) (.int .i64 64)).run Try.prog W = .ok (.slice (some ⟨W.heap.size, 0, none⟩) 64 64) (W.alloc (.cells c64 5)) := fun W => hm64 W
  have hs51 := zero_string 51 c51 hc51
  have hs64 := zero_string 64 c64 hc64
  have hz51 := zerosB_size 51
  have hDz : (zerosB 51 ++ (⟨#[120]⟩ : ByteArray)).size = 52 := by rw [ByteArray.size_append, hz51]; rfl
  obtain ⟨Z, hZ⟩ : ∃ Z, Hid (zerosB 51 = Z) := ⟨_, Lib.hid rfl⟩
  rw [hZ.out] at hs51 hz51 hDz
  obtain ⟨D, hD⟩ : ∃ D, Hid (Z ++ (⟨#[120]⟩ : ByteArray) = D) := ⟨_, Lib.hid rfl⟩
  rw [hD.out] at hDz
  have hDl : D.data.toList.length = 52 := by simpa using hDz
  obtain ⟨o1, o2, o3, o4⟩ := open_seal 1 2 D.data.toList (by omega) (by omega) (by omega) hDl
  rw [B_of] at o4
  have hse : ∀ W : World, Calls Try.prog 12 #[.int .u32 1, .int .i64 2, .string D] W fun e w' => e = .returned (.tuple #[.string (B (sealL 1 2 D.data.toList)), .int .i64 0]) ∧ Below W.heap.size W w' := fun W => seal_yes 1 2 D W (by omega) (by omega) (by omega) hDz
  have hop := fun W => open_yes (B (sealL 1 2 D.data.toList)) W o1
  rw [o2, o3, o4] at hop
  replace hop : ∀ W : World, Calls Try.prog 10 #[.string (B (sealL 1 2 D.data.toList))] W fun e w' => e = .returned (.tuple #[.int .u32 1, .int .i64 2, .string D, .int .i64 0]) ∧ Below W.heap.size W w' := fun W => hop W
  have hSz := o1.1
  have hS6 : ((B (sealL 1 2 D.data.toList)).extract 0 6).toList = [0, 0, 0, 1, 0, 2] := by
    rw [ByteArray.toList_eq, ext_list, B_data, List.drop_zero, sealL_take]
    decide
  have hSe : ((B (sealL 1 2 D.data.toList)).extract 58 64).toList = [0, 0, 0, 1, 0, 2] := by rw [o1.2.2]; exact hS6
  obtain ⟨S, hS⟩ : ∃ S, Hid (B (sealL 1 2 D.data.toList) = S) := ⟨_, Lib.hid rfl⟩
  rw [hS.out] at hse hop hSz hS6 hSe
  have hno := fun W => open_no (zerosB 64) W (by rw [zerosB_size]; omega) (opens_zero 64)
  obtain ⟨Z4, hZ4⟩ : ∃ Z4, Hid (zerosB 64 = Z4) := ⟨_, Lib.hid rfl⟩
  rw [hZ4.out] at hno hs64
  have hDD := bytes_eq (rfl : D = D)
  replace hse := Lib.hid hse
  replace hop := Lib.hid hop
  replace hno := Lib.hid hno
  clear o1 o2 o3 o4 hc51 hc64 hDl hS
  go_enter Try.func9, Try.ntmps9
  go_wp2_with fail
  rw [hD.out]
  refine (hse.out _).mono ?_
  rintro e w1 ⟨rfl, hb1⟩
  go_wp2_with fail
  refine (hop.out _).mono ?_
  rintro e w2 ⟨rfl, hb2⟩
  go_wp2_with fail
  refine (hno.out _).mono ?_
  rintro e w3 ⟨rfl, hb3⟩
  go_wp2_with fail
  go_quiet (fail)
  go_wp2_with fail
  go_ret
  exact ⟨rfl, drewS (grew (grewAlloc (grew (grew (grewAlloc (Below.refl _ w) _) hb1) hb2) _) hb3) nq⟩
end Go.Proofs.Ytkmlmondhmpkkaa.W
