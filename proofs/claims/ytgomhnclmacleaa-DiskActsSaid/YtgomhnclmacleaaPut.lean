/- The disk: a new one; a sector of one byte; a write that is let wait. -/
import Derived.Test.YtgomhnclmacleaaProg
import Derived.Test.YtgomhnclmacleaaWait
import Derived.Lib.LazyBuf
import Derived.RowKit
namespace Go.Proofs.Ytgomhnclmacleaa.D
open Go.RowKit
set_option linter.unusedVariables false
attribute [local go_sem ↓] Go.wp_at_zero Go.wp_at_succ

theorem made_one (c : Value) (m k : Nat) (hk : 0 < k) : (madeCells (Array.replicate k c) m).toList = List.replicate m c := by
  apply List.ext_getElem?
  intro j
  by_cases hj : j < m
  · have hlt : j % k < k := Nat.mod_lt _ hk
    simp [madeCells, hj, hlt]
  · simp [madeCells, hj]
theorem infoSector : (Try.prog.info? 106).map (fun i => (i.zero, i.size, i.bytes)) = some (some (.agg (Array.replicate 64 (.int .u8 0))), 64, 64) := by kernel_rfl
theorem infoByte : (Try.prog.info? 5).map (fun i => (i.zero, i.size, i.bytes)) = some (some (.int .u8 0), 1, 1) := by kernel_rfl
theorem infoWrite : (Try.prog.info? 108).map (fun i => (i.zero, i.size, i.bytes)) = some (some (.agg (#[.int .i64 0] ++ Array.replicate 64 (.int .u8 0))), 65, 72) := by kernel_rfl
theorem run_make_rowN {P : Program} (t e : TypeId) (i : TypeInfo) (z : Value) (ht : P.underlying t = some (.slice e)) (hi : P.info? e = some i) (hz : i.zero = some z)
    (kl kc : IntKind) (n : Nat) (hbytes : i.bytes * n ≤ 281474976710656) (h63 : n ≤ 9223372036854775807) (w : World) :
    (Instr.makeSlice t (.int kl (n : Int)) (.int kc (n : Int))).run P w = .ok (.slice (some ⟨w.heap.size, 0, none⟩) n n) (w.alloc (.cells (madeCells z.cells (n * i.size)) e)) := by
  have hb : (i.bytes : Int) * (n : Int) ≤ 281474976710656 := by
    have h : ((i.bytes * n : Nat) : Int) ≤ 281474976710656 := by omega
    rwa [Int.natCast_mul] at h
  have hr := run_make (P := P) w t e i z ht hi hz kl kc n n (by omega) (by omega) hb (by omega)
  simp only [Int.toNat_natCast] at hr
  exact hr
theorem flat_zero : ∀ n : Nat, (((List.replicate n (List.replicate 64 (0 : UInt8))).map bytesV).flatten) = List.replicate (n * 64) (.int .u8 0)
  | 0 => by simp
  | n + 1 => by
    have ih := flat_zero n
    rw [List.replicate_succ, List.map_cons, List.flatten_cons, ih, Nat.succ_mul, Nat.add_comm, ← List.replicate_append_replicate]
    congr 1

/-- What lies on a new disk. -/
def zeros (n : Nat) : List (List UInt8) := List.replicate n (List.replicate 64 0)
/-- What New answers. -/
def NewDisk (w : World) (n : Nat) (e : Ending) (w' : World) : Prop :=
  e = .returned (.tuple #[.pointer (some ⟨w.heap.size + 1, 0, none⟩), .int .i64 0]) ∧ Dk w' (w.heap.size + 1) w.heap.size (.slice none 0 0) (zeros n) [] ∧ Below w.heap.size w w'
set_option maxRecDepth 100000 in
theorem new_in (n : Nat) (w : World) (h1 : 1 ≤ n) (h2 : n ≤ 8192) :
    Calls Try.prog 15 #[.int .i64 n] w (NewDisk w n) := by
  obtain ⟨i0, hi0, hz0, hz1, hz2⟩ := info_parts infoSector
  have hmk := fun W => run_make_rowN (P := Try.prog) 92 106 i0 _ Try.underlying92 hi0 hz0 .i64 .i64 n (by rw [hz2]; omega) (by omega) W
  rw [hz1, show (Value.agg (Array.replicate 64 (.int .u8 0))).cells = Array.replicate 64 (.int .u8 0) from rfl] at hmk
  obtain ⟨cs, hcs⟩ : ∃ cs, Hid (madeCells (Array.replicate 64 (Value.int .u8 0)) (n * 64) = cs) := ⟨_, Lib.hid rfl⟩
  rw [hcs.out] at hmk
  go_enter Try.func15, Try.ntmps15
  go_wp2_with fail
  clear hmk
  go_ret2
  have hl : cs.toList = ((zeros n).map bytesV).flatten := by rw [← hcs.out, made_one _ _ _ (by omega)]; exact (flat_zero n).symm
  have hlen : (zeros n).length = n := by simp [zeros]
  refine ⟨rfl, ⟨?_, ?_, ⟨by simp, .inl ⟨rfl, rfl⟩⟩, fun s hs => ?_, fun p hp => by simp at hp, by rw [hlen]; exact h1, by rw [hlen]; exact h2, fun p hp => by simp at hp⟩, (allocBelow w _).alloc (by simp) _⟩
  · rw [hlen]
    have := Whole.new (w.alloc (.cells cs 106)) 95 [.slice (some ⟨w.heap.size, 0, none⟩) n n, .slice none 0 0]
    simpa using this
  · rw [← hl]
    have := (Whole.new w 106 cs.toList).alloc (.cells #[.slice (some ⟨w.heap.size, 0, none⟩) n n, .slice none 0 0] 95)
    simpa using this
  · rw [zeros, List.mem_replicate] at hs
    rw [hs.2]; simp
theorem new_out (n : Int) (w : World) (h : n < 1 ∨ 8192 < n) :
    Calls Try.prog 15 #[.int .i64 n] w fun e w' => e = .returned (.tuple #[.pointer none, .int .i64 1]) ∧ w = w' := by
  by_cases h1 : n < 1
  · clear h
    go_enter Try.func15, Try.ntmps15
    go_wp2_with fail
    go_ret2
    exact ⟨rfl, rfl⟩
  · have h2 : 8192 < n := by omega
    have hd : decide (n < 1) = false := by simp; omega
    clear h h1
    go_enter Try.func15, Try.ntmps15
    go_wp2_with fail
    go_ret2
    exact ⟨rfl, rfl⟩

def fillL (c : UInt8) : List UInt8 := List.replicate 64 c
set_option maxRecDepth 100000 in
theorem fill_any (c : UInt8) (w : World) :
    Calls Try.prog 52 #[.int .u8 (c.toNat : Int)] w fun e w' => e = .returned (.string ⟨(fillL c).toArray⟩) ∧ Below w.heap.size w w' := by
  obtain ⟨i0, hi0, hz0, hz1, hz2⟩ := info_parts infoByte
  have hmk := fun W => run_make_rowN (P := Try.prog) 89 5 i0 _ Try.underlying89 hi0 hz0 .i64 .i64 64 (by rw [hz2]; omega) (by omega) W
  rw [hz1, show (Value.int .u8 0).cells = Array.replicate 1 (.int .u8 0) from rfl] at hmk
  obtain ⟨cs, hcs⟩ : ∃ cs, Hid (madeCells (Array.replicate 1 (Value.int .u8 0)) (64 * 1) = cs) := ⟨_, Lib.hid rfl⟩
  rw [hcs.out] at hmk
  replace hmk : ∀ W : World, (Instr.makeSlice 89 (.int .i64 64) (.int .i64 64)).run Try.prog W = .ok (.slice (some ⟨W.heap.size, 0, none⟩) 64 64) (W.alloc (.cells cs 5)) := fun W => hmk W
  have hl : cs.toList = List.replicate 64 (.int .u8 0) := by rw [← hcs.out, made_one _ _ _ (by omega)]
  have hW0 : Whole (w.alloc (.cells cs 5)) w.heap.size 5 (List.replicate 0 (u8v c) ++ List.replicate (64 - 0) (.int .u8 0)) := by
    have := Whole.new w 5 cs.toList
    rw [hl] at this
    have e : cs = (List.replicate 64 (Value.int .u8 0)).toArray := by rw [← hl]
    rw [e]; exact this
  have hc := c.toNat_lt
  replace hW0 := Lib.hid hW0
  replace hl := Lib.hid hl
  go_enter Try.func52, Try.ntmps52
  go_wp2_with fail
  clear hmk
  go_loopg [8] 64 (fun g i wr => ∃ k : Nat, k ≤ 64 ∧ 64 ≤ k + g ∧ i = .int .i64 k ∧ Whole wr w.heap.size 5 (List.replicate k (u8v c) ++ List.replicate (64 - k) (.int .u8 0)) ∧ Below w.heap.size w wr)
  case atStart => exact ⟨0, by omega, by omega, rfl, hW0.out, allocBelow w _⟩
  case round =>
    clear hW0
    obtain ⟨k, hk, hg, rfl, hW, hbel⟩ := hrel
    by_cases hlt : k < 64
    · have hcell : wr.cell? ⟨w.heap.size, k, none⟩ = some (.int .u8 0) := by
        rw [hW.cell, List.getElem?_append_right (by simp), List.length_replicate, Nat.sub_self, List.getElem?_replicate, if_pos (by omega)]
      have hfr := hW.frozen k
      have hst := (hW.store k [u8v c] (by simp; omega))
      have e : splice (List.replicate k (u8v c) ++ List.replicate (64 - k) (Value.int .u8 0)) k [u8v c] = List.replicate (k + 1) (u8v c) ++ List.replicate (64 - (k + 1)) (.int .u8 0) := by
        unfold splice
        rw [List.take_append, List.length_replicate, show k - k = 0 by omega, List.take_zero, List.append_nil, List.take_of_length_le (by simp), List.drop_append, List.length_replicate, List.drop_eq_nil_of_le (by simp), List.nil_append, List.drop_replicate,
          ← List.replicate_append_replicate, List.append_assoc]
        congr 2
        simp only [List.length_singleton]
        rw [show 64 - k - (k + 1 - k) = 64 - (k + 1) by omega]
      rw [e] at hst
      replace hst := Lib.hid hst
      have hbel2 := hbel.setCell (p := ⟨w.heap.size, k, none⟩) (Nat.le_refl _) (u8v c)
      clear hW e
      go_wp2_with fail
      go_roundg (gk - 1)
      case measure => omega
      case rel => exact ⟨k + 1, by omega, by omega, by go_num, hst.out, hbel2⟩
    · obtain rfl : k = 64 := by omega
      have hr : wr.rangeAt w.heap.size 0 (bytesV (fillL c)) := by
        have e : bytesV (fillL c) = List.replicate 64 (u8v c) ++ List.replicate (64 - 64) (Value.int .u8 0) := by simp [bytesV, fillL]
        rw [e]; exact hW.range
      have hcv := convBytes 64 hr
      rw [show (fillL c).length = 64 by simp [fillL]] at hcv
      clear hW hr
      go_wp2_with fail
      go_ret
      exact ⟨rfl, hbel⟩
end Go.Proofs.Ytgomhnclmacleaa.D
