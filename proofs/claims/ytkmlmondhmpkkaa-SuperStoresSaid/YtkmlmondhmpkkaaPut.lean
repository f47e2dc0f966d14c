/- The disk: a new one; a sector of one byte; a write that is let wait. -/
import Derived.Test.YtkmlmondhmpkkaaProg
import Derived.Test.YtkmlmondhmpkkaaWait
import Derived.Lib.LazyBuf
import Derived.RowKit
namespace Go.Proofs.Ytkmlmondhmpkkaa.D
open Go.RowKit
set_option linter.unusedVariables false
attribute [local go_sem ↓] Go.wp_at_zero Go.wp_at_succ

theorem made_one (c : Value) (m k : Nat) (hk : 0 < k) : (madeCells (Array.replicate k c) m).toList = List.replicate m c := by
  apply List.ext_getElem?
  intro j
  by_cases hj : j < m
  · have hlt : j % k < k := Nat.mod_lt _ hk
    simp [madeCells, hj, hlt]
  · simp [madeCells, hj]
theorem infoSector : (Try.prog.info? 122).map (fun i => (i.zero, i.size, i.bytes)) = some (some (.agg (Array.replicate 64 (.int .u8 0))), 64, 64) := by kernel_rfl
theorem infoByte : (Try.prog.info? 5).map (fun i => (i.zero, i.size, i.bytes)) = some (some (.int .u8 0), 1, 1) := by kernel_rfl
theorem infoWrite : (Try.prog.info? 124).map (fun i => (i.zero, i.size, i.bytes)) = some (some (.agg (#[.int .i64 0] ++ Array.replicate 64 (.int .u8 0))), 65, 72) := by kernel_rfl
theorem run_make_rowN {P : Program} (t e : TypeId) (i : TypeInfo) (z : Value) (ht : P.underlying t = some (.slice e)) (hi : P.info? e = some i) (hz : i.zero = some z)
    (kl kc : IntKind) (n : Nat) (hbytes : i.bytes * n ≤ 281474976710656) (h63 : n ≤ 9223372036854775807) (w : World) :
    (Instr.makeSlice t (.int kl (n : Int)) (.int kc (n : Int))).run P w = .ok (.slice (some ⟨w.heap.size, 0, none⟩) n n) (w.alloc (.cells (madeCells z.cells (n * i.size)) e)) := by
  have hb : (i.bytes : Int) * (n : Int) ≤ 281474976710656 := by
    have h : ((i.bytes * n : Nat) : Int) ≤ 281474976710656 := by omega
    rwa [Int.natCast_mul] at h
  have hr := run_make (P := P) w t e i z ht hi hz kl kc n n (by omega) (by omega) hb (by omega)
  simp only [Int.toNat_natCast] at hr
  exact hr
theorem flat_zero : ∀ n : Nat, (((List.replicate n (List.replicate 64 (0 : UInt8))).map bytesV).flatten) = List.replicate (n * 64) (.int .u8 0)
  | 0 => by simp
  | n + 1 => by
    have ih := flat_zero n
    rw [List.replicate_succ, List.map_cons, List.flatten_cons, ih, Nat.succ_mul, Nat.add_comm, ← List.replicate_append_replicate]
    congr 1

/-- What lies on a new disk. -/
def zeros (n : Nat) : List (List UInt8) := List.replicate n (List.replicate 64 0)
/-- What New answers. -/
def NewDisk (w : World) (n : Nat) (e : Ending) (w' : World) : Prop :=
  e = .returned (.tuple #[.pointer (some ⟨w.heap.size + 1, 0, none⟩), .int .i64 0]) ∧ Dk w' (w.heap.size + 1) w.heap.size (.slice none 0 0) (zeros n) [] ∧ Below w.heap.size w w'
set_option maxRecDepth 100000 in
theorem new_in (n : Nat) (w : World) (h1 : 1 ≤ n) (h2 : n ≤ 8192) :
    Calls Try.prog 25 #[.int .i64 n] w (NewDisk w n) := by
  obtain ⟨i0, hi0, hz0, hz1, hz2⟩ := info_parts infoSector
  have hmk := fun W => run_make_rowN (P := Try.prog) 92 122 i0 _ Try.underlying92 hi0 hz0 .i64 .i64 n (by rw [hz2]; omega) (by omega) W
  rw [hz1, show (Value.agg (Array.replicate 64 (.int .u8 0))).cells = Array.replicate 64 (.int .u8 0) from rfl] at hmk
  obtain ⟨cs, hcs⟩ : ∃ cs, Hid (madeCells (Array.replicate 64 (Value.int .u8 0)) (n * 64) = cs) := ⟨_, Lib.hid rfl⟩
  rw [hcs.out] at hmk
  go_enter Try.func25, Try.ntmps25
  go_wp2_with fail
  clear hmk
  go_ret2
  have hl : cs.toList = ((zeros n).map bytesV).flatten := by rw [← hcs.out, made_one _ _ _ (by omega)]; exact (flat_zero n).symm
  have hlen : (zeros n).length = n := by simp [zeros]
  refine ⟨rfl, ⟨?_, ?_, ⟨by simp, .inl ⟨rfl, rfl⟩⟩, fun s hs => ?_, fun p hp => by simp at hp, by rw [hlen]; exact h1, by rw [hlen]; exact h2, fun p hp => by simp at hp⟩, (allocBelow w _).alloc (by simp) _⟩
  · rw [hlen]
    have := Whole.new (w.alloc (.cells cs 122)) 95 [.slice (some ⟨w.heap.size, 0, none⟩) n n, .slice none 0 0]
    simpa using this
  · rw [← hl]
    have := (Whole.new w 122 cs.toList).alloc (.cells #[.slice (some ⟨w.heap.size, 0, none⟩) n n, .slice none 0 0] 95)
    simpa using this
  · rw [zeros, List.mem_replicate] at hs
    rw [hs.2]; simp
theorem new_out (n : Int) (w : World) (h : n < 1 ∨ 8192 < n) :
    Calls Try.prog 25 #[.int .i64 n] w fun e w' => e = .returned (.tuple #[.pointer none, .int .i64 1]) ∧ w = w' := by
  by_cases h1 : n < 1
  · clear h
    go_enter Try.func25, Try.ntmps25
    go_wp2_with fail
    go_ret2
    exact ⟨rfl, rfl⟩
  · have h2 : 8192 < n := by omega
    have hd : decide (n < 1) = false := by simp; omega
    clear h h1
    go_enter Try.func25, Try.ntmps25
    go_wp2_with fail
    go_ret2
    exact ⟨rfl, rfl⟩

def fillL (c : UInt8) : List UInt8 := List.replicate 64 c
end Go.Proofs.Ytkmlmondhmpkkaa.D
