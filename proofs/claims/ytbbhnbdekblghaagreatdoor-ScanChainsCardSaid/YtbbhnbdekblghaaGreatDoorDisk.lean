/- The disk: what it is in memory, and the walks of its small methods. The disk: spans, writes that wait of a span, a new disk, a sector of one byte. -/
import Derived.Test.YtbbhnbdekblghaaGreatDoorProg
import Derived.Test.YtbbhnbdekblghaaGreatDoorFlat
import Derived.ProofKit
import Derived.OpenShut
import Derived.Outline
import Derived.Lib.Hide
import Derived.WalkSpells
import Derived.WalkLawsBesides
import Derived.Deep.LoopGhost
import Derived.Deep.QuietTactic
import Derived.BigQuiet
import Derived.Laws.IdiomStrings
import Derived.Maps.AppendAt
import Derived.Deep.AppendLies
import Derived.Deep.RegionHeld3
import Derived.Deep.DrawnRows
import Derived.OwnWalk
section
namespace Go.Proofs.YtbbhnbdekblghaaGreatDoor.D
open Go.RowKit
set_option linter.unusedVariables false

def wrow (p : Nat × List UInt8) : List Value := .int .i64 (p.1 : Int) :: bytesV p.2
/-- The disk whose object is block d, with what lies there in block g, and the waiting writes in the slice v. -/
structure Dk (w : World) (d g : Nat) (v : Value) (lie : List (List UInt8)) (ws : List (Nat × List UInt8)) : Prop where
  obj : Whole w d 169 [.slice (some ⟨g, 0, none⟩) lie.length lie.length, v]
  lying : Whole w g 223 (lie.map bytesV).flatten
  wait : w.ownsRow 0 225 65 v ws.length (ws.map wrow).flatten
  lie64 : ∀ s ∈ lie, s.length = 64
  ws64 : ∀ p ∈ ws, p.2.length = 64
  some_ : 0 < lie.length
  few : lie.length ≤ 8192
  within : ∀ p ∈ ws, p.1 < lie.length
section
variable {w : World} {d g : Nat} {v : Value} {lie : List (List UInt8)} {ws : List (Nat × List UInt8)}
theorem Dk.c0 (h : Dk w d g v lie ws) : w.cell? ⟨d, 0, none⟩ = some (.slice (some ⟨g, 0, none⟩) lie.length lie.length) := h.obj.cell 0
theorem Dk.c1 (h : Dk w d g v lie ws) : w.cell? ⟨d, 1, none⟩ = some v := h.obj.cell 1
theorem Dk.even (h : Dk w d g v lie ws) : Even 64 (lie.map bytesV) := fun r hr => by
  obtain ⟨s, hs, rfl⟩ := List.mem_map.1 hr
  rw [bytesV_len]; exact h.lie64 s hs
theorem Dk.evenW (h : Dk w d g v lie ws) : Even 65 (ws.map wrow) := fun r hr => by
  obtain ⟨p, hp, rfl⟩ := List.mem_map.1 hr
  simp [wrow, bytesV_len, h.ws64 p hp]
theorem Dk.sector (h : Dk w d g v lie ws) {i : Nat} {s : List UInt8} (hs : lie[i]? = some s) : w.rangeAt g (i * 64) (bytesV s) := h.lying.row h.even (by rw [List.getElem?_map, hs]; rfl)
/-- The form of the waiting slice. -/
theorem Dk.form (h : Dk w d g v lie ws) : (v = .slice none 0 0 ∧ ws = []) ∨ ∃ k cap cur, v = .slice (some ⟨k, 0, none⟩) ws.length cap ∧ Whole w k 225 cur ∧ ws.length ≤ cap ∧ cap ≤ maxLen ∧ cur.length = cap * 65 ∧ cur.take (ws.length * 65) = (ws.map wrow).flatten := by
  rcases h.wait.2 with ⟨h1, h2⟩ | ⟨k, cap, cur, h1, _, h2, h3, h4, h5, h6⟩
  · exact .inl ⟨h1, List.eq_nil_of_length_eq_zero h2⟩
  · exact .inr ⟨k, cap, cur.toList, h1, by simpa [Whole] using h2, h3, h4, by simpa using h5, h6⟩
end
theorem convBytes {w : World} {b o : Nat} {s : List UInt8} (cap : Nat) (h : w.rangeAt b o (bytesV s)) :
    (convert 148 9 (.slice (some ⟨b, o, none⟩) s.length cap)).run Tryz.prog w = .ok (.string ⟨s.toArray⟩) w :=
  run_convert_bytes_back (P := Tryz.prog) w 148 9 5 ⟨b, o, none⟩ cap s Tryz.underlying148 Tryz.underlying5 Tryz.underlying9 (fun j hj => by
    rw [Addr.add_mid]
    exact h j _ (by simp [bytesV, u8v, hj]))

section
variable (d g : Nat) (v : Value) (lie : List (List UInt8)) (ws : List (Nat × List UInt8)) (w : World)
theorem size_any (h : Dk w d g v lie ws) :
    Calls Tryz.prog 113 #[.pointer (some ⟨d, 0, none⟩)] w fun e w' => e = .returned (.int .i64 lie.length) ∧ w = w' := by
  have h0 := h.c0
  have hf := h.few
  go_enter Tryz.func113, Tryz.ntmps113
  go_wp2
  go_ret
  exact ⟨rfl, rfl⟩
theorem size_nil : Calls Tryz.prog 113 #[.pointer none] w fun e w' => e = .returned (.int .i64 0) ∧ w = w' := by
  go_enter Tryz.func113, Tryz.ntmps113
  go_wp2
  go_ret
  exact ⟨rfl, rfl⟩
theorem sector_in (a : Nat) (h : Dk w d g v lie ws) (ha : a < lie.length) :
    Calls Tryz.prog 173 #[.pointer (some ⟨d, 0, none⟩), .int .i64 a] w fun e w' => e = .returned (.int .i64 0) ∧ w = w' := by
  have h0 := h.c0
  have hf := h.few
  go_enter Tryz.func173, Tryz.ntmps173
  go_wp2
  go_ret
  exact ⟨rfl, rfl⟩
theorem sector_out (a : Int) (h : Dk w d g v lie ws) (ha : a < 0 ∨ lie.length ≤ a) :
    Calls Tryz.prog 173 #[.pointer (some ⟨d, 0, none⟩), .int .i64 a] w fun e w' => e = .returned (.int .i64 20) ∧ w = w' := by
  have h0 := h.c0
  have hf := h.few
  by_cases h1 : a < 0
  · clear ha
    go_enter Tryz.func173, Tryz.ntmps173
    go_wp2
    go_ret
    exact ⟨rfl, rfl⟩
  · have h2 : 0 ≤ a := by omega
    have h3 : lie.length ≤ a := by omega
    clear ha h1
    go_enter Tryz.func173, Tryz.ntmps173
    go_wp2
    go_ret
    exact ⟨rfl, rfl⟩
theorem sector_nil (a : Int) : Calls Tryz.prog 173 #[.pointer none, .int .i64 a] w fun e w' => e = .returned (.int .i64 7) ∧ w = w' := by
  go_enter Tryz.func173, Tryz.ntmps173
  go_wp2
  go_ret
  exact ⟨rfl, rfl⟩

theorem lies_in (a : Nat) (s : List UInt8) (h : Dk w d g v lie ws) (hs : lie[a]? = some s) :
    Calls Tryz.prog 191 #[.pointer (some ⟨d, 0, none⟩), .int .i64 a] w fun e w' => e = .returned (.tuple #[.string ⟨s.toArray⟩, .int .i64 0]) ∧ w = w' := by
  have h0 := h.c0
  have hf := h.few
  have ha : a < lie.length := (List.getElem?_eq_some_iff.1 hs).1
  have h64 := h.lie64 s (List.mem_of_getElem? hs)
  have hc := convBytes 64 (h.sector hs)
  rw [h64] at hc
  replace h64 := Lib.hid h64
  clear hs
  go_enter Tryz.func191, Tryz.ntmps191
  go_wp2_with fail
  refine (sector_in d g v lie ws _ a h ha).mono ?_
  rintro e w1 ⟨rfl, rfl⟩
  go_wp2_with fail
  go_ret2
  exact ⟨rfl, rfl⟩
theorem lies_out (a : Int) (h : Dk w d g v lie ws) (ha : a < 0 ∨ lie.length ≤ a) :
    Calls Tryz.prog 191 #[.pointer (some ⟨d, 0, none⟩), .int .i64 a] w fun e w' => e = .returned (.tuple #[.string ByteArray.empty, .int .i64 20]) ∧ w = w' := by
  replace ha := Lib.hid ha
  go_enter Tryz.func191, Tryz.ntmps191
  go_wp2_with fail
  refine (sector_out d g v lie ws _ a h ha.out).mono ?_
  rintro e w1 ⟨rfl, rfl⟩
  go_wp2_with fail
  go_ret2
  exact ⟨rfl, rfl⟩
theorem lies_nil (a : Int) : Calls Tryz.prog 191 #[.pointer none, .int .i64 a] w fun e w' => e = .returned (.tuple #[.string ByteArray.empty, .int .i64 7]) ∧ w = w' := by
  go_enter Tryz.func191, Tryz.ntmps191
  go_wp2_with fail
  refine (sector_nil _ a).mono ?_
  rintro e w1 ⟨rfl, rfl⟩
  go_wp2_with fail
  go_ret2
  exact ⟨rfl, rfl⟩
theorem read_out (a : Int) (h : Dk w d g v lie ws) (ha : a < 0 ∨ lie.length ≤ a) :
    Calls Tryz.prog 183 #[.pointer (some ⟨d, 0, none⟩), .int .i64 a] w fun e w' => e = .returned (.tuple #[.string ByteArray.empty, .int .i64 20]) ∧ w = w' := by
  replace ha := Lib.hid ha
  go_enter Tryz.func183, Tryz.ntmps183
  go_wp2_with fail
  refine (sector_out d g v lie ws _ a h ha.out).mono ?_
  rintro e w1 ⟨rfl, rfl⟩
  go_wp2_with fail
  go_ret2
  exact ⟨rfl, rfl⟩
theorem read_nil (a : Int) : Calls Tryz.prog 183 #[.pointer none, .int .i64 a] w fun e w' => e = .returned (.tuple #[.string ByteArray.empty, .int .i64 7]) ∧ w = w' := by
  go_enter Tryz.func183, Tryz.ntmps183
  go_wp2_with fail
  refine (sector_nil _ a).mono ?_
  rintro e w1 ⟨rfl, rfl⟩
  go_wp2_with fail
  go_ret2
  exact ⟨rfl, rfl⟩

/-- What is read: the last write that waits, or what lies there. -/
def rd (ws : List (Nat × List UInt8)) (a : Nat) (s : List UInt8) : List UInt8 := ws.foldl (fun s p => if p.1 = a then p.2 else s) s
theorem rd_none (ws : List (Nat × List UInt8)) (a : Nat) (s : List UInt8) (h : ∀ p ∈ ws, p.1 ≠ a) : rd ws a s = s := by
  induction ws generalizing s with
  | nil => rfl
  | cons p ws ih =>
    unfold rd
    rw [List.foldl_cons, if_neg (h p (by simp))]
    exact ih s (fun q hq => h q (by simp [hq]))
theorem rd_last (ws : List (Nat × List UInt8)) (a m : Nat) (s : List UInt8) (p : Nat × List UInt8) (hp : ws[m]? = some p) (ha : p.1 = a) (h : ∀ j q, m < j → ws[j]? = some q → q.1 ≠ a) : rd ws a s = p.2 := by
  have hm : m < ws.length := (List.getElem?_eq_some_iff.1 hp).1
  have e : ws = ws.take m ++ p :: ws.drop (m + 1) := by
    rw [← (List.getElem?_eq_some_iff.1 hp).2]
    exact (List.take_append_drop m ws).symm.trans (by rw [List.drop_eq_getElem_cons hm])
  have h2 : rd (ws.drop (m + 1)) a p.2 = p.2 := rd_none _ _ _ fun q hq => by
    obtain ⟨j, hj, rfl⟩ := List.mem_iff_getElem.1 hq
    refine h (m + 1 + j) _ (by omega) ?_
    rw [List.getElem_drop]
    exact List.getElem?_eq_getElem _
  have h3 : rd ws a s = rd (ws.take m ++ p :: ws.drop (m + 1)) a s := congrArg (fun l => rd l a s) e
  rw [h3]
  unfold rd at h2 ⊢
  rw [List.foldl_append, List.foldl_cons, if_pos ha]
  exact h2

theorem read_in (a : Nat) (s : List UInt8) (h : Dk w d g v lie ws) (hs : lie[a]? = some s) (hn : ws.length ≤ 100000) :
    Calls Tryz.prog 183 #[.pointer (some ⟨d, 0, none⟩), .int .i64 a] w fun e w' => e = .returned (.tuple #[.string ⟨(rd ws a s).toArray⟩, .int .i64 0]) ∧ w = w' := by
  have h0 := h.c0
  have h1 := h.c1
  have hf := h.few
  have ha : a < lie.length := (List.getElem?_eq_some_iff.1 hs).1
  have hl := Lib.hid (lies_in d g v lie ws w a s h hs)
  rcases h.form with ⟨rfl, rfl⟩ | ⟨k, cap, cur, rfl, hW, hle, hcap, hcur, htake⟩
  · go_enter Tryz.func183, Tryz.ntmps183
    go_wp2_with fail
    refine (sector_in d g _ lie _ _ a h ha).mono ?_
    rintro e w1 ⟨rfl, rfl⟩
    go_wp2_with fail
    go_loopg [7] 0 (fun g i wr => i = .int .i64 (-1) ∧ w = wr)
    case atStart => exact ⟨rfl, rfl⟩
    case round =>
      obtain ⟨rfl, rfl⟩ := hrel
      go_wp2_with fail
      refine hl.out.mono ?_
      rintro e w1 ⟨rfl, rfl⟩
      go_wp2_with fail
      go_ret2
      exact ⟨rfl, rfl⟩
  · obtain ⟨n, hnn⟩ : ∃ n, Hid (ws.length = n) := ⟨_, Lib.hid rfl⟩
    have hrow : Hid (∀ m p, ws[m]? = some p → w.cell? ⟨k, m * 65, none⟩ = some (.int .i64 (p.1 : Int)) ∧ w.rangeAt k (m * 65 + 1) (bytesV p.2) ∧ p.2.length = 64) := fun m p hp => by
      have hm : m < ws.length := (List.getElem?_eq_some_iff.1 hp).1
      have hr : w.rangeAt k (m * 65) (wrow p) := fun j u hu => by
        have hj : j < 65 := by
          have h64 := h.ws64 p (List.mem_of_getElem? hp)
          have := (List.getElem?_eq_some_iff.1 hu).1
          simp [wrow, bytesV_len, h64] at this; omega
        have e : (ws.map wrow).flatten[m * 65 + j]? = some u := by rw [flat_at h.evenW m j hj, List.getElem?_map, hp]; exact hu
        rw [← htake, List.getElem?_take] at e
        split at e
        · rw [hW.cell]; exact e
        · cases e
      refine ⟨hr 0 _ rfl, fun j u hu => ?_, h.ws64 p (List.mem_of_getElem? hp)⟩
      rw [show m * 65 + 1 + j = m * 65 + (j + 1) by omega]
      exact hr (j + 1) u hu
    have hget : Hid (∀ m, m < n → ∃ p, ws[m]? = some p) := fun m hm => ⟨_, List.getElem?_eq_getElem (by rw [hnn.out]; exact hm)⟩
    rw [hnn.out] at hn h1 hle
    have hsec := Lib.hid (sector_in d g _ lie _ _ a h ha)
    unfold maxLen at hcap
    clear hW hcur htake h
    go_enter Tryz.func183, Tryz.ntmps183
    go_wp2_with fail
    refine hsec.out.mono ?_
    rintro e w1 ⟨rfl, rfl⟩
    go_wp2_with fail
    go_loopg [7] n (fun g i wr => ∃ x : Int, -1 ≤ x ∧ x < n ∧ x < g ∧ i = .int .i64 x ∧ Hid (∀ (j : Nat) (q : Nat × List UInt8), x < (j : Int) → ws[j]? = some q → q.1 ≠ a) ∧ w = wr)
    case atStart => exact ⟨(n : Int) - 1, by omega, by omega, by omega, rfl, fun j q hj hq => by
      have := (List.getElem?_eq_some_iff.1 hq).1
      rw [hnn.out] at this; omega, rfl⟩
    case round =>
      obtain ⟨x, hx1, hx2, hx3, rfl, hj, rfl⟩ := hrel
      by_cases hx : 0 ≤ x
      · obtain ⟨m, rfl⟩ := Int.eq_ofNat_of_zero_le hx
        obtain ⟨p, hp⟩ := hget.out m (by omega)
        obtain ⟨e1, e2, e3⟩ := hrow.out m p hp
        have hc := convBytes 64 e2
        rw [e3] at hc
        replace e3 := Lib.hid e3
        replace hp := Lib.hid hp
        by_cases he : p.1 = a
        · have hd : ((p.1 : Int) == (a : Int)) = true := by rw [beq_iff_eq]; omega
          have hfin := Lib.hid (rd_last ws a m s p hp.out he (fun j q hjm hq => hj.out j q (by omega) hq))
          replace he := Lib.hid he
          go_wp2_with fail
          go_ret2
          exact ⟨by rw [hfin.out]; rfl, rfl⟩
        · have hd : ((p.1 : Int) == (a : Int)) = false := by rw [beq_eq_false_iff_ne]; omega
          have hj2 : Hid (∀ (j : Nat) (q : Nat × List UInt8), (m : Int) - 1 < (j : Int) → ws[j]? = some q → q.1 ≠ a) := fun j q hjm hq => by
            by_cases e : j = m
            · subst e
              rw [hp.out] at hq
              cases hq
              exact he
            · exact hj.out j q (by omega) hq
          clear he
          go_wp2_with fail
          go_roundg (gk - 1)
          case measure => omega
          case rel => exact ⟨(m : Int) - 1, by omega, by omega, by omega, rfl, hj2, rfl⟩
      · have hfin := Lib.hid (rd_none ws a s (fun p hp => by
          obtain ⟨j, hjl, rfl⟩ := List.mem_iff_getElem.1 hp
          exact hj.out j _ (by omega) (List.getElem?_eq_getElem hjl)))
        go_wp2_with fail
        refine hl.out.mono ?_
        rintro e w1 ⟨rfl, rfl⟩
        go_wp2_with fail
        go_ret2
        exact ⟨by rw [hfin.out]; rfl, rfl⟩
end
end Go.Proofs.YtbbhnbdekblghaaGreatDoor.D
end
section
namespace Go.Proofs.YtbbhnbdekblghaaGreatDoor.D
open Go.RowKit
set_option linter.unusedVariables false
attribute [local go_sem ↓] Go.wp_at_zero Go.wp_at_succ

theorem stopHere {p : Prop} (h : Hid p) : p := h
theorem ret_bool {a b : Bool} (h : a = b) : Ending.returned (.bool a) = .returned (.bool b) := by rw [h]
theorem below_drewN {B : Nat} {a w : World} (h : Below B a w) (n : Nat) : Below B a (w.drewN n) := ⟨h.os, h.tape, h.output, h.size, h.block⟩
theorem keepCell {w w' : World} {p : Addr} {v : Value} (hb : Below w.heap.size w w') (h : w.cell? p = some v) : w'.cell? p = some v := (hb.cell (World.block_lt_of_cell? w p h)).trans h
theorem allocBelow (w : World) (o : Obj) : Below w.heap.size w (w.alloc o) := (Below.refl _ _).alloc (Nat.le_refl _) o

section
variable (d g : Nat) (v : Value) (lie : List (List UInt8)) (ws : List (Nat × List UInt8)) (w : World)
theorem span_yes (from_ n : Nat) (h : Dk w d g v lie ws) (hn : from_ + n ≤ lie.length) :
    Calls Tryz.prog 160 #[.pointer (some ⟨d, 0, none⟩), .agg #[.int .i64 from_, .int .i64 n]] w fun e w' => e = .returned (.int .i64 0) ∧ Below w.heap.size w w' := by
  have h0 := keepCell (allocBelow w (.cells #[.int .i64 from_, .int .i64 n] 219)) h.c0
  have hf := h.few
  have hd1 : decide ((from_ : Int) < 0) = false := by simp
  have hd2 : decide ((n : Int) < 0) = false := by simp
  have hd3 : decide ((lie.length : Int) - (from_ : Int) < (n : Int)) = false := by simp; omega
  go_enter Tryz.func160, Tryz.ntmps160
  go_wp2_with fail
  go_quiet (fail)
  go_wp2_with fail
  go_ret
  exact ⟨rfl, below_drewN (allocBelow w _) _⟩
theorem span_no (from_ n : Int) (h : Dk w d g v lie ws) (hbig : from_ ≤ 9223372036854775807) (hn : from_ < 0 ∨ n < 0 ∨ lie.length - from_ < n) :
    Calls Tryz.prog 160 #[.pointer (some ⟨d, 0, none⟩), .agg #[.int .i64 from_, .int .i64 n]] w fun e w' => e = .returned (.int .i64 20) ∧ Below w.heap.size w w' := by
  have h0 := keepCell (allocBelow w (.cells #[.int .i64 from_, .int .i64 n] 219)) h.c0
  have hf := h.few
  by_cases h1 : from_ < 0
  · clear hn
    go_enter Tryz.func160, Tryz.ntmps160
    go_wp2_with fail
    go_quiet (fail)
    go_wp2_with fail
    go_ret
    exact ⟨rfl, below_drewN (allocBelow w _) _⟩
  · have h2 : 0 ≤ from_ := by omega
    have hd1 : decide (from_ < 0) = false := by simp; omega
    by_cases h3 : n < 0
    · clear hn h1
      go_enter Tryz.func160, Tryz.ntmps160
      go_wp2_with fail
      go_quiet (fail)
      go_wp2_with fail
      go_ret
      exact ⟨rfl, below_drewN (allocBelow w _) _⟩
    · have h4 : 0 ≤ n := by omega
      have hd2 : decide (n < 0) = false := by simp; omega
      have h5 : (lie.length : Int) - from_ < n := by omega
      have hd3 : decide ((lie.length : Int) - from_ < n) = true := by simp; omega
      clear hn h1 h3
      go_enter Tryz.func160, Tryz.ntmps160
      go_wp2_with fail
      go_quiet (fail)
      go_wp2_with fail
      go_ret
      exact ⟨rfl, below_drewN (allocBelow w _) _⟩
theorem span_nil (from_ n : Int) :
    Calls Tryz.prog 160 #[.pointer none, .agg #[.int .i64 from_, .int .i64 n]] w fun e w' => e = .returned (.int .i64 7) ∧ Below w.heap.size w w' := by
  go_enter Tryz.func160, Tryz.ntmps160
  go_wp2_with fail
  go_ret
  exact ⟨rfl, allocBelow w _⟩
end

/-- Is a write one of a span's? -/
def spanB (from_ n : Nat) (p : Nat × List UInt8) : Bool := decide (from_ ≤ p.1) && decide (p.1 < from_ + n)
theorem has_any (from_ n : Nat) (p : Nat × List UInt8) (w : World) (h1 : from_ + n ≤ 8192) (h2 : p.1 < 8192) :
    Calls Tryz.prog 179 #[.agg #[.int .i64 from_, .int .i64 n], .agg (wrow p).toArray] w fun e w' => e = .returned (.bool (spanB from_ n p)) ∧ Below w.heap.size w w' := by
  have hw0 : (wrow p)[0]? = some (.int .i64 (p.1 : Int)) := rfl
  have hbel : Below w.heap.size w ((w.alloc (.cells #[.int .i64 from_, .int .i64 n] 219)).alloc (.cells (wrow p).toArray 225)) := (allocBelow w _).alloc (by simp) _
  by_cases g1 : from_ ≤ p.1
  · by_cases g2 : p.1 < from_ + n
    · have hfin := Lib.hid (show spanB from_ n p = true by simp [spanB, g1, g2])
      have hd : decide ((p.1 : Int) - (from_ : Int) < (n : Int)) = true := by simp; omega
      go_enter Tryz.func179, Tryz.ntmps179
      go_wp2_with fail
      go_ret
      exact ⟨ret_bool hfin.out.symm, hbel⟩
    · have hfin := Lib.hid (show spanB from_ n p = false by simp [spanB, g2])
      have hd : decide ((p.1 : Int) - (from_ : Int) < (n : Int)) = false := by simp; omega
      have hd2 : decide (from_ ≤ p.1) = true := by simp [g1]
      clear g2
      go_enter Tryz.func179, Tryz.ntmps179
      go_wp2_with fail
      go_ret
      exact ⟨ret_bool hfin.out.symm, hbel⟩
  · have hfin := Lib.hid (show spanB from_ n p = false by simp [spanB, g1])
    have hd : decide (from_ ≤ p.1) = false := by simp [g1]
    go_enter Tryz.func179, Tryz.ntmps179
    go_wp2_with fail
    go_ret
    exact ⟨ret_bool hfin.out.symm, hbel⟩
end Go.Proofs.YtbbhnbdekblghaaGreatDoor.D
end
