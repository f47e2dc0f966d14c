/- Layer 28: shares, ranks, rows of ints held against one another. -/
import Derived.Test.YtnekiiahgidkoaaAsV
import Derived.Deep.LoopGhost
import Derived.LoopN
namespace Go.Proofs.Ytnekiiahgidkoaa.W
open Go.RowKit Go.Sort
open Go.Proofs.Ytnekiiahgidkoaa.M Go.Proofs.Ytnekiiahgidkoaa.D Go.Proofs.Ytnekiiahgidkoaa.Z
set_option linter.unusedVariables false
set_option linter.unusedSimpArgs false

/-- A row of ints as it is read. -/
def InAt (w : World) (A : Option Addr) (xs : List Nat) : Prop := ∀ k x, xs[k]? = some x → ∃ g, A = some ⟨g, 0, none⟩ ∧ g < w.heap.size ∧ w.cell? ⟨g, k, none⟩ = some (.int .i64 (x : Nat))
theorem InAt.below {w w' : World} {A : Option Addr} {xs : List Nat} (h : InAt w A xs) {n : Nat} (hn : w.heap.size ≤ n) (hb : Below n w w') : InAt w' A xs := fun k x hk =>
  let ⟨g, e, h1, h2⟩ := h k x hk
  ⟨g, e, Nat.lt_of_lt_of_le h1 hb.size, (hb.cell (p := ⟨g, k, none⟩) (Nat.lt_of_lt_of_le h1 hn)).trans h2⟩
theorem InAt.nil (w : World) (A : Option Addr) : InAt w A [] := fun k x h => by simp at h
theorem InAt.own {w : World} {B : Nat} {A : Option Addr} {n c : Nat} {xs : List Nat} (h : w.ownsRow B 3 1 (.slice A n c) xs.length (xs.map fun x : Nat => Value.int .i64 x)) : InAt w A xs := fun k x hk => by
  rcases h.2 with ⟨e, h0⟩ | ⟨g, cap, cur, e, hbase, hb, h1, h2, h3, h4⟩
  · rw [List.eq_nil_of_length_eq_zero h0] at hk; simp at hk
  · injection e with e1 e2 e3
    subst e1
    have hk1 : k < xs.length := (List.getElem?_eq_some_iff.1 hk).1
    refine ⟨g, rfl, (Array.getElem?_eq_some_iff.1 hb).1, ?_⟩
    have h5 : cur.toList[k]? = some (.int .i64 x) := by
      have := congrArg (fun l : List Value => l[k]?) h4
      simp only [List.getElem?_take, List.getElem?_map, hk] at this
      rw [if_pos (by omega)] at this
      exact this
    simp only [World.cell?, hb]
    rw [Array.getElem?_toList] at h5
    simpa using h5

theorem share28_any (p n i : Nat) (hn : 0 < n) (hp : p ≤ 100000) (hn2 : n ≤ 100000) (w : World) :
    Calls Try.prog 17 #[.int .i64 p, .int .i64 n, .int .i64 i] w fun e w' => e = .returned (.int .i64 (shr p n i)) ∧ w' = w := by
  obtain ⟨q, hq⟩ : ∃ q, Hid (p / n = q) := ⟨_, Lib.hid rfl⟩
  obtain ⟨r, hr⟩ : ∃ r, Hid (p % n = r) := ⟨_, Lib.hid rfl⟩
  have hquo : Int.tdiv (p : Int) (n : Int) = (q : Int) := by rw [← hq.out]; rfl
  have hrem : Int.tmod (p : Int) (n : Int) = (r : Int) := by rw [← hr.out]; rfl
  have hq2 : q ≤ p := by rw [← hq.out]; exact Nat.div_le_self _ _
  have hr2 : r < n := by rw [← hr.out]; exact Nat.mod_lt _ hn
  have hn0 : ¬ ((n : Int) = 0) := by omega
  obtain ⟨R, hR⟩ : ∃ R, Hid (shr p n i = R) := ⟨_, Lib.hid rfl⟩
  have hs : R = q + if i < r then 1 else 0 := by rw [← hR.out, ← hq.out, ← hr.out]; rfl
  rw [hR.out]
  clear hR
  by_cases h : i < r
  · rw [if_pos h] at hs
    subst hs
    go_enter Try.func17, Try.ntmps17
    go_wp2_with fail
    go_ret
    exact ⟨by go_num, rfl⟩
  · rw [if_neg h] at hs
    subst hs
    go_enter Try.func17, Try.ntmps17
    go_wp2_with fail
    go_ret
    exact ⟨by go_num, rfl⟩

theorem less_nm (s m : Nm) : Op.bytesLess (B s).toList (B m).toList = decide (s < m) := by
  rw [bytesLess_eq, Lib.toList_data, Lib.toList_data]; rfl
theorem encStr_B (s : Nm) : encStr s = .string (B s) := rfl
set_option maxRecDepth 100000 in
set_option maxHeartbeats 4000000 in
theorem rank_any (A : Option Addr) (c : Nat) (N : List Nm) (m : Nm) (w : World) (hN : N.length ≤ 100000) (hrow : SrAt w A N) :
    Calls Try.prog 12 #[.slice A N.length c, .string (B m)] w fun e w' => e = .returned (.int .i64 (ranK N m)) ∧ w' = w := by
  obtain ⟨y, hy⟩ : ∃ y, Hid (B m = y) := ⟨_, Lib.hid rfl⟩
  obtain ⟨len, hlen⟩ : ∃ len, Hid (N.length = len) := ⟨_, Lib.hid rfl⟩
  replace hrow := Lib.hid hrow
  rw [hy.out, hlen.out]
  rw [hlen.out] at hN
  go_enter Try.func12, Try.ntmps12
  go_wp2_with fail
  go_loopg [10, 5] len (fun ga i x wr => ∃ k R : Nat, k ≤ len ∧ len ≤ k + ga ∧ i = .int .i64 k ∧ x = .int .i64 R ∧ R ≤ k ∧ Hid (ranK (N.take k) m = R) ∧ wr = w)
  case atStart => exact ⟨0, 0, by omega, by omega, rfl, rfl, by omega, Lib.hid rfl, rfl⟩
  case round =>
    obtain ⟨k, R, hk, hg, rfl, rfl, hRk, hR, rfl⟩ := hrel
    by_cases hlt : k < len
    · obtain ⟨s, hs⟩ : ∃ s, N[k]? = some s := ⟨_, List.getElem?_eq_getElem (by have := hlen.out; omega)⟩
      obtain ⟨b, o, rfl, hb1, hc1⟩ := hrow.out k s hs
      rw [encStr_B] at hc1
      have hls := less_nm s m
      rw [hy.out] at hls
      have hnx : ranK (N.take (k + 1)) m = R + if s < m then 1 else 0 := by rw [← take_step hs, ranK_step, hR.out]
      obtain ⟨x, hx⟩ : ∃ x, Hid (B s = x) := ⟨_, Lib.hid rfl⟩
      rw [hx.out] at hls hc1
      clear hR hs
      by_cases hc : s < m
      · rw [decide_eq_true hc] at hls
        rw [if_pos hc] at hnx
        replace hnx := Lib.hid hnx
        clear hc
        go_wp2_with fail
        go_roundg (gk - 1)
        case measure => omega
        case rel => exact ⟨k + 1, R + 1, by omega, by omega, by go_num, by go_num, by omega, hnx, rfl⟩
      · rw [decide_eq_false hc] at hls
        rw [if_neg hc] at hnx
        replace hnx := Lib.hid hnx
        clear hc
        go_wp2_with fail
        go_roundg (gk - 1)
        case measure => omega
        case rel => exact ⟨k + 1, R, by omega, by omega, by go_num, rfl, by omega, hnx, rfl⟩
    · obtain rfl : k = len := by omega
      rw [List.take_of_length_le (by have := hlen.out; omega)] at hR
      go_wp2_with fail
      go_ret
      exact ⟨by rw [hR.out]; rfl, rfl⟩

set_option maxRecDepth 100000 in
set_option maxHeartbeats 4000000 in
/-- Two rows of the same ints. -/
theorem ints28_any (A1 A2 : Option Addr) (c1 c2 : Nat) (xs : List Nat) (w : World) (h1 : InAt w A1 xs) (h2 : InAt w A2 xs) (hl : xs.length ≤ 100000) :
    Calls Try.prog 13 #[.slice A1 xs.length c1, .slice A2 xs.length c2] w fun e w' => e = .returned (.bool true) ∧ Below w.heap.size w w' := by
  have k1 := Lib.hid (show ∀ k, k < xs.length → ∃ g, A1 = some ⟨g, 0, none⟩ ∧ w.cell? ⟨g, k, none⟩ = some (.int .i64 (xs.getD k 0 : Nat)) from fun k hk => by
    obtain ⟨g, e, _, hc⟩ := h1 k _ (List.getElem?_eq_getElem hk)
    exact ⟨g, e, by rw [hc, List.getD, List.getElem?_eq_getElem hk]; rfl⟩)
  have k2 := Lib.hid (show ∀ k, k < xs.length → ∃ g, A2 = some ⟨g, 0, none⟩ ∧ w.cell? ⟨g, k, none⟩ = some (.int .i64 (xs.getD k 0 : Nat)) from fun k hk => by
    obtain ⟨g, e, _, hc⟩ := h2 k _ (List.getElem?_eq_getElem hk)
    exact ⟨g, e, by rw [hc, List.getD, List.getElem?_eq_getElem hk]; rfl⟩)
  obtain ⟨len, hlen⟩ : ∃ len, Hid (xs.length = len) := ⟨_, Lib.hid rfl⟩
  rw [hlen.out] at hl k1 k2 ⊢
  clear h1 h2
  go_enter Try.func13, Try.ntmps13
  go_wp2_with fail
  go_loopg [13] len (fun g i wr => ∃ k m : Nat, k ≤ len ∧ len ≤ k + g ∧ i = .int .i64 k ∧ wr = w.drewN m)
  case atStart => exact ⟨0, 0, by omega, by omega, rfl, rfl⟩
  case round =>
    obtain ⟨k, m, hk, hg, rfl, rfl⟩ := hrel
    by_cases hlt : k < len
    · obtain ⟨b1, rfl, f1⟩ := k1.out k hlt
      obtain ⟨b2, rfl, f2⟩ := k2.out k hlt
      obtain ⟨x, hx⟩ : ∃ x, Hid (xs.getD k 0 = x) := ⟨_, Lib.hid rfl⟩
      rw [hx.out] at f1 f2
      have hk0 : (0 : Int) ≤ (k : Int) := by omega
      have hk1 : (k : Int) < (len : Int) := by omega
      go_wp2_with fail
      go_quiet (fail)
      go_wp2_with fail
      go_roundg (gk - 1)
      case measure => omega
      case rel => exact ⟨k + 1, _, by omega, by omega, by go_num, rfl⟩
    · obtain rfl : k = len := by omega
      go_wp2_with fail
      go_ret
      exact ⟨rfl, drewS (Below.refl _ _) m⟩
set_option maxRecDepth 100000 in
set_option maxHeartbeats 4000000 in
/-- Two rows of the same strings. -/
theorem texts28_any (A1 A2 : Option Addr) (c1 c2 : Nat) (N : List Nm) (w : World) (h1 : SrAt w A1 N) (h2 : SrAt w A2 N) (hl : N.length ≤ 100000) :
    Calls Try.prog 16 #[.slice A1 N.length c1, .slice A2 N.length c2] w fun e w' => e = .returned (.bool true) ∧ Below w.heap.size w w' := by
  replace h1 := Lib.hid h1
  replace h2 := Lib.hid h2
  obtain ⟨len, hlen⟩ : ∃ len, Hid (N.length = len) := ⟨_, Lib.hid rfl⟩
  rw [hlen.out] at hl ⊢
  go_enter Try.func16, Try.ntmps16
  go_wp2_with fail
  go_loopg [13] len (fun g i wr => ∃ k m : Nat, k ≤ len ∧ len ≤ k + g ∧ i = .int .i64 k ∧ wr = w.drewN m)
  case atStart => exact ⟨0, 0, by omega, by omega, rfl, rfl⟩
  case round =>
    obtain ⟨k, m, hk, hg, rfl, rfl⟩ := hrel
    by_cases hlt : k < len
    · obtain ⟨s, hs⟩ : ∃ s, N[k]? = some s := ⟨_, List.getElem?_eq_getElem (by have := hlen.out; omega)⟩
      obtain ⟨b1, o1, rfl, _, f1⟩ := h1.out k s hs
      obtain ⟨b2, o2, rfl, _, f2⟩ := h2.out k s hs
      rw [encStr_B] at f1 f2
      obtain ⟨x, hx⟩ : ∃ x, Hid (B s = x) := ⟨_, Lib.hid rfl⟩
      rw [hx.out] at f1 f2
      have hxx : (x.toList == x.toList) = true := by simp
      have hk0 : (0 : Int) ≤ (k : Int) := by omega
      have hk1 : (k : Int) < (len : Int) := by omega
      clear hs hx
      go_wp2_with fail
      go_quiet (fail)
      go_wp2_with fail
      go_roundg (gk - 1)
      case measure => omega
      case rel => exact ⟨k + 1, _, by omega, by omega, by go_num, rfl⟩
    · obtain rfl : k = len := by omega
      go_wp2_with fail
      go_ret
      exact ⟨rfl, drewS (Below.refl _ _) m⟩
end Go.Proofs.Ytnekiiahgidkoaa.W
