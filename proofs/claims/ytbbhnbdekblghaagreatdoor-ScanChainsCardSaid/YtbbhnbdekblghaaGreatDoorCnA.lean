/- Layer 15's definition: own, before. Layer 15's definition: first. Layer 15's definition: Chain. Layer 15: the chain that the program finds has the places that the definition tells. Layer 15's law: twins (whatever it answers). -/
import Derived.Test.YtbbhnbdekblghaaGreatDoorScC
import Derived.Deep.Cut
import Derived.Deep.Quiet
import Derived.Deep.QuietTactic
section
namespace Go.Proofs.YtbbhnbdekblghaaGreatDoor.W
open Go.RowKit Go.Sort
open Go.Proofs.YtbbhnbdekblghaaGreatDoor.M Go.Proofs.YtbbhnbdekblghaaGreatDoor.D Go.Proofs.YtbbhnbdekblghaaGreatDoor.Z
set_option linter.unusedVariables false
set_option linter.unusedSimpArgs false

/-- A segment, as the definition looks at it. -/
structure Sg5 where
  (log gen base len stamp : Int)
abbrev sg5L (s : Sg5) : List Value := [.int .i64 s.log, .int .u32 s.gen, .int .i64 s.base, .int .i64 s.len, .int .u32 s.stamp]
def ownP (s : Sg5) (id gen fr : Int) : Bool := decide (s.log = id) && decide (s.gen = gen) && decide (0 < s.len) && decide (fr < s.base + s.len)
def beforeP (a b : Sg5) : Bool := decide (a.base < b.base) || (decide (a.base = b.base) && decide (a.stamp < b.stamp))
set_option maxRecDepth 100000 in
set_option maxHeartbeats 4000000 in
theorem rown15_any (s : Sg5) (id gen fr : Int) (w : World) (h1 : -9223372036854775808 ≤ s.base + s.len) (h2 : s.base + s.len ≤ 9223372036854775807) :
    Calls Tryz.prog 121 #[.agg #[.int .i64 s.log, .int .u32 s.gen, .int .i64 s.base, .int .i64 s.len, .int .u32 s.stamp], .int .i64 id, .int .u32 gen, .int .i64 fr] w fun e w' => e = .returned (.bool (ownP s id gen fr)) ∧ Below w.heap.size w w' := by
  obtain ⟨a, g, b, n, t⟩ := s
  dsimp only at h1 h2 ⊢
  have hw : IntKind.i64.wrap (b + n) = b + n := by rw [IntWalk.i64_in _ (by omega)]
  obtain ⟨V, hV⟩ : ∃ V, Hid (V = w.alloc (.cells #[.int .i64 a, .int .u32 g, .int .i64 b, .int .i64 n, .int .u32 t] 88)) := ⟨_, Lib.hid rfl⟩
  have hb0 : Below w.heap.size w V := by rw [hV.out]; exact grewAlloc (Below.refl _ _) _
  have hX : Whole V w.heap.size 88 [.int .i64 a, .int .u32 g, .int .i64 b, .int .i64 n, .int .u32 t] := by rw [hV.out]; exact Whole.new w _ _
  obtain ⟨q, hq⟩ : ∃ q, Hid (w.heap.size = q) := ⟨_, Lib.hid rfl⟩
  rw [hq.out] at hX
  have x0 : V.cell? ⟨q, 0, none⟩ = some (.int .i64 a) := hX.cell 0
  have x1 : V.cell? ⟨q, 1, none⟩ = some (.int .u32 g) := hX.cell 1
  have x2 : V.cell? ⟨q, 2, none⟩ = some (.int .i64 b) := hX.cell 2
  have x3 : V.cell? ⟨q, 3, none⟩ = some (.int .i64 n) := hX.cell 3
  have hB := Lib.hid hb0
  clear hX hb0 h1 h2
  by_cases k1 : a = id
  · have e1 : (a == id) = true := by simpa using k1
    by_cases k2 : g = gen
    · have e2 : (g == gen) = true := by simpa using k2
      by_cases k3 : 0 < n
      · by_cases k4 : fr < b + n
        · have hR : Hid (ownP ⟨a, g, b, n, t⟩ id gen fr = true) := Lib.hid (by simp [ownP, k1, k2, k3, k4])
          rw [hR.out]
          clear k1 k2
          go_enter Tryz.func121, Tryz.ntmps121
          go_upto_region 1 with fail
          rw [← show V = _ from hV.out, hq.out]
          clear hV
          go_wp2_with fail
          go_ret
          exact ⟨rfl, hB.out⟩
        · have hR : Hid (ownP ⟨a, g, b, n, t⟩ id gen fr = false) := Lib.hid (by simp [ownP, k1, k2, k3, k4])
          rw [hR.out]
          clear k1 k2
          go_enter Tryz.func121, Tryz.ntmps121
          go_upto_region 1 with fail
          rw [← show V = _ from hV.out, hq.out]
          clear hV
          go_wp2_with fail
          go_ret
          exact ⟨rfl, hB.out⟩
      · have hR : Hid (ownP ⟨a, g, b, n, t⟩ id gen fr = false) := Lib.hid (by simp [ownP, k1, k2, k3])
        rw [hR.out]
        clear k1 k2
        go_enter Tryz.func121, Tryz.ntmps121
        go_upto_region 1 with fail
        rw [← show V = _ from hV.out, hq.out]
        clear hV
        go_wp2_with fail
        go_ret
        exact ⟨rfl, hB.out⟩
    · have e2 : (g == gen) = false := by simpa using k2
      have hR : Hid (ownP ⟨a, g, b, n, t⟩ id gen fr = false) := Lib.hid (by simp [ownP, k1, k2])
      rw [hR.out]
      clear k1 k2
      go_enter Tryz.func121, Tryz.ntmps121
      go_upto_region 1 with fail
      rw [← show V = _ from hV.out, hq.out]
      clear hV
      go_wp2_with fail
      go_ret
      exact ⟨rfl, hB.out⟩
  · have e1 : (a == id) = false := by simpa using k1
    have hR : Hid (ownP ⟨a, g, b, n, t⟩ id gen fr = false) := Lib.hid (by simp [ownP, k1])
    rw [hR.out]
    clear k1
    go_enter Tryz.func121, Tryz.ntmps121
    go_upto_region 1 with fail
    rw [← show V = _ from hV.out, hq.out]
    clear hV
    go_wp2_with fail
    go_ret
    exact ⟨rfl, hB.out⟩
set_option maxRecDepth 100000 in
set_option maxHeartbeats 4000000 in
theorem rbefore15_any (a b : Sg5) (w : World) :
    Calls Tryz.prog 122 #[.agg #[.int .i64 a.log, .int .u32 a.gen, .int .i64 a.base, .int .i64 a.len, .int .u32 a.stamp], .agg #[.int .i64 b.log, .int .u32 b.gen, .int .i64 b.base, .int .i64 b.len, .int .u32 b.stamp]] w fun e w' => e = .returned (.bool (beforeP a b)) ∧ Below w.heap.size w w' := by
  obtain ⟨a0, a1, a2, a3, a4⟩ := a
  obtain ⟨b0, b1, b2, b3, b4⟩ := b
  dsimp only
  obtain ⟨V0, hV0⟩ : ∃ V, Hid (V = w.alloc (.cells #[.int .i64 a0, .int .u32 a1, .int .i64 a2, .int .i64 a3, .int .u32 a4] 88)) := ⟨_, Lib.hid rfl⟩
  have hX0 : Whole V0 w.heap.size 88 [.int .i64 a0, .int .u32 a1, .int .i64 a2, .int .i64 a3, .int .u32 a4] := by rw [hV0.out]; exact Whole.new w _ _
  obtain ⟨V, hV⟩ : ∃ V, Hid (V = V0.alloc (.cells #[.int .i64 b0, .int .u32 b1, .int .i64 b2, .int .i64 b3, .int .u32 b4] 88)) := ⟨_, Lib.hid rfl⟩
  have hX1 : Whole V V0.heap.size 88 [.int .i64 b0, .int .u32 b1, .int .i64 b2, .int .i64 b3, .int .u32 b4] := by rw [hV.out]; exact Whole.new V0 _ _
  have hX : Whole V w.heap.size 88 [.int .i64 a0, .int .u32 a1, .int .i64 a2, .int .i64 a3, .int .u32 a4] := by rw [hV.out]; exact hX0.alloc _
  have hB : Hid (Below w.heap.size w V) := Lib.hid (by rw [hV.out, hV0.out]; exact grewAlloc (grewAlloc (Below.refl _ _) _) _)
  have hs : V0.heap.size = w.heap.size + 1 := by rw [hV0.out]; simp
  rw [hs] at hX1
  have hVV : Hid (V = (w.alloc (.cells #[.int .i64 a0, .int .u32 a1, .int .i64 a2, .int .i64 a3, .int .u32 a4] 88)).alloc (.cells #[.int .i64 b0, .int .u32 b1, .int .i64 b2, .int .i64 b3, .int .u32 b4] 88)) := Lib.hid (by rw [hV.out, hV0.out])
  obtain ⟨q, hq⟩ : ∃ q, Hid (w.heap.size = q) := ⟨_, Lib.hid rfl⟩
  rw [hq.out] at hX hX1
  have x2 : V.cell? ⟨q, 2, none⟩ = some (.int .i64 a2) := hX.cell 2
  have x4 : V.cell? ⟨q, 4, none⟩ = some (.int .u32 a4) := hX.cell 4
  have y2 : V.cell? ⟨q + 1, 2, none⟩ = some (.int .i64 b2) := hX1.cell 2
  have y4 : V.cell? ⟨q + 1, 4, none⟩ = some (.int .u32 b4) := hX1.cell 4
  clear hX hX1 hX0 hs hV hV0
  by_cases k1 : a2 < b2
  · have hR : Hid (beforeP ⟨a0, a1, a2, a3, a4⟩ ⟨b0, b1, b2, b3, b4⟩ = true) := Lib.hid (by simp [beforeP, k1])
    rw [hR.out]
    go_enter Tryz.func122, Tryz.ntmps122
    go_upto_region 1 with fail
    rw [← show V = _ from hVV.out, hq.out]
    clear hVV
    go_wp2_with fail
    go_ret
    exact ⟨rfl, hB.out⟩
  · by_cases k2 : a2 = b2
    · have e2 : (a2 == b2) = true := by simpa using k2
      by_cases k3 : a4 < b4
      · have hR : Hid (beforeP ⟨a0, a1, a2, a3, a4⟩ ⟨b0, b1, b2, b3, b4⟩ = true) := Lib.hid (by simp [beforeP, k2, k3])
        rw [hR.out]
        clear k2
        go_enter Tryz.func122, Tryz.ntmps122
        go_upto_region 1 with fail
        rw [← show V = _ from hVV.out, hq.out]
        clear hVV
        go_wp2_with fail
        go_ret
        exact ⟨rfl, hB.out⟩
      · have hR : Hid (beforeP ⟨a0, a1, a2, a3, a4⟩ ⟨b0, b1, b2, b3, b4⟩ = false) := Lib.hid (by simp [beforeP, k2, k3])
        rw [hR.out]
        clear k2
        go_enter Tryz.func122, Tryz.ntmps122
        go_upto_region 1 with fail
        rw [← show V = _ from hVV.out, hq.out]
        clear hVV
        go_wp2_with fail
        go_ret
        exact ⟨rfl, hB.out⟩
    · have e2 : (a2 == b2) = false := by simpa using k2
      have hR : Hid (beforeP ⟨a0, a1, a2, a3, a4⟩ ⟨b0, b1, b2, b3, b4⟩ = false) := Lib.hid (by simp [beforeP, k1, k2])
      rw [hR.out]
      clear k2
      go_enter Tryz.func122, Tryz.ntmps122
      go_upto_region 1 with fail
      rw [← show V = _ from hVV.out, hq.out]
      clear hVV
      go_wp2_with fail
      go_ret
      exact ⟨rfl, hB.out⟩
end Go.Proofs.YtbbhnbdekblghaaGreatDoor.W
end
section
namespace Go.Proofs.YtbbhnbdekblghaaGreatDoor.W
open Go.RowKit Go.Sort
open Go.Proofs.YtbbhnbdekblghaaGreatDoor.M Go.Proofs.YtbbhnbdekblghaaGreatDoor.D Go.Proofs.YtbbhnbdekblghaaGreatDoor.Z
set_option linter.unusedVariables false
set_option linter.unusedSimpArgs false

def SgAt (W : World) (va : Option Addr) (l : List Sg5) : Prop := ∀ i s, l[i]? = some s → ∃ b o, va = some ⟨b, o, none⟩ ∧ b < W.heap.size ∧ ∀ j v, (sg5L s)[j]? = some v → W.cell? ⟨b, o + i * 5 + j, none⟩ = some v
theorem SgAt.below {W W' : World} {va : Option Addr} {l : List Sg5} (h : SgAt W va l) (hb : Below W.heap.size W W') : SgAt W' va l := fun i s hi => by
  obtain ⟨b, o, e, h1, h2⟩ := h i s hi
  exact ⟨b, o, e, Nat.lt_of_lt_of_le h1 hb.size, fun j v hj => (World.cell?_of_block (a := ⟨b, o + i * 5 + j, none⟩) (hb.block b h1)).trans (h2 j v hj)⟩
theorem SgAt.get {W : World} {va : Option Addr} {l : List Sg5} {i : Nat} {s : Sg5} (h : SgAt W va l) (hi : l[i]? = some s) : ∃ b o, va = some ⟨b, o, none⟩ ∧ W.cell? ⟨b, o + i * 5, none⟩ = some (.int .i64 s.log) ∧ W.cell? ⟨b, o + i * 5 + 1, none⟩ = some (.int .u32 s.gen) ∧ W.cell? ⟨b, o + i * 5 + 2, none⟩ = some (.int .i64 s.base) ∧ W.cell? ⟨b, o + i * 5 + 3, none⟩ = some (.int .i64 s.len) ∧ W.cell? ⟨b, o + i * 5 + 4, none⟩ = some (.int .u32 s.stamp) := by
  obtain ⟨b, o, e, _, h2⟩ := h i s hi
  exact ⟨b, o, e, h2 0 _ rfl, h2 1 _ rfl, h2 2 _ rfl, h2 3 _ rfl, h2 4 _ rfl⟩
/-- Does the segment come in place of the one found? -/
def takesP (l : List Sg5) (id gen fr lo hi : Int) (s : Sg5) (at_ : Option Nat) : Bool :=
  ownP s id gen fr && decide (lo ≤ s.base) && decide (s.base ≤ hi) && (match at_ with
    | none => true
    | some j => match l[j]? with
      | none => false
      | some t => beforeP s t)
def accP (l : List Sg5) (id gen fr lo hi : Int) : Nat → Option Nat
  | 0 => none
  | k + 1 => match l[k]? with
    | none => accP l id gen fr lo hi k
    | some s => if takesP l id gen fr lo hi s (accP l id gen fr lo hi k) then some k else accP l id gen fr lo hi k
def atV : Option Nat → Int
  | none => -1
  | some j => (j : Int)
theorem accP_lt (l : List Sg5) (id gen fr lo hi : Int) : ∀ (k j : Nat), accP l id gen fr lo hi k = some j → j < k
  | 0, j, h => by cases h
  | k + 1, j, h => by
    unfold accP at h
    cases hs : l[k]? with
    | none => rw [hs] at h; have := accP_lt l id gen fr lo hi k j h; omega
    | some s =>
      rw [hs] at h
      dsimp only at h
      split at h
      · cases h; omega
      · have := accP_lt l id gen fr lo hi k j h; omega
set_option maxRecDepth 100000 in
set_option maxHeartbeats 8000000 in
theorem rfirst15_any (va : Option Addr) (n c : Nat) (l : List Sg5) (id gen fr lo hi : Int) (w : World) (h : SgAt w va l) (hn : l.length = n) (hn2 : n ≤ 1000) (hok : ∀ s ∈ l, -9223372036854775808 ≤ s.base + s.len ∧ s.base + s.len ≤ 9223372036854775807) :
    Calls Tryz.prog 86 #[.slice va n c, .int .i64 id, .int .u32 gen, .int .i64 fr, .agg #[.int .i64 lo, .int .i64 hi]] w fun e w' => e = .returned (.int .i64 (atV (accP l id gen fr lo hi n))) ∧ Below w.heap.size w w' := by
  obtain ⟨V, hV⟩ : ∃ V, Hid (V = w.alloc (.cells #[.int .i64 lo, .int .i64 hi] 143)) := ⟨_, Lib.hid rfl⟩
  have hb0 : Below w.heap.size w V := by rw [hV.out]; exact grewAlloc (Below.refl _ _) _
  have hQ : Whole V w.heap.size 143 [.int .i64 lo, .int .i64 hi] := by rw [hV.out]; exact Whole.new w _ _
  obtain ⟨qb, hqb⟩ : ∃ q, Hid (w.heap.size = q) := ⟨_, Lib.hid rfl⟩
  rw [hqb.out] at hQ
  have hh := Lib.hid h
  have hlen := Lib.hid hn
  have hokk := Lib.hid hok
  replace hQ := Lib.hid hQ
  replace hb0 := Lib.hid hb0
  clear h hn hok
  go_enter Tryz.func86, Tryz.ntmps86
  go_upto_region 1 with fail
  rw [← show V = _ from hV.out, hqb.out]
  clear hV
  go_wp2_with fail
  go_loopg [11, 16] n (fun ga at_ i wr => ∃ k : Nat, k ≤ n ∧ n ≤ k + ga ∧ i = .int .i64 (k : Int) ∧ at_ = .int .i64 (atV (accP l id gen fr lo hi k)) ∧ Hid (Below V.heap.size V wr))
  case atStart => exact ⟨0, by omega, by omega, rfl, rfl, Lib.hid (Below.refl _ _)⟩
  case round =>
    obtain ⟨k, hk, hg, rfl, rfl, hrel⟩ := hrel
    generalize wr = wo at *
    by_cases hlt : k < n
    · obtain ⟨s, hs⟩ : ∃ s, l[k]? = some s := ⟨_, List.getElem?_eq_getElem (by have := hlen.out; omega)⟩
      have hBo := hb0.out.trans (hrel.out.mono hb0.out.size)
      obtain ⟨b, o, rfl, c0, c1, c2, c3, c4⟩ := (hh.out.below hBo).get hs
      have hki : (k : Int) < (n : Int) := by omega
      obtain ⟨W1, hW1⟩ : ∃ V, Hid (V = wo.alloc (.cells #[.int .i64 s.log, .int .u32 s.gen, .int .i64 s.base, .int .i64 s.len, .int .u32 s.stamp] 88)) := ⟨_, Lib.hid rfl⟩
      have hb1 : Below wo.heap.size wo W1 := by rw [hW1.out]; exact grewAlloc (Below.refl _ _) _
      have hX : Whole W1 wo.heap.size 88 [.int .i64 s.log, .int .u32 s.gen, .int .i64 s.base, .int .i64 s.len, .int .u32 s.stamp] := by rw [hW1.out]; exact Whole.new wo _ _
      obtain ⟨xb, hxb⟩ : ∃ q, Hid (wo.heap.size = q) := ⟨_, Lib.hid rfl⟩
      rw [hxb.out] at hX
      have hB1 := Lib.hid (grew hrel.out hb1)
      have hQ1 := hQ.out.below hB1.out hQ.out.lt
      have x0 := fun d os => cell_regrown (show W1.cell? ⟨xb, 0, none⟩ = some (.int .i64 s.log) from hX.cell 0) d os
      have x1 := fun d os => cell_regrown (show W1.cell? ⟨xb, 1, none⟩ = some (.int .u32 s.gen) from hX.cell 1) d os
      have x2 := fun d os => cell_regrown (show W1.cell? ⟨xb, 2, none⟩ = some (.int .i64 s.base) from hX.cell 2) d os
      have x3 := fun d os => cell_regrown (show W1.cell? ⟨xb, 3, none⟩ = some (.int .i64 s.len) from hX.cell 3) d os
      have x4 := fun d os => cell_regrown (show W1.cell? ⟨xb, 4, none⟩ = some (.int .u32 s.stamp) from hX.cell 4) d os
      have z0 := fun d os => cell_regrown (show W1.cell? ⟨qb, 0, none⟩ = some (.int .i64 lo) from hQ1.cell 0) d os
      have z1 := fun d os => cell_regrown (show W1.cell? ⟨qb, 1, none⟩ = some (.int .i64 hi) from hQ1.cell 1) d os
      have hsok := hokk.out s (List.mem_of_getElem? hs)
      have ho0 := fun U (_ : True) => rown15_any s id gen fr U hsok.1 hsok.2
      have hown := Lib.hid (regrown_if ho0 W1 (fun w' _ => trivial))
      obtain ⟨v1, hv1⟩ : ∃ v, Hid (ownP s id gen fr = v) := ⟨_, Lib.hid rfl⟩
      rw [hv1.out] at hown
      have hnx0 : accP l id gen fr lo hi (k + 1) = if takesP l id gen fr lo hi s (accP l id gen fr lo hi k) then some k else accP l id gen fr lo hi k := by
        show (match l[k]? with | none => accP l id gen fr lo hi k | some s => if takesP l id gen fr lo hi s (accP l id gen fr lo hi k) then some k else accP l id gen fr lo hi k) = _
        rw [hs]
      obtain ⟨v2, hv2⟩ : ∃ v, Hid (decide (lo ≤ s.base) = v) := ⟨_, Lib.hid rfl⟩
      obtain ⟨v3, hv3⟩ : ∃ v, Hid (decide (s.base ≤ hi) = v) := ⟨_, Lib.hid rfl⟩
      have e2 : ∀ W, (binOp BinOp.geq 3 (.int .i64 s.base) (.int .i64 lo)).run Tryz.prog W = .ok (.bool v2) W := fun W => by rw [← hv2.out]; simp [go_sem, Tryz.underlying3]
      have e3 : ∀ W, (binOp BinOp.leq 3 (.int .i64 s.base) (.int .i64 hi)).run Tryz.prog W = .ok (.bool v3) W := fun W => by rw [← hv3.out]; simp [go_sem, Tryz.underlying3]
      cases hacc : accP l id gen fr lo hi k with
      | none =>
        rw [hacc] at hnx0
        have e4 : ∀ W, (binOp BinOp.lss 3 (.int .i64 (-1)) (.int .i64 0)).run Tryz.prog W = .ok (.bool true) W := fun W => by simp [go_sem, Tryz.underlying3]
        have hnx : Hid (accP l id gen fr lo hi (k + 1) = if (v1 && v2 && v3) = true then some k else none) := Lib.hid (by rw [hnx0]; unfold takesP; rw [hv1.out, hv2.out, hv3.out, Bool.and_true])
        rw [show atV none = -1 from rfl]
        clear hnx0 hrel hX hQ1 hsok ho0 hb1 hacc
        cases v1 <;> cases v2 <;> cases v3
        all_goals
          go_upto_region 5 with fail
          rw [← show W1 = _ from hW1.out, hxb.out]
          clear hW1 hxb
          refine wp_region_quiet_below (by kernel_rfl) (by kernel_rfl) ?_
          repeat (first
            | ((with_reducible refine quiet_cmp BinOp.geq 3 3 (.int .i64 s.base) (.int .i64 lo) _ ?_ ?_ e2 ?_ ?_ ?_); (· rfl); (· rfl); (· exact fun _ => rfl); (· rfl); simp only [Act.put, List.setIfInBounds_toArray, List.set_cons_zero, List.set_cons_succ])
            | ((with_reducible refine quiet_cmp BinOp.leq 3 3 (.int .i64 s.base) (.int .i64 hi) _ ?_ ?_ e3 ?_ ?_ ?_); (· rfl); (· rfl); (· exact fun _ => rfl); (· rfl); simp only [Act.put, List.setIfInBounds_toArray, List.set_cons_zero, List.set_cons_succ])
            | ((with_reducible refine quiet_cmp BinOp.lss 3 3 (.int .i64 (-1)) (.int .i64 0) _ ?_ ?_ e4 ?_ ?_ ?_); (· rfl); (· rfl); (· exact fun _ => rfl); (· rfl); simp only [Act.put, List.setIfInBounds_toArray, List.set_cons_zero, List.set_cons_succ])
            | go_big_quiet_step (first | (with_reducible exact hown.out _ _) | fail "none"))
          refine wpQuiet_nil ?_
          intro _ hw'
          obtain ⟨⟨dq, osq⟩, hw''⟩ := hw'
          subst hw''
          have hf2 := Lib.hid (grew hB1.out (below_regrown W1 dq osq))
          clear x0 x1 x2 x3 x4 z0 z1 hown e2 e3 e4
          go_wp2_with fail
          go_roundg (gk - 1)
          case measure => omega
          case rel => exact ⟨k + 1, by omega, by omega, by go_num, by rw [hnx.out]; first | rfl | (simp [atV]; done), hf2⟩
      | some j =>
        rw [hacc] at hnx0
        have hjk := accP_lt l id gen fr lo hi k j hacc
        obtain ⟨t, ht⟩ : ∃ t, l[j]? = some t := ⟨_, List.getElem?_eq_getElem (by have := hlen.out; omega)⟩
        obtain ⟨b', o', eb, u0, u1, u2, u3, u4⟩ := (hh.out.below (hb0.out.trans (hB1.out.mono hb0.out.size))).get ht
        cases eb
        have y0 := fun d os => cell_regrown u0 d os
        have y1 := fun d os => cell_regrown u1 d os
        have y2 := fun d os => cell_regrown u2 d os
        have y3 := fun d os => cell_regrown u3 d os
        have y4 := fun d os => cell_regrown u4 d os
        have hbf0 := fun U (_ : True) => rbefore15_any s t U
        have hbef := Lib.hid (regrown_if hbf0 W1 (fun w' _ => trivial))
        obtain ⟨v5, hv5⟩ : ∃ v, Hid (beforeP s t = v) := ⟨_, Lib.hid rfl⟩
        rw [hv5.out] at hbef
        have hji : (j : Int) < (n : Int) := by omega
        have hj0 : (0 : Int) ≤ (j : Int) := by omega
        have e4 : ∀ W, (binOp BinOp.lss 3 (.int .i64 (j : Int)) (.int .i64 0)).run Tryz.prog W = .ok (.bool false) W := fun W => by
          have h1 : ¬ (j : Int) < 0 := by omega
          simp [go_sem, Tryz.underlying3, h1]
        have hnx : Hid (accP l id gen fr lo hi (k + 1) = if (v1 && v2 && v3 && v5) = true then some k else some j) := Lib.hid (by
          have htk : takesP l id gen fr lo hi s (some j) = (v1 && v2 && v3 && v5) := by simp only [takesP, hv1.out, hv2.out, hv3.out, ht, hv5.out]
          rw [hnx0, htk])
        rw [show atV (some j) = (j : Int) from rfl]
        clear hnx0 hrel hX hQ1 hsok ho0 hb1 hacc hbf0 u0 u1 u2 u3 u4 ht
        cases v1 <;> cases v2 <;> cases v3 <;> cases v5
        all_goals
          go_upto_region 5 with fail
          rw [← show W1 = _ from hW1.out, hxb.out]
          clear hW1 hxb
          refine wp_region_quiet_below (by kernel_rfl) (by kernel_rfl) ?_
          repeat (first
            | ((with_reducible refine quiet_cmp BinOp.geq 3 3 (.int .i64 s.base) (.int .i64 lo) _ ?_ ?_ e2 ?_ ?_ ?_); (· rfl); (· rfl); (· exact fun _ => rfl); (· rfl); simp only [Act.put, List.setIfInBounds_toArray, List.set_cons_zero, List.set_cons_succ])
            | ((with_reducible refine quiet_cmp BinOp.leq 3 3 (.int .i64 s.base) (.int .i64 hi) _ ?_ ?_ e3 ?_ ?_ ?_); (· rfl); (· rfl); (· exact fun _ => rfl); (· rfl); simp only [Act.put, List.setIfInBounds_toArray, List.set_cons_zero, List.set_cons_succ])
            | ((with_reducible refine quiet_cmp BinOp.lss 3 3 (.int .i64 (j : Int)) (.int .i64 0) _ ?_ ?_ e4 ?_ ?_ ?_); (· rfl); (· rfl); (· exact fun _ => rfl); (· rfl); simp only [Act.put, List.setIfInBounds_toArray, List.set_cons_zero, List.set_cons_succ])
            | go_big_quiet_step (first | (with_reducible exact hown.out _ _) | (with_reducible exact hbef.out _ _) | fail "none"))
          refine wpQuiet_nil ?_
          intro _ hw'
          obtain ⟨⟨dq, osq⟩, hw''⟩ := hw'
          subst hw''
          have hf2 := Lib.hid (grew hB1.out (below_regrown W1 dq osq))
          clear x0 x1 x2 x3 x4 z0 z1 hown e2 e3 e4 hbef y0 y1 y2 y3 y4
          go_wp2_with fail
          go_roundg (gk - 1)
          case measure => omega
          case rel => exact ⟨k + 1, by omega, by omega, by go_num, by rw [hnx.out]; first | rfl | (simp [atV]; done), hf2⟩
    · obtain rfl : k = n := by omega
      have hfin := Lib.hid (hb0.out.trans (hrel.out.mono hb0.out.size))
      go_wp2_with fail
      go_ret
      exact ⟨rfl, hfin.out⟩
end Go.Proofs.YtbbhnbdekblghaaGreatDoor.W
end
section
namespace Go.Proofs.YtbbhnbdekblghaaGreatDoor.W
open Go.RowKit Go.Sort
open Go.Proofs.YtbbhnbdekblghaaGreatDoor.M Go.Proofs.YtbbhnbdekblghaaGreatDoor.D Go.Proofs.YtbbhnbdekblghaaGreatDoor.Z
set_option linter.unusedVariables false
set_option linter.unusedSimpArgs false

/-- The chain so far, and the next one's place. -/
def chP (l : List Sg5) (id gen fr : Int) : Nat → List Int × Option Nat
  | 0 => ([], accP l id gen fr 0 fr l.length)
  | k + 1 => match (chP l id gen fr k).2 with
    | none => ((chP l id gen fr k).1, none)
    | some j => match l[j]? with
      | none => ((chP l id gen fr k).1, none)
      | some t => ((chP l id gen fr k).1 ++ [(j : Int)], accP l id gen fr (t.base + t.len) (t.base + t.len) l.length)
theorem infoC15 : (Tryz.prog.info? 3).map (fun i => (i.zero, i.size, i.bytes)) = some (some (.int .i64 0), 1, 8) := by kernel_rfl
theorem chP_lt (l : List Sg5) (id gen fr : Int) : ∀ k j, (chP l id gen fr k).2 = some j → j < l.length
  | 0, j, h => accP_lt l id gen fr 0 fr _ j h
  | k + 1, j, h => by
    unfold chP at h
    cases h1 : (chP l id gen fr k).2 with
    | none => rw [h1] at h; cases h
    | some i =>
      rw [h1] at h
      dsimp only at h
      cases h2 : l[i]? with
      | none => rw [h2] at h; cases h
      | some t => rw [h2] at h; exact accP_lt l id gen fr _ _ _ j h
theorem chP_stop (l : List Sg5) (id gen fr : Int) : ∀ k m, k ≤ m → (chP l id gen fr k).2 = none → (chP l id gen fr m) = (chP l id gen fr k)
  | k, 0, h, h1 => by
    obtain rfl : k = 0 := (by omega)
    rfl
  | k, m + 1, h, h1 => by
    by_cases e : k = m + 1
    · rw [e]
    · have ih := chP_stop l id gen fr k m (by omega) h1
      have h2 : (chP l id gen fr m).2 = none := by rw [ih]; exact h1
      rw [← ih]
      show (match (chP l id gen fr m).2 with | none => ((chP l id gen fr m).1, none) | some j => _) = _
      rw [h2]
      show ((chP l id gen fr m).1, none) = chP l id gen fr m
      rw [← h2]
set_option maxRecDepth 100000 in
set_option maxHeartbeats 8000000 in
theorem rchain15_any (va : Option Addr) (n c : Nat) (l : List Sg5) (id gen fr : Int) (w : World) (h : SgAt w va l) (hn : l.length = n) (hn2 : n ≤ 1000) (hok : ∀ s ∈ l, -9223372036854775808 ≤ s.base + s.len ∧ s.base + s.len ≤ 9223372036854775807) :
    Calls Tryz.prog 36 #[.slice va n c, .int .i64 id, .int .u32 gen, .int .i64 fr] w fun e w' => ∃ A c', e = .returned (.slice A (chP l id gen fr n).1.length c') ∧ w'.ownsRow w.heap.size 3 1 (.slice A (chP l id gen fr n).1.length c') (chP l id gen fr n).1.length (rowP (chP l id gen fr n).1) ∧ Below w.heap.size w w' := by
  have hfs := Lib.hid (fun (lo hi : Int) (W : World) (hb : Below w.heap.size w W) => rfirst15_any va n c l id gen fr lo hi W (h.below hb) hn hn2 hok)
  have hst := Lib.hid (chP_stop l id gen fr)
  have hlt0 := Lib.hid (chP_lt l id gen fr)
  have hh := Lib.hid h
  have hlen := Lib.hid hn
  have hokk := Lib.hid hok
  obtain ⟨i0, hi0, hz0, hz1, hz2⟩ := info_parts infoC15
  have hf0 := Lib.hid (hfs.out 0 fr w (Below.refl _ _))
  have h00 : Hid (chP l id gen fr 0 = ([], accP l id gen fr 0 fr n)) := Lib.hid (by rw [← hlen.out]; rfl)
  clear h hn hok
  go_enter Tryz.func36, Tryz.ntmps36
  go_wp2_with fail
  refine hf0.out.mono ?_
  rintro _ w2 ⟨rfl, hb2⟩
  replace hb2 := Lib.hid hb2
  clear hf0
  rw [show accP l id gen fr 0 fr n = (chP l id gen fr 0).2 from by rw [h00.out]]
  go_wp2_with fail
  go_loopg [9, 10, 21] n (fun ga lo at_ i wr => ∃ (k a cc : Nat) (A : Option Addr), k ≤ n ∧ n ≤ k + ga ∧ i = .int .i64 (k : Int) ∧ at_ = .int .i64 (atV (chP l id gen fr k).2) ∧ lo = .slice A a cc ∧ a ≤ k ∧ Hid ((chP l id gen fr k).1.length = a ∧ wr.ownsRow w.heap.size 3 1 (.slice A a cc) a (rowP (chP l id gen fr k).1) ∧ Below w.heap.size w wr))
  case atStart => exact ⟨0, 0, 0, none, by omega, by omega, rfl, rfl, rfl, by omega, Lib.hid ⟨by rw [h00.out]; rfl, by rw [h00.out]; exact World.ownsRow_nil _ _ _ _, hb2.out⟩⟩
  case round =>
    clear hb2
    obtain ⟨k, a, cc, A, hk, hg, rfl, rfl, rfl, hak, hrel⟩ := hrel
    generalize wr = wo at *
    by_cases hlt : k < n
    · have hki : (k : Int) < (n : Int) := by omega
      cases hat : (chP l id gen fr k).2 with
      | none =>
        have hfin : Hid (∃ A' c', Ending.returned (.slice A a cc) = .returned (.slice A' (chP l id gen fr n).1.length c') ∧ wo.ownsRow w.heap.size 3 1 (.slice A' (chP l id gen fr n).1.length c') (chP l id gen fr n).1.length (rowP (chP l id gen fr n).1) ∧ Below w.heap.size w wo) := Lib.hid (by
          rw [hst.out k n (by omega) hat, hrel.out.1]
          exact ⟨A, cc, rfl, hrel.out.2⟩)
        rw [show atV none = -1 from rfl]
        clear hrel
        go_wp2_with fail
        go_ret
        exact hfin.out
      | some j =>
        have hj := hlt0.out k j hat
        obtain ⟨t, ht⟩ : ∃ t, l[j]? = some t := ⟨_, List.getElem?_eq_getElem hj⟩
        have hnx : Hid (chP l id gen fr (k + 1) = ((chP l id gen fr k).1 ++ [(j : Int)], accP l id gen fr (t.base + t.len) (t.base + t.len) n)) := Lib.hid (by
          rw [← hlen.out]
          show (match (chP l id gen fr k).2 with | none => _ | some j => match l[j]? with | none => _ | some t => _) = _
          rw [hat]; dsimp only; rw [ht])
        obtain ⟨E, hE⟩ : ∃ E, Hid (t.base + t.len = E) := ⟨_, Lib.hid rfl⟩
        have htk := hokk.out t (List.mem_of_getElem? ht)
        have hw : IntKind.i64.wrap (t.base + t.len) = E := by rw [IntWalk.i64_in _ (by omega)]; exact hE.out
        rw [hE.out] at hnx
        have hj0 : (0 : Int) ≤ (j : Int) := by omega
        have hj1 : ¬ (j : Int) < 0 := by omega
        have hji : (j : Int) < (n : Int) := by have := hlen.out; omega
        obtain ⟨b, o, rfl, u0, u1, u2, u3, u4⟩ := (hh.out.below hrel.out.2.2).get ht
        rw [show atV (some j) = (j : Int) from rfl]
        replace ht := Lib.hid ht
        clear u0 u1 u4 hj
        go_wp2_with (with_reducible refine zAppend _ _ _ rfl ?_)
        refine Lib.hid ?_
        refine wpList_append_lies _ rfl _ _ 36 rfl w.heap.size 3 i0 _ 1 8 Tryz.underlying36 hi0 hz0 hz1 hz2 rfl (by omega) (.slice A a cc) a _ rfl (hrel.out.2.1.alloc _) _ 1 1 [.int .i64 (j : Int)] rfl rfl (World.news_of_block (heap_alloc_new _ _)) (by simp [Value.oneCell']) (by omega) (by unfold maxLen; omega) (by omega) (by have := hrel.out.2.2.size; simp; omega) (wo.heap.size + 1) (by simp) ?_
        intro gg cap2 w5 hown5 hgrow5 hat5 hlt5
        have hb5 : Below w.heap.size w w5 := (((Kept.of_below (own := fun b => w.heap.size ≤ b) hrel.out.2.2).alloc _).grown hgrow5 (fun k hk => .inl (ownFar hrel.out.2.1 k hk))).below (Nat.le_refl _) (fun _ h => h)
        obtain ⟨b', o', eb, _, _, v2, v3, _⟩ := (hh.out.below hb5).get ht.out
        cases eb
        have hrow : Hid ((chP l id gen fr (k + 1)).1.length = a + 1 ∧ w5.ownsRow w.heap.size 3 1 (.slice (some ⟨gg, 0, none⟩) (a + 1) cap2) (a + 1) (rowP (chP l id gen fr (k + 1)).1)) := Lib.hid (by
          rw [hnx.out]
          refine ⟨by show ((chP l id gen fr k).1 ++ [(j : Int)]).length = a + 1; rw [List.length_append, hrel.out.1]; rfl, ?_⟩
          show w5.ownsRow _ _ _ _ _ (rowP ((chP l id gen fr k).1 ++ [(j : Int)]))
          unfold rowP at hown5 ⊢
          rw [List.map_append]
          exact hown5)
        have hfn := Lib.hid (fun U (hu : Below w.heap.size w U) => hfs.out E E U hu)
        replace hb5 := Lib.hid hb5
        clear hown5 hgrow5 hat5 hlt5 hrel u2 u3
        go_wp2_with fail
        go_quiet (fail)
        have hq5 : Hid (Below w.heap.size w (w5.drewN nq)) := Lib.hid ((fun (h : Below w.heap.size w w5) => ⟨h.os, h.tape, h.output, h.size, h.block⟩) hb5.out)
        have hf5 := Lib.hid (hfn.out _ hq5.out)
        have hrow5 : Hid ((chP l id gen fr (k + 1)).1.length = a + 1 ∧ (w5.drewN nq).ownsRow w.heap.size 3 1 (.slice (some ⟨gg, 0, none⟩) (a + 1) cap2) (a + 1) (rowP (chP l id gen fr (k + 1)).1)) := Lib.hid ⟨hrow.out.1, own_of_kept (own := fun _ => False) hrow.out.2 (Kept.of_below (⟨rfl, rfl, rfl, Nat.le_refl _, fun _ _ => rfl⟩ : Below w5.heap.size w5 (w5.drewN nq))) (fun _ _ e => e)⟩
        clear v2 v3 hfn
        go_wp2_with fail
        refine hf5.out.mono ?_
        rintro _ w6 ⟨rfl, hb6⟩
        have hfin : Hid ((chP l id gen fr (k + 1)).1.length = a + 1 ∧ w6.ownsRow w.heap.size 3 1 (.slice (some ⟨gg, 0, none⟩) (a + 1) cap2) (a + 1) (rowP (chP l id gen fr (k + 1)).1) ∧ Below w.heap.size w w6) := Lib.hid ⟨hrow5.out.1, own_of_kept (own := fun _ => False) hrow5.out.2 (Kept.of_below hb6) (fun _ _ e => e), grew hq5.out hb6⟩
        clear hf5 hb6 hrow hrow5 hq5
        go_wp2_with fail
        go_roundg (gk - 1)
        case measure => omega
        case rel => exact ⟨k + 1, a + 1, cap2, some ⟨gg, 0, none⟩, by omega, by omega, by go_num, by rw [hnx.out], rfl, by omega, hfin⟩
    · obtain rfl : k = n := by omega
      have hfin : Hid (∃ A' c', Ending.returned (.slice A a cc) = .returned (.slice A' (chP l id gen fr k).1.length c') ∧ wo.ownsRow w.heap.size 3 1 (.slice A' (chP l id gen fr k).1.length c') (chP l id gen fr k).1.length (rowP (chP l id gen fr k).1) ∧ Below w.heap.size w wo) := Lib.hid (by
        rw [hrel.out.1]
        exact ⟨A, cc, rfl, hrel.out.2⟩)
      clear hrel
      go_wp2_with fail
      go_ret
      exact hfin.out
end Go.Proofs.YtbbhnbdekblghaaGreatDoor.W
end
section
namespace Go.Proofs.YtbbhnbdekblghaaGreatDoor.W
open Go.RowKit Go.Sort
open Go.Proofs.YtbbhnbdekblghaaGreatDoor.M Go.Proofs.YtbbhnbdekblghaaGreatDoor.D Go.Proofs.YtbbhnbdekblghaaGreatDoor.Z
set_option linter.unusedVariables false
set_option linter.unusedSimpArgs false

/-- A loaded segment, as the definition looks at it. -/
def sg5 (r : Sr) : Sg5 := ⟨r.a, r.g, r.b, r.fs.length, r.s⟩
def PW (id gen fr lo hi : Int) (r : Sr) : Bool := ownP (sg5 r) id gen fr && decide (lo ≤ (r.b : Int)) && decide ((r.b : Int) ≤ hi)
theorem PW2 (id gen fr : Int) : PW id gen fr 0 fr = P2 id gen fr := by
  funext r
  rw [Bool.eq_iff_iff]
  unfold PW P2 isL ownP sg5
  simp only [Bool.and_eq_true, decide_eq_true_eq]
  refine ⟨fun ⟨⟨⟨⟨⟨h1, h2⟩, h3⟩, h4⟩, h5⟩, h6⟩ => ⟨⟨h1, h2, by omega, by omega⟩, by omega⟩, fun ⟨⟨h1, h2, h3, h4⟩, h5⟩ => ⟨⟨⟨⟨⟨h1, h2⟩, by omega⟩, by omega⟩, by omega⟩, by omega⟩⟩
theorem PW3 (id gen fr nx : Int) : PW id gen fr nx nx = P3 id gen fr nx := by
  funext r
  rw [Bool.eq_iff_iff]
  unfold PW P3 isL ownP sg5
  simp only [Bool.and_eq_true, decide_eq_true_eq]
  refine ⟨fun ⟨⟨⟨⟨⟨h1, h2⟩, h3⟩, h4⟩, h5⟩, h6⟩ => ⟨⟨h1, h2, by omega, by omega⟩, by omega⟩, fun ⟨⟨h1, h2, h3, h4⟩, h5⟩ => ⟨⟨⟨⟨⟨h1, h2⟩, by omega⟩, by omega⟩, by omega⟩, by omega⟩⟩
theorem before_sg (r t : Sr) : (beforeP (sg5 r) (sg5 t) = true) ↔ (r.b < t.b ∨ r.b = t.b ∧ r.s < t.s) := by
  unfold beforeP sg5
  simp only [Bool.and_eq_true, Bool.or_eq_true, decide_eq_true_eq]
  refine ⟨fun h => ?_, fun h => ?_⟩
  · rcases h with h | ⟨h, h1⟩
    · exact .inl (by omega)
    · exact .inr ⟨by omega, by omega⟩
  · rcases h with h | ⟨h, h1⟩
    · exact .inl (by omega)
    · exact .inr ⟨by omega, by omega⟩
theorem first_acc (rs : List Sr) (id gen fr lo hi : Int) : ∀ k, k ≤ rs.length → firstF (PW id gen fr lo hi) rs k = (accP (rs.map sg5) id gen fr lo hi k).bind fun j => rs[j]?
  | 0, _ => rfl
  | k + 1, hk => by
    have ih := first_acc rs id gen fr lo hi k (by omega)
    have hr : rs[k]? = some (rs[k]'(by omega)) := List.getElem?_eq_getElem _
    generalize rs[k]'(by omega) = r at hr
    rw [first_next hr, ih]
    have hl : (rs.map sg5)[k]? = some (sg5 r) := by rw [List.getElem?_map, hr]; rfl
    have ha : accP (rs.map sg5) id gen fr lo hi (k + 1) = if takesP (rs.map sg5) id gen fr lo hi (sg5 r) (accP (rs.map sg5) id gen fr lo hi k) then some k else accP (rs.map sg5) id gen fr lo hi k := by
      show (match (rs.map sg5)[k]? with | none => accP (rs.map sg5) id gen fr lo hi k | some s => _) = _
      rw [hl]
    rw [ha]
    cases ho : accP (rs.map sg5) id gen fr lo hi k with
    | none =>
      have e : takesP (rs.map sg5) id gen fr lo hi (sg5 r) none = PW id gen fr lo hi r := by
        unfold takesP PW
        rw [Bool.and_true]
        rfl
      rw [e]
      unfold pick1
      by_cases hp : PW id gen fr lo hi r = true
      · rw [if_pos hp, if_pos hp]; exact hr.symm
      · rw [if_neg hp, if_neg hp]
    | some j =>
      have hj := accP_lt _ id gen fr lo hi k j ho
      have ht : rs[j]? = some (rs[j]'(by omega)) := List.getElem?_eq_getElem _
      generalize rs[j]'(by omega) = t at ht
      have hlt : (rs.map sg5)[j]? = some (sg5 t) := by rw [List.getElem?_map, ht]; rfl
      have e : takesP (rs.map sg5) id gen fr lo hi (sg5 r) (some j) = (PW id gen fr lo hi r && beforeP (sg5 r) (sg5 t)) := by
        unfold takesP PW
        dsimp only
        rw [hlt]
        rfl
      rw [e, show (some j).bind (fun j => rs[j]?) = some t from ht]
      unfold pick1
      by_cases hp : PW id gen fr lo hi r = true
      · rw [if_pos hp, hp]
        dsimp only
        by_cases hb : beforeP (sg5 r) (sg5 t) = true
        · rw [if_pos ((before_sg r t).1 hb), hb, if_pos (show (true && true) = true from rfl)]; exact hr.symm
        · rw [if_neg (fun h => hb ((before_sg r t).2 h)), if_neg (by simpa using hb)]; exact ht.symm
      · rw [if_neg hp, if_neg (by simp [hp])]; exact ht.symm
/-- The places of a chain from one on. -/
def walkP (l : List Sg5) (id gen fr : Int) : Nat → Option Nat → List Nat
  | _, none => []
  | 0, some _ => []
  | f + 1, some j => match l[j]? with
    | none => []
    | some t => j :: walkP l id gen fr f (accP l id gen fr (t.base + t.len) (t.base + t.len) l.length)
theorem walkP_none (l : List Sg5) (id gen fr : Int) (f : Nat) : walkP l id gen fr f none = [] := by cases f <;> rfl
theorem ch_walk (l : List Sg5) (id gen fr : Int) : ∀ f k, (chP l id gen fr (k + f)).1 = (chP l id gen fr k).1 ++ (walkP l id gen fr f (chP l id gen fr k).2).map (fun j : Nat => (j : Int))
  | 0, k => by
    cases h : (chP l id gen fr k).2 <;> simp [walkP]
  | f + 1, k => by
    rw [show k + (f + 1) = (k + 1) + f from by omega, ch_walk l id gen fr f (k + 1)]
    cases h : (chP l id gen fr k).2 with
    | none =>
      have e : chP l id gen fr (k + 1) = ((chP l id gen fr k).1, none) := by
        show (match (chP l id gen fr k).2 with | none => ((chP l id gen fr k).1, none) | some j => _) = _
        rw [h]
      rw [e, walkP_none, walkP_none]
    | some j =>
      have hj := chP_lt l id gen fr k j h
      have ht : l[j]? = some (l[j]'hj) := List.getElem?_eq_getElem _
      generalize l[j]'hj = t at ht
      have e : chP l id gen fr (k + 1) = ((chP l id gen fr k).1 ++ [(j : Int)], accP l id gen fr (t.base + t.len) (t.base + t.len) l.length) := by
        show (match (chP l id gen fr k).2 with | none => _ | some j => match l[j]? with | none => _ | some t => _) = _
        rw [h]; dsimp only; rw [ht]
      have e2 : walkP l id gen fr (f + 1) (some j) = j :: walkP l id gen fr f (accP l id gen fr (t.base + t.len) (t.base + t.len) l.length) := by
        show (match l[j]? with | none => [] | some t => j :: walkP l id gen fr f (accP l id gen fr (t.base + t.len) (t.base + t.len) l.length)) = _
        rw [ht]
      rw [e, e2]
      simp
theorem walk_walk (rs : List Sr) (id gen fr : Int) : ∀ f o, (∀ j, o = some j → j < rs.length) → (walkP (rs.map sg5) id gen fr f o).map (fun j => rs[j]?) = (walkC rs id gen fr f (o.bind fun j => rs[j]?)).map some
  | 0, none, _ => rfl
  | 0, some j, h => by
    have hr : rs[j]? = some (rs[j]'(h j rfl)) := List.getElem?_eq_getElem _
    show [] = (walkC rs id gen fr 0 (rs[j]?)).map some
    rw [hr]
    rfl
  | f + 1, none, _ => rfl
  | f + 1, some j, h => by
    have hr : rs[j]? = some (rs[j]'(h j rfl)) := List.getElem?_eq_getElem _
    generalize rs[j]'(h j rfl) = r at hr
    have hl : (rs.map sg5)[j]? = some (sg5 r) := by rw [List.getElem?_map, hr]; rfl
    have e1 : walkP (rs.map sg5) id gen fr (f + 1) (some j) = j :: walkP (rs.map sg5) id gen fr f (accP (rs.map sg5) id gen fr ((r.b + r.fs.length : Nat) : Int) ((r.b + r.fs.length : Nat) : Int) rs.length) := by
      show (match (rs.map sg5)[j]? with | none => [] | some t => j :: walkP (rs.map sg5) id gen fr f (accP (rs.map sg5) id gen fr (t.base + t.len) (t.base + t.len) (rs.map sg5).length)) = _
      rw [hl, List.length_map]
      simp [sg5]
    have ih := walk_walk rs id gen fr f (accP (rs.map sg5) id gen fr ((r.b + r.fs.length : Nat) : Int) ((r.b + r.fs.length : Nat) : Int) rs.length) (fun j hj => accP_lt _ _ _ _ _ _ _ j hj)
    rw [e1, show (some j).bind (fun j => rs[j]?) = some r from hr]
    show rs[j]? :: _ = some r :: (walkC rs id gen fr f (firstF (P3 id gen fr ((r.b + r.fs.length : Nat) : Int)) rs rs.length)).map some
    rw [ih, hr, ← PW3, first_acc rs id gen fr _ _ rs.length (Nat.le_refl _)]
/-- The chain's places: the definition's are those of the program's chain. -/
theorem chain_places (rs : List Sr) (id gen fr : Int) : ∃ js : List Nat, (chP (rs.map sg5) id gen fr rs.length).1 = js.map (fun j : Nat => (j : Int)) ∧ js.map (fun j => rs[j]?) = (chainR rs id gen fr).map some := by
  refine ⟨walkP (rs.map sg5) id gen fr rs.length (accP (rs.map sg5) id gen fr 0 fr rs.length), ?_, ?_⟩
  · have h := ch_walk (rs.map sg5) id gen fr rs.length 0
    rw [Nat.zero_add] at h
    rw [h, show chP (rs.map sg5) id gen fr 0 = ([], accP (rs.map sg5) id gen fr 0 fr rs.length) from by
      show ([], accP (rs.map sg5) id gen fr 0 fr (rs.map sg5).length) = _
      rw [List.length_map]]
    rfl
  · rw [walk_walk rs id gen fr rs.length _ (fun j hj => accP_lt _ _ _ _ _ _ _ j hj), ← first_acc rs id gen fr 0 fr rs.length (Nat.le_refl _), PW2]
    rfl
theorem sg5_ok (rs : List Sr) (hok : ∀ r ∈ rs, r.Ok) (hbs : ∀ r ∈ rs, r.b ≤ 1099511627776) : ∀ s ∈ rs.map sg5, -9223372036854775808 ≤ s.base + s.len ∧ s.base + s.len ≤ 9223372036854775807 := fun s hs => by
  obtain ⟨r, hr, rfl⟩ := List.mem_map.1 hs
  have h1 := (hok r hr).fits
  have h2 := plc_len r.fs
  have h3 := hbs r hr
  show -9223372036854775808 ≤ (r.b : Int) + (r.fs.length : Int) ∧ (r.b : Int) + (r.fs.length : Int) ≤ 9223372036854775807
  omega
end Go.Proofs.YtbbhnbdekblghaaGreatDoor.W
end
section
namespace Go.Proofs.YtbbhnbdekblghaaGreatDoor.W
open Go.RowKit Go.Sort
open Go.Proofs.YtbbhnbdekblghaaGreatDoor.M Go.Proofs.YtbbhnbdekblghaaGreatDoor.D Go.Proofs.YtbbhnbdekblghaaGreatDoor.Z
set_option linter.unusedVariables false
set_option linter.unusedSimpArgs false
set_option maxRecDepth 100000 in
set_option maxHeartbeats 8000000 in
theorem twins15_any (va : Option Addr) (n c : Nat) (l : List Sg5) (w : World) (h : SgAt w va l) (hn : l.length = n) (hn2 : n ≤ 1000) (hc : n ≤ c) :
    Calls Tryz.prog 37 #[.slice va n c] w fun e w' => (∃ t, e = .returned (.bool t)) ∧ Below w.heap.size w w' := by
  have hh := Lib.hid h
  have hlen := Lib.hid hn
  clear h hn
  go_enter Tryz.func37, Tryz.ntmps37
  go_wp2_with fail
  go_loopg [9] n (fun ga i wr => ∃ k : Nat, k ≤ n ∧ n ≤ k + ga ∧ i = .int .i64 (k : Int) ∧ Hid (Below w.heap.size w wr))
  case atStart => exact ⟨0, by omega, by omega, rfl, Lib.hid (Below.refl _ _)⟩
  case round =>
    obtain ⟨k, hk, hg, rfl, hrel⟩ := hrel
    generalize wr = wo at *
    by_cases hlt : k < n
    · obtain ⟨s, hs⟩ : ∃ s, l[k]? = some s := ⟨_, List.getElem?_eq_getElem (by have := hlen.out; omega)⟩
      obtain ⟨b, o, rfl, c0, c1, c2, c3, c4⟩ := (hh.out.below hrel.out).get hs
      have hki : (k : Int) < (n : Int) := by omega
      have hkc : k ≤ c := by omega
      have hk0 : (0 : Int) ≤ (k : Int) := by omega
      obtain ⟨W1, hW1⟩ : ∃ V, Hid (V = wo.alloc (.cells #[.int .i64 s.log, .int .u32 s.gen, .int .i64 s.base, .int .i64 s.len, .int .u32 s.stamp] 88)) := ⟨_, Lib.hid rfl⟩
      have hb1 : Below wo.heap.size wo W1 := by rw [hW1.out]; exact grewAlloc (Below.refl _ _) _
      have hX : Whole W1 wo.heap.size 88 [.int .i64 s.log, .int .u32 s.gen, .int .i64 s.base, .int .i64 s.len, .int .u32 s.stamp] := by rw [hW1.out]; exact Whole.new wo _ _
      obtain ⟨xb, hxb⟩ : ∃ q, Hid (wo.heap.size = q) := ⟨_, Lib.hid rfl⟩
      rw [hxb.out] at hX
      have hB1 := Lib.hid (grew hrel.out hb1)
      replace hX := Lib.hid hX
      replace hs := Lib.hid hs
      clear hrel hb1
      go_upto_region 4 with fail
      rw [← show W1 = _ from hW1.out, hxb.out]
      clear hW1 hxb c0 c1 c2 c3 c4
      go_wp2_with fail
      generalize gk = gout at *
      go_loopg [18] k (fun ga i wr => ∃ j : Nat, j ≤ k ∧ k ≤ j + ga ∧ i = .int .i64 (j : Int) ∧ Hid (Below W1.heap.size W1 wr))
      case atStart => exact ⟨0, by omega, by omega, rfl, Lib.hid (Below.refl _ _)⟩
      case round =>
        obtain ⟨j, hj, hgj, rfl, hrelj⟩ := hrel
        generalize wr = wi at *
        have hBi := Lib.hid (hB1.out.trans (hrelj.out.mono hB1.out.size))
        by_cases hjk : j < k
        · obtain ⟨t, ht⟩ : ∃ t, l[j]? = some t := ⟨_, List.getElem?_eq_getElem (by have := hlen.out; omega)⟩
          obtain ⟨b', o', eb, c0, c1, c2, c3, c4⟩ := (hh.out.below hBi.out).get ht
          cases eb
          have hji : (j : Int) < (k : Int) := by omega
          obtain ⟨W2, hW2⟩ : ∃ V, Hid (V = wi.alloc (.cells #[.int .i64 t.log, .int .u32 t.gen, .int .i64 t.base, .int .i64 t.len, .int .u32 t.stamp] 88)) := ⟨_, Lib.hid rfl⟩
          have hb2 : Below wi.heap.size wi W2 := by rw [hW2.out]; exact grewAlloc (Below.refl _ _) _
          have hY : Whole W2 wi.heap.size 88 [.int .i64 t.log, .int .u32 t.gen, .int .i64 t.base, .int .i64 t.len, .int .u32 t.stamp] := by rw [hW2.out]; exact Whole.new wi _ _
          have hB2 := Lib.hid (grew hrelj.out hb2)
          have hX2 := hX.out.below hB2.out hX.out.lt
          obtain ⟨yb, hyb⟩ : ∃ q, Hid (wi.heap.size = q) := ⟨_, Lib.hid rfl⟩
          rw [hyb.out] at hY
          clear hb2 hrelj hBi ht
          go_upto_region 7 with fail
          rw [← show W2 = _ from hW2.out, hyb.out]
          clear hW2 hyb c0 c1 c2 c3 c4
          have x0 : W2.cell? ⟨xb, 0, none⟩ = some (.int .i64 s.log) := hX2.cell 0
          have x1 : W2.cell? ⟨xb, 1, none⟩ = some (.int .u32 s.gen) := hX2.cell 1
          have x2 : W2.cell? ⟨xb, 2, none⟩ = some (.int .i64 s.base) := hX2.cell 2
          have x4 : W2.cell? ⟨xb, 4, none⟩ = some (.int .u32 s.stamp) := hX2.cell 4
          have y0 : W2.cell? ⟨yb, 0, none⟩ = some (.int .i64 t.log) := hY.cell 0
          have y1 : W2.cell? ⟨yb, 1, none⟩ = some (.int .u32 t.gen) := hY.cell 1
          have y2 : W2.cell? ⟨yb, 2, none⟩ = some (.int .i64 t.base) := hY.cell 2
          have y4 : W2.cell? ⟨yb, 4, none⟩ = some (.int .u32 t.stamp) := hY.cell 4
          have hfin : Hid (Below w.heap.size w W2) := Lib.hid (hB1.out.trans (hB2.out.mono hB1.out.size))
          clear hX2 hY
          cases e1 : s.log == t.log
          · go_wp2_with fail
            go_roundg (gk - 1)
            case measure => omega
            case rel => exact ⟨j + 1, by omega, by omega, by go_num, hB2⟩
          cases e2 : s.gen == t.gen
          · go_wp2_with fail
            go_roundg (gk - 1)
            case measure => omega
            case rel => exact ⟨j + 1, by omega, by omega, by go_num, hB2⟩
          cases e3 : s.base == t.base
          · go_wp2_with fail
            go_roundg (gk - 1)
            case measure => omega
            case rel => exact ⟨j + 1, by omega, by omega, by go_num, hB2⟩
          cases e4 : s.stamp == t.stamp
          · go_wp2_with fail
            go_roundg (gk - 1)
            case measure => omega
            case rel => exact ⟨j + 1, by omega, by omega, by go_num, hB2⟩
          · go_wp2_with fail
            go_ret
            exact ⟨⟨_, rfl⟩, hfin.out⟩
        · obtain rfl : j = k := by omega
          clear hrelj
          go_wp2_with fail
          go_roundg (gout - 1)
          case measure => omega
          case rel => exact ⟨j + 1, by omega, by omega, by go_num, hBi⟩
    · obtain rfl : k = n := by omega
      go_wp2_with fail
      go_ret
      exact ⟨⟨_, rfl⟩, hrel.out⟩
end Go.Proofs.YtbbhnbdekblghaaGreatDoor.W
end
