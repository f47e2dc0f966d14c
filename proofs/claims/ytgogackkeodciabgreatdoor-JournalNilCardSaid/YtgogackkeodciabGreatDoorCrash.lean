/- The disk's Flush. The disk's Crash. -/
import Derived.Test.YtgogackkeodciabGreatDoorProg
import Derived.Test.YtgogackkeodciabGreatDoorTake
import Derived.Deep.RegionHeld3
import Derived.Deep.RegionLaw
import Derived.Laws.IdiomCopy
section
namespace Go.Proofs.YtgogackkeodciabGreatDoor.D
open Go.RowKit
set_option linter.unusedVariables false

theorem Kept.cell {own : Nat → Prop} {a b : World} (h : Kept own a b) {k : Nat} (hk : k < a.heap.size) (ho : ¬ own k) (i : Nat) : b.cell? ⟨k, i, none⟩ = a.cell? ⟨k, i, none⟩ := by
  simp [World.cell?, h.block k hk ho]
theorem Kept.range {own : Nat → Prop} {a b : World} (h : Kept own a b) {k o : Nat} {cs : List Value} (hk : k < a.heap.size) (ho : ¬ own k) (hr : a.rangeAt k o cs) : b.rangeAt k o cs := fun j u hu => by
  rw [h.cell hk ho]; exact hr j u hu
theorem cell_far {w : World} {b k o i : Nat} {vs : List Value} (hk : k ≠ b) : (w.setCells b o vs).cell? ⟨k, i, none⟩ = w.cell? ⟨k, i, none⟩ := by
  simp [World.cell?, heap_setCells_far b hk]
/-- Rows that a slice owns. -/
theorem own_form {w : World} {B : Nat} {tv : Value} {l : List (Nat × List UInt8)} (h : w.ownsRow B 163 65 tv l.length (l.map wrow).flatten) (h64 : ∀ p ∈ l, p.2.length = 64) :
    (tv = .slice none 0 0 ∧ l = []) ∨ ∃ k cap, tv = .slice (some ⟨k, 0, none⟩) l.length cap ∧ B ≤ k ∧ k < w.heap.size ∧ l.length ≤ cap ∧ cap ≤ maxLen ∧ ∀ j p, l[j]? = some p → w.rangeAt k (j * 65) (wrow p) := by
  rcases h.2 with ⟨h1, h2⟩ | ⟨k, cap, cur, h1, hB, h2, h3, h4, h5, h6⟩
  · exact .inl ⟨h1, List.eq_nil_of_length_eq_zero h2⟩
  · have hW : Whole w k 163 cur.toList := by simpa [Whole] using h2
    have hE : Even 65 (l.map wrow) := fun r hr => by
      obtain ⟨p, hp, rfl⟩ := List.mem_map.1 hr
      exact wrow_len (h64 p hp)
    refine .inr ⟨k, cap, h1, hB, hW.lt, h3, h4, fun j p hp => ?_⟩
    rw [← List.take_append_drop (l.length * 65) cur.toList, h6] at hW
    exact row_app hW hE (by rw [List.getElem?_map, hp]; rfl)
/-- Some writes are done. -/
def laid (lie : List (List UInt8)) (l : List (Nat × List UInt8)) : List (List UInt8) := l.foldl (fun acc p => acc.set p.1 p.2) lie
theorem laid_len (l : List (Nat × List UInt8)) : ∀ lie, (laid lie l).length = lie.length := by
  induction l with
  | nil => intro lie; rfl
  | cons p l ih => intro lie; show (laid (lie.set p.1 p.2) l).length = _; rw [ih]; simp
theorem laid_snoc (lie : List (List UInt8)) (l : List (Nat × List UInt8)) (p : Nat × List UInt8) : laid lie (l ++ [p]) = (laid lie l).set p.1 p.2 := by simp [laid, List.foldl_append]
/-- The first bytes of a sector are stored. -/
theorem Dk.lay {w : World} {d g : Nat} {v : Value} {lie : List (List UInt8)} {ws : List (Nat × List UInt8)} (h : Dk w d g v lie ws) {a : Nat} {old s : List UInt8} (ha : lie[a]? = some old) (hs : s.length ≤ 64) :
    Dk (w.setCells g (a * 64) (bytesV s)) d g v (lie.set a (s ++ old.drop s.length)) ws := by
  obtain ⟨n1, n2, n3⟩ := h.ne
  have hal : a < lie.length := (List.getElem?_eq_some_iff.1 ha).1
  have ho : old.length = 64 := h.lie64 old (List.mem_of_getElem? ha)
  have hfl := flat_len h.even
  have hle : a * 64 + 64 ≤ (lie.map bytesV).flatten.length := by
    rw [hfl, List.length_map]
    have : (a + 1) * 64 ≤ lie.length * 64 := Nat.mul_le_mul_right _ hal
    omega
  have hbl := bytesV_len s
  have hW := h.lying.store (a * 64) (bytesV s) (by rw [hbl]; omega)
  have hnl : (s ++ old.drop s.length).length = 64 := by rw [List.length_append, List.length_drop]; omega
  refine ⟨?_, ?_, ?_, ?_, h.ws64, by simpa using h.some_, by simpa using h.few, fun p hp => by simpa using h.within p hp⟩
  · have := h.obj.far n1 (a * 64) (bytesV s)
    simpa using this
  · rw [show ((lie.set a (s ++ old.drop s.length)).map bytesV).flatten = splice (lie.map bytesV).flatten (a * 64) (bytesV s) by
      rw [List.map_set, ← splice_row h.even a (by simpa using hal) (by rw [bytesV_len, hnl])]
      have hrow : ((lie.map bytesV).flatten.drop (a * 64 + s.length)).take (64 - s.length) = bytesV (old.drop s.length) := by
        apply List.ext_getElem?
        intro j
        rw [List.getElem?_take]
        by_cases hj : j < 64 - s.length
        · rw [if_pos hj, List.getElem?_drop, Nat.add_assoc, flat_at h.even a (s.length + j) (by omega), List.getElem?_map, ha]
          simp [bytesV, List.getElem?_drop]
        · rw [if_neg hj, List.getElem?_eq_none (by rw [bytesV_len, List.length_drop]; omega)]
      have hdrop : (lie.map bytesV).flatten.drop (a * 64 + s.length) = bytesV (old.drop s.length) ++ (lie.map bytesV).flatten.drop (a * 64 + 64) := by
        have e : ((lie.map bytesV).flatten.drop (a * 64 + s.length)).drop (64 - s.length) = (lie.map bytesV).flatten.drop (a * 64 + 64) := by
          rw [List.drop_drop]; congr 1; omega
        rw [← hrow, ← e, List.take_append_drop]
      unfold splice
      rw [bytesV_len, bytesV_len, hnl, hdrop]
      simp [bytesV, List.append_assoc]]
    exact hW
  · exact own_of_kept h.wait ((Kept.refl (fun k => k = g) w).setCells (c := g) (.inl rfl) _ _) (fun k hk e => n3 (by rw [hk, e]))
  · intro x hx
    rcases List.mem_or_eq_of_mem_set hx with e | e
    · exact h.lie64 x e
    · rw [e]; exact hnl
/-- What a turn of a disk leaves. -/
theorem Turned.of {w wr : World} {d g : Nat} {v v' : Value} {lie' : List (List UInt8)} {ws' : List (Nat × List UInt8)} (h : Dk wr d g v' lie' ws') (hv : v'.ownBlock = v.ownBlock) (hk : Kept (mine d g v) w wr) : Turned w d g v lie' ws' wr :=
  ⟨v', h, fun k hk' => .inl (by rw [← hv]; exact hk'), hk⟩

section
variable (d g : Nat) (v : Value) (lie : List (List UInt8)) (ws : List (Nat × List UInt8)) (w : World)
end
end Go.Proofs.YtgogackkeodciabGreatDoor.D
end
section
namespace Go.Proofs.YtgogackkeodciabGreatDoor.D
open Go.RowKit
set_option linter.unusedVariables false

theorem step_copy_cells {P : Program} {ops : Array Oper} {o : Oper} {a : Act} {w : World} {K : Act → World → Prop} {Q : Exit → Act → World → Prop} {E : Prop} (hgd : o.guard = none) (d s : Operand) (dT sT : TypeId)
    (ho : o.op = .call { callee := .builtin .copy, args := #[d, s], argTypes := #[dT, sT] }) (elem : TypeId) (hu : P.underlying dT = some (.slice elem)) (hsz : (P.info? elem).map (·.size) = some 1)
    (g off dLen dCap : Nat) (ad : Addr) (sLen sCap : Nat) (hd : a.eval d = .slice (some ⟨g, off, none⟩) dLen dCap) (hs : a.eval s = .slice (some ad) sLen sCap)
    (cs : List Value) (hn : cs.length = Nat.min sLen dLen) (hsrc : ∀ j v, cs[j]? = some v → w.cell? (ad.add j) = some v) (hth : w.there g off cs.length) (h1 : ∀ v ∈ cs, v.oneCell' = true)
    (h : K (a.put o.dst (goInt cs.length)) (w.setCells g off cs)) :
    if Region.wanted o (yielded ops a.tmps) = true then Oper.wp P o a w K Q else E := by
  have hw : Region.wanted o (yielded ops a.tmps) = true := by simp [Region.wanted, hgd]
  rw [if_pos hw]
  have hrun := run_copy_cells (P := P) w dT sT o.type elem g off dLen dCap ad sLen sCap cs hu hsz hn hsrc (fun j hj => (hth j hj).1) (fun j hj => (hth j hj).2) h1
  unfold Oper.wp
  simp [execOp, ho, resolve, invoke, builtin, hd, hs, hrun, Result.andThen]
  exact h
theorem stopMax {P : Program} {w : World} {ops : Array Oper} {rest : List Oper} {o : Oper} {a : Act} {Q : Exit → Act → World → Prop} (x y : Operand) (t u : TypeId)
    (ho : o.op = .call { callee := .builtin .max, args := #[x, y], argTypes := #[t, u] }) (h : Hid (wpList P ops Q (o :: rest) a w)) : wpList P ops Q (o :: rest) a w := h
theorem wpList_max {P : Program} {w : World} {ops : Array Oper} {rest : List Oper} {o : Oper} {a : Act} {Q : Exit → Act → World → Prop} (hgd : o.guard = none) (x y : Operand) (t u : TypeId)
    (ho : o.op = .call { callee := .builtin .max, args := #[x, y], argTypes := #[t, u] }) (p q : Int) (hx : a.eval x = .int .i64 p) (hy : a.eval y = .int .i64 q) (h : wpList P ops Q rest (a.put o.dst (.int .i64 (max p q))) w) : wpList P ops Q (o :: rest) a w := by
  refine wpList_plain hgd fun K hK => ?_
  have hrun := run_max_int2 (P := P) (w := w) #[t, u] o.type .i64 .i64 p q
  rw [show (if q > p then q else p) = max p q by split <;> omega] at hrun
  unfold Oper.wp
  simp [execOp, ho, resolve, invoke, builtin, hx, hy, hrun, Result.andThen]
  exact hK _ _ h
theorem wpList_min {P : Program} {w : World} {ops : Array Oper} {rest : List Oper} {o : Oper} {a : Act} {Q : Exit → Act → World → Prop} (hgd : o.guard = none) (x y : Operand) (t u : TypeId)
    (ho : o.op = .call { callee := .builtin .min, args := #[x, y], argTypes := #[t, u] }) (p q : Int) (hx : a.eval x = .int .i64 p) (hy : a.eval y = .int .i64 q) (h : wpList P ops Q rest (a.put o.dst (.int .i64 (min p q))) w) : wpList P ops Q (o :: rest) a w := by
  refine wpList_plain hgd fun K hK => ?_
  have hrun := run_min_int2 (P := P) (w := w) #[t, u] o.type .i64 .i64 p q
  rw [show (if q < p then q else p) = min p q by split <;> omega] at hrun
  unfold Oper.wp
  simp [execOp, ho, resolve, invoke, builtin, hx, hy, hrun, Result.andThen]
  exact hK _ _ h
theorem lenSector : Tryz.prog.arrayLen 161 = 64 := by kernel_rfl
theorem elemSector : Tryz.prog.elem 161 = 5 := by kernel_rfl
theorem run_part (w : World) (b o c : Nat) (hc : c ≤ 64) : (Instr.sliceAt 161 (.pointer (some ⟨b, o, none⟩)) none (some (.int .i64 (c : Int))) none).run Tryz.prog w = .ok (.slice (some ⟨b, o, none⟩) c 64) w := by
  rw [run_sliceAt_array_h w 161 ⟨b, o, none⟩ (by rw [lenSector, elemSector]; exact Tryz.underlying161) .i64 (c : Int) (by omega) (by rw [lenSector]; omega), elemSector, sizeOf1, lenSector]
  simp [slicedAt, Result.andThen, Addr.add_mid]
theorem sizeU8 : (Tryz.prog.info? 5).map (·.size) = some 1 := by kernel_rfl
/-- How many bytes of a write stay. -/
def cut (b : Int) : Nat := (min (max b 0) 64).toNat
theorem cut_le (b : Int) : cut b ≤ 64 := by unfold cut; omega
/-- One write that stays in part. -/
def kstep (tk : List (Nat × List UInt8)) (lie : List (List UInt8)) (q : Int × Int) : List (List UInt8) :=
  match (if q.1 < 0 then none else tk[q.1.toNat]?) with
  | none => lie
  | some p => lie.set p.1 (p.2.take (cut q.2) ++ ((lie[p.1]?).getD []).drop (cut q.2))
theorem kstep_len (tk : List (Nat × List UInt8)) (lie : List (List UInt8)) (q : Int × Int) : (kstep tk lie q).length = lie.length := by
  unfold kstep; split <;> simp
/-- What the power leaves. -/
def kepts (tk : List (Nat × List UInt8)) (lie : List (List UInt8)) (kl : List (Int × Int)) : List (List UInt8) := kl.foldl (kstep tk) lie
theorem kepts_len (tk : List (Nat × List UInt8)) (kl : List (Int × Int)) : ∀ lie, (kepts tk lie kl).length = lie.length := by
  induction kl with
  | nil => intro lie; rfl
  | cons q l ih => intro lie; show (kepts tk (kstep tk lie q) l).length = _; rw [ih, kstep_len]
theorem kepts_snoc (tk : List (Nat × List UInt8)) (lie : List (List UInt8)) (kl : List (Int × Int)) (q : Int × Int) : kepts tk lie (kl ++ [q]) = kstep tk (kepts tk lie kl) q := by simp [kepts, List.foldl_append]
theorem kstep_out (tk : List (Nat × List UInt8)) (lie : List (List UInt8)) (q : Int × Int) (h : q.1 < 0 ∨ tk.length ≤ q.1) : kstep tk lie q = lie := by
  unfold kstep
  by_cases h1 : q.1 < 0
  · rw [if_pos h1]
  · rw [if_neg h1, List.getElem?_eq_none (by omega)]
theorem kstep_in {tk : List (Nat × List UInt8)} {lie : List (List UInt8)} {i : Nat} {b : Int} {p : Nat × List UInt8} {old : List UInt8} (hp : tk[i]? = some p) (ho : lie[p.1]? = some old) : kstep tk lie ((i : Int), b) = lie.set p.1 (p.2.take (cut b) ++ old.drop (cut b)) := by
  unfold kstep
  simp only [show ¬ ((i : Int) < 0) by omega, if_false, Int.toNat_natCast, hp, ho, Option.getD_some]
/-- A row of keeps. -/
structure Keeps (w : World) (kv : Value) (kl : List (Int × Int)) : Prop where
  form : ∃ ka cap, kv = .slice ka kl.length cap ∧ kl.length ≤ cap ∧ cap ≤ maxLen ∧ ∀ j q, kl[j]? = some q → ∃ b o, ka = some ⟨b, o, none⟩ ∧ b < w.heap.size ∧ w.cell? ⟨b, o + j * 2, none⟩ = some (.int .i64 q.1) ∧ w.cell? ⟨b, o + j * 2 + 1, none⟩ = some (.int .i64 q.2)

theorem own_any {w : World} {B : Nat} {tv : Value} {l : List (Nat × List UInt8)} (h : w.ownsRow B 163 65 tv l.length (l.map wrow).flatten) (h64 : ∀ p ∈ l, p.2.length = 64) :
    ∃ ta cap, tv = .slice ta l.length cap ∧ ∀ j p, l[j]? = some p → ∃ k, ta = some ⟨k, 0, none⟩ ∧ B ≤ k ∧ k < w.heap.size ∧ l.length ≤ cap ∧ cap ≤ maxLen ∧ w.rangeAt k (j * 65) (wrow p) := by
  rcases own_form h h64 with ⟨rfl, rfl⟩ | ⟨k, cap, rfl, h1, h2, h3, h4, h5⟩
  · exact ⟨none, 0, rfl, fun j p hp => by simp at hp⟩
  · exact ⟨some ⟨k, 0, none⟩, cap, rfl, fun j p hp => ⟨k, rfl, h1, h2, h3, h4, h5 j p hp⟩⟩
section
variable (d g : Nat) (v : Value) (lie : List (List UInt8)) (ws : List (Nat × List UInt8)) (w : World)
end
end Go.Proofs.YtgogackkeodciabGreatDoor.D
end
