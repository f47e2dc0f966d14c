/- The lattice that New makes. -/
import Derived.Test.YtdagbepjhbmlfaaProg
import Derived.Test.YtdagbepjhbmlfaaWrong
import Derived.Test.YtdagbepjhbmlfaaNear
import Derived.Laws.CopyOwn
import Derived.Deep.QuietTactic
import Derived.BigQuiet
namespace Go.Proofs.Ytdagbepjhbmlfaa.L
open Go.RowKit
set_option linter.unusedVariables false

/-- The cells of the object. -/
def latL (n : Nat) (G : Nat → Nat → Bool) (j m : Value) : List Value := .int .i64 n :: ((List.range 36).map fun i => .bool (G (i / 6) (i % 6))) ++ [j, m]
def part (n k : Nat) (F : Nat → Nat → Bool) : Nat → Nat → Bool := fun x y => decide (x < k) && decide (y < n) && F x y
theorem latL_len (n : Nat) (G : Nat → Nat → Bool) (j m : Value) : (latL n G j m).length = 39 := by simp [latL]
theorem latL_0 (n : Nat) (G : Nat → Nat → Bool) (j m : Value) : (latL n G j m)[0]? = some (.int .i64 n) := rfl
theorem latL_at (n : Nat) (G : Nat → Nat → Bool) (j m : Value) (a b : Nat) (ha : a < 6) (hb : b < 6) : (latL n G j m)[1 + a * 6 + b]? = some (.bool (G a b)) := by
  unfold latL
  rw [show 1 + a * 6 + b = (a * 6 + b) + 1 by omega, List.cons_append, List.getElem?_cons_succ, List.getElem?_append_left (by simp; omega), List.getElem?_map, List.getElem?_range (by omega)]
  have e1 : (a * 6 + b) / 6 = a := by omega
  have e2 : (a * 6 + b) % 6 = b := by omega
  simp [e1, e2]
theorem latL_37 (n : Nat) (G : Nat → Nat → Bool) (j m : Value) : (latL n G j m)[37]? = some j := rfl
theorem latL_38 (n : Nat) (G : Nat → Nat → Bool) (j m : Value) : (latL n G j m)[38]? = some m := rfl
theorem latL_row (n k : Nat) (F : Nat → Nat → Bool) (j m : Value) (hn : n ≤ 6) (hk : k < n) :
    splice (latL n (part n k F) j m) (1 + k * 6) ((List.range n).map fun c => .bool (F k c)) = latL n (part n (k + 1) F) j m := by
  apply List.ext_getElem?
  intro i
  unfold splice
  rcases Nat.lt_or_ge i (1 + k * 6) with h1 | h1
  · rw [List.getElem?_append_left (by simp [latL_len]; omega), List.getElem?_take, if_pos h1]
    rcases Nat.eq_zero_or_pos i with h0 | h0
    · subst h0; rfl
    · have hi : i = 1 + ((i - 1) / 6) * 6 + (i - 1) % 6 := by omega
      rw [hi, latL_at _ _ _ _ _ _ (by omega) (by omega), latL_at _ _ _ _ _ _ (by omega) (by omega)]
      have : (i - 1) / 6 < k := by omega
      simp [part, this, show (i - 1) / 6 < k + 1 by omega]
  · rw [List.getElem?_append_right (by simp [latL_len]; omega)]
    simp only [List.length_take, latL_len]
    rw [show min (1 + k * 6) 39 = 1 + k * 6 by omega]
    rcases Nat.lt_or_ge i (1 + k * 6 + n) with h2 | h2
    · rw [List.getElem?_append_left (by simp; omega), List.getElem?_map, List.getElem?_range (by omega)]
      obtain ⟨c, rfl⟩ : ∃ c, i = 1 + k * 6 + c := ⟨i - (1 + k * 6), by omega⟩
      rw [latL_at _ _ _ _ _ _ (by omega) (by omega), show 1 + k * 6 + c - (1 + k * 6) = c by omega]
      have : c < n := by omega
      simp [part, this]
    · rw [List.getElem?_append_right (by simp; omega), List.getElem?_drop]
      simp only [List.length_map, List.length_range]
      rw [show 1 + k * 6 + n + (i - (1 + k * 6) - n) = i by omega]
      rcases Nat.lt_or_ge i 37 with h3 | h3
      · have hi : i = 1 + ((i - 1) / 6) * 6 + (i - 1) % 6 := by omega
        rw [hi, latL_at _ _ _ _ _ _ (by omega) (by omega), latL_at _ _ _ _ _ _ (by omega) (by omega)]
        congr 2
        unfold part
        by_cases h4 : (i - 1) / 6 = k
        · have h5 : ¬ (i - 1) % 6 < n := by omega
          simp [h5]
        · have h5 : ¬ (i - 1) / 6 < k := by omega
          have h6 : ¬ (i - 1) / 6 < k + 1 := by omega
          simp [h5, h6]
      · obtain ⟨d, rfl⟩ : ∃ d, i = 37 + d := ⟨i - 37, by omega⟩
        unfold latL
        rw [show 37 + d = (36 + d) + 1 by omega, List.cons_append, List.cons_append, List.getElem?_cons_succ, List.getElem?_cons_succ, List.getElem?_append_right (by simp), List.getElem?_append_right (by simp)]
        simp
theorem latL_new (n : Nat) (F : Nat → Nat → Bool) : latL n (part n 0 F) (.map none) (.map none) = [.int .i64 n, .bool false, .bool false, .bool false, .bool false, .bool false, .bool false, .bool false, .bool false, .bool false, .bool false, .bool false, .bool false, .bool false, .bool false, .bool false, .bool false, .bool false, .bool false, .bool false, .bool false, .bool false, .bool false, .bool false, .bool false, .bool false, .bool false, .bool false, .bool false, .bool false, .bool false, .bool false, .bool false, .bool false, .bool false, .bool false, .bool false, .map none, .map none] := by
  have : part n 0 F = fun _ _ => false := by funext x y; simp [part]
  rw [this]; rfl

/-- The object's block, whole. -/
def Obj_ (w : World) (p n : Nat) (G : Nat → Nat → Bool) (j m : Value) : Prop := w.heap[p]? = some (.cells (latL n G j m).toArray 131 (0, 0))
theorem Obj_.cell {w : World} {p n : Nat} {G : Nat → Nat → Bool} {j m : Value} (h : Obj_ w p n G j m) (i : Nat) : w.cell? ⟨p, i, none⟩ = (latL n G j m)[i]? := by
  have := cell_of_row w p i _ _ _ h
  simpa using this
theorem Obj_.lat {w : World} {p n : Nat} {F : Nat → Nat → Bool} {j m : Value} (h : Obj_ w p n (part n n F) j m) (hn : n ≤ 6) : Lat w p n F :=
  ⟨hn, (h.cell 0).trans (latL_0 _ _ _ _), fun a b ha hb => (h.cell _).trans ((latL_at _ _ _ _ a b (by omega) (by omega)).trans (by simp [part, ha, hb]))⟩
theorem Obj_.frozen {w : World} {p n : Nat} {G : Nat → Nat → Bool} {j m : Value} (h : Obj_ w p n G j m) (i : Nat) : w.frozen? ⟨p, i, none⟩ = false := by
  unfold Obj_ at h; simp [World.frozen?, h]
theorem Obj_.below {w w' : World} {p n : Nat} {G : Nat → Nat → Bool} {j m : Value} (h : Obj_ w p n G j m) (hb : Below w.heap.size w w') : Obj_ w' p n G j m :=
  (hb.block p (Array.getElem?_eq_some_iff.1 h).1).trans h
theorem Obj_.set37 {w : World} {p n : Nat} {G : Nat → Nat → Bool} {j m : Value} (h : Obj_ w p n G j m) (v : Value) : Obj_ (w.setCell ⟨p, 37, none⟩ v) p n G v m := by
  unfold Obj_ at h ⊢
  simp [World.setCell, Array.getElem?_modify, h, latL]
theorem Obj_.set38 {w : World} {p n : Nat} {G : Nat → Nat → Bool} {j m : Value} (h : Obj_ w p n G j m) (v : Value) : Obj_ (w.setCell ⟨p, 38, none⟩ v) p n G j v := by
  unfold Obj_ at h ⊢
  simp [World.setCell, Array.getElem?_modify, h, latL]

/-- A lattice that was made: the object, and its maps. -/
structure Full (w : World) (p n : Nat) (F : Nat → Nat → Bool) : Prop where
  lat : Lat w p n F
  joins : ∃ J D, w.cell? ⟨p, 37, none⟩ = some (.map (some J)) ∧ w.ownsMap Try.prog 154 (plainElem Try.prog 3) J (n * n) D ∧ Told n F (n * n) D
  meets : ∃ J D, w.cell? ⟨p, 38, none⟩ = some (.map (some J)) ∧ w.ownsMap Try.prog 154 (plainElem Try.prog 3) J (n * n) D ∧ Told n (turn F) (n * n) D
theorem Full.drewN {w : World} {p n : Nat} {F : Nat → Nat → Bool} (h : Full w p n F) (k : Nat) : Full (w.drewN k) p n F := ⟨⟨h.lat.small, h.lat.size, h.lat.flows⟩, h.joins, h.meets⟩
theorem below_drewN {B : Nat} {a w : World} (h : Below B a w) (n : Nat) : Below B a (w.drewN n) := ⟨h.os, h.tape, h.output, h.size, h.block⟩
/-- What New answers of a table that is a lattice. -/
def Lives (w : World) (n : Nat) (F : Nat → Nat → Bool) (e : Ending) (w' : World) : Prop := ∃ p, e = .returned (.tuple #[.pointer (some ⟨p, 0, none⟩), .int .i64 0]) ∧ Full w' p n F ∧ Below w.heap.size w w'

/-- What New answers of any table. -/
def NewIs (w : World) (len : Nat) (L : Nat → Nat) (B : Nat → Nat → Bool) (e : Ending) (w' : World) : Prop :=
  (wrongN len L B ≠ 0 ∧ e = .returned (.tuple #[.pointer none, .int .i64 (wrongN len L B : Nat)]) ∧ Below w.heap.size w w') ∨ (wrongN len L B = 0 ∧ Lives w len B e w')
theorem newIs_no {w w' : World} {len : Nat} {L : Nat → Nat} {B : Nat → Nat → Bool} {c : Nat} (h : wrongN len L B = c) (hc : c ≠ 0) (hb : Below w.heap.size w w') : NewIs w len L B (.returned (.tuple #[.pointer none, .int .i64 (c : Int)])) w' :=
  .inl ⟨by rw [h]; exact hc, by rw [h], hb⟩
theorem mul_small (k : Nat) (h : k ≤ 6) : wrap64 ((k : Int) * (k : Int)) = ((k * k : Nat) : Int) ∧ k * k ≤ 36 := by
  have h1 : k * k ≤ 36 := Nat.mul_le_mul h h
  have h2 : ((k : Int) * (k : Int)) = ((k * k : Nat) : Int) := by rw [Int.natCast_mul]
  exact ⟨by rw [h2, IntWalk.wrap64_in _ ⟨by omega, by omega⟩], h1⟩
theorem Told.whole' {n : Nat} {R : Nat → Nat → Bool} {D : DataW Unit} (h : Told n R (n * n) D) : Maps.size D = n * n ↔ ∀ a b, a < n → b < n → (near n R a b).isSome = true := by
  rw [h.whole]
  refine ⟨fun h1 a b ha hb => h1 a b ha hb ?_, fun h1 a b ha hb _ => h1 a b ha hb⟩
  have := Nat.mul_le_mul_right n (show a + 1 ≤ n from ha)
  rw [Nat.succ_mul] at this
  omega
theorem sizeBool : (Try.prog.info? 4).map (·.size) = some 1 := by kernel_rfl
theorem stopCopy {P : Program} {w : World} {ops : Array Oper} {rest : List Oper} {o : Oper} {a : Act} {Q : Exit → Act → World → Prop} (d s : Operand) (dT sT : TypeId)
    (ho : o.op = .call { callee := .builtin .copy, args := #[d, s], argTypes := #[dT, sT] }) (h : Hid (wpList P ops Q (o :: rest) a w)) : wpList P ops Q (o :: rest) a w := h

section
variable (a : Option Addr) (len cap : Nat) (A : Nat → Option Addr) (L C : Nat → Nat) (B : Nat → Nat → Bool) (w : World)
theorem new_no (h : Tab w a len A L C B) (hsq : sqB len L = false) :
    Calls Try.prog 31 #[.slice a len cap] w (NewIs w len L B) := by
  have hfin := Lib.hid (show wrongN len L B = 1 by simp [wrongN, hsq])
  replace hsq := Lib.hid hsq
  go_enter Try.func31, Try.ntmps31
  go_wp2_with fail
  refine (istable_any a len cap A L C B _ h).mono ?_
  rintro e w1 ⟨rfl, rfl⟩
  rw [hsq.out]
  go_wp2_with fail
  go_ret2
  exact newIs_no (c := 1) hfin.out (by decide) (Below.refl _ _)

set_option maxRecDepth 100000 in
set_option maxHeartbeats 1000000 in
theorem new_sq (h : Tab w a len A L C B) (hsq : sqB len L = true) :
    Calls Try.prog 31 #[.slice a len cap] w (NewIs w len L B) := by
  obtain ⟨bk, off, rfl, h0, hS⟩ := h.square hsq
  have h6 := hS.small
  obtain ⟨R, O, C2, hr, he⟩ := hS.rows
  replace hr := Lib.hid hr
  replace he := Lib.hid he
  have hw4 : Hid (orderB len B = false → wrongN len L B = 4) := fun ho => by simp [wrongN, hsq, ho]
  have hw6 : Hid (∀ v, orderB len B = true → pairsB len B = v → wrongN len L B = if v = false then 6 else 0) := fun v ho hv => by simp [wrongN, hsq, ho, hv]
  replace hsq := Lib.hid hsq
  obtain ⟨W, hW⟩ : ∃ W, Hid (W = w.alloc (.cells (latL len (part len 0 B) (.map none) (.map none)).toArray 131)) := ⟨_, Lib.hid rfl⟩
  have hO : Obj_ W w.heap.size len (part len 0 B) (.map none) (.map none) := by rw [hW.out]; exact heap_alloc_new w _
  have hbW : Below w.heap.size w W := by rw [hW.out]; exact (Below.refl _ _).alloc (Nat.le_refl _) _
  go_enter Try.func31, Try.ntmps31
  go_wp2_with fail
  refine (istable_any _ len cap A L C B _ h).mono ?_
  rintro e w1 ⟨rfl, rfl⟩
  rw [hsq.out]
  go_wp2_with fail
  have hW2 := hW.out
  rw [latL_new] at hW2
  rw [← hW2]
  clear hW2 hW
  go_loopg [17] len (fun g i wr => ∃ k : Nat, k ≤ len ∧ len ≤ k + g ∧ i = .int .i64 k ∧ Obj_ wr w.heap.size len (part len k B) (.map none) (.map none) ∧ Below w.heap.size w wr)
  case atStart => exact ⟨0, by omega, by omega, rfl, hO, hbW⟩
  case round =>
    clear hO hbW
    obtain ⟨k, hk, hg, rfl, hO, hbel⟩ := hrel
    by_cases hkn : k < len
    · have e1 := keepCell hbel (hr.out k hkn)
      have hsrc := Lib.hid (show ∀ j, j < len → wr.cell? ⟨R k, O k + j, none⟩ = some (.bool (B k j)) from fun j hj => keepCell hbel (he.out k j hkn hj))
      go_wp2_with (with_reducible refine stopCopy _ _ _ _ rfl ?_)
      refine Lib.hid ?_
      refine wpList_copy_splice rfl _ _ _ _ rfl 4 Try.underlying87 sizeBool _ _ _ _ _ _ rfl rfl w.heap.size (1 + k * 6) (latL len (part len k B) (.map none) (.map none)) 131 hO ((List.range len).map fun c => .bool (B k c)) ?c1 ?c2 ?c3 ?c4 w.heap.size w hbel (Nat.le_refl _) ?_
      case c1 => rw [List.length_map, List.length_range]; exact (Nat.min_eq_left h6).symm
      case c2 =>
        intro _
        refine ⟨rfl, ⟨R k, O k, none⟩, rfl, fun j v hv => ?_⟩
        rw [add_mid']
        have hj : j < len := by have := (List.getElem?_eq_some_iff.1 hv).1; simpa using this
        rw [List.getElem?_map, List.getElem?_range hj] at hv
        rw [hsrc.out j hj, ← hv]; rfl
      case c3 => simp [latL_len]; omega
      case c4 =>
        intro v hv
        obtain ⟨c, _, rfl⟩ := List.mem_map.1 hv
        rfl
      intro w1 hO1 hbel1
      have hO2 : Hid (Obj_ w1 w.heap.size len (part len (k + 1) B) (.map none) (.map none)) := by
        have := hO1.out
        rw [latL_row len k B _ _ h6 hkn] at this
        exact this
      clear hO1
      go_wp2_with fail
      go_roundg (gk - 1)
      case measure => omega
      case rel => exact ⟨k + 1, by omega, by omega, by go_num, hO2.out, hbel1⟩
    · obtain rfl : k = len := by omega
      have hL := hO.lat h6
      have hsz0 := (hO.cell 0).trans (latL_0 _ _ _ _)
      go_wp2_with fail
      refine (order_any w.heap.size k B _ hL).mono ?_
      rintro e w1 ⟨rfl, rfl⟩
      cases ho : orderB k B <;> replace ho := Lib.hid ho
      · have hfin := Lib.hid (hw4.out ho.out)
        go_wp2_with fail
        go_ret2
        exact newIs_no (c := 4) hfin.out (by decide) hbel
      · go_wp2_with fail
        refine (nearest_any _ w.heap.size k B B _ (beyond_flows _ _ _) hL).mono ?_
        rintro e w1 ⟨D, rfl, hown, htold, hb1⟩
        have hbel1 := hbel.trans (hb1.mono hbel.size)
        have hO1 := hO.below hb1
        have hc := (hO1.cell 37).trans (latL_37 _ _ _ _)
        have hf := hO1.frozen 37
        have hsz := (hO1.cell 0).trans (latL_0 _ _ _ _)
        go_wp2_with fail
        obtain ⟨w2, hw2⟩ : ∃ w2, Hid (w2 = w1.setCell ⟨w.heap.size, 37, none⟩ (.map (some wr.heap.size))) := ⟨_, Lib.hid rfl⟩
        rw [← hw2.out]
        have hlt : w.heap.size < wr.heap.size := (Array.getElem?_eq_some_iff.1 hO).1
        have hO2 : Obj_ w2 w.heap.size k (part k k B) (.map (some wr.heap.size)) (.map none) := by rw [hw2.out]; exact hO1.set37 _
        have hown2 : w2.ownsMap Try.prog 154 (plainElem Try.prog 3) wr.heap.size (k * k) D := by rw [hw2.out]; exact hown.setCell (by show wr.heap.size ≠ w.heap.size; omega) _
        have hbel2 : Below w.heap.size w w2 := by rw [hw2.out]; exact hbel1.setCell (Nat.le_refl _) _
        clear hw2 hc hf hsz hO1 hown hbel1 hb1 hO hbel hL hsz0
        have hL2 := hO2.lat h6
        refine (nearest_any _ w.heap.size k B (turn B) _ (beyond_comes _ _ _) hL2).mono ?_
        rintro e w3 ⟨D2, rfl, hownM, htold2, hb3⟩
        have hbel3 := hbel2.trans (hb3.mono hbel2.size)
        have hO3 := hO2.below hb3
        have hown3 := hown2.kept (grownOf hb3 none) (by simp)
        have hltM : w.heap.size < w2.heap.size := (Array.getElem?_eq_some_iff.1 hO2).1
        obtain ⟨w4, hw4⟩ : ∃ w4, Hid (w4 = w3.setCell ⟨w.heap.size, 38, none⟩ (.map (some w2.heap.size))) := ⟨_, Lib.hid rfl⟩
        have hO4 : Obj_ w4 w.heap.size k (part k k B) (.map (some wr.heap.size)) (.map (some w2.heap.size)) := by rw [hw4.out]; exact hO3.set38 _
        have hown4 : w4.ownsMap Try.prog 154 (plainElem Try.prog 3) wr.heap.size (k * k) D := by rw [hw4.out]; exact hown3.setCell (by show wr.heap.size ≠ w.heap.size; omega) _
        have hownM4 : w4.ownsMap Try.prog 154 (plainElem Try.prog 3) w2.heap.size (k * k) D2 := by rw [hw4.out]; exact hownM.setCell (by show w2.heap.size ≠ w.heap.size; omega) _
        have hbel4 : Below w.heap.size w w4 := by rw [hw4.out]; exact hbel3.setCell (Nat.le_refl _) _
        have hc3 := (hO3.cell 38).trans (latL_38 _ _ _ _)
        have hf3 := hO3.frozen 38
        have hs4 := (hO4.cell 0).trans (latL_0 _ _ _ _)
        have hj4 := (hO4.cell 37).trans (latL_37 _ _ _ _)
        have hm4 := (hO4.cell 38).trans (latL_38 _ _ _ _)
        go_wp2_with fail
        rw [← hw4.out]
        clear hw4 hc3 hf3 hO3 hbel3 hown3 hownM hb3 hbel2 hO2 hown2 hL2
        go_quiet (fail)
        rw [(mul_small k h6).1]
        have hm36 := (mul_small k h6).2
        have hfull : Hid (wrongN k L B = 0 → Lives w k B (.returned (.tuple #[.pointer (some ⟨w.heap.size, 0, none⟩), .int .i64 0])) w4) := fun _ => ⟨w.heap.size, rfl, ⟨hO4.lat h6, ⟨_, D, hj4, hown4, htold⟩, ⟨_, D2, hm4, hownM4, htold2⟩⟩, hbel4⟩
        have hl1 := World.ownsMap.len (w := w4.drewN nq) hown4 Try.underlying129 3
        have hl2 := World.ownsMap.len (w := w4.drewN nq) hownM4 Try.underlying129 3
        have hmost1 := htold.most
        have hmost2 := htold2.most
        have hwh1 := Lib.hid htold.whole'
        have hwh2 := Lib.hid htold2.whole'
        obtain ⟨m, hm⟩ : ∃ m, Hid (k * k = m) := ⟨_, Lib.hid rfl⟩
        obtain ⟨s1, hs1⟩ : ∃ s1, Hid (Maps.size D = s1) := ⟨_, Lib.hid rfl⟩
        obtain ⟨s2, hs2⟩ : ∃ s2, Hid (Maps.size D2 = s2) := ⟨_, Lib.hid rfl⟩
        rw [hs1.out] at hl1 hmost1 hwh1
        rw [hs2.out] at hl2 hmost2 hwh2
        rw [hm.out] at hm36 hmost1 hmost2 hwh1 hwh2 ⊢
        clear hO4 hown4 hownM4 htold htold2
        have hbelq := below_drewN hbel4 nq
        have hbad : Hid (¬ (s1 = m ∧ s2 = m) → wrongN k L B = 6) := fun hne => by
          cases hp : pairsB k B
          · exact hw6.out false ho.out hp
          · exfalso
            unfold pairsB at hp
            rw [allB_iff] at hp
            have hq : ∀ a b, a < k → b < k → (near k B a b).isSome = true ∧ (near k (turn B) a b).isSome = true := fun a b ha hb => by
              have := allB_iff.1 (hp a ha) b hb
              unfold pairB at this
              simpa using this
            exact hne ⟨hwh1.out.2 fun a b ha hb => (hq a b ha hb).1, hwh2.out.2 fun a b ha hb => (hq a b ha hb).2⟩
        have hgood : Hid (s1 = m → s2 = m → wrongN k L B = 0) := fun e1 e2 => hw6.out true ho.out (allB_true fun a ha => allB_true fun b hb => by
          unfold pairB
          rw [hwh1.out.1 e1 a b ha hb, hwh2.out.1 e2 a b ha hb]; rfl)
        clear hwh1 hwh2 hm hs1 hs2
        by_cases h1 : s1 < m
        · have hfin := Lib.hid (hbad.out (by omega))
          go_wp2_with fail
          go_ret2
          exact newIs_no (c := 6) hfin.out (by decide) hbelq
        · have e1 : m ≤ s1 := by omega
          by_cases h2 : s2 < m
          · have hfin := Lib.hid (hbad.out (by omega))
            clear h1
            go_wp2_with fail
            go_ret2
            exact newIs_no (c := 6) hfin.out (by decide) hbelq
          · have hfin := Lib.hid (hgood.out (by omega) (by omega))
            have e2 : m ≤ s2 := by omega
            clear h1 h2
            go_wp2_with fail
            go_ret2
            obtain ⟨p, hp1, hp2, hp3⟩ := hfull.out hfin.out
            cases hp1
            exact .inr ⟨hfin.out, w.heap.size, rfl, hp2.drewN nq, hbelq⟩
end
theorem new_any (a : Option Addr) (len cap : Nat) (A : Nat → Option Addr) (L C : Nat → Nat) (B : Nat → Nat → Bool) (w : World) (h : Tab w a len A L C B) :
    Calls Try.prog 31 #[.slice a len cap] w (NewIs w len L B) := by
  cases hsq : sqB len L
  · exact new_no a len cap A L C B w h hsq
  · exact new_sq a len cap A L C B w h hsq
end Go.Proofs.Ytdagbepjhbmlfaa.L
