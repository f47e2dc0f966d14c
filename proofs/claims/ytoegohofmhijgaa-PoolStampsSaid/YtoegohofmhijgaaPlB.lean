/- Which segments count: package pool's those, Free, Of. -/
import Derived.Test.YtoegohofmhijgaaPlA
import Derived.Deep.AppendLies
import Derived.Deep.DrawnRows
namespace Go.Proofs.Ytoegohofmhijgaa.W
open Go.RowKit
open Go.Proofs.Ytoegohofmhijgaa.M Go.Proofs.Ytoegohofmhijgaa.D Go.Proofs.Ytoegohofmhijgaa.Z
set_option linter.unusedVariables false

theorem infoI : (Try.prog.info? 3).map (fun i => (i.zero, i.size, i.bytes)) = some (some (.int .i64 0), 1, 8) := by kernel_rfl
def nv (k : Nat) : Value := .int .i64 (k : Int)
/-- A row of numbers that a call hands back. -/
def Told (w : World) (A : Option Addr) (xs : List Nat) : Prop := ∀ k x, xs[k]? = some x → ∃ g, A = some ⟨g, 0, none⟩ ∧ w.cell? ⟨g, k, none⟩ = some (nv x)
theorem Told.grow {w w' : World} {A : Option Addr} {xs : List Nat} (h : Told w A xs) (hb : Below w.heap.size w w') : Told w' A xs := fun k x hk => by
  obtain ⟨g, e, hc⟩ := h k x hk
  exact ⟨g, e, (hb.cell (World.block_lt_of_cell? w _ hc)).trans hc⟩
theorem own_told {w : World} {B : Nat} {v : Value} {xs : List Nat} (h : w.ownsRow B 3 1 v xs.length (xs.map nv)) : ∃ A c, v = .slice A xs.length c ∧ Told w A xs := by
  by_cases h0 : 0 < xs.length
  · obtain ⟨gg, c2, rfl, _, _, _, _, hcl⟩ := ownCells h0 h
    exact ⟨_, c2, rfl, fun k x hk => ⟨gg, rfl, hcl k _ (by rw [List.getElem?_map, hk]; rfl)⟩⟩
  · have e : xs = [] := List.eq_nil_of_length_eq_zero (by omega)
    subst e
    rcases h with ⟨_, ⟨rfl, _⟩ | ⟨g, cap, cur, rfl, _⟩⟩
    · exact ⟨none, 0, rfl, fun k x hk => by simp at hk⟩
    · exact ⟨some ⟨g, 0, none⟩, cap, rfl, fun k x hk => by simp at hk⟩
theorem those_nil (v : Value) (w : World) :
    Calls Try.prog 33 #[.pointer none, v] w fun e w' => e = .returned (.slice none 0 0) ∧ w = w' := by
  go_enter Try.func33, Try.ntmps33
  go_wp2_with fail
  go_ret
  exact ⟨rfl, rfl⟩
/-- What counts, step by step. -/
structure Steps (l : List Int) (P : Int → Bool) (T : Nat → List Nat) : Prop where
  zero : T 0 = []
  next : ∀ k o, l[k]? = some o → T (k + 1) = if P o = true then T k ++ [k] else T k
theorem Steps.len {l : List Int} {P : Int → Bool} {T : Nat → List Nat} (h : Steps l P T) (k : Nat) (hk : k ≤ l.length) : (T k).length ≤ k := by
  induction k with
  | zero => rw [h.zero]; exact Nat.le_refl _
  | succ k ih =>
    have ih := ih (by omega)
    rw [h.next k _ (List.getElem?_eq_getElem (by omega))]
    by_cases hp : P l[k] = true
    · rw [if_pos hp, List.length_append]; simp; omega
    · rw [if_neg hp]; omega
theorem steps_free (l : List Int) : Steps l (fun o => o == 0) (fun k => ofL (l.take k) 0) := ⟨rfl, fun k o hk => by
  show ofL (l.take (k + 1)) 0 = _
  rw [ofL_take l k o 0 hk]
  by_cases h : o = 0
  · rw [if_pos h, if_pos (by simp [h])]
  · rw [if_neg h, if_neg (by simp [h])]⟩
theorem steps_of (l : List Int) (g : Int) : Steps l (fun o => o == g && okG o) (fun k => if okG g = true then ofL (l.take k) g else []) := by
  refine ⟨by simp [ofL], fun k o hk => ?_⟩
  cases hg : okG g with
  | true =>
    simp only [if_true]
    rw [ofL_take l k o g hk]
    by_cases h : o = g
    · subst h; rw [if_pos rfl, if_pos (by simp [hg])]
    · rw [if_neg h, if_neg (by simp [h])]
  | false =>
    simp only [Bool.false_eq_true, if_false]
    rw [if_neg]
    intro h
    simp only [Bool.and_eq_true, beq_iff_eq] at h
    rw [← h.1, h.2] at hg
    exact absurd hg (by decide)
set_option maxHeartbeats 4000000 in
set_option maxRecDepth 100000 in
theorem those_free {w : World} {b a : Nat} {l : List Int} {ep ct : Nat} (h : Pl w b a l ep ct) (hn : l.length ≤ 64) (P : Int → Bool) (T : Nat → List Nat) (hS : Steps l P T) (gf : FuncId)
    (eg : ∀ args w, (callFunc gf args).run Try.prog w = .ok (.enter gf args) w) (hf : ∀ W : World, Below w.heap.size w W → ∀ o : Int, Calls Try.prog gf #[.int .i64 o] W fun e w' => e = .returned (.bool (P o)) ∧ W = w') :
    Calls Try.prog 33 #[.pointer (some ⟨b, 0, none⟩), .func (.func gf) #[] #[]] w fun e w' => ∃ A c, e = .returned (.slice A (T l.length).length c) ∧ Told w' A (T l.length) ∧ Below w.heap.size w w' ∧ (T l.length = [] → A = none ∧ c = 0) := by
  obtain ⟨is, his, hs0, hs1, hs2⟩ := info_parts infoI
  have c0 := h.c0
  have hcell : Hid (∀ W : World, Below w.heap.size w W → ∀ (k : Nat) (o : Int), l[k]? = some o → W.cell? ⟨a, k, none⟩ = some (.int .i64 o)) := Lib.hid (fun W hb k o hk => (h.grow hb).at_ hk)
  have hget : Hid (∀ k, k < l.length → ∃ o, l[k]? = some o) := Lib.hid (fun k hk => ⟨_, List.getElem?_eq_getElem hk⟩)
  have hlen := Lib.hid hS.len
  have hzero := hS.zero
  have hnext := Lib.hid hS.next
  have hB := Below.refl w.heap.size w
  generalize hnn : l.length = n at *
  replace hf := Lib.hid hf
  replace hnn := Lib.hid hnn
  clear h hS
  go_enter Try.func33, Try.ntmps33
  go_wp2_with fail
  go_loopg [5, 15] n (fun ga v i wr => ∃ k : Nat, k ≤ n ∧ n ≤ k + ga ∧ i = .int .i64 k ∧ Below w.heap.size w wr ∧ Hid (wr.ownsRow w.heap.size 3 1 v (T k).length ((T k).map nv)) ∧ Hid (T k = [] → v = .slice none 0 0))
  case atStart => exact ⟨0, by omega, by omega, rfl, hB, Lib.hid (by rw [hzero]; exact World.ownsRow_nil _ _ _ _), Lib.hid (fun _ => rfl)⟩
  case round =>
    clear hB hzero
    obtain ⟨k, hk, hg, rfl, hb, how, hem⟩ := hrel
    generalize wr = wq at *
    have hsq := hb.size
    by_cases hlt : k < n
    · obtain ⟨o, ho⟩ := hget.out k hlt
      have e1 := hcell.out wq hb k o ho
      have hfo := Lib.hid (hf.out wq hb o)
      have hnx := hnext.out k o ho
      have hlk := hlen.out k (by omega)
      cases hp : P o with
      | false =>
        rw [hp] at hfo
        rw [hp, if_neg (by decide)] at hnx
        replace hnx := Lib.hid hnx
        clear hp ho
        go_wp2_with fail
        refine hfo.out.mono ?_
        rintro ee w1 ⟨rfl, rfl⟩
        go_wp2_with fail
        go_roundg (gk - 1)
        case measure => omega
        case rel => exact ⟨k + 1, by omega, by omega, by go_num, hb, by rw [hnx.out]; exact how, by rw [hnx.out]; exact hem⟩
      | true =>
        rw [hp] at hfo
        rw [hp, if_pos rfl] at hnx
        replace hnx := Lib.hid hnx
        clear hp ho
        go_wp2_with fail
        refine hfo.out.mono ?_
        rintro ee w1 ⟨rfl, rfl⟩
        go_wp2_with (with_reducible refine zAppend _ _ _ rfl ?_)
        refine Lib.hid ?_
        refine wpList_append_lies _ rfl _ _ 30 rfl w.heap.size 3 is _ 1 8 Try.underlying30 his hs0 hs1 hs2 rfl (by omega) _ _ _ rfl (how.out.alloc _) _ 1 1 [.int .i64 k] rfl rfl (World.news_of_block (heap_alloc_new _ _)) (by simp [Value.oneCell']) (by omega) (by unfold maxLen; omega) (by omega) (by simp; omega) (wq.heap.size + 1) (by simp) ?_
        intro gg cap2 w5 hown5 hgrow5 hat5 hlt5
        have hb5 : Below w.heap.size w w5 := (((Kept.of_below (own := fun b => w.heap.size ≤ b) hb).alloc _).grown hgrow5 (fun k hk => .inl (ownFar how.out k hk))).below (Nat.le_refl _) (fun _ h => h)
        have hown6 : Hid (w5.ownsRow w.heap.size 3 1 (.slice (some ⟨gg, 0, none⟩) ((T k).length + 1) cap2) (T (k + 1)).length ((T (k + 1)).map nv)) := by
          rw [hnx.out, List.map_append, List.length_append]; exact Lib.hid hown5
        clear hown5 hgrow5 hat5 how hb
        go_wp2_with fail
        go_roundg (gk - 1)
        case measure => omega
        case rel => exact ⟨k + 1, by omega, by omega, by go_num, hb5, hown6, Lib.hid (fun e => by rw [hnx.out] at e; simp at e)⟩
    · obtain rfl : k = n := by omega
      obtain ⟨A, c, hv, htl⟩ := own_told how.out
      generalize u5 = v5 at *
      subst hv
      have hem2 : Hid (T k = [] → A = none ∧ c = 0) := Lib.hid (fun e => by
        have h := hem.out e
        simp at h
        exact ⟨h.1, h.2.2⟩)
      clear how hem
      go_wp2_with fail
      go_ret
      exact ⟨A, c, rfl, htl, hb, hem2.out⟩
set_option maxHeartbeats 4000000 in
set_option maxRecDepth 100000 in
theorem those_of {w : World} {b a : Nat} {l : List Int} {ep ct : Nat} (h : Pl w b a l ep ct) (hn : l.length ≤ 64) (P : Int → Bool) (T : Nat → List Nat) (hS : Steps l P T) (gf : FuncId) (q : Addr)
    (eg : ∀ args w, (callFunc gf args).run Try.prog w = .ok (.enter gf args) w) (hf : ∀ W : World, Below w.heap.size w W → ∀ o : Int, Calls Try.prog gf #[.int .i64 o, .pointer (some q)] W fun e w' => e = .returned (.bool (P o)) ∧ W = w') :
    Calls Try.prog 33 #[.pointer (some ⟨b, 0, none⟩), .func (.func gf) #[] #[.pointer (some q)]] w fun e w' => ∃ A c, e = .returned (.slice A (T l.length).length c) ∧ Told w' A (T l.length) ∧ Below w.heap.size w w' ∧ (T l.length = [] → A = none ∧ c = 0) := by
  obtain ⟨is, his, hs0, hs1, hs2⟩ := info_parts infoI
  have c0 := h.c0
  have hcell : Hid (∀ W : World, Below w.heap.size w W → ∀ (k : Nat) (o : Int), l[k]? = some o → W.cell? ⟨a, k, none⟩ = some (.int .i64 o)) := Lib.hid (fun W hb k o hk => (h.grow hb).at_ hk)
  have hget : Hid (∀ k, k < l.length → ∃ o, l[k]? = some o) := Lib.hid (fun k hk => ⟨_, List.getElem?_eq_getElem hk⟩)
  have hlen := Lib.hid hS.len
  have hzero := hS.zero
  have hnext := Lib.hid hS.next
  have hB := Below.refl w.heap.size w
  generalize hnn : l.length = n at *
  replace hf := Lib.hid hf
  replace hnn := Lib.hid hnn
  clear h hS
  go_enter Try.func33, Try.ntmps33
  go_wp2_with fail
  go_loopg [5, 15] n (fun ga v i wr => ∃ k : Nat, k ≤ n ∧ n ≤ k + ga ∧ i = .int .i64 k ∧ Below w.heap.size w wr ∧ Hid (wr.ownsRow w.heap.size 3 1 v (T k).length ((T k).map nv)) ∧ Hid (T k = [] → v = .slice none 0 0))
  case atStart => exact ⟨0, by omega, by omega, rfl, hB, Lib.hid (by rw [hzero]; exact World.ownsRow_nil _ _ _ _), Lib.hid (fun _ => rfl)⟩
  case round =>
    clear hB hzero
    obtain ⟨k, hk, hg, rfl, hb, how, hem⟩ := hrel
    generalize wr = wq at *
    have hsq := hb.size
    by_cases hlt : k < n
    · obtain ⟨o, ho⟩ := hget.out k hlt
      have e1 := hcell.out wq hb k o ho
      have hfo := Lib.hid (hf.out wq hb o)
      have hnx := hnext.out k o ho
      have hlk := hlen.out k (by omega)
      cases hp : P o with
      | false =>
        rw [hp] at hfo
        rw [hp, if_neg (by decide)] at hnx
        replace hnx := Lib.hid hnx
        clear hp ho
        go_wp2_with fail
        refine hfo.out.mono ?_
        rintro ee w1 ⟨rfl, rfl⟩
        go_wp2_with fail
        go_roundg (gk - 1)
        case measure => omega
        case rel => exact ⟨k + 1, by omega, by omega, by go_num, hb, by rw [hnx.out]; exact how, by rw [hnx.out]; exact hem⟩
      | true =>
        rw [hp] at hfo
        rw [hp, if_pos rfl] at hnx
        replace hnx := Lib.hid hnx
        clear hp ho
        go_wp2_with fail
        refine hfo.out.mono ?_
        rintro ee w1 ⟨rfl, rfl⟩
        go_wp2_with (with_reducible refine zAppend _ _ _ rfl ?_)
        refine Lib.hid ?_
        refine wpList_append_lies _ rfl _ _ 30 rfl w.heap.size 3 is _ 1 8 Try.underlying30 his hs0 hs1 hs2 rfl (by omega) _ _ _ rfl (how.out.alloc _) _ 1 1 [.int .i64 k] rfl rfl (World.news_of_block (heap_alloc_new _ _)) (by simp [Value.oneCell']) (by omega) (by unfold maxLen; omega) (by omega) (by simp; omega) (wq.heap.size + 1) (by simp) ?_
        intro gg cap2 w5 hown5 hgrow5 hat5 hlt5
        have hb5 : Below w.heap.size w w5 := (((Kept.of_below (own := fun b => w.heap.size ≤ b) hb).alloc _).grown hgrow5 (fun k hk => .inl (ownFar how.out k hk))).below (Nat.le_refl _) (fun _ h => h)
        have hown6 : Hid (w5.ownsRow w.heap.size 3 1 (.slice (some ⟨gg, 0, none⟩) ((T k).length + 1) cap2) (T (k + 1)).length ((T (k + 1)).map nv)) := by
          rw [hnx.out, List.map_append, List.length_append]; exact Lib.hid hown5
        clear hown5 hgrow5 hat5 how hb
        go_wp2_with fail
        go_roundg (gk - 1)
        case measure => omega
        case rel => exact ⟨k + 1, by omega, by omega, by go_num, hb5, hown6, Lib.hid (fun e => by rw [hnx.out] at e; simp at e)⟩
    · obtain rfl : k = n := by omega
      obtain ⟨A, c, hv, htl⟩ := own_told how.out
      generalize u5 = v5 at *
      subst hv
      have hem2 : Hid (T k = [] → A = none ∧ c = 0) := Lib.hid (fun e => by
        have h := hem.out e
        simp at h
        exact ⟨h.1, h.2.2⟩)
      clear how hem
      go_wp2_with fail
      go_ret
      exact ⟨A, c, rfl, htl, hb, hem2.out⟩
theorem free1_any (o : Int) (w : World) :
    Calls Try.prog 35 #[.int .i64 o] w fun e w' => e = .returned (.bool (o == 0)) ∧ w = w' := by
  go_enter Try.func35, Try.ntmps35
  go_wp2_with fail
  go_ret
  exact ⟨rfl, rfl⟩
theorem of1_any (o g : Int) (q : Addr) (w : World) (hq : w.cell? q = some (.int .i64 g)) :
    Calls Try.prog 34 #[.int .i64 o, .pointer (some q)] w fun e w' => e = .returned (.bool (o == g && okG o)) ∧ w = w' := by
  have hl := Lib.hid (isLog_any o w)
  go_enter Try.func34, Try.ntmps34
  by_cases h : o = g
  · have h1 : (o == g) = true := by simp [h]
    rw [show (o == g && okG o) = okG o from by rw [h1]; rfl]
    clear h
    go_wp2_with fail
    refine hl.out.mono ?_
    rintro ee w1 ⟨rfl, rfl⟩
    go_wp2_with fail
    go_ret
    exact ⟨rfl, rfl⟩
  · have h1 : (o == g) = false := by simp [h]
    rw [show (o == g && okG o) = false from by rw [h1]; rfl]
    clear h hl
    go_wp2_with fail
    go_ret
    exact ⟨rfl, rfl⟩
theorem pfree_any {w : World} {b a : Nat} {l : List Int} {ep ct : Nat} (h : Pl w b a l ep ct) (hn : l.length ≤ 64) :
    Calls Try.prog 21 #[.pointer (some ⟨b, 0, none⟩)] w fun e w' => e = .returned (.int .i64 (freeN l : Nat)) ∧ Below w.heap.size w w' := by
  have ht := those_free h hn _ _ (steps_free l) 35 (fun _ _ => by kernel_rfl) (fun W _ o => free1_any o W)
  rw [show (ofL (l.take l.length) 0).length = freeN l from by rw [List.take_length]; exact ofL_free l] at ht
  replace ht := Lib.hid ht
  go_enter Try.func21, Try.ntmps21
  go_wp2_with fail
  refine ht.out.mono ?_
  rintro ee w1 ⟨A, c, rfl, _, hb, _⟩
  go_wp2_with fail
  go_ret
  exact ⟨rfl, hb⟩
theorem pfree_nil (w : World) :
    Calls Try.prog 21 #[.pointer none] w fun e w' => e = .returned (.int .i64 0) ∧ w = w' := by
  go_enter Try.func21, Try.ntmps21
  go_wp2_with fail
  refine (those_nil _ _).mono ?_
  rintro ee w1 ⟨rfl, rfl⟩
  go_wp2_with fail
  go_ret
  exact ⟨rfl, rfl⟩
/-- A log's segments, as the program tells them. -/
theorem of_good {l : List Int} (h : GoodO l) (g : Int) : (if okG g = true then ofL (l.take l.length) g else []) = ofP l g := by
  rw [List.take_length]
  unfold ofP
  cases hg : okG g with
  | true =>
    have : g ≠ 0 := by rintro rfl; exact absurd hg (by decide)
    rw [if_pos rfl, if_neg this]
  | false =>
    rw [if_neg (by decide)]
    by_cases h0 : g = 0
    · rw [if_pos h0]
    · rw [if_neg h0, ofL_none h]
      unfold okG at hg
      simp at hg
      omega
theorem pof_any {w : World} {b a : Nat} {l : List Int} {ep ct : Nat} (h : Pl w b a l ep ct) (hn : l.length ≤ 64) (hG : GoodO l) (g : Int) :
    Calls Try.prog 19 #[.pointer (some ⟨b, 0, none⟩), .int .i64 g] w fun e w' => ∃ A c, e = .returned (.slice A (ofP l g).length c) ∧ Told w' A (ofP l g) ∧ Below w.heap.size w w' ∧ (ofP l g = [] → A = none ∧ c = 0) := by
  have hB := (Below.refl w.heap.size w).alloc (Nat.le_refl _) (.cells #[.int .i64 g] 3)
  have hq : (w.alloc (.cells #[.int .i64 g] 3)).cell? ⟨w.heap.size, 0, none⟩ = some (.int .i64 g) := (Whole.new w 3 [.int .i64 g]).cell 0
  have ht := those_of (h.grow hB) hn _ _ (steps_of l g) 34 ⟨w.heap.size, 0, none⟩ (fun _ _ => by kernel_rfl) (fun W hb o => of1_any o g _ W ((hb.cell (World.block_lt_of_cell? _ _ hq)).trans hq))
  rw [of_good hG g] at ht
  replace ht := Lib.hid ht
  replace hB := Lib.hid hB
  clear hq
  go_enter Try.func19, Try.ntmps19
  go_wp2_with fail
  refine ht.out.mono ?_
  rintro ee w1 ⟨A, c, rfl, htl, hb, hem⟩
  replace hem := Lib.hid hem
  go_wp2_with fail
  go_ret
  exact ⟨A, c, rfl, htl, grew hB.out hb, hem.out⟩
theorem pof_zero {w : World} {b a : Nat} {l : List Int} {ep ct : Nat} (h : Pl w b a l ep ct) (hn : l.length ≤ 64) (hG : GoodO l) :
    Calls Try.prog 19 #[.pointer (some ⟨b, 0, none⟩), .int .i64 0] w fun e w' => e = .returned (.slice none 0 0) ∧ Below w.heap.size w w' := by
  have e0 : ofP l 0 = [] := by unfold ofP; rw [if_pos rfl]
  refine (pof_any h hn hG 0).mono ?_
  rintro e w' ⟨A, c, h1, _, h2, h3⟩
  obtain ⟨rfl, rfl⟩ := h3 e0
  rw [e0] at h1
  exact ⟨h1, h2⟩
theorem pof_nil (g : Int) (w : World) :
    Calls Try.prog 19 #[.pointer none, .int .i64 g] w fun e w' => e = .returned (.slice none 0 0) ∧ Below w.heap.size w w' := by
  have hB := Lib.hid ((Below.refl w.heap.size w).alloc (Nat.le_refl _) (.cells #[.int .i64 g] 3))
  go_enter Try.func19, Try.ntmps19
  go_wp2_with fail
  refine (those_nil _ _).mono ?_
  rintro ee w1 ⟨rfl, rfl⟩
  go_wp2_with fail
  go_ret
  exact ⟨rfl, hB.out⟩
end Go.Proofs.Ytoegohofmhijgaa.W
