/- Rows of records; package record's check: which are no batch. -/
import Derived.Test.YtgfamaddghajlaaRcE
import Derived.Deep.LoopGhost
namespace Go.Proofs.Ytgfamaddghajlaa.W
open Go.RowKit Go.Sort
open Go.Proofs.Ytgfamaddghajlaa.M Go.Proofs.Ytgfamaddghajlaa.D
set_option linter.unusedVariables false
set_option linter.unusedSimpArgs false

/-- Records as cells, one behind the other. -/
def rcRows (rs : List Rc) : List Value := rs.flatMap rcL
/-- Records that lie in memory. -/
def RcAt (w : World) (va : Option Addr) (rs : List Rc) : Prop := ∀ i r, rs[i]? = some r → ∃ b o, va = some ⟨b, o, none⟩ ∧ b < w.heap.size ∧ ∀ j v, (rcL r)[j]? = some v → w.cell? ⟨b, o + i * 8 + j, none⟩ = some v
theorem RcAt.below {w w' : World} {va : Option Addr} {rs : List Rc} (h : RcAt w va rs) (hb : Below w.heap.size w w') : RcAt w' va rs := fun i r hi => by
  obtain ⟨b, o, h1, h2, h3⟩ := h i r hi
  exact ⟨b, o, h1, Nat.lt_of_lt_of_le h2 hb.size, fun j v hj => (World.cell?_of_block (hb.block b h2)).trans (h3 j v hj)⟩
theorem rcRows_at (rs : List Rc) : ∀ i r, rs[i]? = some r → ∀ j v, (rcL r)[j]? = some v → (rcRows rs)[i * 8 + j]? = some v := by
  induction rs with
  | nil => intro i r h; cases h
  | cons x rs ih =>
    intro i r h j v hj
    have hj8 : j < 8 := (List.getElem?_eq_some_iff.1 hj).1
    cases i with
    | zero =>
      obtain rfl : x = r := by simpa using h
      show (rcL x ++ rcRows rs)[0 * 8 + j]? = some v
      rw [Nat.zero_mul, Nat.zero_add, List.getElem?_append_left (by simpa using hj8)]
      exact hj
    | succ i =>
      show (rcL x ++ rcRows rs)[(i + 1) * 8 + j]? = some v
      have e : (i + 1) * 8 + j = i * 8 + j + 8 := by omega
      rw [e, List.getElem?_append_right (by simp), show i * 8 + j + 8 - (rcL x).length = i * 8 + j from by simp]
      exact ih i r (by simpa using h) j v hj
theorem rcRows_len (rs : List Rc) : (rcRows rs).length = rs.length * 8 := by
  induction rs with
  | nil => rfl
  | cons x rs ih =>
    show (rcL x ++ rcRows rs).length = _
    rw [List.length_append, ih, List.length_cons]
    simp
    omega
theorem rcRows_append (a b : List Rc) : rcRows (a ++ b) = rcRows a ++ rcRows b := by unfold rcRows; rw [List.flatMap_append]
theorem rcAt_own {w : World} {va : Option Addr} {n c B : Nat} {rs : List Rc} (h : w.ownsRow B 23 8 (.slice va n c) n (rcRows rs)) (hn : rs.length = n) : RcAt w va rs := fun i r hi => by
  rcases h.2 with ⟨hv, h0⟩ | ⟨g, cap, cur, hv, hB, hg, h1, h2, h3, h4⟩
  · have := (List.getElem?_eq_some_iff.1 hi).1; omega
  · injection hv with e1 e2 e3
    have hil := (List.getElem?_eq_some_iff.1 hi).1
    refine ⟨g, 0, e1, ?_, fun j v hj => ?_⟩
    · exact (Array.getElem?_eq_some_iff.1 hg).1
    · have h5 := rcRows_at rs i r hi j v hj
      rw [← h4, List.getElem?_take] at h5
      split at h5
      · rw [Nat.zero_add]
        exact (cell_of_row w g (i * 8 + j) _ _ _ hg).trans (by rw [← Array.getElem?_toList]; exact h5)
      · cases h5

theorem RcAt.get {w : World} {va : Option Addr} {rs : List Rc} (h : RcAt w va rs) {i : Nat} {r : Rc} (hi : rs[i]? = some r) : ∃ b o, va = some ⟨b, o, none⟩ ∧ w.cell? ⟨b, o + i * 8, none⟩ = some (.int .i64 r.off) ∧ w.cell? ⟨b, o + i * 8 + 1, none⟩ = some (.int .i64 r.tick) ∧ w.cell? ⟨b, o + i * 8 + 2, none⟩ = some (.string r.key) ∧ w.cell? ⟨b, o + i * 8 + 3, none⟩ = some (.string r.val) ∧ w.cell? ⟨b, o + i * 8 + 4, none⟩ = some (.bool r.gone) ∧ w.cell? ⟨b, o + i * 8 + 5, none⟩ = some (.int .i64 r.prod) ∧ w.cell? ⟨b, o + i * 8 + 6, none⟩ = some (.int .i64 r.seq) ∧ w.cell? ⟨b, o + i * 8 + 7, none⟩ = some (.int .i64 r.frm) := by
  obtain ⟨b, o, h1, _, h3⟩ := h i r hi
  exact ⟨b, o, h1, h3 0 _ rfl, h3 1 _ rfl, h3 2 _ rfl, h3 3 _ rfl, h3 4 _ rfl, h3 5 _ rfl, h3 6 _ rfl, h3 7 _ rfl⟩

theorem notMay_any (r : Rc) (w : World) :
    Calls Try.prog 49 #[.agg #[.int .i64 r.off, .int .i64 r.tick, .string r.key, .string r.val, .bool r.gone, .int .i64 r.prod, .int .i64 r.seq, .int .i64 r.frm]] w fun e w' => e = .returned (.bool (!r.may)) ∧ Below w.heap.size w w' := by
  have hm := fun W => may_any r.off r.tick r.key r.val r.gone r.prod r.seq r.frm W
  obtain ⟨m, hme⟩ : ∃ m, Hid (r.may = m) := ⟨_, Lib.hid rfl⟩
  rw [show (Rc.mk r.off r.tick r.key r.val r.gone r.prod r.seq r.frm).may = m from hme.out] at hm
  rw [hme.out]
  replace hm := Lib.hid hm
  have hB0 := (Below.refl w.heap.size w).alloc (Nat.le_refl _) (.cells #[.int .i64 r.off, .int .i64 r.tick, .string r.key, .string r.val, .bool r.gone, .int .i64 r.prod, .int .i64 r.seq, .int .i64 r.frm] 23)
  go_enter Try.func49, Try.ntmps49
  go_wp2_with fail
  refine (hm.out _).mono ?_
  rintro e w1 ⟨rfl, hb⟩
  have hB1 := Lib.hid (grew hB0 hb)
  clear hB0 hb
  go_wp2_with fail
  go_ret
  exact ⟨rfl, hB1.out⟩

/-- The first one that may not be. -/
theorem first_bad (rs : List Rc) (h : ¬ ∀ r ∈ rs, r.ok) : ∃ (k : Nat) (r : Rc), rs[k]? = some r ∧ ¬ r.ok ∧ ∀ (j : Nat) (s : Rc), j < k → rs[j]? = some s → s.ok := by
  induction rs with
  | nil => exact absurd (by simp) h
  | cons x rs ih =>
    by_cases hx : x.ok
    · obtain ⟨k, r, h1, h2, h3⟩ := ih (fun e => h (fun r hr => by rcases List.mem_cons.1 hr with rfl | hr; exact hx; exact e r hr))
      refine ⟨k + 1, r, by simpa using h1, h2, fun j s hj hs => ?_⟩
      cases j with
      | zero => obtain rfl : x = s := by simpa using hs
                exact hx
      | succ j => exact h3 j s (by omega) (by simpa using hs)
    · exact ⟨0, x, rfl, hx, fun j s hj => by omega⟩
theorem clo49 (args : Array Value) (W : World) : (callFunc 49 args).run Try.prog W = .ok (.enter 49 args) W := by kernel_rfl

set_option maxRecDepth 100000 in
set_option maxHeartbeats 4000000 in
theorem indexF_any (va : Option Addr) (c : Nat) (rs : List Rc) (w : World) (h : RcAt w va rs) (hn : rs.length ≤ 1000) (k : Nat) (hk : k ≤ rs.length) (hlow : ∀ j s, j < k → rs[j]? = some s → s.ok) (hend : ∀ s, rs[k]? = some s → ¬ s.ok) :
    Calls Try.prog 57 #[.slice va rs.length c, .func (.func 49) #[] #[]] w fun e w' => e = .returned (.int .i64 (if k < rs.length then (k : Int) else -1)) ∧ Below w.heap.size w w' := by
  obtain ⟨N, hN⟩ : ∃ N, Hid (rs.length = N) := ⟨_, Lib.hid rfl⟩
  rw [hN.out] at hn hk ⊢
  have hm := Lib.hid (fun (r : Rc) W => notMay_any r W)
  obtain ⟨R, hR⟩ : ∃ R : Int, Hid ((if k < N then (k : Int) else -1) = R) := ⟨_, Lib.hid rfl⟩
  rw [hR.out]
  replace h := Lib.hid h
  replace hlow := Lib.hid hlow
  replace hend := Lib.hid hend
  have eg := clo49
  go_enter Try.func57, Try.ntmps57
  go_wp2_with fail
  go_loopg [8] N (fun ga i wr => ∃ a : Nat, a ≤ k ∧ N ≤ a + ga ∧ i = .int .i64 a ∧ Hid (Below w.heap.size w wr))
  case atStart => exact ⟨0, by omega, by omega, rfl, Lib.hid (Below.refl _ _)⟩
  case round =>
    obtain ⟨a, ha, hg, rfl, hb⟩ := hrel
    generalize wr = wo at *
    by_cases hlt : a < N
    · obtain ⟨r, hr⟩ : ∃ r, rs[a]? = some r := ⟨_, List.getElem?_eq_getElem (by have := hN.out; omega)⟩
      obtain ⟨b, o, rfl, c0, c1, c2, c3, c4, c5, c6, c7⟩ := (h.out.below hb.out).get hr
      have hlow1 := Lib.hid (fun (e : a < k) => hlow.out a r e hr)
      have hend1 := Lib.hid (fun (e : a = k) => hend.out r (by rw [← e]; exact hr))
      replace hr := Lib.hid hr
      go_wp2_with fail
      refine (hm.out r _).mono ?_
      rintro e w1 ⟨rfl, hb1⟩
      have hB1 := Lib.hid (grew hb.out hb1)
      by_cases hka : a = k
      · have hbad := hend1.out hka
        rw [show r.may = false from decide_eq_false hbad]
        have hRa : (a : Int) = R := by rw [← hR.out, if_pos (by omega), hka]
        subst hRa
        subst hka
        clear hbad hlow1 hend1 c0 c1 c2 c3 c4 c5 c6 c7 hb1 hb
        go_wp2_with fail
        go_ret
        exact ⟨rfl, hB1.out⟩
      · have hgood := hlow1.out (by omega)
        rw [show r.may = true from decide_eq_true hgood]
        clear hgood hlow1 hend1 c0 c1 c2 c3 c4 c5 c6 c7 hb1 hb
        go_wp2_with fail
        go_roundg (gk - 1)
        case measure => omega
        case rel => exact ⟨a + 1, by omega, by omega, by go_num, hB1⟩
    · have hRk : R = -1 := by rw [← hR.out, if_neg (by omega)]
      subst hRk
      go_wp2_with fail
      go_ret
      exact ⟨rfl, hb.out⟩

set_option maxRecDepth 100000 in
theorem contains_any (va : Option Addr) (c : Nat) (rs : List Rc) (w : World) (h : RcAt w va rs) (hn : rs.length ≤ 1000) (B : Bool) (hB : B = true ↔ ¬ ∀ r ∈ rs, r.ok) :
    Calls Try.prog 50 #[.slice va rs.length c, .func (.func 49) #[] #[]] w fun e w' => e = .returned (.bool B) ∧ Below w.heap.size w w' := by
  obtain ⟨K, hi, hK⟩ : ∃ K : Int, (∀ W, RcAt W va rs → Calls Try.prog 57 #[.slice va rs.length c, .func (.func 49) #[] #[]] W fun e w' => e = .returned (.int .i64 K) ∧ Below W.heap.size W w') ∧ (B = decide (0 ≤ K)) := by
    by_cases hall : ∀ r ∈ rs, r.ok
    · refine ⟨-1, fun W hW => ?_, ?_⟩
      · have := indexF_any va c rs W hW hn rs.length (Nat.le_refl _) (fun j s _ hj => hall s (List.mem_of_getElem? hj)) (fun s hs => by have := (List.getElem?_eq_some_iff.1 hs).1; omega)
        rw [if_neg (by omega)] at this
        exact this
      · have : B = false := by
          cases B with
          | false => rfl
          | true => exact absurd hall (hB.1 rfl)
        rw [this]; rfl
    · obtain ⟨k, r, h1, h2, h3⟩ := first_bad rs hall
      have hk : k < rs.length := (List.getElem?_eq_some_iff.1 h1).1
      refine ⟨(k : Int), fun W hW => ?_, ?_⟩
      · have := indexF_any va c rs W hW hn k (by omega) h3 (fun s hs => by rw [h1] at hs; cases hs; exact h2)
        rw [if_pos hk] at this
        exact this
      · rw [hB.2 hall]; simp
  replace hi := Lib.hid (hi w h)
  obtain ⟨N, hN⟩ : ∃ N, Hid (rs.length = N) := ⟨_, Lib.hid rfl⟩
  rw [hN.out] at hi ⊢
  clear hB
  subst hK
  go_enter Try.func50, Try.ntmps50
  go_wp2_with fail
  refine hi.out.mono ?_
  rintro e w1 ⟨rfl, hb⟩
  replace hb := Lib.hid hb
  go_wp2_with fail
  go_ret
  exact ⟨rfl, hb.out⟩

/-- Do offsets rise? -/
def risesP (rs : List Rc) : Prop := ∀ (i : Nat) (a b : Rc), rs[i]? = some a → rs[i + 1]? = some b → a.off < b.off
theorem first_down (rs : List Rc) (n : Nat) (h : ¬ ∀ (i : Nat) (a b : Rc), i < n → rs[i]? = some a → rs[i + 1]? = some b → a.off < b.off) : ∃ (k : Nat) (a b : Rc), k < n ∧ rs[k]? = some a ∧ rs[k + 1]? = some b ∧ b.off ≤ a.off ∧ ∀ (i : Nat) (x y : Rc), i < k → rs[i]? = some x → rs[i + 1]? = some y → x.off < y.off := by
  induction n with
  | zero => exact absurd (fun i a b hi => by omega) h
  | succ n ih =>
    by_cases hn : ∀ (i : Nat) (a b : Rc), i < n → rs[i]? = some a → rs[i + 1]? = some b → a.off < b.off
    · refine Classical.byContradiction fun hc => h fun i a b hi ha hb => ?_
      by_cases e : i < n
      · exact hn i a b e ha hb
      · obtain rfl : i = n := by omega
        exact Classical.byContradiction fun hlt => hc ⟨i, a, b, by omega, ha, hb, by omega, hn⟩
    · obtain ⟨k, a, b, h1, h2⟩ := ih hn
      exact ⟨k, a, b, by omega, h2⟩

set_option maxRecDepth 100000 in
set_option maxHeartbeats 4000000 in
theorem rise_at (va : Option Addr) (c : Nat) (rs : List Rc) (w : World) (h : RcAt w va rs) (hn : rs.length ≤ 1000) (h0 : rs ≠ []) (k : Nat) (hk : k ≤ rs.length - 1) (hlow : ∀ (i : Nat) (x y : Rc), i < k → rs[i]? = some x → rs[i + 1]? = some y → x.off < y.off)
    (hend : ∀ a b, rs[k]? = some a → rs[k + 1]? = some b → b.off ≤ a.off) :
    Calls Try.prog 51 #[.slice va rs.length c] w fun e w' => e = .returned (.bool (decide (k = rs.length - 1))) ∧ Below w.heap.size w w' := by
  have hpos : 1 ≤ rs.length := List.length_pos_iff.2 h0
  obtain ⟨N, hN⟩ : ∃ N, Hid (rs.length = N) := ⟨_, Lib.hid rfl⟩
  rw [hN.out] at hn hk hpos ⊢
  obtain ⟨M, hM⟩ : ∃ M, Hid (N - 1 = M) := ⟨_, Lib.hid rfl⟩
  rw [hM.out] at hk ⊢
  have hw1 : IntKind.i64.wrap ((N : Int) - 1) = (M : Int) := by rw [IntWalk.i64_in _ (by omega)]; have := hM.out; omega
  obtain ⟨R, hR⟩ : ∃ R, Hid (decide (k = M) = R) := ⟨_, Lib.hid rfl⟩
  rw [hR.out]
  replace h := Lib.hid h
  replace hlow := Lib.hid hlow
  replace hend := Lib.hid hend
  clear h0
  go_enter Try.func51, Try.ntmps51
  go_wp2_with fail
  go_loopg [7] M (fun ga i wr => ∃ a : Nat, a ≤ k ∧ M ≤ a + ga ∧ i = .int .i64 a ∧ Hid (Below w.heap.size w wr))
  case atStart => exact ⟨0, by omega, by omega, rfl, Lib.hid (Below.refl _ _)⟩
  case round =>
    obtain ⟨a, ha, hg, rfl, hb⟩ := hrel
    generalize wr = wo at *
    by_cases hlt : a < M
    · have hNM : M + 1 = N := by have := hM.out; omega
      obtain ⟨r, hr⟩ : ∃ r, rs[a]? = some r := ⟨_, List.getElem?_eq_getElem (by have := hN.out; omega)⟩
      obtain ⟨r2, hr2⟩ : ∃ r, rs[a + 1]? = some r := ⟨_, List.getElem?_eq_getElem (by have := hN.out; omega)⟩
      obtain ⟨b, o, rfl, c0, _⟩ := (h.out.below hb.out).get hr
      obtain ⟨b', o', e', d0, _⟩ := (h.out.below hb.out).get hr2
      cases e'
      have hlow1 := Lib.hid (fun (e : a < k) => hlow.out a r r2 e hr hr2)
      have hend1 := Lib.hid (fun (e : a = k) => hend.out r r2 (by rw [← e]; exact hr) (by rw [← e]; exact hr2))
      have hw2 : IntKind.i64.wrap ((a : Int) + 1) = ((a + 1 : Nat) : Int) := by rw [IntWalk.i64_in _ (by omega)]; omega
      have ha1 : ((a + 1 : Nat) : Int) < (N : Int) := by omega
      have ha0 : (a : Int) < (N : Int) := by omega
      have ha2 : a + 1 < N := by omega
      have ha3 : a < N := by omega
      have hD := Lib.hid (hb.out.drew)
      replace hr := Lib.hid hr
      replace hr2 := Lib.hid hr2
      obtain ⟨x, hx⟩ : ∃ x, Hid (r.off = x) := ⟨_, Lib.hid rfl⟩
      obtain ⟨y, hy⟩ : ∃ x, Hid (r2.off = x) := ⟨_, Lib.hid rfl⟩
      rw [hx.out] at c0
      rw [hy.out] at d0
      by_cases hka : a = k
      · have hbad := hend1.out hka
        rw [hx.out, hy.out] at hbad
        obtain rfl : R = false := by rw [← hR.out]; exact decide_eq_false (by omega)
        subst hka
        clear hlow1 hend1
        go_wp2_with fail
        go_region
        all_goals
          go_wp2_with fail
          go_ret
          exact ⟨rfl, hD.out⟩
      · have hgood := hlow1.out (by omega)
        rw [hx.out, hy.out] at hgood
        clear hlow1 hend1
        go_wp2_with fail
        go_region
        all_goals
          go_wp2_with fail
          go_roundg (gk - 1)
          case measure => omega
          case rel => exact ⟨a + 1, by omega, by omega, by go_num, hD⟩
    · obtain rfl : R = true := by rw [← hR.out]; exact decide_eq_true (by omega)
      go_wp2_with fail
      go_ret
      exact ⟨rfl, hb.out⟩
end Go.Proofs.Ytgfamaddghajlaa.W
