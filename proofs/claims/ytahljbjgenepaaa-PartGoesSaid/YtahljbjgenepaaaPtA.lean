/- Package part: rows of records of its own; check, own, the library's Clone. -/
import Derived.Test.YtahljbjgenepaaaRcQ
import Derived.Test.YtahljbjgenepaaaClone
import Derived.Deep.AppendLies
import Derived.Deep.AppendSrc
import Derived.Deep.Upon
import Derived.Deep.Cut
import Derived.Deep.RegionHeld3
namespace Go.Proofs.Ytahljbjgenepaaa.W
open Go.RowKit Go.Sort
open Go.Proofs.Ytahljbjgenepaaa.M Go.Proofs.Ytahljbjgenepaaa.D Go.Proofs.Ytahljbjgenepaaa.Z
set_option linter.unusedVariables false
set_option linter.unusedSimpArgs false

/-- A row of records of the program's own, wherever in its block it begins. -/
def RowO (W : World) (va : Option Addr) (c : Nat) (rs : List Rc) : Prop :=
  (va = none ∧ c = 0 ∧ rs = []) ∨ ∃ g o cur, va = some ⟨g, o, none⟩ ∧ Whole W g 40 cur ∧ o + c * 8 ≤ cur.length ∧ rs.length ≤ c ∧ c ≤ maxLen ∧ (cur.drop o).take (rs.length * 8) = rcRows rs
/-- The block in which a row lies. -/
def ownB (va : Option Addr) (q : Nat) : Prop := ∃ o, va = some ⟨q, o, none⟩
theorem rcRows_take (rs : List Rc) : ∀ k, (rcRows rs).take (k * 8) = rcRows (rs.take k) := by
  induction rs with
  | nil => intro k; simp [rcRows]
  | cons r t ih =>
    intro k
    cases k with
    | zero => simp [rcRows]
    | succ k =>
      show (rcL r ++ rcRows t).take ((k + 1) * 8) = rcL r ++ rcRows (t.take k)
      rw [List.take_append, ← ih k, List.take_of_length_le (by simp; omega), show (k + 1) * 8 - (rcL r).length = k * 8 from by simp; omega]
theorem rcRows_drop (rs : List Rc) : ∀ k, (rcRows rs).drop (k * 8) = rcRows (rs.drop k) := by
  induction rs with
  | nil => intro k; simp [rcRows]
  | cons r t ih =>
    intro k
    cases k with
    | zero => simp [rcRows]
    | succ k =>
      show (rcL r ++ rcRows t).drop ((k + 1) * 8) = rcRows (t.drop k)
      rw [List.drop_append, ← ih k, List.drop_eq_nil_of_le (by simp; omega), List.nil_append, show (k + 1) * 8 - (rcL r).length = k * 8 from by simp; omega]
section
variable {W W' : World} {va : Option Addr} {c : Nat} {rs : List Rc}
theorem RowO.at_ (h : RowO W va c rs) : RcAt W va rs := fun i r hi => by
  rcases h with ⟨_, _, rfl⟩ | ⟨g, o, cur, rfl, hW, h1, h2, h3, h4⟩
  · simp at hi
  · refine ⟨g, o, rfl, hW.lt, fun j v hj => ?_⟩
    have h5 := rcRows_at rs i r hi j v hj
    rw [← h4, List.getElem?_take] at h5
    split at h5
    · rw [List.getElem?_drop] at h5
      rw [hW.cell, Nat.add_assoc]
      exact h5
    · cases h5
theorem RowO.below (h : RowO W va c rs) (hb : Below W.heap.size W W') : RowO W' va c rs := by
  rcases h with h | ⟨g, o, cur, e, hW, h1⟩
  · exact .inl h
  · exact .inr ⟨g, o, cur, e, hW.below hb hW.lt, h1⟩
theorem RowO.of_kept {own : Nat → Prop} (h : RowO W va c rs) (hk : Kept own W W') (ho : ∀ q, ownB va q → ¬ own q) : RowO W' va c rs := by
  rcases h with h | ⟨g, o, cur, e, hW, h1⟩
  · exact .inl h
  · exact .inr ⟨g, o, cur, e, hW.of_kept hk (ho g ⟨o, e⟩), h1⟩
theorem RowO.lt (h : RowO W va c rs) {q : Nat} (hq : ownB va q) : q < W.heap.size := by
  obtain ⟨o', e'⟩ := hq
  rcases h with ⟨rfl, _⟩ | ⟨g, o, cur, rfl, hW, _⟩
  · cases e'
  · cases e'; exact hW.lt
theorem RowO.cap (h : RowO W va c rs) : rs.length ≤ c ∧ c ≤ maxLen := by
  rcases h with ⟨_, rfl, rfl⟩ | ⟨g, o, cur, e, hW, h1, h2, h3, _⟩
  · exact ⟨Nat.le_refl _, Nat.zero_le _⟩
  · exact ⟨h2, h3⟩
theorem RowO.of_own {B n : Nat} (h : W.ownsRow B 40 8 (.slice va n c) n (rcRows rs)) (hn : rs.length = n) : RowO W va c rs ∧ ∀ q, ownB va q → B ≤ q := by
  rcases h.2 with ⟨hv, h0⟩ | ⟨g, cap, cur, hv, hB, hg, h1, h2, h3, h4⟩
  · injection hv with e1 e2 e3
    subst e1 e3
    refine ⟨.inl ⟨rfl, rfl, List.eq_nil_of_length_eq_zero (by omega)⟩, fun q hq => ?_⟩
    obtain ⟨o, e⟩ := hq
    cases e
  · injection hv with e1 e2 e3
    subst e1 e3
    refine ⟨.inr ⟨g, 0, cur.toList, rfl, by simpa [Whole] using hg, by rw [Array.length_toList, h3]; omega, by omega, h2, by rw [List.drop_zero, hn]; exact h4⟩, fun q hq => ?_⟩
    obtain ⟨o, e⟩ := hq
    cases e
    exact hB
end
theorem infoRp : (Try.prog.info? 40).map (fun i => (i.zero, i.size, i.bytes)) = some (some (.agg #[.int .i64 0, .int .i64 0, .string ⟨#[]⟩, .string ⟨#[]⟩, .bool false, .int .i64 0, .int .i64 0, .int .i64 0]), 8, 80) := by kernel_rfl
theorem rcRows_one (rs : List Rc) : ∀ u ∈ rcRows rs, u.oneCell' = true := fun u hu => by
  obtain ⟨r, _, hr⟩ := List.mem_flatMap.1 hu
  simp only [rcL, List.mem_cons, List.not_mem_nil, or_false] at hr
  rcases hr with rfl | rfl | rfl | rfl | rfl | rfl | rfl | rfl <;> rfl
theorem rcAt_cells {W : World} {b o : Nat} {rs : List Rc} (h : RcAt W (some ⟨b, o, none⟩) rs) : ∀ j u, (rcRows rs)[j]? = some u → W.cell? ((⟨b, o, none⟩ : Addr).add j) = some u := fun j u hu => by
  have hjl := (List.getElem?_eq_some_iff.1 hu).1
  rw [rcRows_len] at hjl
  have hi : j / 8 < rs.length := by omega
  obtain ⟨r, hr⟩ : ∃ r, rs[j / 8]? = some r := ⟨_, List.getElem?_eq_getElem hi⟩
  obtain ⟨b', o', e, _, h3⟩ := h _ r hr
  cases e
  have hm : j % 8 < (rcL r).length := by simp; omega
  have h5 := rcRows_at rs (j / 8) r hr (j % 8) _ (List.getElem?_eq_getElem hm)
  rw [show j / 8 * 8 + j % 8 = j from by omega, hu] at h5
  have h6 := h3 (j % 8) u (by rw [List.getElem?_eq_getElem hm]; exact h5.symm)
  rw [Addr.add_mid, show o + j = o + j / 8 * 8 + j % 8 from by omega]
  exact h6
theorem pnotMay_any (r : Rc) (w : World) :
    Calls Try.prog 49 #[.agg #[.int .i64 r.off, .int .i64 r.tick, .string r.key, .string r.val, .bool r.gone, .int .i64 r.prod, .int .i64 r.seq, .int .i64 r.frm]] w fun e w' => e = .returned (.bool (!r.may)) ∧ Below w.heap.size w w' := by
  have hm := fun W => may_any r.off r.tick r.key r.val r.gone r.prod r.seq r.frm W
  obtain ⟨m, hme⟩ : ∃ m, Hid (r.may = m) := ⟨_, Lib.hid rfl⟩
  rw [show (Rc.mk r.off r.tick r.key r.val r.gone r.prod r.seq r.frm).may = m from hme.out] at hm
  rw [hme.out]
  replace hm := Lib.hid hm
  have hB0 := (Below.refl w.heap.size w).alloc (Nat.le_refl _) (.cells #[.int .i64 r.off, .int .i64 r.tick, .string r.key, .string r.val, .bool r.gone, .int .i64 r.prod, .int .i64 r.seq, .int .i64 r.frm] 40)
  go_enter Try.func49, Try.ntmps49
  go_wp2_with fail
  refine (hm.out _).mono ?_
  rintro e w1 ⟨rfl, hb⟩
  have hB1 := Lib.hid (grew hB0 hb)
  clear hB0 hb
  go_wp2_with fail
  go_ret
  exact ⟨rfl, hB1.out⟩

theorem pclo (args : Array Value) (W : World) : (callFunc 49 args).run Try.prog W = .ok (.enter 49 args) W := by kernel_rfl

set_option maxRecDepth 100000 in
set_option maxHeartbeats 4000000 in
theorem pindexF_any (va : Option Addr) (c : Nat) (rs : List Rc) (w : World) (h : RcAt w va rs) (hn : rs.length ≤ 1000) (k : Nat) (hk : k ≤ rs.length) (hlow : ∀ j s, j < k → rs[j]? = some s → s.ok) (hend : ∀ s, rs[k]? = some s → ¬ s.ok) :
    Calls Try.prog 58 #[.slice va rs.length c, .func (.func 49) #[] #[]] w fun e w' => e = .returned (.int .i64 (if k < rs.length then (k : Int) else -1)) ∧ Below w.heap.size w w' := by
  obtain ⟨N, hN⟩ : ∃ N, Hid (rs.length = N) := ⟨_, Lib.hid rfl⟩
  rw [hN.out] at hn hk ⊢
  have hm := Lib.hid (fun (r : Rc) W => pnotMay_any r W)
  obtain ⟨R, hR⟩ : ∃ R : Int, Hid ((if k < N then (k : Int) else -1) = R) := ⟨_, Lib.hid rfl⟩
  rw [hR.out]
  replace h := Lib.hid h
  replace hlow := Lib.hid hlow
  replace hend := Lib.hid hend
  have eg := pclo
  go_enter Try.func58, Try.ntmps58
  go_wp2_with fail
  go_loopg [8] N (fun ga i wr => ∃ a : Nat, a ≤ k ∧ N ≤ a + ga ∧ i = .int .i64 a ∧ Hid (Below w.heap.size w wr))
  case atStart => exact ⟨0, by omega, by omega, rfl, Lib.hid (Below.refl _ _)⟩
  case round =>
    obtain ⟨a, ha, hg, rfl, hb⟩ := hrel
    generalize wr = wo at *
    by_cases hlt : a < N
    · obtain ⟨r, hr⟩ : ∃ r, rs[a]? = some r := ⟨_, List.getElem?_eq_getElem (by have := hN.out; omega)⟩
      obtain ⟨b, o, rfl, c0, c1, c2, c3, c4, c5, c6, c7⟩ := (h.out.below hb.out).get hr
      have hlow1 := Lib.hid (fun (e : a < k) => hlow.out a r e hr)
      have hend1 := Lib.hid (fun (e : a = k) => hend.out r (by rw [← e]; exact hr))
      replace hr := Lib.hid hr
      go_wp2_with fail
      refine (hm.out r _).mono ?_
      rintro e w1 ⟨rfl, hb1⟩
      have hB1 := Lib.hid (grew hb.out hb1)
      by_cases hka : a = k
      · have hbad := hend1.out hka
        rw [show r.may = false from decide_eq_false hbad]
        have hRa : (a : Int) = R := by rw [← hR.out, if_pos (by omega), hka]
        subst hRa
        subst hka
        clear hbad hlow1 hend1 c0 c1 c2 c3 c4 c5 c6 c7 hb1 hb
        go_wp2_with fail
        go_ret
        exact ⟨rfl, hB1.out⟩
      · have hgood := hlow1.out (by omega)
        rw [show r.may = true from decide_eq_true hgood]
        clear hgood hlow1 hend1 c0 c1 c2 c3 c4 c5 c6 c7 hb1 hb
        go_wp2_with fail
        go_roundg (gk - 1)
        case measure => omega
        case rel => exact ⟨a + 1, by omega, by omega, by go_num, hB1⟩
    · have hRk : R = -1 := by rw [← hR.out, if_neg (by omega)]
      subst hRk
      go_wp2_with fail
      go_ret
      exact ⟨rfl, hb.out⟩

set_option maxRecDepth 100000 in
theorem pcontains_any (va : Option Addr) (c : Nat) (rs : List Rc) (w : World) (h : RcAt w va rs) (hn : rs.length ≤ 1000) (B : Bool) (hB : B = true ↔ ¬ ∀ r ∈ rs, r.ok) :
    Calls Try.prog 51 #[.slice va rs.length c, .func (.func 49) #[] #[]] w fun e w' => e = .returned (.bool B) ∧ Below w.heap.size w w' := by
  obtain ⟨K, hi, hK⟩ : ∃ K : Int, (∀ W, RcAt W va rs → Calls Try.prog 58 #[.slice va rs.length c, .func (.func 49) #[] #[]] W fun e w' => e = .returned (.int .i64 K) ∧ Below W.heap.size W w') ∧ (B = decide (0 ≤ K)) := by
    by_cases hall : ∀ r ∈ rs, r.ok
    · refine ⟨-1, fun W hW => ?_, ?_⟩
      · have := pindexF_any va c rs W hW hn rs.length (Nat.le_refl _) (fun j s _ hj => hall s (List.mem_of_getElem? hj)) (fun s hs => by have := (List.getElem?_eq_some_iff.1 hs).1; omega)
        rw [if_neg (by omega)] at this
        exact this
      · have : B = false := by
          cases B with
          | false => rfl
          | true => exact absurd hall (hB.1 rfl)
        rw [this]; rfl
    · obtain ⟨k, r, h1, h2, h3⟩ := first_bad rs hall
      have hk : k < rs.length := (List.getElem?_eq_some_iff.1 h1).1
      refine ⟨(k : Int), fun W hW => ?_, ?_⟩
      · have := pindexF_any va c rs W hW hn k (by omega) h3 (fun s hs => by rw [h1] at hs; cases hs; exact h2)
        rw [if_pos hk] at this
        exact this
      · rw [hB.2 hall]; simp
  replace hi := Lib.hid (hi w h)
  obtain ⟨N, hN⟩ : ∃ N, Hid (rs.length = N) := ⟨_, Lib.hid rfl⟩
  rw [hN.out] at hi ⊢
  clear hB
  subst hK
  go_enter Try.func51, Try.ntmps51
  go_wp2_with fail
  refine hi.out.mono ?_
  rintro e w1 ⟨rfl, hb⟩
  replace hb := Lib.hid hb
  go_wp2_with fail
  go_ret
  exact ⟨rfl, hb.out⟩


/-- Do records stand from an offset on, rising, below another one? -/
def stairB (below : Int) : Int → List Rc → Bool
  | _, [] => true
  | f, r :: t => decide (f ≤ r.off ∧ r.off < below) && stairB below (r.off + 1) t
theorem stairB_at {below f : Int} {rs : List Rc} {m : Nat} {r : Rc} (h : rs[m]? = some r) : stairB below f (rs.drop m) = (decide (f ≤ r.off ∧ r.off < below) && stairB below (r.off + 1) (rs.drop (m + 1))) := by
  obtain ⟨hm, rfl⟩ := List.getElem?_eq_some_iff.1 h
  rw [List.drop_eq_getElem_cons hm]
  rfl
/-- Why records can't stand there (19.1, 19.2). -/
def checkP (from_ below : Int) (rs : List Rc) : Int := if rs.all Rc.may then (if stairB below from_ rs then 0 else 34) else 1
theorem all_may {rs : List Rc} : rs.all Rc.may = true ↔ ∀ r ∈ rs, r.ok := by
  rw [List.all_eq_true]
  exact ⟨fun h r hr => of_decide_eq_true (h r hr), fun h r hr => decide_eq_true (h r hr)⟩

set_option maxRecDepth 100000 in
set_option maxHeartbeats 4000000 in
theorem pcheck_any (va : Option Addr) (c : Nat) (rs : List Rc) (from_ below : Int) (w : World) (h : RcAt w va rs) (hn : rs.length ≤ 1000) :
    Calls Try.prog 38 #[.slice va rs.length c, .int .i64 from_, .int .i64 below] w fun e w' => e = .returned (.int .i64 (checkP from_ below rs)) ∧ Below w.heap.size w w' := by
  have hct := pcontains_any va c rs w h hn (!rs.all Rc.may) (by rw [← all_may]; simp)
  unfold checkP
  obtain ⟨N, hN⟩ : ∃ N, Hid (rs.length = N) := ⟨_, Lib.hid rfl⟩
  rw [hN.out] at hn hct ⊢
  cases hall : rs.all Rc.may with
  | false =>
    rw [hall] at hct
    replace hct := Lib.hid hct
    clear h hall
    rw [if_neg (by decide)]
    go_enter Try.func38, Try.ntmps38
    go_wp2_with fail
    refine hct.out.mono ?_
    rintro e w1 ⟨rfl, hb1⟩
    replace hb1 := Lib.hid hb1
    go_wp2_with fail
    go_ret
    exact ⟨rfl, hb1.out⟩
  | true =>
    rw [hall] at hct
    have hok := Lib.hid (all_may.1 hall)
    rw [if_pos rfl]
    obtain ⟨R, hR⟩ : ∃ R : Int, Hid ((if stairB below from_ rs = true then (0 : Int) else 34) = R) := ⟨_, Lib.hid rfl⟩
    have hR0 : Hid (stairB below from_ rs = true → R = 0) := Lib.hid (fun e => by rw [← hR.out, if_pos e])
    have hR1 : Hid (stairB below from_ rs = false → R = 34) := Lib.hid (fun e => by rw [← hR.out, if_neg (by simp [e])])
    rw [hR.out]
    have hst : Hid (∀ m r f, rs[m]? = some r → stairB below f (rs.drop m) = (decide (f ≤ r.off ∧ r.off < below) && stairB below (r.off + 1) (rs.drop (m + 1)))) := Lib.hid (fun m r f hr => stairB_at hr)
    have hdr : Hid (rs.drop N = []) := Lib.hid (by rw [← hN.out]; simp)
    replace hct := Lib.hid hct
    replace h := Lib.hid h
    clear hall
    go_enter Try.func38, Try.ntmps38
    go_wp2_with fail
    refine hct.out.mono ?_
    rintro e w1 ⟨rfl, hb1⟩
    replace hb1 := Lib.hid hb1
    clear hct
    go_wp2_with fail
    go_loopg [1, 15] N (fun ga f i wr => ∃ (a : Nat) (x : Int), a ≤ N ∧ N ≤ a + ga ∧ i = .int .i64 (a : Int) ∧ f = .int .i64 x ∧ Hid (stairB below from_ rs = stairB below x (rs.drop a) ∧ Below w.heap.size w wr))
    case atStart => exact ⟨0, from_, by omega, by omega, rfl, rfl, Lib.hid ⟨rfl, hb1.out⟩⟩
    case round =>
      obtain ⟨a, x, ha, hg, rfl, rfl, hrel⟩ := hrel
      generalize wr = wo at *
      by_cases hlt : a < N
      · obtain ⟨r, hr⟩ : ∃ r, rs[a]? = some r := ⟨_, List.getElem?_eq_getElem (by have := hN.out; omega)⟩
        obtain ⟨b, o, rfl, c0, c1, c2, c3, c4, c5, c6, c7⟩ := (h.out.below hrel.out.2).get hr
        have hB1 := Lib.hid (grewAlloc hrel.out.2 (.cells #[.int .i64 r.off, .int .i64 r.tick, .string r.key, .string r.val, .bool r.gone, .int .i64 r.prod, .int .i64 r.seq, .int .i64 r.frm] 40))
        have hro := (hok.out r (List.mem_of_getElem? hr)).1
        have hw1 : IntKind.i64.wrap (r.off + 1) = r.off + 1 := by rw [IntWalk.i64_in _ (by omega)]
        have hs1 := hst.out a r x hr
        have hki : (a : Int) < (N : Int) := by omega
        by_cases hf : x ≤ r.off ∧ r.off < below
        · rw [decide_eq_true hf, Bool.true_and] at hs1
          have hfin : Hid (stairB below from_ rs = stairB below (r.off + 1) (rs.drop (a + 1)) ∧ Below w.heap.size w (wo.alloc (.cells #[.int .i64 r.off, .int .i64 r.tick, .string r.key, .string r.val, .bool r.gone, .int .i64 r.prod, .int .i64 r.seq, .int .i64 r.frm] 40))) := Lib.hid ⟨by rw [hrel.out.1, hs1], hB1.out⟩
          obtain ⟨f1, f2⟩ := hf
          replace hr := Lib.hid hr
          clear hs1 hrel hB1
          go_wp2_with fail
          go_roundg (gk - 1)
          case measure => omega
          case rel => exact ⟨a + 1, r.off + 1, by omega, by omega, by go_num, rfl, hfin⟩
        · rw [decide_eq_false hf, Bool.false_and] at hs1
          obtain rfl := hR1.out (by rw [hrel.out.1, hs1])
          replace hr := Lib.hid hr
          clear hs1 hrel hR0 hR1 hR
          rcases (show r.off < x ∨ (x ≤ r.off ∧ below ≤ r.off) by omega) with f1 | ⟨f1, f2⟩
          all_goals
            clear hf
            go_wp2_with fail
            go_ret
            exact ⟨rfl, hB1.out⟩
      · obtain rfl : a = N := by omega
        obtain rfl := hR0.out (by rw [hrel.out.1, hdr.out]; rfl)
        have hb := Lib.hid hrel.out.2
        clear hR0 hR1 hR hrel
        go_wp2_with fail
        go_ret
        exact ⟨rfl, hb.out⟩
end Go.Proofs.Ytahljbjgenepaaa.W
