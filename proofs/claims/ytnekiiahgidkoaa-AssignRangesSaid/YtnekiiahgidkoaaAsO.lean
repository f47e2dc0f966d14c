/- Layer 28: Owner. -/
import Derived.Test.YtnekiiahgidkoaaAsG
namespace Go.Proofs.Ytnekiiahgidkoaa.W
open Go.RowKit Go.Sort
open Go.Maps (Keyed)
open Go.Proofs.Ytnekiiahgidkoaa.M Go.Proofs.Ytnekiiahgidkoaa.D Go.Proofs.Ytnekiiahgidkoaa.Z
set_option linter.unusedVariables false
set_option linter.unusedSimpArgs false

/-- Is a number one of these? -/
def hasN (xs : List Nat) (q : Int) : Bool := decide (∃ y ∈ xs, ((y : Nat) : Int) = q)
theorem contains28_any (A : Option Addr) (c : Nat) (xs : List Nat) (q : Int) (w : World) (hl : xs.length ≤ 100000) (h : InAt w A xs) :
    Calls Try.prog 26 #[.slice A xs.length c, .int .i64 q] w fun e w' => e = .returned (.bool (hasN xs q)) ∧ w' = w := by
  cases xs with
  | nil =>
    refine (Try.slices_Contains_int_empty A c q w).mono ?_
    rintro _ w1 ⟨rfl, rfl⟩
    exact ⟨by simp [hasN], rfl⟩
  | cons x t =>
    obtain ⟨g, rfl, _, _⟩ := h 0 x rfl
    refine (Try.slices_Contains_int g 0 (x :: t).length c ((x :: t).map fun y : Nat => (y : Int)) q w (by simp) (by omega) (fun j hj => ?_)).mono ?_
    · have hj2 : j < (x :: t).length := by simpa using hj
      obtain ⟨g2, e, _, hc⟩ := h j _ (List.getElem?_eq_getElem hj2)
      injection e with e; injection e with e1
      subst e1
      rw [Nat.zero_add, hc, List.getD, List.getElem?_map, List.getElem?_eq_getElem hj2]; rfl
    · rintro _ w1 ⟨rfl, rfl⟩
      refine ⟨?_, rfl⟩
      have e : (((x :: t).map fun y : Nat => (y : Int)).take (x :: t).length).contains q = hasN (x :: t) q := by
        rw [List.take_of_length_le (by simp), Bool.eq_iff_iff, List.contains_iff_mem, List.mem_map]
        simp [hasN]
      rw [e]
/-- What Owner comes to. -/
def OwQ (N : List Nm) (p : Nat) (q : Int) (e : Ending) : Prop :=
  (∃ i s, i < N.length ∧ (srt N)[i]? = some s ∧ hasN (iv p N.length i) q = true ∧ e = .returned (.tuple #[.string (B s), .int .i64 0])) ∨
  ((∀ i, i < N.length → hasN (iv p N.length i) q = false) ∧ e = .returned (.tuple #[.string ⟨#[]⟩, .int .i64 6]))
theorem sameKey28 (a b : List UInt8) : (Lit.string a).sameKey (.string b) = decide (a = b) := by
  show (a == b) = _
  rw [Bool.eq_iff_iff]
  simp
set_option maxRecDepth 100000 in
set_option maxHeartbeats 4000000 in
theorem owner28_no (A : Option Addr) (c : Nat) (N : List Nm) (p q : Int) (w : World) (hN : N.length ≤ 100000) (hrow : SrAt w A N) (hw : whyR N p ≠ 0) :
    Calls Try.prog 15 #[.slice A N.length c, .int .i64 p, .int .i64 q] w fun e w' => e = .returned (.tuple #[.string ⟨#[]⟩, .int .i64 (whyR N p)]) ∧ Below w.heap.size w w' := by
  have hs := range28_no A c N p w hN hrow hw
  obtain ⟨len, hlen⟩ : ∃ len, Hid (N.length = len) := ⟨_, Lib.hid rfl⟩
  obtain ⟨E, hE⟩ : ∃ E, Hid (whyR N p = E) := ⟨_, Lib.hid rfl⟩
  rw [hlen.out, hE.out] at hs
  rw [hlen.out, hE.out]
  rw [hE.out] at hw
  replace hs := Lib.hid hs
  clear hrow hE
  go_enter Try.func15, Try.ntmps15
  go_wp2_with fail
  refine hs.out.mono ?_
  rintro _ w1 ⟨rfl, hb⟩
  replace hb := Lib.hid hb
  clear hs
  go_wp2_with fail
  go_ret2
  exact ⟨rfl, hb.out⟩
set_option maxRecDepth 100000 in
set_option maxHeartbeats 8000000 in
theorem owner28_ok (A : Option Addr) (c : Nat) (N : List Nm) (p : Nat) (q : Int) (w : World) (hN : N.length ≤ 1000) (hrow : SrAt w A N) (hw : why28 N = 0) (hp : p ≤ 4) :
    Calls Try.prog 15 #[.slice A N.length c, .int .i64 p, .int .i64 q] w fun e w' => OwQ N p q e ∧ Below w.heap.size w w' := by
  have hs := range28_ok A c N p w hN hrow hw hp
  have hyes : Hid (∀ i s, i < N.length → (srt N)[i]? = some s → hasN (iv p N.length i) q = true → OwQ N p q (.returned (.tuple #[.string (B s), .int .i64 0]))) := Lib.hid (fun i s h1 h2 h3 => .inl ⟨i, s, h1, h2, h3, rfl⟩)
  have hnot : Hid ((∀ i, i < N.length → hasN (iv p N.length i) q = false) → OwQ N p q (.returned (.tuple #[.string ⟨#[]⟩, .int .i64 6]))) := Lib.hid (fun h => .inr ⟨h, rfl⟩)
  obtain ⟨S, hS⟩ : ∃ S, Hid (srt N = S) := ⟨_, Lib.hid rfl⟩
  obtain ⟨Q, hQ⟩ : ∃ Q, Hid (OwQ N p q = Q) := ⟨_, Lib.hid rfl⟩
  have hSl := srt_len N
  have hSnd := Lib.hid (srt_nodup (why_zero hw).2)
  rw [hS.out] at hs hyes hSl hSnd
  rw [hQ.out] at hyes hnot ⊢
  obtain ⟨len, hlen⟩ : ∃ len, Hid (N.length = len) := ⟨_, Lib.hid rfl⟩
  rw [hlen.out] at hs hyes hnot hSl hN ⊢
  replace hs := Lib.hid hs
  replace hSl := Lib.hid hSl
  clear hrow hw hQ hS hlen
  go_enter Try.func15, Try.ntmps15
  go_wp2_with fail
  refine hs.out.mono ?_
  rintro _ w1 ⟨mb, D, rfl, hR, hb1⟩
  have hM := hR.own
  have hsz := hR.size
  have hst : Hid (∀ i s, i < len → S[i]? = some s → Maps.has D (.string s) = false → hasN (iv p len i) q = false) := Lib.hid (fun i s h1 h2 h3 => by rw [(hR.has s).2 ⟨i, h1, h2⟩] at h3; cases h3)
  replace hR := Lib.hid hR
  replace hb1 := Lib.hid hb1
  clear hs
  go_wp2_with (at_range; refine zHere ?_)
  refine Lib.hid ?_
  refine wpList_range_own _ rfl _ 25 rfl 9 29 keyed28 Try.underlying25 slR mb len D rfl hM ?_
  intro w0 hrg0 hg0 hs0
  have hb0 : Below w1.heap.size w1 w0 := (Below.refl _ _).grown hg0 (Nat.le_refl _) (fun k e => by cases e)
  obtain ⟨rb, hrb⟩ : ∃ rb, Hid (w1.heap.size = rb) := ⟨_, Lib.hid rfl⟩
  have hrw : w1.heap.size ≤ rb := by rw [hrb.out]; exact Nat.le_refl _
  rw [hrb.out, hsz] at hrg0
  replace hrg0 := Lib.hid hrg0
  replace hb0 := Lib.hid hb0
  rw [show w1.heap.size = rb from hrb.out]
  clear hM hg0 hs0 hsz
  go_wp2_with fail
  go_frame
  go_loopg [] len (fun ga wr => ∃ (left : Lit → Bool) (cnt : Nat), cnt ≤ ga ∧ Hid (wr.ranges Try.prog 9 slR mb rb len D left cnt ∧ (∀ i s, i < len → S[i]? = some s → left (.string s) = false → hasN (iv p len i) q = false) ∧ Below w1.heap.size w1 wr))
  case atStart => exact ⟨_, len, Nat.le_refl _, Lib.hid ⟨hrg0.out, hst.out, hb0.out⟩⟩
  case round =>
    clear hrg0 hst hb0
    obtain ⟨left, cnt, hga, hrel⟩ := hrel
    generalize wr = wo at *
    obtain ⟨hrg, hno, hB⟩ := hrel.out
    clear hrel
    go_wp2_with (at_next; refine zHere ?_)
    refine Lib.hid ?_
    refine wpList_next_ranges _ rfl _ rfl 9 keyed28 slR Value.string (fun (x : Option Addr × Nat × Nat) => Value.slice x.1 x.2.1 x.2.2) (fun key kl hk => by obtain ⟨x, e, _⟩ := Go.WideMaps.string_of_keyOf Try.underlying9 hk; exact ⟨x, e⟩) (fun v y hv => by obtain ⟨a, b, d, e, _⟩ := slR_inv hv; exact ⟨(a, b, d), e⟩) mb rb len D left cnt rfl hrg ?_ ?_
    · intro hc0 hl0
      have hfin : Hid (Q (.returned (.tuple #[.string ⟨#[]⟩, .int .i64 6])) ∧ Below w.heap.size w wo) := Lib.hid ⟨hnot.out (fun i hi => by
        obtain ⟨s, hs⟩ : ∃ s, S[i]? = some s := ⟨_, List.getElem?_eq_getElem (by have := hSl.out; omega)⟩
        exact hno i s hi hs (hl0 _)), grew hb1.out hB⟩
      clear hrg hno hB hc0 hl0 hnot hyes
      go_frame
      go_wp2_with fail
      go_ret2
      exact hfin.out
    · intro x cI kl y w2 cnt1 hkey hlx hy hat hrg1 hlt1 hg1 hs1 hen
      obtain ⟨x', ex, rfl, hwx⟩ := Go.WideMaps.string_of_keyOf Try.underlying9 hkey
      cases ex
      obtain ⟨i, hi, hsi⟩ := (hR.out.has x.data.toList).1 (Maps.has_true_of_atKey hat)
      obtain ⟨A1, n1, c1⟩ := cI
      dsimp only at hy hen ⊢
      obtain ⟨A2, c2, e2, hIn, _⟩ := hR.out.tell hi hsi (v := .slice A1 n1 c1) (ps := y.2) (z := .nil) (by rw [hat .nil]; exact hy)
      injection e2 with q1 q2 q3
      subst q1 q2 q3
      have hB1 : Below w1.heap.size w1 w2 := hB.grown hg1 hB.size (fun k e => by cases e; exact hrw)
      have hcn := contains28_any A1 c1 (iv p len i) q w2 (by rw [iv_len]; have := shr_le (p := p) hi; omega) (hIn.below (Nat.le_refl _) hB1)
      have hcg : cnt1 ≤ gk - 1 := by omega
      cases hh : hasN (iv p len i) q
      · have hfin : Hid (w2.ranges Try.prog 9 slR mb rb len D (fun z => left z && !z.sameKey (.string x.data.toList)) cnt1 ∧ (∀ i s, i < len → S[i]? = some s → (left (.string s) && !(Lit.string s).sameKey (.string x.data.toList)) = false → hasN (iv p len i) q = false) ∧ Below w1.heap.size w1 w2) := Lib.hid ⟨hrg1, fun k s hk hs hl => by
          rw [Bool.and_eq_false_iff, sameKey28] at hl
          rcases hl with hl | hl
          · exact hno k s hk hs hl
          · have hsx : s = x.data.toList := by simpa using hl
            rw [hsx] at hs
            have : k = i := by
              obtain ⟨a1, a2⟩ := List.getElem?_eq_some_iff.1 hs
              obtain ⟨b1, b2⟩ := List.getElem?_eq_some_iff.1 hsi
              rcases Nat.lt_trichotomy k i with h | h | h
              · exact absurd (a2.trans b2.symm) (List.pairwise_iff_getElem.1 hSnd.out k i a1 b1 h)
              · exact h
              · exact absurd (b2.trans a2.symm) (List.pairwise_iff_getElem.1 hSnd.out i k b1 a1 h)
            rw [this]; exact hh, hB1⟩
        rw [hh] at hcn
        obtain ⟨m1, hm1⟩ : ∃ m1, Hid ((iv p len i).length = m1) := ⟨_, Lib.hid rfl⟩
        rw [hm1.out] at hcn hen ⊢
        replace hcn := Lib.hid hcn
        clear hrg hno hB hg1 hs1 hrg1 hB1 hlx hh hIn hy hat hkey hsi hm1
        go_frame
        go_wp2_with fail
        refine hcn.out.mono ?_
        rintro _ w3 ⟨rfl, e⟩
        obtain rfl : w2 = w3 := e.symm
        clear hcn
        go_wp2_with fail
        go_roundg (gk - 1)
        case measure => omega
        case rel => exact ⟨_, cnt1, hcg, hfin⟩
      · have hfin : Hid (Q (.returned (.tuple #[.string x, .int .i64 0])) ∧ Below w.heap.size w w2) := Lib.hid ⟨hyes.out i _ hi hsi hh, grew hb1.out hB1⟩
        rw [hh] at hcn
        obtain ⟨m1, hm1⟩ : ∃ m1, Hid ((iv p len i).length = m1) := ⟨_, Lib.hid rfl⟩
        rw [hm1.out] at hcn hen ⊢
        replace hcn := Lib.hid hcn
        clear hrg hno hB hg1 hs1 hrg1 hB1 hlx hh hIn hy hat hkey hsi hm1 hnot hyes
        go_frame
        go_wp2_with fail
        refine hcn.out.mono ?_
        rintro _ w3 ⟨rfl, e⟩
        obtain rfl : w2 = w3 := e.symm
        clear hcn
        go_wp2_with fail
        go_ret2
        exact hfin.out
end Go.Proofs.Ytnekiiahgidkoaa.W
