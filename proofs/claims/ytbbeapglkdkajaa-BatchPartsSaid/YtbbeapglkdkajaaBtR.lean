/- The definition's Right; the law's large, its small case. -/
import Derived.Test.YtbbeapglkdkajaaBtC
namespace Go.Proofs.Ytbbeapglkdkajaa.W
open Go.RowKit Go.Sort
open Go.Proofs.Ytbbeapglkdkajaa.M Go.Proofs.Ytbbeapglkdkajaa.D Go.Proofs.Ytbbeapglkdkajaa.Z
set_option linter.unusedVariables false
set_option linter.unusedSimpArgs false

/-- Why a pair may not be, as the definition tells. -/
def badP (p : Pr) : Prop := 32 < p.key.size ∨ 200 < p.val.size ∨ (p.gone = true ∧ (p.key.size = 0 ∨ 0 < p.val.size))
theorem bad_iff (p : Pr) : badP p ↔ ¬ p.ok := by
  unfold badP Pr.ok
  constructor
  · rintro (h | h | ⟨h1, h2⟩) ⟨k1, k2, k3⟩
    · omega
    · omega
    · have := k3 h1
      omega
  · intro h
    by_cases h1 : 32 < p.key.size
    · exact .inl h1
    by_cases h2 : 200 < p.val.size
    · exact .inr (.inl h2)
    refine .inr (.inr ?_)
    cases hg : p.gone with
    | false => exact absurd ⟨by omega, by omega, fun e => by rw [hg] at e; cases e⟩ h
    | true => exact ⟨rfl, Classical.byContradiction fun e => h ⟨by omega, by omega, fun _ => ⟨by omega, by omega⟩⟩⟩
theorem ok_wt {p : Pr} (h : p.ok) : p.key.size + p.val.size ≤ 232 := by have := h.1; have := h.2.1; omega
theorem wt_le (ps : List Pr) (h : ∀ p ∈ ps, p.ok) : wtL ps ≤ 232 * ps.length := by
  induction ps with
  | nil => simp [wtL]
  | cons x l ih =>
    have h1 := ok_wt (h x (by simp))
    have h2 := ih (fun p hp => h p (by simp [hp]))
    unfold wtL at h2 ⊢
    simp only [List.map_cons, List.sum_cons, List.length_cons]
    omega
set_option maxRecDepth 100000 in
set_option maxHeartbeats 4000000 in
theorem rright_at (va : Option Addr) (c : Nat) (ps : List Pr) (w : World) (h : PrAt w va ps) (hn : ps.length ≤ 1000) (k : Nat) (hk : k ≤ ps.length) (hlow : ∀ j s, j < k → ps[j]? = some s → s.ok) (hend : ∀ s, ps[k]? = some s → badP s)
    (x : Int) (hx : x = if k < ps.length ∨ ps.length = 0 then 1 else if 8 < ps.length ∨ 500 < wtL ps then 2 else 0) :
    Calls Try.prog 12 #[.slice va ps.length c] w fun e w' => e = .returned (.int .i64 x) ∧ Below w.heap.size w w' := by
  have hle : Hid (∀ k p, ps[k]? = some p → wtL (ps.take (k + 1)) = wtL (ps.take k) + (p.key.size + p.val.size)) := Lib.hid (fun k p => wt_take)
  obtain ⟨N, hN⟩ : ∃ N, Hid (ps.length = N) := ⟨_, Lib.hid rfl⟩
  rw [hN.out] at hn hk hx ⊢
  replace h := Lib.hid h
  replace hlow := Lib.hid hlow
  replace hend := Lib.hid hend
  replace hx := Lib.hid hx
  go_enter Try.func12, Try.ntmps12
  go_wp2_with fail
  go_loopg [3, 8] N (fun ga nv i wr => ∃ a s : Nat, a ≤ k ∧ N ≤ a + ga ∧ i = .int .i64 a ∧ nv = .int .i64 s ∧ Hid (wtL (ps.take a) = s ∧ s ≤ 232 * a ∧ Below w.heap.size w wr))
  case atStart => exact ⟨0, 0, by omega, by omega, rfl, rfl, Lib.hid ⟨by simp [wtL], by omega, Below.refl _ _⟩⟩
  case round =>
    obtain ⟨a, s, ha, hg, rfl, rfl, hrel⟩ := hrel
    obtain ⟨hs, hs3, hb⟩ := hrel.out
    clear hrel
    generalize wr = wo at *
    by_cases hlt : a < N
    · obtain ⟨p, hp⟩ : ∃ p, ps[a]? = some p := ⟨_, List.getElem?_eq_getElem (by have := hN.out; omega)⟩
      obtain ⟨b, o, rfl, c0, c1, c2⟩ := (h.out.below hb).get hp
      have hB1 := Lib.hid (grewAlloc hb (.cells #[.string p.key, .string p.val, .bool p.gone] 26))
      have hfin0 : a < k → p.ok := fun e => hlow.out a p e hp
      have hbad0 : a = k → badP p := fun e => hend.out p (by rw [← e]; exact hp)
      have hwt := hle.out a p hp
      rw [hs] at hwt
      replace hp := Lib.hid hp
      clear hs hb
      by_cases hka : a = k
      · have hbad := hbad0 hka
        have hx1 : x = 1 := by rw [hx.out, if_pos (.inl (by omega))]
        subst hx1
        subst hka
        clear hfin0 hbad0 hx hwt
        unfold badP at hbad
        by_cases h1 : 32 < p.key.size
        · have h1i : (32 : Int) < (p.key.size : Int) := by omega
          clear hbad
          go_wp2_with fail
          go_ret
          exact ⟨rfl, hB1.out⟩
        have h1i : (p.key.size : Int) ≤ 32 := by omega
        by_cases h2 : 200 < p.val.size
        · have h2i : (200 : Int) < (p.val.size : Int) := by omega
          clear hbad
          go_wp2_with fail
          go_ret
          exact ⟨rfl, hB1.out⟩
        have h2i : (p.val.size : Int) ≤ 200 := by omega
        obtain ⟨hgo, hkv⟩ := (hbad.resolve_left h1).resolve_left h2
        rw [hgo] at c2 hB1
        by_cases h3 : p.key.size = 0
        · have h3i : (p.key.size : Int) = 0 := by omega
          have h3b : ((p.key.size : Int) == 0) = true := by simp [h3]
          clear hbad hkv
          go_wp2_with fail
          go_ret
          exact ⟨rfl, hB1.out⟩
        · have h4 : 0 < p.val.size := hkv.resolve_left h3
          have h4i : (0 : Int) < (p.val.size : Int) := by omega
          have h3b : ((p.key.size : Int) == 0) = false := by rw [beq_eq_false_iff_ne]; omega
          have h3i : ¬ (p.key.size : Int) = 0 := by omega
          clear hbad hkv
          go_wp2_with fail
          go_ret
          exact ⟨rfl, hB1.out⟩
      · have hok := hfin0 (by omega)
        have hw2 := ok_wt hok
        obtain ⟨k1, v1, g1⟩ := hok
        have h1i : (p.key.size : Int) ≤ 32 := by omega
        have h2i : (p.val.size : Int) ≤ 200 := by omega
        have hwa : IntKind.i64.wrap ((s : Int) + (p.key.size : Int)) = ((s + p.key.size : Nat) : Int) := by rw [IntWalk.i64_in _ (by omega)]; omega
        have hwb : IntKind.i64.wrap (((s + p.key.size : Nat) : Int) + (p.val.size : Int)) = ((s + (p.key.size + p.val.size) : Nat) : Int) := by rw [IntWalk.i64_in _ (by omega)]; omega
        obtain ⟨T1, hT1⟩ : ∃ T, Hid (s + p.key.size = T) := ⟨_, Lib.hid rfl⟩
        obtain ⟨T2, hT2⟩ : ∃ T, Hid (s + (p.key.size + p.val.size) = T) := ⟨_, Lib.hid rfl⟩
        have hT3 : T2 ≤ 232 * (a + 1) := by rw [← hT2.out]; omega
        rw [hT1.out] at hwa hwb
        rw [hT2.out] at hwb hwt
        have hfin := Lib.hid (And.intro hwt (And.intro hT3 hB1.out))
        clear hfin0 hbad0 hx hwt
        cases hgo : p.gone with
        | false =>
          rw [hgo] at c2 hfin
          clear g1
          go_wp2_with fail
          go_roundg (gk - 1)
          case measure => omega
          case rel => exact ⟨a + 1, T2, by omega, by omega, by go_num, by go_num, hfin⟩
        | true =>
          obtain ⟨g2, g3⟩ := g1 hgo
          rw [hgo] at c2 hfin
          have h3b : ((p.key.size : Int) == 0) = false := by rw [beq_eq_false_iff_ne]; omega
          have h3i : ¬ (p.key.size : Int) = 0 := by omega
          have h4i : ¬ (0 : Int) < (p.val.size : Int) := by omega
          have hwc : IntKind.i64.wrap (T1 : Int) = (T2 : Int) := by have := hwb; rw [g3] at this; simpa using this
          clear g1
          go_wp2_with fail
          go_roundg (gk - 1)
          case measure => omega
          case rel => exact ⟨a + 1, T2, by omega, by omega, by go_num, by go_num, hfin⟩
    · obtain rfl : a = N := by omega
      obtain rfl : k = a := by omega
      have hxe := hx.out
      rw [List.take_of_length_le (by have := hN.out; omega)] at hs
      replace hb := Lib.hid hb
      by_cases h0 : k = 0
      · rw [if_pos (.inr h0)] at hxe
        subst hxe
        have h0i : (k : Int) = 0 := by omega
        have h0b : ((k : Int) == 0) = true := by simp [h0]
        clear hx hs
        go_wp2_with fail
        go_ret
        exact ⟨rfl, hb.out⟩
      · rw [if_neg (by omega), hs] at hxe
        have h0b : ((k : Int) == 0) = false := by simp; omega
        have h0i : ¬ (k : Int) = 0 := by omega
        clear hx hs
        by_cases h8 : 8 < k
        · have h8i : (8 : Int) < (k : Int) := by omega
          rw [if_pos (.inl h8)] at hxe
          subst hxe
          go_wp2_with fail
          go_ret
          exact ⟨rfl, hb.out⟩
        · have h8i : (k : Int) ≤ 8 := by omega
          by_cases h5 : 500 < s
          · have h5i : (500 : Int) < (s : Int) := by omega
            rw [if_pos (.inr h5)] at hxe
            subst hxe
            go_wp2_with fail
            go_ret
            exact ⟨rfl, hb.out⟩
          · have h5i : (s : Int) ≤ 500 := by omega
            rw [if_neg (by omega)] at hxe
            subst hxe
            go_wp2_with fail
            go_ret
            exact ⟨rfl, hb.out⟩
theorem rright_any (va : Option Addr) (c : Nat) (ps : List Pr) (w : World) (h : PrAt w va ps) (hn : ps.length ≤ 1000) :
    Calls Try.prog 12 #[.slice va ps.length c] w fun e w' => e = .returned (.int .i64 (rightF ps)) ∧ Below w.heap.size w w' := by
  by_cases hall : ∀ p ∈ ps, p.ok
  · refine rright_at va c ps w h hn ps.length (Nat.le_refl _) (fun j s _ hj => hall s (List.mem_of_getElem? hj)) (fun s hs => by have := (List.getElem?_eq_some_iff.1 hs).1; omega) _ ?_
    unfold rightF
    by_cases h0 : ps = []
    · rw [if_pos (.inl h0), if_pos (.inr (by rw [h0]; rfl))]
    · have : ps.length ≠ 0 := fun e => h0 (List.eq_nil_of_length_eq_zero e)
      rw [if_neg (fun e => e.elim h0 (fun e => e hall)), if_neg (show ¬ (ps.length < ps.length ∨ ps.length = 0) by omega)]
  · obtain ⟨k, r, h1, h2, h3⟩ := first_bad_of Pr.may ps (fun e => hall (fun p hp => of_decide_eq_true (e p hp)))
    have hk : k < ps.length := (List.getElem?_eq_some_iff.1 h1).1
    refine rright_at va c ps w h hn k (by omega) (fun j s hj hs => of_decide_eq_true (h3 j s hj hs)) (fun s hs => by rw [h1] at hs; cases hs; exact (bad_iff _).2 (of_decide_eq_false h2)) _ ?_
    unfold rightF
    rw [if_pos (.inr hall), if_pos (.inl hk)]

/-- Are pairs more than the law goes through? -/
def bigP (ps : List Pr) : Bool := decide (30 < ps.length) || ps.any fun p => decide (300 < p.key.size) || decide (300 < p.val.size)
set_option maxRecDepth 100000 in
set_option maxHeartbeats 4000000 in
theorem plarge_any (va : Option Addr) (c : Nat) (ps : List Pr) (w : World) (h : PrAt w va ps) :
    Calls Try.prog 9 #[.slice va ps.length c] w fun e w' => e = .returned (.bool (bigP ps)) ∧ Below w.heap.size w w' := by
  obtain ⟨R, hR⟩ : ∃ R, Hid (bigP ps = R) := ⟨_, Lib.hid rfl⟩
  have hyes : Hid (∀ p ∈ ps, (300 < p.key.size ∨ 300 < p.val.size) → R = true) := Lib.hid (fun p hp h => by
    rw [← hR.out]
    unfold bigP
    rw [Bool.or_eq_true]
    refine .inr (List.any_eq_true.2 ⟨p, hp, by simpa using h⟩))
  have hno : Hid (ps.length ≤ 30 → (∀ p ∈ ps, p.key.size ≤ 300 ∧ p.val.size ≤ 300) → R = false) := Lib.hid (fun h1 h2 => by
    rw [← hR.out]
    unfold bigP
    rw [Bool.or_eq_false_iff]
    refine ⟨by simpa using h1, List.any_eq_false.2 (fun p hp => by have := h2 p hp; simp; omega)⟩)
  have hlong : Hid (30 < ps.length → R = true) := Lib.hid (fun h1 => by rw [← hR.out]; unfold bigP; simp [h1])
  obtain ⟨N, hN⟩ : ∃ N, Hid (ps.length = N) := ⟨_, Lib.hid rfl⟩
  rw [hR.out]
  rw [hN.out] at hno hlong ⊢
  replace h := Lib.hid h
  clear hR
  by_cases hl : 30 < N
  · have hli : (30 : Int) < (N : Int) := by omega
    obtain rfl := hlong.out hl
    go_enter Try.func9, Try.ntmps9
    go_wp2_with fail
    go_ret
    exact ⟨rfl, Below.refl _ _⟩
  have hli : (N : Int) ≤ 30 := by omega
  go_enter Try.func9, Try.ntmps9
  go_wp2_with fail
  go_loopg [10] N (fun ga i wr => ∃ a : Nat, a ≤ N ∧ N ≤ a + ga ∧ i = .int .i64 a ∧ Hid ((∀ j p, j < a → ps[j]? = some p → p.key.size ≤ 300 ∧ p.val.size ≤ 300) ∧ Below w.heap.size w wr))
  case atStart => exact ⟨0, by omega, by omega, rfl, Lib.hid ⟨fun j p hj => by omega, Below.refl _ _⟩⟩
  case round =>
    obtain ⟨a, ha, hg, rfl, hrel⟩ := hrel
    obtain ⟨hlow, hb⟩ := hrel.out
    clear hrel
    generalize wr = wo at *
    by_cases hlt : a < N
    · obtain ⟨p, hp⟩ : ∃ p, ps[a]? = some p := ⟨_, List.getElem?_eq_getElem (by have := hN.out; omega)⟩
      obtain ⟨b, o, rfl, c0, c1, c2⟩ := (h.out.below hb).get hp
      have hB1 := Lib.hid (grewAlloc hb (.cells #[.string p.key, .string p.val, .bool p.gone] 26))
      by_cases h1 : 300 < p.key.size
      · have h1i : (300 : Int) < (p.key.size : Int) := by omega
        obtain rfl := hyes.out p (List.mem_of_getElem? hp) (.inl h1)
        replace hp := Lib.hid hp
        clear hlow hb
        go_wp2_with fail
        go_ret
        exact ⟨rfl, hB1.out⟩
      have h1i : (p.key.size : Int) ≤ 300 := by omega
      by_cases h2 : 300 < p.val.size
      · have h2i : (300 : Int) < (p.val.size : Int) := by omega
        obtain rfl := hyes.out p (List.mem_of_getElem? hp) (.inr h2)
        replace hp := Lib.hid hp
        clear hlow hb
        go_wp2_with fail
        go_ret
        exact ⟨rfl, hB1.out⟩
      have h2i : (p.val.size : Int) ≤ 300 := by omega
      have hfin := Lib.hid (And.intro (show ∀ j q, j < a + 1 → ps[j]? = some q → q.key.size ≤ 300 ∧ q.val.size ≤ 300 from fun j q hj hq => by
        by_cases e : j < a
        · exact hlow j q e hq
        · obtain rfl : j = a := by omega
          rw [hp] at hq; cases hq; omega) hB1.out)
      replace hp := Lib.hid hp
      clear hlow hb
      go_wp2_with fail
      go_roundg (gk - 1)
      case measure => omega
      case rel => exact ⟨a + 1, by omega, by omega, by go_num, hfin⟩
    · obtain rfl : a = N := by omega
      obtain rfl := hno.out (by omega) (fun p hp => by
        obtain ⟨j, hj⟩ := List.getElem?_of_mem hp
        exact hlow j p (by have := (List.getElem?_eq_some_iff.1 hj).1; have := hN.out; omega) hj)
      replace hb := Lib.hid hb
      clear hlow
      go_wp2_with fail
      go_ret
      exact ⟨rfl, hb.out⟩
end Go.Proofs.Ytbbeapglkdkajaa.W
