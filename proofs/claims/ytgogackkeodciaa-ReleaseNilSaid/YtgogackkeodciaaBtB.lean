/- Package batch's all over pairs, Weight, Right, Pairs. -/
import Derived.Test.YtgogackkeodciaaBtA
import Derived.Deep.LoopGhost
namespace Go.Proofs.Ytgogackkeodciaa.W
open Go.RowKit Go.Sort
open Go.Proofs.Ytgogackkeodciaa.M Go.Proofs.Ytgogackkeodciaa.D Go.Proofs.Ytgogackkeodciaa.Z
set_option linter.unusedVariables false
set_option linter.unusedSimpArgs false

section
variable (P : Pr → Bool) (gf b : Nat) (eg : ∀ args w, (callFunc gf args).run Try.prog w = .ok (.enter gf args) w)
  (hf : ∀ (p : Pr) W, Calls Try.prog gf #[.agg #[.string p.key, .string p.val, .bool p.gone]] W fun e w' => e = .returned (.bool (P p)) ∧ Below W.heap.size W w')
include eg hf
set_option maxRecDepth 100000 in
set_option maxHeartbeats 4000000 in
theorem pindex_any (va : Option Addr) (c : Nat) (ps : List Pr) (w : World) (h : PrAt w va ps) (hc : w.cell? ⟨b, 0, none⟩ = some (.func (.func gf) #[] #[])) (hn : ps.length ≤ 100000) (k : Nat) (hk : k ≤ ps.length) (hlow : ∀ j s, j < k → ps[j]? = some s → P s = true) (hend : ∀ s, ps[k]? = some s → P s = false) :
    Calls Try.prog 140 #[.slice va ps.length c, .func (.func 129) #[] #[.pointer (some ⟨b, 0, none⟩)]] w fun e w' => e = .returned (.int .i64 (if k < ps.length then (k : Int) else -1)) ∧ Below w.heap.size w w' := by
  obtain ⟨N, hN⟩ : ∃ N, Hid (ps.length = N) := ⟨_, Lib.hid rfl⟩
  rw [hN.out] at hn hk ⊢
  have hm := Lib.hid (fun (p : Pr) W hW => pnot_any P gf b eg hf p W hW)
  obtain ⟨R, hR⟩ : ∃ R : Int, Hid ((if k < N then (k : Int) else -1) = R) := ⟨_, Lib.hid rfl⟩
  rw [hR.out]
  replace h := Lib.hid h
  replace hlow := Lib.hid hlow
  replace hend := Lib.hid hend
  replace hc := Lib.hid hc
  have eg2 := fun args W => (show (callFunc 129 args).run Try.prog W = .ok (.enter 129 args) W by kernel_rfl)
  clear hf
  go_enter Try.func140, Try.ntmps140
  go_wp2_with fail
  go_loopg [8] N (fun ga i wr => ∃ a : Nat, a ≤ k ∧ N ≤ a + ga ∧ i = .int .i64 a ∧ Hid (Below w.heap.size w wr))
  case atStart => exact ⟨0, by omega, by omega, rfl, Lib.hid (Below.refl _ _)⟩
  case round =>
    obtain ⟨a, ha, hg, rfl, hb⟩ := hrel
    generalize wr = wo at *
    by_cases hlt : a < N
    · obtain ⟨p, hp⟩ : ∃ p, ps[a]? = some p := ⟨_, List.getElem?_eq_getElem (by have := hN.out; omega)⟩
      obtain ⟨b2, o, rfl, c0, c1, c2⟩ := (h.out.below hb.out).get hp
      have hlow1 := Lib.hid (fun (e : a < k) => hlow.out a p e hp)
      have hend1 := Lib.hid (fun (e : a = k) => hend.out p (by rw [← e]; exact hp))
      have hcw := Lib.hid (hm.out p wo (keepZ hb.out hc.out))
      replace hp := Lib.hid hp
      by_cases hka : a = k
      · have hbad := hend1.out hka
        rw [hbad] at hcw
        have hRa : (a : Int) = R := by rw [← hR.out, if_pos (by omega), hka]
        subst hRa
        subst hka
        clear hbad hlow1 hend1
        go_wp2_with fail
        refine hcw.out.mono ?_
        rintro e w1 ⟨rfl, hb1⟩
        have hB1 := Lib.hid (grew hb.out hb1)
        clear c0 c1 c2 hb1 hb hcw
        go_wp2_with fail
        go_ret
        exact ⟨rfl, hB1.out⟩
      · have hgood := hlow1.out (by omega)
        rw [hgood] at hcw
        clear hgood hlow1 hend1
        go_wp2_with fail
        refine hcw.out.mono ?_
        rintro e w1 ⟨rfl, hb1⟩
        have hB1 := Lib.hid (grew hb.out hb1)
        clear c0 c1 c2 hb1 hb hcw
        go_wp2_with fail
        go_roundg (gk - 1)
        case measure => omega
        case rel => exact ⟨a + 1, by omega, by omega, by go_num, hB1⟩
    · have hRk : R = -1 := by rw [← hR.out, if_neg (by omega)]
      subst hRk
      go_wp2_with fail
      go_ret
      exact ⟨rfl, hb.out⟩
set_option maxRecDepth 100000 in
theorem pcontains_any (va : Option Addr) (c : Nat) (ps : List Pr) (w : World) (h : PrAt w va ps) (hc : w.cell? ⟨b, 0, none⟩ = some (.func (.func gf) #[] #[])) (hn : ps.length ≤ 100000) :
    Calls Try.prog 130 #[.slice va ps.length c, .func (.func 129) #[] #[.pointer (some ⟨b, 0, none⟩)]] w fun e w' => e = .returned (.bool (!(ps.all P))) ∧ Below w.heap.size w w' := by
  obtain ⟨K, hi, hK⟩ : ∃ K : Int, (Calls Try.prog 140 #[.slice va ps.length c, .func (.func 129) #[] #[.pointer (some ⟨b, 0, none⟩)]] w fun e w' => e = .returned (.int .i64 K) ∧ Below w.heap.size w w') ∧ (!(ps.all P)) = decide (0 ≤ K) := by
    by_cases hall : ∀ r ∈ ps, P r = true
    · refine ⟨-1, ?_, ?_⟩
      · have := pindex_any P gf b eg hf va c ps w h hc hn ps.length (Nat.le_refl _) (fun j s _ hj => hall s (List.mem_of_getElem? hj)) (fun s hs => by have := (List.getElem?_eq_some_iff.1 hs).1; omega)
        rw [if_neg (by omega)] at this
        exact this
      · rw [List.all_eq_true.2 hall]; rfl
    · obtain ⟨k, r, h1, h2, h3⟩ := first_bad_of P ps hall
      have hk : k < ps.length := (List.getElem?_eq_some_iff.1 h1).1
      refine ⟨(k : Int), ?_, ?_⟩
      · have := pindex_any P gf b eg hf va c ps w h hc hn k (by omega) h3 (fun s hs => by rw [h1] at hs; cases hs; exact h2)
        rw [if_pos hk] at this
        exact this
      · rw [show ps.all P = false from by
          cases hb : ps.all P with
          | false => rfl
          | true => exact absurd (List.all_eq_true.1 hb) hall]
        simp
  replace hi := Lib.hid hi
  obtain ⟨N, hN⟩ : ∃ N, Hid (ps.length = N) := ⟨_, Lib.hid rfl⟩
  rw [hN.out] at hi ⊢
  rw [hK]
  clear hK hf
  go_enter Try.func130, Try.ntmps130
  go_wp2_with fail
  refine hi.out.mono ?_
  rintro e w1 ⟨rfl, hb⟩
  replace hb := Lib.hid hb
  go_wp2_with fail
  go_ret
  exact ⟨rfl, hb.out⟩
set_option maxRecDepth 100000 in
theorem pall_any (va : Option Addr) (c : Nat) (ps : List Pr) (w : World) (h : PrAt w va ps) (hn : ps.length ≤ 100000) :
    Calls Try.prog 111 #[.slice va ps.length c, .func (.func gf) #[] #[]] w fun e w' => e = .returned (.bool (ps.all P)) ∧ Below w.heap.size w w' := by
  obtain ⟨V, hV⟩ : ∃ V, Hid (V = w.alloc (.cells #[.func (.func gf) #[] #[]] 65)) := ⟨_, Lib.hid rfl⟩
  have hb0 : Below w.heap.size w V := by rw [hV.out]; exact grewAlloc (Below.refl _ _) _
  have hX : Whole V w.heap.size 65 [.func (.func gf) #[] #[]] := by rw [hV.out]; exact Whole.new w _ _
  have hct := Lib.hid (pcontains_any P gf w.heap.size eg hf va c ps V (h.below hb0) (hX.cell 0) hn)
  obtain ⟨N, hN⟩ : ∃ N, Hid (ps.length = N) := ⟨_, Lib.hid rfl⟩
  obtain ⟨A, hA⟩ : ∃ A, Hid (ps.all P = A) := ⟨_, Lib.hid rfl⟩
  rw [hN.out, hA.out] at hct ⊢
  obtain ⟨q, hq⟩ : ∃ q, Hid (w.heap.size = q) := ⟨_, Lib.hid rfl⟩
  replace hb0 := Lib.hid hb0
  clear hX h hf
  rw [hq.out] at hct
  go_enter Try.func111, Try.ntmps111
  go_upto_region 1 with fail
  rw [← show V = _ from hV.out, hq.out]
  clear hV
  go_wp2_with fail
  refine hct.out.mono ?_
  rintro e w1 ⟨rfl, hb⟩
  have hB := Lib.hid (grew hb0.out hb)
  clear hb0 hb hct
  go_wp2_with fail
  go_ret
  exact ⟨by simp, hB.out⟩
end
/-- How many bytes pairs have. -/
def wtL (ps : List Pr) : Nat := (ps.map fun p => p.key.size + p.val.size).sum
theorem wt_take {ps : List Pr} {k : Nat} {p : Pr} (h : ps[k]? = some p) : wtL (ps.take (k + 1)) = wtL (ps.take k) + (p.key.size + p.val.size) := by
  unfold wtL
  rw [List.take_add_one, h]
  simp
set_option maxRecDepth 100000 in
set_option maxHeartbeats 4000000 in
theorem weight_any (va : Option Addr) (c : Nat) (ps : List Pr) (w : World) (h : PrAt w va ps) (hn : ps.length ≤ 1000000) (hs : wtL ps ≤ 1000000000000) :
    Calls Try.prog 113 #[.slice va ps.length c] w fun e w' => e = .returned (.int .i64 (wtL ps : Int)) ∧ Below w.heap.size w w' := by
  have hle : Hid (∀ k p, ps[k]? = some p → wtL (ps.take (k + 1)) = wtL (ps.take k) + (p.key.size + p.val.size)) := Lib.hid (fun k p => wt_take)
  have hmo : Hid (∀ k, wtL (ps.take k) ≤ wtL ps) := Lib.hid (fun k => by
    conv => rhs; rw [← List.take_append_drop k ps]
    unfold wtL
    rw [List.map_append, List.sum_append]
    omega)
  obtain ⟨N, hN⟩ : ∃ N, Hid (ps.length = N) := ⟨_, Lib.hid rfl⟩
  obtain ⟨S, hS⟩ : ∃ S, Hid (wtL ps = S) := ⟨_, Lib.hid rfl⟩
  rw [hS.out] at hs hmo ⊢
  rw [hN.out] at hn ⊢
  replace h := Lib.hid h
  go_enter Try.func113, Try.ntmps113
  go_wp2_with fail
  go_loopg [3, 8] N (fun ga sv i wr => ∃ a s : Nat, a ≤ N ∧ N ≤ a + ga ∧ i = .int .i64 a ∧ sv = .int .i64 s ∧ Hid (wtL (ps.take a) = s ∧ Below w.heap.size w wr))
  case atStart => exact ⟨0, 0, by omega, by omega, rfl, rfl, Lib.hid ⟨by simp [wtL], Below.refl _ _⟩⟩
  case round =>
    obtain ⟨a, s, ha, hg, rfl, rfl, hrel⟩ := hrel
    generalize wr = wo at *
    obtain ⟨hs1, hb⟩ := hrel.out
    clear hrel
    by_cases hlt : a < N
    · obtain ⟨p, hp⟩ : ∃ p, ps[a]? = some p := ⟨_, List.getElem?_eq_getElem (by have := hN.out; omega)⟩
      obtain ⟨b2, o, rfl, c0, c1, c2⟩ := (h.out.below hb).get hp
      have h2 := hle.out a p hp
      have h3 := hmo.out (a + 1)
      rw [h2, hs1] at h3
      rw [hs1] at h2
      have hk1 : (p.key.size : Int) ≤ 1000000000000 := by omega
      have hv1 : (p.val.size : Int) ≤ 1000000000000 := by omega
      have hw0 : IntKind.i64.wrap ((p.key.size : Int) + (p.val.size : Int)) = ((p.key.size + p.val.size : Nat) : Int) := by rw [IntWalk.i64_in _ (by omega)]; omega
      have hw1 : IntKind.i64.wrap ((s : Int) + ((p.key.size + p.val.size : Nat) : Int)) = ((s + (p.key.size + p.val.size) : Nat) : Int) := by rw [IntWalk.i64_in _ (by omega)]; omega
      obtain ⟨T, hT⟩ : ∃ T, Hid (p.key.size + p.val.size = T) := ⟨_, Lib.hid rfl⟩
      rw [hT.out] at h2 hw0 hw1
      have hB1 := Lib.hid (grewAlloc hb (.cells #[.string p.key, .string p.val, .bool p.gone] 62))
      have hfin := Lib.hid h2
      replace hp := Lib.hid hp
      clear h2 h3 hs1 hb
      go_wp2_with fail
      go_roundg (gk - 1)
      case measure => omega
      case rel => exact ⟨a + 1, s + T, by omega, by omega, by go_num, by go_num, Lib.hid ⟨hfin.out, hB1.out⟩⟩
    · obtain rfl : a = N := by omega
      rw [List.take_of_length_le (by have := hN.out; omega), hS.out] at hs1
      subst hs1
      replace hb := Lib.hid hb
      go_wp2_with fail
      go_ret
      exact ⟨rfl, hb.out⟩
/-- Why pairs are no batch (17.1). -/
def rightF (ps : List Pr) : Int := if ps = [] ∨ ¬ (∀ p ∈ ps, p.ok) then 1 else if 8 < ps.length ∨ 500 < wtL ps then 2 else 0
theorem pall_ok (ps : List Pr) : ps.all Pr.may = true ↔ ∀ p ∈ ps, p.ok := by
  rw [List.all_eq_true]
  exact ⟨fun h p hp => of_decide_eq_true (h p hp), fun h p hp => decide_eq_true (h p hp)⟩
set_option maxRecDepth 100000 in
set_option maxHeartbeats 4000000 in
theorem right_any (va : Option Addr) (c : Nat) (ps : List Pr) (w : World) (h : PrAt w va ps) (hn : ps.length ≤ 1000) :
    Calls Try.prog 91 #[.slice va ps.length c] w fun e w' => e = .returned (.int .i64 (rightF ps)) ∧ Below w.heap.size w w' := by
  by_cases h0 : ps = []
  · subst h0
    have e : rightF [] = 1 := by simp [rightF]
    rw [e]
    clear h
    go_enter Try.func91, Try.ntmps91
    go_wp2_with fail
    go_ret
    exact ⟨rfl, Below.refl _ _⟩
  have hpos : 1 ≤ ps.length := List.length_pos_iff.2 h0
  have ha := Lib.hid (pall_any Pr.may 112 (fun _ _ => by kernel_rfl) (fun p W => pmay_any p.key p.val p.gone W) va c ps w h (by omega))
  by_cases hall : ∀ p ∈ ps, p.ok
  · have hwt := fun W (hW : PrAt W va ps) (hs : wtL ps ≤ 1000000000000) => weight_any va c ps W hW (by omega) hs
    have hsz : ∀ l : List Pr, (∀ p ∈ l, p.ok) → wtL l ≤ 232 * l.length := by
      intro l
      induction l with
      | nil => intro _; simp [wtL]
      | cons x l ih =>
        intro hl
        have h1 := hl x (by simp)
        have h2 := ih (fun p hp => hl p (by simp [hp]))
        unfold Pr.ok at h1
        unfold wtL at h2 ⊢
        simp only [List.map_cons, List.sum_cons, List.length_cons]
        omega
    have hs := hsz ps hall
    have hwt1 := Lib.hid (fun W (hW : PrAt W va ps) => hwt W hW (by omega))
    rw [(pall_ok ps).2 hall] at ha
    obtain ⟨R, hR⟩ : ∃ R, Hid (rightF ps = R) := ⟨_, Lib.hid rfl⟩
    have hR2 : R = if 8 < ps.length ∨ 500 < wtL ps then 2 else 0 := by rw [← hR.out]; unfold rightF; rw [if_neg (by simp [h0]; exact fun p hp => hall p hp)]
    rw [hR.out]
    replace h := Lib.hid h
    obtain ⟨N, hN⟩ : ∃ N, Hid (ps.length = N) := ⟨_, Lib.hid rfl⟩
    obtain ⟨S, hS⟩ : ∃ S, Hid (wtL ps = S) := ⟨_, Lib.hid rfl⟩
    rw [hN.out] at ha hwt1 hpos hR2 ⊢
    rw [hS.out] at hwt1 hR2
    have hne : ((N : Int) == 0) = false := by simp; omega
    have hne2 : ¬ (N : Int) = 0 := by omega
    have hne3 : ¬ N = 0 := by omega
    clear h0 hall hR hwt hsz hs
    by_cases h8 : 8 < N
    · rw [if_pos (.inl h8)] at hR2
      have h8i : (8 : Int) < (N : Int) := by omega
      subst hR2
      go_enter Try.func91, Try.ntmps91
      go_wp2_with fail
      refine ha.out.mono ?_
      rintro e w1 ⟨rfl, hb⟩
      replace hb := Lib.hid hb
      clear ha
      go_wp2_with fail
      go_ret
      exact ⟨rfl, hb.out⟩
    · have h8i : (N : Int) ≤ 8 := by omega
      by_cases h5 : 500 < S
      · rw [if_pos (.inr h5)] at hR2
        have h5i : (500 : Int) < (S : Int) := by omega
        subst hR2
        go_enter Try.func91, Try.ntmps91
        go_wp2_with fail
        refine ha.out.mono ?_
        rintro e w1 ⟨rfl, hb⟩
        have hwt2 := Lib.hid (hwt1.out w1 (h.out.below hb))
        replace hb := Lib.hid hb
        clear ha
        go_wp2_with fail
        refine hwt2.out.mono ?_
        rintro e w2 ⟨rfl, hb2⟩
        have hB := Lib.hid (grew hb.out hb2)
        clear hb hb2
        go_wp2_with fail
        go_ret
        exact ⟨rfl, hB.out⟩
      · rw [if_neg (by omega)] at hR2
        have h5i : (S : Int) ≤ 500 := by omega
        subst hR2
        go_enter Try.func91, Try.ntmps91
        go_wp2_with fail
        refine ha.out.mono ?_
        rintro e w1 ⟨rfl, hb⟩
        have hwt2 := Lib.hid (hwt1.out w1 (h.out.below hb))
        replace hb := Lib.hid hb
        clear ha
        go_wp2_with fail
        refine hwt2.out.mono ?_
        rintro e w2 ⟨rfl, hb2⟩
        have hB := Lib.hid (grew hb.out hb2)
        clear hb hb2
        go_wp2_with fail
        go_ret
        exact ⟨rfl, hB.out⟩
  · have e : rightF ps = 1 := by unfold rightF; rw [if_pos (.inr hall)]
    rw [e]
    rw [show ps.all Pr.may = false from by
      cases hb : ps.all Pr.may with
      | false => rfl
      | true => exact absurd ((pall_ok ps).1 hb) hall] at ha
    obtain ⟨N, hN⟩ : ∃ N, Hid (ps.length = N) := ⟨_, Lib.hid rfl⟩
    rw [hN.out] at ha hpos ⊢
    have hne : ((N : Int) == 0) = false := by simp; omega
    have hne2 : ¬ (N : Int) = 0 := by omega
    have hne3 : ¬ N = 0 := by omega
    clear h0 hall h e
    go_enter Try.func91, Try.ntmps91
    go_wp2_with fail
    refine ha.out.mono ?_
    rintro e w1 ⟨rfl, hb⟩
    replace hb := Lib.hid hb
    go_wp2_with fail
    go_ret
    exact ⟨rfl, hb.out⟩
end Go.Proofs.Ytgogackkeodciaa.W
