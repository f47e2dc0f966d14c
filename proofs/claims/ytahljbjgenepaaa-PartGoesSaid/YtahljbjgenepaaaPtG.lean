/- Package part: Fetch. -/
import Derived.Test.YtahljbjgenepaaaPtF
import Derived.Laws.Cover1
namespace Go.Proofs.Ytahljbjgenepaaa.W
open Go.RowKit Go.Sort
open Go.Proofs.Ytahljbjgenepaaa.M Go.Proofs.Ytahljbjgenepaaa.D Go.Proofs.Ytahljbjgenepaaa.Z
set_option linter.unusedVariables false
set_option linter.unusedSimpArgs false

/-- The records from an offset on, below the mark. -/
def seenL (d : Pd) (from_ : Int) : List Rc := (d.rs.take (cutN d.sn d.rs)).drop (cutN from_ d.rs)
/-- What is fetched (19.3). -/
def fetchL (d : Pd) (from_ most : Int) : List Rc := if from_ < d.st ∨ d.sn < from_ then [] else if most < 1 then [] else (seenL d from_).take (min most.toNat 16)
def fetchN (d : Pd) (from_ most : Int) : Int := if from_ < d.st ∨ d.sn < from_ then 0 else if most < 1 then from_ else lastN d.sn (fetchL d from_ most)
def fetchE (d : Pd) (from_ : Int) : Int := if from_ < d.st ∨ d.sn < from_ then 34 else 0
theorem cutN_mono {a b : Int} (h : a ≤ b) : ∀ rs : List Rc, cutN a rs ≤ cutN b rs := by
  intro rs
  induction rs with
  | nil => exact Nat.le_refl _
  | cons r t ih =>
    unfold cutN at ih ⊢
    rw [List.takeWhile_cons, List.takeWhile_cons]
    by_cases e : r.off < a
    · have e2 : r.off < b := by omega
      simp only [e, e2, decide_true, if_true, List.length_cons]; omega
    · simp only [e, decide_false, Bool.false_eq_true, if_false, List.length_nil]; omega
section
variable {W : World} {pb : Nat} {d : Pd} {va : Option Addr} {c : Nat}
set_option maxRecDepth 100000 in
set_option maxHeartbeats 4000000 in
theorem pfetch_any (h : PdAt W pb d va c) (from_ most : Int) (hn : d.rs.length ≤ 99000) (hr : risL d.rs) (hok : ∀ r ∈ d.rs, r.ok) (hmost : most ≤ 9223372036854775807) :
    Calls Try.prog 16 #[.pointer (some ⟨pb, 0, none⟩), .int .i64 from_, .int .i64 most] W fun e w' => ∃ A c', e = .returned (.tuple #[.slice A (fetchL d from_ most).length c', .int .i64 (fetchN d from_ most), .int .i64 (fetchE d from_)]) ∧ RowO w' A c' (fetchL d from_ most) ∧ Below W.heap.size W w' := by
  obtain ⟨c0, c1, c2, c3⟩ := h.cells
  unfold fetchN fetchE fetchL
  by_cases h1 : from_ < d.st ∨ d.sn < from_
  · rw [if_pos h1, if_pos h1, if_pos h1]
    clear h
    rcases (show from_ < d.st ∨ (d.st ≤ from_ ∧ d.sn < from_) by omega) with k1 | ⟨k1, k2⟩
    all_goals
      clear h1
      go_enter Try.func16, Try.ntmps16
      go_wp2_with fail
      go_ret3
      exact ⟨none, 0, rfl, .inl ⟨rfl, rfl, rfl⟩, Below.refl _ _⟩
  · rw [if_neg h1, if_neg h1, if_neg h1]
    have k1 : d.st ≤ from_ := by omega
    have k2 : from_ ≤ d.sn := by omega
    by_cases h2 : most < 1
    · rw [if_pos h2, if_pos h2]
      clear h h1
      go_enter Try.func16, Try.ntmps16
      go_wp2_with fail
      go_ret3
      exact ⟨none, 0, rfl, .inl ⟨rfl, rfl, rfl⟩, Below.refl _ _⟩
    · rw [if_neg h2, if_neg h2]
      have h3 : 1 ≤ most := by omega
      have hle := cutN_mono k2 d.rs
      have hle2 := cutN_le d.sn d.rs
      have hbf : ∀ V, Below W.heap.size W V → Calls Try.prog 36 #[.pointer (some ⟨pb, 0, none⟩), .int .i64 from_] V fun e w' => e = .returned (.int .i64 (cutN from_ d.rs : Int)) ∧ Below V.heap.size V w' := fun V hb => pbelow_any from_ V (h.below hb) (by omega) hr
      have hbm : ∀ V, Below W.heap.size W V → Calls Try.prog 36 #[.pointer (some ⟨pb, 0, none⟩), .int .i64 d.sn] V fun e w' => e = .returned (.int .i64 (cutN d.sn d.rs : Int)) ∧ Below V.heap.size V w' := fun V hb => pbelow_any d.sn V (h.below hb) (by omega) hr
      have hsl : (seenL d from_).length = cutN d.sn d.rs - cutN from_ d.rs := by
        unfold seenL
        rw [List.length_drop, List.length_take]; omega
      have hso : ∀ r ∈ seenL d from_, r.ok := fun r h => hok r (List.mem_of_mem_take (List.mem_of_mem_drop h))
      have hsa : ∀ (i : Nat) (r : Rc), (seenL d from_)[i]? = some r → d.rs[cutN from_ d.rs + i]? = some r := fun i r h => by
        unfold seenL at h
        rw [List.getElem?_drop, List.getElem?_take] at h
        split at h
        · exact h
        · cases h
      have hrow := h.row
      obtain ⟨S, hS⟩ : ∃ S, Hid (seenL d from_ = S) := ⟨_, Lib.hid rfl⟩
      rw [hS.out] at hsl hso hsa ⊢
      obtain ⟨K1, hK1⟩ : ∃ K1, Hid (cutN from_ d.rs = K1) := ⟨_, Lib.hid rfl⟩
      obtain ⟨K2, hK2⟩ : ∃ K2, Hid (cutN d.sn d.rs = K2) := ⟨_, Lib.hid rfl⟩
      rw [hK1.out] at hsl hsa hle hbf
      rw [hK2.out] at hsl hle hle2 hbm
      obtain ⟨N, hN⟩ : ∃ N, Hid (d.rs.length = N) := ⟨_, Lib.hid rfl⟩
      have hcap := hrow.cap
      rw [hN.out] at hle2 c3 hn hcap
      have hD := Lib.hid (Below.refl W.heap.size W).drew
      have hf1 := Lib.hid (hbf _ hD.out)
      have hm1 := Lib.hid (hbm _ hD.out)
      have hf2 := Lib.hid hbf
      have hm2 := Lib.hid hbm
      have j1 : (K1 : Int) ≤ (K2 : Int) := by omega
      have j2 : (K2 : Int) ≤ (N : Int) := by omega
      have j3 : (N : Int) ≤ (c : Int) := by omega
      have j4 : (K2 : Int) ≤ (c : Int) := by omega
      have j5 : (0 : Int) ≤ (K1 : Int) := by omega
      have j6 : K2 ≤ c := by omega
      have j7 : c ≤ maxLen := hcap.2
      have hws : IntKind.i64.wrap ((K2 : Int) - (K1 : Int)) = ((K2 - K1 : Nat) : Int) := by rw [IntWalk.i64_in _ (by omega)]; omega
      clear h h1 h2 hbf hbm hok hr hcap
      by_cases he : K1 = K2
      · subst he
        obtain rfl : S = [] := List.eq_nil_of_length_eq_zero (by omega)
        rw [List.take_nil, lastN_nil]
        rcases hrow with ⟨rfl, rfl, hrs⟩ | ⟨g, o, cur, rfl, hW, m1, m2, m3, m4⟩
        · obtain rfl : K1 = 0 := by omega
          obtain rfl : N = 0 := by omega
          go_enter Try.func16, Try.ntmps16
          go_wp2_with fail
          go_region_held3 (fun w' => w'.cell? ⟨pb, 2, none⟩ = some (.int .i64 d.sn) ∧ w'.cell? ⟨pb, 3, none⟩ = some (.slice none 0 0)) (first | assumption | (go_keep)) (first
            | (go_at_call 36; (with_reducible refine hf1.out.mono ?_); rintro _ w3 ⟨rfl, hb3⟩; have hB3 := Lib.hid (grew hD.out hb3); have d2 := keepZ hB3.out c2; have d3 := keepZ hB3.out c3; replace hb3 := Lib.hid hb3)
            | (go_at_call 36; (with_reducible refine hm1.out.mono ?_); rintro _ w3 ⟨rfl, hb3⟩; have hB3 := Lib.hid (grew hD.out hb3); have d2 := keepZ hB3.out c2; have d3 := keepZ hB3.out c3; replace hb3 := Lib.hid hb3)
            | (go_at_call 36; (with_reducible refine (hf2.out _ hB3.out).mono ?_); rintro _ w4 ⟨rfl, hb4⟩; have hB4 := Lib.hid (grew hB3.out hb4); have e2 := keepZ hB4.out c2; have e3 := keepZ hB4.out c3; replace hb4 := Lib.hid hb4)
            | (go_at_call 36; (with_reducible refine (hm2.out _ hB3.out).mono ?_); rintro _ w4 ⟨rfl, hb4⟩; have hB4 := Lib.hid (grew hB3.out hb4); have e2 := keepZ hB4.out c2; have e3 := keepZ hB4.out c3; replace hb4 := Lib.hid hb4))
          all_goals
            go_wp2_with fail
            go_quiet (fail)
            go_wp2_with fail
            have hfin : Hid (Below W.heap.size W (w4.drewN nq)) := Lib.hid ((fun (h : Below W.heap.size W w4) => ⟨h.os, h.tape, h.output, h.size, h.block⟩) hB4.out)
            go_ret3
            exact ⟨none, 0, rfl, .inl ⟨rfl, rfl, rfl⟩, hfin.out⟩
        · clear hW m1 m4
          by_cases hc : K1 = c
          · obtain rfl : N = K1 := by omega
            subst hc
            go_enter Try.func16, Try.ntmps16
            go_wp2_with fail
            go_region_held3 (fun w' => w'.cell? ⟨pb, 2, none⟩ = some (.int .i64 d.sn) ∧ w'.cell? ⟨pb, 3, none⟩ = some (.slice (some ⟨g, o, none⟩) N N)) (first | assumption | (go_keep)) (first
              | (go_at_call 36; (with_reducible refine hf1.out.mono ?_); rintro _ w3 ⟨rfl, hb3⟩; have hB3 := Lib.hid (grew hD.out hb3); have d2 := keepZ hB3.out c2; have d3 := keepZ hB3.out c3; replace hb3 := Lib.hid hb3)
              | (go_at_call 36; (with_reducible refine hm1.out.mono ?_); rintro _ w3 ⟨rfl, hb3⟩; have hB3 := Lib.hid (grew hD.out hb3); have d2 := keepZ hB3.out c2; have d3 := keepZ hB3.out c3; replace hb3 := Lib.hid hb3)
              | (go_at_call 36; (with_reducible refine (hf2.out _ hB3.out).mono ?_); rintro _ w4 ⟨rfl, hb4⟩; have hB4 := Lib.hid (grew hB3.out hb4); have e2 := keepZ hB4.out c2; have e3 := keepZ hB4.out c3; replace hb4 := Lib.hid hb4)
              | (go_at_call 36; (with_reducible refine (hm2.out _ hB3.out).mono ?_); rintro _ w4 ⟨rfl, hb4⟩; have hB4 := Lib.hid (grew hB3.out hb4); have e2 := keepZ hB4.out c2; have e3 := keepZ hB4.out c3; replace hb4 := Lib.hid hb4))
            all_goals
              go_wp2_with fail
              go_quiet (fail)
              go_wp2_with fail
              have hfin : Hid (Below W.heap.size W (w4.drewN nq)) := Lib.hid ((fun (h : Below W.heap.size W w4) => ⟨h.os, h.tape, h.output, h.size, h.block⟩) hB4.out)
              go_ret3
              exact ⟨none, 0, rfl, .inl ⟨rfl, rfl, rfl⟩, hfin.out⟩
          · have hc1 : K1 < c := by omega
            have hc2 : ¬ c = K1 := by omega
            go_enter Try.func16, Try.ntmps16
            go_wp2_with fail
            go_region_held3 (fun w' => w'.cell? ⟨pb, 2, none⟩ = some (.int .i64 d.sn) ∧ w'.cell? ⟨pb, 3, none⟩ = some (.slice (some ⟨g, o, none⟩) N c)) (first | assumption | (go_keep)) (first
              | (go_at_call 36; (with_reducible refine hf1.out.mono ?_); rintro _ w3 ⟨rfl, hb3⟩; have hB3 := Lib.hid (grew hD.out hb3); have d2 := keepZ hB3.out c2; have d3 := keepZ hB3.out c3; replace hb3 := Lib.hid hb3)
              | (go_at_call 36; (with_reducible refine hm1.out.mono ?_); rintro _ w3 ⟨rfl, hb3⟩; have hB3 := Lib.hid (grew hD.out hb3); have d2 := keepZ hB3.out c2; have d3 := keepZ hB3.out c3; replace hb3 := Lib.hid hb3)
              | (go_at_call 36; (with_reducible refine (hf2.out _ hB3.out).mono ?_); rintro _ w4 ⟨rfl, hb4⟩; have hB4 := Lib.hid (grew hB3.out hb4); have e2 := keepZ hB4.out c2; have e3 := keepZ hB4.out c3; replace hb4 := Lib.hid hb4)
              | (go_at_call 36; (with_reducible refine (hm2.out _ hB3.out).mono ?_); rintro _ w4 ⟨rfl, hb4⟩; have hB4 := Lib.hid (grew hB3.out hb4); have e2 := keepZ hB4.out c2; have e3 := keepZ hB4.out c3; replace hb4 := Lib.hid hb4))
            all_goals
              go_wp2_with fail
              go_quiet (fail)
              go_wp2_with fail
              have hfin : Hid (Below W.heap.size W (w4.drewN nq)) := Lib.hid ((fun (h : Below W.heap.size W w4) => ⟨h.os, h.tape, h.output, h.size, h.block⟩) hB4.out)
              go_ret3
              exact ⟨none, 0, rfl, .inl ⟨rfl, rfl, rfl⟩, hfin.out⟩
      · rcases hrow with ⟨rfl, rfl, hrs⟩ | ⟨g, o, cur, rfl, hW, m1, m2, m3, m4⟩
        · omega
        · have hc1 : K1 < c := by omega
          have hc2 : ¬ c = K1 := by omega
          have hat0 : RcAt W (some ⟨g, o, none⟩) d.rs := RowO.at_ (.inr ⟨g, o, cur, rfl, hW, m1, m2, m3, m4⟩)
          obtain ⟨L, hL⟩ : ∃ L, Hid (K2 - K1 = L) := ⟨_, Lib.hid rfl⟩
          have hLp : 0 < L := by have := hL.out; omega
          rw [hL.out] at hsl hws
          obtain ⟨T, hT⟩ : ∃ T, Hid (min (min most.toNat 16) L = T) := ⟨_, Lib.hid rfl⟩
          have hT1 : 1 ≤ T ∧ T ≤ 16 ∧ T ≤ L := by have := hT.out; omega
          have hLN : L ≤ 99000 := by have := hL.out; omega
          have htk : S.take (min most.toNat 16) = S.take T := by
            rw [List.take_eq_take_iff, hsl]; have := hT.out; omega
          have htl : (S.take T).length = T := by rw [List.length_take, hsl]; omega
          have hmn : ∀ w : World, (Builtin.min_ #[3, 3, 3] 3 #[.int .i64 (L : Int), .int .i64 most, .int .i64 16]).run Try.prog w = .ok (.int .i64 (T : Int)) w := fun w => by
            have := run_min_int3 (P := Try.prog) (w := w) #[3, 3, 3] 3 .i64 .i64 .i64 (L : Int) most 16
            rwa [show (if (16 : Int) < (if most < (L : Int) then most else (L : Int)) then 16 else (if most < (L : Int) then most else (L : Int))) = (T : Int) by have := hT.out; split <;> split <;> omega] at this
          rw [htk]
          obtain ⟨x, hx⟩ : ∃ r, (S.take T)[T - 1]? = some r := ⟨_, List.getElem?_eq_getElem (by omega)⟩
          have hne : S.take T ≠ [] := fun e => by rw [e] at htl; simp at htl; omega
          have hln : lastN d.sn (S.take T) = x.off + 1 := lastN_at (by rw [htl]; exact hx) hne
          have hxo := (hso x (List.mem_of_mem_take (List.mem_of_getElem? hx))).1
          have hcl : Hid (∀ V, Below W.heap.size W V → Calls Try.prog 37 #[.slice (some ⟨g, o + K1 * 8, none⟩) T (c - K1)] V fun e w' => ∃ va' c', e = .returned (.slice va' T c') ∧ RowO w' va' c' (S.take T) ∧ (∀ q, ownB va' q → V.heap.size ≤ q) ∧ Below V.heap.size V w') := Lib.hid (fun V hb => by
            have := rclone_any (some ⟨g, o + K1 * 8, none⟩) (c - K1) (S.take T) V (fun i r hi => by
              have hi2 : S[i]? = some r := by
                rw [List.getElem?_take] at hi
                split at hi
                · exact hi
                · cases hi
              obtain ⟨b, o', e, h1, h2⟩ := (hat0.below hb) (K1 + i) r (hsa i r hi2)
              cases e
              refine ⟨g, o + K1 * 8, rfl, h1, fun j v hj => ?_⟩
              rw [show o + K1 * 8 + i * 8 + j = o + (K1 + i) * 8 + j from by omega]
              exact h2 j v hj) (by omega)
            rwa [htl] at this)
          have hrx : Hid (∀ V va' c', RowO V va' c' (S.take T) → ∃ b2 o2, va' = some ⟨b2, o2, none⟩ ∧ V.cell? ⟨b2, o2 + (T - 1) * 8, none⟩ = some (.int .i64 x.off)) := Lib.hid (fun V va' c' hro => by
            obtain ⟨b, o', e, d0, _⟩ := hro.at_.get hx
            exact ⟨b, o', e, d0⟩)
          rw [hln, htl]
          obtain ⟨X, hX⟩ : ∃ X, Hid (x.off = X) := ⟨_, Lib.hid rfl⟩
          rw [hX.out] at hxo hrx ⊢
          obtain ⟨S2, hS2⟩ : ∃ S2, Hid (S.take T = S2) := ⟨_, Lib.hid rfl⟩
          rw [hS2.out] at hcl hrx ⊢
          have hw3 : IntKind.i64.wrap (X + 1) = X + 1 := by rw [IntWalk.i64_in _ (by omega)]
          have hw4 : IntKind.i64.wrap ((T : Int) - 1) = (T : Int) - 1 := by rw [IntWalk.i64_in _ (by omega)]
          have hw5 : ((T : Int) - 1).toNat = T - 1 := by omega
          have hw6 : (T : Int) - 1 < (T : Int) := by omega
          have hw7 : (0 : Int) ≤ (T : Int) - 1 := by omega
          have q1 : (T : Int) ≤ ((c - K1 : Nat) : Int) := by have := hL.out; omega
          have q2 : (0 : Int) ≤ (T : Int) := by omega
          have q3 : T ≤ c - K1 := by have := hL.out; omega
          have q4 : ((L : Int) == 0) = false := by simp; omega
          have q5 : ¬ L = 0 := by omega
          obtain ⟨C2, hC2⟩ : ∃ C2, Hid (c - K1 = C2) := ⟨_, Lib.hid rfl⟩
          rw [hC2.out] at hcl q1 q3
          have q6 : C2 ≤ maxLen := by have := hC2.out; omega
          clear hW m1 m4 hat0 htk htl hx hne hln hsl hso hsa he
          go_enter Try.func16, Try.ntmps16
          go_wp2_with fail
          go_region_held3 (fun w' => w'.cell? ⟨pb, 2, none⟩ = some (.int .i64 d.sn) ∧ w'.cell? ⟨pb, 3, none⟩ = some (.slice (some ⟨g, o, none⟩) N c)) (first | assumption | (go_keep)) (first
            | (go_at_call 36; (with_reducible refine hf1.out.mono ?_); rintro _ w3 ⟨rfl, hb3⟩; have hB3 := Lib.hid (grew hD.out hb3); have d2 := keepZ hB3.out c2; have d3 := keepZ hB3.out c3; replace hb3 := Lib.hid hb3)
            | (go_at_call 36; (with_reducible refine hm1.out.mono ?_); rintro _ w3 ⟨rfl, hb3⟩; have hB3 := Lib.hid (grew hD.out hb3); have d2 := keepZ hB3.out c2; have d3 := keepZ hB3.out c3; replace hb3 := Lib.hid hb3)
            | (go_at_call 36; (with_reducible refine (hf2.out _ hB3.out).mono ?_); rintro _ w4 ⟨rfl, hb4⟩; have hB4 := Lib.hid (grew hB3.out hb4); have e2 := keepZ hB4.out c2; have e3 := keepZ hB4.out c3; replace hb4 := Lib.hid hb4)
            | (go_at_call 36; (with_reducible refine (hm2.out _ hB3.out).mono ?_); rintro _ w4 ⟨rfl, hb4⟩; have hB4 := Lib.hid (grew hB3.out hb4); have e2 := keepZ hB4.out c2; have e3 := keepZ hB4.out c3; replace hb4 := Lib.hid hb4))
          all_goals
            have hc4 := Lib.hid (hcl.out w4 hB4.out)
            rw [hL.out, hC2.out]
            clear hcl
            go_wp2_with fail
            refine hc4.out.mono ?_
            rintro _ w5 ⟨va5, c5, rfl, hro5, _, hb5⟩
            obtain ⟨b2, o2, rfl, x0⟩ := hrx.out w5 va5 c5 hro5
            have hfin := Lib.hid (And.intro hro5 (grew hB4.out hb5))
            clear hc4 hro5 hb5
            go_wp2_with fail
            go_quiet (fail)
            go_wp2_with fail
            have hfin2 : Hid (RowO (w5.drewN nq) (some ⟨b2, o2, none⟩) c5 S2 ∧ Below W.heap.size W (w5.drewN nq)) := Lib.hid ⟨hfin.out.1, (fun (h : Below W.heap.size W w5) => ⟨h.os, h.tape, h.output, h.size, h.block⟩) hfin.out.2⟩
            go_ret3
            exact ⟨_, c5, rfl, hfin2.out⟩
end
end Go.Proofs.Ytahljbjgenepaaa.W
