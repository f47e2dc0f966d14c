/- Layer 19's law: its small case. -/
import Derived.Test.YtahljbjgenepaaaPtG
namespace Go.Proofs.Ytahljbjgenepaaa.W
open Go.RowKit Go.Sort
open Go.Proofs.Ytahljbjgenepaaa.M Go.Proofs.Ytahljbjgenepaaa.D Go.Proofs.Ytahljbjgenepaaa.Z
set_option linter.unusedVariables false
set_option linter.unusedSimpArgs false

/-- A partition of the law's own, made since the world w0. -/
structure PS (w0 : World) (pb : Nat) (d : Pd) (va : Option Addr) (c : Nat) (W : World) : Prop where
  at_ : PdAt W pb d va c
  lo : w0.heap.size ≤ pb
  own : ∀ q, ownB va q → w0.heap.size ≤ q
  since : Below w0.heap.size w0 W
theorem PS.left {w0 W w' : World} {pb : Nat} {d d' : Pd} {va : Option Addr} {c : Nat} (h : PS w0 pb d va c W) (hl : LeftP W pb va d' w') : ∃ va' c', PS w0 pb d' va' c' w' ∧ Kept (mineP pb va) W w' ∧ (∀ q, ownB va' q → ownB va q ∨ W.heap.size ≤ q) := by
  obtain ⟨va', c', h1, h2, h3⟩ := hl
  refine ⟨va', c', ⟨h1, h.lo, fun q hq => ?_, ?_⟩, h2, h3⟩
  · rcases h3 q hq with e | e
    · exact h.own q e
    · exact Nat.le_trans h.since.size e
  · exact h.since.trans (h2.below h.since.size (fun q hq => by
      rcases hq with rfl | hq
      · exact h.lo
      · exact h.own q hq))
theorem PS.below {w0 W w' : World} {pb : Nat} {d : Pd} {va : Option Addr} {c : Nat} (h : PS w0 pb d va c W) (hb : Below W.heap.size W w') : PS w0 pb d va c w' := ⟨h.at_.below hb, h.lo, h.own, grew h.since hb⟩
theorem PS.mine {w0 W : World} {pb : Nat} {d : Pd} {va : Option Addr} {c : Nat} (h : PS w0 pb d va c W) : ∀ q, mineP pb va q → w0.heap.size ≤ q := fun q hq => by
  rcases hq with rfl | hq
  · exact h.lo
  · exact h.own q hq
theorem PS.lt {w0 W : World} {pb : Nat} {d : Pd} {va : Option Addr} {c : Nat} (h : PS w0 pb d va c W) : ∀ q, mineP pb va q → q < W.heap.size := fun q hq => by
  rcases hq with rfl | hq
  · exact h.at_.obj.lt
  · exact h.at_.row.lt hq
theorem rcAt_whole19 {W : World} {q : Nat} {t : TypeId} {rs : List Rc} (h : Whole W q t (rcRows rs)) : RcAt W (some ⟨q, 0, none⟩) rs := fun i r hi =>
  ⟨q, 0, rfl, h.lt, fun j v hj => by rw [Nat.zero_add, h.cell]; exact rcRows_at rs i r hi j v hj⟩
abbrev ga : Rc := ⟨0, 0, ⟨#[]⟩, ⟨#[97]⟩, false, 0, 0, 0⟩
abbrev gb : Rc := ⟨2, 0, ⟨#[]⟩, ⟨#[98]⟩, false, 0, 0, 0⟩
abbrev gap1 : Pd := ⟨0, 3, 0, [ga, gb]⟩
abbrev gap2 : Pd := ⟨0, 3, 3, [ga, gb]⟩
theorem gap_app : (Pd.mk 0 0 0 []).app [ga, gb] = (0, gap1) := by
  have h : checkP 0 1048577 [ga, gb] = 0 := by decide
  unfold Pd.app
  rw [if_pos h]
  rfl
theorem gap_mark : gap1.mark = gap2 := rfl
theorem gap_fetch1 : fetchL gap1 1 9 = [] ∧ fetchN gap1 1 9 = 0 ∧ fetchE gap1 1 = 34 := by decide +kernel
theorem gap_fetch2 : fetchL gap2 1 9 = [gb] ∧ fetchN gap2 1 9 = 3 ∧ fetchE gap2 1 = 0 := ⟨by rfl, by rfl, by rfl⟩
theorem gap_bytes : (packL [ga, gb]).length = 18 := by decide +kernel
theorem gap_ok : ∀ r ∈ [ga, gb], r.ok := by decide
theorem gap_ris : risL [ga, gb] := ⟨fun x hx => by rw [List.mem_singleton.1 hx]; decide, fun x hx => (by cases hx), trivial⟩
set_option maxRecDepth 100000 in
set_option maxHeartbeats 4000000 in
theorem gap_any (w : World) : Calls Try.prog 9 #[] w fun e w' => e = .returned (.bool true) ∧ Below w.heap.size w w' := by
  have hn := Lib.hid (pnew_any w)
  have hsm := Lib.hid (fun (va vb : Option Addr) (ca cb : Nat) W (ha : RcAt W va [gb]) (hb : RcAt W vb [gb]) => same_recs va vb 1 ca cb [gb] W ha hb rfl (by decide) (fun r hr => by rw [List.mem_singleton.1 hr]; exact ok_wf (by decide)))
  go_enter Try.func9, Try.ntmps9
  go_wp2_with fail
  refine hn.out.mono ?_
  rintro _ w1 ⟨pb, rfl, hp1, hlo, hb1⟩
  have s1 : PS w pb ⟨0, 0, 0, []⟩ none 0 w1 := ⟨hp1, hlo, (fun q ⟨o, e⟩ => by cases e), hb1⟩
  obtain ⟨V, hV⟩ : ∃ V, Hid (V = w1.alloc (.cells #[.int .i64 0, .int .i64 0, .string ⟨#[]⟩, .string ⟨#[97]⟩, .bool false, .int .i64 0, .int .i64 0, .int .i64 0, .int .i64 2, .int .i64 0, .string ⟨#[]⟩, .string ⟨#[98]⟩, .bool false, .int .i64 0, .int .i64 0, .int .i64 0] 40)) := ⟨_, Lib.hid rfl⟩
  have hbV : Below w1.heap.size w1 V := by rw [hV.out]; exact grewAlloc (Below.refl _ _) _
  have hX : RcAt V (some ⟨w1.heap.size, 0, none⟩) [ga, gb] := rcAt_whole19 (t := 40) (by rw [hV.out]; exact Whole.new w1 _ _)
  have s2 := s1.below hbV
  have hap := pappend_any s2.at_ (some ⟨w1.heap.size, 0, none⟩) 2 [ga, gb] hX (by decide) (fun _ q hq hm => by
    obtain ⟨o, e⟩ := hq
    cases e
    have := s1.lt _ hm
    omega) (by decide)
  rw [gap_app] at hap
  have hap2 := Lib.hid hap
  obtain ⟨q, hq⟩ : ∃ q, Hid (w1.heap.size = q) := ⟨_, Lib.hid rfl⟩
  rw [hq.out] at hap2
  replace s2 := Lib.hid s2
  clear hn hp1 hlo hb1 s1 hbV hX hap
  go_wp2_with fail
  rw [← show V = _ from hV.out, hq.out]
  clear hV hq
  refine hap2.out.mono ?_
  rintro _ w2 ⟨rfl, hl2⟩
  obtain ⟨va2, c2, s3, _, _⟩ := s2.out.left hl2
  have hf := pfetch_any s3.at_ 1 9 (by decide) gap_ris gap_ok (by decide)
  rw [gap_fetch1.1, gap_fetch1.2.1, gap_fetch1.2.2] at hf
  replace hf := Lib.hid hf
  replace s3 := Lib.hid s3
  clear hap2 s2 hl2
  go_wp2_with fail
  refine hf.out.mono ?_
  rintro _ w3 ⟨A3, c3, rfl, _, hb3⟩
  have s4 := s3.out.below hb3
  have hm := Lib.hid (pmark_any s4.at_)
  rw [gap_mark] at hm
  replace s4 := Lib.hid s4
  clear hf s3 hb3
  go_wp2_with fail
  refine hm.out.mono ?_
  rintro _ w4 ⟨rfl, hl4⟩
  obtain ⟨va5, c5, s5, _, _⟩ := s4.out.left hl4
  have hf := pfetch_any s5.at_ 1 9 (by decide) gap_ris gap_ok (by decide)
  rw [gap_fetch2.1, gap_fetch2.2.1, gap_fetch2.2.2] at hf
  replace hf := Lib.hid hf
  replace s5 := Lib.hid s5
  clear hm s4 hl4
  go_wp2_with fail
  refine hf.out.mono ?_
  rintro _ w5 ⟨A6, c6, rfl, hr6, hb5⟩
  obtain ⟨V2, hV2⟩ : ∃ V, Hid (V = w5.alloc (.cells #[.int .i64 2, .int .i64 0, .string ⟨#[]⟩, .string ⟨#[98]⟩, .bool false, .int .i64 0, .int .i64 0, .int .i64 0] 40)) := ⟨_, Lib.hid rfl⟩
  have hbV : Below w5.heap.size w5 V2 := by rw [hV2.out]; exact grewAlloc (Below.refl _ _) _
  have hY : RcAt V2 (some ⟨w5.heap.size, 0, none⟩) [gb] := rcAt_whole19 (t := 40) (by rw [hV2.out]; exact Whole.new w5 _ _)
  have hs := Lib.hid (hsm.out A6 (some ⟨w5.heap.size, 0, none⟩) c6 1 V2 ((hr6.below hbV).at_) hY)
  have s6 := Lib.hid ((s5.out.below hb5).below hbV)
  clear hf s5 hb5 hr6 hbV hY
  go_wp2_with fail
  rw [← show V2 = _ from hV2.out]
  clear hV2
  refine hs.out.mono ?_
  rintro _ w6 ⟨rfl, hb6⟩
  have s7 := s6.out.below hb6
  obtain ⟨p0, p1, p2, p3⟩ := s7.at_.cells
  have h1 := Lib.hid (pnext_any w6 _ p1)
  have h2 := Lib.hid (pseen_any w6 _ p2)
  have h3 := pbytes_any s7.at_ (by decide) gap_ok
  rw [gap_bytes] at h3
  replace h3 := Lib.hid h3
  replace s7 := Lib.hid s7
  clear hs s6 hb6 p0 p1 p2 p3
  go_wp2_with fail
  refine h1.out.mono ?_
  rintro _ w7 ⟨rfl, rfl⟩
  go_wp2_with fail
  refine h2.out.mono ?_
  rintro _ w7 ⟨rfl, rfl⟩
  go_wp2_with fail
  refine h3.out.mono ?_
  rintro _ w7 ⟨rfl, hb7⟩
  have hfin := Lib.hid (s7.out.below hb7).since
  clear h1 h2 h3 s7 hb7
  go_wp2_with fail
  go_ret
  exact ⟨rfl, hfin.out⟩
end Go.Proofs.Ytahljbjgenepaaa.W
