/- For every head and any two batches the law BatchParts returns true: the records of both, the second one behind the first, are those of the two together, as long as these are a batch. No condition. -/
import Derived.Test.YtbbeapglkdkajaaRows
import Derived.Test.YtbbeapglkdkajaaBtT
import Derived.Test.YtbbeapglkdkajaaOpenPr
import Derived.ChangeOld
import Derived.ShutString
import Derived.Deep.Cut
import Derived.Deep.LoopGhost
import Derived.Deep.AppendLies
namespace Go.Proofs.Ytbbeapglkdkajaa.batchParts
open Go.ChangeShapes Go.WideShapes Go.ChangeAt Go.RowKit Go.Sort
open Go.ChangeMaps (open_string shut_string)
open Go.Proofs.Ytbbeapglkdkajaa.M Go.Proofs.Ytbbeapglkdkajaa.W Go.Proofs.Ytbbeapglkdkajaa.D Go.Proofs.Ytbbeapglkdkajaa.Z
set_option linter.unusedVariables false
set_option linter.unusedSimpArgs false

theorem right_zero {ps : List Pr} (h : rightF ps = 0) : ps ≠ [] ∧ ps.length ≤ 8 := by
  unfold rightF at h
  by_cases h1 : ps = [] ∨ ¬ (∀ p ∈ ps, p.ok)
  · rw [if_pos h1] at h; omega
  · rw [if_neg h1] at h
    by_cases h2 : 8 < ps.length ∨ 500 < wtL ps
    · rw [if_pos h2] at h; omega
    · exact ⟨fun e => h1 (.inl e), by omega⟩
/-- The head of the second part. -/
def nextH (h : Rc) (m : Nat) : Rc := ⟨h.off + (m : Int), h.tick, h.key, h.val, h.gone, h.prod, if h.prod = 0 then h.seq else h.seq + (m : Int), h.frm⟩
theorem wf_i64 {x : Int} (h : (Lit.int .i64 x).wf = true) : -9223372036854775808 ≤ x ∧ x ≤ 9223372036854775807 := by
  simp [Lit.wf, IntKind.min, IntKind.max, IntKind.signed, IntKind.bits] at h
  omega
/-- A head of records that may be. -/
def HeadOk (h : Rc) : Prop := (0 ≤ h.off ∧ h.off ≤ 1048576) ∧ (h.prod = 0 ∨ (0 ≤ h.seq ∧ h.seq ≤ 1099511627776))
theorem head_ok {h : Rc} (hw : wfR h) {p : Pr} (hm : (behF h 0 p).may = true) : HeadOk h := by
  obtain ⟨o1, o2⟩ := wf_i64 hw.1
  obtain ⟨s1, s2⟩ := wf_i64 hw.2.2.2.2.2.1
  have h1 : (behF h 0 p).ok := of_decide_eq_true hm
  obtain ⟨h2, _, _, h3, _⟩ := h1
  have e1 : IntKind.i64.wrap (h.off + ((0 : Nat) : Int)) = h.off := by rw [IntWalk.i64_in _ (by omega)]; omega
  have e2 : IntKind.i64.wrap (h.seq + ((0 : Nat) : Int)) = h.seq := by rw [IntWalk.i64_in _ (by omega)]; omega
  unfold behF at h2 h3
  simp only [e1, e2] at h2 h3
  refine ⟨h2, ?_⟩
  by_cases hp : h.prod = 0
  · exact .inl hp
  · rw [if_neg hp] at h3; exact .inr h3
theorem beh_next {h : Rc} (hk : HeadOk h) (m i : Nat) (hm : m + i ≤ 100) (p : Pr) : behF h (i + m) p = behF (nextH h m) i p := by
  obtain ⟨⟨o1, o2⟩, hs⟩ := hk
  have e1 : IntKind.i64.wrap (h.off + ((i + m : Nat) : Int)) = IntKind.i64.wrap (h.off + (m : Int) + (i : Int)) := by
    rw [IntWalk.i64_in _ (by omega), IntWalk.i64_in _ (by omega)]; omega
  unfold behF nextH
  simp only [e1]
  rcases hs with hs | ⟨s1, s2⟩
  · simp only [hs, if_true]
  · by_cases hp : h.prod = 0
    · simp only [hp, if_true]
    · have e2 : IntKind.i64.wrap (h.seq + ((i + m : Nat) : Int)) = IntKind.i64.wrap (h.seq + (m : Int) + (i : Int)) := by
        rw [IntWalk.i64_in _ (by omega), IntWalk.i64_in _ (by omega)]; omega
      simp only [if_neg hp, e2]
theorem recs_parts {h : Rc} (hk : HeadOk h) (a b : List Pr) (ha : a.length ≤ 8) (hb : b.length ≤ 8) : recsF h (a ++ b) = recsF h a ++ recsF (nextH h a.length) b := by
  unfold recsF
  rw [List.mapIdx_append]
  congr 1
  apply List.ext_getElem?
  intro i
  rw [List.getElem?_mapIdx, List.getElem?_mapIdx]
  cases hi : b[i]? with
  | none => rfl
  | some p =>
    have := (List.getElem?_eq_some_iff.1 hi).1
    simp only [Option.map_some]
    rw [beh_next hk a.length i (by omega) p]
theorem own_nil {W : World} {B : Nat} {e : TypeId} {sz : Nat} : W.ownsRow B e sz (.slice none 0 0) 0 [] := ⟨by simp, .inl ⟨rfl, rfl⟩⟩
theorem prs_news {W : World} {b o : Nat} {ps : List Pr} (h : PrAt W (some ⟨b, o, none⟩) ps) : ∀ j u, (prRows ps)[j]? = some u → W.cell? ((⟨b, o, none⟩ : Addr).add j) = some u := fun j u hu => by
  have hj := (List.getElem?_eq_some_iff.1 hu).1
  rw [prRows_len] at hj
  obtain ⟨p, hp⟩ : ∃ p, ps[j / 3]? = some p := ⟨_, List.getElem?_eq_getElem (by omega)⟩
  have hm : j % 3 < (prL p).length := by simp; omega
  have hr := prRows_at ps (j / 3) p hp (j % 3) _ (List.getElem?_eq_getElem hm)
  have e : j / 3 * 3 + j % 3 = j := by omega
  rw [e, hu] at hr
  obtain ⟨b', o', e', _, hc⟩ := h (j / 3) p hp
  cases e'
  have h1 := hc (j % 3) _ (List.getElem?_eq_getElem hm)
  rw [← Option.some.inj hr, Nat.add_assoc, e] at h1
  rw [show (⟨b, o, none⟩ : Addr).add j = ⟨b, o + j, none⟩ from by unfold Addr.add; split <;> simp_all]
  exact h1
theorem prs_one (ps : List Pr) : ∀ v ∈ prRows ps, v.oneCell' = true := fun v hv => by
  unfold prRows at hv
  obtain ⟨p, _, hp⟩ := List.mem_flatMap.1 hv
  simp only [List.mem_cons, List.not_mem_nil, or_false] at hp
  rcases hp with rfl | rfl | rfl <;> rfl
/-- Rows appended to a row of one's own. -/
theorem prs_app {ops : Array Oper} {rest : List Oper} {o : Oper} {a : Act} {W w0 : World} {Q : Exit → Act → World → Prop} (hgd : o.guard = none) (s x : Operand)
    (ho : o.op = .call { callee := .builtin .append, args := #[s, x], argTypes := #[22, 22] }) (v : Value) (n : Nat) (xs : List Pr) (hs : a.eval s = v) (hown : W.ownsRow w0.heap.size 26 3 v n (prRows xs)) (hB : Below w0.heap.size w0 W)
    (va : Option Addr) (m c : Nat) (ps : List Pr) (hx : a.eval x = .slice va m c) (hl : ps.length = m) (hat : PrAt W va ps) (hm : 0 < m) (hnm : n + m ≤ 100000)
    (h : ∀ g cap w', w'.ownsRow w0.heap.size 26 3 (.slice (some ⟨g, 0, none⟩) (n + m) cap) (n + m) (prRows (xs ++ ps)) → Below w0.heap.size w0 w' → wpList Try.prog ops Q rest (a.put o.dst (.slice (some ⟨g, 0, none⟩) (n + m) cap)) w') : wpList Try.prog ops Q (o :: rest) a W := by
  obtain ⟨i0, hi0, hz0, hz1, hz2⟩ := info_parts infoPr
  obtain ⟨p0, hp0⟩ : ∃ p, ps[0]? = some p := ⟨_, List.getElem?_eq_getElem (by omega)⟩
  obtain ⟨b, oo, rfl, _, _⟩ := hat 0 p0 hp0
  refine wpList_append_lies W hgd s x _ ho w0.heap.size 26 i0 _ 3 40 Try.underlying22 hi0 hz0 hz1 hz2 rfl (by omega) v n (prRows xs) hs hown _ m c (prRows ps) hx (by rw [prRows_len, hl]) (prs_news hat) (prs_one ps) hm (by unfold maxLen; omega) (by omega) hB.size _ rfl ?_
  intro g cap w' hown' hgrow hat' hlt'
  rw [← prRows_append] at hown'
  exact h g cap w' hown' (((Kept.of_below (own := fun _ => False) hB).grown hgrow (fun q hq => .inr (ownFar hown q hq))).below (Nat.le_refl _) (fun _ h => h.elim))
theorem rcs_news {W : World} {b o : Nat} {ps : List Rc} (h : RcAt W (some ⟨b, o, none⟩) ps) : ∀ j u, (rcRows ps)[j]? = some u → W.cell? ((⟨b, o, none⟩ : Addr).add j) = some u := fun j u hu => by
  have hj := (List.getElem?_eq_some_iff.1 hu).1
  rw [rcRows_len] at hj
  obtain ⟨p, hp⟩ : ∃ p, ps[j / 8]? = some p := ⟨_, List.getElem?_eq_getElem (by omega)⟩
  have hm : j % 8 < (rcL p).length := by simp; omega
  have hr := rcRows_at ps (j / 8) p hp (j % 8) _ (List.getElem?_eq_getElem hm)
  have e : j / 8 * 8 + j % 8 = j := by omega
  rw [e, hu] at hr
  obtain ⟨b', o', e', _, hc⟩ := h (j / 8) p hp
  cases e'
  have h1 := hc (j % 8) _ (List.getElem?_eq_getElem hm)
  rw [← Option.some.inj hr, Nat.add_assoc, e] at h1
  rw [show (⟨b, o, none⟩ : Addr).add j = ⟨b, o + j, none⟩ from by unfold Addr.add; split <;> simp_all]
  exact h1
theorem rcs_one (ps : List Rc) : ∀ v ∈ rcRows ps, v.oneCell' = true := fun v hv => by
  unfold rcRows at hv
  obtain ⟨p, _, hp⟩ := List.mem_flatMap.1 hv
  simp only [List.mem_cons, List.not_mem_nil, or_false] at hp
  rcases hp with rfl | rfl | rfl | rfl | rfl | rfl | rfl | rfl <;> rfl
/-- Rows appended to a row of one's own. -/
theorem rcs_app {ops : Array Oper} {rest : List Oper} {o : Oper} {a : Act} {W w0 : World} {Q : Exit → Act → World → Prop} (hgd : o.guard = none) (s x : Operand)
    (ho : o.op = .call { callee := .builtin .append, args := #[s, x], argTypes := #[30, 30] }) (v : Value) (n : Nat) (xs : List Rc) (hs : a.eval s = v) (hown : W.ownsRow w0.heap.size 33 8 v n (rcRows xs)) (hB : Below w0.heap.size w0 W)
    (va : Option Addr) (m c : Nat) (ps : List Rc) (hx : a.eval x = .slice va m c) (hl : ps.length = m) (hat : RcAt W va ps) (hm : 0 < m) (hnm : n + m ≤ 100000)
    (h : ∀ g cap w', w'.ownsRow w0.heap.size 33 8 (.slice (some ⟨g, 0, none⟩) (n + m) cap) (n + m) (rcRows (xs ++ ps)) → Below w0.heap.size w0 w' → wpList Try.prog ops Q rest (a.put o.dst (.slice (some ⟨g, 0, none⟩) (n + m) cap)) w') : wpList Try.prog ops Q (o :: rest) a W := by
  obtain ⟨i0, hi0, hz0, hz1, hz2⟩ := info_parts infoRd
  obtain ⟨p0, hp0⟩ : ∃ p, ps[0]? = some p := ⟨_, List.getElem?_eq_getElem (by omega)⟩
  obtain ⟨b, oo, rfl, _, _⟩ := hat 0 p0 hp0
  refine wpList_append_lies W hgd s x _ ho w0.heap.size 33 i0 _ 8 80 Try.underlying30 hi0 hz0 hz1 hz2 rfl (by omega) v n (rcRows xs) hs hown _ m c (rcRows ps) hx (by rw [rcRows_len, hl]) (rcs_news hat) (rcs_one ps) hm (by unfold maxLen; omega) (by omega) hB.size _ rfl ?_
  intro g cap w' hown' hgrow hat' hlt'
  rw [← rcRows_append] at hown'
  exact h g cap w' hown' (((Kept.of_below (own := fun _ => False) hB).grown hgrow (fun q hq => .inr (ownFar hown q hq))).below (Nat.le_refl _) (fun _ h => h.elim))

set_option maxRecDepth 100000 in
set_option maxHeartbeats 4000000 in
theorem walk_bad (hd : Rc) (a1 : Option Addr) (n1 c1 : Nat) (A : List Pr) (a2 : Option Addr) (n2 c2 : Nat) (C : List Pr) (w : World) (w0 : wfR hd) (w1 : PrIn w a1 n1 A) (w2 : PrIn w a2 n2 C) (hbad : bigP A = true ∨ bigP C = true ∨ 300 < hd.key.size ∨ 300 < hd.val.size ∨ rightF A ≠ 0 ∨ rightF C ≠ 0) :
    Calls Try.prog 5 #[.agg #[.int .i64 hd.off, .int .i64 hd.tick, .string hd.key, .string hd.val, .bool hd.gone, .int .i64 hd.prod, .int .i64 hd.seq, .int .i64 hd.frm], .slice a1 n1 c1, .slice a2 n2 c2] w fun e w' => e = .returned (.bool true) ∧ Below w.heap.size w w' := by
  obtain ⟨hn1, hat1, hwf1⟩ := w1
  obtain ⟨hn2, hat2, hwf2⟩ := w2
  clear hwf1 hwf2
  obtain ⟨V, hV⟩ : ∃ V, Hid (V = w.alloc (.cells #[.int .i64 hd.off, .int .i64 hd.tick, .string hd.key, .string hd.val, .bool hd.gone, .int .i64 hd.prod, .int .i64 hd.seq, .int .i64 hd.frm] 33)) := ⟨_, Lib.hid rfl⟩
  have hb0 : Below w.heap.size w V := by rw [hV.out]; exact grewAlloc (Below.refl _ _) _
  have hH0 : Whole V w.heap.size 33 (rcL hd) := by rw [hV.out]; exact Whole.new w _ _
  obtain ⟨hb, hhb⟩ : ∃ hb, Hid (w.heap.size = hb) := ⟨_, Lib.hid rfl⟩
  have hbB : w.heap.size ≤ hb := by rw [← hhb.out]; exact Nat.le_refl _
  rw [hhb.out] at hH0
  have hla := fun W (hW : Below V.heap.size V W) => plarge_any a1 c1 A W (hat1.below (grew hb0 hW))
  have hlc := fun W (hW : Below V.heap.size V W) => plarge_any a2 c2 C W (hat2.below (grew hb0 hW))
  rw [hn1] at hla
  rw [hn2] at hlc
  replace hb0 := Lib.hid hb0
  replace hH0 := Lib.hid hH0
  replace hat1 := Lib.hid hat1
  replace hat2 := Lib.hid hat2
  by_cases hA : bigP A = true
  · rw [hA] at hla
    replace hla := Lib.hid hla
    clear hA hlc
    go_enter Try.func5, Try.ntmps5
    go_upto_region 1 with fail
    rw [← show V = _ from hV.out, hhb.out]
    clear hV hhb
    go_wp2_with fail
    refine (hla.out _ (Below.refl _ _)).mono ?_
    rintro e w1 ⟨rfl, hb1⟩
    replace hb1 := Lib.hid hb1
    have hBx := Lib.hid (grew hb0.out hb1.out)
    clear hb0 hb1 hla
    go_wp2_with fail
    refine (two17_any _).mono ?_
    rintro e w9 ⟨rfl, hb9⟩
    have hB9 := Lib.hid (grew hBx.out hb9)
    clear hb9
    go_wp2_with fail
    go_ret
    exact ⟨rfl, hB9.out⟩
  replace hA : bigP A = false := by simpa using hA
  rw [hA] at hla
  replace hla := Lib.hid hla
  by_cases hC : bigP C = true
  · rw [hC] at hlc
    replace hlc := Lib.hid hlc
    clear hA hC
    go_enter Try.func5, Try.ntmps5
    go_upto_region 1 with fail
    rw [← show V = _ from hV.out, hhb.out]
    clear hV hhb
    go_wp2_with fail
    refine (hla.out _ (Below.refl _ _)).mono ?_
    rintro e w1 ⟨rfl, hb1⟩
    replace hb1 := Lib.hid hb1
    go_wp2_with fail
    refine (hlc.out _ hb1.out).mono ?_
    rintro e w2 ⟨rfl, hb2⟩
    have hBx := Lib.hid (grew hb0.out (grew hb1.out hb2))
    clear hb0 hb1 hb2 hla hlc
    go_wp2_with fail
    refine (two17_any _).mono ?_
    rintro e w9 ⟨rfl, hb9⟩
    have hB9 := Lib.hid (grew hBx.out hb9)
    clear hb9
    go_wp2_with fail
    go_ret
    exact ⟨rfl, hB9.out⟩
  replace hC : bigP C = false := by simpa using hC
  rw [hC] at hlc
  replace hlc := Lib.hid hlc
  have hA2 : n1 ≤ 30 := by
    unfold bigP at hA
    rw [Bool.or_eq_false_iff] at hA
    have := hA.1
    simp at this
    omega
  have hC2 : n2 ≤ 30 := by
    unfold bigP at hC
    rw [Bool.or_eq_false_iff] at hC
    have := hC.1
    simp at this
    omega
  have hA' := hA
  have hC' := hC
  clear hA hC
  have hra := fun W (hW : Below V.heap.size V W) => rright_any a1 c1 A W (hat1.out.below (grew hb0.out hW)) (by omega)
  have hrc := fun W (hW : Below V.heap.size V W) => rright_any a2 c2 C W (hat2.out.below (grew hb0.out hW)) (by omega)
  rw [hn1] at hra
  rw [hn2] at hrc
  go_enter Try.func5, Try.ntmps5
  go_upto_region 1 with fail
  rw [← show V = _ from hV.out, hhb.out]
  clear hV hhb
  replace hra := Lib.hid hra
  replace hrc := Lib.hid hrc
  go_wp2_with fail
  refine (hla.out _ (Below.refl _ _)).mono ?_
  rintro e w1 ⟨rfl, hb1⟩
  replace hb1 := Lib.hid hb1
  clear hla
  go_wp2_with fail
  refine (hlc.out _ hb1.out).mono ?_
  rintro e w2 ⟨rfl, hb2⟩
  have hB2 := Lib.hid (grew hb1.out hb2)
  have hH2 := hH0.out.below hB2.out hH0.out.lt
  obtain ⟨y0, y1, y2, y3, y4, y5, y6, y7⟩ := recCells hH2
  replace hH2 := Lib.hid hH2
  clear hlc hb1 hb2
  by_cases hk : 300 < hd.key.size
  · have hki : (300 : Int) < (hd.key.size : Int) := by omega
    have hBx := Lib.hid (grew hb0.out hB2.out)
    go_wp2_with fail
    refine (two17_any _).mono ?_
    rintro e w9 ⟨rfl, hb9⟩
    have hB9 := Lib.hid (grew hBx.out hb9)
    clear hb9
    go_wp2_with fail
    go_ret
    exact ⟨rfl, hB9.out⟩
  have hki : (hd.key.size : Int) ≤ 300 := by omega
  by_cases hv : 300 < hd.val.size
  · have hvi : (300 : Int) < (hd.val.size : Int) := by omega
    have hBx := Lib.hid (grew hb0.out hB2.out)
    go_wp2_with fail
    refine (two17_any _).mono ?_
    rintro e w9 ⟨rfl, hb9⟩
    have hB9 := Lib.hid (grew hBx.out hb9)
    clear hb9
    go_wp2_with fail
    go_ret
    exact ⟨rfl, hB9.out⟩
  have hvi : (hd.val.size : Int) ≤ 300 := by omega
  obtain ⟨X1, hX1⟩ : ∃ X, Hid (rightF A = X) := ⟨_, Lib.hid rfl⟩
  obtain ⟨X2, hX2⟩ : ∃ X, Hid (rightF C = X) := ⟨_, Lib.hid rfl⟩
  rw [hX1.out] at hra
  rw [hX2.out] at hrc
  by_cases hz1 : ¬ X1 = 0
  · have hz1b : (X1 == 0) = false := by simp [hz1]
    go_wp2_with fail
    refine (hra.out _ hB2.out).mono ?_
    rintro e w3 ⟨rfl, hb3⟩
    have hBx := Lib.hid (grew hb0.out (grew hB2.out hb3))
    clear hb3
    go_wp2_with fail
    refine (two17_any _).mono ?_
    rintro e w9 ⟨rfl, hb9⟩
    have hB9 := Lib.hid (grew hBx.out hb9)
    clear hb9
    go_wp2_with fail
    go_ret
    exact ⟨rfl, hB9.out⟩
  obtain rfl : X1 = 0 := Classical.not_not.1 hz1
  clear hz1
  go_wp2_with fail
  refine (hra.out _ hB2.out).mono ?_
  rintro e w3 ⟨rfl, hb3⟩
  have hB3 := Lib.hid (grew hB2.out hb3)
  clear hb3 hra y0 y1 y2 y3 y4 y5 y6 y7
  by_cases hz2 : ¬ X2 = 0
  · have hz2b : (X2 == 0) = false := by simp [hz2]
    have hz2c : (X2 != 0) = true := by simp [hz2]
    replace hz2 := Lib.hid hz2
    go_wp2_with fail
    refine (hrc.out _ hB3.out).mono ?_
    rintro e w4 ⟨rfl, hb4⟩
    have hBx := Lib.hid (grew hb0.out (grew hB3.out hb4))
    clear hb4
    go_wp2_with fail
    refine (two17_any _).mono ?_
    rintro e w9 ⟨rfl, hb9⟩
    have hB9 := Lib.hid (grew hBx.out hb9)
    clear hb9
    go_wp2_with fail
    go_ret
    exact ⟨rfl, hB9.out⟩
  exfalso
  rcases hbad with h | h | h | h | h | h
  · rw [hA'] at h; cases h
  · rw [hC'] at h; cases h
  · exact hk h
  · exact hv h
  · exact h hX1.out
  · exact h (by rw [hX2.out]; exact Classical.not_not.1 hz2)
set_option maxRecDepth 100000 in
set_option maxHeartbeats 4000000 in
theorem walk_none (hd : Rc) (a1 : Option Addr) (n1 c1 : Nat) (A : List Pr) (a2 : Option Addr) (n2 c2 : Nat) (C : List Pr) (w : World) (w0 : wfR hd) (w1 : PrIn w a1 n1 A) (w2 : PrIn w a2 n2 C) (hA : bigP A = false) (hC : bigP C = false) (hk : ¬ 300 < hd.key.size) (hv : ¬ 300 < hd.val.size) (hz1 : rightF A = 0) (hz2 : rightF C = 0) (hno : rightF (A ++ C) ≠ 0 ∨ (recsF hd (A ++ C)).all Rc.may = false) :
    Calls Try.prog 5 #[.agg #[.int .i64 hd.off, .int .i64 hd.tick, .string hd.key, .string hd.val, .bool hd.gone, .int .i64 hd.prod, .int .i64 hd.seq, .int .i64 hd.frm], .slice a1 n1 c1, .slice a2 n2 c2] w fun e w' => e = .returned (.bool true) ∧ Below w.heap.size w w' := by
  replace hz1 := Lib.hid hz1
  replace hz2 := Lib.hid hz2
  replace hno := Lib.hid hno
  obtain ⟨hn1, hat1, hwf1⟩ := w1
  obtain ⟨hn2, hat2, hwf2⟩ := w2
  clear hwf1 hwf2
  obtain ⟨V, hV⟩ : ∃ V, Hid (V = w.alloc (.cells #[.int .i64 hd.off, .int .i64 hd.tick, .string hd.key, .string hd.val, .bool hd.gone, .int .i64 hd.prod, .int .i64 hd.seq, .int .i64 hd.frm] 33)) := ⟨_, Lib.hid rfl⟩
  have hb0 : Below w.heap.size w V := by rw [hV.out]; exact grewAlloc (Below.refl _ _) _
  have hH0 : Whole V w.heap.size 33 (rcL hd) := by rw [hV.out]; exact Whole.new w _ _
  obtain ⟨hb, hhb⟩ : ∃ hb, Hid (w.heap.size = hb) := ⟨_, Lib.hid rfl⟩
  have hbB : w.heap.size ≤ hb := by rw [← hhb.out]; exact Nat.le_refl _
  rw [hhb.out] at hH0
  have hla := fun W (hW : Below V.heap.size V W) => plarge_any a1 c1 A W (hat1.below (grew hb0 hW))
  have hlc := fun W (hW : Below V.heap.size V W) => plarge_any a2 c2 C W (hat2.below (grew hb0 hW))
  rw [hn1] at hla
  rw [hn2] at hlc
  replace hb0 := Lib.hid hb0
  replace hH0 := Lib.hid hH0
  replace hat1 := Lib.hid hat1
  replace hat2 := Lib.hid hat2
  rw [hA] at hla
  replace hla := Lib.hid hla
  rw [hC] at hlc
  replace hlc := Lib.hid hlc
  have hA2 : n1 ≤ 30 := by
    unfold bigP at hA
    rw [Bool.or_eq_false_iff] at hA
    have := hA.1
    simp at this
    omega
  have hC2 : n2 ≤ 30 := by
    unfold bigP at hC
    rw [Bool.or_eq_false_iff] at hC
    have := hC.1
    simp at this
    omega
  clear hA hC
  have hra := fun W (hW : Below V.heap.size V W) => rright_any a1 c1 A W (hat1.out.below (grew hb0.out hW)) (by omega)
  have hrc := fun W (hW : Below V.heap.size V W) => rright_any a2 c2 C W (hat2.out.below (grew hb0.out hW)) (by omega)
  rw [hn1] at hra
  rw [hn2] at hrc
  go_enter Try.func5, Try.ntmps5
  go_upto_region 1 with fail
  rw [← show V = _ from hV.out, hhb.out]
  clear hV hhb
  replace hra := Lib.hid hra
  replace hrc := Lib.hid hrc
  go_wp2_with fail
  refine (hla.out _ (Below.refl _ _)).mono ?_
  rintro e w1 ⟨rfl, hb1⟩
  replace hb1 := Lib.hid hb1
  clear hla
  go_wp2_with fail
  refine (hlc.out _ hb1.out).mono ?_
  rintro e w2 ⟨rfl, hb2⟩
  have hB2 := Lib.hid (grew hb1.out hb2)
  have hH2 := hH0.out.below hB2.out hH0.out.lt
  obtain ⟨y0, y1, y2, y3, y4, y5, y6, y7⟩ := recCells hH2
  replace hH2 := Lib.hid hH2
  clear hlc hb1 hb2
  have hki : (hd.key.size : Int) ≤ 300 := by omega
  have hvi : (hd.val.size : Int) ≤ 300 := by omega
  have hX1 := hz1
  have hX2 := hz2
  rw [hz1.out] at hra
  rw [hz2.out] at hrc
  go_wp2_with fail
  refine (hra.out _ hB2.out).mono ?_
  rintro e w3 ⟨rfl, hb3⟩
  have hB3 := Lib.hid (grew hB2.out hb3)
  clear hb3 hra y0 y1 y2 y3 y4 y5 y6 y7
  go_wp2_with fail
  refine (hrc.out _ hB3.out).mono ?_
  rintro e w4 ⟨rfl, hb4⟩
  have hB4 := grew hB3.out hb4
  have hH4 := hH0.out.below hB4 hH0.out.lt
  have hW4 := grew hb0.out hB4
  obtain ⟨ne1, le1⟩ := right_zero hX1.out
  obtain ⟨ne2, le2⟩ := right_zero hX2.out
  rw [hn1] at le1
  rw [hn2] at le2
  have hp1 : 0 < n1 := by rw [← hn1]; exact List.length_pos_iff.2 ne1
  have hp2 : 0 < n2 := by rw [← hn2]; exact List.length_pos_iff.2 ne2
  have hat14 := Lib.hid (hat1.out.below hW4)
  have hat24 := Lib.hid (hat2.out.below hW4)
  replace hH4 := Lib.hid hH4
  replace hW4 := Lib.hid hW4
  clear hB3 hb4 hB4 hrc hB2 hH2 hH0 hb0
  go_wp2_with (with_reducible refine zAppend _ _ _ rfl ?_)
  refine Lib.hid ?_
  refine prs_app (w0 := w4) rfl _ _ rfl (.slice none 0 0) 0 [] rfl own_nil (Below.refl _ _) a1 n1 c1 A rfl hn1 hat14.out hp1 (by omega) ?_
  intro g5 cap5 w5 hown5 hB5
  rw [Nat.zero_add, List.nil_append] at hown5
  rw [Nat.zero_add]
  have hat25 := Lib.hid (hat24.out.below hB5)
  replace hown5 := Lib.hid hown5
  replace hB5 := Lib.hid hB5
  go_wp2_with (with_reducible refine zAppend _ _ _ rfl ?_)
  refine Lib.hid ?_
  refine prs_app (w0 := w4) rfl _ _ rfl (.slice (some ⟨g5, 0, none⟩) n1 cap5) n1 A rfl hown5.out hB5.out a2 n2 c2 C rfl hn2 hat25.out hp2 (by omega) ?_
  intro g6 cap6 w6 hown6 hB6
  have hlen : (A ++ C).length = n1 + n2 := by rw [List.length_append, hn1, hn2]
  have hat6 := prAt_own hown6 hlen
  have hH6 := hH4.out.below hB6 hH4.out.lt
  have hW6 := hW4.out.trans (hB6.mono hW4.out.size)
  obtain ⟨y0, y1, y2, y3, y4, y5, y6, y7⟩ := recCells hH6
  have hrn := fun x hx hx0 => records_no hd (some ⟨g6, 0, none⟩) cap6 (A ++ C) w6 hat6 (by omega) x hx hx0
  have hrb := fun hx B hB => records_by hd (some ⟨g6, 0, none⟩) cap6 (A ++ C) w6 hat6 (by omega) hx B hB
  rw [hlen] at hrn hrb
  have hN : ((n1 + n2 : Nat) : Int) = (n1 : Int) + (n2 : Int) := by omega
  replace hH6 := Lib.hid hH6
  replace hW6 := Lib.hid hW6
  clear hown5 hB5 hat25 hown6 hat14 hat24 hB6 hH4 hat6
  obtain ⟨N, hNe⟩ : ∃ N, Hid (n1 + n2 = N) := ⟨_, Lib.hid rfl⟩
  rw [hNe.out] at hrn hrb ⊢
  clear hN
  by_cases hz3 : ¬ rightF (A ++ C) = 0
  · obtain ⟨x, hx, hx0⟩ : ∃ x, rightF (A ++ C) = x ∧ (x = 1 ∨ x = 2) := by
      refine ⟨_, rfl, ?_⟩
      unfold rightF at hz3 ⊢
      split
      · exact .inl rfl
      · rename_i h1
        rw [if_neg h1] at hz3
        split
        · exact .inr rfl
        · rename_i h2
          rw [if_neg h2] at hz3
          exact absurd rfl hz3
    have hr := Lib.hid (hrn x hx hx0)
    clear hrn hrb hz3 hx
    rcases hx0 with rfl | rfl
    all_goals
      go_wp2_with fail
      refine hr.out.mono ?_
      rintro e w7 ⟨rfl, hb7⟩
      have hBx := Lib.hid (grew hW6.out hb7)
      clear hb7 hr
      go_wp2_with fail
      refine (two17_any _).mono ?_
      rintro e w9 ⟨rfl, hb9⟩
      have hB9 := Lib.hid (grew hBx.out hb9)
      clear hb9
      go_wp2_with fail
      go_ret
      exact ⟨rfl, hB9.out⟩
  have hz := Classical.not_not.1 hz3
  clear hz3 hrn
  by_cases hB : ¬ (recsF hd (A ++ C)).all Rc.may = true
  · have hr := Lib.hid (hrb hz false (by simpa using hB))
    clear hrb hB hz
    go_wp2_with fail
    refine hr.out.mono ?_
    rintro e w7 ⟨q7, rfl, hr7, hb7, hq7⟩
    have hBx := Lib.hid (grew hW6.out hb7)
    clear hb7 hr hr7 hq7
    go_wp2_with fail
    refine (two17_any _).mono ?_
    rintro e w9 ⟨rfl, hb9⟩
    have hB9 := Lib.hid (grew hBx.out hb9)
    clear hb9
    go_wp2_with fail
    go_ret
    exact ⟨rfl, hB9.out⟩
  exfalso
  rcases hno.out with h | h
  · exact h hz
  · rw [Classical.not_not.1 hB] at h; cases h
set_option maxRecDepth 100000 in
set_option maxHeartbeats 8000000 in
theorem walk_zero (hd : Rc) (a1 : Option Addr) (n1 c1 : Nat) (A : List Pr) (a2 : Option Addr) (n2 c2 : Nat) (C : List Pr) (w : World) (w0 : wfR hd) (w1 : PrIn w a1 n1 A) (w2 : PrIn w a2 n2 C) (hA : bigP A = false) (hC : bigP C = false) (hk : ¬ 300 < hd.key.size) (hv : ¬ 300 < hd.val.size) (hz1 : rightF A = 0) (hz2 : rightF C = 0) (hz : rightF (A ++ C) = 0) (hB : (recsF hd (A ++ C)).all Rc.may = true) (hp : hd.prod = 0) :
    Calls Try.prog 5 #[.agg #[.int .i64 hd.off, .int .i64 hd.tick, .string hd.key, .string hd.val, .bool hd.gone, .int .i64 hd.prod, .int .i64 hd.seq, .int .i64 hd.frm], .slice a1 n1 c1, .slice a2 n2 c2] w fun e w' => e = .returned (.bool true) ∧ Below w.heap.size w w' := by
  replace hp := Lib.hid hp
  replace hz1 := Lib.hid hz1
  replace hz2 := Lib.hid hz2
  replace hz := Lib.hid hz
  replace hB := Lib.hid hB
  obtain ⟨hn1, hat1, hwf1⟩ := w1
  obtain ⟨hn2, hat2, hwf2⟩ := w2
  clear hwf1 hwf2
  obtain ⟨V, hV⟩ : ∃ V, Hid (V = w.alloc (.cells #[.int .i64 hd.off, .int .i64 hd.tick, .string hd.key, .string hd.val, .bool hd.gone, .int .i64 hd.prod, .int .i64 hd.seq, .int .i64 hd.frm] 33)) := ⟨_, Lib.hid rfl⟩
  have hb0 : Below w.heap.size w V := by rw [hV.out]; exact grewAlloc (Below.refl _ _) _
  have hH0 : Whole V w.heap.size 33 (rcL hd) := by rw [hV.out]; exact Whole.new w _ _
  obtain ⟨hb, hhb⟩ : ∃ hb, Hid (w.heap.size = hb) := ⟨_, Lib.hid rfl⟩
  have hbB : w.heap.size ≤ hb := by rw [← hhb.out]; exact Nat.le_refl _
  rw [hhb.out] at hH0
  have hla := fun W (hW : Below V.heap.size V W) => plarge_any a1 c1 A W (hat1.below (grew hb0 hW))
  have hlc := fun W (hW : Below V.heap.size V W) => plarge_any a2 c2 C W (hat2.below (grew hb0 hW))
  rw [hn1] at hla
  rw [hn2] at hlc
  replace hb0 := Lib.hid hb0
  replace hH0 := Lib.hid hH0
  replace hat1 := Lib.hid hat1
  replace hat2 := Lib.hid hat2
  rw [hA] at hla
  replace hla := Lib.hid hla
  rw [hC] at hlc
  replace hlc := Lib.hid hlc
  have hA2 : n1 ≤ 30 := by
    unfold bigP at hA
    rw [Bool.or_eq_false_iff] at hA
    have := hA.1
    simp at this
    omega
  have hC2 : n2 ≤ 30 := by
    unfold bigP at hC
    rw [Bool.or_eq_false_iff] at hC
    have := hC.1
    simp at this
    omega
  clear hA hC
  have hra := fun W (hW : Below V.heap.size V W) => rright_any a1 c1 A W (hat1.out.below (grew hb0.out hW)) (by omega)
  have hrc := fun W (hW : Below V.heap.size V W) => rright_any a2 c2 C W (hat2.out.below (grew hb0.out hW)) (by omega)
  rw [hn1] at hra
  rw [hn2] at hrc
  go_enter Try.func5, Try.ntmps5
  go_upto_region 1 with fail
  rw [← show V = _ from hV.out, hhb.out]
  clear hV hhb
  replace hra := Lib.hid hra
  replace hrc := Lib.hid hrc
  go_wp2_with fail
  refine (hla.out _ (Below.refl _ _)).mono ?_
  rintro e w1 ⟨rfl, hb1⟩
  replace hb1 := Lib.hid hb1
  clear hla
  go_wp2_with fail
  refine (hlc.out _ hb1.out).mono ?_
  rintro e w2 ⟨rfl, hb2⟩
  have hB2 := Lib.hid (grew hb1.out hb2)
  have hH2 := hH0.out.below hB2.out hH0.out.lt
  obtain ⟨y0, y1, y2, y3, y4, y5, y6, y7⟩ := recCells hH2
  replace hH2 := Lib.hid hH2
  clear hlc hb1 hb2
  have hki : (hd.key.size : Int) ≤ 300 := by omega
  have hvi : (hd.val.size : Int) ≤ 300 := by omega
  have hX1 := hz1
  have hX2 := hz2
  rw [hz1.out] at hra
  rw [hz2.out] at hrc
  go_wp2_with fail
  refine (hra.out _ hB2.out).mono ?_
  rintro e w3 ⟨rfl, hb3⟩
  have hB3 := Lib.hid (grew hB2.out hb3)
  clear hb3 hra y0 y1 y2 y3 y4 y5 y6 y7
  go_wp2_with fail
  refine (hrc.out _ hB3.out).mono ?_
  rintro e w4 ⟨rfl, hb4⟩
  have hB4 := grew hB3.out hb4
  have hH4 := hH0.out.below hB4 hH0.out.lt
  have hW4 := grew hb0.out hB4
  obtain ⟨ne1, le1⟩ := right_zero hX1.out
  obtain ⟨ne2, le2⟩ := right_zero hX2.out
  rw [hn1] at le1
  rw [hn2] at le2
  have hp1 : 0 < n1 := by rw [← hn1]; exact List.length_pos_iff.2 ne1
  have hp2 : 0 < n2 := by rw [← hn2]; exact List.length_pos_iff.2 ne2
  have hat14 := Lib.hid (hat1.out.below hW4)
  have hat24 := Lib.hid (hat2.out.below hW4)
  replace hH4 := Lib.hid hH4
  replace hW4 := Lib.hid hW4
  clear hB3 hb4 hB4 hrc hB2 hH2 hH0 hb0
  go_wp2_with (with_reducible refine zAppend _ _ _ rfl ?_)
  refine Lib.hid ?_
  refine prs_app (w0 := w4) rfl _ _ rfl (.slice none 0 0) 0 [] rfl own_nil (Below.refl _ _) a1 n1 c1 A rfl hn1 hat14.out hp1 (by omega) ?_
  intro g5 cap5 w5 hown5 hB5
  rw [Nat.zero_add, List.nil_append] at hown5
  rw [Nat.zero_add]
  have hat25 := Lib.hid (hat24.out.below hB5)
  replace hown5 := Lib.hid hown5
  replace hB5 := Lib.hid hB5
  go_wp2_with (with_reducible refine zAppend _ _ _ rfl ?_)
  refine Lib.hid ?_
  refine prs_app (w0 := w4) rfl _ _ rfl (.slice (some ⟨g5, 0, none⟩) n1 cap5) n1 A rfl hown5.out hB5.out a2 n2 c2 C rfl hn2 hat25.out hp2 (by omega) ?_
  intro g6 cap6 w6 hown6 hB6
  have hlen : (A ++ C).length = n1 + n2 := by rw [List.length_append, hn1, hn2]
  have hat6 := prAt_own hown6 hlen
  have hH6 := hH4.out.below hB6 hH4.out.lt
  have hW6 := hW4.out.trans (hB6.mono hW4.out.size)
  obtain ⟨y0, y1, y2, y3, y4, y5, y6, y7⟩ := recCells hH6
  have hrn := fun x hx hx0 => records_no hd (some ⟨g6, 0, none⟩) cap6 (A ++ C) w6 hat6 (by omega) x hx hx0
  have hrb := fun hx B hB => records_by hd (some ⟨g6, 0, none⟩) cap6 (A ++ C) w6 hat6 (by omega) hx B hB
  rw [hlen] at hrn hrb
  have hN : ((n1 + n2 : Nat) : Int) = (n1 : Int) + (n2 : Int) := by omega
  replace hH6 := Lib.hid hH6
  replace hW6 := Lib.hid hW6
  clear hown5 hB5 hat25 hown6 hat14 hat24 hB6 hH4 hat6
  obtain ⟨N, hNe⟩ : ∃ N, Hid (n1 + n2 = N) := ⟨_, Lib.hid rfl⟩
  rw [hNe.out] at hrn hrb ⊢
  clear hN
  clear hrn
  have hr := Lib.hid (hrb hz.out true hB.out)
  have hall := List.all_eq_true.1 hB.out
  have hhead : HeadOk hd := by
    obtain ⟨p, hp⟩ : ∃ p, A[0]? = some p := ⟨_, List.getElem?_eq_getElem (by omega)⟩
    refine head_ok w0 (p := p) (hall _ (List.mem_of_getElem? (i := 0) ?_))
    rw [recsF_at, List.getElem?_append_left (by omega), hp]
    rfl
  have hparts := recs_parts hhead A C (by omega) (by omega)
  rw [hn1] at hparts
  rw [hparts] at hall
  have hm1 : (recsF hd A).all Rc.may = true := List.all_eq_true.2 (fun x hx => hall x (List.mem_append_left _ hx))
  have hm2 : (recsF (nextH hd n1) C).all Rc.may = true := List.all_eq_true.2 (fun x hx => hall x (List.mem_append_right _ hx))
  have hwfW : ∀ r ∈ recsF hd (A ++ C), wfR r := fun r hr => ok_wf (of_decide_eq_true (List.all_eq_true.1 hB.out r hr))
  rw [hparts] at hwfW
  rw [hparts] at hr
  replace hwfW := Lib.hid hwfW
  clear hrb hB hall hparts hz
  go_wp2_with fail
  refine hr.out.mono ?_
  rintro e w7 ⟨q7, rfl, hr7, hb7, hq7⟩
  have hH7 := hH6.out.below hb7 hH6.out.lt
  have hW7 := grew hW6.out hb7
  have hq7b : q7 ≠ hb := by have := hH6.out.lt; omega
  have hra := Lib.hid (records_by hd a1 c1 A w7 (hat1.out.below hW7) (by omega) hX1.out true hm1)
  rw [hn1] at hra
  clear y0 y1 y2 y3 y4 y5 y6 y7 hr hH6 hW6 hb7 hm1
  obtain ⟨y0, y1, y2, y3, y4, y5, y6, y7⟩ := recCells hH7
  replace hr7 := Lib.hid hr7
  replace hH7 := Lib.hid hH7
  replace hW7 := Lib.hid hW7
  go_wp2_with fail
  refine hra.out.mono ?_
  rintro e w8 ⟨q8, rfl, hr8, hb8, hq8⟩
  have hH8 := hH7.out.below hb8 hH7.out.lt
  have hW8 := grew hW7.out hb8
  have hr78 := hr7.out.below hb8
  have hq8b : q8 ≠ hb := by have := hH7.out.lt; omega
  obtain ⟨⟨o1, o2⟩, hsq⟩ := hhead
  obtain ⟨O1, hO1⟩ : ∃ O, Hid (hd.off + (n1 : Int) = O) := ⟨_, Lib.hid rfl⟩
  have hwo : IntKind.i64.wrap (hd.off + (n1 : Int)) = O1 := by rw [IntWalk.i64_in _ (by omega)]; exact hO1.out
  obtain ⟨W9, hW9⟩ : ∃ V, Hid (V = w8.setCell ⟨hb, 0, none⟩ (.int .i64 O1)) := ⟨_, Lib.hid rfl⟩
  have hK9 : Kept (fun k => k = hb) w8 W9 := by rw [hW9.out]; exact (Kept.refl (fun k => k = hb) w8).setCells (.inl rfl) 0 [.int .i64 O1]
  have hH9 : Whole W9 hb 33 [.int .i64 O1, .int .i64 hd.tick, .string hd.key, .string hd.val, .bool hd.gone, .int .i64 hd.prod, .int .i64 hd.seq, .int .i64 hd.frm] := by rw [hW9.out]; exact hH8.store 0 [.int .i64 O1] (by simp)
  have hr79 := hr78.far hK9 hq7b
  have hr89 := hr8.far hK9 hq8b
  have hW99 : Below w.heap.size w W9 := by rw [hW9.out]; exact Z.below_store hW8 hbB (Nat.le_refl _) 0 [.int .i64 O1]
  have x80 : w8.cell? ⟨hb, 0, none⟩ = some (.int .i64 hd.off) := hH8.cell 0
  have f80 : w8.frozen? ⟨hb, 0, none⟩ = false := hH8.frozen 0
  obtain ⟨S1, hS1⟩ : ∃ S, Hid ((if hd.prod = 0 then hd.seq else hd.seq + (n1 : Int)) = S) := ⟨_, Lib.hid rfl⟩
  have hnx : nextH hd n1 = ⟨O1, hd.tick, hd.key, hd.val, hd.gone, hd.prod, S1, hd.frm⟩ := by unfold nextH; rw [hO1.out, hS1.out]
  have hrc := fun W (hW : PrAt W a2 C) => records_by ⟨O1, hd.tick, hd.key, hd.val, hd.gone, hd.prod, S1, hd.frm⟩ a2 c2 C W hW (by omega) hX2.out true (by rw [← hnx]; exact hm2)
  dsimp only at hrc
  rw [← hnx] at hrc
  rw [hn2] at hrc
  obtain ⟨z0, z1, z2, z3, z4, z5, z6, z7⟩ := recCells hH9
  have hz6 := hH9.frozen 6
  replace hrc := Lib.hid hrc
  have hL9 := Lib.hid (And.intro hr79 (And.intro hr89 hW99))
  replace hH9 := Lib.hid hH9
  clear hr7 hH7 hW7 hq7 hr8 hb8 hq8 hH8 hW8 hr78 hK9 hr79 hr89 hW99 hra hm2 hnx hO1 y0 y1 y2 y3 y4 y5 y6 y7 hat1
  go_upto_region 11 with fail
  rw [← show W9 = _ from hW9.out]
  clear hW9 x80 f80
  have hT : ∃ W10, Hid (RcAt W10 (some ⟨q7, 0, none⟩) (recsF hd A ++ recsF (nextH hd n1) C) ∧ RcAt W10 (some ⟨q8, 0, none⟩) (recsF hd A) ∧ Below w.heap.size w W10 ∧ Whole W10 hb 33 [.int .i64 O1, .int .i64 hd.tick, .string hd.key, .string hd.val, .bool hd.gone, .int .i64 hd.prod, .int .i64 S1, .int .i64 hd.frm]) ∧ Hid (W10 = if hd.prod = 0 then W9 else W9.setCell ⟨hb, 6, none⟩ (.int .i64 S1)) := by
    refine ⟨_, ?_, Lib.hid rfl⟩
    obtain ⟨l1, l2, l3⟩ := hL9.out
    by_cases hp : hd.prod = 0
    · have e : S1 = hd.seq := by rw [← hS1.out, if_pos hp]
      rw [if_pos hp, e]
      exact Lib.hid ⟨l1, l2, l3, hH9.out⟩
    · rw [if_neg hp]
      have hK : Kept (fun k => k = hb) W9 (W9.setCell ⟨hb, 6, none⟩ (.int .i64 S1)) := (Kept.refl (fun k => k = hb) W9).setCells (.inl rfl) 6 [.int .i64 S1]
      exact Lib.hid ⟨l1.far hK hq7b, l2.far hK hq8b, Z.below_store l3 hbB (Nat.le_refl _) 6 [.int .i64 S1], hH9.out.store 6 [.int .i64 S1] (by simp)⟩
  obtain ⟨W10, hL10, hW10⟩ := hT
  clear hL9 hH9
  replace hp := hp.out
  have hW10 : W10 = W9 := by rw [hW10.out, if_pos hp]
  clear hS1 hsq
  have hpb : (hd.prod == 0) = true := by simp [hp]
  have hpc : (hd.prod != 0) = false := by simp [hp]
  replace hp := Lib.hid hp
  replace hW10 := Lib.hid hW10
  clear z0 z1 z2 z3 z4 z6 z7 hz6
  go_upto_region 13 with fail
  rw [show W9 = W10 from hW10.out.symm]
  clear z5 hW10
  have hrw := Lib.hid (hrc.out W10 (hat2.out.below hL10.out.2.2.1))
  obtain ⟨z0, z1, z2, z3, z4, z5, z6, z7⟩ := recCells hL10.out.2.2.2
  clear hrc
  go_wp2_with fail
  refine hrw.out.mono ?_
  rintro e w11 ⟨q11, rfl, hr11, hb11, hq11⟩
  have l7 := Lib.hid (hL10.out.1.below hb11)
  have l8 := Lib.hid (hL10.out.2.1.below hb11)
  have l9 := Lib.hid (grew hL10.out.2.2.1 hb11)
  replace hr11 := Lib.hid hr11
  clear hrw hL10 hb11 hq11 z0 z1 z2 z3 z4 z5 z6 z7
  go_wp2_with (with_reducible refine zAppend _ _ _ rfl ?_)
  refine Lib.hid ?_
  refine rcs_app (w0 := w11) rfl _ _ rfl (.slice none 0 0) 0 [] rfl own_nil (Below.refl _ _) (some ⟨q8, 0, none⟩) n1 n1 (recsF hd A) rfl (by rw [recsF_len, hn1]) l8.out hp1 (by omega) ?_
  intro g12 cap12 w12 hown12 hB12
  rw [Nat.zero_add, List.nil_append] at hown12
  rw [Nat.zero_add]
  have hr12 := Lib.hid (hr11.out.below hB12)
  replace hown12 := Lib.hid hown12
  replace hB12 := Lib.hid hB12
  clear hr11 l8
  go_wp2_with (with_reducible refine zAppend _ _ _ rfl ?_)
  refine Lib.hid ?_
  refine rcs_app (w0 := w11) rfl _ _ rfl (.slice (some ⟨g12, 0, none⟩) n1 cap12) n1 (recsF hd A) rfl hown12.out hB12.out (some ⟨q11, 0, none⟩) n2 n2 (recsF (nextH hd n1) C) rfl (by rw [recsF_len, hn2]) hr12.out hp2 (by omega) ?_
  intro g13 cap13 w13 hown13 hB13
  have hlr : (recsF hd A ++ recsF (nextH hd n1) C).length = N := by rw [List.length_append, recsF_len, recsF_len, hn1, hn2]; exact hNe.out
  have hat13 := rcAt_own hown13 (by rw [hlr]; exact hNe.out.symm)
  have hsm := Lib.hid (same_recs (some ⟨q7, 0, none⟩) (some ⟨g13, 0, none⟩) N N cap13 _ w13 (l7.out.below hB13) hat13 hlr (by have := hNe.out; omega) hwfW.out)
  have l13 := Lib.hid (grew l9.out hB13)
  rw [hNe.out]
  clear hr12 hown12 hB12 hown13 hB13 hat13 l7 l9 hlr
  go_wp2_with fail
  refine hsm.out.mono ?_
  rintro e w14 ⟨rfl, hb14⟩
  have hBx := Lib.hid (grew l13.out hb14)
  clear hb14 l13 hsm
  go_wp2_with fail
  refine (two17_any _).mono ?_
  rintro e w9 ⟨rfl, hb9⟩
  have hB9 := Lib.hid (grew hBx.out hb9)
  clear hb9
  go_wp2_with fail
  go_ret
  exact ⟨rfl, hB9.out⟩
set_option maxRecDepth 100000 in
set_option maxHeartbeats 8000000 in
theorem walk_more (hd : Rc) (a1 : Option Addr) (n1 c1 : Nat) (A : List Pr) (a2 : Option Addr) (n2 c2 : Nat) (C : List Pr) (w : World) (w0 : wfR hd) (w1 : PrIn w a1 n1 A) (w2 : PrIn w a2 n2 C) (hA : bigP A = false) (hC : bigP C = false) (hk : ¬ 300 < hd.key.size) (hv : ¬ 300 < hd.val.size) (hz1 : rightF A = 0) (hz2 : rightF C = 0) (hz : rightF (A ++ C) = 0) (hB : (recsF hd (A ++ C)).all Rc.may = true) (hp : hd.prod ≠ 0) :
    Calls Try.prog 5 #[.agg #[.int .i64 hd.off, .int .i64 hd.tick, .string hd.key, .string hd.val, .bool hd.gone, .int .i64 hd.prod, .int .i64 hd.seq, .int .i64 hd.frm], .slice a1 n1 c1, .slice a2 n2 c2] w fun e w' => e = .returned (.bool true) ∧ Below w.heap.size w w' := by
  replace hp := Lib.hid hp
  replace hz1 := Lib.hid hz1
  replace hz2 := Lib.hid hz2
  replace hz := Lib.hid hz
  replace hB := Lib.hid hB
  obtain ⟨hn1, hat1, hwf1⟩ := w1
  obtain ⟨hn2, hat2, hwf2⟩ := w2
  clear hwf1 hwf2
  obtain ⟨V, hV⟩ : ∃ V, Hid (V = w.alloc (.cells #[.int .i64 hd.off, .int .i64 hd.tick, .string hd.key, .string hd.val, .bool hd.gone, .int .i64 hd.prod, .int .i64 hd.seq, .int .i64 hd.frm] 33)) := ⟨_, Lib.hid rfl⟩
  have hb0 : Below w.heap.size w V := by rw [hV.out]; exact grewAlloc (Below.refl _ _) _
  have hH0 : Whole V w.heap.size 33 (rcL hd) := by rw [hV.out]; exact Whole.new w _ _
  obtain ⟨hb, hhb⟩ : ∃ hb, Hid (w.heap.size = hb) := ⟨_, Lib.hid rfl⟩
  have hbB : w.heap.size ≤ hb := by rw [← hhb.out]; exact Nat.le_refl _
  rw [hhb.out] at hH0
  have hla := fun W (hW : Below V.heap.size V W) => plarge_any a1 c1 A W (hat1.below (grew hb0 hW))
  have hlc := fun W (hW : Below V.heap.size V W) => plarge_any a2 c2 C W (hat2.below (grew hb0 hW))
  rw [hn1] at hla
  rw [hn2] at hlc
  replace hb0 := Lib.hid hb0
  replace hH0 := Lib.hid hH0
  replace hat1 := Lib.hid hat1
  replace hat2 := Lib.hid hat2
  rw [hA] at hla
  replace hla := Lib.hid hla
  rw [hC] at hlc
  replace hlc := Lib.hid hlc
  have hA2 : n1 ≤ 30 := by
    unfold bigP at hA
    rw [Bool.or_eq_false_iff] at hA
    have := hA.1
    simp at this
    omega
  have hC2 : n2 ≤ 30 := by
    unfold bigP at hC
    rw [Bool.or_eq_false_iff] at hC
    have := hC.1
    simp at this
    omega
  clear hA hC
  have hra := fun W (hW : Below V.heap.size V W) => rright_any a1 c1 A W (hat1.out.below (grew hb0.out hW)) (by omega)
  have hrc := fun W (hW : Below V.heap.size V W) => rright_any a2 c2 C W (hat2.out.below (grew hb0.out hW)) (by omega)
  rw [hn1] at hra
  rw [hn2] at hrc
  go_enter Try.func5, Try.ntmps5
  go_upto_region 1 with fail
  rw [← show V = _ from hV.out, hhb.out]
  clear hV hhb
  replace hra := Lib.hid hra
  replace hrc := Lib.hid hrc
  go_wp2_with fail
  refine (hla.out _ (Below.refl _ _)).mono ?_
  rintro e w1 ⟨rfl, hb1⟩
  replace hb1 := Lib.hid hb1
  clear hla
  go_wp2_with fail
  refine (hlc.out _ hb1.out).mono ?_
  rintro e w2 ⟨rfl, hb2⟩
  have hB2 := Lib.hid (grew hb1.out hb2)
  have hH2 := hH0.out.below hB2.out hH0.out.lt
  obtain ⟨y0, y1, y2, y3, y4, y5, y6, y7⟩ := recCells hH2
  replace hH2 := Lib.hid hH2
  clear hlc hb1 hb2
  have hki : (hd.key.size : Int) ≤ 300 := by omega
  have hvi : (hd.val.size : Int) ≤ 300 := by omega
  have hX1 := hz1
  have hX2 := hz2
  rw [hz1.out] at hra
  rw [hz2.out] at hrc
  go_wp2_with fail
  refine (hra.out _ hB2.out).mono ?_
  rintro e w3 ⟨rfl, hb3⟩
  have hB3 := Lib.hid (grew hB2.out hb3)
  clear hb3 hra y0 y1 y2 y3 y4 y5 y6 y7
  go_wp2_with fail
  refine (hrc.out _ hB3.out).mono ?_
  rintro e w4 ⟨rfl, hb4⟩
  have hB4 := grew hB3.out hb4
  have hH4 := hH0.out.below hB4 hH0.out.lt
  have hW4 := grew hb0.out hB4
  obtain ⟨ne1, le1⟩ := right_zero hX1.out
  obtain ⟨ne2, le2⟩ := right_zero hX2.out
  rw [hn1] at le1
  rw [hn2] at le2
  have hp1 : 0 < n1 := by rw [← hn1]; exact List.length_pos_iff.2 ne1
  have hp2 : 0 < n2 := by rw [← hn2]; exact List.length_pos_iff.2 ne2
  have hat14 := Lib.hid (hat1.out.below hW4)
  have hat24 := Lib.hid (hat2.out.below hW4)
  replace hH4 := Lib.hid hH4
  replace hW4 := Lib.hid hW4
  clear hB3 hb4 hB4 hrc hB2 hH2 hH0 hb0
  go_wp2_with (with_reducible refine zAppend _ _ _ rfl ?_)
  refine Lib.hid ?_
  refine prs_app (w0 := w4) rfl _ _ rfl (.slice none 0 0) 0 [] rfl own_nil (Below.refl _ _) a1 n1 c1 A rfl hn1 hat14.out hp1 (by omega) ?_
  intro g5 cap5 w5 hown5 hB5
  rw [Nat.zero_add, List.nil_append] at hown5
  rw [Nat.zero_add]
  have hat25 := Lib.hid (hat24.out.below hB5)
  replace hown5 := Lib.hid hown5
  replace hB5 := Lib.hid hB5
  go_wp2_with (with_reducible refine zAppend _ _ _ rfl ?_)
  refine Lib.hid ?_
  refine prs_app (w0 := w4) rfl _ _ rfl (.slice (some ⟨g5, 0, none⟩) n1 cap5) n1 A rfl hown5.out hB5.out a2 n2 c2 C rfl hn2 hat25.out hp2 (by omega) ?_
  intro g6 cap6 w6 hown6 hB6
  have hlen : (A ++ C).length = n1 + n2 := by rw [List.length_append, hn1, hn2]
  have hat6 := prAt_own hown6 hlen
  have hH6 := hH4.out.below hB6 hH4.out.lt
  have hW6 := hW4.out.trans (hB6.mono hW4.out.size)
  obtain ⟨y0, y1, y2, y3, y4, y5, y6, y7⟩ := recCells hH6
  have hrn := fun x hx hx0 => records_no hd (some ⟨g6, 0, none⟩) cap6 (A ++ C) w6 hat6 (by omega) x hx hx0
  have hrb := fun hx B hB => records_by hd (some ⟨g6, 0, none⟩) cap6 (A ++ C) w6 hat6 (by omega) hx B hB
  rw [hlen] at hrn hrb
  have hN : ((n1 + n2 : Nat) : Int) = (n1 : Int) + (n2 : Int) := by omega
  replace hH6 := Lib.hid hH6
  replace hW6 := Lib.hid hW6
  clear hown5 hB5 hat25 hown6 hat14 hat24 hB6 hH4 hat6
  obtain ⟨N, hNe⟩ : ∃ N, Hid (n1 + n2 = N) := ⟨_, Lib.hid rfl⟩
  rw [hNe.out] at hrn hrb ⊢
  clear hN
  clear hrn
  have hr := Lib.hid (hrb hz.out true hB.out)
  have hall := List.all_eq_true.1 hB.out
  have hhead : HeadOk hd := by
    obtain ⟨p, hp⟩ : ∃ p, A[0]? = some p := ⟨_, List.getElem?_eq_getElem (by omega)⟩
    refine head_ok w0 (p := p) (hall _ (List.mem_of_getElem? (i := 0) ?_))
    rw [recsF_at, List.getElem?_append_left (by omega), hp]
    rfl
  have hparts := recs_parts hhead A C (by omega) (by omega)
  rw [hn1] at hparts
  rw [hparts] at hall
  have hm1 : (recsF hd A).all Rc.may = true := List.all_eq_true.2 (fun x hx => hall x (List.mem_append_left _ hx))
  have hm2 : (recsF (nextH hd n1) C).all Rc.may = true := List.all_eq_true.2 (fun x hx => hall x (List.mem_append_right _ hx))
  have hwfW : ∀ r ∈ recsF hd (A ++ C), wfR r := fun r hr => ok_wf (of_decide_eq_true (List.all_eq_true.1 hB.out r hr))
  rw [hparts] at hwfW
  rw [hparts] at hr
  replace hwfW := Lib.hid hwfW
  clear hrb hB hall hparts hz
  go_wp2_with fail
  refine hr.out.mono ?_
  rintro e w7 ⟨q7, rfl, hr7, hb7, hq7⟩
  have hH7 := hH6.out.below hb7 hH6.out.lt
  have hW7 := grew hW6.out hb7
  have hq7b : q7 ≠ hb := by have := hH6.out.lt; omega
  have hra := Lib.hid (records_by hd a1 c1 A w7 (hat1.out.below hW7) (by omega) hX1.out true hm1)
  rw [hn1] at hra
  clear y0 y1 y2 y3 y4 y5 y6 y7 hr hH6 hW6 hb7 hm1
  obtain ⟨y0, y1, y2, y3, y4, y5, y6, y7⟩ := recCells hH7
  replace hr7 := Lib.hid hr7
  replace hH7 := Lib.hid hH7
  replace hW7 := Lib.hid hW7
  go_wp2_with fail
  refine hra.out.mono ?_
  rintro e w8 ⟨q8, rfl, hr8, hb8, hq8⟩
  have hH8 := hH7.out.below hb8 hH7.out.lt
  have hW8 := grew hW7.out hb8
  have hr78 := hr7.out.below hb8
  have hq8b : q8 ≠ hb := by have := hH7.out.lt; omega
  obtain ⟨⟨o1, o2⟩, hsq⟩ := hhead
  obtain ⟨O1, hO1⟩ : ∃ O, Hid (hd.off + (n1 : Int) = O) := ⟨_, Lib.hid rfl⟩
  have hwo : IntKind.i64.wrap (hd.off + (n1 : Int)) = O1 := by rw [IntWalk.i64_in _ (by omega)]; exact hO1.out
  obtain ⟨W9, hW9⟩ : ∃ V, Hid (V = w8.setCell ⟨hb, 0, none⟩ (.int .i64 O1)) := ⟨_, Lib.hid rfl⟩
  have hK9 : Kept (fun k => k = hb) w8 W9 := by rw [hW9.out]; exact (Kept.refl (fun k => k = hb) w8).setCells (.inl rfl) 0 [.int .i64 O1]
  have hH9 : Whole W9 hb 33 [.int .i64 O1, .int .i64 hd.tick, .string hd.key, .string hd.val, .bool hd.gone, .int .i64 hd.prod, .int .i64 hd.seq, .int .i64 hd.frm] := by rw [hW9.out]; exact hH8.store 0 [.int .i64 O1] (by simp)
  have hr79 := hr78.far hK9 hq7b
  have hr89 := hr8.far hK9 hq8b
  have hW99 : Below w.heap.size w W9 := by rw [hW9.out]; exact Z.below_store hW8 hbB (Nat.le_refl _) 0 [.int .i64 O1]
  have x80 : w8.cell? ⟨hb, 0, none⟩ = some (.int .i64 hd.off) := hH8.cell 0
  have f80 : w8.frozen? ⟨hb, 0, none⟩ = false := hH8.frozen 0
  obtain ⟨S1, hS1⟩ : ∃ S, Hid ((if hd.prod = 0 then hd.seq else hd.seq + (n1 : Int)) = S) := ⟨_, Lib.hid rfl⟩
  have hnx : nextH hd n1 = ⟨O1, hd.tick, hd.key, hd.val, hd.gone, hd.prod, S1, hd.frm⟩ := by unfold nextH; rw [hO1.out, hS1.out]
  have hrc := fun W (hW : PrAt W a2 C) => records_by ⟨O1, hd.tick, hd.key, hd.val, hd.gone, hd.prod, S1, hd.frm⟩ a2 c2 C W hW (by omega) hX2.out true (by rw [← hnx]; exact hm2)
  dsimp only at hrc
  rw [← hnx] at hrc
  rw [hn2] at hrc
  obtain ⟨z0, z1, z2, z3, z4, z5, z6, z7⟩ := recCells hH9
  have hz6 := hH9.frozen 6
  replace hrc := Lib.hid hrc
  have hL9 := Lib.hid (And.intro hr79 (And.intro hr89 hW99))
  replace hH9 := Lib.hid hH9
  clear hr7 hH7 hW7 hq7 hr8 hb8 hq8 hH8 hW8 hr78 hK9 hr79 hr89 hW99 hra hm2 hnx hO1 y0 y1 y2 y3 y4 y5 y6 y7 hat1
  go_upto_region 11 with fail
  rw [← show W9 = _ from hW9.out]
  clear hW9 x80 f80
  have hT : ∃ W10, Hid (RcAt W10 (some ⟨q7, 0, none⟩) (recsF hd A ++ recsF (nextH hd n1) C) ∧ RcAt W10 (some ⟨q8, 0, none⟩) (recsF hd A) ∧ Below w.heap.size w W10 ∧ Whole W10 hb 33 [.int .i64 O1, .int .i64 hd.tick, .string hd.key, .string hd.val, .bool hd.gone, .int .i64 hd.prod, .int .i64 S1, .int .i64 hd.frm]) ∧ Hid (W10 = if hd.prod = 0 then W9 else W9.setCell ⟨hb, 6, none⟩ (.int .i64 S1)) := by
    refine ⟨_, ?_, Lib.hid rfl⟩
    obtain ⟨l1, l2, l3⟩ := hL9.out
    by_cases hp : hd.prod = 0
    · have e : S1 = hd.seq := by rw [← hS1.out, if_pos hp]
      rw [if_pos hp, e]
      exact Lib.hid ⟨l1, l2, l3, hH9.out⟩
    · rw [if_neg hp]
      have hK : Kept (fun k => k = hb) W9 (W9.setCell ⟨hb, 6, none⟩ (.int .i64 S1)) := (Kept.refl (fun k => k = hb) W9).setCells (.inl rfl) 6 [.int .i64 S1]
      exact Lib.hid ⟨l1.far hK hq7b, l2.far hK hq8b, Z.below_store l3 hbB (Nat.le_refl _) 6 [.int .i64 S1], hH9.out.store 6 [.int .i64 S1] (by simp)⟩
  obtain ⟨W10, hL10, hW10⟩ := hT
  clear hL9 hH9
  replace hp := hp.out
  have hws : IntKind.i64.wrap (hd.seq + (n1 : Int)) = S1 := by
    have hs := hsq.resolve_left hp
    rw [IntWalk.i64_in _ (by omega), ← hS1.out, if_neg hp]
  have hW10 : W10 = W9.setCell ⟨hb, 6, none⟩ (.int .i64 S1) := by rw [hW10.out, if_neg hp]
  clear hS1 hsq
  have hpb : (hd.prod == 0) = false := by simp [hp]
  have hpc : (hd.prod != 0) = true := by simp [hp]
  replace hp := Lib.hid hp
  replace hW10 := Lib.hid hW10
  go_upto_region 13 with fail
  rw [← show W10 = _ from hW10.out]
  clear z0 z1 z2 z3 z4 z5 z6 z7 hz6 hW10
  have hrw := Lib.hid (hrc.out W10 (hat2.out.below hL10.out.2.2.1))
  obtain ⟨z0, z1, z2, z3, z4, z5, z6, z7⟩ := recCells hL10.out.2.2.2
  clear hrc
  go_wp2_with fail
  refine hrw.out.mono ?_
  rintro e w11 ⟨q11, rfl, hr11, hb11, hq11⟩
  have l7 := Lib.hid (hL10.out.1.below hb11)
  have l8 := Lib.hid (hL10.out.2.1.below hb11)
  have l9 := Lib.hid (grew hL10.out.2.2.1 hb11)
  replace hr11 := Lib.hid hr11
  clear hrw hL10 hb11 hq11 z0 z1 z2 z3 z4 z5 z6 z7
  go_wp2_with (with_reducible refine zAppend _ _ _ rfl ?_)
  refine Lib.hid ?_
  refine rcs_app (w0 := w11) rfl _ _ rfl (.slice none 0 0) 0 [] rfl own_nil (Below.refl _ _) (some ⟨q8, 0, none⟩) n1 n1 (recsF hd A) rfl (by rw [recsF_len, hn1]) l8.out hp1 (by omega) ?_
  intro g12 cap12 w12 hown12 hB12
  rw [Nat.zero_add, List.nil_append] at hown12
  rw [Nat.zero_add]
  have hr12 := Lib.hid (hr11.out.below hB12)
  replace hown12 := Lib.hid hown12
  replace hB12 := Lib.hid hB12
  clear hr11 l8
  go_wp2_with (with_reducible refine zAppend _ _ _ rfl ?_)
  refine Lib.hid ?_
  refine rcs_app (w0 := w11) rfl _ _ rfl (.slice (some ⟨g12, 0, none⟩) n1 cap12) n1 (recsF hd A) rfl hown12.out hB12.out (some ⟨q11, 0, none⟩) n2 n2 (recsF (nextH hd n1) C) rfl (by rw [recsF_len, hn2]) hr12.out hp2 (by omega) ?_
  intro g13 cap13 w13 hown13 hB13
  have hlr : (recsF hd A ++ recsF (nextH hd n1) C).length = N := by rw [List.length_append, recsF_len, recsF_len, hn1, hn2]; exact hNe.out
  have hat13 := rcAt_own hown13 (by rw [hlr]; exact hNe.out.symm)
  have hsm := Lib.hid (same_recs (some ⟨q7, 0, none⟩) (some ⟨g13, 0, none⟩) N N cap13 _ w13 (l7.out.below hB13) hat13 hlr (by have := hNe.out; omega) hwfW.out)
  have l13 := Lib.hid (grew l9.out hB13)
  rw [hNe.out]
  clear hr12 hown12 hB12 hown13 hB13 hat13 l7 l9 hlr
  go_wp2_with fail
  refine hsm.out.mono ?_
  rintro e w14 ⟨rfl, hb14⟩
  have hBx := Lib.hid (grew l13.out hb14)
  clear hb14 l13 hsm
  go_wp2_with fail
  refine (two17_any _).mono ?_
  rintro e w9 ⟨rfl, hb9⟩
  have hB9 := Lib.hid (grew hBx.out hb9)
  clear hb9
  go_wp2_with fail
  go_ret
  exact ⟨rfl, hB9.out⟩

theorem walk (hd : Rc) (a1 : Option Addr) (n1 c1 : Nat) (A : List Pr) (a2 : Option Addr) (n2 c2 : Nat) (C : List Pr) (w : World) (w0 : wfR hd) (w1 : PrIn w a1 n1 A) (w2 : PrIn w a2 n2 C) :
    Calls Try.prog 5 #[.agg #[.int .i64 hd.off, .int .i64 hd.tick, .string hd.key, .string hd.val, .bool hd.gone, .int .i64 hd.prod, .int .i64 hd.seq, .int .i64 hd.frm], .slice a1 n1 c1, .slice a2 n2 c2] w fun e w' => e = .returned (.bool true) ∧ Below w.heap.size w w' := by
  by_cases hA : bigP A = true
  · exact walk_bad hd a1 n1 c1 A a2 n2 c2 C w w0 w1 w2 (.inl hA)
  by_cases hC : bigP C = true
  · exact walk_bad hd a1 n1 c1 A a2 n2 c2 C w w0 w1 w2 (.inr (.inl hC))
  by_cases hk : 300 < hd.key.size
  · exact walk_bad hd a1 n1 c1 A a2 n2 c2 C w w0 w1 w2 (.inr (.inr (.inl hk)))
  by_cases hv : 300 < hd.val.size
  · exact walk_bad hd a1 n1 c1 A a2 n2 c2 C w w0 w1 w2 (.inr (.inr (.inr (.inl hv))))
  by_cases hz1 : rightF A = 0
  · by_cases hz2 : rightF C = 0
    · by_cases hz : rightF (A ++ C) = 0
      · cases hB : (recsF hd (A ++ C)).all Rc.may with
        | true =>
          by_cases hp : hd.prod = 0
          · exact walk_zero hd a1 n1 c1 A a2 n2 c2 C w w0 w1 w2 (by simpa using hA) (by simpa using hC) hk hv hz1 hz2 hz hB hp
          · exact walk_more hd a1 n1 c1 A a2 n2 c2 C w w0 w1 w2 (by simpa using hA) (by simpa using hC) hk hv hz1 hz2 hz hB hp
        | false => exact walk_none hd a1 n1 c1 A a2 n2 c2 C w w0 w1 w2 (by simpa using hA) (by simpa using hC) hk hv hz1 hz2 (.inr hB)
      · exact walk_none hd a1 n1 c1 A a2 n2 c2 C w w0 w1 w2 (by simpa using hA) (by simpa using hC) hk hv hz1 hz2 (.inl hz)
    · exact walk_bad hd a1 n1 c1 A a2 n2 c2 C w w0 w1 w2 (.inr (.inr (.inr (.inr (.inr hz2)))))
  · exact walk_bad hd a1 n1 c1 A a2 n2 c2 C w w0 w1 w2 (.inr (.inr (.inr (.inr (.inl hz1)))))


theorem own : ownKnob Try.prog.godebug = none := by kernel_rfl
theorem laidOut : laidOutB Try.prog = true := by kernel_rfl

set_option maxRecDepth 100000 in
theorem lifted (os : Os) (started : os.Started) (H : Type) (enc : TypeId × Value → H) :
    ReturnsInHanded {} Try.checked os 5 .any (Rows.batchPartsSpec.pre6 enc Try.prog Try.f5 Rows.batchPartsRow.domain false) (Rows.batchPartsSpec.post enc Try.prog Try.f5 false true false false) := by
  refine returnsInHanded_of_change (C := Try.checked) own started (by kernel_rfl) Try.func5
    (ChangeSpec.witness6 (enc := enc) (C := Try.checked) false ⟨#[], #[.agg #[.int .i64 0, .int .i64 0, .string ByteArray.empty, .string ByteArray.empty, .bool false, .int .i64 0, .int .i64 0, .int .i64 0], .slice none 0 0, .slice none 0 0], []⟩ 8 (by kernel_rfl) (by kernel_rfl) (by kernel_rfl) (by kernel_rfl)) ?_
  intro W base args ds gs before hval0 hW hcnd _
  have hval : ∀ (j : Nat) t v, Try.f5.params[j]? = some t → args[j]? = some v → Value.okWide Try.prog W .any base t v := hval0
  have hW' := hW
  obtain ⟨p, q, hA0, hV, rfl, hfz, hnd⟩ := hW
  have hA : DataW.TrodAll enc Try.prog W 0 (fun _ => true) true Try.f5.params.toList args.toList ds p := hA0
  rw [Try.params5] at hA hval
  obtain ⟨v0, vs0, d0, ds0, p0, q0, hargs, rfl, rfl, h0, r0⟩ := trodAll_cons hA
  obtain ⟨v1, vs1, d1, ds1, p1, q1, rfl, rfl, rfl, h1, r1⟩ := trodAll_cons r0
  obtain ⟨v2, vs2, d2, ds2, p2, q2, rfl, rfl, rfl, h2, r2⟩ := trodAll_cons r1
  obtain ⟨rfl, rfl, rfl⟩ := trodAll_nil r2
  obtain rfl : args = #[v0, v1, v2] := by cases args; simp_all
  obtain ⟨rfl, rfl⟩ := trodVars_none hV
  have k0 := h0
  have lt0 : ∀ x ∈ p0, x.block < W.heap.size := by obtain ⟨m, hm⟩ := k0; exact DataW.trod_lt m _ _ _ hm
  obtain ⟨rr0, rfl, wrr0⟩ := Go.Proofs.Ytbbeapglkdkajaa.W.open_rc (hval 0 33 v0 rfl rfl) h0
  obtain ⟨a1, len1, cap1, rfl⟩ := okWide_slice Try.underlying22 (hval 1 22 v1 rfl rfl)
  have k1 := h1
  have lt1 : ∀ x ∈ p1, x.block < W.heap.size := by obtain ⟨m, hm⟩ := k1; exact DataW.trod_lt m _ _ _ hm
  obtain ⟨fu1, hf1⟩ := h1
  obtain ⟨z1, w1⟩ := Go.Proofs.Ytbbeapglkdkajaa.W.open_prs (show DataW.trod enc Try.prog W 0 (fun _ => true) true fu1 22 [.slice a1 len1 cap1] = some _ from hf1)
  obtain ⟨a2, len2, cap2, rfl⟩ := okWide_slice Try.underlying22 (hval 2 22 v2 rfl rfl)
  have k2 := h2
  have lt2 : ∀ x ∈ p2, x.block < W.heap.size := by obtain ⟨m, hm⟩ := k2; exact DataW.trod_lt m _ _ _ hm
  obtain ⟨fu2, hf2⟩ := h2
  obtain ⟨z2, w2⟩ := Go.Proofs.Ytbbeapglkdkajaa.W.open_prs (show DataW.trod enc Try.prog W 0 (fun _ => true) true fu2 22 [.slice a2 len2 cap2] = some _ from hf2)
  clear hA0 hval0
  refine (walk rr0 a1 len1 cap1 z1 a2 len2 cap2 z2 W wrr0 w1 w2).mono fun e W' ⟨he, bel⟩ => ?_
  subst he
  exact ⟨_, rfl, _, _, _, [], _, [], hW', trodAll_mk1 (shut_bool Try.underlying4 _), (trodAll_cons_mk (Below.trod laidOut (by kernel_rfl) (of_decide_eq_true (by kernel_rfl)) k0 bel lt0) (trodAll_cons_mk (Below.trod laidOut (by kernel_rfl) (of_decide_eq_true (by kernel_rfl)) k1 bel lt1) (trodAll_cons_mk (Below.trod laidOut (by kernel_rfl) (of_decide_eq_true (by kernel_rfl)) k2 bel lt2) trodAll_mk0))), rfl, bel.frame _, fun h => by cases h⟩

theorem over : Rows.batchPartsRow.holds Try.pinned (OpenSpec.ofChange Rows.batchPartsSpec) :=
  OpenClaim.holds_of_wide 5 Try.f5 rfl rfl rfl rfl rfl rfl rfl ⟨rfl, rfl, rfl, rfl, rfl⟩ rfl rfl rfl rfl rfl (by kernel_rfl) Try.func5 (by kernel_rfl)
    (of_decide_eq_true (by kernel_rfl)) (by unfold Func.isWrapper; first | (rw [if_pos (by decide +kernel)]; kernel_rfl) | (rw [if_neg (by decide +kernel)]; exact ⟨rfl, rfl⟩))
    (fun os started H enc _ => lifted os started H enc)

/-- The statement. -/
theorem proved : Rows.BatchPartsSaid := over
#print axioms proved

end Go.Proofs.Ytbbeapglkdkajaa.batchParts
