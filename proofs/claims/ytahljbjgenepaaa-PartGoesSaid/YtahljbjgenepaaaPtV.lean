/- Layer 19's definition: Fetch. -/
import Derived.Test.YtahljbjgenepaaaPtU
namespace Go.Proofs.Ytahljbjgenepaaa.W
open Go.RowKit Go.Sort
open Go.Proofs.Ytahljbjgenepaaa.M Go.Proofs.Ytahljbjgenepaaa.D Go.Proofs.Ytahljbjgenepaaa.Z
set_option linter.unusedVariables false
set_option linter.unusedSimpArgs false

/-- The records of a range. -/
def inL (a b : Int) (rs : List Rc) : List Rc := rs.filter (fun r => decide (a ≤ r.off) && decide (r.off < b))
theorem inL_take {a b : Int} {rs : List Rc} {k : Nat} {r : Rc} (h : rs[k]? = some r) : inL a b (rs.take (k + 1)) = inL a b (rs.take k) ++ (if a ≤ r.off ∧ r.off < b then [r] else []) := by
  unfold inL
  rw [List.take_add_one, h, List.filter_append]
  congr 1
  by_cases e : a ≤ r.off ∧ r.off < b
  · simp [e]
  · rw [if_neg e]
    simp only [Option.toList_some, List.filter_cons, List.filter_nil]
    rw [if_neg (by simp; omega)]
theorem inL_none {a b : Int} {rs : List Rc} (h : ∀ r ∈ rs, ¬ (a ≤ r.off ∧ r.off < b)) : inL a b rs = [] := by
  unfold inL
  apply List.filter_eq_nil_iff.2
  intro r hr
  have := h r hr
  simp
  omega
theorem cutN_zero {a : Int} : ∀ {rs : List Rc}, (∀ r ∈ rs, a ≤ r.off) → cutN a rs = 0
  | [], _ => rfl
  | r :: t, h => by
    have := h r List.mem_cons_self
    unfold cutN
    rw [List.takeWhile_cons]
    have e : ¬ r.off < a := by omega
    simp [e]
theorem inL_cut {a b : Int} (hab : a ≤ b) : ∀ rs : List Rc, risL rs → inL a b rs = (rs.take (cutN b rs)).drop (cutN a rs) := by
  intro rs
  induction rs with
  | nil => intro _; rfl
  | cons r t ih =>
    intro h
    have hi := ih h.2
    by_cases e1 : r.off < a
    · have e2 : r.off < b := by omega
      have k1 : cutN a (r :: t) = cutN a t + 1 := by unfold cutN; rw [List.takeWhile_cons]; simp [e1]
      have k2 : cutN b (r :: t) = cutN b t + 1 := by unfold cutN; rw [List.takeWhile_cons]; simp [e2]
      rw [k1, k2, List.take_succ_cons, List.drop_succ_cons, ← hi]
      unfold inL
      rw [List.filter_cons, if_neg (by simp; omega)]
    · have k1 : cutN a (r :: t) = 0 := by unfold cutN; rw [List.takeWhile_cons]; simp [e1]
      rw [k1, List.drop_zero]
      by_cases e2 : r.off < b
      · have k2 : cutN b (r :: t) = cutN b t + 1 := by unfold cutN; rw [List.takeWhile_cons]; simp [e2]
        have k3 : cutN a t = 0 := cutN_zero fun x hx => by have := h.1 x hx; omega
        rw [k3, List.drop_zero] at hi
        rw [k2, List.take_succ_cons, ← hi]
        unfold inL
        rw [List.filter_cons, if_pos (by simp; omega)]
      · have k2 : cutN b (r :: t) = 0 := by unfold cutN; rw [List.takeWhile_cons]; simp [e2]
        rw [k2, List.take_zero]
        exact inL_none fun x hx => by
          rcases List.mem_cons.1 hx with rfl | hx
          · omega
          · have := h.1 x hx; omega
theorem take_snoc {α : Type} {l : List α} {x : α} {n : Nat} (h : (l.take n).length < n) : (l ++ [x]).take n = l.take n ++ [x] := by
  rw [List.length_take] at h
  have h2 : l.length < n := by omega
  rw [List.take_of_length_le (by rw [List.length_append, List.length_singleton]; omega), List.take_of_length_le (by omega)]
theorem take_full {α : Type} {l m : List α} {n : Nat} (h : n ≤ (l.take n).length) : (l ++ m).take n = l.take n := by
  rw [List.length_take] at h
  exact List.take_append_of_le_length (by omega)
theorem lastN_snoc (f : Int) (l : List Rc) (r : Rc) : lastN f (l ++ [r]) = r.off + 1 := by unfold lastN; rw [List.getLast?_append]; rfl
/-- What was fetched so far. -/
def accF (d : Pd) (from_ most : Int) (k : Nat) : List Rc := (inL from_ d.sn (d.rs.take k)).take (min most.toNat 16)
theorem accF_zero (d : Pd) (from_ most : Int) : accF d from_ most 0 = [] := by unfold accF inL; simp
theorem accF_all {d : Pd} {from_ most : Int} (hr : risL d.rs) (h1 : ¬ (from_ < d.st ∨ d.sn < from_)) (h2 : ¬ most < 1) : accF d from_ most d.rs.length = fetchL d from_ most := by
  unfold accF fetchL seenL
  rw [if_neg h1, if_neg h2, List.take_length, inL_cut (by omega) d.rs hr]
theorem accF_yes {d : Pd} {from_ most : Int} {k : Nat} {r : Rc} (h : d.rs[k]? = some r) (hi : from_ ≤ r.off ∧ r.off < d.sn) (hl : (accF d from_ most k).length < min most.toNat 16) : accF d from_ most (k + 1) = accF d from_ most k ++ [r] := by
  unfold accF at hl ⊢
  rw [inL_take h, if_pos hi, take_snoc hl]
theorem accF_out {d : Pd} {from_ most : Int} {k : Nat} {r : Rc} (h : d.rs[k]? = some r) (hi : ¬ (from_ ≤ r.off ∧ r.off < d.sn)) : accF d from_ most (k + 1) = accF d from_ most k := by
  unfold accF
  rw [inL_take h, if_neg hi, List.append_nil]
theorem accF_full {d : Pd} {from_ most : Int} {k : Nat} {r : Rc} (h : d.rs[k]? = some r) (hl : min most.toNat 16 ≤ (accF d from_ most k).length) : accF d from_ most (k + 1) = accF d from_ most k := by
  unfold accF at hl ⊢
  rw [inL_take h, take_full hl]
theorem cells3 {W : World} {b : Nat} {t : TypeId} {a0 a1 a2 : Value} (h : Whole W b t [a0, a1, a2]) : W.cell? ⟨b, 0, none⟩ = some a0 ∧ W.cell? ⟨b, 1, none⟩ = some a1 ∧ W.cell? ⟨b, 2, none⟩ = some a2 := ⟨h.cell 0, h.cell 1, h.cell 2⟩
/-- What the definition's Fetch comes to. -/
def FetPost (w : World) (d : Pd) (from_ most : Int) (e : Ending) (w' : World) : Prop :=
  ∃ A c', e = .returned (.agg #[.slice A (fetchL d from_ most).length c', .int .i64 (fetchN d from_ most), .int .i64 (fetchE d from_)]) ∧ RcAt w' A (fetchL d from_ most) ∧ (∀ q, ownB A q → w.heap.size ≤ q) ∧ Below w.heap.size w w'
set_option maxRecDepth 100000 in
set_option maxHeartbeats 4000000 in
theorem rfetch_any (vr : Option Addr) (cr : Nat) (d : Pd) (from_ most : Int) (w : World) (h : RcAt w vr d.rs) (hn : d.rs.length ≤ 90000) (hr : risL d.rs) (hok : ∀ r ∈ d.rs, r.ok) :
    Calls Try.prog 30 #[.agg #[.slice vr d.rs.length cr, .int .i64 d.st, .int .i64 d.nx, .int .i64 d.sn], .int .i64 from_, .int .i64 most] w (FetPost w d from_ most) := by
  obtain ⟨V, hV, hb0, hP, hR⟩ : ∃ V, Hid (V = (w.alloc (.cells #[.slice vr d.rs.length cr, .int .i64 d.st, .int .i64 d.nx, .int .i64 d.sn] 29)).alloc (.cells #[.slice none 0 0, .int .i64 0, .int .i64 0] 61)) ∧
    Below w.heap.size w V ∧ Whole V w.heap.size 29 [.slice vr d.rs.length cr, .int .i64 d.st, .int .i64 d.nx, .int .i64 d.sn] ∧ Whole V (w.heap.size + 1) 61 [.slice none 0 0, .int .i64 0, .int .i64 0] := by
    refine ⟨_, Lib.hid rfl, grewAlloc (grewAlloc (Below.refl _ _) _) _, (Whole.new w _ [.slice vr d.rs.length cr, .int .i64 d.st, .int .i64 d.nx, .int .i64 d.sn]).alloc _, ?_⟩
    have := Whole.new (w.alloc (.cells #[.slice vr d.rs.length cr, .int .i64 d.st, .int .i64 d.nx, .int .i64 d.sn] 29)) 61 [.slice none 0 0, .int .i64 0, .int .i64 0]
    rwa [show (w.alloc (.cells #[.slice vr d.rs.length cr, .int .i64 d.st, .int .i64 d.nx, .int .i64 d.sn] 29)).heap.size = w.heap.size + 1 from by simp] at this
  have hlo : w.heap.size ≤ w.heap.size + 1 := by omega
  obtain ⟨q, hq⟩ : ∃ q, Hid (w.heap.size = q) := ⟨_, Lib.hid rfl⟩
  rw [hq.out] at hP hR
  have hlo : w.heap.size ≤ q + 1 := by rw [← hq.out]; exact hlo
  obtain ⟨p0, p1, p2, p3⟩ := cells4 hP
  obtain ⟨r0, r1, r2⟩ := cells3 hR
  have z0 := hR.frozen 0
  have z1 := hR.frozen 1
  have z2 := hR.frozen 2
  obtain ⟨N, hN⟩ : ∃ N, Hid (d.rs.length = N) := ⟨_, Lib.hid rfl⟩
  rw [hN.out] at p0 hP hn ⊢
  have hVN : Hid (V = (w.alloc (.cells #[.slice vr N cr, .int .i64 d.st, .int .i64 d.nx, .int .i64 d.sn] 29)).alloc (.cells #[.slice none 0 0, .int .i64 0, .int .i64 0] 61)) := Lib.hid (by rw [hV.out, hN.out])
  clear hV
  have hend : ∀ (W : World) (v0 v1 v2 : Value) (l : List Value), Whole W (q + 1) 61 l → l.length = 3 → Below w.heap.size w W →
      Whole (W.setCells (q + 1) 0 [v0, v1, v2]) (q + 1) 61 [v0, v1, v2] ∧ Below w.heap.size w (W.setCells (q + 1) 0 [v0, v1, v2]) := fun W v0 v1 v2 l h1 h2 h3 => by
    refine ⟨?_, Z.below_store h3 (c := q + 1) hlo (Nat.le_refl _) 0 [v0, v1, v2]⟩
    have := h1.store 0 [v0, v1, v2] (by simp; omega)
    match l, h2 with
    | [a, b, c], _ => exact this
  by_cases h1 : from_ < d.st ∨ d.sn < from_
  · have hf : fetchL d from_ most = [] ∧ fetchN d from_ most = 0 ∧ fetchE d from_ = 34 := by unfold fetchN fetchE fetchL; rw [if_pos h1, if_pos h1, if_pos h1]; exact ⟨rfl, rfl, rfl⟩
    obtain ⟨f1, f2⟩ := hend V (.slice none 0 0) (.int .i64 0) (.int .i64 34) _ hR rfl hb0
    obtain ⟨e0, e1, e2⟩ := cells3 f1
    simp only [World.setCells, Nat.zero_add, Nat.reduceAdd] at e0 e1 e2 f2
    have hpost : Hid (FetPost w d from_ most (.returned (.agg #[.slice none 0 0, .int .i64 0, .int .i64 34])) (((V.setCell ⟨q + 1, 0, none⟩ (.slice none 0 0)).setCell ⟨q + 1, 1, none⟩ (.int .i64 0)).setCell ⟨q + 1, 2, none⟩ (.int .i64 34))) := Lib.hid ⟨none, 0, by rw [hf.1, hf.2.1, hf.2.2]; rfl, by rw [hf.1]; exact fun i r hi => by simp at hi, (fun k ⟨o, e⟩ => by cases e), f2⟩
    clear hf f1 f2 hend hP hR hb0 h hr hok
    rcases (show from_ < d.st ∨ (d.st ≤ from_ ∧ d.sn < from_) by omega) with k1 | ⟨k1, k2⟩
    all_goals
      clear h1
      go_enter Try.func30, Try.ntmps30
      go_upto_region 1 with fail
      rw [← show V = _ from hVN.out, hq.out]
      clear hVN
      go_wp2_with fail
      exact bodyPost_ret (v := .agg #[.slice none 0 0, .int .i64 0, .int .i64 34]) (by simp [results, Try.results30, go_sem, e0, e1, e2]) rfl hpost.out
  · have k1 : d.st ≤ from_ := by omega
    have k2 : from_ ≤ d.sn := by omega
    by_cases h2 : most < 1
    · have hf : fetchL d from_ most = [] ∧ fetchN d from_ most = from_ ∧ fetchE d from_ = 0 := by unfold fetchN fetchE fetchL; rw [if_neg h1, if_neg h1, if_neg h1, if_pos h2, if_pos h2]; exact ⟨rfl, rfl, rfl⟩
      obtain ⟨f1, f2⟩ := hend V (.slice none 0 0) (.int .i64 from_) (.int .i64 0) _ hR rfl hb0
      obtain ⟨e0, e1, e2⟩ := cells3 f1
      simp only [World.setCells, Nat.zero_add, Nat.reduceAdd] at e0 e1 e2 f2
      have hpost : Hid (FetPost w d from_ most (.returned (.agg #[.slice none 0 0, .int .i64 from_, .int .i64 0])) (((V.setCell ⟨q + 1, 0, none⟩ (.slice none 0 0)).setCell ⟨q + 1, 1, none⟩ (.int .i64 from_)).setCell ⟨q + 1, 2, none⟩ (.int .i64 0))) := Lib.hid ⟨none, 0, by rw [hf.1, hf.2.1, hf.2.2]; rfl, by rw [hf.1]; exact fun i r hi => by simp at hi, (fun k ⟨o, e⟩ => by cases e), f2⟩
      clear hf f1 f2 hend hP hR hb0 h hr hok h1
      go_enter Try.func30, Try.ntmps30
      go_upto_region 1 with fail
      rw [← show V = _ from hVN.out, hq.out]
      clear hVN
      go_wp2_with fail
      exact bodyPost_ret (v := .agg #[.slice none 0 0, .int .i64 from_, .int .i64 0]) (by simp [results, Try.results30, go_sem, e0, e1, e2]) rfl hpost.out
    · have h3 : 1 ≤ most := by omega
      have hall := accF_all (most := most) hr h1 h2
      rw [hN.out] at hall
      have hpost : Hid (∀ (A : Option Addr) (cc : Nat) (W : World), RcAt W A (accF d from_ most N) → (∀ k, ownB A k → w.heap.size ≤ k) → Below w.heap.size w W → FetPost w d from_ most (.returned (.agg #[.slice A (accF d from_ most N).length cc, .int .i64 (lastN d.sn (accF d from_ most N)), .int .i64 0])) W) := Lib.hid (fun A cc W h4 h5 h6 => by
        rw [hall] at h4 ⊢
        refine ⟨A, cc, ?_, h4, h5, h6⟩
        unfold fetchN fetchE
        rw [if_neg h1, if_neg h1, if_neg h2])
      obtain ⟨W1, hW1⟩ : ∃ W1, Hid (W1 = V.alloc (.cells #[.slice none 0 0, .int .i64 d.sn, .int .i64 0] 61)) := ⟨_, Lib.hid rfl⟩
      have hb1 : Below V.heap.size V W1 := by rw [hW1.out]; exact grewAlloc (Below.refl _ _) _
      have hO1 : Whole W1 V.heap.size 61 [.slice none 0 0, .int .i64 d.sn, .int .i64 0] := by rw [hW1.out]; exact Whole.new V _ _
      have hP1 := hP.below hb1 hP.lt
      have hR1 := hR.below hb1 hR.lt
      have hqo : q + 1 < V.heap.size := hR.lt
      obtain ⟨ob, hob⟩ : ∃ ob, Hid (V.heap.size = ob) := ⟨_, Lib.hid rfl⟩
      rw [hob.out] at hO1 hqo
      have hoW : ob < W1.heap.size := hO1.lt
      have hwob : w.heap.size ≤ ob := by rw [← hob.out]; exact hb0.size
      have hbW := Lib.hid (grew hb0 hb1)
      obtain ⟨i0, hi0, hz0, hz1, hz2⟩ := info_parts infoRp
      have hyes : Hid (∀ (k : Nat) (r : Rc), d.rs[k]? = some r → (from_ ≤ r.off ∧ r.off < d.sn) → (accF d from_ most k).length < min most.toNat 16 → accF d from_ most (k + 1) = accF d from_ most k ++ [r]) := Lib.hid (fun k r => accF_yes)
      have hout : Hid (∀ (k : Nat) (r : Rc), d.rs[k]? = some r → ¬ (from_ ≤ r.off ∧ r.off < d.sn) → accF d from_ most (k + 1) = accF d from_ most k) := Lib.hid (fun k r => accF_out)
      have hful : Hid (∀ (k : Nat) (r : Rc), d.rs[k]? = some r → min most.toNat 16 ≤ (accF d from_ most k).length → accF d from_ most (k + 1) = accF d from_ most k) := Lib.hid (fun k r => accF_full)
      have hac0 := Lib.hid (accF_zero d from_ most)
      have hoks := Lib.hid hok
      have g0 : W1.cell? ⟨ob, 0, none⟩ = some (.slice none 0 0) := hO1.cell 0
      have pp0 : W1.cell? ⟨q, 0, none⟩ = some (.slice vr N cr) := hP1.cell 0
      replace h := Lib.hid h
      replace hb0 := Lib.hid hb0
      replace hend := Lib.hid hend
      replace hO1 := Lib.hid hO1
      replace hP1 := Lib.hid hP1
      replace hR1 := Lib.hid hR1
      clear h1 h2 hall hok hr hP hR hb1
      go_enter Try.func30, Try.ntmps30
      go_upto_region 1 with fail
      rw [← show V = _ from hVN.out, hq.out]
      clear hVN
      go_upto_region 6 with fail
      rw [← show W1 = _ from hW1.out, hob.out]
      clear hW1 p0 p1 p2 p3 r0 r1 r2 z0 z1 z2
      go_wp2_with fail
      clear pp0 g0
      go_loopg [31] N (fun ga i wr => ∃ (k a cc : Nat) (A : Option Addr), k ≤ N ∧ N ≤ k + ga ∧ i = .int .i64 (k : Int) ∧ a ≤ k ∧ Hid ((accF d from_ most k).length = a ∧ wr.ownsRow W1.heap.size 40 8 (.slice A a cc) a (rcRows (accF d from_ most k)) ∧ Kept (fun b => b = ob) W1 wr ∧ Whole wr ob 61 [.slice A a cc, .int .i64 (lastN d.sn (accF d from_ most k)), .int .i64 0]))
      case atStart => exact ⟨0, 0, 0, none, by omega, by omega, rfl, by omega, Lib.hid ⟨by rw [hac0.out]; rfl, by rw [hac0.out]; exact own_nilP, Kept.refl _ _, by rw [hac0.out]; exact hO1.out⟩⟩
      case round =>
        obtain ⟨k, a, cc, A, hk, hg, rfl, hak, hrel⟩ := hrel
        generalize wr = wo at *
        obtain ⟨l1, l2, l3, l4⟩ := hrel.out
        have hbw : Below w.heap.size w wo := hbW.out.trans (l3.below hbW.out.size (fun b e => by rw [e]; exact hwob))
        have hPo := hP1.out.of_kept l3 (show ¬ q = ob by omega)
        have hRo := hR1.out.of_kept l3 (show ¬ q + 1 = ob by omega)
        by_cases hlt : k < N
        · obtain ⟨r, hr⟩ : ∃ r, d.rs[k]? = some r := ⟨_, List.getElem?_eq_getElem (by have := hN.out; omega)⟩
          obtain ⟨b, o, rfl, c0, c1, c2, c3, c4, c5, c6, c7⟩ := (h.out.below hbw).get hr
          have hro := (hoks.out r (List.mem_of_getElem? hr)).1
          obtain ⟨W2, hW2⟩ : ∃ W2, Hid (W2 = wo.alloc (.cells #[.int .i64 r.off, .int .i64 r.tick, .string r.key, .string r.val, .bool r.gone, .int .i64 r.prod, .int .i64 r.seq, .int .i64 r.frm] 40)) := ⟨_, Lib.hid rfl⟩
          have hb2 : Below wo.heap.size wo W2 := by rw [hW2.out]; exact grewAlloc (Below.refl _ _) _
          have hX2 : Whole W2 wo.heap.size 40 (rcL r) := by rw [hW2.out]; exact Whole.new wo _ _
          have how2 : Hid (W2.ownsRow W1.heap.size 40 8 (.slice A a cc) a (rcRows (accF d from_ most k))) := Lib.hid (own_of_kept (own := fun _ => False) l2 (Kept.of_below hb2) (fun _ _ e => e))
          have hK2 := Lib.hid (l3.trans (Kept.of_below hb2))
          have hO2 := l4.below hb2 l4.lt
          have hP2 := hPo.below hb2 hPo.lt
          obtain ⟨xb, hxb⟩ : ∃ xb, Hid (wo.heap.size = xb) := ⟨_, Lib.hid rfl⟩
          rw [hxb.out] at hX2
          obtain ⟨x0, x1, x2, x3, x4, x5, x6, x7⟩ := recCells hX2
          obtain ⟨o0, o1, o2⟩ := cells3 hO2
          have pq3 : W2.cell? ⟨q, 3, none⟩ = some (.int .i64 d.sn) := hP2.cell 3
          have hki : (k : Int) < (N : Int) := by omega
          have hwr : IntKind.i64.wrap (r.off + 1) = r.off + 1 := by rw [IntWalk.i64_in _ (by omega)]
          have hy := fun h5 h6 => hyes.out k r hr h5 h6
          have ho := fun h5 => hout.out k r hr h5
          have hf := fun h5 => hful.out k r hr h5
          rw [l1] at hy hf
          have hsame : Hid (accF d from_ most (k + 1) = accF d from_ most k → (accF d from_ most (k + 1)).length = a ∧ W2.ownsRow W1.heap.size 40 8 (.slice A a cc) a (rcRows (accF d from_ most (k + 1))) ∧ Kept (fun b => b = ob) W1 W2 ∧ Whole W2 ob 61 [.slice A a cc, .int .i64 (lastN d.sn (accF d from_ most (k + 1))), .int .i64 0]) := Lib.hid (fun e => by
            rw [e]; exact ⟨l1, how2.out, hK2.out, hO2⟩)
          have hltr : Hid (∀ j, (Value.slice A a cc).ownBlock = some j → j < xb) := Lib.hid (fun j hj => by have := (l2.lt j hj).2; have := hxb.out; omega)
          replace hO2 := Lib.hid hO2
          replace hr := Lib.hid hr
          have hX2' := Lib.hid hX2
          clear hrel l2 l3 l4 hbw hPo hRo hb2 hX2 hP2
          go_upto_region 9 with fail
          rw [← show W2 = _ from hW2.out, hxb.out]
          clear hW2 hxb c0 c1 c2 c3 c4 c5 c6 c7
          by_cases hin : from_ ≤ r.off ∧ r.off < d.sn
          · by_cases hfu : a < min most.toNat 16
            · have hac := Lib.hid (hy hin hfu)
              obtain ⟨m1, m2⟩ := hin
              have m3 : (a : Int) < most := by omega
              have m4 : (a : Int) < 16 := by omega
              have hlast := lastN_snoc d.sn (accF d from_ most k) r
              replace hlast := Lib.hid hlast
              have hz := hO2.out.frozen 0
              clear hy ho hf hsame hfu
              go_wp2_with (with_reducible refine zAppend _ _ _ rfl ?_)
              refine Lib.hid ?_
              refine wpList_append_lies _ rfl _ _ 27 rfl W1.heap.size 40 i0 _ 8 80 Try.underlying27 hi0 hz0 hz1 hz2 rfl (by omega) _ _ _ rfl (how2.out.alloc _) _ 1 1 (rcL r) rfl rfl (World.news_of_block (heap_alloc_new _ _)) (by simp [Value.oneCell']) (by omega) (by unfold maxLen; omega) (by omega) (by have := hK2.out.size; simp; omega) (W2.heap.size + 1) (by simp) ?_
              intro gg cap2 w5 hown5 hgrow5 hat5 hlt5
              have hrow : ∀ j, (Value.slice A a cc).ownBlock = some j → W1.heap.size ≤ j := fun j hj => ownFar how2.out j hj
              have hk5 : Kept (fun b => b = ob) W1 w5 := (hK2.out.alloc _).grown hgrow5 (fun j hj => .inr (hrow j hj))
              have hO5 : Whole w5 ob 61 [.slice A a cc, .int .i64 (lastN d.sn (accF d from_ most k)), .int .i64 0] := (hO2.out.alloc _).kept hgrow5 (fun e => by have := hrow ob e.symm; omega)
              have hX5 : Whole w5 xb 40 (rcL r) := (hX2'.out.alloc _).kept hgrow5 (fun e => by have := hltr.out xb e.symm; omega)
              have hxo : xb ≠ ob := fun e => by
                have h5 := hX2'.out
                rw [e] at h5
                exact h5.ne hO2.out (by decide) rfl
              have hO6 : Whole (w5.setCell ⟨ob, 0, none⟩ (.slice (some ⟨gg, 0, none⟩) (a + 1) cap2)) ob 61 [.slice (some ⟨gg, 0, none⟩) (a + 1) cap2, .int .i64 (lastN d.sn (accF d from_ most k)), .int .i64 0] := hO5.store 0 [.slice (some ⟨gg, 0, none⟩) (a + 1) cap2] (by simp)
              have hO7 : Whole ((w5.setCell ⟨ob, 0, none⟩ (.slice (some ⟨gg, 0, none⟩) (a + 1) cap2)).setCell ⟨ob, 1, none⟩ (.int .i64 (r.off + 1))) ob 61 [.slice (some ⟨gg, 0, none⟩) (a + 1) cap2, .int .i64 (r.off + 1), .int .i64 0] := hO6.store 1 [.int .i64 (r.off + 1)] (by simp)
              have hk7 : Kept (fun b => b = ob) w5 ((w5.setCell ⟨ob, 0, none⟩ (.slice (some ⟨gg, 0, none⟩) (a + 1) cap2)).setCell ⟨ob, 1, none⟩ (.int .i64 (r.off + 1))) := ((Kept.refl (fun b => b = ob) w5).setCell (.inl rfl) 0 _).setCell (.inl rfl) 1 _
              have hown7 := own_of_kept hown5 hk7 (fun j hj e => by have := ownFar hown5 j hj; omega)
              have hfin : Hid ((accF d from_ most (k + 1)).length = a + 1 ∧ ((w5.setCell ⟨ob, 0, none⟩ (.slice (some ⟨gg, 0, none⟩) (a + 1) cap2)).setCell ⟨ob, 1, none⟩ (.int .i64 (r.off + 1))).ownsRow W1.heap.size 40 8 (.slice (some ⟨gg, 0, none⟩) (a + 1) cap2) (a + 1) (rcRows (accF d from_ most (k + 1))) ∧ Kept (fun b => b = ob) W1 ((w5.setCell ⟨ob, 0, none⟩ (.slice (some ⟨gg, 0, none⟩) (a + 1) cap2)).setCell ⟨ob, 1, none⟩ (.int .i64 (r.off + 1))) ∧ Whole ((w5.setCell ⟨ob, 0, none⟩ (.slice (some ⟨gg, 0, none⟩) (a + 1) cap2)).setCell ⟨ob, 1, none⟩ (.int .i64 (r.off + 1))) ob 61 [.slice (some ⟨gg, 0, none⟩) (a + 1) cap2, .int .i64 (lastN d.sn (accF d from_ most (k + 1))), .int .i64 0]) := Lib.hid (by
                rw [hac.out, hlast.out]
                refine ⟨by rw [List.length_append, l1]; rfl, ?_, hk5.trans hk7, hO7⟩
                rw [rcRows_append, show rcRows [r] = rcL r from by simp [rcRows]]
                exact hown7)
              have y0 : w5.cell? ⟨ob, 0, none⟩ = some (.slice A a cc) := hO5.cell 0
              have zz0 := hO5.frozen 0
              have y1 : (w5.setCell ⟨ob, 0, none⟩ (.slice (some ⟨gg, 0, none⟩) (a + 1) cap2)).cell? ⟨ob, 1, none⟩ = some (.int .i64 (lastN d.sn (accF d from_ most k))) := hO6.cell 1
              have zz1 := hO6.frozen 1
              have xx0 : (w5.setCell ⟨ob, 0, none⟩ (.slice (some ⟨gg, 0, none⟩) (a + 1) cap2)).cell? ⟨xb, 0, none⟩ = some (.int .i64 r.off) := (hX5.far hxo 0 [.slice (some ⟨gg, 0, none⟩) (a + 1) cap2]).cell 0
              clear hown5 hgrow5 hat5 hrow hk5 hO5 hX5 hO6 hO7 hk7 hown7 x0 x1 x2 x3 x4 x5 x6 x7 o0 o1 o2 pq3 hxo hz
              go_wp2_with fail
              go_roundg (gk - 1)
              case measure => omega
              case rel => exact ⟨k + 1, a + 1, cap2, some ⟨gg, 0, none⟩, by omega, by omega, by go_num, by omega, hfin⟩
            · have hfin := Lib.hid (hsame.out (hf (by omega)))
              obtain ⟨m1, m2⟩ := hin
              rcases (show most ≤ (a : Int) ∨ ((a : Int) < most ∧ (16 : Int) ≤ (a : Int)) by omega) with m3 | ⟨m3, m4⟩
              all_goals
                clear hy ho hf hsame hfu
                go_wp2_with fail
                go_roundg (gk - 1)
                case measure => omega
                case rel => exact ⟨k + 1, a, cc, A, by omega, by omega, by go_num, by omega, hfin⟩
          · have hfin := Lib.hid (hsame.out (ho hin))
            rcases (show r.off < from_ ∨ (from_ ≤ r.off ∧ d.sn ≤ r.off) by omega) with m3 | ⟨m3, m4⟩
            all_goals
              clear hy ho hf hsame hin
              go_wp2_with fail
              go_roundg (gk - 1)
              case measure => omega
              case rel => exact ⟨k + 1, a, cc, A, by omega, by omega, by go_num, by omega, hfin⟩
        · obtain rfl : k = N := by omega
          obtain ⟨hro, hq2⟩ := RowO.of_own l2 l1
          obtain ⟨f1, f2⟩ := hend.out wo (.slice A a cc) (.int .i64 (lastN d.sn (accF d from_ most k))) (.int .i64 0) _ hRo rfl hbw
          obtain ⟨e0, e1, e2⟩ := cells3 f1
          have hrow2 : RcAt (wo.setCells (q + 1) 0 [.slice A a cc, .int .i64 (lastN d.sn (accF d from_ most k)), .int .i64 0]) A (accF d from_ most k) := hro.at_.of_kept ((Kept.refl (fun b => b = q + 1) wo).setCells (.inl rfl) 0 _) (fun _ b hb e => by have := hq2 b hb; omega)
          have hp := hpost.out A cc _ hrow2 (fun b hb => by have := hq2 b hb; omega) f2
          rw [l1] at hp
          simp only [World.setCells, Nat.zero_add, Nat.reduceAdd] at e0 e1 e2 hp
          obtain ⟨o0, o1, o2⟩ := cells3 l4
          obtain ⟨r0, r1, r2⟩ := cells3 hRo
          have z0 := hRo.frozen 0
          have z1 := hRo.frozen 1
          have z2 := hRo.frozen 2
          replace hp := Lib.hid hp
          clear hpost hend f1 f2 hrow2 hro hq2 hrel l2 l3 l4 hbw hPo hRo
          obtain ⟨LN, hLN⟩ : ∃ x, Hid (lastN d.sn (accF d from_ most k) = x) := ⟨_, Lib.hid rfl⟩
          rw [hLN.out] at e0 e1 e2 o1 hp
          go_wp2_with fail
          exact bodyPost_ret (v := .agg #[.slice A a cc, .int .i64 LN, .int .i64 0]) (by simp [results, Try.results30, go_sem, e0, e1, e2]) rfl hp.out
end Go.Proofs.Ytahljbjgenepaaa.W
