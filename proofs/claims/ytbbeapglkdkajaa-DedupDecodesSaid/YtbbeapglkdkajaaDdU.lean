/- The definition's table: Note. -/
import Derived.Test.YtbbeapglkdkajaaDdT
import Derived.Deep.AppendLies
namespace Go.Proofs.Ytbbeapglkdkajaa.W
open Go.RowKit Go.Sort
open Go.Proofs.Ytbbeapglkdkajaa.M Go.Proofs.Ytbbeapglkdkajaa.D Go.Proofs.Ytbbeapglkdkajaa.Z
set_option linter.unusedVariables false
set_option linter.unusedSimpArgs false

/-- One round of the definition's Note. -/
def stepN (x : La) (q : List La × Bool) (y : La) : List La × Bool :=
  (if y.p = x.p then (if q.2 = false ∧ x.p ≤ y.p then q.1 ++ [x] else q.1) else (if q.2 = false ∧ x.p ≤ y.p then q.1 ++ [x] else q.1) ++ [y], q.2 || decide (x.p ≤ y.p))
def runN (x : La) (l : List La) : List La × Bool := l.foldl (stepN x) ([], false)
theorem runN_take {x : La} {l : List La} {k : Nat} {y : La} (h : l[k]? = some y) : runN x (l.take (k + 1)) = stepN x (runN x (l.take k)) y := by
  unfold runN
  rw [List.take_add_one, h, List.foldl_append]
  rfl
theorem runN_len (x : La) (l : List La) : (runN x l).1.length ≤ 2 * l.length := by
  have key : ∀ (l : List La) (q : List La × Bool), (l.foldl (stepN x) q).1.length ≤ q.1.length + 2 * l.length := by
    intro l
    induction l with
    | nil => intro q; simp
    | cons y l ih =>
      intro q
      have h1 := ih (stepN x q y)
      have h2 : (stepN x q y).1.length ≤ q.1.length + 2 := by
        unfold stepN
        dsimp only
        split <;> split <;> simp
      rw [List.foldl_cons, List.length_cons]
      omega
  have := key l ([], false)
  unfold runN
  simpa using this
theorem insL_front {x : La} : ∀ {l : List La}, (∀ y ∈ l, x.p < y.p) → insL x l = x :: l
  | [], _ => rfl
  | y :: r, h => by
    unfold insL
    rw [if_pos (h y (by simp))]
/-- What the definition's Note comes to. -/
theorem runN_note {x : La} {l : List La} (hr : riseL l) : (if (runN x l).2 = false then (runN x l).1 ++ [x] else (runN x l).1) = noteL l x := by
  have hT : ∀ (l : List La) (out : List La), l.foldl (stepN x) (out, true) = (out ++ l.filter (fun y => !decide (y.p = x.p)), true) := by
    intro l
    induction l with
    | nil => intro out; simp
    | cons y l ih =>
      intro out
      rw [List.foldl_cons]
      by_cases e : y.p = x.p
      · rw [show stepN x (out, true) y = (out, true) by unfold stepN; simp [e], ih]
        simp [e]
      · rw [show stepN x (out, true) y = (out ++ [y], true) by unfold stepN; simp [e], ih]
        simp [e]
  have hF : ∀ (l : List La) (out : List La), riseL l → (if (l.foldl (stepN x) (out, false)).2 = false then (l.foldl (stepN x) (out, false)).1 ++ [x] else (l.foldl (stepN x) (out, false)).1) = out ++ noteL l x := by
    intro l
    induction l with
    | nil => intro out _; simp [noteL, insL]
    | cons y l ih =>
      intro out hr
      obtain ⟨h1, h2⟩ := List.pairwise_cons.1 hr
      rw [List.foldl_cons]
      by_cases c1 : x.p ≤ y.p
      · have hgt : ∀ z ∈ l.filter (fun y => !decide (y.p = x.p)), x.p < z.p := fun z hz => by
          have := h1 z (List.mem_filter.1 hz).1
          omega
        by_cases e : y.p = x.p
        · rw [show stepN x (out, false) y = (out ++ [x], true) by unfold stepN; simp [e, c1], hT]
          simp only [Bool.true_eq_false, if_false]
          unfold noteL
          rw [List.filter_cons_of_neg (by simp [e]), insL_front hgt]
          simp
        · rw [show stepN x (out, false) y = (out ++ [x] ++ [y], true) by unfold stepN; simp [e, c1], hT]
          simp only [Bool.true_eq_false, if_false]
          unfold noteL
          rw [List.filter_cons_of_pos (by simp [e])]
          rw [insL_front (fun z hz => by
            rcases List.mem_cons.1 hz with rfl | hz
            · omega
            · exact hgt z hz)]
          simp
      · have e : y.p ≠ x.p := by omega
        rw [show stepN x (out, false) y = (out ++ [y], false) by unfold stepN; simp [e, c1], ih _ h2]
        unfold noteL
        rw [List.filter_cons_of_pos (by simp [e])]
        conv => rhs; unfold insL
        rw [if_neg (by omega)]
        simp
  have := hF l [] hr
  rw [List.nil_append] at this
  exact this
theorem infoLa : (Try.prog.info? 49).map (fun i => (i.zero, i.size, i.bytes)) = some (some (.agg #[.int .i64 0, .int .i64 0, .int .i64 0, .int .i64 0]), 4, 32) := by kernel_rfl
/-- One batch appended to a row of one's own. -/
theorem la_app {ops : Array Oper} {rest : List Oper} {o : Oper} {a : Act} {W w0 : World} {Q : Exit → Act → World → Prop} (hgd : o.guard = none) (s x : Operand)
    (ho : o.op = .call { callee := .builtin .append, args := #[s, x], argTypes := #[42, 42] }) (A : Option Addr) (n c : Nat) (out : List La) (hn : out.length = n) (hs : a.eval s = .slice A n c) (hown : W.ownsRow w0.heap.size 49 4 (.slice A n c) n (laRows out)) (hB : Below w0.heap.size w0 W)
    (y : La) (q : Nat) (hq : W.heap.size = q) (hx : a.eval x = .slice (some ⟨q, 0, none⟩) 1 1) (hnm : n ≤ 10000)
    (h : ∀ g cap w', w'.ownsRow w0.heap.size 49 4 (.slice (some ⟨g, 0, none⟩) (n + 1) cap) (n + 1) (laRows (out ++ [y])) → Below w0.heap.size w0 w' → (W.alloc (.cells #[.int .i64 y.p, .int .i64 y.s, .int .i64 y.n, .int .i64 y.o] 49)).grownBy w' (Value.slice A n c).ownBlock → wpList Try.prog ops Q rest (a.put o.dst (.slice (some ⟨g, 0, none⟩) (n + 1) cap)) w') : wpList Try.prog ops Q (o :: rest) a (W.alloc (.cells #[.int .i64 y.p, .int .i64 y.s, .int .i64 y.n, .int .i64 y.o] 49)) := by
  obtain ⟨i0, hi0, hz0, hz1, hz2⟩ := info_parts infoLa
  have hB2 := hB.alloc hB.size (.cells #[.int .i64 y.p, .int .i64 y.s, .int .i64 y.n, .int .i64 y.o] 49)
  have how2 := hown.alloc (.cells #[.int .i64 y.p, .int .i64 y.s, .int .i64 y.n, .int .i64 y.o] 49)
  refine wpList_append_lies _ hgd s x _ ho w0.heap.size 49 i0 _ 4 32 Try.underlying42 hi0 hz0 hz1 hz2 rfl (by omega) (.slice A n c) n (laRows out) hs how2 ⟨q, 0, none⟩ 1 1 (la4 y) hx rfl (World.news_of_block (by rw [← hq]; exact heap_alloc_new _ _)) (by simp [Value.oneCell']) (by omega) (by unfold maxLen; omega) (by omega) (by have := hB2.size; simpa using this) _ rfl ?_
  intro g cap w' hown' hgrow hat' hlt'
  rw [show laRows out ++ la4 y = laRows (out ++ [y]) from by rw [laRows_append]; simp [laRows]] at hown'
  exact h g cap w' hown' (((Kept.of_below (own := fun _ => False) hB2).grown hgrow (fun q hq => .inr (ownFar how2 q hq))).below (Nat.le_refl _) (fun _ h => h.elim)) hgrow
theorem noted_above {w V : World} {q : Nat} {a b : Value} (hB : Below w.heap.size w V) (hq : w.heap.size ≤ q) : Below w.heap.size w (V.setCells q 0 [a, b]) := Z.below_store hB hq (Nat.le_refl _) 0 _
theorem own_nilL {W : World} {B : Nat} {e : TypeId} {sz : Nat} : W.ownsRow B e sz (.slice none 0 0) 0 [] := ⟨by simp, .inl ⟨rfl, rfl⟩⟩
abbrev noteA (A : Option Addr) (n c : Nat) (e : Int) : Value := .agg #[.slice A n c, .int .i64 e]
set_option maxRecDepth 100000 in
set_option maxHeartbeats 4000000 in
theorem rnote_no (A : Option Addr) (c : Nat) (l : List La) (x : La) (w : World) (h : LaL w A l) (hok : TabOk l) (hx : noteE l x ≠ 0) :
    Calls Try.prog 19 #[.slice A l.length c, .agg #[.int .i64 x.p, .int .i64 x.s, .int .i64 x.n, .int .i64 x.o]] w fun e w' => e = .returned (noteA A l.length c (noteE l x)) ∧ Below w.heap.size w w' := by
  obtain ⟨V, hV⟩ : ∃ V, Hid (V = (w.alloc (.cells #[.int .i64 x.p, .int .i64 x.s, .int .i64 x.n, .int .i64 x.o] 49)).alloc (.cells #[.slice none 0 0, .int .i64 0] 46)) := ⟨_, Lib.hid rfl⟩
  have hb0 : Below w.heap.size w V := by rw [hV.out]; exact grewAlloc (grewAlloc (Below.refl _ _) _) _
  have hX : Whole V w.heap.size 49 [.int .i64 x.p, .int .i64 x.s, .int .i64 x.n, .int .i64 x.o] := by rw [hV.out]; exact (Whole.new w _ _).alloc _
  have hR : Whole V (w.heap.size + 1) 46 [.slice none 0 0, .int .i64 0] := by
    rw [hV.out]
    have := Whole.new (w.alloc (.cells #[.int .i64 x.p, .int .i64 x.s, .int .i64 x.n, .int .i64 x.o] 49)) 46 [.slice none 0 0, .int .i64 0]
    simpa using this
  obtain ⟨q, hq⟩ : ∃ q, Hid (w.heap.size = q) := ⟨_, Lib.hid rfl⟩
  obtain ⟨rb, hrb⟩ : ∃ q, Hid (w.heap.size + 1 = q) := ⟨_, Lib.hid rfl⟩
  have hrw : w.heap.size ≤ rb := by rw [← hrb.out]; omega
  rw [hq.out] at hX
  rw [hrb.out] at hR
  obtain ⟨x0, x1, x2, x3⟩ := la4Cells hX
  have hfew := hok.few
  have hmay := rmay18_any x.p x.s x.n V
  by_cases c0 : ¬ x.ok
  · have hx1 : noteE l x = 1 := by unfold noteE; rw [if_pos c0]
    rw [hx1]
    have r0 := hR.cell 0
    have r1 := hR.cell 1
    have f0 := hR.frozen 0
    have f1 := hR.frozen 1
    have hR2 : Whole (V.setCells rb 0 [.slice A l.length c, .int .i64 1]) rb 46 [.slice A l.length c, .int .i64 1] := hR.store 0 [.slice A l.length c, .int .i64 1] (by simp)
    have e0 := hR2.cell 0
    have e1 := hR2.cell 1
    simp only [List.getElem?_cons_zero, List.getElem?_cons_succ] at r0 r1 e0 e1
    have hB9 := Lib.hid (noted_above (q := rb) (a := .slice A l.length c) (b := .int .i64 1) hb0 hrw)
    simp only [World.setCells, Nat.zero_add, Nat.reduceAdd] at e0 e1
    by_cases c1 : ¬ okB x.p x.s x.n 0
    · rw [decide_eq_false c1] at hmay
      replace hmay := Lib.hid hmay
      clear h hok hx hx1 c0 hb0 hX hR hR2 c1
      go_enter Try.func19, Try.ntmps19
      go_upto_region 1 with fail
      rw [← show V = _ from hV.out, hrb.out, hq.out]
      clear hV hq hrb
      go_wp2_with fail
      refine hmay.out.mono ?_
      rintro e w1 ⟨rfl, rfl⟩
      go_wp2_with fail
      exact bodyPost_ret (v := noteA A l.length c 1) (by simp [results, Try.results19, go_sem, e0, e1]) rfl ⟨rfl, hB9.out⟩
    · replace c1 := Classical.not_not.1 c1
      rw [decide_eq_true c1] at hmay
      replace hmay := Lib.hid hmay
      have ho : x.o < 0 ∨ 1048576 < x.o := by
        refine Classical.byContradiction fun e => c0 ⟨c1.1, c1.2.1, c1.2.2.1, by omega, by omega⟩
      clear h hok hx hx1 c0 hb0 hX hR hR2 c1
      by_cases o1 : x.o < 0
      · clear ho
        go_enter Try.func19, Try.ntmps19
        go_upto_region 1 with fail
        rw [← show V = _ from hV.out, hrb.out, hq.out]
        clear hV hq hrb
        go_wp2_with fail
        refine hmay.out.mono ?_
        rintro e w1 ⟨rfl, rfl⟩
        go_wp2_with fail
        exact bodyPost_ret (v := noteA A l.length c 1) (by simp [results, Try.results19, go_sem, e0, e1]) rfl ⟨rfl, hB9.out⟩
      · have o2 : 1048576 < x.o := ho.resolve_left o1
        clear ho
        go_enter Try.func19, Try.ntmps19
        go_upto_region 1 with fail
        rw [← show V = _ from hV.out, hrb.out, hq.out]
        clear hV hq hrb
        go_wp2_with fail
        refine hmay.out.mono ?_
        rintro e w1 ⟨rfl, rfl⟩
        go_wp2_with fail
        exact bodyPost_ret (v := noteA A l.length c 1) (by simp [results, Try.results19, go_sem, e0, e1]) rfl ⟨rfl, hB9.out⟩
  · replace c0 := Classical.not_not.1 c0
    have hx5 : noteE l x = 5 ∧ hasL l x.p = false ∧ l.length = 16 := by
      unfold noteE at hx ⊢
      rw [if_neg (fun e => e c0)] at hx ⊢
      by_cases c : hasL l x.p = true ∨ l.length < 16
      · rw [if_pos c] at hx; exact absurd rfl hx
      · rw [if_neg c]
        exact ⟨rfl, by simpa using fun e => c (.inl e), by have : ¬ l.length < 16 := fun e => c (.inr e); omega⟩
    obtain ⟨h5, hh, hl⟩ := hx5
    have hg : getL l x.p = none := by
      unfold hasL at hh
      cases hg : getL l x.p with
      | none => rfl
      | some y => rw [hg] at hh; cases hh
    have hf := rfind_any A c l x.p V (h.below hb0) (by omega)
    rw [findI_none hg] at hf
    rw [h5]
    obtain ⟨c1, c2, c3, o0, o1⟩ := id c0
    have oB : okB x.p x.s x.n 0 := ⟨c1, c2, c3, by decide⟩
    rw [decide_eq_true oB] at hmay
    have no0 : ¬ x.o < 0 := by omega
    have no1 : ¬ 1048576 < x.o := by omega
    rw [hl] at hf ⊢
    replace hmay := Lib.hid hmay
    replace hf := Lib.hid hf
    clear hx c0 hh hg c1 c2 c3 oB
    go_enter Try.func19, Try.ntmps19
    go_upto_region 1 with fail
    rw [← show V = _ from hV.out, hrb.out, hq.out]
    clear hV hq hrb
    go_wp2_with fail
    refine hmay.out.mono ?_
    rintro e w1 ⟨rfl, rfl⟩
    go_wp2_with fail
    refine hf.out.mono ?_
    rintro e w2 ⟨rfl, hb2⟩
    have hR1 := hR.below hb2 hR.lt
    have hB1 := grew hb0 hb2
    have r0 := hR1.cell 0
    have r1 := hR1.cell 1
    have f0 := hR1.frozen 0
    have f1 := hR1.frozen 1
    have hR2 : Whole (w2.setCells rb 0 [.slice A 16 c, .int .i64 5]) rb 46 [.slice A 16 c, .int .i64 5] := hR1.store 0 [.slice A 16 c, .int .i64 5] (by simp)
    have e0 := hR2.cell 0
    have e1 := hR2.cell 1
    simp only [List.getElem?_cons_zero, List.getElem?_cons_succ] at r0 r1 e0 e1
    have hB9 := Lib.hid (noted_above (q := rb) (a := .slice A 16 c) (b := .int .i64 5) hB1 hrw)
    simp only [World.setCells, Nat.zero_add, Nat.reduceAdd] at e0 e1
    clear hR hR1 hR2 hB1 hX hb0 h hb2 hf hmay hok
    go_wp2_with fail
    exact bodyPost_ret (v := noteA A 16 c 5) (by simp [results, Try.results19, go_sem, e0, e1]) rfl ⟨rfl, hB9.out⟩
end Go.Proofs.Ytbbeapglkdkajaa.W
