/- Package journal: mayBe, sizes (an iterator over a row of frames), Need. Package journal's law: are frames more than it goes through? Package journal's law: its small case, two journals of eight frames. -/
import Derived.Test.YtgogackkeodciabGreatDoorJnB
import Derived.RangeFuncBox
import Derived.RangeFuncLeaves
import Derived.RangeFuncWrites
import Derived.Shelf.Abstract
import Derived.WalkKit
import Derived.OwnWalkIn
import Derived.TacticsInMore
import Derived.LoopNIn
import Derived.LoopIn
import Derived.Test.YtgogackkeodciabGreatDoorSgT
import Derived.Test.YtgogackkeodciabGreatDoorJnE
section
namespace Go.Proofs.YtgogackkeodciabGreatDoor.W
open Go.RowKit Go.Sort Go.Shelf
open Go.Proofs.YtgogackkeodciabGreatDoor.M Go.Proofs.YtgogackkeodciabGreatDoor.D Go.Proofs.YtgogackkeodciabGreatDoor.Z
set_option linter.unusedVariables false
set_option linter.unusedSimpArgs false

attribute [local go_sem] Oper.semAt_some

/-- May a frame be? -/
def mayF (f : Int × ByteArray) : Bool := decide (1 ≤ f.1) && decide (f.1 ≤ 255) && decide (f.2.size ≤ 773)
set_option maxRecDepth 100000 in
theorem jmay_any (k : Int) (p : ByteArray) (w : World) : Calls Tryz.prog 64 #[.agg #[.int .i64 k, .string p]] w fun e w' => e = .returned (.bool (mayF (k, p))) ∧ Below w.heap.size w w' := by
  have hB := Lib.hid (allocBelow w (.cells #[.int .i64 k, .string p] 36))
  by_cases h1 : 1 ≤ k
  · by_cases h2 : k ≤ 255
    · by_cases h3 : p.size ≤ 773
      · have h3I : (p.size : Int) ≤ 773 := by omega
        rw [show mayF (k, p) = true from by unfold mayF; simp [h1, h2, h3]]
        go_enter Tryz.func64, Tryz.ntmps64
        go_wp2_with fail
        go_ret
        exact ⟨by first | rfl | (simp [h1, h2, h3I]), hB.out⟩
      · have h3I : ¬ (p.size : Int) ≤ 773 := by omega
        rw [show mayF (k, p) = false from by unfold mayF; simp [h1, h2, h3]]
        go_enter Tryz.func64, Tryz.ntmps64
        go_wp2_with fail
        go_ret
        exact ⟨by first | rfl | (simp; omega), hB.out⟩
    · rw [show mayF (k, p) = false from by unfold mayF; simp [h1, h2]]
      go_enter Tryz.func64, Tryz.ntmps64
      go_wp2_with fail
      go_ret
      exact ⟨by first | rfl | (simp; omega), hB.out⟩
  · rw [show mayF (k, p) = false from by unfold mayF; simp [h1]]
    go_enter Tryz.func64, Tryz.ntmps64
    go_wp2_with fail
    go_ret
    exact ⟨by first | rfl | (simp; omega), hB.out⟩
/-- A number of pieces. -/
abbrev P15 := { x : Nat // x ≤ 15 }
def pc15 (f : Int × ByteArray) : P15 := ⟨min (pcsN f.2.size) 15, Nat.min_le_right _ _⟩
theorem pc15_may {f : Int × ByteArray} (h : mayF f = true) : (pc15 f).1 = pcsN f.2.size := by
  have h3 : f.2.size ≤ 773 := by unfold mayF at h; simp at h; exact h.2
  show min (pcsN f.2.size) 15 = _
  have : pcsN f.2.size ≤ 15 := by unfold pcsN; omega
  omega
def pcs26 (fs : List (Int × ByteArray)) : List P15 := (fs.filter mayF).map pc15
theorem pcs26_yes {fs : List (Int × ByteArray)} {k : Nat} {f : Int × ByteArray} (hf : fs[k]? = some f) (hm : mayF f = true) : pcs26 (fs.take (k + 1)) = pcs26 (fs.take k) ++ [pc15 f] := by
  unfold pcs26
  rw [List.take_add_one, hf, Option.toList_some, List.filter_append, List.map_append]
  simp [List.filter, hm]
theorem pcs26_no {fs : List (Int × ByteArray)} {k : Nat} {f : Int × ByteArray} (hf : fs[k]? = some f) (hm : mayF f = false) : pcs26 (fs.take (k + 1)) = pcs26 (fs.take k) := by
  unfold pcs26
  rw [List.take_add_one, hf, Option.toList_some, List.filter_append, List.map_append]
  simp [List.filter, hm]
theorem pcs26_len (fs : List (Int × ByteArray)) (k : Nat) : (pcs26 (fs.take k)).length ≤ k := by
  unfold pcs26
  rw [List.length_map]
  exact Nat.le_trans (List.length_filter_le _ _) (by rw [List.length_take]; omega)
theorem belowGrown {W W' : World} (hb : Below W.heap.size W W') : W.grownBy W' none := ⟨hb.os, hb.tape, hb.output, hb.size, fun i hi _ => hb.block i hi⟩
theorem manyP {f : Int × ByteArray} (h : mayF f = true) : manyI ((f.2.size : Int) + 7) = ((pc15 f).1 : Int) := by
  rw [pc15_may h, ← manyI_pcs]
  congr 1
set_option maxRecDepth 100000 in
set_option maxHeartbeats 4000000 in
/-- The iterator: for every loop body that keeps what lay below n0. -/
theorem sizes1_in (n : Nat) (hn : 1 ≤ n) (l Bs len cap : Nat) (w0 : World) (A : Option Addr) (fs : List (Int × ByteArray)) (hlen : fs.length = len) (hl : len ≤ 100000) (hsz : ∀ f ∈ fs, f.2.size ≤ 1000000) (J Jx : List P15 → World → Prop)
    (W : World) (hW0 : Below w0.heap.size w0 W) (hJ : AbidesFrom W.heap.size J)
    (hY : ∀ pre x V, J pre V → pre.length < len → YieldAt Fence.wide (n - 1) Tryz.prog l #[.int .i64 ((x.1 : Nat) : Int)] V fun e W' =>
      (e = .returned (.bool true) ∧ J (pre ++ [x]) W' ∧ Below w0.heap.size V W') ∨ (e = .returned (.bool false) ∧ Jx (pre ++ [x]) W'))
    (hBs : W.cell? ⟨Bs, 0, none⟩ = some (.slice A len cap)) (hc : FrAt w0 A fs) (h0 : J [] W) :
    CallsIn Fence.wide n Tryz.prog 63 #[.func (.yield l) #[] #[], .pointer (some ⟨Bs, 0, none⟩)] W fun e W' => (∃ v, e = .returned v) ∧
      ((∃ ys, ys = pcs26 fs ∧ J ys W') ∨ (∃ pre, True ∧ Jx pre W')) := by
  have hmy := Lib.hid jmay_any
  have hsi := Lib.hid (fun (k : Int) (p : ByteArray) V (hp : p.size ≤ 1000000) => frSize_any k p V hp)
  refine callsIn_of_wp Tryz.func63 rfl trivial ?_ rfl
  simp only [Tryz.ntmps63, List.size_toArray, List.length_cons, List.length_nil, Nat.reduceAdd, Nat.reduceSub, Array.replicate_succ, Array.replicate_zero, List.push_toArray, List.append_toArray, List.nil_append, List.cons_append]
  gi_wp2
  gi_loopw [7] (fun i wr => ∃ k : Nat, k ≤ len ∧ i = .int .i64 k ∧ J (pcs26 (fs.take k)) wr ∧ Below w0.heap.size W wr ∧ W.heap.size ≤ wr.heap.size)
    (fun i _ => len - (intOf i).toNat)
  case atStart => exact ⟨0, Nat.zero_le _, rfl, h0, Below.refl _ _, Nat.le_refl _⟩
  case round =>
    obtain ⟨k, hk, rfl, hJs, hnx, hsw⟩ := hrel
    by_cases hlt : k < len
    · obtain ⟨⟨fk, fp⟩, hf⟩ : ∃ f, fs[k]? = some f := ⟨_, List.getElem?_eq_getElem (by omega)⟩
      have hfp := hsz _ (List.mem_of_getElem? hf)
      obtain ⟨b1, o1, rfl, l1, c0, c1⟩ := hc k _ hf
      have hn0 := hW0.size
      replace c0 := ((hW0.trans hnx).cell (p := ⟨b1, o1 + k * 2, none⟩) l1).trans c0
      replace c1 := ((hW0.trans hnx).cell (p := ⟨b1, o1 + k * 2 + 1, none⟩) l1).trans c1
      have hk0 : (0 : Int) ≤ (k : Int) := by omega
      have hkI : (k : Int) < (len : Int) := by omega
      have hX := Whole.new wr 36 [.int .i64 fk, .string fp]
      have hBx := allocBelow wr (.cells #[.int .i64 fk, .string fp] 36)
      have hJx : ∀ V, Below (wr.alloc (.cells #[.int .i64 fk, .string fp] 36)).heap.size (wr.alloc (.cells #[.int .i64 fk, .string fp] 36)) V → J (pcs26 (fs.take k)) V := fun V hb => hJ _ wr V none hJs (belowGrown (grew hBx hb)) (fun r e => by cases e)
      have hnV : ∀ V, Below (wr.alloc (.cells #[.int .i64 fk, .string fp] 36)).heap.size (wr.alloc (.cells #[.int .i64 fk, .string fp] 36)) V → Below w0.heap.size W V ∧ W.heap.size ≤ V.heap.size := fun V hb => ⟨hnx.trans ((grew hBx hb).mono (by omega)), Nat.le_trans hsw (grew hBx hb).size⟩
      have h1 := hn
      cases hmf : mayF (fk, fp) with
      | false =>
        have hm1 : ∀ V, Calls Tryz.prog 64 #[.agg #[.int .i64 fk, .string fp]] V fun e w' => e = .returned (.bool false) ∧ Below V.heap.size V w' := fun V => by rw [← hmf]; exact hmy.out fk fp V
        have hp2 := pcs26_no hf hmf
        clear hf hfp hmf hX hmy hsi
        gi_wp2_with (first
          | (refine ⟨trivial, ?_⟩; gi_at_call 64; refine (callsIn_wide.2 (hm1 _)).mono ?_; rintro e W2 ⟨rfl, hb2⟩; have hJ2 := hJx _ hb2; have hn2 := hnV _ hb2)
          | gi_in)
        refine ⟨trivial, ?_⟩
        gi_wp2
        refine ⟨trivial, ?_⟩
        gi_wp2
        refine ⟨fun _ h => (by cases h), ?_⟩
        gi_wp2
        go_roundw
        case rel => exact ⟨k + 1, by omega, by simp, by rw [hp2]; exact hJ2, hn2.1, hn2.2⟩
        case measure => simp [intOf]; omega
      | true =>
        have hm1 : ∀ V, Calls Tryz.prog 64 #[.agg #[.int .i64 fk, .string fp]] V fun e w' => e = .returned (.bool true) ∧ Below V.heap.size V w' := fun V => by rw [← hmf]; exact hmy.out fk fp V
        have hp2 := pcs26_yes hf hmf
        have hs1' : ∀ V, Calls Tryz.prog 66 #[.agg #[.int .i64 fk, .string fp]] V fun e w' => e = .returned (.int .i64 ((fp.size : Int) + 7)) ∧ Below V.heap.size V w' := fun V => hsi.out fk fp V hfp
        have hma : ∀ V, Calls Tryz.prog 65 #[.int .i64 ((fp.size : Int) + 7)] V fun e w' => e = .returned (.int .i64 (((pc15 (fk, fp)).1 : Nat) : Int)) ∧ V = w' := fun V => by
          have hfp' : fp.size ≤ 1000000 := hfp
          have h := many_any ((fp.size : Int) + 7) V (by omega) (by omega)
          rw [manyP (f := (fk, fp)) hmf] at h
          exact h
        have hpl : (pcs26 (fs.take k)).length < len := Nat.lt_of_le_of_lt (pcs26_len fs k) hlt
        have hYk := fun V hb => hY (pcs26 (fs.take k)) (pc15 (fk, fp)) V (hJx V hb) hpl
        have hXc : ∀ V, Below (wr.alloc (.cells #[.int .i64 fk, .string fp] 36)).heap.size (wr.alloc (.cells #[.int .i64 fk, .string fp] 36)) V → V.cell? ⟨wr.heap.size, 0, none⟩ = some (.int .i64 fk) ∧ V.cell? ⟨wr.heap.size, 1, none⟩ = some (.string fp) := fun V hb => ⟨(hX.below hb hX.lt).cell 0, (hX.below hb hX.lt).cell 1⟩
        clear hf hfp hmf hX hmy hsi hY
        gi_wp2_with (first
          | (refine ⟨trivial, ?_⟩; gi_at_call 64; refine (callsIn_wide.2 (hm1 _)).mono ?_; rintro e W2 ⟨rfl, hb2⟩; have hxc := hXc _ hb2; obtain ⟨x0, x1⟩ := hxc; have hxd := hXc _ hb2.drew; obtain ⟨x0', x1'⟩ := hxd)
          | (refine ⟨trivial, ?_⟩; gi_at_call 66; refine (callsIn_wide.2 (hs1' _)).mono ?_; rintro e W3 ⟨rfl, hb3⟩; have hB3 := grew (by first | exact hb2 | exact hb2.drew) hb3)
          | (refine ⟨trivial, ?_⟩; gi_at_call 65; refine (callsIn_wide.2 (hma _)).mono ?_; rintro e W4 ⟨rfl, rfl⟩; obtain ⟨fn, tmps, assign, body, hy, hR⟩ := hYk _ hB3)
          | gi_in)
        refine hR.mono ?_
        rintro e W5 (⟨rfl, hJ5, hk5⟩ | ⟨rfl, hJx5⟩)
        · have hn5 := hnV _ hB3
          gi_wp2
          go_roundw
          case rel => exact ⟨k + 1, by omega, by simp, by rw [hp2]; exact hJ5, hn5.1.trans hk5, Nat.le_trans hn5.2 hk5.size⟩
          case measure => simp [intOf]; omega
        · gi_wp2
          refine bodyPost_ret (results_none rfl _ _ _) rfl ?_
          exact ⟨⟨_, rfl⟩, .inr ⟨_, trivial, hJx5⟩⟩
    · obtain rfl : k = len := by omega
      rw [show fs.take k = fs from List.take_of_length_le (by omega)] at hJs
      gi_wp2
      go_end0
      exact ⟨⟨_, rfl⟩, .inl ⟨_, rfl, hJs⟩⟩
/-- .. as the page on ranges over functions says it. -/
theorem sizes_stops (n : Nat) (hn : 1 ≤ n) (Bs len cap : Nat) (w0 : World) (A : Option Addr) (fs : List (Int × ByteArray)) (hlen : fs.length = len) (hl : len ≤ 100000) (hsz : ∀ f ∈ fs, f.2.size ≤ 1000000) (w : World) (hW0 : Below w0.heap.size w0 w) (hBl : Bs < w.heap.size) (hBs : w.cell? ⟨Bs, 0, none⟩ = some (.slice A len cap)) (hc : FrAt w0 A fs) :
    SeqStopsK Fence.wide n Tryz.prog 63 #[.pointer (some ⟨Bs, 0, none⟩)] (fun x : P15 => #[Value.int .i64 ((x.1 : Nat) : Int)]) (Below w0.heap.size) (fun ys => ys = pcs26 fs) (fun _ => True) len w := fun l J Jx W hW hJ _ hY h0 =>
  sizes1_in n hn l Bs len cap w0 A fs hlen hl hsz J Jx W (hW0.trans (hW.mono hW0.size)) hJ hY ((hW.cell (p := ⟨Bs, 0, none⟩) hBl).trans hBs) hc h0
theorem jsizes_in (n : Nat) (A : Option Addr) (len cap : Nat) (w : World) :
    CallsIn Fence.wide n Tryz.prog 37 #[.slice A len cap] w fun e w' => e = .returned (.func (.func 63) #[] #[.pointer (some ⟨w.heap.size, 0, none⟩)]) ∧ w' = w.alloc (.cells #[.slice A len cap] 22) := by
  refine callsIn_of_wp Tryz.func37 rfl trivial ?_ rfl
  simp only [Tryz.ntmps37, List.size_toArray, List.length_cons, List.length_nil, Nat.reduceAdd, Nat.reduceSub, Array.replicate_succ, Array.replicate_zero, List.push_toArray, List.append_toArray, List.nil_append, List.cons_append]
  gi_wp2
  go_ret
  exact ⟨rfl, rfl⟩
/-- How many segments, and where the last one ends. -/
def needS (s : Nat × Nat) (x : P15) : Nat × Nat := if 16 < s.2 + x.1 then (s.1 + 1, 1 + x.1) else (s.1, s.2 + x.1)
def needF (l : List P15) : Nat × Nat := l.foldl needS (0, 16)
theorem needF_snoc (l : List P15) (x : P15) : needF (l ++ [x]) = needS (needF l) x := by simp [needF]
theorem needF_fine : ∀ (l : List P15) (s : Nat × Nat), s.2 ≤ 16 → (l.foldl needS s).2 ≤ 16 ∧ (l.foldl needS s).1 ≤ s.1 + l.length
  | [], s, h => ⟨h, Nat.le_refl _⟩
  | x :: l, s, h => by
    have hx := x.2
    have h2 : (needS s x).2 ≤ 16 ∧ (needS s x).1 ≤ s.1 + 1 := by unfold needS; split <;> constructor <;> dsimp only <;> omega
    have h3 := needF_fine l (needS s x) h2.1
    refine ⟨h3.1, ?_⟩
    have := h3.2
    show (l.foldl needS (needS s x)).1 ≤ _
    rw [List.length_cons]
    omega
set_option maxRecDepth 100000 in
set_option maxHeartbeats 4000000 in
theorem jneed_any (A : Option Addr) (len cap : Nat) (fs : List (Int × ByteArray)) (w : World) (hlen : fs.length = len) (hl : len ≤ 100000) (hsz : ∀ f ∈ fs, f.2.size ≤ 1000000) (hc : FrAt w A fs) :
    Calls Tryz.prog 19 #[.slice A len cap] w fun e w' => e = .returned (.int .i64 (((needF (pcs26 fs)).1 : Nat) : Int)) ∧ Below w.heap.size w w' := by
  refine (callsIn_wide (n := 5)).1 ?_
  have hro : Fence.wide.round = none := rfl
  have h1 : 1 ≤ 5 := by decide
  refine callsIn_of_wp_marks Tryz.func19 rfl trivial ?_ hro
  simp only [Tryz.ntmps19, List.size_toArray, List.length_cons, List.length_nil, Nat.reduceAdd, Nat.reduceSub, Array.replicate_succ, Array.replicate_zero, List.push_toArray, List.append_toArray, List.nil_append, List.cons_append]
  gi_wp2_with (first
    | (refine ⟨trivial, ?_⟩; gi_at_call 37; refine (jsizes_in _ _ _ _ _).mono ?_; rintro e w' ⟨rfl, rfl⟩)
    | gi_in)
  have bN := Boxed.new w 3 (.int .i64 0)
  have bE := Boxed.new (w.alloc (.cells #[.int .i64 0] 3)) 3 (.int .i64 16)
  have bL := Boxed.new ((w.alloc (.cells #[.int .i64 0] 3)).alloc (.cells #[.int .i64 16] 3)) 22 (.slice A len cap)
  rw [World.size_alloc] at bE bL
  rw [World.size_alloc] at bL
  have hB0 : Below w.heap.size w (((w.alloc (.cells #[.int .i64 0] 3)).alloc (.cells #[.int .i64 16] 3)).alloc (.cells #[.slice A len cap] 22)) := grewAlloc (grewAlloc (allocBelow w _) _) _
  refine wpIn_rangeFunc_ownG hro h1 (gf := 63) (lb := #[.pointer (some ⟨w.heap.size + 1 + 1, 0, none⟩)]) rfl trivial (enters_of Tryz.func63 (by kernel_rfl) rfl)
    (sizes_stops 4 (by decide) (w.heap.size + 1 + 1) len cap w A fs hlen hl hsz _ hB0 (by simp) bL.cell hc) belowK_t (belowK_b (by simp; omega)) (Below.refl _ _) (fun _ => rfl)
    (fun pre W => ((W.cell? ⟨w.heap.size, 0, none⟩ = some (.int .i64 (((needF pre).1 : Nat) : Int)) ∧ W.frozen? ⟨w.heap.size, 0, none⟩ = false) ∧ (W.cell? ⟨w.heap.size + 1, 0, none⟩ = some (.int .i64 (((needF pre).2 : Nat) : Int)) ∧ W.frozen? ⟨w.heap.size + 1, 0, none⟩ = false)) ∧ Below w.heap.size w W)
    (fun _ _ _ => False)
    (OwnFrom.and (Own.from (fun s A B row hs hg hr => ⟨⟨cell_kept hs.1.1 hg hr, (frozen_kept hs.1.1 hg hr).trans hs.1.2⟩, ⟨cell_kept hs.2.1 hg hr, (frozen_kept hs.2.1 hg hr).trans hs.2.2⟩⟩) _) (ownFrom_below (Nat.le_refl _) (by simp; omega)))
    (fun _ _ _ _ _ hs _ _ => hs)
    ⟨⟨⟨((bN.alloc _).alloc _).cell, ((bN.alloc _).alloc _).frozen⟩, ⟨(bE.alloc _).cell, (bE.alloc _).frozen⟩⟩, hB0⟩
    (fun x => { tmps := #[.slice A len cap, undef, .int .i64 0, .pointer (some ⟨w.heap.size, 0, none⟩), .pointer (some ⟨w.heap.size + 1, 0, none⟩), .int .i64 ((x.1 : Nat) : Int), .slice A len cap, .func (.func 63) #[] #[.pointer (some ⟨w.heap.size + 1 + 1, 0, none⟩)], .int .i64 ((x.1 : Nat) : Int), undef, undef, undef, undef, undef, undef, undef, undef, undef, undef], defers := [] }) ?assign ?body ?done ?stop
  case assign =>
    intro l x W K hK
    gi_wp2
    exact hK
  case body =>
    rintro l pre x W ⟨⟨⟨hc, hf⟩, ⟨he, hfe⟩⟩, hB⟩ hpl
    have hfine := needF_fine pre (0, 16) (Nat.le_refl _)
    obtain ⟨a, b, hab⟩ : ∃ a b, needF pre = (a, b) := ⟨_, _, rfl⟩
    have hfine2 : b ≤ 16 ∧ a ≤ pre.length := by
      have h9 := hfine
      rw [show pre.foldl needS (0, 16) = needF pre from rfl, hab] at h9
      exact ⟨h9.1, by have := h9.2; simpa using this⟩
    rw [hab] at hc he
    dsimp only at hc he
    obtain ⟨q, hq15⟩ := x
    have hnx : needF (pre ++ [⟨q, hq15⟩]) = if 16 < b + q then (a + 1, 1 + q) else (a, b + q) := by rw [needF_snoc, hab]; rfl
    have hw1 : IntKind.i64.wrap (16 - (b : Int)) = 16 - (b : Int) := IntWalk.i64_in _ (by omega)
    have hw4 : IntKind.i64.wrap ((b : Int) + (q : Int)) = ((b + q : Nat) : Int) := by rw [IntWalk.i64_in _ (by omega)]; omega
    have hw2 : IntKind.i64.wrap ((a : Int) + 1) = ((a + 1 : Nat) : Int) := by rw [IntWalk.i64_in _ (by omega)]; omega
    have hw3 : IntKind.i64.wrap (1 + (q : Int)) = ((1 + q : Nat) : Int) := by rw [IntWalk.i64_in _ (by omega)]; omega
    by_cases hgt : 16 < b + q
    · have hgI : 16 - (b : Int) < (q : Int) := by omega
      rw [if_pos hgt] at hnx
      gi_wp2
      have hne : (⟨w.heap.size + 1, 0, none⟩ : Addr) ≠ ⟨w.heap.size, 0, none⟩ := by simp
      refine ⟨(((KeepsOthers.setCell _ _ _).trans (KeepsOthers.setCell _ _ _)).trans (KeepsOthers.setCell _ _ _)).from _, (((Below.refl w.heap.size W).setCell (p := ⟨w.heap.size, 0, none⟩) (Nat.le_refl _) _).setCell (p := ⟨w.heap.size + 1, 0, none⟩) (Nat.le_succ _) _).setCell (p := ⟨w.heap.size + 1, 0, none⟩) (Nat.le_succ _) _, ⟨⟨?_, ?_⟩, ?_, ?_⟩, ((hB.setCell (p := ⟨w.heap.size, 0, none⟩) (Nat.le_refl _) _).setCell (p := ⟨w.heap.size + 1, 0, none⟩) (Nat.le_succ _) _).setCell (p := ⟨w.heap.size + 1, 0, none⟩) (Nat.le_succ _) _⟩
      · rw [hnx, World.cell?_setCell_far _ _ _ _ (by simp), World.cell?_setCell_far _ _ _ _ (by simp)]
        rw [World.cell?_setCell_same' _ _ _ (by rw [hc]; rfl)]
        congr 2
      · simp only [World.frozen?_setCell]; exact hf
      · rw [hnx, World.cell?_setCell_same' _ _ _ (by rw [World.cell?_setCell_same' _ _ _ (by rw [World.cell?_setCell_far _ _ _ _ (by simp), he]; rfl)]; rfl)]
        congr 2
      · simp only [World.frozen?_setCell]; exact hfe
    · have hgI : ¬ (16 - (b : Int) < (q : Int)) := by omega
      rw [if_neg hgt] at hnx
      gi_wp2
      refine ⟨(KeepsOthers.setCell _ _ _).from _, (Below.refl w.heap.size W).setCell (p := ⟨w.heap.size + 1, 0, none⟩) (Nat.le_succ _) _, ⟨⟨?_, ?_⟩, ?_, ?_⟩, hB.setCell (p := ⟨w.heap.size + 1, 0, none⟩) (Nat.le_succ _) _⟩
      · rw [hnx, World.cell?_setCell_far _ _ _ _ (by simp)]
        exact hc
      · simp only [World.frozen?_setCell]; exact hf
      · rw [hnx, World.cell?_setCell_same' _ _ _ (by rw [he]; rfl)]
        congr 2
      · simp only [World.frozen?_setCell]; exact hfe
  case done =>
    rintro D ys W hD rfl ⟨⟨⟨hc, hf⟩, ⟨he, hfe⟩⟩, hB⟩ hK
    gi_wp2
    refine ⟨by simp, .inl ⟨_, _, rfl, run_takeDeferred hK, ?_⟩⟩
    exact ⟨_, results_tmp rfl _ _ _, rfl, hB.trans (belowK_b (w := w) (Nat.le_refl _) W D _ _ (by simp at hD; omega) hK rfl rfl)⟩
  case stop =>
    rintro D c pre W _ _ h _
    exact h.elim
end Go.Proofs.YtgogackkeodciabGreatDoor.W
end
section
namespace Go.Proofs.YtgogackkeodciabGreatDoor.W
open Go.ChangeShapes Go.WideShapes Go.ChangeAt Go.RowKit Go.Sort
open Go.Proofs.YtgogackkeodciabGreatDoor.M Go.Proofs.YtgogackkeodciabGreatDoor.D Go.Proofs.YtgogackkeodciabGreatDoor.Z
set_option linter.unusedVariables false

/-- Are frames more than the laws go through? -/
def bigJ (fs : List (Int × ByteArray)) : Bool := decide (60 < fs.length) || fs.any fun f => decide (900 < f.2.size)
theorem bigJ_no {fs : List (Int × ByteArray)} (h : bigJ fs = false) : fs.length ≤ 60 ∧ ∀ f ∈ fs, f.2.size ≤ 900 := by
  unfold bigJ at h
  simp at h
  exact ⟨by omega, fun f hf => h.2 _ _ hf⟩
set_option maxRecDepth 100000 in
set_option maxHeartbeats 4000000 in
theorem large26_any (va : Option Addr) (n ca : Nat) (fs : List (Int × ByteArray)) (w : World) (ha : FrIn w va n fs) :
    Calls Tryz.prog 4 #[.slice va n ca] w fun e w' => e = .returned (.bool (bigJ fs)) ∧ Below w.heap.size w w' := by
  have hn := ha.len
  have hat := Lib.hid ha.at_
  have hok := Lib.hid ha.ok
  by_cases h60 : 60 < n
  · have hr : bigJ fs = true := by unfold bigJ; simp [hn, h60]
    rw [hr]
    have hgt : (60 : Int) < (n : Int) := by omega
    go_enter Tryz.func4, Tryz.ntmps4
    go_wp2_with fail
    go_ret
    exact ⟨rfl, Below.refl _ _⟩
  · have hle : (n : Int) ≤ 60 := by omega
    obtain ⟨R, hR⟩ : ∃ R, Hid (bigJ fs = R) := ⟨_, Lib.hid rfl⟩
    have hno : Hid ((∀ (k : Nat) (f : Int × ByteArray), fs[k]? = some f → ¬ 900 < f.2.size) → R = false) := Lib.hid (fun h => by
      rw [← hR.out]; unfold bigJ; simp [hn, h60]
      intro a b hab
      obtain ⟨i, hi, e⟩ := List.mem_iff_getElem.1 hab
      have h9 : ¬ 900 < b.size := h i (a, b) (by rw [List.getElem?_eq_getElem hi, e])
      omega)
    have hyes : Hid (∀ (k : Nat) (f : Int × ByteArray), fs[k]? = some f → 900 < f.2.size → R = true) := Lib.hid (fun k f h1 h2 => by
      rw [← hR.out]; unfold bigJ
      simp
      exact .inr ⟨f.1, f.2, List.mem_of_getElem? h1, h2⟩)
    rw [hR.out]
    clear hR ha
    go_enter Tryz.func4, Tryz.ntmps4
    go_wp2_with fail
    go_loopg [10] n (fun ga i wr => ∃ k : Nat, k ≤ n ∧ n ≤ k + ga ∧ i = .int .i64 k ∧ Hid ((∀ (j : Nat) (f : Int × ByteArray), j < k → fs[j]? = some f → ¬ 900 < f.2.size) ∧ Below w.heap.size w wr))
    case atStart => exact ⟨0, by omega, by omega, rfl, Lib.hid ⟨fun j f h => by omega, Below.refl _ _⟩⟩
    case round =>
      obtain ⟨k, hk, hg, rfl, hbl⟩ := hrel
      generalize wr = wo at *
      by_cases hlt : k < n
      · obtain ⟨⟨fk, fp⟩, hf⟩ : ∃ f, fs[k]? = some f := ⟨_, List.getElem?_eq_getElem (by omega)⟩
        obtain ⟨b1, o1, rfl, l1, c0, c1⟩ := hat.out.below hbl.out.2 k _ hf
        have hend : Hid (Below w.heap.size w (wo.alloc (.cells #[.int .i64 fk, .string fp] 36))) := Lib.hid (grewAlloc hbl.out.2 _)
        have hk0 : (0 : Int) ≤ (k : Int) := by omega
        have hkn : (k : Int) < (n : Int) := by omega
        by_cases hbig : 900 < fp.size
        · have hR : Hid (R = true) := Lib.hid (hyes.out k _ hf hbig)
          have hgt : (900 : Int) < (fp.size : Int) := by omega
          clear hf hbig
          go_wp2_with fail
          go_ret
          exact ⟨by rw [hR.out]; rfl, hend.out⟩
        · have hnx : Hid ((∀ (j : Nat) (f : Int × ByteArray), j < k + 1 → fs[j]? = some f → ¬ 900 < f.2.size) ∧ Below w.heap.size w (wo.alloc (.cells #[.int .i64 fk, .string fp] 36))) := Lib.hid ⟨fun j f hj hjf => by
            by_cases e : j = k
            · subst e; rw [hf] at hjf; cases hjf; exact hbig
            · exact hbl.out.1 j f (by omega) hjf, hend.out⟩
          have hgt : (fp.size : Int) ≤ 900 := by omega
          clear hf hbig hbl
          go_wp2_with fail
          go_roundg (gk - 1)
          case measure => omega
          case rel => exact ⟨k + 1, by omega, by omega, by go_num, hnx⟩
      · obtain rfl : k = n := by omega
        have hR : Hid (R = false) := Lib.hid (hno.out (fun j f hj => hbl.out.1 j f (by have := (List.getElem?_eq_some_iff.1 hj).1; omega) hj))
        go_wp2_with fail
        go_ret
        exact ⟨by rw [hR.out]; rfl, hbl.out.2⟩
end Go.Proofs.YtgogackkeodciabGreatDoor.W
end
section
namespace Go.Proofs.YtgogackkeodciabGreatDoor.W
open Go.RowKit Go.Sort
open Go.Proofs.YtgogackkeodciabGreatDoor.M Go.Proofs.YtgogackkeodciabGreatDoor.D Go.Proofs.YtgogackkeodciabGreatDoor.Z
set_option linter.unusedVariables false

theorem mayFj : mayF Fj = true := by
  have h : Fj.2.size ≤ 773 := Fj_ok.2.2
  unfold mayF
  rw [decide_eq_true h]
  rfl
theorem pc15j : pc15 Fj = ⟨2, by decide⟩ := Subtype.ext (by rw [pc15_may mayFj]; exact Fj_pcs)
theorem pcs26j : pcs26 (List.replicate 8 Fj) = List.replicate 8 ⟨2, by decide⟩ := by
  unfold pcs26
  rw [List.filter_replicate, if_pos mayFj, List.map_replicate, pc15j]
theorem need8_any (A : Option Addr) (cap : Nat) (W : World) (h : FrAt W A (List.replicate 8 Fj)) : Calls Tryz.prog 19 #[.slice A 8 cap] W fun e w' => e = .returned (.int .i64 2) ∧ Below W.heap.size W w' := by
  have hn := jneed_any A 8 cap (List.replicate 8 Fj) W (List.length_replicate ..) (by decide) (fun f hf => by obtain rfl := List.eq_of_mem_replicate hf; have := Fj_ok.2.2; omega) h
  rw [pcs26j, show (needF (List.replicate 8 ⟨2, by decide⟩)).1 = 2 from rfl] at hn
  exact hn
set_option maxRecDepth 100000 in
set_option maxHeartbeats 8000000 in
theorem two26_any (w : World) (hT : Wide w) : Calls Tryz.prog 5 #[] w fun e w' => e = .returned (.bool true) ∧ Below w.heap.size w w' := by
  have hpn : Hid (∀ W, Calls Tryz.prog 16 #[.int .i64 6, .int .i64 1] W fun x w' => ∃ pb pa, x = .returned (.tuple #[.pointer (some ⟨pb, 0, none⟩), .int .i64 0]) ∧ Pl w' pb pa (List.replicate 6 0) 1 0 ∧ W.heap.size ≤ pb ∧ W.heap.size ≤ pa ∧ Below W.heap.size W w') := Lib.hid (fun W => (pnew_yes 6 1 W (by decide) (by decide) (by decide)).mono fun e w' ⟨r1, r2, r3⟩ => ⟨_, _, r1, r2, Nat.le_succ _, Nat.le_refl _, r3⟩)
  have hfr := Lib.hid fresh26_any
  have hei := Lib.hid eight26_any
  have hFj : ∀ k, k < 8 → (List.replicate 8 Fj)[k]? = some (3, zerosB 46) := fun k hk => by rw [List.getElem?_replicate, if_pos hk]; rfl
  have hst : Hid (∀ (vb d g' pb pa jb lb k : Nat) (K : List Bk) (V : World), J8 w vb d g' pb pa jb lb 5 0 1 0 0 0 (List.replicate 6 0) K k V → k < 8 → Calls Tryz.prog 9 #[.pointer (some ⟨jb, 0, none⟩), .agg #[.int .i64 3, .string (zerosB 46)]] V fun e w' => e = .returned (.int .i64 0) ∧ J8 w vb d g' pb pa jb lb 5 0 1 0 0 0 (List.replicate 6 0) K (k + 1) w') := Lib.hid (fun vb d g' pb pa jb lb k K V h hk => h.step hk hT spot1 (by decide) (by decide) (by decide))
  obtain ⟨Z, hZ⟩ : ∃ Z, Hid (zerosB 46 = Z) := ⟨_, Lib.hid rfl⟩
  rw [hZ.out] at hst hFj
  go_enter Tryz.func5, Tryz.ntmps5
  go_wp2_with fail
  refine (hpn.out _).mono ?_
  rintro _ w1 ⟨pb, pa, rfl, hp, hpb, hpa, hb1⟩
  go_wp2_with fail
  refine (hfr.out _).mono ?_
  rintro _ w2 ⟨vb, d, g', rfl, hv⟩
  have hnl : Hid (Calls Tryz.prog 6 #[.pointer (some ⟨vb, 0, none⟩), .pointer (some ⟨pb, 0, none⟩), .int .i64 2, .int .u32 5] w2 fun e w' => ∃ jb lb, e = .returned (.tuple #[.pointer (some ⟨jb, 0, none⟩), .int .i64 0]) ∧
      Hid (J8 w vb d g' pb pa jb lb 5 0 1 0 0 0 (List.replicate 6 0) [(jb, 53, jnL vb pb lb)] 0 w')) := Lib.hid (by
    refine (jnew_yes vb pb 2 5 w2 ((hT.below hb1).below hv.since) (by decide) (by decide) (by decide)).mono ?_
    rintro e w' ⟨jb, lb, r1, w3, r2, r3, r4, r5, r6, r7⟩
    exact ⟨jb, lb, r1, Lib.hid (J8.start hp hb1 hpb hpa hv r2 r3 r4 r5 r6 r7)⟩)
  clear hp hpb hpa hb1 hv hpn hfr
  go_wp2_with fail
  refine hnl.out.mono ?_
  rintro _ w3 ⟨jb, lb, rfl, h3⟩
  clear hnl
  go_wp2_with fail
  refine (hei.out _).mono ?_
  rintro _ w4 ⟨gr, cr, rfl, hown, hb4⟩
  obtain ⟨cur, hcw, hgr, hcr1, hcr2, hFr⟩ := frBlock hown (List.length_replicate ..) (by decide)
  have h4 := Lib.hid (h3.out.more hb4 hcw hgr plainFr)
  obtain ⟨K1, hK1⟩ : ∃ K1, K1 = (gr, 36, cur) :: [(jb, 53, jnL vb pb lb)] := ⟨_, rfl⟩
  rw [← hK1] at h4
  have hmR : (gr, 36, cur) ∈ K1 := by rw [hK1]; exact List.mem_cons_self
  clear hown hcw hgr hb4 h3
  obtain ⟨va, hva⟩ : ∃ va : Option Addr, va = some ⟨gr, 0, none⟩ := ⟨_, rfl⟩
  rw [← hva] at hFr ⊢
  replace hFr := Lib.hid hFr
  clear hva
  go_wp2_with fail
  go_loopg [21] 8 (fun ga ix wr => ∃ (k : Nat), k ≤ 8 ∧ 8 ≤ k + ga ∧ ix = .int .i64 k ∧ Hid (J8 w vb d g' pb pa jb lb 5 0 1 0 0 0 (List.replicate 6 0) K1 k wr))
  case atStart => exact ⟨0, by omega, by omega, rfl, h4⟩
  case round =>
    clear h4
    obtain ⟨k, hk, hgk, rfl, hrel⟩ := hrel
    generalize wr = wo at *
    by_cases hlt : k < 8
    · have hlI : (k : Int) < 8 := by omega
      have hk0 : (0 : Int) ≤ (k : Int) := by omega
      obtain ⟨b1, o1, rfl, l1, c0, c1⟩ := hFr.out wo (hrel.out.got hmR) k _ (hFj k hlt)
      have hap := Lib.hid (hst.out vb d g' pb pa jb lb k K1 _ (hrel.out.below (allocBelow wo (.cells #[.int .i64 3, .string Z] 36))) hlt)
      clear hrel
      go_wp2_with fail
      refine hap.out.mono ?_
      rintro _ w6 ⟨rfl, h6⟩
      replace h6 := Lib.hid h6
      clear hap
      go_wp2_with fail
      go_roundg (gk - 1)
      case measure => omega
      case rel => exact ⟨k + 1, by omega, by omega, by go_num, h6⟩
    · obtain rfl : k = 8 := by omega
      go_wp2_with fail
      refine (hei.out _).mono ?_
      rintro _ w5 ⟨gr2, cr2, rfl, hown, hb5⟩
      obtain ⟨cur2, hcw, hgr, hcr3, hcr4, hFr2⟩ := frBlock hown (List.length_replicate ..) (by decide)
      have h5 := hrel.out.more hb5 hcw hgr plainFr
      obtain ⟨ws, steps, segs, A, c, pk, h1, e1, e2, e3, hs2, hF, hbase, hJm⟩ := h5.end_
      have han := Lib.hid (janew_8 (va := some ⟨gr2, 0, none⟩) (cr := cr2) h1 e1 (by omega) (by omega) hJm List.mem_cons_self hFr2 hT)
      clear hown hcw hgr hb5 hrel
      go_wp2_with fail
      refine han.out.mono ?_
      rintro _ w7 ⟨jb2, lb2, rfl, h7⟩
      obtain ⟨ws2, steps2, segs2, A2, c2, pk2, k1, f1, f2, f3, hs3, hF3, hbase3, hJm2⟩ := h7.end_
      have hX : Hid (∃ X, LgV w vb d g' (zeros 98) ws2 0 98 steps2 pb pa (((((List.replicate 6 0).set 0 2).set 1 2).set 2 2).set 3 2) 1 (2 + 2) lb 2 5 8 segs A c pk X w7) := Lib.hid ⟨_, LgV.other (X := (lb2, 82, lgL vb pb 2 6 A2 segs2.length c2 8) :: (pk2 ++ (segs2.flatMap (Sr.K vb) ++ [(jb2, 53, jnL vb pb lb2)]))) h1 k1.vb_ (perm_by fun a => by simp only [List.count_append, List.count_cons, List.count_nil]; omega)⟩
      obtain ⟨X, hX2⟩ := hX.out
      have hat1 := hX2.at_
      have hat2 := k1.at_
      have hj1 : Whole w7 jb 53 (jnL vb pb lb) := k1.vb_.got (List.mem_append_right _ (List.mem_cons_of_mem _ (List.mem_append_right _ (List.mem_append_right _ (List.mem_cons_of_mem _ (List.mem_cons_of_mem _ (List.mem_append_right _ (List.mem_append_right _ hJm))))))))
      have hj2 : Whole w7 jb2 53 (jnL vb pb lb2) := k1.vb_.got (List.mem_append_right _ (List.mem_cons_of_mem _ (List.mem_append_right _ (List.mem_append_right _ hJm2))))
      have hpl := k1.vb_.pool
      have hsince := k1.vb_.since
      have hsg1 : Hid (∀ W, Below w7.heap.size w7 W → Calls Tryz.prog 13 #[.pointer (some ⟨jb, 0, none⟩)] W fun e w' => e = .returned (.int .i64 2) ∧ Below W.heap.size W w') := Lib.hid (fun W hb => by
        have h := jsegs_any jb vb pb lb 2 5 8 c segs A W (hj1.below hb hj1.lt) (hat1.below hb) (by omega)
        rw [hs2] at h
        exact h)
      have hsg2 : Hid (∀ W, Below w7.heap.size w7 W → Calls Tryz.prog 13 #[.pointer (some ⟨jb2, 0, none⟩)] W fun e w' => e = .returned (.int .i64 2) ∧ Below W.heap.size W w') := Lib.hid (fun W hb => by
        have h := jsegs_any jb2 vb pb lb2 2 6 8 c2 segs2 A2 W (hj2.below hb hj2.lt) (hat2.below hb) (by omega)
        rw [hs3] at h
        exact h)
      have hgw : Hid (∀ W, Below w7.heap.size w7 W → Calls Tryz.prog 14 #[.pointer (some ⟨jb, 0, none⟩)] W fun e w' => e = .returned (.bool false) ∧ Below W.heap.size W w') := Lib.hid (fun W hb => by
        have h := jgrown_any jb vb pb lb 2 5 8 c segs A W (hj1.below hb hj1.lt) (hat1.below hb) (by omega)
        rw [hs2] at h
        exact h)
      have hgn : Hid (∀ W, Below w7.heap.size w7 W → Calls Tryz.prog 12 #[.pointer (some ⟨jb2, 0, none⟩)] W fun e w' => e = .returned (.int .u32 6) ∧ W = w') := Lib.hid (fun W hb => jgen_any jb2 vb pb lb2 2 6 8 c2 segs2 A2 W (hj2.below hb hj2.lt) (hat2.below hb))
      have hfm : Hid (∀ W, Below w7.heap.size w7 W → Calls Tryz.prog 11 #[.pointer (some ⟨jb2, 0, none⟩)] W fun e w' => ∃ A', e = .returned (.slice A' 8 8) ∧ Below W.heap.size W w') := Lib.hid (fun W hb => by
        refine (jframes_any jb2 vb pb lb2 2 6 8 c2 segs2 A2 W (hj2.below hb hj2.lt) (hat2.below hb) (by omega)).mono ?_
        rintro e w' ⟨A', r1, r2, r3⟩
        rw [hF3, List.length_replicate] at r1
        exact ⟨A', r1, r3⟩)
      have hfe : Hid (∀ W, Below w7.heap.size w7 W → Calls Tryz.prog 20 #[.pointer (some ⟨pb, 0, none⟩)] W fun e w' => e = .returned (.int .i64 2) ∧ Below W.heap.size W w') := Lib.hid (fun W hb => pfree_any (hpl.grow hb) (by decide))
      have hnd := Lib.hid need8_any
      have hV0 : Below w7.heap.size w7 w7 := Below.refl _ _
      have hV1 : Below w7.heap.size w7 w7.drew := (Below.refl _ _).drew
      have hfin : Hid (∀ W, Below w7.heap.size w7 W → Below w.heap.size w W) := Lib.hid (fun W hb => grew hsince hb)
      clear hX hX2 hat1 hat2 hj1 hj2 hpl hsince k1 h7 h1 h5 hF hF3 hbase hbase3 hJm hJm2 hs2 hs3 han hFr hFr2 hst hFj hmR hK1 f1 f2 f3 e1 e2 e3
      go_wp2_with fail
      refine (hei.out _).mono ?_
      rintro _ w21 ⟨g8, c8, rfl, hown8, hb21⟩
      have hfr8 := frAt_own hown8 (List.length_replicate ..)
      clear hown8
      go_wp2_with fail
      refine (hnd.out _ _ _ hfr8).mono ?_
      rintro _ w22 ⟨rfl, hb22⟩
      have hk22 : Below w7.heap.size w7 w22 := grew hb21 hb22
      clear hfr8
      go_wp2_with fail
      refine (hsg1.out _ hk22).mono ?_
      rintro _ w23 ⟨rfl, hb23⟩
      have hk23 : Below w7.heap.size w7 w23 := grew hk22 hb23
      go_wp2_with fail
      refine (hgw.out _ hk23).mono ?_
      rintro _ w24 ⟨rfl, hb24⟩
      have hk24 : Below w7.heap.size w7 w24 := grew hk23 hb24
      go_wp2_with fail
      refine (hsg2.out _ hk24).mono ?_
      rintro _ w25 ⟨rfl, hb25⟩
      have hk25 : Below w7.heap.size w7 w25 := grew hk24 hb25
      go_wp2_with fail
      refine (hgn.out _ hk25).mono ?_
      rintro _ w26 ⟨rfl, rfl⟩
      go_wp2_with fail
      refine (hfm.out _ hk25).mono ?_
      rintro _ w27 ⟨A8, rfl, hb27⟩
      have hk27 : Below w7.heap.size w7 w27 := grew hk25 hb27
      go_wp2_with fail
      refine (hfe.out _ hk27).mono ?_
      rintro _ w28 ⟨rfl, hb28⟩
      have hk28 : Below w7.heap.size w7 w28 := grew hk27 hb28
      go_wp2_with fail
      go_ret
      exact ⟨rfl, hfin.out _ hk28⟩
end Go.Proofs.YtgogackkeodciabGreatDoor.W
end
