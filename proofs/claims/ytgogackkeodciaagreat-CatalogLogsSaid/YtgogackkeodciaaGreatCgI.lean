/- Package catalog: makeTopic. -/
import Derived.Test.YtgogackkeodciaaGreatCgJ
import Derived.Test.YtgogackkeodciaaGreatDdE
import Derived.BigQuiet
import Derived.Lib.QuietBelow
namespace Go.Proofs.YtgogackkeodciaaGreat.W
open Go.RowKit Go.Sort
open Go.Proofs.YtgogackkeodciaaGreat.M Go.Proofs.YtgogackkeodciaaGreat.D Go.Proofs.YtgogackkeodciaaGreat.Z
set_option linter.unusedVariables false
set_option linter.unusedSimpArgs false

theorem nextS_none (s : ByteArray) : nextS s none = none := by unfold nextS; rw [Option.bind_none]
theorem nextS_some {s : ByteArray} {p : Nat} : nextS s (some p) = (decTp (s.extract p s.size)).map fun u => p + u.2 := by unfold nextS; rw [Option.bind_some]
theorem make_key {T : List To} {n : Int} {s : ByteArray} {v g : Int} {x : Sp} {st1 st2 st3 : Option Nat} (e1 : nextN s (some 0) = st1) (e2 : nextN s st1 = st2) (e3 : nextS s st2 = st3)
    (hv : isNo s (some 0) v) (hg : isNo s st1 g) (hx : isSp s st2 x) :
    (st3 ≠ some s.size → makeF T n s = none) ∧ (st3 = some s.size → makeF T n s = (if (0 ≤ v ∧ v ≤ 7) ∧ freeS T v = true ∧ (1 ≤ g ∧ g ≤ 4294967295) ∧ hasT T x.nm = false then some (insT (newT x v g) T, max n g) else none) ∧ x.may = true) := by
  subst e1 e2 e3
  unfold makeF
  cases h2 : chAt s.data.toList 0 with
  | none => rw [show nextN s (some 0) = (chAt s.data.toList 0).map (·.2) from rfl, h2]; simp [nextS_none, nextN]
  | some u2 =>
  obtain ⟨a2, p2⟩ := u2
  obtain ⟨w2, l2, m2⟩ := hv 0 a2 p2 rfl h2
  rw [show nextN s (some 0) = (chAt s.data.toList 0).map (·.2) from rfl, h2] at hg hx ⊢
  simp only [Option.map_some] at hg hx ⊢
  cases h3 : chAt s.data.toList p2 with
  | none => rw [show nextN s (some p2) = (chAt s.data.toList p2).map (·.2) from rfl, h3]; simp [nextS_none]
  | some u3 =>
  obtain ⟨a3, p3⟩ := u3
  obtain ⟨w3, l3, m3⟩ := hg p2 a3 p3 rfl h3
  rw [show nextN s (some p2) = (chAt s.data.toList p2).map (·.2) from rfl, h3] at hx ⊢
  simp only [Option.map_some] at hx ⊢
  cases h4 : decTp (s.extract p3 s.size) with
  | none => rw [nextS_some, h4]; simp
  | some u4 =>
  obtain ⟨x', k⟩ := u4
  obtain rfl := hx p3 x' k rfl h4
  rw [nextS_some, h4]
  simp only [Option.map_some, ne_eq, Option.some.injEq]
  have y2 := wrap64_lo l2 m2
  have y3 := wrap64_lo l3 m3
  rw [← w2] at y2
  rw [← w3] at y3
  constructor
  · intro e; rw [if_neg (fun a => e a.1)]
  · intro e
    refine ⟨?_, decTp_may h4⟩
    by_cases a : (0 ≤ v ∧ v ≤ 7) ∧ (1 ≤ g ∧ g ≤ 4294967295)
    · obtain rfl : a2 = v := by omega
      obtain rfl : a3 = g := by omega
      by_cases b : freeS T a2 = true ∧ hasT T x.nm = false
      · rw [if_pos ⟨e, a.1.2, b.1, a.2, b.2⟩, if_pos ⟨a.1, b.1, a.2, b.2⟩]
      · rw [if_neg (fun q => b ⟨q.2.2.1, q.2.2.2.2⟩), if_neg (fun q => b ⟨q.2.1, q.2.2.2⟩)]
    · rw [if_neg (fun q => a ⟨by omega, by omega⟩), if_neg (fun q => a ⟨q.1, q.2.2.1⟩)]
def fillJ (F : ByteArray → Int → Option Mt) (nm : ByteArray) (g : Int) (j : Nat) : ByteArray → Int → Option Mt := fun a q => if a = nm ∧ 0 ≤ q ∧ q < (j : Int) then some (newM g) else F a q
theorem fillJ_zero (F : ByteArray → Int → Option Mt) (nm : ByteArray) (g : Int) : fillJ F nm g 0 = F := by
  funext a q
  unfold fillJ
  rw [if_neg (fun h => by have := h.2; omega)]
theorem fillJ_step (F : ByteArray → Int → Option Mt) (nm : ByteArray) (g : Int) (j : Nat) : putF (fillJ F nm g j) nm (j : Int) (newM g) = fillJ F nm g (j + 1) := by
  funext a q
  unfold putF fillJ
  by_cases e : a = nm
  · by_cases e2 : q = (j : Int)
    · rw [if_pos ⟨e, e2⟩, if_pos ⟨e, by omega, by omega⟩]
    · rw [if_neg (fun h => e2 h.2)]
      by_cases e3 : 0 ≤ q ∧ q < (j : Int)
      · rw [if_pos ⟨e, e3⟩, if_pos ⟨e, e3.1, by omega⟩]
      · rw [if_neg (fun h => e3 h.2), if_neg (fun h => by have := h.2; omega)]
  · rw [if_neg (fun h => e h.1), if_neg (fun h => e h.1), if_neg (fun h => e h.1)]
def cntJ (n g : Int) (j : Nat) : Int := if j = 0 then n else max n g
theorem cntJ_step (n g : Int) (j : Nat) : max (cntJ n g j) g = cntJ n g (j + 1) := by
  unfold cntJ
  rw [if_neg (by omega : ¬ j + 1 = 0)]
  split <;> omega
theorem kept_then {own own' : Nat → Prop} {a b c : World} (h : Kept own a b) (k : Kept own' b c) (ho : ∀ q, q < a.heap.size → own' q → own q) : Kept own a c :=
  ⟨k.os.trans h.os, k.tape.trans h.tape, k.output.trans h.output, Nat.le_trans h.size k.size, fun i hi hn => (k.block i (Nat.lt_of_lt_of_le hi h.size) (fun e => hn (ho i hi e))).trans (h.block i hi hn)⟩
theorem enc_nil : B (encL []) = zTab := by decide +kernel
theorem neqE (s : ByteArray) (W : World) : (binOp BinOp.neq 9 (.string s) (.string ⟨#[]⟩)).run Tryz.prog W = .ok (.bool (decide (s.size ≠ 0))) W := by
  have e0 := strEq s ⟨#[]⟩
  have e1 : decide (s = ⟨#[]⟩) = !decide (s.size ≠ 0) := by
    by_cases h : s.size = 0
    · have : s = ⟨#[]⟩ := by obtain ⟨⟨l⟩⟩ := s; have h2 : l.length = 0 := h; rw [List.length_eq_zero_iff.1 h2]
      rw [decide_eq_true this, decide_eq_false (fun q => q h)]; rfl
    · rw [decide_eq_false (fun q => h (by rw [q]; rfl)), decide_eq_true h]; rfl
  rw [e1] at e0
  simp only [binOp, Op.stringOp]
  simp only [bne, e0, Bool.not_not]
  rfl
theorem spAt_ins {T : List To} {n : Int} {x : Sp} {v g : Int} (h : CatOk (insT (newT x v g) T) n) {k : Nat} (hk : v = (k : Int)) (hs : ∀ y ∈ T, y.slot ≠ v) (i : Nat) : spAt (insT (newT x v g) T) i = if i = k then x else spAt T i := by
  unfold spAt
  rw [slotT_ins h _ hs]
  show (match (if v = (i : Int) then some (newT x v g) else slotT T (i : Int)) with | some x => x.sp | none => zSp) = _
  by_cases e : i = k
  · rw [if_pos e, if_pos (by omega)]; rfl
  · rw [if_neg e, if_neg (by omega)]
    cases slotT T (i : Int) <;> rfl
theorem fillJ_end {T : List To} {n : Int} {x : Sp} {v g : Int} (h : CatOk (insT (newT x v g) T) n) (hf : ∀ y ∈ T, y.sp.nm ≠ x.nm) {N : Nat} (hN : x.parts = (N : Int)) : fillJ (metaT T) x.nm g N = metaT (insT (newT x v g) T) := by
  funext a q
  rw [metaT_new h hf]
  unfold fillJ
  by_cases e : x.nm = a ∧ 0 ≤ q ∧ q < x.parts
  · rw [if_pos e, if_pos ⟨e.1.symm, e.2.1, by omega⟩]
  · rw [if_neg e, if_neg (fun q => e ⟨q.1.symm, q.2.1, by omega⟩)]
theorem spAt_empty2 {T : List To} {n : Int} (h : CatOk T n) (i : Nat) : decide ((spAt T i).nm.size ≠ 0) = !freeS T (i : Int) := by
  unfold spAt freeS
  cases hs : slotT T (i : Int) with
  | none => rfl
  | some x =>
    have := h.name_ne (h.slot.1 hs).1
    show decide (x.sp.nm.size ≠ 0) = true
    exact decide_eq_true (by omega)
theorem below_of_eq {P : Program} {f : FuncId} {args : Array Value} {v : Value} {W : World} (h : Calls P f args W fun e w' => e = .returned v ∧ W = w') : Calls P f args W fun e w' => e = .returned v ∧ Below W.heap.size W w' := h.mono fun e w' ⟨h1, h2⟩ => ⟨h1, h2 ▸ Below.refl _ _⟩
/-- What stands between two partitions of a topic that is made. -/
structure MkI (B0 xb cb : Nat) (m : Option Nat) (T : List To) (S : List Sp) (n : Int) (c : Nat) (nm : ByteArray) (g : Int) (w : World) (rest : ByteArray) (brk : Bool) (pb N j : Nat) (m' : Option Nat) (wr : World) : Prop where
  cat : CtAt B0 wr cb m' S (fillJ (metaT T) nm g j) (cntJ n g j) (c + j)
  kept : Kept (fun q => q = xb ∨ ofC cb m q) w wr
  map : m' = m ∨ (m = none ∧ ∃ mb, m' = some mb ∧ w.heap.size ≤ mb)
  pl : Whole wr pb 33 (plRows nm N)
  ent : Whole wr xb 82 (enL cb rest brk)
set_option maxRecDepth 100000 in
set_option maxHeartbeats 16000000 in
theorem makeTopic_any {B0 : Nat} (xb cb : Nat) (m : Option Nat) (T : List To) (n : Int) (c : Nat) (s : ByteArray) (w : World) (h : CaAt B0 w cb m T n c) (hr : RdC w xb cb s (some 0)) (hB0 : B0 ≤ w.heap.size) (hc : c ≤ 90000) :
    Calls Tryz.prog 57 #[.pointer (some ⟨xb, 0, none⟩)] w (ApPost B0 xb cb m T n c (makeF T n s) w) := by
  have hx := entry_ne h hr
  obtain ⟨st1, hst1⟩ : ∃ st, Hid (nextN s (some 0) = st) := ⟨_, Lib.hid rfl⟩
  obtain ⟨st2, hst2⟩ : ∃ st, Hid (nextN s st1 = st) := ⟨_, Lib.hid rfl⟩
  obtain ⟨st3, hst3⟩ : ∃ st, Hid (nextS s st2 = st) := ⟨_, Lib.hid rfl⟩
  have hm1 := fun W hR => number23_any xb cb s (some 0) W hR
  have hm2 := fun W hR => number23_any xb cb s st1 W hR
  have hm3 := fun W hR => spec23_any xb cb s st2 W hR
  rw [hst1.out] at hm1
  rw [hst2.out] at hm2
  rw [hst3.out] at hm3
  have hxw : xb < w.heap.size := by obtain ⟨_, _, hW, _⟩ := id hr; exact hW.lt
  have hxc : xb ≠ cb := fun e => hx (.inl e)
  have s10 : Kept (ofX xb) w w := Kept.refl _ _
  have s10d : Kept (ofX xb) w w.drew := kD (Kept.refl _ _)
  have r10 : RdC w xb cb s (some 0) := hr
  have r10d : RdC w.drew xb cb s (some 0) := hr
  have e0 : ¬ ofX xb w.heap.size := fun e : w.heap.size = xb => absurd hxw (by omega)
  replace hm1 := Lib.hid hm1
  replace hm2 := Lib.hid hm2
  replace hm3 := Lib.hid hm3
  have hall : Hid (CaAt B0 w cb m T n c ∧ nextN s (some 0) = st1 ∧ nextN s st1 = st2 ∧ nextS s st2 = st3 ∧ ¬ ofC cb m xb) := Lib.hid ⟨h, hst1.out, hst2.out, hst3.out, hx⟩
  clear h hr hst1 hst2 hst3 hx
  go_enter Tryz.func57, Tryz.ntmps57
  go_upto_region 1 with fail
  go_cut [3, 4, 5] from 8 to 19 (fun ca cg cx wx => ∃ sb v g x, ca = .int .i64 v ∧ cg = .int .i64 g ∧ cx = .pointer (some ⟨sb, 0, none⟩) ∧ Hid (Whole wx sb 31 (spL x) ∧ RdC wx xb cb s st3 ∧ Kept (ofX xb) w wx ∧ w.heap.size ≤ sb ∧ isNo s (some 0) v ∧ isNo s st1 g ∧ isSp s st2 x))
  case first =>
    go_region_held3 (fun w' => Kept (ofX xb) w w') (with_reducible first | assumption | exact kA (by assumption) _ | exact kAd (by assumption) _ | exact kS5 (by first | assumption | exact kA (by assumption) _) (by first | exact Nat.le_refl _ | assumption) _ _ _ _ _) (first
      | (go_at_call 81; have qq := r11; (with_reducible refine (hm2.out _ (by first | with_reducible exact r11 | with_reducible exact RdC.al r11 _ | with_reducible exact RdC.ald r11 _)).mono ?_); rintro _ y2 ⟨v2, rfl, r12, k12, i2, _⟩; have s12 : Kept (ofX xb) w y2 := Kept.trans (by first | with_reducible exact s11 | with_reducible exact kA s11 _ | with_reducible exact kAd s11 _) k12; have z2 : w.heap.size ≤ y2.heap.size := s12.size; have e2 : ¬ ofX xb y2.heap.size := (fun e : y2.heap.size = xb => absurd hxw (by omega)); skip)
      | (go_at_call 81; (with_reducible refine (hm1.out _ (by first | with_reducible exact r10d | with_reducible exact RdC.ald r10 _ | with_reducible exact RdC.al r10 _ | with_reducible exact r10)).mono ?_); rintro _ y1 ⟨v1, rfl, r11, k11, i1, _⟩; have s11 : Kept (ofX xb) w y1 := Kept.trans (by first | with_reducible exact s10d | with_reducible exact kAd s10 _ | with_reducible exact kA s10 _ | with_reducible exact s10) k11; have z1 : w.heap.size ≤ y1.heap.size := s11.size; have e1 : ¬ ofX xb y1.heap.size := (fun e : y1.heap.size = xb => absurd hxw (by omega)); skip)
      | (go_at_call 82; (with_reducible refine (hm3.out _ (by first | with_reducible exact r12 | with_reducible exact RdC.al r12 _ | with_reducible exact RdC.ald r12 _)).mono ?_); rintro _ y3 ⟨x3, rfl, r13, k13, i3⟩; have s13 : Kept (ofX xb) w y3 := Kept.trans (by first | with_reducible exact s12 | with_reducible exact kA s12 _ | with_reducible exact kAd s12 _) k13; have z3 : w.heap.size ≤ y3.heap.size := s13.size; (try (with_reducible first | (have b3 := nK5 k13 e2) | (have b3 := (nK5 k12 e1).of_kept k13 e1) | (have b3 := ((nK5d k11 e0).of_kept k12 e0).of_kept k13 e0) | (have b3 := ((nK5 k11 e0).of_kept k12 e0).of_kept k13 e0))); (try have b50 : y3.cell? ⟨_, 0, none⟩ = some (.string ⟨#[]⟩) := b3.cell 0); (try have b51 : y3.cell? ⟨_, 1, none⟩ = some (.int .i64 0) := b3.cell 1); (try have b52 : y3.cell? ⟨_, 2, none⟩ = some (.int .i64 0) := b3.cell 2); (try have b53 : y3.cell? ⟨_, 3, none⟩ = some (.int .i64 0) := b3.cell 3); (try have b54 : y3.cell? ⟨_, 4, none⟩ = some (.bool false) := b3.cell 4); (try have f50 := b3.frozen 0); (try have f51 := b3.frozen 1); (try have f52 := b3.frozen 2); (try have f53 := b3.frozen 3); (try have f54 := b3.frozen 4)))
    all_goals rename_i hHeld
    all_goals go_wp2_with fail
    all_goals go_meet
    all_goals first
      | exact ⟨_, v1, v2, x3, rfl, rfl, rfl, Lib.hid ⟨(whole_all b3 rfl : Whole (World.setCells y3 _ 0 [.string x3.nm, .int .i64 x3.parts, .int .i64 x3.age, .int .i64 x3.size, .bool x3.comp]) _ _ [.string x3.nm, .int .i64 x3.parts, .int .i64 x3.age, .int .i64 x3.size, .bool x3.comp]), RdC.st5 r13 (by omega) _ _ _ _ _, hHeld, by first | exact Nat.le_refl _ | assumption, i1, i2, i3⟩⟩
      | exact ⟨_, v1, v2, x3, rfl, rfl, rfl, Lib.hid ⟨Whole.new y3 _ _, RdC.al r13 _, hHeld, z3, i1, i2, i3⟩⟩
  case rest =>
    obtain ⟨sb, v, g, x, rfl, rfl, rfl, hc9⟩ := hcut
    clear hm1 hm2 hm3 s10 r10 s10d r10d e0
    obtain ⟨hS, hR, hK, hsw, iv, ig, ix⟩ := hc9.out
    obtain ⟨h, e1, e2, e3, hx⟩ := hall.out
    obtain ⟨hk1, hk2⟩ := make_key (T := T) (n := n) e1 e2 e3 iv ig ix
    have hC := h.kept hK (fun q hq e => hx (e ▸ hq))
    obtain ⟨rest, brk, hW, _⟩ := id hR
    have hap : Hid (makeF T n s = none → ∀ w', Below wc.heap.size wc w' → ApPost B0 xb cb m T n c (makeF T n s) w (.returned (.bool false)) w') := Lib.hid (fun q w' hb => ap_no h hx q (hK.trans (Kept.of_below hb)))
    have hxs : Hid (x.nm.size ≤ maxLen ∨ ¬ st3 = some s.size) := Lib.hid (by
      by_cases q : st3 = some s.size
      · have hp : Sp.ok x := of_decide_eq_true (hk2 q).2
        have := (nameB_split hp.1).2
        exact .inl (by unfold maxLen; omega)
      · exact .inr q)
    have x0 : wc.cell? ⟨xb, 0, none⟩ = some (.pointer (some ⟨cb, 0, none⟩)) := hW.cell 0
    have s0 : wc.cell? ⟨sb, 0, none⟩ = some (.string x.nm) := hS.cell 0
    have gx0 := fun d os => cell_regrown x0 d os
    have gs0 := fun d os => cell_regrown s0 d os
    obtain ⟨Bw, hBw⟩ : ∃ b, Hid (decide (st3 = some s.size) = b) := ⟨_, Lib.hid rfl⟩
    have hwh := regrown_if (C := fun W => RdC W xb cb s st3) (fun W hQ => below_of_eq (whole23_any xb cb s st3 W hQ)) wc (fun w' hb => hR.below hb)
    rw [hBw.out] at hwh
    have hwi := regrown_same (fun W => within23_any v 0 7 W) wc
    have hge := regrown_same (fun W => isGen_any g W) wc
    have hha := regrown_if (C := fun W => CaAt B0 W cb m T n c) (fun W hQ => has23_any cb m T n c x.nm W hQ) wc (fun w' hb => hC.below hb)
    replace hwh := Lib.hid hwh
    cases Bw with
    | false =>
      have hp := Lib.hid (hap.out (hk1 (of_decide_eq_false hBw.out)))
      clear hall hc9 hS hR hK hC h hW e1 e2 e3 hx iv ig ix hk1 hap hxs x0 s0 hk2 hBw hwi hge hha
      go_upto_region 2 with fail
      refine wp_region_quiet_below (by kernel_rfl) (by kernel_rfl) ?_
      repeat (first
        | go_big_quiet_step (first | (with_reducible exact hwh.out _ _)))
      refine wpQuiet_nil ?_
      intro _ hw'
      obtain ⟨⟨dq, osq⟩, hw''⟩ := hw'
      subst hw''
      have hB2 := Lib.hid (below_regrown wc dq osq)
      have hp2 := Lib.hid (hp.out _ hB2.out)
      clear hp hB2
      go_wp2_with fail
      go_ret
      exact hp2.out
    | true =>
      obtain ⟨hF, hmay⟩ := hk2 (of_decide_eq_true hBw.out)
      clear hk2 hBw
      by_cases c1 : ¬ (0 ≤ v ∧ v ≤ 7)
      · rw [decide_eq_false c1] at hwi
        replace hwi := Lib.hid hwi
        rw [if_neg (fun q => c1 q.1)] at hF
        have hp := Lib.hid (hap.out hF)
        clear hall hc9 hS hR hK hC h hW e1 e2 e3 hx iv ig ix hk1 hap hxs x0 s0 hF hmay hge hha c1
        go_upto_region 2 with fail
        refine wp_region_quiet_below (by kernel_rfl) (by kernel_rfl) ?_
        repeat (first
          | go_big_quiet_step (first | (with_reducible exact hwh.out _ _) | (with_reducible exact hwi.out _ _)))
        refine wpQuiet_nil ?_
        intro _ hw'
        obtain ⟨⟨dq, osq⟩, hw''⟩ := hw'
        subst hw''
        have hB2 := Lib.hid (below_regrown wc dq osq)
        have hp2 := Lib.hid (hp.out _ hB2.out)
        clear hp hB2
        go_wp2_with fail
        go_ret
        exact hp2.out
      replace c1 := Classical.not_not.1 c1
      rw [decide_eq_true c1] at hwi
      replace hwi := Lib.hid hwi
      obtain ⟨k, rfl⟩ : ∃ k : Nat, v = (k : Int) := ⟨v.toNat, by omega⟩
      have hk8 : k < 8 := by omega
      have hk8i : (k : Int) < 8 := by omega
      obtain ⟨N0, hN0⟩ : ∃ s, Hid ((spAt T k).nm = s) := ⟨_, Lib.hid rfl⟩
      have en := fun W => neqE N0 W
      have hfr := spAt_empty2 h.ok k
      rw [hN0.out] at hfr
      rw [hfr] at en
      have n0 : wc.cell? ⟨cb, k * 5, none⟩ = some (.string N0) := by
        have := ctL_sp hC.at_.eight m n hk8 (show 0 < 5 by decide) (spAt_range T hk8)
        rw [hC.at_.box.cell, show k * 5 = k * 5 + 0 from rfl, this, ← hN0.out]; rfl
      have gn0 := fun d os => cell_regrown n0 d os
      by_cases c2 : freeS T (k : Int) = false
      · rw [c2] at en
        rw [if_neg (fun q => by rw [c2] at q; exact absurd q.2.1 (by decide))] at hF
        have hp := Lib.hid (hap.out hF)
        clear hall hc9 hS hR hK hC h hW e1 e2 e3 hx iv ig ix hk1 hap hxs x0 s0 c1 n0 hfr hN0 hF hmay hge hha c2
        go_upto_region 2 with fail
        refine wp_region_quiet_below (by kernel_rfl) (by kernel_rfl) ?_
        repeat (first
          | ((with_reducible refine quiet_cmpC BinOp.neq 9 9 (.string N0) (.string ⟨#[]⟩) _ ?_ ?_ en ?_ ?_ ?_); (· rfl); (· rfl); (· exact fun _ => rfl); (· rfl); simp only [Act.put, List.setIfInBounds_toArray, List.set_cons_zero, List.set_cons_succ])
          | go_big_quiet_step (first | (with_reducible exact hwh.out _ _) | (with_reducible exact hwi.out _ _)))
        refine wpQuiet_nil ?_
        intro _ hw'
        obtain ⟨⟨dq, osq⟩, hw''⟩ := hw'
        subst hw''
        have hB2 := Lib.hid (below_regrown wc dq osq)
        have hp2 := Lib.hid (hp.out _ hB2.out)
        clear hp hB2
        go_wp2_with fail
        go_ret
        exact hp2.out
      replace c2 : freeS T (k : Int) = true := by simpa using c2
      rw [c2] at en
      by_cases c3 : ¬ (1 ≤ g ∧ g ≤ 4294967295)
      · rw [decide_eq_false c3] at hge
        replace hge := Lib.hid hge
        rw [if_neg (fun q => c3 q.2.2.1)] at hF
        have hp := Lib.hid (hap.out hF)
        clear hall hc9 hS hR hK hC h hW e1 e2 e3 hx iv ig ix hk1 hap hxs x0 s0 c1 n0 hfr hN0 hF hmay hha c2 c3
        go_upto_region 2 with fail
        refine wp_region_quiet_below (by kernel_rfl) (by kernel_rfl) ?_
        repeat (first
          | ((with_reducible refine quiet_cmpC BinOp.neq 9 9 (.string N0) (.string ⟨#[]⟩) _ ?_ ?_ en ?_ ?_ ?_); (· rfl); (· rfl); (· exact fun _ => rfl); (· rfl); simp only [Act.put, List.setIfInBounds_toArray, List.set_cons_zero, List.set_cons_succ])
          | go_big_quiet_step (first | (with_reducible exact hwh.out _ _) | (with_reducible exact hwi.out _ _) | (with_reducible exact hge.out _ _)))
        refine wpQuiet_nil ?_
        intro _ hw'
        obtain ⟨⟨dq, osq⟩, hw''⟩ := hw'
        subst hw''
        have hB2 := Lib.hid (below_regrown wc dq osq)
        have hp2 := Lib.hid (hp.out _ hB2.out)
        clear hp hB2
        go_wp2_with fail
        go_ret
        exact hp2.out
      replace c3 := Classical.not_not.1 c3
      rw [decide_eq_true c3] at hge
      replace hge := Lib.hid hge
      cases c4 : hasT T x.nm with
      | true =>
        rw [c4] at hha
        replace hha := Lib.hid hha
        rw [if_neg (fun q => by rw [c4] at q; exact absurd q.2.2.2 (by decide))] at hF
        have hp := Lib.hid (hap.out hF)
        clear hall hc9 hS hR hK hC h hW e1 e2 e3 hx iv ig ix hk1 hap hxs x0 s0 c1 n0 hfr hN0 hF hmay c2 c3 c4
        go_upto_region 2 with fail
        refine wp_region_quiet_below (by kernel_rfl) (by kernel_rfl) ?_
        repeat (first
          | ((with_reducible refine quiet_cmpC BinOp.neq 9 9 (.string N0) (.string ⟨#[]⟩) _ ?_ ?_ en ?_ ?_ ?_); (· rfl); (· rfl); (· exact fun _ => rfl); (· rfl); simp only [Act.put, List.setIfInBounds_toArray, List.set_cons_zero, List.set_cons_succ])
          | go_big_quiet_step (first | (with_reducible exact hwh.out _ _) | (with_reducible exact hwi.out _ _) | (with_reducible exact hge.out _ _) | (with_reducible exact hha.out _ _)))
        refine wpQuiet_nil ?_
        intro _ hw'
        obtain ⟨⟨dq, osq⟩, hw''⟩ := hw'
        subst hw''
        have hB2 := Lib.hid (below_regrown wc dq osq)
        have hp2 := Lib.hid (hp.out _ hB2.out)
        clear hp hB2
        go_wp2_with fail
        go_ret
        exact hp2.out
      | false =>
        rw [c4] at hha
        replace hha := Lib.hid hha
        rw [if_pos ⟨c1, c2, c3, c4⟩] at hF
        have hna := hasT_no c4
        have hsl := freeS_iff.1 c2
        have hok : CatOk (insT (newT x (k : Int) g) T) (max n g) := h.ok.ins (newT_ok hmay c1.1 c1.2 c3.1 c3.2 (Int.le_max_right _ _)) (Int.le_max_left _ _) (by have := h.ok.n1; omega) hna hsl
        have hspo : Sp.ok x := of_decide_eq_true hmay
        obtain ⟨N, hN⟩ : ∃ N : Nat, x.parts = (N : Int) := ⟨x.parts.toNat, by have := hspo.2.1; omega⟩
        have hN1 : 1 ≤ N := by have := hspo.2.1; omega
        have hN4 : N ≤ 4 := by have := hspo.2.1; omega
        have hnl : x.nm.size ≤ maxLen := by have := (nameB_split hspo.1).2; unfold maxLen; omega
        have hfe := fillJ_end hok hna hN
        have hse := spL8_set (T := T) (T' := insT (newT x (k : Int) g) T) hk8 (fun i _ => spAt_ins hok rfl hsl i)
        have hfin : Hid (∀ w' m', CtAt B0 w' cb m' (((List.range 8).map (spAt T)).set k x) (fillJ (metaT T) x.nm g N) (cntJ n g N) (c + N) → Kept (fun q => q = xb ∨ ofC cb m q) w w' → (m' = m ∨ (m = none ∧ ∃ mb, m' = some mb ∧ w.heap.size ≤ mb)) → ApPost B0 xb cb m T n c (makeF T n s) w (.returned (.bool true)) w') := Lib.hid (fun w' m' hq hkq hm => by
          rw [hse, hfe] at hq
          rw [hF]
          refine ⟨m', rfl, ⟨hok, ?_⟩, hkq, hm⟩
          have e9 : cntJ n g N = max n g := by unfold cntJ; rw [if_neg (by omega)]
          rw [e9] at hq
          exact hq.up (by omega))
        have hzc : spAt T k = zSp := spAt_free c2
        obtain ⟨nm, pa, ag, sz, cp⟩ := x
        dsimp only at hN hnl
        subst hN
        have hpl : Hid (∀ W, Calls Tryz.prog 44 #[(.agg #[.string nm, .int .i64 (N : Int), .int .i64 ag, .int .i64 sz, .bool cp])] W fun e w' => ∃ b, e = .returned (.slice (some ⟨b, 0, none⟩) N N) ∧ Whole w' b 33 (plRows nm N) ∧ Below W.heap.size W w') := Lib.hid (fun W => by
          have := places_yes nm (N : Int) ag sz cp W hmay
          simpa using this)
        have hin : Hid (Whole wc sb 31 [.string nm, .int .i64 (N : Int), .int .i64 ag, .int .i64 sz, .bool cp] ∧ CtAt B0 wc cb m ((List.range 8).map (spAt T)) (metaT T) n c ∧ Kept (ofX xb) w wc ∧ Whole wc xb 82 (enL cb rest brk) ∧ ¬ ofC cb m xb ∧ ¬ ofC cb m sb ∧ w.heap.size ≤ sb) := Lib.hid ⟨hS, hC.at_, hK, hW, hx, fun q => (hC.at_.ne hS (by decide)) q, hsw⟩
        dsimp only at gs0 hha
        clear hall hc9 hS hR hK hC h hW e1 e2 e3 hx iv ig ix hk1 hap hxs x0 s0 c1 n0 hfr hN0 c2 c3 c4 hF hmay hna hsl hok hspo hfe hse hsw
        go_upto_region 2 with fail
        refine wp_region_quiet_below (by kernel_rfl) (by kernel_rfl) ?_
        repeat (first
          | ((with_reducible refine quiet_cmpC BinOp.neq 9 9 (.string N0) (.string ⟨#[]⟩) _ ?_ ?_ en ?_ ?_ ?_); (· rfl); (· rfl); (· exact fun _ => rfl); (· rfl); simp only [Act.put, List.setIfInBounds_toArray, List.set_cons_zero, List.set_cons_succ])
          | go_big_quiet_step (first | (with_reducible exact hwh.out _ _) | (with_reducible exact hwi.out _ _) | (with_reducible exact hge.out _ _) | (with_reducible exact hha.out _ _)))
        refine wpQuiet_nil ?_
        intro _ hw'
        obtain ⟨⟨dq, osq⟩, hw''⟩ := hw'
        subst hw''
        have hB2 := Lib.hid (below_regrown wc dq osq)
        obtain ⟨W2, hW2⟩ : ∃ W, W = grow (redrawn wc dq) osq := ⟨_, rfl⟩
        rw [← hW2] at hB2 ⊢
        clear hW2 gx0 gs0 gn0 hwh hwi hge hha en
        obtain ⟨hS, hC, hK, hW, hx, hsc, hsw⟩ := hin.out
        replace hS := hS.below hB2.out hS.lt
        replace hC := hC.below hB2.out
        replace hK := hK.trans (Kept.of_below hB2.out)
        replace hW := hW.below hB2.out hW.lt
        have x0 : W2.cell? ⟨xb, 0, none⟩ = some (.pointer (some ⟨cb, 0, none⟩)) := hW.cell 0
        have s0 : W2.cell? ⟨sb, 0, none⟩ = some (.string nm) := hS.cell 0
        have s1 : W2.cell? ⟨sb, 1, none⟩ = some (.int .i64 (N : Int)) := hS.cell 1
        have s2 : W2.cell? ⟨sb, 2, none⟩ = some (.int .i64 ag) := hS.cell 2
        have s3 : W2.cell? ⟨sb, 3, none⟩ = some (.int .i64 sz) := hS.cell 3
        have s4 : W2.cell? ⟨sb, 4, none⟩ = some (.bool cp) := hS.cell 4
        have hcl : ∀ i u, (spL zSp)[i]? = some u → W2.cell? ⟨cb, k * 5 + i, none⟩ = some u := fun i u hu => by
          rw [hC.box.cell, ctL_sp hC.eight _ _ hk8 (List.getElem?_eq_some_iff.1 hu).1 (spAt_range T hk8), hzc]
          exact hu
        have d0 : W2.cell? ⟨cb, k * 5, none⟩ = some (.string ⟨#[]⟩) := hcl 0 _ rfl
        have d1 : W2.cell? ⟨cb, k * 5 + 1, none⟩ = some (.int .i64 0) := hcl 1 _ rfl
        have d2 : W2.cell? ⟨cb, k * 5 + 2, none⟩ = some (.int .i64 0) := hcl 2 _ rfl
        have d3 : W2.cell? ⟨cb, k * 5 + 3, none⟩ = some (.int .i64 0) := hcl 3 _ rfl
        have d4 : W2.cell? ⟨cb, k * 5 + 4, none⟩ = some (.bool false) := hcl 4 _ rfl
        have f0 : W2.frozen? ⟨cb, k * 5, none⟩ = false := hC.box.frozen (k * 5)
        have f1 : W2.frozen? ⟨cb, k * 5 + 1, none⟩ = false := hC.box.frozen (k * 5 + 1)
        have f2 : W2.frozen? ⟨cb, k * 5 + 2, none⟩ = false := hC.box.frozen (k * 5 + 2)
        have f3 : W2.frozen? ⟨cb, k * 5 + 3, none⟩ = false := hC.box.frozen (k * 5 + 3)
        have f4 : W2.frozen? ⟨cb, k * 5 + 4, none⟩ = false := hC.box.frozen (k * 5 + 4)
        obtain ⟨W5, hW5⟩ : ∃ W, Hid (W = (((((W2.setCell ⟨cb, k * 5, none⟩ (.string nm)).setCell ⟨cb, k * 5 + 1, none⟩ (.int .i64 (N : Int))).setCell ⟨cb, k * 5 + 2, none⟩ (.int .i64 ag)).setCell ⟨cb, k * 5 + 3, none⟩ (.int .i64 sz)).setCell ⟨cb, k * 5 + 4, none⟩ (.bool cp)).drew) := ⟨_, Lib.hid rfl⟩
        have e5 : W5 = (W2.setCells cb (k * 5) (spL ⟨nm, (N : Int), ag, sz, cp⟩)).drew := hW5.out
        have hC5 : CtAt B0 W5 cb m (((List.range 8).map (spAt T)).set k ⟨nm, (N : Int), ag, sz, cp⟩) (metaT T) n c := by
          rw [e5]
          exact (hC.setSlot k hk8 ⟨nm, (N : Int), ag, sz, cp⟩).below ((Below.refl _ _).drew)
        have hk5 : Kept (fun q => q = cb) W2 W5 := by rw [e5]; exact ((Kept.refl (fun q => q = cb) W2).setCells (c := cb) (.inl rfl) (k * 5) (spL ⟨nm, (N : Int), ag, sz, cp⟩)).drewN 1
        have hK5 : Kept (fun q => q = xb ∨ ofC cb m q) w W5 := (hK.mono (fun k _ e => Or.inl e)).trans (hk5.mono (fun k _ e => Or.inr (.inl e)))
        have hW5x : Whole W5 xb 82 (enL cb rest brk) := hW.of_kept hk5 (fun e => hx (.inl e))
        have hS5 := hS.of_kept hk5 (fun e => hsc (.inl e))
        have t0 : W5.cell? ⟨sb, 0, none⟩ = some (.string nm) := hS5.cell 0
        have t1 : W5.cell? ⟨sb, 1, none⟩ = some (.int .i64 (N : Int)) := hS5.cell 1
        have t2 : W5.cell? ⟨sb, 2, none⟩ = some (.int .i64 ag) := hS5.cell 2
        have t3 : W5.cell? ⟨sb, 3, none⟩ = some (.int .i64 sz) := hS5.cell 3
        have t4 : W5.cell? ⟨sb, 4, none⟩ = some (.bool cp) := hS5.cell 4
        have hp5 := Lib.hid (hpl.out W5)
        replace hC5 := Lib.hid hC5
        replace hK5 := Lib.hid hK5
        replace hW5x := Lib.hid hW5x
        have hx5 := Lib.hid hx
        clear hS hC hK hW hin hB2 hcl e5 hk5 hS5 hpl hsc hx hzc
        go_upto_region 4 with fail
        go_region
        rw [← show W5 = _ from hW5.out]
        clear hW5 x0 s0 s1 s2 s3 s4 d0 d1 d2 d3 d4 f0 f1 f2 f3 f4
        go_wp2_with fail
        refine hp5.out.mono ?_
        rintro _ w6 ⟨pb, rfl, hP6, hb6⟩
        have hI0 : Hid (∃ m', MkI B0 xb cb m T (((List.range 8).map (spAt T)).set k ⟨nm, (N : Int), ag, sz, cp⟩) n c nm g w rest brk pb N 0 m' w6) := Lib.hid ⟨m, ⟨by
          rw [fillJ_zero]
          exact hC5.out.below hb6, hK5.out.trans (Kept.of_below hb6), .inl rfl, hP6, hW5x.out.below hb6 hW5x.out.lt⟩⟩
        clear hC5 hK5 hW5x hp5 hP6 hb6 t0 t1 t2 t3 t4
        go_wp2_with fail
        go_loopg [69] N (fun ga iy wr => ∃ j : Nat, j ≤ N ∧ N ≤ j + ga ∧ iy = .int .i64 j ∧ Hid (∃ m', MkI B0 xb cb m T (((List.range 8).map (spAt T)).set k ⟨nm, (N : Int), ag, sz, cp⟩) n c nm g w rest brk pb N j m' wr))
        case atStart => exact ⟨0, by omega, by omega, rfl, hI0⟩
        case round =>
          clear hI0
          obtain ⟨j, hj, hg, rfl, hrel⟩ := hrel
          generalize wr = wo at *
          obtain ⟨m', hI⟩ := hrel.out
          clear hrel
          by_cases hlt : j < N
          · have p0 : wo.cell? ⟨pb, j * 2, none⟩ = some (.string nm) := by rw [hI.pl.cell]; exact (plRows_at nm hlt).1
            have p1 : wo.cell? ⟨pb, j * 2 + 1, none⟩ = some (.int .i64 (j : Int)) := by rw [hI.pl.cell]; exact (plRows_at nm hlt).2
            obtain ⟨V, hV⟩ : ∃ V, Hid (V = wo.alloc (.cells #[.string nm, .int .i64 (j : Int)] 33)) := ⟨_, Lib.hid rfl⟩
            have hbV : Below wo.heap.size wo V := by rw [hV.out]; exact grewAlloc (Below.refl _ _) _
            have hX : Whole V wo.heap.size 33 [.string nm, .int .i64 (j : Int)] := by rw [hV.out]; exact Whole.new wo _ _
            obtain ⟨vb, hvb⟩ : ∃ q, Hid (wo.heap.size = q) := ⟨_, Lib.hid rfl⟩
            rw [hvb.out] at hX
            have hCV := hI.cat.below hbV
            have hWV := hI.ent.below hbV hI.ent.lt
            have hPV := hI.pl.below hbV hI.pl.lt
            have hxm : ¬ ofC cb m' xb := hI.cat.ne hI.ent (by decide)
            have hvm : ¬ ofC cb m' vb := hCV.ne hX (by decide)
            have hpm : ¬ ofC cb m' pb := hI.cat.ne hI.pl (by decide)
            have hwf : (Lit.int .i64 (j : Int)).wf = true := by simp [Lit.wf, IntKind.min, IntKind.max, IntKind.signed, IntKind.bits]; omega
            have hVs : B0 ≤ V.heap.size := by have := hI.kept.size; have := hbV.size; omega
            have q0 : ∀ W, Kept (ofC cb m') V W → W.cell? ⟨vb, 0, none⟩ = some (.string nm) := fun W hb => (hX.of_kept hb hvm).cell 0
            have q1 : ∀ W, Kept (ofC cb m') V W → W.cell? ⟨vb, 1, none⟩ = some (.int .i64 (j : Int)) := fun W hb => (hX.of_kept hb hvm).cell 1
            have x0 : ∀ W, Kept (ofC cb m') V W → W.cell? ⟨xb, 0, none⟩ = some (.pointer (some ⟨cb, 0, none⟩)) := fun W hb => (hWV.of_kept hb hxm).cell 0
            have s10 : Kept (ofC cb m') V V := Kept.refl _ _
            have s10d : Kept (ofC cb m') V V.drew := kD (Kept.refl _ _)
            have hd0 : Below V.heap.size V V.drew := (Below.refl _ _).drew
            have hnw := Lib.hid (fun W => dnew_any W)
            have hen : Hid (∀ (B : Nat) (W : World) (tb : Nat), Tb B W tb [] → Calls Tryz.prog 86 #[.pointer (some ⟨tb, 0, none⟩)] W fun e w' => e = .returned (.string zTab) ∧ Below W.heap.size W w') := Lib.hid (fun B W tb hT => by
              have := enc_any tb [] W hT TabOk.nil
              rwa [enc_nil] at this)
            have hpu : Hid (∀ W, Below V.heap.size V W → Calls Tryz.prog 84 #[.pointer (some ⟨cb, 0, none⟩), .agg #[.string nm, .int .i64 (j : Int)], .agg #[.int .i64 g, .int .i64 0, .int .i64 0, .int .i64 0, .string zTab]] W fun e w' => e = .returned (.tuple #[]) ∧ PutC B0 cb m' (((List.range 8).map (spAt T)).set k ⟨nm, (N : Int), ag, sz, cp⟩) (fillJ (metaT T) nm g (j + 1)) (cntJ n g (j + 1)) (c + (j + 1)) W w') := Lib.hid (fun W hb => by
              have := put23_any cb m' _ _ _ (c + j) nm (j : Int) (newM g) W (hCV.below hb) (by have := hb.size; omega) hnl hwf (by omega)
              rw [fillJ_step] at this
              rw [show max (cntJ n g j) (newM g).gen = cntJ n g (j + 1) from cntJ_step n g j] at this
              exact this)
            have hend : Hid (∀ w', Kept (ofC cb m') V w' → (∀ W, Below V.heap.size V W → PutC B0 cb m' (((List.range 8).map (spAt T)).set k ⟨nm, (N : Int), ag, sz, cp⟩) (fillJ (metaT T) nm g (j + 1)) (cntJ n g (j + 1)) (c + (j + 1)) W w' → ∃ m2, MkI B0 xb cb m T (((List.range 8).map (spAt T)).set k ⟨nm, (N : Int), ag, sz, cp⟩) n c nm g w rest brk pb N (j + 1) m2 w')) := Lib.hid (fun w' hk W hb hP => by
              obtain ⟨m2, c2, k2, z2⟩ := hP
              refine ⟨m2, c2, kept_then hI.kept ((Kept.of_below hbV).trans hk) (fun q hq e => ?_), ?_, hPV.of_kept hk hpm, hWV.of_kept hk hxm⟩
              · rcases e with rfl | e
                · exact .inr (.inl rfl)
                · rcases hI.map with e2 | ⟨_, mb, e2, hm⟩
                  · exact .inr (.inr (by rw [← e2]; exact e))
                  · rw [e2] at e
                    cases e
                    omega
              · rcases z2 with e2 | ⟨e2, mb, e3, hm⟩
                · rw [e2]; exact hI.map
                · rcases hI.map with e4 | ⟨e4, mb2, e5, hm2⟩
                  · refine .inr ⟨by rw [← e4]; exact e2, mb, e3, ?_⟩
                    have := hI.kept.size
                    have := hbV.size
                    have := hb.size
                    omega
                  · rw [e5] at e2; cases e2)
            have hji : (j : Int) < (N : Int) := by omega
            clear hI hbV hX hCV hWV hPV hwf hVs hfin
            go_upto_region 8 with fail
            rw [← show V = _ from hV.out, hvb.out]
            clear hV hvb p0 p1
            go_region_held3 (fun w' => Kept (ofC cb m') V w') (with_reducible first | assumption) (first
              | (go_at_call 85; (with_reducible refine (hnw.out _).mono ?_); rintro _ y1 ⟨rfl, hT0, b1⟩; have hT1 : Tb V.heap.size y1 V.heap.size [] := hT0; have hb1 : Below V.heap.size V y1 := grew hd0 b1; have s11 : Kept (ofC cb m') V y1 := Kept.of_below hb1)
              | (go_at_call 86; (with_reducible refine (hen.out _ _ _ hT1).mono ?_); rintro _ y2 ⟨rfl, b2⟩; have hb2 : Below V.heap.size V y2 := grew hb1 b2; have s12 : Kept (ofC cb m') V y2 := Kept.of_below hb2)
              | (go_at_call 84; (with_reducible refine (hpu.out _ hb2).mono ?_); rintro _ y3 ⟨rfl, hP3⟩; have s13 : Kept (ofC cb m') V y3 := (Kept.of_below hb2).trans (by obtain ⟨_, _, kk, _⟩ := hP3; exact kk); have hI3 := Lib.hid (hend.out y3 s13 y2 hb2 hP3)))
            all_goals
              clear q0 q1 x0 hnw hen hpu hend
              go_wp2_with fail
              go_roundg (gk - 1)
              case measure => omega
              case rel => exact ⟨j + 1, by omega, by omega, by go_num, hI3⟩
          · obtain rfl : j = N := by omega
            have hp9 := Lib.hid (hfin.out wo m' hI.cat hI.kept hI.map)
            clear hI hfin
            go_wp2_with fail
            go_ret
            exact hp9.out
end Go.Proofs.YtgogackkeodciaaGreat.W
