/- strings.Builder: what WriteString leaves as it was. Package dedup's Producers whatever the table; Encode. -/
import Derived.Test.YtgogackkeodciaaGreatBld
import Derived.Test.YtgogackkeodciaaGreatFlat
import Derived.Test.YtgogackkeodciaaGreatDdB
import Derived.Test.YtgogackkeodciaaGreatQuietB
import Derived.Test.YtgogackkeodciaaGreatUntexts
section
namespace Go.Proofs.YtgogackkeodciaaGreat.W
open Go.RowKit
open Go.Proofs.YtgogackkeodciaaGreat.M Go.Proofs.YtgogackkeodciaaGreat.D
set_option linter.unusedVariables false
set_option linter.unusedSimpArgs false

/-- Blocks of other types than a builder's are as they were. -/
def KT (W W' : World) : Prop := ∀ (q : Nat) (t : TypeId) (cs : List Value), Whole W q t cs → t ≠ 176 → t ≠ 5 → Whole W' q t cs
theorem KT.refl (W : World) : KT W W := fun _ _ _ h _ _ => h
theorem KT.trans {a b c : World} (h : KT a b) (k : KT b c) : KT a c := fun q t cs hw h1 h2 => k q t cs (h q t cs hw h1 h2) h1 h2
theorem KT.of_below {a b : World} (h : Below a.heap.size a b) : KT a b := fun q t cs hw _ _ => hw.below h hw.lt
theorem KT.set {w : World} {b : Nat} {cs0 : Array Value} {fr : Nat × Nat} (hb : w.heap[b]? = some (.cells cs0 176 fr)) (o : Nat) (v : Value) : KT w (w.setCell ⟨b, o, none⟩ v) := fun q t cs hw h1 _ => by
  refine hw.far (fun e => ?_) o [v]
  subst e
  unfold Whole at hw
  rw [hb] at hw
  injection hw with hw
  injection hw with _ e2
  exact h1 e2.symm
theorem check_fk (B b : Nat) (bs : List Value) (w : World) (h : Lib.IsBuilderF 176 5 B b bs w) :
    Calls Tryz.prog 126 #[.pointer (some ⟨b, 0, none⟩)] w fun e w' => e = .returned (.tuple #[]) ∧ (Lib.BuilderAtF 176 5 B b (.pointer (some ⟨b, 0, none⟩)) bs w' ∧ Below B w w' ∧ KT w w') := by
  rcases h with h | h
  · refine (check_fresh b w h.cell0 h.shape h.frozen0).mono ?_
    rintro e w' ⟨rfl, rfl⟩
    obtain ⟨_, v, hbk, _⟩ := id h
    exact ⟨rfl, h.used _, (Below.refl B w).setCell (p := ⟨b, 0, none⟩) h.1 _, KT.set hbk 0 _⟩
  · refine (check_used b w h.cell0).mono ?_
    rintro e w' ⟨rfl, rfl⟩
    exact ⟨rfl, h, Below.refl B _, KT.refl _⟩

set_option maxHeartbeats 2000000 in
set_option maxRecDepth 100000 in
theorem write_fk (B b : Nat) (bs : List Value) (s : ByteArray) (w : World) (h : Lib.IsBuilderF 176 5 B b bs w) (hlen : bs.length + s.size ≤ 140737488355328) (hBw : B ≤ w.heap.size) :
    Calls Tryz.prog 109 #[.pointer (some ⟨b, 0, none⟩), .string s] w fun e w' => e = .returned (.tuple #[.int .i64 s.size, .nilIface]) ∧ (Lib.BuilderAtF 176 5 B b (.pointer (some ⟨b, 0, none⟩)) (bs ++ Lib.strCells s) w' ∧ Below B w w' ∧ KT w w') := by
  obtain ⟨i0, hi, hz0, hz1, hz2⟩ := info_parts infoByteB
  go_enter Tryz.func109, Tryz.ntmps109
  go_wp2_with fail
  refine (check_fk B b bs _ h).mono ?_
  rintro e w1 ⟨rfl, h1, hb1, hk1⟩
  obtain ⟨hB, v, hbk, hown, hne⟩ := h1
  have c0 : w1.cell? ⟨b, 0, none⟩ = some (.pointer (some ⟨b, 0, none⟩)) := by rw [Lib.cell_of_heap hbk]; rfl
  have c1 : w1.cell? ⟨b, 1, none⟩ = some v := by rw [Lib.cell_of_heap hbk]; rfl
  go_wp2_with (at_builtin; refine Lib.wpList_append_own_stringF _ rfl _ _ 73 9 rfl B 5 i0 Tryz.underlying73 Tryz.underlying9 hi hz0 hz1 hz2 _ _ _ rfl hown s rfl ?c3 ?c4 ?c5 ?_)
  case c3 => unfold maxLen; omega
  case c4 => omega
  case c5 => have := hb1.size; omega
  intro v' w2 hown' hgrow _
  have hlt : b < w1.heap.size := by
    rcases Nat.lt_or_ge b w1.heap.size with h' | h'
    · exact h'
    · simp [Array.getElem?_eq_none h'] at hbk
  have hb2 : w2.heap[b]? = some (.cells #[.pointer (some ⟨b, 0, none⟩), v] 176 (0, 0)) := by
    rw [hgrow.block b hlt (fun e => hne e.symm)]
    exact hbk
  have d0 : w2.cell? ⟨b, 0, none⟩ = some (.pointer (some ⟨b, 0, none⟩)) := by rw [Lib.cell_of_heap hb2]; rfl
  have d1 : w2.cell? ⟨b, 1, none⟩ = some v := by rw [Lib.cell_of_heap hb2]; rfl
  have f1 : w2.frozen? ⟨b, 1, none⟩ = false := Lib.frozen_of_heap hb2 1
  obtain ⟨ao, n', cap, rfl⟩ : ∃ ao n' cap, v' = .slice ao n' cap := by
    rcases hown'.2 with ⟨hv, _⟩ | ⟨g, cap, cur, fz, hv, _⟩
    · exact ⟨_, _, _, hv⟩
    · exact ⟨_, _, _, hv⟩
  have hk2 : KT w1 w2 := fun q t cs hw h1 h2 => hw.kept hgrow (fun e => by
    rcases hown.2 with ⟨rfl, _⟩ | ⟨g, cap, cur, fz, rfl, _, hg, _⟩
    · cases e
    · have e2 : q = g := by simpa [Value.ownBlock] using e
      subst e2
      unfold Whole at hw
      rw [hg] at hw
      injection hw with hw
      injection hw with _ e3
      exact h2 e3.symm)
  have hk3 := KT.set hb2 1 (.slice ao n' cap)
  replace hk1 := Lib.hid hk1
  replace hk2 := Lib.hid hk2
  replace hk3 := Lib.hid hk3
  go_wp2_with fail
  go_ret2
  refine ⟨rfl, ?_, ?_, (hk1.out.trans hk2.out).trans hk3.out⟩
  · exact Lib.BuilderAtF.put (T := 176) (e := 5) hB hb2 (bs' := bs ++ Lib.strCells s) (by simpa [Lib.strCells_length] using hown') (by decide)
  · exact (hb1.grown hgrow (by have := hb1.size; omega) (fun k hk => (hown.lt k hk).1)).setCell (p := ⟨b, 1, none⟩) hB _

theorem Bd.writeK {B b : Nat} {l : List UInt8} {w : World} (h : Bd B b l w) (m : List UInt8) (hlen : l.length + m.length ≤ 1000000000) (hBw : B ≤ w.heap.size) :
    Calls Tryz.prog 109 #[.pointer (some ⟨b, 0, none⟩), .string (M.B m)] w fun e w' => e = .returned (.tuple #[.int .i64 m.length, .nilIface]) ∧ Bd B b (l ++ m) w' ∧ Below B w w' ∧ KT w w' := by
  have hm : (M.B m).size = m.length := B_size m
  refine (write_fk B b _ (M.B m) w h (by rw [Lib.byteCells_length, hm]; omega) hBw).mono ?_
  rintro e w' ⟨rfl, h1, h2, h3⟩
  refine ⟨by rw [hm], ?_, h2, h3⟩
  rw [Lib.strCells_eq, ← Lib.byteCells_append] at h1
  exact Or.inr h1
end Go.Proofs.YtgogackkeodciaaGreat.W
end
section
namespace Go.Proofs.YtgogackkeodciaaGreat.W
open Go.RowKit Go.Sort
open Go.Proofs.YtgogackkeodciaaGreat.M Go.Proofs.YtgogackkeodciaaGreat.D Go.Proofs.YtgogackkeodciaaGreat.Z
set_option linter.unusedVariables false
set_option linter.unusedSimpArgs false

set_option maxRecDepth 100000 in
theorem prods_none {B0 : Nat} (tb : Nat) (w : World) (h : TbAt B0 w tb none []) : Calls Tryz.prog 110 #[.pointer (some ⟨tb, 0, none⟩)] w (ProdsP w []) := by
  have c0 : w.cell? ⟨tb, 0, none⟩ = some (.map none) := h.box.cell 0
  have hrg := run_range_nilMap (P := Tryz.prog) w 171 _ _ Tryz.underlying171
  have hnx : ∀ ty, (Instr.next (.pointer (some ⟨w.heap.size, 0, none⟩)) false ty).run Tryz.prog (w.alloc (.mapIter none 0 #[] 0)) = _ := fun ty => run_next_nilMap w ty 0 0 #[]
  have hfin : Hid (ProdsP w [] (.returned (.slice none 0 0)) (w.alloc (.mapIter none 0 #[] 0))) := Lib.hid ⟨none, 0, rfl, own_nilI, (Below.refl _ _).alloc (Nat.le_refl _) _⟩
  clear h
  go_enter Tryz.func110, Tryz.ntmps110
  go_wp2_with fail
  refine wp_loop_rounds 1 ?_
  rw [rounds_succ]
  go_wp2_with fail
  refine (Tryz.slices_Sort_int_none none 0 _).mono ?_
  rintro e w' ⟨rfl, rfl⟩
  go_wp2_with fail
  go_ret
  exact hfin.out
theorem prods_nil (w : World) : Calls Tryz.prog 110 #[.pointer none] w fun e w' => e = .returned (.slice none 0 0) ∧ w = w' := by
  go_enter Tryz.func110, Tryz.ntmps110
  go_wp2_with fail
  go_ret
  exact ⟨rfl, rfl⟩
theorem prods_any {B0 : Nat} (tb : Nat) (l : List La) (w : World) (h : Tb B0 w tb l) (hr : riseL l) (hn : l.length ≤ 1000) : Calls Tryz.prog 110 #[.pointer (some ⟨tb, 0, none⟩)] w (ProdsP w l) := by
  obtain ⟨m, h⟩ := h
  cases m with
  | none =>
    have hl : l = [] := by
      rcases h.map with ⟨_, e⟩ | ⟨mb, e, _⟩
      · exact e
      · cases e
    subst hl
    exact prods_none tb w h
  | some mb => exact prods_some tb mb l w h hr hn
/-- A row of numbers that lies somewhere. -/
def RowI (w : World) (A : Option Addr) (xs : List Int) : Prop := xs = [] ∨ ∃ g cur, A = some ⟨g, 0, none⟩ ∧ Whole w g 3 cur ∧ cur.take xs.length = xs.map (Value.int .i64)
theorem RowI.below {w w' : World} {A : Option Addr} {xs : List Int} (h : RowI w A xs) (hb : Below w.heap.size w w') : RowI w' A xs := by
  rcases h with h | ⟨g, cur, h1, h2, h3⟩
  · exact .inl h
  · exact .inr ⟨g, cur, h1, h2.below hb h2.lt, h3⟩
theorem RowI.kt {w w' : World} {A : Option Addr} {xs : List Int} (h : RowI w A xs) (hb : KT w w') : RowI w' A xs := by
  rcases h with h | ⟨g, cur, h1, h2, h3⟩
  · exact .inl h
  · exact .inr ⟨g, cur, h1, hb g _ _ h2 (by decide) (by decide), h3⟩
theorem RowI.cell {w : World} {A : Option Addr} {xs : List Int} (h : RowI w A xs) {k : Nat} {x : Int} (hk : xs[k]? = some x) : ∃ g : Nat, A = some ⟨g, 0, none⟩ ∧ w.cell? ⟨g, k, none⟩ = some (.int .i64 x) := by
  rcases h with rfl | ⟨g, cur, h1, h2, h3⟩
  · simp at hk
  · refine ⟨g, h1, ?_⟩
    have hl := (List.getElem?_eq_some_iff.1 hk).1
    rw [h2.cell, ← List.getElem?_take_of_lt hl, h3, List.getElem?_map, hk]
    rfl
theorem rowI_own {w : World} {B n c : Nat} {A : Option Addr} {xs : List Int} (h : w.ownsRow B 3 1 (.slice A n c) n (xs.map (Value.int .i64))) (hn : xs.length = n) : RowI w A xs := by
  rcases h.2 with ⟨_, h0⟩ | ⟨g, cap, cur, hv, hB, hg, h1, h2, h3, h4⟩
  · exact .inl (List.eq_nil_of_length_eq_zero (by omega))
  · injection hv with e1 e2 e3
    exact .inr ⟨g, cur.toList, e1, hg, by rw [← hn] at h4; simpa using h4⟩

set_option maxRecDepth 100000 in
theorem enc1_any (B0 b : Nat) (ls : List UInt8) (n : Int) (w : World) (h : Bd B0 b ls w) (h0 : 0 ≤ n) (h1 : n ≤ 1099511627776) (hl : ls.length ≤ 100000) (hBw : B0 ≤ w.heap.size) :
    Calls Tryz.prog 108 #[.int .i64 n, .pointer (some ⟨b, 0, none⟩)] w fun e w' => e = .returned (.tuple #[]) ∧ Bd B0 b (ls ++ chain n) w' ∧ Below B0 w w' ∧ KT w w' := by
  have hw : IntKind.u64.wrap n = n := IntWalk.u64_in _ (by omega)
  have hc := Lib.hid (chain_any n w h0 (by omega))
  have hlc := Lib.hid (show (chain n).length ≤ 10 from (chF_length 9 n).2)
  replace h := Lib.hid h
  go_enter Tryz.func108, Tryz.ntmps108
  go_wp2_with fail
  refine hc.out.mono ?_
  rintro e w1 ⟨rfl, hb⟩
  have h2 := Lib.hid (h.out.below hb)
  have hs2 := Nat.le_trans hBw hb.size
  have hk1 := Lib.hid (KT.of_below hb)
  replace hb := Lib.hid (hb.mono hBw)
  go_wp2_with fail
  refine (h2.out.writeK (chain n) (by have := hlc.out; omega) hs2).mono ?_
  rintro e w2 ⟨rfl, h3, hb3, hk3⟩
  have hfin := Lib.hid (And.intro h3 (And.intro (hb.out.trans hb3) (hk1.out.trans hk3)))
  clear h3 hb3 hb h2 h hc hk1 hk3
  go_wp2_with fail
  go_end0
  exact ⟨rfl, hfin.out⟩

/-- A table as bytes (18.3). -/
def entB (x : La) : List UInt8 := chain x.p ++ (chain x.s ++ (chain x.n ++ chain x.o))
def encB (l : List La) : List UInt8 := l.flatMap entB
def encL (l : List La) : List UInt8 := chain (l.length : Int) ++ encB l
theorem entB_len (x : La) : (entB x).length ≤ 40 := by
  have h := fun n => (chF_length 9 n).2
  have h1 : (chain x.p).length ≤ 10 := h _
  have h2 : (chain x.s).length ≤ 10 := h _
  have h3 : (chain x.n).length ≤ 10 := h _
  have h4 : (chain x.o).length ≤ 10 := h _
  unfold entB
  simp only [List.length_append]
  omega
theorem encB_len (l : List La) : (encB l).length ≤ 40 * l.length := by
  induction l with
  | nil => simp [encB]
  | cons x l ih =>
    have := entB_len x
    unfold encB at ih ⊢
    rw [List.flatMap_cons, List.length_append, List.length_cons]
    omega
theorem encB_take {l : List La} {k : Nat} {x : La} (h : l[k]? = some x) : encB (l.take (k + 1)) = encB (l.take k) ++ entB x := by
  unfold encB
  rw [List.take_add_one, h, List.flatMap_append]
  simp
theorem getV_at {l : List La} (hr : riseL l) {k : Nat} {x : La} (h : l[k]? = some x) : getV l x.p = x := by
  have hx := List.mem_of_getElem? h
  unfold getV
  have hs : ∃ y, getL l x.p = some y := by
    cases hg : getL l x.p with
    | some y => exact ⟨y, rfl⟩
    | none => exact absurd rfl (getL_none hg x hx)
  obtain ⟨y, hy⟩ := hs
  rw [hy]
  obtain ⟨h1, h2⟩ := getL_mem hy
  show y = x
  have huniq : ∀ (l : List La), riseL l → ∀ a ∈ l, ∀ b ∈ l, a.p = b.p → a = b := by
    intro l
    induction l with
    | nil => intro _ a ha; simp at ha
    | cons z l ih =>
      intro hr a ha b hb e
      obtain ⟨r1, r2⟩ := List.pairwise_cons.1 hr
      rcases List.mem_cons.1 ha with rfl | ha
      · rcases List.mem_cons.1 hb with rfl | hb
        · rfl
        · have := r1 b hb
          omega
      · rcases List.mem_cons.1 hb with hb | hb
        · have := r1 a ha
          rw [hb] at e
          omega
        · exact ih r2 a ha b hb e
  exact huniq l hr y h1 x hx h2
theorem lenW : (Tryz.prog.info? 176).map (·.size) = some 2 := by kernel_rfl
set_option maxRecDepth 100000 in
set_option maxHeartbeats 4000000 in
theorem enc_any {B0 : Nat} (tb : Nat) (l : List La) (w : World) (h : Tb B0 w tb l) (hok : TabOk l) : Calls Tryz.prog 86 #[.pointer (some ⟨tb, 0, none⟩)] w fun e w' => e = .returned (.string (M.B (encL l))) ∧ Below w.heap.size w w' := by
  obtain ⟨V, hV⟩ : ∃ V, Hid (V = w.alloc (.cells #[.pointer none, .slice none 0 0] 176)) := ⟨_, Lib.hid rfl⟩
  have hb0 : Below w.heap.size w V := by rw [hV.out]; exact grewAlloc (Below.refl _ _) _
  have hD0 : Bd w.heap.size w.heap.size [] V := by rw [hV.out]; exact Bd.fresh w
  have hpr := prods_any tb l V (h.below hb0) hok.rise (by have := hok.few; omega)
  unfold ProdsP at hpr
  obtain ⟨bd, hbd⟩ : ∃ q, Hid (w.heap.size = q) := ⟨_, Lib.hid rfl⟩
  have hD0' : Bd w.heap.size bd [] V := by rw [← hbd.out]; rw [hbd.out]; rw [hbd.out] at hD0; exact hD0
  have hln : (keysL l).length = l.length := by unfold keysL; rw [List.length_map]
  have hfew := hok.few
  obtain ⟨N, hN⟩ : ∃ N, Hid (l.length = N) := ⟨_, Lib.hid rfl⟩
  rw [hN.out] at hpr hln hfew
  have hencl : M.B (encL l) = M.B (chain (N : Int) ++ encB (l.take N)) := by unfold encL; rw [hN.out, List.take_of_length_le (by have := hN.out; omega)]
  rw [hencl]
  have hmo : Hid (∀ k, (chain (N : Int) ++ encB (l.take k)).length ≤ 1000) := Lib.hid (fun k => by
    have h1 : (chain (N : Int)).length ≤ 10 := (chF_length 9 _).2
    have h2 := encB_len (l.take k)
    have h3 : (l.take k).length ≤ 16 := by rw [List.length_take]; have := hN.out; omega
    rw [List.length_append]
    omega)
  have eg : ∀ args W, (callFunc 108 args).run Tryz.prog W = .ok (.enter 108 args) W := fun _ _ => by kernel_rfl
  replace h := Lib.hid h
  replace hb0 := Lib.hid hb0
  replace hok := Lib.hid hok
  replace hpr := Lib.hid hpr
  replace hD0' := Lib.hid hD0'
  clear hD0 hencl
  go_enter Tryz.func86, Tryz.ntmps86
  go_upto_region 2 with fail
  rw [← show V = _ from hV.out, hbd.out]
  clear hV
  go_wp2_with fail
  refine hpr.out.mono ?_
  rintro e w1 ⟨A, c, rfl, how, hb1⟩
  have hD1 := Lib.hid (hD0'.out.below hb1)
  have hB1 := grew hb0.out hb1
  have hrow := Lib.hid (rowI_own how hln)
  have hs1 : w.heap.size ≤ w1.heap.size := hB1.size
  have he1 := Lib.hid (enc1_any w.heap.size bd [] (N : Int) w1 hD1.out (by omega) (by omega) (by simp) hs1)
  replace hB1 := Lib.hid hB1
  have how' := Lib.hid how
  clear how hpr hD0' hb1 hb0 hD1
  go_wp2_with fail
  refine he1.out.mono ?_
  rintro e w2 ⟨rfl, hD2, hb2, hk2⟩
  rw [List.nil_append] at hD2
  have hrow2 := hrow.out.kt hk2
  have hB2 := hB1.out.trans hb2
  have hS : Hid (Bd w.heap.size bd (chain (N : Int) ++ encB (l.take 0)) w2 ∧ Below w.heap.size w w2 ∧ RowI w2 A (keysL l)) := Lib.hid ⟨by simpa [encB] using hD2, hB2, hrow2⟩
  clear he1 hD2 hb2 hk2 hrow2 hB2 hrow how' hB1
  go_wp2_with fail
  go_loopg [18] N (fun ga i wr => ∃ k : Nat, k ≤ N ∧ N ≤ k + ga ∧ i = .int .i64 k ∧ Hid (Bd w.heap.size bd (chain (N : Int) ++ encB (l.take k)) wr ∧ Below w.heap.size w wr ∧ RowI wr A (keysL l)))
  case atStart => exact ⟨0, by omega, by omega, rfl, hS⟩
  case round =>
    clear hS
    obtain ⟨k, hk, hg, rfl, hrel⟩ := hrel
    generalize wr = wo at *
    obtain ⟨hD, hB, hR⟩ := hrel.out
    clear hrel
    have hsz := hB.size
    by_cases hlt : k < N
    · obtain ⟨x, hx⟩ : ∃ x, l[k]? = some x := ⟨_, List.getElem?_eq_getElem (by have := hN.out; omega)⟩
      have hxok := hok.out.ok x (List.mem_of_getElem? hx)
      obtain ⟨⟨p0, p1⟩, ⟨s0, s1⟩, ⟨n0, n1⟩, ⟨o0, o1⟩⟩ := id hxok
      have hwf := wf_prod p0 p1
      have hgv := getV_at hok.out.rise hx
      have htk := encB_take hx
      obtain ⟨g, rfl, cg⟩ := hR.cell (k := k) (x := x.p) (by unfold keysL; rw [List.getElem?_map, hx]; rfl)
      obtain ⟨m, ht⟩ := h.out.below hB
      have ct : wo.cell? ⟨tb, 0, none⟩ = some (.map m) := ht.box.cell 0
      have hlk := ht.map.look hwf
      rw [hgv] at hlk
      have hl0 := hmo.out k
      have hl1 := hmo.out (k + 1)
      rw [htk] at hl1
      have hlen4 : ∀ a b c d : List UInt8, (a ++ b).length ≤ (a ++ (b ++ (c ++ d))).length := fun a b c d => by simp only [List.length_append]; omega
      obtain ⟨W1, hW1⟩ : ∃ V, Hid (V = wo.alloc (.cells #[.int .i64 x.s, .int .i64 x.n, .int .i64 x.o] 184)) := ⟨_, Lib.hid rfl⟩
      have hb1 : Below wo.heap.size wo W1 := by rw [hW1.out]; exact grewAlloc (Below.refl _ _) _
      have hX : Whole W1 wo.heap.size 184 [.int .i64 x.s, .int .i64 x.n, .int .i64 x.o] := by rw [hW1.out]; exact Whole.new wo _ _
      obtain ⟨q, hq⟩ : ∃ q, Hid (wo.heap.size = q) := ⟨_, Lib.hid rfl⟩
      rw [hq.out] at hX
      have hD1 := hD.below hb1
      have hR1 := hR.below hb1
      have hB1 : Below w.heap.size w W1 := hB.trans (hb1.mono hsz)
      obtain ⟨L0, hL0⟩ : ∃ L, Hid (chain (N : Int) ++ encB (l.take k) = L) := ⟨_, Lib.hid rfl⟩
      rw [hL0.out] at hD1 hl0
      have htk2 : chain (N : Int) ++ encB (l.take (k + 1)) = (((L0 ++ chain x.p) ++ chain x.s) ++ chain x.n) ++ chain x.o := by
        rw [htk, ← hL0.out]
        unfold entB
        simp only [List.append_assoc]
      have h10 := fun n : Int => (show (chain n).length ≤ 10 from (chF_length 9 n).2)
      have hs1' : w.heap.size ≤ W1.heap.size := hB1.size
      have k1 := Lib.hid (enc1_any w.heap.size bd L0 x.p W1 hD1 (by omega) p1 (by omega) hs1')
      replace hX := Lib.hid hX
      replace hR1 := Lib.hid hR1
      replace hB1 := Lib.hid hB1
      replace htk2 := Lib.hid htk2
      replace hx := Lib.hid hx
      replace hgv := Lib.hid hgv
      replace hl0 := Lib.hid hl0
      replace h10 := Lib.hid h10
      clear ht hD hR hB hxok htk hl1 hlen4 hb1 hD1
      have hki : (k : Int) < (N : Int) := by omega
      go_upto_region 9 with fail
      rw [← show W1 = _ from hW1.out, hq.out]
      clear hW1 hq ct cg hlk
      go_wp2_with fail
      refine k1.out.mono ?_
      rintro e v1 ⟨rfl, hD2, hb2, hk2⟩
      have hX2 := Lib.hid (hk2 _ _ _ hX.out (by decide) (by decide))
      have hR2 := Lib.hid (hR1.out.kt hk2)
      have hB2 := Lib.hid (hB1.out.trans hb2)
      have hs2 : w.heap.size ≤ v1.heap.size := hB2.out.size
      have k2 := Lib.hid (enc1_any w.heap.size bd _ x.s v1 hD2 s0 s1 (by have a1 := hl0.out; have a2 := h10.out x.p; rw [List.length_append]; omega) hs2)
      have q0 : v1.cell? ⟨q, 0, none⟩ = some (.int .i64 x.s) := hX2.out.cell 0
      clear k1 hD2 hb2 hk2 hX hR1 hB1
      go_wp2_with fail
      refine k2.out.mono ?_
      rintro e v2 ⟨rfl, hD3, hb3, hk3⟩
      have hX3 := Lib.hid (hk3 _ _ _ hX2.out (by decide) (by decide))
      have hR3 := Lib.hid (hR2.out.kt hk3)
      have hB3 := Lib.hid (hB2.out.trans hb3)
      have hs3 : w.heap.size ≤ v2.heap.size := hB3.out.size
      have k3 := Lib.hid (enc1_any w.heap.size bd _ x.n v2 hD3 (by omega) (by omega) (by have a1 := hl0.out; have a2 := h10.out x.p; have a3 := h10.out x.s; rw [List.length_append, List.length_append]; omega) hs3)
      have q1 : v2.cell? ⟨q, 1, none⟩ = some (.int .i64 x.n) := hX3.out.cell 1
      clear k2 hD3 hb3 hk3 hX2 hR2 hB2 q0
      go_wp2_with fail
      refine k3.out.mono ?_
      rintro e v3 ⟨rfl, hD4, hb4, hk4⟩
      have hX4 := Lib.hid (hk4 _ _ _ hX3.out (by decide) (by decide))
      have hR4 := Lib.hid (hR3.out.kt hk4)
      have hB4 := Lib.hid (hB3.out.trans hb4)
      have hs4 : w.heap.size ≤ v3.heap.size := hB4.out.size
      have k4 := Lib.hid (enc1_any w.heap.size bd _ x.o v3 hD4 (by omega) (by omega) (by have a1 := hl0.out; have a2 := h10.out x.p; have a3 := h10.out x.s; have a4 := h10.out x.n; rw [List.length_append, List.length_append, List.length_append]; omega) hs4)
      have q2 : v3.cell? ⟨q, 2, none⟩ = some (.int .i64 x.o) := hX4.out.cell 2
      clear k3 hD4 hb4 hk4 hX3 hR3 hB3 q1
      go_wp2_with fail
      refine k4.out.mono ?_
      rintro e v4 ⟨rfl, hD5, hb5, hk5⟩
      rw [← htk2.out] at hD5
      have hfin := Lib.hid (And.intro hD5 (And.intro (hB4.out.trans hb5) (hR4.out.kt hk5)))
      clear k4 hD5 hb5 hk5 hX4 hR4 hB4 q2
      go_wp2_with fail
      go_roundg (gk - 1)
      case measure => omega
      case rel => exact ⟨k + 1, by omega, by omega, by go_num, hfin⟩
    · obtain rfl : k = N := by omega
      have hst := Lib.hid (hD.string hsz)
      replace hB := Lib.hid hB
      clear hD hR
      go_wp2_with fail
      refine hst.out.mono ?_
      rintro e v1 ⟨rfl, _, hb2⟩
      have hB2 := Lib.hid (hB.out.trans hb2)
      clear hst hB hb2
      go_wp2_with fail
      go_ret
      exact ⟨rfl, hB2.out⟩
end Go.Proofs.YtgogackkeodciaaGreat.W
end
