/- A log that is read: has, find, Base of any; the numbers of its segments. A log that is read: From, Read. A log that is read: Read, Segments. A log beside its view, its pool and blocks: what Append leaves of it. -/
import Derived.Test.YtgogackkeodciabGreatDoorLgA
import Derived.Test.YtgogackkeodciabGreatDoorMinMax
section
namespace Go.Proofs.YtgogackkeodciabGreatDoor.W
open Go.RowKit Go.Sort
open Go.Proofs.YtgogackkeodciabGreatDoor.M Go.Proofs.YtgogackkeodciabGreatDoor.D Go.Proofs.YtgogackkeodciabGreatDoor.Z
set_option linter.unusedVariables false

/-- Segments one behind the other: from a number on, up to one. -/
def Chain : List Sr → Nat → Nat → Prop
  | [], b, nx => b = nx
  | r :: l, b, nx => r.b = b ∧ Chain l (b + r.fs.length) nx
theorem Chain.le : ∀ {l : List Sr} {b nx : Nat}, Chain l b nx → b ≤ nx
  | [], b, nx, h => Nat.le_of_eq h
  | r :: l, b, nx, h => by have := Chain.le h.2; omega
theorem Chain.at_ : ∀ {l : List Sr} {b nx i : Nat} {r : Sr}, Chain l b nx → l[i]? = some r → b ≤ r.b ∧ r.b + r.fs.length ≤ nx
  | [], b, nx, i, r, h, hi => by simp at hi
  | r0 :: l, b, nx, 0, r, h, hi => by
    obtain rfl : r0 = r := by simpa using hi
    have := Chain.le h.2
    obtain ⟨h1, h2⟩ := h
    omega
  | r0 :: l, b, nx, i + 1, r, h, hi => by
    have := Chain.at_ h.2 (show l[i]? = some r by simpa using hi)
    omega
theorem Chain.two : ∀ {l : List Sr} {b nx i j : Nat} {r s : Sr}, Chain l b nx → l[i]? = some r → l[j]? = some s → i < j → r.b + r.fs.length ≤ s.b
  | [], b, nx, i, j, r, s, h, hi, hj, hij => by simp at hi
  | r0 :: l, b, nx, 0, j + 1, r, s, h, hi, hj, hij => by
    obtain rfl : r0 = r := by simpa using hi
    have := (Chain.at_ h.2 (show l[j]? = some s by simpa using hj)).1
    obtain ⟨h1, h2⟩ := h
    omega
  | r0 :: l, b, nx, i + 1, j + 1, r, s, h, hi, hj, hij => Chain.two h.2 (show l[i]? = some r by simpa using hi) (show l[j]? = some s by simpa using hj) (by omega)
theorem Chain.find : ∀ {l : List Sr} {b nx n : Nat}, Chain l b nx → b ≤ n → n < nx → ∃ (i : Nat) (r : Sr), l[i]? = some r ∧ r.b ≤ n ∧ n < r.b + r.fs.length
  | [], b, nx, n, h, h1, h2 => by have : b = nx := h; omega
  | r :: l, b, nx, n, h, h1, h2 => by
    by_cases hn : n < b + r.fs.length
    · exact ⟨0, r, rfl, by have := h.1; omega, by have := h.1; omega⟩
    · obtain ⟨i, s, k1, k2⟩ := Chain.find h.2 (by omega) h2
      exact ⟨i + 1, s, by simpa using k1, k2⟩
theorem Chain.snoc : ∀ {l : List Sr} {b nx : Nat} {r : Sr}, Chain l b nx → r.b = nx → Chain (l ++ [r]) b (nx + r.fs.length)
  | [], b, nx, r, h, hr => by
    have : b = nx := h
    exact ⟨by omega, by show b + r.fs.length = _; omega⟩
  | r0 :: l, b, nx, r, h, hr => ⟨h.1, Chain.snoc h.2 hr⟩
/-- The number of the first frame. -/
def baseOf (l : List Sr) (nx : Nat) : Nat := match l with
  | [] => nx
  | r :: _ => r.b
theorem Chain.base {l : List Sr} {b nx : Nat} (h : Chain l b nx) : baseOf l nx = b := by
  cases l with
  | nil => exact (show b = nx from h).symm
  | cons r l => exact h.1
/-- A log, as it is read. -/
structure LogAt (w : World) (vb lb pb id gen nx : Nat) (segs : List Sr) (A : Option Addr) (c : Nat) : Prop where
  obj : Whole w lb 82 (lgL vb pb id gen A segs.length c nx)
  row : ∀ (i : Nat) (r : Sr), segs[i]? = some r → ∃ q, A = some ⟨q, 0, none⟩ ∧ w.cell? ⟨q, i, none⟩ = some (ptV r.sb)
  sg : ∀ r ∈ segs, Sg w r.sb vb r.n r.a r.g r.s r.b r.la r.lc r.fs (plc r.fs) r.sl
  ok : ∀ r ∈ segs, r.Ok
  small : segs.length ≤ 1000
  ne : ∀ r ∈ segs, r.fs ≠ []
  room : segs.length ≤ c ∧ c ≤ maxLen
  chain : Chain segs (baseOf segs nx) nx
  top : nx ≤ 1099511628776
section
variable {w w' : World} {vb lb pb id gen nx : Nat} {segs : List Sr} {A : Option Addr} {c : Nat}
theorem LogAt.below (h : LogAt w vb lb pb id gen nx segs A c) (hb : Below w.heap.size w w') : LogAt w' vb lb pb id gen nx segs A c :=
  ⟨h.obj.below hb h.obj.lt, fun i r hr => by
    obtain ⟨q, e, hc⟩ := h.row i r hr
    exact ⟨q, e, keepCell hb hc⟩, fun r hr => (h.sg r hr).below hb, h.ok, h.small, h.ne, h.room, h.chain, h.top⟩
theorem LogAt.few (h : LogAt w vb lb pb id gen nx segs A c) {r : Sr} (hr : r ∈ segs) : r.fs.length ≤ 16 := by
  have h1 := (h.ok r hr).fits
  have h2 := plc_len r.fs
  omega
theorem LogAt.low (h : LogAt w vb lb pb id gen nx segs A c) {i : Nat} {r : Sr} (hr : segs[i]? = some r) : r.b + r.fs.length ≤ nx := (h.chain.at_ hr).2
set_option maxRecDepth 100000 in
theorem lbase_any (h : LogAt w vb lb pb id gen nx segs A c) :
    Calls Tryz.prog 30 #[.pointer (some ⟨lb, 0, none⟩)] w fun e w' => e = .returned (.int .i64 ((baseOf segs nx : Nat) : Int)) ∧ Below w.heap.size w w' := by
  cases segs with
  | nil => exact (base_none lb c A _ w (h.obj.cell 4) (h.obj.cell 5)).mono fun e w' ⟨r1, r2⟩ => ⟨r1, r2 ▸ Below.refl _ _⟩
  | cons r l =>
    obtain ⟨q, e, hc⟩ := h.row 0 r rfl
    have h4 := h.obj.cell 4
    rw [e] at h4
    exact base_some lb q (l.length + 1) c r.sb vb r.n r.a r.g r.s r.b (plc r.fs) _ r.sl w (by omega) h4 hc (h.sg r List.mem_cons_self).obj
/-- Is there a frame of this number? -/
def hasB (segs : List Sr) (nx : Nat) (n : Int) : Bool := decide (((baseOf segs nx : Nat) : Int) ≤ n) && decide (n < (nx : Int))
set_option maxRecDepth 100000 in
theorem lhas_any (h : LogAt w vb lb pb id gen nx segs A c) (n : Int) :
    Calls Tryz.prog 55 #[.pointer (some ⟨lb, 0, none⟩), .int .i64 n] w fun e w' => e = .returned (.bool (hasB segs nx n)) ∧ Below w.heap.size w w' := by
  have hba := Lib.hid (lbase_any h)
  have hnx : Hid (∀ V, Below w.heap.size w V → Calls Tryz.prog 31 #[.pointer (some ⟨lb, 0, none⟩)] V fun e w' => e = .returned (.int .i64 (nx : Int)) ∧ V = w') := Lib.hid (fun V hb => next_any lb _ V (keepCell hb (h.obj.cell 5)))
  unfold hasB
  obtain ⟨b, hb⟩ : ∃ b, Hid (baseOf segs nx = b) := ⟨_, Lib.hid rfl⟩
  rw [hb.out] at hba ⊢
  clear h
  by_cases h1 : (b : Int) ≤ n
  · have e1 : decide ((b : Int) ≤ n) = true := by simp [h1]
    rw [e1]
    clear e1
    go_enter Tryz.func55, Tryz.ntmps55
    go_wp2_with fail
    refine hba.out.mono ?_
    rintro _ w1 ⟨rfl, hb1⟩
    go_wp2_with fail
    refine (hnx.out _ hb1).mono ?_
    rintro _ w2 ⟨rfl, rfl⟩
    go_wp2_with fail
    go_ret
    exact ⟨rfl, hb1⟩
  · have e1 : decide ((b : Int) ≤ n) = false := by simp [h1]
    rw [e1]
    clear e1
    go_enter Tryz.func55, Tryz.ntmps55
    go_wp2_with fail
    refine hba.out.mono ?_
    rintro _ w1 ⟨rfl, hb1⟩
    go_wp2_with fail
    go_ret
    exact ⟨rfl, hb1⟩
set_option maxRecDepth 100000 in
set_option maxHeartbeats 4000000 in
theorem find_any (h : LogAt w vb lb pb id gen nx segs A c) (n i : Nat) (r : Sr) (hi : segs[i]? = some r) (h1 : r.b ≤ n) (h2 : n < r.b + r.fs.length) :
    Calls Tryz.prog 56 #[.pointer (some ⟨lb, 0, none⟩), .int .i64 (n : Int)] w fun e w' => e = .returned (.int .i64 (i : Int)) ∧ Below w.heap.size w w' := by
  obtain ⟨q, rfl, _⟩ := h.row i r hi
  have hil : i < segs.length := (List.getElem?_eq_some_iff.1 hi).1
  have hsm := h.small
  have htop := h.top
  have hlo : Hid (∀ (j : Nat) (s : Sr), segs[j]? = some s → j < i → ¬ n < s.b ∧ s.b + s.fs.length ≤ n) := Lib.hid (fun j s hj hji => by
    have := h.chain.two hj hi hji
    omega)
  have hhi : Hid (∀ (j : Nat) (s : Sr), segs[j]? = some s → i < j → n < s.b) := Lib.hid (fun j s hj hji => by
    have := h.chain.two hi hj hji
    omega)
  have hrw : Hid (∀ (j : Nat) (s : Sr), segs[j]? = some s → ∀ V, Below w.heap.size w V → V.cell? ⟨q, j, none⟩ = some (ptV s.sb)) := Lib.hid (fun j s hj V hb => by
    obtain ⟨q', e, hc⟩ := h.row j s hj
    cases e
    exact keepCell hb hc)
  have hhd : Hid (∀ s ∈ segs, ∀ V, Below w.heap.size w V → Calls Tryz.prog 42 #[.pointer (some ⟨s.sb, 0, none⟩)] V fun e w' => e = .returned (.agg #[.int .i64 (s.a : Int), .int .u32 (s.g : Int), .int .u32 (s.s : Int), .int .i64 (s.b : Int)]) ∧ Below V.heap.size V w') := Lib.hid (fun s hs V hb => header_any ((h.sg s hs).below hb).obj)
  have hbh : Hid (∀ (j : Nat) (s : Sr), segs[j]? = some s → ∀ V, Below w.heap.size w V → Calls Tryz.prog 51 #[.pointer (some ⟨s.sb, 0, none⟩)] V fun e w' => e = .returned (.int .i64 ((s.b + s.fs.length : Nat) : Int)) ∧ Below V.heap.size V w') := Lib.hid (fun j s hj V hb => by
    have h3 := h.low hj
    have h4 := h.few (List.mem_of_getElem? hj)
    exact behind_any vb s.sb s.n s.a s.g s.s s.b (plc s.fs) s.la s.fs.length s.lc s.sl V (by omega) (by omega) ((h.sg s (List.mem_of_getElem? hj)).below hb).obj)
  have c4 : Hid (∀ V, Below w.heap.size w V → V.cell? ⟨lb, 4, none⟩ = some (.slice (some ⟨q, 0, none⟩) segs.length c)) := Lib.hid (fun V hb => keepCell hb (h.obj.cell 4))
  obtain ⟨N, hN⟩ : ∃ N, Hid (segs.length = N) := ⟨_, Lib.hid rfl⟩
  rw [hN.out] at c4 hil hsm
  have hD := (Below.refl w.heap.size w).drew
  have c4w := c4.out w (Below.refl _ _)
  have c4d := c4.out w.drew hD
  have hsb : r.b = r.b := rfl
  clear h hsb
  go_enter Tryz.func56, Tryz.ntmps56
  go_wp2_with fail
  go_step3
  go_wp2_with fail
  go_region
  go_wp2_with fail
  go_step3
  go_wp2_with fail
  go_loopg [5, 6, 7] (N + 1) (fun ga f t hf wr => ∃ (fa ta ha : Nat), fa ≤ i ∧ i < ta ∧ ta ≤ N ∧ ta ≤ fa + ga ∧ f = .int .i64 fa ∧ t = .int .i64 ta ∧ hf = .int .i64 ha ∧ Hid (Below w.heap.size w wr))
  case atStart => exact ⟨0, N, 0, by omega, by omega, by omega, by omega, rfl, rfl, rfl, Lib.hid (by first | exact hD | exact Below.refl _ _)⟩
  case round =>
    obtain ⟨fa, ta, ha, k1, k2, k3, k4, rfl, rfl, rfl, hbl⟩ := hrel
    generalize wr = wo at *
    obtain ⟨md, hmd⟩ : ∃ md, Hid ((fa + ta) / 2 = md) := ⟨_, Lib.hid rfl⟩
    have hm1 : fa ≤ md ∧ md < ta := by have := hmd.out; omega
    obtain ⟨s, hs⟩ : ∃ s, segs[md]? = some s := ⟨_, List.getElem?_eq_getElem (by have := hN.out; omega)⟩
    have cc := hrw.out md s hs wo hbl.out
    have c4o := c4.out wo hbl.out
    have hw1 : IntKind.i64.wrap ((fa : Int) + (ta : Int)) = ((fa + ta : Nat) : Int) := by rw [IntWalk.i64_in _ (by omega)]; omega
    have hq3 : ((fa : Int) + (ta : Int)) / 2 = (md : Int) := by have := hmd.out; omega
    have hmn : (md : Int) < (N : Int) := by omega
    have hhs := Lib.hid (hhd.out s (List.mem_of_getElem? hs) wo hbl.out)
    have hbs := Lib.hid (hbh.out md s hs)
    have hfi := fun W => field_base (.int .i64 (s.a : Int)) (.int .u32 (s.g : Int)) (.int .u32 (s.s : Int)) (.int .i64 (s.b : Int)) W
    have hlo1 := fun (hj : md < i) => hlo.out md s hs hj
    have hhi1 := fun (hj : i < md) => hhi.out md s hs hj
    have heq : Hid (md = i → s = r) := Lib.hid (fun e => by rw [e, hi] at hs; exact (Option.some.inj hs).symm)
    replace hs := Lib.hid hs
    replace hlo1 := Lib.hid hlo1
    replace hhi1 := Lib.hid hhi1
    obtain ⟨sbb, hsbb⟩ : ∃ x, Hid (s.b = x) := ⟨_, Lib.hid rfl⟩
    obtain ⟨sbe, hsbe⟩ : ∃ x, Hid (s.b + s.fs.length = x) := ⟨_, Lib.hid rfl⟩
    rw [hsbb.out] at hhs hfi
    rw [hsbe.out] at hbs
    rcases Nat.lt_trichotomy md i with hc | hc | hc
    · obtain ⟨e1, e2⟩ := hlo1.out hc
      rw [hsbb.out] at e1
      rw [hsbe.out] at e2
      have e3 : ¬ (n : Int) < (sbb : Int) := by omega
      have e4 : (sbe : Int) ≤ (n : Int) := by omega
      have hw5 : IntKind.i64.wrap ((md : Int) + 1) = ((md + 1 : Nat) : Int) := by rw [IntWalk.i64_in _ (by omega)]; omega
      clear e1 e2
      go_wp2_with fail
      refine hhs.out.mono ?_
      rintro _ w1 ⟨rfl, hb1⟩
      have hB1 := grew hbl.out hb1
      go_wp2_with fail
      refine (hbs.out _ hB1).mono ?_
      rintro _ w2 ⟨rfl, hb2⟩
      have hB2 := Lib.hid (grew hB1 hb2)
      go_wp2_with fail
      go_roundg (gk - 1)
      case measure => omega
      case rel => exact ⟨md + 1, ta, md, by omega, by omega, by omega, by omega, by go_num, rfl, rfl, hB2⟩
    · have esr := heq.out hc
      have e3 : ¬ (n : Int) < (sbb : Int) := by rw [← hsbb.out, esr]; omega
      have e4 : ¬ (sbe : Int) ≤ (n : Int) := by rw [← hsbe.out, esr]; omega
      clear heq esr hi
      subst hc
      go_wp2_with fail
      refine hhs.out.mono ?_
      rintro _ w1 ⟨rfl, hb1⟩
      have hB1 := grew hbl.out hb1
      go_wp2_with fail
      refine (hbs.out _ hB1).mono ?_
      rintro _ w2 ⟨rfl, hb2⟩
      have hB2 := Lib.hid (grew hB1 hb2)
      go_wp2_with fail
      rw [Exit.noGoto_ret]
      go_ret
      exact ⟨rfl, hB2.out⟩
    · have e1 := hhi1.out hc
      rw [hsbb.out] at e1
      have e3 : (n : Int) < (sbb : Int) := by omega
      clear e1
      go_wp2_with fail
      refine hhs.out.mono ?_
      rintro _ w1 ⟨rfl, hb1⟩
      have hB1 := Lib.hid (grew hbl.out hb1)
      go_wp2_with fail
      go_roundg (gk - 1)
      case measure => omega
      case rel => exact ⟨fa, md, md, by omega, by omega, by omega, by omega, rfl, rfl, rfl, hB1⟩
end
end Go.Proofs.YtgogackkeodciabGreatDoor.W
end
section
namespace Go.Proofs.YtgogackkeodciabGreatDoor.W
open Go.RowKit Go.Sort
open Go.Proofs.YtgogackkeodciabGreatDoor.M Go.Proofs.YtgogackkeodciabGreatDoor.D Go.Proofs.YtgogackkeodciabGreatDoor.Z
set_option linter.unusedVariables false

/-- All frames of segments. -/
def allF (l : List Sr) : List (Int × ByteArray) := l.flatMap (·.fs)
theorem allF_cons (r : Sr) (l : List Sr) : allF (r :: l) = r.fs ++ allF l := rfl
theorem allF_drop {l : List Sr} {i : Nat} {r : Sr} (h : l[i]? = some r) : allF (l.drop i) = r.fs ++ allF (l.drop (i + 1)) := by
  have hi := (List.getElem?_eq_some_iff.1 h).1
  have hr := (List.getElem?_eq_some_iff.1 h).2
  rw [List.drop_eq_getElem_cons hi, hr, allF_cons]
theorem allF_from : ∀ {l : List Sr} {b nx i n : Nat} {r : Sr}, Chain l b nx → l[i]? = some r → r.b ≤ n → (allF l).drop (n - b) = (allF (l.drop i)).drop (n - r.b)
  | [], b, nx, i, n, r, h, hi, hn => by simp at hi
  | r0 :: l, b, nx, 0, n, r, h, hi, hn => by
    obtain rfl : r0 = r := by simpa using hi
    rw [h.1]; rfl
  | r0 :: l, b, nx, i + 1, n, r, h, hi, hn => by
    have hi' : l[i]? = some r := by simpa using hi
    have h1 := (Chain.at_ h.2 hi').1
    rw [List.drop_succ_cons, allF_cons, List.drop_append, List.drop_of_length_le (by omega), List.nil_append, ← allF_from h.2 hi' hn]
    congr 1
    omega
theorem allF_len : ∀ {l : List Sr} {b nx : Nat}, Chain l b nx → b + (allF l).length = nx
  | [], b, nx, h => h
  | r :: l, b, nx, h => by
    have := allF_len h.2
    rw [allF_cons, List.length_append]
    omega
theorem frRows_append (a b : List (Int × ByteArray)) : frRows (a ++ b) = frRows a ++ frRows b := by unfold frRows; rw [List.flatMap_append]
theorem frRows_drop : ∀ (fs : List (Int × ByteArray)) (k : Nat), frRows (fs.drop k) = (frRows fs).drop (k * 2)
  | fs, 0 => rfl
  | [], k + 1 => by simp [frRows]
  | f :: fs, k + 1 => by
    rw [List.drop_succ_cons, frRows_drop fs k]
    show _ = (frRows (f :: fs)).drop ((k + 1) * 2)
    rw [show (k + 1) * 2 = k * 2 + 1 + 1 from by omega]
    rfl
theorem FrAt.take {w : World} {A : Option Addr} {fs : List (Int × ByteArray)} (h : FrAt w A fs) (k : Nat) : FrAt w A (fs.take k) := fun i f hi => by
  rw [List.getElem?_take] at hi
  split at hi
  · exact h i f hi
  · cases hi
theorem own_roomF {W : World} {B n lc : Nat} {la : Option Addr} {rows : List Value} (hn : 0 < n) (h : W.ownsRow B 36 2 (.slice la n lc) n rows) : ∃ gg, la = some ⟨gg, 0, none⟩ ∧ n ≤ lc ∧ lc ≤ maxLen := by
  rcases h.2 with ⟨_, h2⟩ | ⟨g, cap, cur, h1, hB, h2, h3, h4, h5, h6⟩
  · omega
  · injection h1 with e1 e2 e3
    exact ⟨g, e1, by rw [e3]; exact h3, by rw [e3]; exact h4⟩
theorem add_mid' (b o j : Nat) : (⟨b, o, none⟩ : Addr).add j = ⟨b, o + j, none⟩ := by unfold Addr.add; split <;> simp_all
theorem grownOfB {a w : World} (h : Below a.heap.size a w) (row : Option Nat) : a.grownBy w row := ⟨h.os, h.tape, h.output, h.size, fun i hi _ => h.block i hi⟩
theorem clip_any (a : Addr) (n c : Nat) (w : World) (h : n ≤ c) (hc : c ≤ maxLen) :
    Calls Tryz.prog 58 #[.slice (some a) n c] w fun e w' => e = .returned (.slice (some a) n n) ∧ w = w' := by
  go_enter Tryz.func58, Tryz.ntmps58
  go_wp2_with fail
  go_ret
  exact ⟨rfl, rfl⟩
section
variable {w w' : World} {vb lb pb id gen nx : Nat} {segs : List Sr} {A : Option Addr} {c : Nat}
theorem from_no (h : LogAt w vb lb pb id gen nx segs A c) (n most : Int) (hno : hasB segs nx n = false ∨ most < 1) :
    Calls Tryz.prog 29 #[.pointer (some ⟨lb, 0, none⟩), .int .i64 n, .int .i64 most] w fun e w' => e = .returned (.slice none 0 0) ∧ Below w.heap.size w w' := by
  have hh := lhas_any h n
  clear h
  cases hb : hasB segs nx n with
  | false =>
    rw [hb] at hh
    replace hh := Lib.hid hh
    clear hno hb
    go_enter Tryz.func29, Tryz.ntmps29
    go_wp2_with fail
    refine hh.out.mono ?_
    rintro _ w1 ⟨rfl, hb1⟩
    replace hb1 := Lib.hid hb1
    go_wp2_with fail
    go_ret
    exact ⟨rfl, hb1.out⟩
  | true =>
    have hm : most < 1 := by
      rcases hno with e | e
      · rw [hb] at e; cases e
      · exact e
    rw [hb] at hh
    replace hh := Lib.hid hh
    clear hno hb
    go_enter Tryz.func29, Tryz.ntmps29
    go_wp2_with fail
    refine hh.out.mono ?_
    rintro _ w1 ⟨rfl, hb1⟩
    replace hb1 := Lib.hid hb1
    go_wp2_with fail
    go_ret
    exact ⟨rfl, hb1.out⟩
set_option maxRecDepth 100000 in
set_option maxHeartbeats 4000000 in
theorem from_yes (h : LogAt w vb lb pb id gen nx segs A c) (n mz : Nat) (hn1 : baseOf segs nx ≤ n) (hn2 : n < nx) (hm1 : 1 ≤ mz) (hm2 : mz ≤ 9223372036854775807) :
    Calls Tryz.prog 29 #[.pointer (some ⟨lb, 0, none⟩), .int .i64 (n : Int), .int .i64 (mz : Int)] w fun e w' => ∃ A' L, L = ((allF segs).drop (n - baseOf segs nx)).take mz ∧ e = .returned (.slice A' L.length L.length) ∧ FrAt w' A' L ∧ Below w.heap.size w w' := by
  obtain ⟨i, r, hi, h1, h2⟩ := h.chain.find hn1 hn2
  have hil : i < segs.length := (List.getElem?_eq_some_iff.1 hi).1
  have hsm := h.small
  have htop := h.top
  obtain ⟨hrm, hrc⟩ := h.room
  have hrl := h.low hi
  have hlen : (allF segs).length ≤ 1099511628776 := by have := allF_len h.chain; omega
  have hfr := allF_from h.chain hi h1
  obtain ⟨q, rfl, _⟩ := h.row i r hi
  have hfew : Hid (∀ s ∈ segs, s.fs.length ≤ 16 ∧ 0 < s.fs.length) := Lib.hid (fun s hs => ⟨h.few hs, List.length_pos_iff.2 (h.ne s hs)⟩)
  have hrw : Hid (∀ (j : Nat) (s : Sr), segs[j]? = some s → ∀ V, Below w.heap.size w V → V.cell? ⟨q, j, none⟩ = some (ptV s.sb)) := Lib.hid (fun j s hj V hb => by
    obtain ⟨q', e, hc⟩ := h.row j s hj
    cases e
    exact keepCell hb hc)
  have hhs : Hid (Calls Tryz.prog 55 #[.pointer (some ⟨lb, 0, none⟩), .int .i64 (n : Int)] w fun e w' => e = .returned (.bool true) ∧ Below w.heap.size w w') := Lib.hid (by
    have := lhas_any h (n : Int)
    rwa [show hasB segs nx (n : Int) = true from by unfold hasB; simp [hn1, hn2]] at this)
  have hfd : Hid (∀ V, Below w.heap.size w V → Calls Tryz.prog 56 #[.pointer (some ⟨lb, 0, none⟩), .int .i64 (n : Int)] V fun e w' => e = .returned (.int .i64 (i : Int)) ∧ Below V.heap.size V w') := Lib.hid (fun V hb => find_any (h.below hb) n i r hi h1 h2)
  have hhd : Hid (∀ V, Below w.heap.size w V → Calls Tryz.prog 42 #[.pointer (some ⟨r.sb, 0, none⟩)] V fun e w' => e = .returned (.agg #[.int .i64 (r.a : Int), .int .u32 (r.g : Int), .int .u32 (r.s : Int), .int .i64 (r.b : Int)]) ∧ Below V.heap.size V w') := Lib.hid (fun V hb => header_any ((h.sg r (List.mem_of_getElem? hi)).below hb).obj)
  have hfs : Hid (∀ s ∈ segs, ∀ V, Below w.heap.size w V → Calls Tryz.prog 57 #[.pointer (some ⟨s.sb, 0, none⟩)] V fun e w' => ∃ va' c', e = .returned (.slice va' s.fs.length c') ∧ w'.ownsRow V.heap.size 36 2 (.slice va' s.fs.length c') s.fs.length (frRows s.fs) ∧ Below V.heap.size V w') := Lib.hid (fun s hs V hb => frames_any ((h.sg s hs).below hb) (by have := h.few hs; omega))
  have c4 : Hid (∀ V, Below w.heap.size w V → V.cell? ⟨lb, 4, none⟩ = some (.slice (some ⟨q, 0, none⟩) segs.length c)) := Lib.hid (fun V hb => keepCell hb (h.obj.cell 4))
  obtain ⟨TOT, hTOT⟩ : ∃ T, Hid ((allF (segs.drop i)).drop (n - r.b) = T) := ⟨_, Lib.hid rfl⟩
  rw [hfr, hTOT.out]
  have hTl : TOT.length ≤ 1099511628776 := by rw [← hTOT.out, ← hfr, List.length_drop]; omega
  obtain ⟨N, hN⟩ : ∃ N, Hid (segs.length = N) := ⟨_, Lib.hid rfl⟩
  rw [hN.out] at c4 hil hsm hrm
  have hfi := fun W => field_base (.int .i64 (r.a : Int)) (.int .u32 (r.g : Int)) (.int .u32 (r.s : Int)) (.int .i64 (r.b : Int)) W
  have hwk : IntKind.i64.wrap ((n : Int) - (r.b : Int)) = ((n - r.b : Nat) : Int) := by rw [IntWalk.i64_in _ (by omega)]; omega
  obtain ⟨sk0, hsk0⟩ : ∃ x, Hid (n - r.b = x) := ⟨_, Lib.hid rfl⟩
  rw [hsk0.out] at hwk
  have hsk1 : sk0 < r.fs.length := by have := hsk0.out; omega
  obtain ⟨rb, hrb⟩ : ∃ x, Hid (r.b = x) := ⟨_, Lib.hid rfl⟩
  rw [hrb.out] at hhd hfi hwk
  obtain ⟨i0, hi0, hz0, hz1, hz2⟩ := info_parts infoFrame
  have hmI : ¬ (mz : Int) < 1 := by omega
  clear h hfr h1 h2 hrl hlen hn1 hn2
  go_enter Tryz.func29, Tryz.ntmps29
  go_wp2_with fail
  refine hhs.out.mono ?_
  rintro _ w1 ⟨rfl, hb1⟩
  go_wp2_with fail
  refine (hfd.out _ hb1).mono ?_
  rintro _ w2 ⟨rfl, hb2⟩
  have hB2 := grew hb1 hb2
  have d4 := c4.out w2 hB2
  have dq := hrw.out i r hi w2 hB2
  have hiN : (i : Int) < (N : Int) := by omega
  have hh2 := Lib.hid (hhd.out w2 hB2)
  go_wp2_with fail
  refine hh2.out.mono ?_
  rintro _ w3 ⟨rfl, hb3⟩
  have hB3 := Lib.hid (grew hB2 hb3)
  have e4 := c4.out w3 hB3.out
  have hiN2 : i ≤ N := by omega
  have hNc : N ≤ c := hrm
  clear d4 dq hb3 hb2 hb1 hB2
  go_wp2_with fail
  obtain ⟨M, hM⟩ : ∃ M, Hid (N - i = M) := ⟨_, Lib.hid rfl⟩
  rw [hM.out]
  have hMp : 0 < M := by have := hM.out; omega
  have hst : Hid (([] : List (Int × ByteArray)) ++ (allF (segs.drop (i + 0))).drop sk0 = TOT) := Lib.hid (by rw [← hTOT.out, hsk0.out]; rfl)
  clear e4 hhd hh2 hfd hhs hTOT
  go_loopg [7, 9, 41] M (fun ga v sk ix wr => ∃ (k a cc : Nat) (A' : Option Addr) (acc : List (Int × ByteArray)) (s : Nat), k ≤ M ∧ M ≤ k + ga ∧ ix = .int .i64 k ∧ v = .slice A' a cc ∧ sk = .int .i64 s ∧
    Hid (acc.length = a ∧ wr.ownsRow w.heap.size 36 2 (.slice A' a cc) a (frRows acc) ∧ acc ++ (allF (segs.drop (i + k))).drop s = TOT ∧ ((k = 0 ∧ s = sk0) ∨ (0 < k ∧ s = 0 ∧ 0 < a)) ∧ Below w.heap.size w wr))
  case atStart => exact ⟨0, 0, 0, none, [], sk0, by omega, by omega, rfl, rfl, rfl, Lib.hid ⟨rfl, own_nil, hst.out, .inl ⟨rfl, rfl⟩, hB3.out⟩⟩
  case round =>
    clear hst
    obtain ⟨k, a, cc, A', acc, s, hk, hgk, rfl, rfl, rfl, hrel⟩ := hrel
    obtain ⟨hal, hown, hTo, hks, hbl⟩ := hrel.out
    generalize wr = wo at *
    by_cases hlt : k < M
    · obtain ⟨t, ht⟩ : ∃ t, segs[i + k]? = some t := ⟨_, List.getElem?_eq_getElem (by have := hM.out; have := hN.out; omega)⟩
      have cq := hrw.out (i + k) t ht wo hbl
      by_cases hge : mz ≤ a
      · have hgeI : (mz : Int) ≤ (a : Int) := by omega
        have hpos : 0 < a := by omega
        obtain ⟨gg, rfl, hr1, hr2⟩ := own_roomF hpos hown
        have hfa := frAt_own hown hal
        obtain ⟨P, hP⟩ : ∃ P, Hid (min mz a = P) := ⟨_, Lib.hid rfl⟩
        have hPc : P ≤ cc := by have := hP.out; omega
        have hmin : min (mz : Int) (a : Int) = ((P : Nat) : Int) := by have := hP.out; omega
        have hL : TOT.take mz = acc.take mz := by rw [← hTo, List.take_append_of_le_length (by omega)]
        have hLl : (acc.take mz).length = P := by rw [List.length_take, hal]; exact hP.out
        have hfin : Hid (FrAt wo (some ⟨gg, 0, none⟩) (acc.take mz)) := Lib.hid (hfa.take mz)
        replace hbl := Lib.hid hbl
        have hcl := Lib.hid (clip_any ⟨gg, 0, none⟩ P cc wo hPc hr2)
        replace hL := Lib.hid hL
        clear hown hTo hfa hP
        go_wp2_with (with_reducible refine zMin _ _ _ _ rfl ?_)
        refine Lib.hid ?_
        refine zwMin rfl _ _ _ _ rfl (mz : Int) (a : Int) rfl rfl ?_
        rw [hmin]
        go_wp2_with fail
        refine hcl.out.mono ?_
        rintro _ w9 ⟨rfl, rfl⟩
        go_wp2_with fail
        go_ret
        exact ⟨_, acc.take mz, hL.out.symm, by rw [hLl]; rfl, hfin.out, hbl.out⟩
      · have hgeI : ¬ (mz : Int) ≤ (a : Int) := by omega
        have hk5 : k ≤ 1000 := by have := hM.out; omega
        obtain ⟨hf1, hf2⟩ := hfew.out t (List.mem_of_getElem? ht)
        have hsl : s < t.fs.length := by
          rcases hks with ⟨e1, e2⟩ | ⟨e1, e2, _⟩
          · subst e1
            rw [Nat.add_zero, hi] at ht
            cases ht
            omega
          · omega
        have hfr := Lib.hid (hfs.out t (List.mem_of_getElem? ht) wo hbl)
        have hnx : acc ++ t.fs.drop s ++ (allF (segs.drop (i + (k + 1)))).drop 0 = TOT := by
          rw [← hTo, allF_drop ht, List.drop_append, Nat.sub_eq_zero_of_le (Nat.le_of_lt hsl), List.append_assoc]
          rfl
        have hab : a + (t.fs.length - s) ≤ TOT.length := by
          rw [← hnx, List.length_append, List.length_append, List.length_drop, hal]
          omega
        obtain ⟨nf, hnf⟩ : ∃ nf, Hid (t.fs.length = nf) := ⟨_, Lib.hid rfl⟩
        rw [hnf.out] at hfr hsl hab
        replace hown := Lib.hid hown
        replace hnx := Lib.hid hnx
        replace hbl := Lib.hid hbl
        clear hTo hrel
        go_wp2_with fail
        refine hfr.out.mono ?_
        rintro _ w5 ⟨va, vc, rfl, hrow5, hb5⟩
        obtain ⟨g, rfl, hg1, hg2, hg3⟩ := own_news (by omega) hrow5
        obtain ⟨g2, eg2, hr1, hr2⟩ := own_roomF (by omega) hrow5
        clear eg2
        have hown5 := hown.out.kept (grownOfB hb5 none) (Classical.em _)
        have hB5 := grew hbl.out hb5
        have hs5 := hB5.size
        have hsn : s ≤ nf := by omega
        replace hown5 := Lib.hid hown5
        clear hown hfr hrow5
        go_wp2_with (with_reducible refine zAppend _ _ _ rfl ?_)
        refine Lib.hid ?_
        have hrows : ∀ j u, (frRows (t.fs.drop s))[j]? = some u → w5.cell? ((⟨g, 0 + s * 2, none⟩ : Addr).add j) = some u := fun j u hju => by
          rw [frRows_drop, List.getElem?_drop] at hju
          have h9 := hg3 (s * 2 + j) u hju
          rw [add_mid'] at h9 ⊢
          rw [show 0 + s * 2 + j = 0 + (s * 2 + j) from by omega]
          exact h9
        rw [Nat.zero_add] at hrows
        refine wpList_append_lies _ rfl _ _ 22 rfl w.heap.size 36 i0 _ 2 24 Tryz.underlying22 hi0 hz0 hz1 hz2 rfl (by omega) (.slice A' a cc) a (frRows acc) rfl hown5.out _ (nf - s) _ (frRows (t.fs.drop s)) rfl (by rw [frRows_len, List.length_drop, hnf.out]) hrows (frRows_one _) (by omega) (by unfold maxLen; omega) (by omega) hs5 w5.heap.size rfl ?_
        intro gg cap w6 hown6 hgrow6 hat6 hlt6
        have hk6 : Kept (fun q => w.heap.size ≤ q) w w6 := (Kept.of_below hB5).grown hgrow6 (fun q hq => .inl (ownFar hown5.out q hq))
        have hB6 : Below w.heap.size w w6 := hk6.below (Nat.le_refl _) (fun _ h => h)
        rw [← frRows_append] at hown6
        have hend : Hid ((acc ++ t.fs.drop s).length = a + (nf - s) ∧ w6.ownsRow w.heap.size 36 2 (.slice (some ⟨gg, 0, none⟩) (a + (nf - s)) cap) (a + (nf - s)) (frRows (acc ++ t.fs.drop s)) ∧ acc ++ t.fs.drop s ++ (allF (segs.drop (i + (k + 1)))).drop 0 = TOT ∧ ((k + 1 = 0 ∧ 0 = sk0) ∨ (0 < k + 1 ∧ 0 = 0 ∧ 0 < a + (nf - s))) ∧ Below w.heap.size w w6) :=
          Lib.hid ⟨by rw [List.length_append, List.length_drop, hal, hnf.out], hown6, hnx.out, .inr ⟨by omega, rfl, by omega⟩, hB6⟩
        clear hown6 hgrow6 hk6 hB6 hat6
        go_wp2_with fail
        go_roundg (gk - 1)
        case measure => omega
        case rel => exact ⟨k + 1, a + (nf - s), cap, some ⟨gg, 0, none⟩, acc ++ t.fs.drop s, 0, by omega, by omega, by go_num, rfl, rfl, Lib.hid ⟨hend.out.1, hend.out.2.1, hend.out.2.2.1, .inr ⟨by omega, rfl, by omega⟩, hend.out.2.2.2.2⟩⟩
    · obtain rfl : k = M := by omega
      have hend : allF (segs.drop (i + k)) = [] := by
        rw [List.drop_of_length_le (by have := hM.out; have := hN.out; omega)]
        rfl
      rw [hend] at hTo
      have hpos : 0 < a := by omega
      obtain ⟨gg, rfl, hr1, hr2⟩ := own_roomF hpos hown
      have hfa := frAt_own hown hal
      obtain ⟨P, hP⟩ : ∃ P, Hid (min mz a = P) := ⟨_, Lib.hid rfl⟩
      have hPc : P ≤ cc := by have := hP.out; omega
      have hmin : min (mz : Int) (a : Int) = ((P : Nat) : Int) := by have := hP.out; omega
      have hL : TOT.take mz = acc.take mz := by rw [← hTo, List.drop_nil, List.append_nil]
      have hLl : (acc.take mz).length = P := by rw [List.length_take, hal]; exact hP.out
      have hfin : Hid (FrAt wo (some ⟨gg, 0, none⟩) (acc.take mz)) := Lib.hid (hfa.take mz)
      replace hbl := Lib.hid hbl
      have hcl := Lib.hid (clip_any ⟨gg, 0, none⟩ P cc wo hPc hr2)
      replace hL := Lib.hid hL
      clear hown hTo hfa hP
      go_wp2_with (with_reducible refine zMin _ _ _ _ rfl ?_)
      refine Lib.hid ?_
      refine zwMin rfl _ _ _ _ rfl (mz : Int) (a : Int) rfl rfl ?_
      rw [hmin]
      go_wp2_with fail
      refine hcl.out.mono ?_
      rintro _ w9 ⟨rfl, rfl⟩
      go_wp2_with fail
      go_ret
      exact ⟨_, acc.take mz, hL.out.symm, by rw [hLl]; rfl, hfin.out, hbl.out⟩
end
end Go.Proofs.YtgogackkeodciabGreatDoor.W
end
section
namespace Go.Proofs.YtgogackkeodciabGreatDoor.W
open Go.RowKit Go.Sort
open Go.Proofs.YtgogackkeodciabGreatDoor.M Go.Proofs.YtgogackkeodciabGreatDoor.D Go.Proofs.YtgogackkeodciabGreatDoor.Z
set_option linter.unusedVariables false
section
variable {w w' : World} {vb lb pb id gen nx : Nat} {segs : List Sr} {A : Option Addr} {c : Nat}
theorem nums_set (l : List Int) (k N : Nat) (v : Int) (hl : l.length = N) (hv : l[k]? = some v) : (l.take k ++ List.replicate (N - k) 0).set k v = l.take (k + 1) ++ List.replicate (N - (k + 1)) 0 := by
  have hk : k < N := by rw [← hl]; exact (List.getElem?_eq_some_iff.1 hv).1
  have hg := (List.getElem?_eq_some_iff.1 hv).2
  obtain ⟨m, hm⟩ : ∃ m, N - k = m + 1 := ⟨N - k - 1, by omega⟩
  rw [show N - (k + 1) = m from by omega, hm, List.replicate_succ, List.set_append_right _ _ (by simp; omega)]
  rw [List.take_add_one, List.getElem?_eq_getElem (by omega), Option.toList_some, List.append_assoc]
  congr 1
  have e : k - (List.take k l).length = 0 := by rw [List.length_take]; omega
  rw [e, List.set_cons_zero]
  simp [hg]
set_option maxRecDepth 100000 in
set_option maxHeartbeats 4000000 in
theorem segments_any (h : LogAt w vb lb pb id gen nx segs A c) (h64 : segs.length ≤ 64) :
    Calls Tryz.prog 32 #[.pointer (some ⟨lb, 0, none⟩)] w fun e w' => ∃ g, e = .returned (.slice (some ⟨g, 0, none⟩) segs.length segs.length) ∧ Whole w' g 3 (rowP (segs.map fun r => (r.n : Int))) ∧ w.heap.size ≤ g ∧ Below w.heap.size w w' := by
  have hrw : Hid (∀ (j : Nat) (s : Sr), segs[j]? = some s → ∃ q, A = some ⟨q, 0, none⟩ ∧ ∀ V, Below w.heap.size w V → V.cell? ⟨q, j, none⟩ = some (ptV s.sb)) := Lib.hid (fun j s hj => by
    obtain ⟨q', e, hc⟩ := h.row j s hj
    exact ⟨q', e, fun V hb => keepCell hb hc⟩)
  have hnm : Hid (∀ s ∈ segs, ∀ V, Below w.heap.size w V → Calls Tryz.prog 59 #[.pointer (some ⟨s.sb, 0, none⟩)] V fun e w' => e = .returned (.int .i64 (s.n : Int)) ∧ V = w') := Lib.hid (fun s hs V hb => number_any s.sb s.n V (((h.sg s hs).below hb).obj.cell 1))
  have c4 : Hid (∀ V, Below w.heap.size w V → V.cell? ⟨lb, 4, none⟩ = some (.slice A segs.length c)) := Lib.hid (fun V hb => keepCell hb (h.obj.cell 4))
  obtain ⟨NL, hNL⟩ : ∃ l, Hid ((segs.map fun r => (r.n : Int)) = l) := ⟨_, Lib.hid rfl⟩
  have hNl : NL.length = segs.length := by rw [← hNL.out, List.length_map]
  have hNa : Hid (∀ (j : Nat) (s : Sr), segs[j]? = some s → NL[j]? = some (s.n : Int)) := Lib.hid (fun j s hj => by rw [← hNL.out, List.getElem?_map, hj]; rfl)
  obtain ⟨N, hN⟩ : ∃ N, Hid (segs.length = N) := ⟨_, Lib.hid rfl⟩
  rw [hN.out] at c4 h64 hNl ⊢
  rw [hNL.out]
  obtain ⟨cs, hcs, hmk⟩ := make_ints N h64 w
  have hR : Whole (w.alloc (.cells cs 3)) w.heap.size 3 (rowP (List.replicate N 0)) := by
    have h := Whole.new w 3 (rowP (List.replicate N 0))
    rw [← hcs] at h ⊢
    exact h
  have hb1 := allocBelow w (.cells cs 3)
  have d4 := c4.out w (Below.refl _ _)
  have d4' := c4.out _ hb1
  have hst : Hid (Whole (w.alloc (.cells cs 3)) w.heap.size 3 (rowP (NL.take 0 ++ List.replicate (N - 0) 0)) ∧ Below w.heap.size w (w.alloc (.cells cs 3))) := Lib.hid ⟨hR, hb1⟩
  clear h hR hb1 hcs
  go_enter Tryz.func32, Tryz.ntmps32
  go_wp2_with fail
  go_loopg [19] N (fun ga ix wr => ∃ (k : Nat), k ≤ N ∧ N ≤ k + ga ∧ ix = .int .i64 k ∧ Hid (Whole wr w.heap.size 3 (rowP (NL.take k ++ List.replicate (N - k) 0)) ∧ Below w.heap.size w wr))
  case atStart => exact ⟨0, by omega, by omega, rfl, hst⟩
  case round =>
    clear hst d4 d4'
    obtain ⟨k, hk, hgk, rfl, hrel⟩ := hrel
    generalize wr = wo at *
    by_cases hlt : k < N
    · obtain ⟨t, ht⟩ : ∃ t, segs[k]? = some t := ⟨_, List.getElem?_eq_getElem (by have := hN.out; omega)⟩
      obtain ⟨q, rfl, hq⟩ := hrw.out k t ht
      have cq := hq wo hrel.out.2
      have hnn := Lib.hid (hnm.out t (List.mem_of_getElem? ht) wo hrel.out.2)
      have hv := hNa.out k t ht
      have hset := Lib.hid (nums_set NL k N (t.n : Int) hNl hv)
      have hlen : (rowP (NL.take k ++ List.replicate (N - k) 0)).length = N := by rw [rowP_len, List.length_append, List.length_take, List.length_replicate]; omega
      obtain ⟨v0, hv0⟩ : ∃ v, (rowP (NL.take k ++ List.replicate (N - k) 0))[k]? = some v := ⟨_, List.getElem?_eq_getElem (by omega)⟩
      have ck : wo.cell? ⟨w.heap.size, k, none⟩ = some v0 := (hrel.out.1.cell k).trans hv0
      have zk := hrel.out.1.frozen k
      have hW : Hid (Whole (wo.setCell ⟨w.heap.size, k, none⟩ (.int .i64 (t.n : Int))) w.heap.size 3 (rowP (NL.take (k + 1) ++ List.replicate (N - (k + 1)) 0)) ∧ Below w.heap.size w (wo.setCell ⟨w.heap.size, k, none⟩ (.int .i64 (t.n : Int)))) := Lib.hid ⟨by
        have h9 := hrel.out.1.store k [.int .i64 (t.n : Int)] (by simp; omega)
        rw [set_at _ _ _ (by omega), rowP_set, hset.out] at h9
        exact h9, below_store hrel.out.2 (c := w.heap.size) (Nat.le_refl _) (Nat.le_refl _) k [.int .i64 (t.n : Int)]⟩
      clear hv0 hv ht hq hlen hrel
      go_wp2_with fail
      refine hnn.out.mono ?_
      rintro _ w5 ⟨rfl, rfl⟩
      go_wp2_with fail
      go_roundg (gk - 1)
      case measure => omega
      case rel => exact ⟨k + 1, by omega, by omega, by go_num, hW⟩
    · obtain rfl : k = N := by omega
      have hfin : Hid (Whole wo w.heap.size 3 (rowP NL)) := Lib.hid (by
        have h9 := hrel.out.1
        rw [Nat.sub_self, List.replicate_zero, List.append_nil, List.take_of_length_le (Nat.le_of_eq hNl)] at h9
        exact h9)
      go_wp2_with fail
      go_ret
      exact ⟨w.heap.size, rfl, hfin.out, Nat.le_refl _, hrel.out.2⟩
end
end Go.Proofs.YtgogackkeodciabGreatDoor.W
end
section
namespace Go.Proofs.YtgogackkeodciabGreatDoor.W
open Go.RowKit Go.Sort
open Go.Proofs.YtgogackkeodciabGreatDoor.M Go.Proofs.YtgogackkeodciabGreatDoor.D Go.Proofs.YtgogackkeodciabGreatDoor.Z
set_option linter.unusedVariables false

theorem chain_more {r x : Sr} {f : Int × ByteArray} : ∀ {l : List Sr} {b nx : Nat}, Chain (l ++ [r]) b nx → x.b = r.b → x.fs = r.fs ++ [f] → Chain (l ++ [x]) b (nx + 1)
  | [], b, nx, h, h1, h2 => by
    have e1 := h.1
    have e2 : b + r.fs.length = nx := h.2
    refine ⟨by omega, ?_⟩
    show b + x.fs.length = nx + 1
    rw [h2, List.length_append, List.length_singleton]
    omega
  | r0 :: l, b, nx, h, h1, h2 => ⟨h.1, chain_more h.2 h1 h2⟩
/-- A segment that may be a log's. -/
structure Sr.Fine (from_ m : Nat) (r : Sr) : Prop where
  ok : r.Ok
  ne : r.fs ≠ []
  st : r.s < 4294967296
  room : Room from_ m r.n
/-- A log, its view, its pool, and blocks. -/
structure LgV (w0 : World) (vb d g' : Nat) (lie : List (List UInt8)) (ws : List (Nat × List UInt8)) (from_ m : Nat) (steps : Int) (pb pa : Nat) (l : List Int) (ep ct lb id gen nx : Nat) (segs : List Sr) (A : Option Addr) (c : Nat) (pk K : List Bk) (W : World) : Prop where
  vb_ : VB w0 vb d g' lie ws from_ m steps (plK pb pa l ep ct ++ ((lb, 82, lgL vb pb id gen A segs.length c nx) :: (pk ++ (segs.flatMap (Sr.K vb) ++ K)))) W
  row : RowPt A c (segs.map Sr.sb) pk
  fine : ∀ r ∈ segs, r.Fine from_ m
  small : segs.length ≤ 900
  chain : Chain segs (baseOf segs nx) nx
  top : nx ≤ 1099511628776
section
variable {w0 W W' : World} {vb d g' from_ m pb pa ep ct lb id gen nx c : Nat} {lie : List (List UInt8)} {ws : List (Nat × List UInt8)} {steps : Int} {l : List Int} {segs : List Sr} {A : Option Addr} {pk K : List Bk}
theorem LgV.below (h : LgV w0 vb d g' lie ws from_ m steps pb pa l ep ct lb id gen nx segs A c pk K W) (hb : Below W.heap.size W W') : LgV w0 vb d g' lie ws from_ m steps pb pa l ep ct lb id gen nx segs A c pk K W' := ⟨h.vb_.below hb, h.row, h.fine, h.small, h.chain, h.top⟩
theorem LgV.obj (h : LgV w0 vb d g' lie ws from_ m steps pb pa l ep ct lb id gen nx segs A c pk K W) : Whole W lb 82 (lgL vb pb id gen A segs.length c nx) := h.vb_.got (List.mem_append_right _ List.mem_cons_self)
theorem RowPt.cells {A : Option Addr} {c : Nat} {l : List Nat} {pk : List Bk} {W : World} (h : RowPt A c l pk) (hK : ∀ x ∈ pk, Whole W x.1 x.2.1 x.2.2) {i sb : Nat} (hi : l[i]? = some sb) : ∃ q cur, A = some ⟨q, 0, none⟩ ∧ (q, 83, cur) ∈ pk ∧ cur[i]? = some (ptV sb) := by
  rcases h with ⟨rfl, _⟩ | ⟨q, cur, rfl, rfl, h1, h2, h3, h4⟩
  · simp at hi
  · refine ⟨q, cur, rfl, List.mem_singleton.2 rfl, ?_⟩
    have hlt := (List.getElem?_eq_some_iff.1 hi).1
    have h5 : (cur.take l.length)[i]? = some (ptV sb) := by rw [h4, List.getElem?_map, hi]; rfl
    rw [List.getElem?_take, if_pos hlt] at h5
    exact h5
theorem LgV.at_ (h : LgV w0 vb d g' lie ws from_ m steps pb pa l ep ct lb id gen nx segs A c pk K W) : LogAt W vb lb pb id gen nx segs A c := by
  have hpk : ∀ x ∈ pk, Whole W x.1 x.2.1 x.2.2 := fun x hx => h.vb_.got (List.mem_append_right _ (List.mem_cons_of_mem _ (List.mem_append_left _ hx)))
  refine ⟨h.obj, fun i r hr => ?_, fun r hr => Sr.sg (h.fine r hr).ok (fun x hx => h.vb_.got (List.mem_append_right _ (List.mem_cons_of_mem _ (List.mem_append_right _ (List.mem_append_left _ (List.mem_flatMap.2 ⟨r, hr, hx⟩)))))), fun r hr => (h.fine r hr).ok, by have := h.small; omega, fun r hr => (h.fine r hr).ne, ?_, h.chain, h.top⟩
  · obtain ⟨q, cur, e, hm, hc⟩ := h.row.cells hpk (i := i) (sb := r.sb) (by rw [List.getElem?_map, hr]; rfl)
    exact ⟨q, e, ((hpk _ hm).cell i).trans hc⟩
  · rcases h.row with ⟨h1, h2, h3, _⟩ | ⟨q, cur, _, _, h1, h2, _⟩
    · have : segs.length = 0 := by rw [← List.length_map (f := Sr.sb), h1]; rfl
      rw [this, h3]
      exact ⟨Nat.le_refl _, by unfold maxLen; omega⟩
    · rw [List.length_map] at h1
      exact ⟨h1, h2⟩
/-- The next number is told. -/
theorem LgV.count {w1 : World} {n' : Nat} (h : VB w0 vb d g' lie ws from_ m steps (plK pb pa l ep ct ++ ((lb, 82, lgL vb pb id gen A n' c nx) :: K)) w1) :
    VB w0 vb d g' lie ws from_ m steps (plK pb pa l ep ct ++ ((lb, 82, lgL vb pb id gen A n' c (nx + 1)) :: K)) (w1.setCell ⟨lb, 5, none⟩ (.int .i64 ((nx + 1 : Nat) : Int))) := by
  have h1 := h.perm (K' := (lb, 82, lgL vb pb id gen A n' c nx) :: (plK pb pa l ep ct ++ K)) List.perm_middle
  have h2 := h1.got List.mem_cons_self
  exact (h1.set ((Kept.refl (fun q => q = lb) w1).setCell (c := lb) (.inl rfl) 5 (.int .i64 ((nx + 1 : Nat) : Int))) (h2.store 5 [.int .i64 ((nx + 1 : Nat) : Int)] (by simp))).perm List.perm_middle.symm
set_option maxRecDepth 100000 in
/-- Into the last segment. -/
theorem log_append_in {init : List Sr} {r : Sr} (k : Int) (p : ByteArray) (h : LgV w0 vb d g' lie ws from_ m steps pb pa l ep ct lb id gen nx (init ++ [r]) A c pk K W) (hsl : r.sl = false) (hf : FrOk (k, p)) (hp : plc r.fs + pcsN p.size ≤ 16) (hnx : nx ≤ 1099511627776) (h0 : 0 ≤ steps) (h1 : steps ≤ 800000) (hw : ws.length ≤ 80000) :
    Calls Tryz.prog 27 #[.pointer (some ⟨lb, 0, none⟩), .agg #[.int .i64 k, .string p]] W fun e w' => e = .returned (.tuple #[.int .i64 (nx : Int), .int .i64 0]) ∧
      ∃ la' lc' rk', LgV w0 vb d g' lie (ws ++ putW from_ r.n r.s (r.fs.length + 2) (plc r.fs) (encF (r.s : Int) (plc r.fs : Int) k p.data.toList) (pcsN p.size)) from_ m (steps + pcsN p.size) pb pa l ep ct lb id gen (nx + 1) (init ++ [{ r with fs := r.fs ++ [(k, p)], la := la', lc := lc', rk := rk' }]) A c pk K w' := by
  have hfr := h.fine r (by simp)
  have hv := h.vb_.perm (K' := r.K vb ++ (plK pb pa l ep ct ++ ((lb, 82, lgL vb pb id gen A (init ++ [r]).length c nx) :: (pk ++ (init.flatMap (Sr.K vb) ++ K))))) (perm_by fun a => by simp only [List.flatMap_append, List.flatMap_singleton, List.count_append, List.count_cons]; omega)
  have hln : (init ++ [r]).length = init.length + 1 := by rw [List.length_append, List.length_singleton]
  have hpk : ∀ x ∈ pk, Whole W x.1 x.2.1 x.2.2 := fun x hx => h.vb_.got (List.mem_append_right _ (List.mem_cons_of_mem _ (List.mem_append_left _ hx)))
  obtain ⟨q, cur, rfl, hm, hc⟩ := h.row.cells hpk (i := init.length) (sb := r.sb) (by rw [List.map_append, List.getElem?_append_right (by simp), List.length_map, Nat.sub_self]; rfl)
  have hsm := h.small
  refine (log_append_by (Post := fun w' => ∃ la' lc' rk', ({ r with fs := r.fs ++ [(k, p)], la := la', lc := lc', rk := rk' } : Sr).Ok ∧
        VB w0 vb d g' lie (ws ++ putW from_ r.n r.s (r.fs.length + 2) (plc r.fs) (encF (r.s : Int) (plc r.fs : Int) k p.data.toList) (pcsN p.size)) from_ m (steps + pcsN p.size) (({ r with fs := r.fs ++ [(k, p)], la := la', lc := lc', rk := rk' } : Sr).K vb ++ (plK pb pa l ep ct ++ ((lb, 82, lgL vb pb id gen (some ⟨q, 0, none⟩) (init ++ [r]).length c nx) :: (pk ++ (init.flatMap (Sr.K vb) ++ K))))) w') k p lb nx hf hnx (fun V hb => ?_) (fun w' hp' => ?_)).mono ?_
  · have hv2 := hv.below hb
    rw [hln] at hv2 ⊢
    exact put_in k p lb pb id gen q init.length c nx cur hv2 hfr.ok hsl hfr.room hfr.st hf hp h0 (by omega) (by omega) (List.mem_append_right _ List.mem_cons_self) (List.mem_append_right _ (List.mem_cons_of_mem _ (List.mem_append_left _ hm))) hc (by omega)
  · obtain ⟨la', lc', rk', ho, hv3⟩ := hp'
    have h9 := hv3.got (List.mem_append_right _ (List.mem_append_right _ List.mem_cons_self))
    exact ⟨h9.cell 5, h9.frozen 5⟩
  · rintro e w' ⟨r1, w1, ⟨la', lc', rk', ho, hv3⟩, rfl⟩
    refine ⟨r1, la', lc', rk', ?_, ?_, ?_, ?_, ?_, ?_⟩
    · have hv4 := hv3.perm (K' := plK pb pa l ep ct ++ ((lb, 82, lgL vb pb id gen (some ⟨q, 0, none⟩) (init ++ [r]).length c nx) :: (pk ++ ((init ++ [({ r with fs := r.fs ++ [(k, p)], la := la', lc := lc', rk := rk' } : Sr)]).flatMap (Sr.K vb) ++ K)))) (perm_by fun a => by simp only [List.flatMap_append, List.flatMap_singleton, List.count_append, List.count_cons]; omega)
      have hv5 := LgV.count hv4
      rw [hln] at hv5
      rw [List.length_append, List.length_singleton]
      exact hv5
    · have h9 := h.row
      rw [List.map_append] at h9 ⊢
      exact h9
    · intro s hs
      rcases List.mem_append.1 hs with hs | hs
      · exact h.fine s (List.mem_append_left _ hs)
      · obtain rfl := List.mem_singleton.1 hs
        exact ⟨ho, by simp, hfr.st, hfr.room⟩
    · rw [List.length_append, List.length_singleton, ← hln]; exact hsm
    · have h9 := h.chain
      have e1 : ∀ (x : Sr), x.b = r.b → baseOf (init ++ [x]) (nx + 1) = baseOf (init ++ [r]) nx := fun x hx => by cases init <;> simp [baseOf, hx]
      have e2 := e1 ({ r with fs := r.fs ++ [(k, p)], la := la', lc := lc', rk := rk' } : Sr) rfl
      rw [e2]
      exact chain_more h9 rfl rfl
    · have := hnx; omega
theorem snoc_or (l : List Sr) : l = [] ∨ ∃ init r, l = init ++ [r] := by
  rcases List.eq_nil_or_concat l with h | ⟨i, r, h⟩
  · exact .inl h
  · exact .inr ⟨i, r, by rw [h, List.concat_eq_append]⟩
/-- The last segment does not take the frame. -/
theorem LgV.shut (k : Int) (p : ByteArray) (h : LgV w0 vb d g' lie ws from_ m steps pb pa l ep ct lb id gen nx segs A c pk K W) (hp : p.size ≤ 1000000) (hno : ∀ init r, segs = init ++ [r] → r.sl = true ∨ 16 < plc r.fs + pcsN p.size) :
    Calls Tryz.prog 60 #[.pointer (some ⟨lb, 0, none⟩), .agg #[.int .i64 k, .string p]] W fun e w' => e = .returned (.bool false) ∧ Below W.heap.size W w' := by
  have hat := h.at_
  have hsm := h.small
  rcases snoc_or segs with rfl | ⟨init, r, rfl⟩
  · exact takes_none lb c A k p W hat.obj.lt (hat.obj.cell 4)
  · have hr : (init ++ [r])[init.length]? = some r := by rw [List.getElem?_append_right (Nat.le_refl _), Nat.sub_self]; rfl
    obtain ⟨q, rfl, hc⟩ := hat.row init.length r hr
    have hsg := hat.sg r (by simp)
    have hln : (init ++ [r]).length = init.length + 1 := by rw [List.length_append, List.length_singleton]
    have h4 := hat.obj.cell 4
    rw [hln] at h4 hsm
    have := takes_some lb q init.length c r.sb r.sl (plc r.fs) k p W hp (hat.ok r (by simp)).fits (by omega) h4 hc (hsg.obj.cell 7) (hsg.obj.cell 8)
    rcases hno init r rfl with e | e
    · rw [e] at this
      exact this
    · rw [show (!r.sl && decide (plc r.fs + pcsN p.size ≤ 16)) = false from by simp; intro _; omega] at this
      exact this
set_option maxRecDepth 100000 in
/-- Into a new segment. -/
theorem log_append_new (k : Int) (p : ByteArray) (sg : Nat) (h : LgV w0 vb d g' lie ws from_ m steps pb pa l ep ct lb id gen nx segs A c pk K W) (hno : ∀ init r, segs = init ++ [r] → r.sl = true ∨ 16 < plc r.fs + pcsN p.size) (hf : FrOk (k, p)) (hns : segs.length ≤ 800)
    (hl64 : l.length ≤ 64) (hep : ep < 65536) (hct : ct < 65536) (hfst : FirstAt l sg) (hid1 : 1 ≤ id) (hid : id < 65536) (hgen : gen < 4294967296) (hT : Wide w0) (hr : Room from_ m sg) (hnx : nx ≤ 1099511627776) (h0 : 0 ≤ steps) (h1 : steps ≤ 800000) (hw : ws.length ≤ 80000) :
    Calls Tryz.prog 27 #[.pointer (some ⟨lb, 0, none⟩), .agg #[.int .i64 k, .string p]] W fun e w' => e = .returned (.tuple #[.int .i64 (nx : Int), .int .i64 0]) ∧
      ∃ sb la' lc' rk' A' c' pk', LgV w0 vb d g' lie ((ws ++ putW from_ sg (65536 * ep + ct) 1 0 (headerL id gen (65536 * ep + ct) nx) 1) ++ putW from_ sg (65536 * ep + ct) 2 1 (encF ((65536 * ep + ct : Nat) : Int) 1 k p.data.toList) (pcsN p.size)) from_ m (steps + 1 + pcsN p.size) pb pa (l.set sg (id : Int)) ep (ct + 1) lb id gen (nx + 1) (segs ++ [(⟨sb, sg, id, gen, 65536 * ep + ct, nx, [(k, p)], la', lc', rk', false⟩ : Sr)]) A' c' pk' K w' := by
  have hpz : p.size ≤ 1000000 := by have := hf.2.2; simp only at this; omega
  have hv := h.vb_
  have hrow := h.row
  have elen : segs.length = (segs.map Sr.sb).length := (List.length_map ..).symm
  rw [elen] at hv
  refine (log_append_by (Post := PutNew w0 vb d g' lie ws from_ m steps (segs.flatMap (Sr.K vb) ++ K) k p pb pa lb id gen nx ep ct sg l (segs.map Sr.sb)) k p lb nx hf hnx (fun V hb => ?_) (fun w' hp' => ?_)).mono ?_
  · exact put_new k p pb pa lb id gen c nx ep ct sg l A (segs.map Sr.sb) pk (hv.below hb) hrow (by omega) hl64 hep hct hfst hid1 hid hgen hnx hT hr hf h0 h1 hw (fun V2 hb2 => ((h.below hb).below hb2).shut k p hpz hno)
  · obtain ⟨sb, la', lc', rk', A', c', pk', ho, hrow', hv3⟩ := hp'
    have h9 := hv3.got (List.mem_append_right _ List.mem_cons_self)
    exact ⟨h9.cell 5, h9.frozen 5⟩
  · rintro e w' ⟨r1, w1, ⟨sb, la', lc', rk', A', c', pk', ho, hrow', hv3⟩, rfl⟩
    refine ⟨r1, sb, la', lc', rk', A', c', pk', ?_, ?_, ?_, ?_, ?_, ?_⟩
    · have hv5 := (LgV.count hv3).perm (K' := plK pb pa (l.set sg (id : Int)) ep (ct + 1) ++ ((lb, 82, lgL vb pb id gen A' ((segs.map Sr.sb).length + 1) c' (nx + 1)) :: (pk' ++ ((segs ++ [(⟨sb, sg, id, gen, 65536 * ep + ct, nx, [(k, p)], la', lc', rk', false⟩ : Sr)]).flatMap (Sr.K vb) ++ K)))) (perm_by fun a => by simp only [List.flatMap_append, List.flatMap_singleton, List.count_append, List.count_cons]; omega)
      rw [List.length_append, List.length_singleton, elen]
      exact hv5
    · rw [List.map_append]
      exact hrow'
    · intro s hs
      rcases List.mem_append.1 hs with hs | hs
      · exact h.fine s hs
      · obtain rfl := List.mem_singleton.1 hs
        exact ⟨ho, by simp, by show 65536 * ep + ct < 4294967296; omega, hr⟩
    · rw [List.length_append, List.length_singleton]; omega
    · have e1 : baseOf (segs ++ [(⟨sb, sg, id, gen, 65536 * ep + ct, nx, [(k, p)], la', lc', rk', false⟩ : Sr)]) (nx + 1) = baseOf segs nx := by cases segs <;> rfl
      rw [e1]
      exact h.chain.snoc (r := (⟨sb, sg, id, gen, 65536 * ep + ct, nx, [(k, p)], la', lc', rk', false⟩ : Sr)) rfl
    · omega
end
end Go.Proofs.YtgogackkeodciabGreatDoor.W
end
