/- Layer 28: the law's small case; members that come in. -/
import Derived.Test.YtnekiiahgidkoaaAsH
import Derived.Test.YtnekiiahgidkoaaAsO
import Derived.Test.YtnekiiahgidkoaaOpen
namespace Go.Proofs.Ytnekiiahgidkoaa.W
open Go.RowKit Go.Sort
open Go.Proofs.Ytnekiiahgidkoaa.M Go.Proofs.Ytnekiiahgidkoaa.D Go.Proofs.Ytnekiiahgidkoaa.Z
set_option linter.unusedVariables false
set_option linter.unusedSimpArgs false

/-- Members that came in. -/
def inN (len : Nat) (ss : List ByteArray) : List Nm := (ss.take len).map fun s => s.data.toList
theorem strs_in {w : World} {a : Option Addr} {len cap : Nat} {ss : List ByteArray} (h : IsStrs w a len cap ss) : (inN len ss).length = len ∧ SrAt w a (inN len ss) ∧ len ≤ cap ∧ cap ≤ maxLen ∧ ∀ s ∈ inN len ss, s.length ≤ maxLen := by
  rcases h with ⟨rfl, rfl, rfl, rfl⟩ | ⟨x, rfl, h1, h2, h3, h4, h5⟩
  · exact ⟨rfl, fun k s hk => by simp [inN] at hk, Nat.le_refl _, by unfold maxLen; omega, fun s hs => by simp [inN] at hs⟩
  · have hl : (inN len ss).length = len := by simp [inN]; omega
    refine ⟨hl, fun k s hk => ?_, h1, h2, fun s hs => ?_⟩
    · have hk1 : k < len := by have := (List.getElem?_eq_some_iff.1 hk).1; rwa [hl] at this
      obtain ⟨b, o, spot⟩ := x
      have hsp := World.cell?_spot (h4 0 (by omega))
      simp [Addr.add] at hsp
      subst hsp
      have h6 := h4 k (by omega)
      have e : (⟨b, o, none⟩ : Addr).add k = ⟨b, o + k, none⟩ := by unfold Addr.add; split <;> simp_all
      rw [e] at h6
      refine ⟨b, o, rfl, cell_lt h6, ?_⟩
      rw [h6]
      unfold inN at hk
      rw [List.getElem?_map, List.getElem?_take, if_pos hk1, List.getElem?_eq_getElem (by omega)] at hk
      cases hk
      rw [List.getD, List.getElem?_eq_getElem (by omega)]; rfl
    · unfold inN at hs
      obtain ⟨t, ht, rfl⟩ := List.mem_map.1 hs
      have := h5 t (List.mem_of_mem_take ht)
      simpa using this

abbrev nm3 : List Nm := [[98], [97]]
theorem why3 : why28 nm3 = 0 := by decide
theorem rank3a : ranK nm3 [97] = 0 := by decide
theorem rank3b : ranK nm3 [98] = 1 := by decide
theorem nd3 : nm3.Nodup := by decide
theorem iv30 : iv 3 2 0 = [0, 1] := by decide
theorem iv31 : iv 3 2 1 = [2] := by decide
theorem row3 (W : World) : SrAt (W.alloc (.cells #[.string { data := #[98] }, .string { data := #[97] }] 9)) (some ⟨W.heap.size, 0, none⟩) nm3 := fun k s hk => by
  have hw := (Whole.new W 9 [.string { data := #[98] }, .string { data := #[97] }])
  match k, hk with
  | 0, hk => cases hk; exact ⟨_, 0, rfl, hw.lt, hw.cell 0⟩
  | 1, hk => cases hk; exact ⟨_, 0, rfl, hw.lt, hw.cell 1⟩
theorem int2 (W : World) : InAt (W.alloc (.cells #[.int .i64 0, .int .i64 1] 3)) (some ⟨W.heap.size, 0, none⟩) [0, 1] := fun k s hk => by
  have hw := (Whole.new W 3 [.int .i64 0, .int .i64 1])
  match k, hk with
  | 0, hk => cases hk; exact ⟨_, rfl, hw.lt, hw.cell 0⟩
  | 1, hk => cases hk; exact ⟨_, rfl, hw.lt, hw.cell 1⟩
theorem int1 (W : World) : InAt (W.alloc (.cells #[.int .i64 2] 3)) (some ⟨W.heap.size, 0, none⟩) [2] := fun k s hk => by
  have hw := (Whole.new W 3 [.int .i64 2])
  match k, hk with
  | 0, hk => cases hk; exact ⟨_, rfl, hw.lt, hw.cell 0⟩
theorem belowA (W : World) (o : Obj) : Below W.heap.size W (W.alloc o) := (Below.refl _ W).alloc (Nat.le_refl _) _
theorem owner3 {e : Ending} (h : OwQ nm3 3 1 e) : e = .returned (.tuple #[.string { data := #[97] }, .int .i64 0]) := by
  rcases h with ⟨i, s, hi, hs, hq, rfl⟩ | ⟨h, _⟩
  · have h0 : i = 0 := by
      match i, hi with
      | 0, _ => rfl
      | 1, _ => revert hq; decide
    subst h0
    have := srt_rank nd3 (m := [97]) (by decide)
    rw [rank3a, hs] at this
    cases this
    rfl
  · exact absurd (h 0 (by decide)) (by decide)
set_option maxRecDepth 100000 in
set_option maxHeartbeats 8000000 in
theorem three28_any (w : World) : Calls Try.prog 7 #[] w fun e w' => e = .returned (.bool true) ∧ Below w.heap.size w w' := by
  have cR := Lib.hid (fun W => (show Calls Try.prog 8 #[.slice (some ⟨W.heap.size, 0, none⟩) 2 2, .int .i64 3] (W.alloc (.cells #[.string { data := #[98] }, .string { data := #[97] }] 9)) _ from range28_ok _ 2 nm3 3 _ (by decide) (row3 W) why3 (by decide)))
  have cO := Lib.hid (fun W => (show Calls Try.prog 9 #[.slice (some ⟨W.heap.size, 0, none⟩) 2 2, .int .i64 3, .string { data := #[98] }] (W.alloc (.cells #[.string { data := #[98] }, .string { data := #[97] }] 9)) _ from of28_ok _ 2 nm3 3 [98] _ (by decide) (row3 W) why3 (by decide) (by decide)))
  have cW := Lib.hid (fun W => (show Calls Try.prog 15 #[.slice (some ⟨W.heap.size, 0, none⟩) 2 2, .int .i64 3, .int .i64 1] (W.alloc (.cells #[.string { data := #[98] }, .string { data := #[97] }] 9)) _ from owner28_ok _ 2 nm3 3 1 _ (by decide) (row3 W) why3 (by decide)))
  go_enter Try.func7, Try.ntmps7
  go_wp2_with fail
  refine (cR.out w).mono ?_
  rintro _ w1 ⟨mb, D, rfl, hR, hb1⟩
  have hb1 := Lib.hid (grew (belowA w _) hb1)
  replace hR := Lib.hid hR
  clear cR
  go_wp2_with fail
  refine (cO.out w1).mono ?_
  rintro _ w2 ⟨A2, c2, rfl, hI2, _, hb2⟩
  have hb2 := Lib.hid (grew (belowA w1 _) hb2)
  rw [show nm3.length = 2 from rfl, rank3b, iv31] at hI2 ⊢
  replace hI2 := Lib.hid hI2
  clear cO
  rw [show ([2] : List Nat).length = 1 from rfl]
  go_wp2_with fail
  refine (cW.out w2).mono ?_
  rintro _ w3 ⟨hO, hb3⟩
  have hb3 := grew (belowA w2 _) hb3
  have hOe := owner3 hO
  subst hOe
  clear cW hO
  have hR3 := hR.out.below (grew hb2.out hb3)
  have hI3 := hI2.out.below (Nat.le_refl _) hb3
  have hB3 := grew hb1.out (grew hb2.out hb3)
  have hln := fun ty => hR3.own.len (t := 25) Try.underlying25 ty
  rw [hR3.size] at hln
  replace hln : ∀ ty, (Builtin.len_ #[25] ty #[.map (some mb)]).run Try.prog w3 = .ok (.int .i64 2) w3 := hln
  have hs0 := srt_rank nd3 (m := [97]) (by decide)
  rw [rank3a] at hs0
  obtain ⟨A4, c4, _, hlk, hI4, _⟩ := hR3.look_yes (i := 0) (by decide) hs0 (by decide)
  rw [show nm3.length = 2 from rfl, iv30] at hlk hI4
  replace hlk : (Instr.lookup 25 (.map (some mb)) (.string { data := #[97] }) false).run Try.prog w3 = .ok (.slice A4 2 c4) w3 := hlk
  obtain ⟨V, hV⟩ : ∃ V, Hid (V = w3.alloc (.cells #[.int .i64 0, .int .i64 1] 3)) := ⟨_, Lib.hid rfl⟩
  have hbV : Below w3.heap.size w3 V := by rw [hV.out]; exact belowA _ _
  have k4 : InAt V A4 [0, 1] := hI4.below (Nat.le_refl _) hbV
  have k5 : InAt V (some ⟨w3.heap.size, 0, none⟩) [0, 1] := by rw [hV.out]; exact int2 w3
  have cI := Lib.hid (show Calls Try.prog 13 #[.slice A4 2 c4, .slice (some ⟨w3.heap.size, 0, none⟩) 2 2] V _ from ints28_any _ _ c4 2 [0, 1] V k4 k5 (by decide))
  have hIV := Lib.hid (hI3.below (Nat.le_refl _) hbV)
  have hBV := Lib.hid (grew hB3 hbV)
  clear hR3 hI3 hB3 hs0 hI4 k4 k5 hbV hR hb1 hb2 hI2
  have hse : (({ data := #[97] } : ByteArray).toList == ({ data := #[97] } : ByteArray).toList) = true := by simp
  go_wp2_with fail
  rw [← show V = _ from hV.out]
  refine cI.out.mono ?_
  rintro _ w4 ⟨rfl, hb4⟩
  have hI4 := hIV.out.below (Nat.le_refl _) hb4
  have hB4 := grew hBV.out hb4
  obtain ⟨U, hU⟩ : ∃ U, Hid (U = w4.alloc (.cells #[.int .i64 2] 3)) := ⟨_, Lib.hid rfl⟩
  have hbU : Below w4.heap.size w4 U := by rw [hU.out]; exact belowA _ _
  have k6 : InAt U (some ⟨w4.heap.size, 0, none⟩) [2] := by rw [hU.out]; exact int1 w4
  have cJ := Lib.hid (show Calls Try.prog 13 #[.slice A2 1 c2, .slice (some ⟨w4.heap.size, 0, none⟩) 1 1] U _ from ints28_any _ _ c2 1 [2] U (hI4.below (Nat.le_refl _) hbU) k6 (by decide))
  have hBU := Lib.hid (grew hB4 hbU)
  clear hI4 hB4 hbU k6 hIV hBV cI hV hln hlk hb4
  go_wp2_with fail
  rw [← show U = _ from hU.out]
  refine cJ.out.mono ?_
  rintro _ w5 ⟨rfl, hb5⟩
  have hB5 := Lib.hid (grew hBU.out hb5)
  clear cJ hU hBU hb5
  go_wp2_with fail
  go_ret
  exact ⟨rfl, hB5.out⟩
/-- Of, whoever is asked. -/
theorem of28_all (A : Option Addr) (c : Nat) (N : List Nm) (p : Nat) (m : Nm) (w : World) (hN : N.length ≤ 1000) (hrow : SrAt w A N) (hw : why28 N = 0) (hp : p ≤ 4) (hl : m.length ≤ maxLen) :
    Calls Try.prog 9 #[.slice A N.length c, .int .i64 p, .string (B m)] w fun e w' => ∃ A1 n1 c1 f, e = .returned (.tuple #[.slice A1 n1 c1, .int .i64 f]) ∧ Below w.heap.size w w' ∧
      ((m ∈ N ∧ f = 0 ∧ n1 = (iv p N.length (ranK N m)).length ∧ InAt w' A1 (iv p N.length (ranK N m))) ∨ (m ∉ N ∧ f = 6 ∧ n1 = 0)) := by
  by_cases hm : m ∈ N
  · refine (of28_ok A c N p m w hN hrow hw hp hm).mono ?_
    rintro _ w1 ⟨A1, c1, rfl, h1, _, h2⟩
    exact ⟨A1, _, c1, 0, rfl, h2, .inl ⟨hm, rfl, rfl, h1⟩⟩
  · refine (of28_none A c N p m w hN hrow hw hp hm hl).mono ?_
    rintro _ w1 ⟨rfl, h2⟩
    exact ⟨none, 0, 0, 6, rfl, h2, .inr ⟨hm, rfl, rfl⟩⟩
theorem RgAt.look_all {B0 : Nat} {w : World} {S : List Nm} {p n a mb : Nat} {D : DataW Value} (h : RgAt B0 w S p n a mb D) {i : Nat} {s : Nm} (hi : i < a) (hs : S[i]? = some s) (hl : s.length ≤ maxLen) :
    ∃ A c, InAt w A (iv p n i) ∧ ∀ W, Below w.heap.size w W → (Instr.lookup 25 (.map (some mb)) (.string (B s)) false).run Try.prog W = .ok (.slice A (iv p n i).length c) W := by
  obtain ⟨A, c, hat, hIn, _⟩ := h.at_ i s hi hs
  refine ⟨A, c, hIn, fun W hb => ?_⟩
  obtain ⟨v, ps, hrun, hv⟩ := (h.below hb).own.lookup keyed28 Try.underlying25 (zeroSl W) (zd := .held (.slice none 0 0)) (zp := []) rfl (key28 hl)
  rw [hat] at hv
  obtain ⟨A', n', c', rfl, e⟩ := slR_inv hv
  injection e with e1 e2
  injection e1 with e1
  injection e1 with q1 q2 q3
  rw [hrun, q1, q3, iv_len, q2]
theorem len_nil28 (ty : TypeId) (W : World) : (Builtin.len_ #[25] ty #[.map none]).run Try.prog W = .ok (.int .i64 0) W := Maps.len_nil Try.underlying25 ty
end Go.Proofs.Ytnekiiahgidkoaa.W
