/- Rows of numbers held against one another. The small case of layer 14: eight frames of two pieces. The small case of layer 14: the law's eight. -/
import Derived.Test.YtahljbjgenepaaaGreatDoorPlA
import Derived.Deep.DrawnRows
import Derived.Deep.Quiet
import Derived.Deep.QuietTactic
import Derived.Test.YtahljbjgenepaaaGreatDoorLgG
import Derived.Test.YtahljbjgenepaaaGreatDoorZeros
import Derived.Test.YtahljbjgenepaaaGreatDoorSgT
section
namespace Go.Proofs.YtahljbjgenepaaaGreatDoor.W
open Go.RowKit
open Go.Proofs.YtahljbjgenepaaaGreatDoor.M Go.Proofs.YtahljbjgenepaaaGreatDoor.D Go.Proofs.YtahljbjgenepaaaGreatDoor.Z
set_option linter.unusedVariables false

set_option maxRecDepth 100000 in
theorem pints_any (A1 A2 : Option Addr) (c1 c2 : Nat) (xs : List Nat) (w : World) (h1 : Told w A1 xs) (h2 : Told w A2 xs) (hl : xs.length ≤ 64) :
    Calls Tryz.prog 19 #[.slice A1 xs.length c1, .slice A2 xs.length c2] w fun e w' => e = .returned (.bool true) ∧ Below w.heap.size w w' := by
  have k1 := Lib.hid (show ∀ k, k < xs.length → ∃ g, A1 = some ⟨g, 0, none⟩ ∧ w.cell? ⟨g, k, none⟩ = some (.int .i64 (xs.getD k 0 : Nat)) from fun k hk => by
    obtain ⟨g, e, hc⟩ := h1 k _ (List.getElem?_eq_getElem hk)
    exact ⟨g, e, by rw [hc, List.getD, List.getElem?_eq_getElem hk]; rfl⟩)
  have k2 := Lib.hid (show ∀ k, k < xs.length → ∃ g, A2 = some ⟨g, 0, none⟩ ∧ w.cell? ⟨g, k, none⟩ = some (.int .i64 (xs.getD k 0 : Nat)) from fun k hk => by
    obtain ⟨g, e, hc⟩ := h2 k _ (List.getElem?_eq_getElem hk)
    exact ⟨g, e, by rw [hc, List.getD, List.getElem?_eq_getElem hk]; rfl⟩)
  obtain ⟨len, hlen⟩ : ∃ len, Hid (xs.length = len) := ⟨_, Lib.hid rfl⟩
  rw [hlen.out] at hl k1 k2 ⊢
  clear h1 h2
  go_enter Tryz.func19, Tryz.ntmps19
  go_wp2_with fail
  go_loopg [13] len (fun g i wr => ∃ k m : Nat, k ≤ len ∧ len ≤ k + g ∧ i = .int .i64 k ∧ wr = w.drewN m)
  case atStart => exact ⟨0, 0, by omega, by omega, rfl, rfl⟩
  case round =>
    obtain ⟨k, m, hk, hg, rfl, rfl⟩ := hrel
    by_cases hlt : k < len
    · obtain ⟨b1, rfl, f1⟩ := k1.out k hlt
      obtain ⟨b2, rfl, f2⟩ := k2.out k hlt
      obtain ⟨x, hx⟩ : ∃ x, Hid (xs.getD k 0 = x) := ⟨_, Lib.hid rfl⟩
      rw [hx.out] at f1 f2
      have hk0 : (0 : Int) ≤ (k : Int) := by omega
      have hk1 : (k : Int) < (len : Int) := by omega
      go_wp2_with fail
      go_quiet (fail)
      go_wp2_with fail
      go_roundg (gk - 1)
      case measure => omega
      case rel => exact ⟨k + 1, _, by omega, by omega, by go_num, rfl⟩
    · obtain rfl : k = len := by omega
      go_wp2_with fail
      go_ret
      exact ⟨rfl, drewS (Below.refl _ _) m⟩
end Go.Proofs.YtahljbjgenepaaaGreatDoor.W
end
section
namespace Go.Proofs.YtahljbjgenepaaaGreatDoor.W
open Go.RowKit Go.Sort
open Go.Proofs.YtahljbjgenepaaaGreatDoor.M Go.Proofs.YtahljbjgenepaaaGreatDoor.D Go.Proofs.YtahljbjgenepaaaGreatDoor.Z
set_option linter.unusedVariables false

theorem SV.base {w0 w1 W : World} {vb d g' from_ m : Nat} {lie : List (List UInt8)} {ws : List (Nat × List UInt8)} {fuse steps : Int} {gone : Bool} (h : SV w1 vb d g' lie ws from_ m fuse steps gone W) (hb : Below w0.heap.size w0 w1) : SV w0 vb d g' lie ws from_ m fuse steps gone W := by
  obtain ⟨v, k1, k2, k3⟩ := h
  have hs := hb.size
  exact ⟨v, k1, fun k hk => Nat.le_trans hs (k2 k hk), hb.trans (k3.mono hs)⟩
theorem fresh14_any (w : World) : Calls Tryz.prog 40 #[] w fun e w' => ∃ vb d g, e = .returned (.pointer (some ⟨vb, 0, none⟩)) ∧ SV w vb d g (zeros 98) [] 0 98 (-1) 0 false w' := by
  go_enter Tryz.func40, Tryz.ntmps40
  go_wp2_with fail
  refine (new_in 98 w (by decide) (by decide)).mono ?_
  rintro _ w4 ⟨rfl, hD4, hb4⟩
  go_wp2_with fail
  refine (vnew_in (from_ := 0) (n := 98) w4 hD4 (by decide) (by decide)).mono ?_
  rintro _ w5 ⟨rfl, hv5, hb5⟩
  have h5 := Lib.hid (sv_new 98 0 98 w w4 w5 hb4 hv5 hb5)
  go_wp2_with fail
  go_ret
  exact ⟨_, _, _, rfl, h5.out⟩
theorem room14 (n : Nat) (h : n < 6) : Room 0 98 n := ⟨96, rfl, by omega, h⟩
set_option maxRecDepth 100000 in
theorem two_any (w : World) : Calls Tryz.prog 41 #[] w fun e w' => e = .returned (.agg #[.int .i64 3, .string (zerosB 46)]) ∧ Below w.heap.size w w' := by
  obtain ⟨c8, hc8, hm8⟩ := make_bytes 46 (by omega)
  replace hm8 : ∀ W : World, (Instr.makeSlice 149 (.int .i64 46) (.int .i64 46)).run Tryz.prog W = .ok (.slice (some ⟨W.heap.size, 0, none⟩) 46 46) (W.alloc (.cells c8 5)) := fun W => hm8 W
  have hs8 : ∀ W : World, (convert 149 9 (.slice (some ⟨W.heap.size, 0, none⟩) 46 46)).run Tryz.prog (W.alloc (.cells c8 5)) = .ok (.string (zerosB 46)) (W.alloc (.cells c8 5)) := fun W => zero_string 46 c8 hc8 W
  obtain ⟨Z, hZ⟩ : ∃ Z, Hid (zerosB 46 = Z) := ⟨_, Lib.hid rfl⟩
  rw [hZ.out] at hs8 ⊢
  have hm := hm8 (w.alloc (.cells #[.int .i64 0, .string ⟨#[]⟩] 43))
  have hs := hs8 (w.alloc (.cells #[.int .i64 0, .string ⟨#[]⟩] 43))
  have hz1 : (w.alloc (.cells #[.int .i64 0, .string ⟨#[]⟩] 43)).heap.size = w.heap.size + 1 := by simp
  rw [hz1] at hs hm
  have hX := (Whole.new w 43 [.int .i64 0, .string ⟨#[]⟩]).alloc (.cells c8 5)
  have hB := grewAlloc (allocBelow w (.cells #[.int .i64 0, .string ⟨#[]⟩] 43)) (.cells c8 5)
  have x0 := hX.cell 0
  have x1 := hX.cell 1
  have z0 := hX.frozen 0
  have z1 := hX.frozen 1
  simp only [List.getElem?_cons_zero, List.getElem?_cons_succ] at x0 x1
  have hX4 := Lib.hid ((Whole.new w 43 [.int .i64 3, .string Z]).alloc (.cells c8 5))
  have hB4 := Lib.hid (grewAlloc (allocBelow w (.cells #[.int .i64 3, .string Z] 43)) (.cells c8 5))
  clear hm8 hs8 hX hB hc8 hz1
  go_enter Tryz.func41, Tryz.ntmps41
  go_wp2_with fail
  obtain ⟨w4, hw4⟩ : ∃ w4, (w.alloc (.cells #[.int .i64 3, .string Z] 43)).alloc (.cells c8 5) = w4 := ⟨_, rfl⟩
  have y0 : w4.cell? ⟨w.heap.size, 0, none⟩ = some (.int .i64 3) := by rw [← hw4]; exact hX4.out.cell 0
  have y1 : w4.cell? ⟨w.heap.size, 1, none⟩ = some (.string Z) := by rw [← hw4]; exact hX4.out.cell 1
  have hB5 : Below w.heap.size w w4 := by rw [← hw4]; exact hB4.out
  rw [hw4]
  exact bodyPost_ret (v := .agg #[.int .i64 3, .string Z]) (by simp [results, Tryz.results41, go_sem, y0, y1]) rfl ⟨rfl, hB5⟩
/-- A frame of two pieces. -/
def F2 : Int × ByteArray := (3, zerosB 46)
theorem F2_ok : FrOk F2 := ⟨by decide, by decide, by show (zerosB 46).size ≤ 773; rw [zerosB_size]; decide⟩
theorem F2_pcs : pcsN F2.2.size = 2 := by show pcsN (zerosB 46).size = 2; rw [zerosB_size]; rfl
theorem plc_rep (k : Nat) : plc (List.replicate k F2) = 1 + 2 * k := by
  unfold plc
  rw [List.map_replicate, F2_pcs]
  congr 1
  induction k with
  | zero => rfl
  | succ k ih => rw [List.replicate_succ, List.sum_cons, ih]; omega
/-- The pool's owners, and the segments, behind k frames. -/
def Shp (k : Nat) (l : List Int) (ct : Nat) (segs : List Sr) : Prop :=
  (k = 0 ∧ l = List.replicate 6 0 ∧ ct = 0 ∧ segs = []) ∨
  (1 ≤ k ∧ k ≤ 7 ∧ l = (List.replicate 6 0).set 0 9 ∧ ct = 1 ∧ ∃ r, segs = [r] ∧ r.n = 0 ∧ r.sl = false ∧ r.fs = List.replicate k F2) ∨
  (k = 8 ∧ l = ((List.replicate 6 0).set 0 9).set 1 9 ∧ ct = 2 ∧ ∃ r s, segs = [r, s] ∧ r.n = 0 ∧ s.n = 1 ∧ r.fs = List.replicate 7 F2 ∧ s.fs = [F2])
/-- The law's log behind k frames. -/
def E8 (w0 : World) (vb d g' pb pa lb k : Nat) (W : World) : Prop :=
  ∃ ws steps l ct segs A c pk, LgV w0 vb d g' (zeros 98) ws 0 98 steps pb pa l 1 ct lb 9 4 (100 + k) segs A c pk [] W ∧ 0 ≤ steps ∧ steps ≤ 10 * (k : Int) ∧ ws.length ≤ 10 * k ∧ Shp k l ct segs
theorem E8.below {w0 W W' : World} {vb d g' pb pa lb k : Nat} (h : E8 w0 vb d g' pb pa lb k W) (hb : Below W.heap.size W W') : E8 w0 vb d g' pb pa lb k W' := by
  obtain ⟨ws, steps, l, ct, segs, A, c, pk, h1, h2⟩ := h
  exact ⟨ws, steps, l, ct, segs, A, c, pk, h1.below hb, h2⟩
theorem E8.since {w0 W : World} {vb d g' pb pa lb k : Nat} (h : E8 w0 vb d g' pb pa lb k W) : Below w0.heap.size w0 W := by
  obtain ⟨ws, steps, l, ct, segs, A, c, pk, h1, h2⟩ := h
  exact h1.vb_.since
set_option maxRecDepth 100000 in
theorem E8.step {w0 W : World} {vb d g' pb pa lb k : Nat} (h : E8 w0 vb d g' pb pa lb k W) (hk : k < 8) (hT : Wide w0) :
    Calls Tryz.prog 27 #[.pointer (some ⟨lb, 0, none⟩), .agg #[.int .i64 3, .string (zerosB 46)]] W fun e w' => e = .returned (.tuple #[.int .i64 ((100 + k : Nat) : Int), .int .i64 0]) ∧ E8 w0 vb d g' pb pa lb (k + 1) w' := by
  obtain ⟨ws, steps, l, ct, segs, A, c, pk, h1, h2, h3, h4, h5⟩ := h
  have hps : pcsN (zerosB 46).size = 2 := F2_pcs
  rcases h5 with ⟨rfl, rfl, rfl, rfl⟩ | ⟨hk1, hk7, rfl, rfl, r, rfl, hn, hsl, hfs⟩ | ⟨rfl, _⟩
  · refine (log_append_new 3 (zerosB 46) 0 h1 (fun init r e => by simp at e) F2_ok (by simp) (by simp) (by decide) (by decide) ⟨by decide, fun j hj => by omega⟩ (by decide) (by decide) (by decide) hT (room14 0 (by decide)) (by decide) h2 (by omega) (by omega)).mono ?_
    rintro e w' ⟨r1, sb, la', lc', rk', A', c', pk', h6⟩
    rw [hps] at h6
    refine ⟨r1, _, _, _, _, _, A', c', pk', h6, by omega, by omega, ?_, .inr (.inl ⟨by decide, by decide, rfl, rfl, _, rfl, rfl, rfl, rfl⟩)⟩
    rw [List.length_append, List.length_append, putW_len, putW_len]
    omega
  · by_cases hk6 : k ≤ 6
    · refine (log_append_in (init := []) 3 (zerosB 46) h1 hsl F2_ok (by rw [hfs, plc_rep, hps]; omega) (by omega) h2 (by omega) (by omega)).mono ?_
      rintro e w' ⟨r1, la', lc', rk', h6⟩
      rw [hps] at h6
      refine ⟨r1, _, _, _, _, _, _, _, _, h6, by omega, by omega, ?_, .inr (.inl ⟨by omega, by omega, rfl, rfl, _, rfl, hn, hsl, ?_⟩)⟩
      · rw [List.length_append, putW_len]; omega
      · show r.fs ++ [F2] = _
        rw [hfs, List.replicate_succ']
    · obtain rfl : k = 7 := by omega
      refine (log_append_new 3 (zerosB 46) 1 h1 (fun init s e => ?_) F2_ok (by simp) (by simp) (by decide) (by decide) ⟨by decide, fun j hj => ?_⟩ (by decide) (by decide) (by decide) hT (room14 1 (by decide)) (by decide) h2 (by omega) (by omega)).mono ?_
      · have e2 : s = r := by
          cases init with
          | nil => simpa using e.symm
          | cons a b => simp at e
        rw [e2, hfs, plc_rep, hps]
        exact .inr (by decide)
      · obtain rfl : j = 0 := by omega
        decide
      · rintro e w' ⟨r1, sb, la', lc', rk', A', c', pk', h6⟩
        rw [hps] at h6
        refine ⟨r1, _, _, _, _, _, A', c', pk', h6, by omega, by omega, ?_, .inr (.inr ⟨rfl, rfl, rfl, r, _, rfl, hn, rfl, hfs, rfl⟩)⟩
        rw [List.length_append, List.length_append, putW_len, putW_len]
        omega
  · omega
end Go.Proofs.YtahljbjgenepaaaGreatDoor.W
end
section
namespace Go.Proofs.YtahljbjgenepaaaGreatDoor.W
open Go.RowKit Go.Sort
open Go.Proofs.YtahljbjgenepaaaGreatDoor.M Go.Proofs.YtahljbjgenepaaaGreatDoor.D Go.Proofs.YtahljbjgenepaaaGreatDoor.Z
set_option linter.unusedVariables false

theorem E8.start {w w1 w2 w3 : World} {vb d g' pb pa lb : Nat} (hp : Pl w1 pb pa (List.replicate 6 0) 1 0) (hb1 : Below w.heap.size w w1) (h1 : w.heap.size ≤ pb) (h2 : w.heap.size ≤ pa) (hv : SV w1 vb d g' (zeros 98) [] 0 98 (-1) 0 false w2) (hl : w2.heap.size ≤ lb)
    (hL : Whole w3 lb 119 (lgL vb pb 9 4 none 0 0 100)) (hb3 : Below w2.heap.size w2 w3) : E8 w vb d g' pb pa lb 0 w3 := by
  have hb2 : Below w1.heap.size w1 w2 := hv.since
  have hp3 := (hp.grow hb2).grow hb3
  have e1 := hp.box.lt
  have e2 := hp.row.lt
  have e3 := hb2.size
  refine ⟨[], 0, _, 0, [], none, 0, [], ⟨⟨(hv.base hb1).below hb3, fun x hx => ?_, ?_⟩, .inl ⟨rfl, rfl, rfl, rfl⟩, fun r hr => by simp at hr, by decide, rfl, by decide⟩, by decide, by decide, by decide, .inl ⟨rfl, rfl, rfl, rfl⟩⟩
  · rcases List.mem_cons.1 hx with rfl | hx
    · exact ⟨hp3.box, by show plainT 113; decide, h1⟩
    · rcases List.mem_cons.1 hx with rfl | hx
      · exact ⟨hp3.row, by show plainT 3; decide, h2⟩
      · obtain rfl := List.mem_singleton.1 hx
        exact ⟨hL, by show plainT 119; decide, by have := hb1.size; show w.heap.size ≤ lb; omega⟩
  · show ([pb, pa, lb] : List Nat).Nodup
    have := hp.ne
    simp
    omega
theorem toldNew (u : World) : Told (u.alloc (.cells #[.int .i64 0, .int .i64 1] 3)) (some ⟨u.heap.size, 0, none⟩) [0, 1] := fun k x hk => by
  have h := Whole.new u 3 [.int .i64 0, .int .i64 1]
  refine ⟨u.heap.size, rfl, (h.cell k).trans ?_⟩
  match k, hk with
  | 0, hk => cases hk; rfl
  | 1, hk => cases hk; rfl
theorem toldNewB {u w' : World} (hb : Below (u.alloc (.cells #[.int .i64 0, .int .i64 1] 3)).heap.size (u.alloc (.cells #[.int .i64 0, .int .i64 1] 3)) w') : Told w' (some ⟨u.heap.size, 0, none⟩) [0, 1] := (toldNew u).grow hb
/-- The log behind eight frames. -/
theorem E8.end_ {w0 W : World} {vb d g' pb pa lb : Nat} (h : E8 w0 vb d g' pb pa lb 8 W) :
    ∃ segs A c l, LogAt W vb lb pb 9 4 108 segs A c ∧ baseOf segs 108 = 100 ∧ (allF segs)[7]? = some F2 ∧ segs.length = 2 ∧ (segs.map fun r => (r.n : Int)) = [0, 1] ∧ Pl W pb pa l 1 2 ∧ l.length = 6 ∧ freeN l = 4 := by
  obtain ⟨ws, steps, l, ct, segs, A, c, pk, h1, h2, h3, h4, h5⟩ := h
  rcases h5 with ⟨e, _⟩ | ⟨_, e, _⟩ | ⟨_, rfl, rfl, r, s, rfl, hn, hm, hf, hg⟩
  · omega
  · omega
  · have hat := h1.at_
    have hF : allF [r, s] = List.replicate 7 F2 ++ [F2] := by rw [allF_cons, allF_cons, hf, hg]; rfl
    have hl := allF_len hat.chain
    rw [hF] at hl
    refine ⟨[r, s], A, c, _, hat, ?_, by rw [hF]; rfl, rfl, by simp [hn, hm], h1.vb_.pool, by simp, by decide⟩
    have h8 : (List.replicate 7 F2 ++ [F2]).length = 8 := rfl
    have hl2 : baseOf [r, s] 108 + (List.replicate 7 F2 ++ [F2]).length = 108 := hl
    rw [h8] at hl2
    omega
set_option maxRecDepth 100000 in
set_option maxHeartbeats 8000000 in
theorem eight_any (w : World) (hT : Wide w) : Calls Tryz.prog 8 #[] w fun e w' => e = .returned (.bool true) ∧ Below w.heap.size w w' := by
  have hpn : Hid (∀ W, Calls Tryz.prog 13 #[.int .i64 6, .int .i64 1] W fun x w' => ∃ pb pa, x = .returned (.tuple #[.pointer (some ⟨pb, 0, none⟩), .int .i64 0]) ∧ Pl w' pb pa (List.replicate 6 0) 1 0 ∧ W.heap.size ≤ pb ∧ W.heap.size ≤ pa ∧ Below W.heap.size W w') := Lib.hid (fun W => (pnew_yes 6 1 W (by decide) (by decide) (by decide)).mono fun e w' ⟨r1, r2, r3⟩ => ⟨_, _, r1, r2, Nat.le_succ _, Nat.le_refl _, r3⟩)
  have hfr := Lib.hid fresh14_any
  have hst : Hid (∀ (vb d g' pb pa lb k : Nat) (W : World), E8 w vb d g' pb pa lb k W → k < 8 → Calls Tryz.prog 27 #[.pointer (some ⟨lb, 0, none⟩), .agg #[.int .i64 3, .string (zerosB 46)]] W fun e w' => e = .returned (.tuple #[.int .i64 ((100 + k : Nat) : Int), .int .i64 0]) ∧ E8 w vb d g' pb pa lb (k + 1) w') := Lib.hid (fun vb d g' pb pa lb k W h hk => h.step hk hT)
  have htw := Lib.hid two_any
  have hsf := fun W => same_fr 3 (zerosB 46) (by decide) (by rw [zerosB_size]; decide) W
  obtain ⟨Z, hZ⟩ : ∃ Z, Hid (zerosB 46 = Z) := ⟨_, Lib.hid rfl⟩
  have hF2 : Hid (F2 = (3, Z)) := Lib.hid (by rw [← hZ.out]; rfl)
  rw [hZ.out] at hst htw hsf
  go_enter Tryz.func8, Tryz.ntmps8
  go_wp2_with fail
  refine (hpn.out _).mono ?_
  rintro _ w1 ⟨pb, pa, rfl, hp, hpb, hpa, hb1⟩
  go_wp2_with fail
  refine (hfr.out _).mono ?_
  rintro _ w2 ⟨vb, d, g', rfl, hv⟩
  have hnl : Hid (Calls Tryz.prog 14 #[.pointer (some ⟨vb, 0, none⟩), .pointer (some ⟨pb, 0, none⟩), .int .i64 9, .int .u32 4, .int .i64 100] w2 fun e w' => ∃ lb, e = .returned (.tuple #[.pointer (some ⟨lb, 0, none⟩), .int .i64 0]) ∧ w2.heap.size ≤ lb ∧ Whole w' lb 119 (lgL vb pb 9 4 none 0 0 100) ∧ Below w2.heap.size w2 w') := Lib.hid (log_new_yes pb 9 4 100 w2 ((hT.below hb1).below hv.since) (by decide) (by decide) (by decide) (by decide))
  replace hv := Lib.hid hv
  replace hp := Lib.hid hp
  replace hb1 := Lib.hid hb1
  go_wp2_with fail
  refine hnl.out.mono ?_
  rintro _ w3 ⟨lb, rfl, hlb, hL, hb3⟩
  have h0 := Lib.hid (E8.start hp.out hb1.out hpb hpa hv.out hlb hL hb3)
  clear hp hb1 hpb hpa hv hnl hlb hL hb3 hpn hfr
  go_wp2_with fail
  go_loopg [5, 20] 8 (fun ga la ix wr => ∃ (k : Nat), k ≤ 8 ∧ 8 ≤ k + ga ∧ ix = .int .i64 k ∧ la = .int .i64 (if k = 0 then 0 else ((99 + k : Nat) : Int)) ∧ Hid (E8 w vb d g' pb pa lb k wr))
  case atStart => exact ⟨0, by omega, by omega, rfl, rfl, h0⟩
  case round =>
    clear h0
    obtain ⟨k, hk, hgk, rfl, rfl, hrel⟩ := hrel
    generalize wr = wo at *
    by_cases hlt : k < 8
    · have hlI : (k : Int) < 8 := by omega
      have hap := Lib.hid (fun V (hb : Below wo.heap.size wo V) => hst.out vb d g' pb pa lb k V (hrel.out.below hb) hlt)
      obtain ⟨q, hq⟩ : ∃ q : Int, Hid (((100 + k : Nat) : Int) = q) := ⟨_, Lib.hid rfl⟩
      rw [hq.out] at hap
      obtain ⟨la, hla⟩ : ∃ q : Int, Hid ((if k = 0 then 0 else ((99 + k : Nat) : Int)) = q) := ⟨_, Lib.hid rfl⟩
      rw [hla.out]
      clear hrel
      go_wp2_with fail
      refine (htw.out _).mono ?_
      rintro _ w5 ⟨rfl, hb5⟩
      go_wp2_with fail
      refine (hap.out _ hb5).mono ?_
      rintro _ w6 ⟨rfl, h6⟩
      replace h6 := Lib.hid h6
      clear hap hb5
      go_wp2_with fail
      go_roundg (gk - 1)
      case measure => omega
      case rel => exact ⟨k + 1, by omega, by omega, by go_num, by rw [if_neg (by omega), ← hq.out]; congr 1; omega, h6⟩
    · obtain rfl : k = 8 := by omega
      obtain ⟨segs, A, c, l, hat, hbase, hf7, hs2, hns, hpl, hl6, hfn⟩ := E8.end_ hrel.out
      have hB := hrel.out.since
      rw [hF2.out] at hf7
      have hrd : Hid (Calls Tryz.prog 42 #[.pointer (some ⟨lb, 0, none⟩), .int .i64 107] wo fun e w' => e = .returned (.tuple #[.agg #[.int .i64 3, .string Z], .int .i64 0]) ∧ Below wo.heap.size wo w') := Lib.hid (read_yes hat 107 3 Z (by omega) (by decide) (by rw [hbase]; exact hf7))
      have hlast : (if (8 : Nat) = 0 then (0 : Int) else ((99 + 8 : Nat) : Int)) = 107 := by decide
      rw [hlast]
      replace hB := Lib.hid hB
      clear hrel
      go_wp2_with fail
      refine hrd.out.mono ?_
      rintro _ w5 ⟨rfl, hb5⟩
      have hbA := grewAlloc hb5 (.cells #[.int .i64 3, .string Z] 43)
      have hX := Whole.new w5 43 [.int .i64 3, .string Z]
      have hat7 := hat.below hbA
      have hpl7 := hpl.grow hbA
      have hB7 := Lib.hid (grew hB.out hbA)
      obtain ⟨w7, hw7⟩ : ∃ w7, Hid (w7 = w5.alloc (.cells #[.int .i64 3, .string Z] 43)) := ⟨_, Lib.hid rfl⟩
      rw [← hw7.out] at hX hat7 hpl7 hB7
      obtain ⟨xb, hxb⟩ : ∃ xb, Hid (w5.heap.size = xb) := ⟨_, Lib.hid rfl⟩
      rw [hxb.out] at hX
      have hsg : Hid (∀ W, Below w7.heap.size w7 W → Calls Tryz.prog 18 #[.pointer (some ⟨lb, 0, none⟩)] W fun e w' => ∃ g, e = .returned (.slice (some ⟨g, 0, none⟩) 2 2) ∧ Told w' (some ⟨g, 0, none⟩) [0, 1] ∧ Below W.heap.size W w') := Lib.hid (fun W hb => by
        refine (segments_any (hat7.below hb) (by omega)).mono ?_
        rintro e w' ⟨g, r1, r2, r3, r4⟩
        rw [hs2] at r1
        rw [hns] at r2
        refine ⟨g, r1, fun k x hk => ⟨g, rfl, (r2.cell k).trans ?_⟩, r4⟩
        match k, hk with
        | 0, hk => cases hk; rfl
        | 1, hk => cases hk; rfl)
      have hin : Hid (∀ (A1 A2 : Option Addr) (W : World), Told W A1 [0, 1] → Told W A2 [0, 1] → Calls Tryz.prog 19 #[.slice A1 2 2, .slice A2 2 2] W fun e w' => e = .returned (.bool true) ∧ Below W.heap.size W w') := Lib.hid (fun A1 A2 W k1 k2 => pints_any A1 A2 2 2 [0, 1] W k1 k2 (by decide))
      have hnx : Hid (∀ W, Below w7.heap.size w7 W → Calls Tryz.prog 21 #[.pointer (some ⟨lb, 0, none⟩)] W fun e w' => e = .returned (.int .i64 108) ∧ W = w') := Lib.hid (fun W hb => next_any lb _ W ((hat7.below hb).obj.cell 5))
      have hid9 : Hid (∀ W, Below w7.heap.size w7 W → Calls Tryz.prog 43 #[.pointer (some ⟨lb, 0, none⟩)] W fun e w' => e = .returned (.int .i64 9) ∧ W = w') := Lib.hid (fun W hb => id_any lb _ W ((hat7.below hb).obj.cell 2))
      have hgn : Hid (∀ W, Below w7.heap.size w7 W → Calls Tryz.prog 44 #[.pointer (some ⟨lb, 0, none⟩)] W fun e w' => e = .returned (.int .u32 4) ∧ W = w') := Lib.hid (fun W hb => gen_any lb _ W ((hat7.below hb).obj.cell 3))
      have hba : Hid (∀ W, Below w7.heap.size w7 W → Calls Tryz.prog 15 #[.pointer (some ⟨lb, 0, none⟩)] W fun e w' => e = .returned (.int .i64 100) ∧ Below W.heap.size W w') := Lib.hid (fun W hb => by
        have := lbase_any (hat7.below hb)
        rw [hbase] at this
        exact this)
      have hfe : Hid (∀ W, Below w7.heap.size w7 W → Calls Tryz.prog 29 #[.pointer (some ⟨pb, 0, none⟩)] W fun e w' => e = .returned (.int .i64 4) ∧ Below W.heap.size W w') := Lib.hid (fun W hb => by
        have := pfree_any (hpl7.grow hb) (by omega)
        rw [hfn] at this
        exact this)
      have x0 : ∀ W, Below w7.heap.size w7 W → W.cell? ⟨xb, 0, none⟩ = some (.int .i64 3) := fun W hb => (hX.below hb hX.lt).cell 0
      have x1 : ∀ W, Below w7.heap.size w7 W → W.cell? ⟨xb, 1, none⟩ = some (.string Z) := fun W hb => (hX.below hb hX.lt).cell 1
      have hV0 : Below w7.heap.size w7 w7 := Below.refl _ _
      have hV1 : Below w7.heap.size w7 w7.drew := (Below.refl _ _).drew
      have hfin : Hid (∀ W, Below w7.heap.size w7 W → Below w.heap.size w W) := Lib.hid (fun W hb => grew hB7.out hb)
      clear hat hat7 hpl hpl7 hbA hb5 hns hs2 hbase hf7 hfn hl6
      go_wp2_with fail
      rw [hxb.out, ← show w7 = _ from hw7.out]
      go_region_held3 (fun w' => Below w7.heap.size w7 w') (first | assumption | exact grewAlloc (by assumption) _ | (go_keep)) (first
        | (go_at_call 41; (with_reducible refine (htw.out _).mono ?_); rintro _ w21 ⟨rfl, hb21⟩; have hk21 : Below w7.heap.size w7 w21 := grew (by assumption) hb21)
        | (go_at_call 18; (with_reducible refine (hsg.out _ (by first | assumption | exact grewAlloc (by assumption) _)).mono ?_); rintro _ w22 ⟨sgb, rfl, ht22, hb22⟩; have hk22 : Below w7.heap.size w7 w22 := grew (by first | assumption | exact grewAlloc (by assumption) _) hb22; (try have htb := toldNewB hb22))
        | (go_at_call 19; (first | (with_reducible refine (hin.out _ _ _ (ht22.grow (allocBelow _ _)) (toldNew _)).mono ?_) | (with_reducible refine (hin.out _ _ _ ht22 htb).mono ?_)); rintro _ w23 ⟨rfl, hb23⟩; have hk23 : Below w7.heap.size w7 w23 := grew (by first | assumption | exact grewAlloc (by assumption) _) hb23)
        | (go_at_call 21; (with_reducible refine (hnx.out _ (by assumption)).mono ?_); rintro _ w24 ⟨rfl, rfl⟩)
        | (go_at_call 15; (with_reducible refine (hba.out _ (by assumption)).mono ?_); rintro _ w25 ⟨rfl, hb25⟩; have hk25 : Below w7.heap.size w7 w25 := grew (by assumption) hb25)
        | (go_at_call 43; (with_reducible refine (hid9.out _ (by assumption)).mono ?_); rintro _ w26 ⟨rfl, rfl⟩)
        | (go_at_call 44; (with_reducible refine (hgn.out _ (by assumption)).mono ?_); rintro _ w27 ⟨rfl, rfl⟩)
        | (go_at_call 29; (with_reducible refine (hfe.out _ (by assumption)).mono ?_); rintro _ w28 ⟨rfl, hb28⟩; have hk28 : Below w7.heap.size w7 w28 := grew (by assumption) hb28))
      all_goals
        go_wp2_with fail
        go_ret
        exact ⟨rfl, hfin.out _ (by assumption)⟩
end Go.Proofs.YtahljbjgenepaaaGreatDoor.W
end
