/- Rows of numbers held against one another. The small case of layer 14: eight frames of two pieces. The small case of layer 14: the law's eight. -/
import Derived.Test.YtgogackkeodciabGreatDoorPlA
import Derived.Deep.DrawnRows
import Derived.Deep.Quiet
import Derived.Deep.QuietTactic
import Derived.Test.YtgogackkeodciabGreatDoorLgG
import Derived.Test.YtgogackkeodciabGreatDoorZeros
import Derived.Test.YtgogackkeodciabGreatDoorSgT
section
namespace Go.Proofs.YtgogackkeodciabGreatDoor.W
open Go.RowKit
open Go.Proofs.YtgogackkeodciabGreatDoor.M Go.Proofs.YtgogackkeodciabGreatDoor.D Go.Proofs.YtgogackkeodciabGreatDoor.Z
set_option linter.unusedVariables false

end Go.Proofs.YtgogackkeodciabGreatDoor.W
end
section
namespace Go.Proofs.YtgogackkeodciabGreatDoor.W
open Go.RowKit Go.Sort
open Go.Proofs.YtgogackkeodciabGreatDoor.M Go.Proofs.YtgogackkeodciabGreatDoor.D Go.Proofs.YtgogackkeodciabGreatDoor.Z
set_option linter.unusedVariables false

theorem SV.base {w0 w1 W : World} {vb d g' from_ m : Nat} {lie : List (List UInt8)} {ws : List (Nat × List UInt8)} {fuse steps : Int} {gone : Bool} (h : SV w1 vb d g' lie ws from_ m fuse steps gone W) (hb : Below w0.heap.size w0 w1) : SV w0 vb d g' lie ws from_ m fuse steps gone W := by
  obtain ⟨v, k1, k2, k3⟩ := h
  have hs := hb.size
  exact ⟨v, k1, fun k hk => Nat.le_trans hs (k2 k hk), hb.trans (k3.mono hs)⟩
theorem room14 (n : Nat) (h : n < 6) : Room 0 98 n := ⟨96, rfl, by omega, h⟩
/-- A frame of two pieces. -/
def F2 : Int × ByteArray := (3, zerosB 46)
theorem F2_ok : FrOk F2 := ⟨by decide, by decide, by show (zerosB 46).size ≤ 773; rw [zerosB_size]; decide⟩
theorem F2_pcs : pcsN F2.2.size = 2 := by show pcsN (zerosB 46).size = 2; rw [zerosB_size]; rfl
theorem plc_rep (k : Nat) : plc (List.replicate k F2) = 1 + 2 * k := by
  unfold plc
  rw [List.map_replicate, F2_pcs]
  congr 1
  induction k with
  | zero => rfl
  | succ k ih => rw [List.replicate_succ, List.sum_cons, ih]; omega
/-- The pool's owners, and the segments, behind k frames. -/
def Shp (k : Nat) (l : List Int) (ct : Nat) (segs : List Sr) : Prop :=
  (k = 0 ∧ l = List.replicate 6 0 ∧ ct = 0 ∧ segs = []) ∨
  (1 ≤ k ∧ k ≤ 7 ∧ l = (List.replicate 6 0).set 0 9 ∧ ct = 1 ∧ ∃ r, segs = [r] ∧ r.n = 0 ∧ r.sl = false ∧ r.fs = List.replicate k F2) ∨
  (k = 8 ∧ l = ((List.replicate 6 0).set 0 9).set 1 9 ∧ ct = 2 ∧ ∃ r s, segs = [r, s] ∧ r.n = 0 ∧ s.n = 1 ∧ r.fs = List.replicate 7 F2 ∧ s.fs = [F2])
/-- The law's log behind k frames. -/
def E8 (w0 : World) (vb d g' pb pa lb k : Nat) (W : World) : Prop :=
  ∃ ws steps l ct segs A c pk, LgV w0 vb d g' (zeros 98) ws 0 98 steps pb pa l 1 ct lb 9 4 (100 + k) segs A c pk [] W ∧ 0 ≤ steps ∧ steps ≤ 10 * (k : Int) ∧ ws.length ≤ 10 * k ∧ Shp k l ct segs
theorem E8.below {w0 W W' : World} {vb d g' pb pa lb k : Nat} (h : E8 w0 vb d g' pb pa lb k W) (hb : Below W.heap.size W W') : E8 w0 vb d g' pb pa lb k W' := by
  obtain ⟨ws, steps, l, ct, segs, A, c, pk, h1, h2⟩ := h
  exact ⟨ws, steps, l, ct, segs, A, c, pk, h1.below hb, h2⟩
theorem E8.since {w0 W : World} {vb d g' pb pa lb k : Nat} (h : E8 w0 vb d g' pb pa lb k W) : Below w0.heap.size w0 W := by
  obtain ⟨ws, steps, l, ct, segs, A, c, pk, h1, h2⟩ := h
  exact h1.vb_.since
set_option maxRecDepth 100000 in
theorem E8.step {w0 W : World} {vb d g' pb pa lb k : Nat} (h : E8 w0 vb d g' pb pa lb k W) (hk : k < 8) (hT : Wide w0) :
    Calls Tryz.prog 27 #[.pointer (some ⟨lb, 0, none⟩), .agg #[.int .i64 3, .string (zerosB 46)]] W fun e w' => e = .returned (.tuple #[.int .i64 ((100 + k : Nat) : Int), .int .i64 0]) ∧ E8 w0 vb d g' pb pa lb (k + 1) w' := by
  obtain ⟨ws, steps, l, ct, segs, A, c, pk, h1, h2, h3, h4, h5⟩ := h
  have hps : pcsN (zerosB 46).size = 2 := F2_pcs
  rcases h5 with ⟨rfl, rfl, rfl, rfl⟩ | ⟨hk1, hk7, rfl, rfl, r, rfl, hn, hsl, hfs⟩ | ⟨rfl, _⟩
  · refine (log_append_new 3 (zerosB 46) 0 h1 (fun init r e => by simp at e) F2_ok (by simp) (by simp) (by decide) (by decide) ⟨by decide, fun j hj => by omega⟩ (by decide) (by decide) (by decide) hT (room14 0 (by decide)) (by decide) h2 (by omega) (by omega)).mono ?_
    rintro e w' ⟨r1, sb, la', lc', rk', A', c', pk', h6⟩
    rw [hps] at h6
    refine ⟨r1, _, _, _, _, _, A', c', pk', h6, by omega, by omega, ?_, .inr (.inl ⟨by decide, by decide, rfl, rfl, _, rfl, rfl, rfl, rfl⟩)⟩
    rw [List.length_append, List.length_append, putW_len, putW_len]
    omega
  · by_cases hk6 : k ≤ 6
    · refine (log_append_in (init := []) 3 (zerosB 46) h1 hsl F2_ok (by rw [hfs, plc_rep, hps]; omega) (by omega) h2 (by omega) (by omega)).mono ?_
      rintro e w' ⟨r1, la', lc', rk', h6⟩
      rw [hps] at h6
      refine ⟨r1, _, _, _, _, _, _, _, _, h6, by omega, by omega, ?_, .inr (.inl ⟨by omega, by omega, rfl, rfl, _, rfl, hn, hsl, ?_⟩)⟩
      · rw [List.length_append, putW_len]; omega
      · show r.fs ++ [F2] = _
        rw [hfs, List.replicate_succ']
    · obtain rfl : k = 7 := by omega
      refine (log_append_new 3 (zerosB 46) 1 h1 (fun init s e => ?_) F2_ok (by simp) (by simp) (by decide) (by decide) ⟨by decide, fun j hj => ?_⟩ (by decide) (by decide) (by decide) hT (room14 1 (by decide)) (by decide) h2 (by omega) (by omega)).mono ?_
      · have e2 : s = r := by
          cases init with
          | nil => simpa using e.symm
          | cons a b => simp at e
        rw [e2, hfs, plc_rep, hps]
        exact .inr (by decide)
      · obtain rfl : j = 0 := by omega
        decide
      · rintro e w' ⟨r1, sb, la', lc', rk', A', c', pk', h6⟩
        rw [hps] at h6
        refine ⟨r1, _, _, _, _, _, A', c', pk', h6, by omega, by omega, ?_, .inr (.inr ⟨rfl, rfl, rfl, r, _, rfl, hn, rfl, hfs, rfl⟩)⟩
        rw [List.length_append, List.length_append, putW_len, putW_len]
        omega
  · omega
end Go.Proofs.YtgogackkeodciabGreatDoor.W
end
section
namespace Go.Proofs.YtgogackkeodciabGreatDoor.W
open Go.RowKit Go.Sort
open Go.Proofs.YtgogackkeodciabGreatDoor.M Go.Proofs.YtgogackkeodciabGreatDoor.D Go.Proofs.YtgogackkeodciabGreatDoor.Z
set_option linter.unusedVariables false

theorem E8.start {w w1 w2 w3 : World} {vb d g' pb pa lb : Nat} (hp : Pl w1 pb pa (List.replicate 6 0) 1 0) (hb1 : Below w.heap.size w w1) (h1 : w.heap.size ≤ pb) (h2 : w.heap.size ≤ pa) (hv : SV w1 vb d g' (zeros 98) [] 0 98 (-1) 0 false w2) (hl : w2.heap.size ≤ lb)
    (hL : Whole w3 lb 82 (lgL vb pb 9 4 none 0 0 100)) (hb3 : Below w2.heap.size w2 w3) : E8 w vb d g' pb pa lb 0 w3 := by
  have hb2 : Below w1.heap.size w1 w2 := hv.since
  have hp3 := (hp.grow hb2).grow hb3
  have e1 := hp.box.lt
  have e2 := hp.row.lt
  have e3 := hb2.size
  refine ⟨[], 0, _, 0, [], none, 0, [], ⟨⟨(hv.base hb1).below hb3, fun x hx => ?_, ?_⟩, .inl ⟨rfl, rfl, rfl, rfl⟩, fun r hr => by simp at hr, by decide, rfl, by decide⟩, by decide, by decide, by decide, .inl ⟨rfl, rfl, rfl, rfl⟩⟩
  · rcases List.mem_cons.1 hx with rfl | hx
    · exact ⟨hp3.box, by show plainT 63; decide, h1⟩
    · rcases List.mem_cons.1 hx with rfl | hx
      · exact ⟨hp3.row, by show plainT 3; decide, h2⟩
      · obtain rfl := List.mem_singleton.1 hx
        exact ⟨hL, by show plainT 82; decide, by have := hb1.size; show w.heap.size ≤ lb; omega⟩
  · show ([pb, pa, lb] : List Nat).Nodup
    have := hp.ne
    simp
    omega
theorem toldNew (u : World) : Told (u.alloc (.cells #[.int .i64 0, .int .i64 1] 3)) (some ⟨u.heap.size, 0, none⟩) [0, 1] := fun k x hk => by
  have h := Whole.new u 3 [.int .i64 0, .int .i64 1]
  refine ⟨u.heap.size, rfl, (h.cell k).trans ?_⟩
  match k, hk with
  | 0, hk => cases hk; rfl
  | 1, hk => cases hk; rfl
theorem toldNewB {u w' : World} (hb : Below (u.alloc (.cells #[.int .i64 0, .int .i64 1] 3)).heap.size (u.alloc (.cells #[.int .i64 0, .int .i64 1] 3)) w') : Told w' (some ⟨u.heap.size, 0, none⟩) [0, 1] := (toldNew u).grow hb
/-- The log behind eight frames. -/
theorem E8.end_ {w0 W : World} {vb d g' pb pa lb : Nat} (h : E8 w0 vb d g' pb pa lb 8 W) :
    ∃ segs A c l, LogAt W vb lb pb 9 4 108 segs A c ∧ baseOf segs 108 = 100 ∧ (allF segs)[7]? = some F2 ∧ segs.length = 2 ∧ (segs.map fun r => (r.n : Int)) = [0, 1] ∧ Pl W pb pa l 1 2 ∧ l.length = 6 ∧ freeN l = 4 := by
  obtain ⟨ws, steps, l, ct, segs, A, c, pk, h1, h2, h3, h4, h5⟩ := h
  rcases h5 with ⟨e, _⟩ | ⟨_, e, _⟩ | ⟨_, rfl, rfl, r, s, rfl, hn, hm, hf, hg⟩
  · omega
  · omega
  · have hat := h1.at_
    have hF : allF [r, s] = List.replicate 7 F2 ++ [F2] := by rw [allF_cons, allF_cons, hf, hg]; rfl
    have hl := allF_len hat.chain
    rw [hF] at hl
    refine ⟨[r, s], A, c, _, hat, ?_, by rw [hF]; rfl, rfl, by simp [hn, hm], h1.vb_.pool, by simp, by decide⟩
    have h8 : (List.replicate 7 F2 ++ [F2]).length = 8 := rfl
    have hl2 : baseOf [r, s] 108 + (List.replicate 7 F2 ++ [F2]).length = 108 := hl
    rw [h8] at hl2
    omega
end Go.Proofs.YtgogackkeodciabGreatDoor.W
end
