/- Turns that come in as a slice, opened. A view of a law's own into which sectors are written one by one. -/
import Derived.Test.YtlgoepbfdldgnaaDoorLdA
import Derived.Deep.Slices
section
namespace Go.Proofs.YtlgoepbfdldgnaaDoor.W
open Go.ChangeShapes Go.WideShapes Go.ChangeAt Go.RowKit Go.Sort
open Go.Proofs.YtlgoepbfdldgnaaDoor.M Go.Proofs.YtlgoepbfdldgnaaDoor.D Go.Proofs.YtlgoepbfdldgnaaDoor.Z
set_option linter.unusedVariables false

theorem cellsTn : Tryd.prog.cellsOf 61 = 5 := by kernel_rfl
/-- A slice of turns. -/
structure TurnIn (w : World) (a : Option Addr) (len : Nat) : Prop where
  at_ : ∀ j, j < len → ∃ b o, a = some ⟨b, o, none⟩ ∧ b < w.heap.size ∧ ∃ (ta tf : Int) (st : Nat) (tc tb : Int), st < 4294967296 ∧
    w.cell? ⟨b, o + j * 5, none⟩ = some (.int .i64 ta) ∧ w.cell? ⟨b, o + (j * 5 + 1), none⟩ = some (.int .i64 tf) ∧ w.cell? ⟨b, o + (j * 5 + 2), none⟩ = some (.int .u32 (st : Int)) ∧ w.cell? ⟨b, o + (j * 5 + 3), none⟩ = some (.int .i64 tc) ∧ w.cell? ⟨b, o + (j * 5 + 4), none⟩ = some (.int .i64 tb)
theorem TurnIn.below {w w' : World} {a : Option Addr} {len : Nat} (h : TurnIn w a len) (hb : Below w.heap.size w w') : TurnIn w' a len := ⟨fun j hj => by
  obtain ⟨b, o, e1, e2, ta, tf, st, tc, tb, e3, k0, k1, k2, k3, k4⟩ := h.at_ j hj
  exact ⟨b, o, e1, Nat.lt_of_lt_of_le e2 hb.size, ta, tf, st, tc, tb, e3, keepCell hb k0, keepCell hb k1, keepCell hb k2, keepCell hb k3, keepCell hb k4⟩⟩
section
variable {H : Type} {enc : TypeId × Value → H} {w : World} {base : Nat} {held : Bool}
set_option maxRecDepth 100000 in
theorem turn_cells {fuel : Nat} {cs : List Value} {x : DataW H × List MemPlace} (hl : cs.length = 5) (hf : DataW.trod enc Tryd.prog w base (fun _ => true) held fuel 61 cs = some x) :
    ∃ (ta tf : Int) (st : Nat) (tc tb : Int), cs = [.int .i64 ta, .int .i64 tf, .int .u32 (st : Int), .int .i64 tc, .int .i64 tb] ∧ st < 4294967296 := by
  match cs, hl with
  | [c0, c1, c2, c3, c4], _ =>
    obtain ⟨xs, n, _, _, _, hlen, hg⟩ := DataW.trod_struct Tryd.underlying61 hf
    match xs, hlen with
    | [y0, y1, y2, y3, y4], _ =>
      have h0 : DataW.trod enc Tryd.prog w base (fun _ => true) held n 3 ((([c0, c1, c2, c3, c4] : List Value).drop 0).take (Tryd.prog.cellsOf 3)) = some y0 := hg 0 _ rfl
      have h1 : DataW.trod enc Tryd.prog w base (fun _ => true) held n 3 ((([c0, c1, c2, c3, c4] : List Value).drop 1).take (Tryd.prog.cellsOf 3)) = some y1 := hg 1 _ rfl
      have h2 : DataW.trod enc Tryd.prog w base (fun _ => true) held n 22 ((([c0, c1, c2, c3, c4] : List Value).drop 2).take (Tryd.prog.cellsOf 22)) = some y2 := hg 2 _ rfl
      have h3 : DataW.trod enc Tryd.prog w base (fun _ => true) held n 3 ((([c0, c1, c2, c3, c4] : List Value).drop 3).take (Tryd.prog.cellsOf 3)) = some y3 := hg 3 _ rfl
      have h4 : DataW.trod enc Tryd.prog w base (fun _ => true) held n 3 ((([c0, c1, c2, c3, c4] : List Value).drop 4).take (Tryd.prog.cellsOf 3)) = some y4 := hg 4 _ rfl
      rw [cellsHdI] at h0 h1 h3 h4
      rw [cellsHdU] at h2
      obtain ⟨x0, e0, _, w0⟩ := DataW.trod_int Tryd.underlying3 (show DataW.trod enc Tryd.prog w base (fun _ => true) held n 3 [c0] = some y0 from h0)
      obtain ⟨x1, e1, _, w1⟩ := DataW.trod_int Tryd.underlying3 (show DataW.trod enc Tryd.prog w base (fun _ => true) held n 3 [c1] = some y1 from h1)
      obtain ⟨x2, e2, _, w2⟩ := DataW.trod_int Tryd.underlying22 (show DataW.trod enc Tryd.prog w base (fun _ => true) held n 22 [c2] = some y2 from h2)
      obtain ⟨x3, e3, _, w3⟩ := DataW.trod_int Tryd.underlying3 (show DataW.trod enc Tryd.prog w base (fun _ => true) held n 3 [c3] = some y3 from h3)
      obtain ⟨x4, e4, _, w4⟩ := DataW.trod_int Tryd.underlying3 (show DataW.trod enc Tryd.prog w base (fun _ => true) held n 3 [c4] = some y4 from h4)
      obtain ⟨g1, g2⟩ := lit_u32 w2
      obtain ⟨s, rfl⟩ := lit_nat g1
      simp only [List.cons.injEq, and_true] at e0 e1 e2 e3 e4
      subst e0 e1 e2 e3 e4
      exact ⟨x0, x1, s, x3, x4, rfl, by omega⟩
set_option maxRecDepth 100000 in
theorem open_turns13 {fuel : Nat} {a : Option Addr} {len cap : Nat} {x : DataW H × List MemPlace} (h : DataW.trod enc Tryd.prog w base (fun _ => true) held fuel 59 [.slice a len cap] = some x) : ∃ _ : Unit, TurnIn w a len := by
  refine ⟨(), ?_⟩
  rcases Deep.open_slice Tryd.underlying59 h with ⟨hcs, _⟩ | ⟨a', len', cap', m, n, D, Pl, hcs, _, hl, hm, hmm, _, hi⟩
  · have hkv : Value.slice a len cap = .slice none 0 0 := by simpa using hcs
    injection hkv with e1 e2 e3
    subst e1 e2
    exact ⟨fun j hj => by omega⟩
  · have hkv : Value.slice a len cap = .slice (some a') len' cap' := by simpa using hcs
    injection hkv with e1 e2 e3
    subst e1 e2
    have hq : ∀ i, i < len → ∃ (ta tf : Int) (st : Nat) (tc tb : Int), st < 4294967296 ∧ w.cell? (a'.add (i * 5 + 0)) = some (.int .i64 ta) ∧ w.cell? (a'.add (i * 5 + 1)) = some (.int .i64 tf) ∧ w.cell? (a'.add (i * 5 + 2)) = some (.int .u32 (st : Int)) ∧ w.cell? (a'.add (i * 5 + 3)) = some (.int .i64 tc) ∧ w.cell? (a'.add (i * 5 + 4)) = some (.int .i64 tb) := fun i hlt => by
      obtain ⟨cs', hc, ht'⟩ := hi i (by rw [hmm]; simp; omega)
      rw [cellsTn] at hc
      obtain ⟨_, hcl, hat⟩ := World.cells?_some hc
      obtain ⟨ta, tf, st, tc, tb, rfl, hst⟩ := turn_cells hcl ht'
      have a0 := hat 0 (by omega)
      have a1 := hat 1 (by omega)
      have a2 := hat 2 (by omega)
      have a3 := hat 3 (by omega)
      have a4 := hat 4 (by omega)
      rw [Deep.add_add] at a0 a1 a2 a3 a4
      exact ⟨ta, tf, st, tc, tb, hst, a0, a1, a2, a3, a4⟩
    refine ⟨fun j hj => ?_⟩
    obtain ⟨u0, h00⟩ : ∃ u, w.cell? (a'.add 0) = some u := by
      obtain ⟨_, _, _, _, _, _, r0, _⟩ := hq 0 (by omega)
      exact ⟨_, r0⟩
    obtain ⟨ta, tf, st, tc, tb, hst, g0, g1, g2, g3, g4⟩ := hq j hj
    obtain ⟨b, o, rfl, k0⟩ := spotF h00 g0
    obtain ⟨b1, o1, e1, k1⟩ := spotF h00 g1
    obtain ⟨b2, o2, e2, k2⟩ := spotF h00 g2
    obtain ⟨b3, o3, e3, k3⟩ := spotF h00 g3
    obtain ⟨b4, o4, e4, k4⟩ := spotF h00 g4
    cases e1
    cases e2
    cases e3
    cases e4
    exact ⟨b, o, rfl, World.block_lt_of_cell? w _ k0, ta, tf, st, tc, tb, hst, k0, k1, k2, k3, k4⟩
end
/-- A view into which the first k of sectors were written. -/
def HalfS (w0 : World) (vb d g' : Nat) (X : List ByteArray) (k : Nat) (W : World) : Prop :=
  ∃ ws, SV w0 vb d g' (zeros 36) ws 1 34 (-1) (k : Int) false W ∧ ws.length = k ∧ secOf (zeros 36) ws 1 0 = X.take k ++ blankS.drop k
section
variable {w0 W : World} {vb d g' : Nat} {X : List ByteArray} {k : Nat}
theorem HalfS.zero (h : SV w0 vb d g' (zeros 36) [] 1 34 (-1) 0 false W) : HalfS w0 vb d g' X 0 W := ⟨[], h, rfl, by rw [sec_zero 0 (by decide)]; rfl⟩
theorem HalfS.since (h : HalfS w0 vb d g' X k W) : Below w0.heap.size w0 W := by
  obtain ⟨ws, h1, _⟩ := h
  exact h1.since
theorem HalfS.below {W' : World} (h : HalfS w0 vb d g' X k W) (hb : Below W.heap.size W W') : HalfS w0 vb d g' X k W' := by
  obtain ⟨ws, h1, h2⟩ := h
  exact ⟨ws, h1.below hb, h2⟩
theorem HalfS.write (h : HalfS w0 vb d g' X k W) (h64 : Sec64 X) (hk : k < 16) {y : ByteArray} (hy : X[k]? = some y) :
    Calls Tryd.prog 29 #[.pointer (some ⟨vb, 0, none⟩), .int .i64 ((2 + k : Nat) : Int), .string y] W fun e w' => e = .returned (.int .i64 0) ∧ HalfS w0 vb d g' X (k + 1) w' := by
  obtain ⟨ws, h1, h2, h3⟩ := h
  refine (sv_write (2 + k) y h1 (by omega) (h64.at_ hy) (by decide) (by omega) (by omega) (by decide) (by decide) (by omega)).mono ?_
  rintro e w' ⟨r1, r2⟩
  refine ⟨r1, ws ++ [(1 + (2 + k), y.data.toList)], ?_, by rw [List.length_append, h2]; rfl, ?_⟩
  · rw [if_neg (by decide)] at r2
    rw [show ((k + 1 : Nat) : Int) = (k : Int) + 1 from by omega]
    exact r2
  · have e1 := sec_one (zeros 36) ws 1 0 k y.data.toList hk
    rw [show 1 + (2 + 16 * 0 + k) = 1 + (2 + k) from by omega] at e1
    rw [e1, h3, B_of]
    have hXl := h64.len
    have hyg : X[k] = y := (List.getElem?_eq_some_iff.1 hy).2
    have hbl : blankS.length = 16 := rfl
    apply List.ext_getElem?
    intro i
    rw [List.getElem?_set]
    by_cases e : k = i
    · subst e
      rw [if_pos rfl, if_pos (by rw [List.length_append, List.length_take, List.length_drop]; omega), List.getElem?_append_left (by rw [List.length_take]; omega), List.getElem?_take, if_pos (by omega), hy]
    · rw [if_neg e]
      by_cases hi : i < k
      · rw [List.getElem?_append_left (by rw [List.length_take]; omega), List.getElem?_append_left (by rw [List.length_take]; omega), List.getElem?_take, List.getElem?_take, if_pos hi, if_pos (by omega)]
      · rw [List.getElem?_append_right (by rw [List.length_take]; omega), List.getElem?_append_right (by rw [List.length_take]; omega), List.getElem?_drop, List.getElem?_drop, List.length_take, List.length_take]
        congr 1
        omega
theorem HalfS.done (h : HalfS w0 vb d g' X 16 W) (h64 : Sec64 X) : ∃ ws, SV w0 vb d g' (zeros 36) ws 1 34 (-1) 16 false W ∧ ws.length = 16 ∧ secOf (zeros 36) ws 1 0 = X := by
  obtain ⟨ws, h1, h2, h3⟩ := h
  exact ⟨ws, h1, h2, by rw [h3, List.take_of_length_le (Nat.le_of_eq h64.len), List.drop_of_length_le (by decide), List.append_nil]⟩
end
end Go.Proofs.YtlgoepbfdldgnaaDoor.W
end
