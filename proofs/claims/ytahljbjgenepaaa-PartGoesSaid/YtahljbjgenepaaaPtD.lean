/- Package part: its calls on a partition that lies. -/
import Derived.Test.YtahljbjgenepaaaPtC
namespace Go.Proofs.Ytahljbjgenepaaa.W
open Go.RowKit Go.Sort
open Go.Proofs.Ytahljbjgenepaaa.M Go.Proofs.Ytahljbjgenepaaa.D Go.Proofs.Ytahljbjgenepaaa.Z
set_option linter.unusedVariables false
set_option linter.unusedSimpArgs false

/-- A partition. -/
structure Pd where
  st : Int
  nx : Int
  sn : Int
  rs : List Rc
def Pd.ok (d : Pd) : Prop := 0 ≤ d.st ∧ d.st ≤ d.sn ∧ d.sn ≤ d.nx ∧ d.nx ≤ 1048577 ∧ (∀ r ∈ d.rs, r.ok ∧ d.st ≤ r.off ∧ r.off < d.nx) ∧ risL d.rs
/-- The offset behind the last one. -/
def lastN (nx : Int) (l : List Rc) : Int := match l.getLast? with
  | none => nx
  | some r => r.off + 1
/-- What calls come to (19.1, 19.2). -/
def Pd.app (d : Pd) (l : List Rc) : Int × Pd := if checkP d.nx 1048577 l = 0 then (0, ⟨d.st, lastN d.nx l, d.sn, d.rs ++ l⟩) else (checkP d.nx 1048577 l, d)
def Pd.trim (d : Pd) (n : Int) : Int × Pd := if n < d.st ∨ d.nx < n then (34, d) else (0, ⟨n, d.nx, max d.sn n, d.rs.drop (cutN n d.rs)⟩)
def Pd.repl (d : Pd) (l : List Rc) : Int × Pd := if checkP d.st d.nx l = 0 then (0, ⟨d.st, d.nx, d.sn, l⟩) else (checkP d.st d.nx l, d)
def Pd.set (d : Pd) (n m : Int) : Int × Pd := if d.nx ≠ 0 then (7, d) else if n < 0 ∨ m < n ∨ 1048577 < m then (1, d) else (0, ⟨n, m, m, d.rs⟩)
def Pd.mark (d : Pd) : Pd := ⟨d.st, d.nx, d.nx, d.rs⟩
/-- A partition as it lies. -/
abbrev PdAt (W : World) (pb : Nat) (d : Pd) (va : Option Addr) (c : Nat) : Prop := PtAt W pb d.st d.nx d.sn d.rs va c
/-- A partition's blocks. -/
def mineP (pb : Nat) (va : Option Addr) (q : Nat) : Prop := q = pb ∨ ownB va q
/-- What a call leaves. -/
def LeftP (W : World) (pb : Nat) (va : Option Addr) (d : Pd) (w' : World) : Prop := ∃ va' c', PdAt w' pb d va' c' ∧ Kept (mineP pb va) W w' ∧ ∀ q, ownB va' q → ownB va q ∨ W.heap.size ≤ q
theorem LeftP.of_below {W w' : World} {pb : Nat} {va : Option Addr} {c : Nat} {d : Pd} (h : PdAt W pb d va c) (hb : Below W.heap.size W w') : LeftP W pb va d w' := ⟨va, c, h.below hb, Kept.of_below hb, fun q hq => .inl hq⟩
section
variable {W : World} {pb : Nat} {d : Pd} {va : Option Addr} {c : Nat}
theorem PtAt.cells {st nx mk : Int} {rs : List Rc} (h : PtAt W pb st nx mk rs va c) : W.cell? ⟨pb, 0, none⟩ = some (.int .i64 st) ∧ W.cell? ⟨pb, 1, none⟩ = some (.int .i64 nx) ∧ W.cell? ⟨pb, 2, none⟩ = some (.int .i64 mk) ∧ W.cell? ⟨pb, 3, none⟩ = some (.slice va rs.length c) := ⟨h.obj.cell 0, h.obj.cell 1, h.obj.cell 2, h.obj.cell 3⟩
theorem pnew_any (w : World) : Calls Try.prog 10 #[] w fun e w' => ∃ pb, e = .returned (.pointer (some ⟨pb, 0, none⟩)) ∧ PdAt w' pb ⟨0, 0, 0, []⟩ none 0 ∧ w.heap.size ≤ pb ∧ Below w.heap.size w w' := by
  have hN := Whole.new w 59 [.int .i64 0, .int .i64 0, .int .i64 0, .slice none 0 0]
  have hB := Lib.hid ((fun w o => (Below.refl w.heap.size w).alloc (Nat.le_refl _) o) w (.cells #[.int .i64 0, .int .i64 0, .int .i64 0, .slice none 0 0] 59))
  replace hN := Lib.hid hN
  go_enter Try.func10, Try.ntmps10
  go_wp2_with fail
  go_ret
  exact ⟨w.heap.size, rfl, ⟨hN.out, .inl ⟨rfl, rfl, rfl⟩⟩, Nat.le_refl _, hB.out⟩
theorem pstart_any (w : World) (v : Value) (h : w.cell? ⟨pb, 0, none⟩ = some v) : Calls Try.prog 14 #[.pointer (some ⟨pb, 0, none⟩)] w fun e w' => e = .returned v ∧ w = w' := by
  go_enter Try.func14, Try.ntmps14
  go_wp2_with fail
  go_ret
  exact ⟨rfl, rfl⟩
theorem pnext_any (w : World) (v : Value) (h : w.cell? ⟨pb, 1, none⟩ = some v) : Calls Try.prog 24 #[.pointer (some ⟨pb, 0, none⟩)] w fun e w' => e = .returned v ∧ w = w' := by
  go_enter Try.func24, Try.ntmps24
  go_wp2_with fail
  go_ret
  exact ⟨rfl, rfl⟩
theorem pseen_any (w : World) (v : Value) (h : w.cell? ⟨pb, 2, none⟩ = some v) : Calls Try.prog 15 #[.pointer (some ⟨pb, 0, none⟩)] w fun e w' => e = .returned v ∧ w = w' := by
  go_enter Try.func15, Try.ntmps15
  go_wp2_with fail
  go_ret
  exact ⟨rfl, rfl⟩
theorem ownB_spot {st nx mk : Int} {rs : List Rc} (h : PtAt W pb st nx mk rs va c) : ∀ a, va = some a → a.spot = none := fun a e => by
  rcases h.row with ⟨e2, _⟩ | ⟨g, o', cur, e2, _⟩
  · rw [e] at e2; cases e2
  · rw [e] at e2; cases e2; rfl
theorem pall_any2 (h : PdAt W pb d va c) (hn : d.rs.length ≤ 100000) :
    Calls Try.prog 23 #[.pointer (some ⟨pb, 0, none⟩)] W fun e w' => ∃ va' c', e = .returned (.slice va' d.rs.length c') ∧ RowO w' va' c' d.rs ∧ Below W.heap.size W w' := by
  obtain ⟨c0, c1, c2, c3⟩ := h.cells
  have hcl := Lib.hid (rclone_any va c d.rs W h.row.at_ hn)
  clear h
  go_enter Try.func23, Try.ntmps23
  go_wp2_with fail
  refine hcl.out.mono ?_
  rintro _ w1 ⟨va', c', rfl, h1, _, h2⟩
  have hS := Lib.hid (And.intro h1 h2)
  clear h1 h2 hcl
  go_wp2_with fail
  go_ret
  exact ⟨va', c', rfl, hS.out⟩
theorem pmark_any (h : PdAt W pb d va c) :
    Calls Try.prog 18 #[.pointer (some ⟨pb, 0, none⟩)] W fun e w' => e = .returned (.tuple #[]) ∧ LeftP W pb va d.mark w' := by
  obtain ⟨c0, c1, c2, c3⟩ := h.cells
  have z2 := h.obj.frozen 2
  have hfin : Hid (LeftP W pb va d.mark (W.setCell ⟨pb, 2, none⟩ (.int .i64 d.nx))) := Lib.hid ⟨va, c, ⟨h.obj.store 2 [.int .i64 d.nx] (by simp), h.row.of_kept ((Kept.refl (fun q => q = pb) W).setCell (.inl rfl) 2 _) (fun q hq e => h.ne hq e.symm)⟩, (Kept.refl (mineP pb va) W).setCell (.inl (.inl rfl)) 2 _, fun q hq => .inl hq⟩
  clear h
  go_enter Try.func18, Try.ntmps18
  go_wp2_with fail
  go_end0
  exact ⟨rfl, hfin.out⟩
set_option maxRecDepth 100000 in
theorem pset_any (h : PdAt W pb d va c) (n m : Int) :
    Calls Try.prog 22 #[.pointer (some ⟨pb, 0, none⟩), .int .i64 n, .int .i64 m] W fun e w' => e = .returned (.int .i64 (d.set n m).1) ∧ LeftP W pb va (d.set n m).2 w' := by
  obtain ⟨c0, c1, c2, c3⟩ := h.cells
  unfold Pd.set
  have hno := Lib.hid (LeftP.of_below h (Below.refl _ _))
  by_cases h0 : d.nx ≠ 0
  · rw [if_pos h0]
    have h1 : (d.nx != 0) = true := by simp [h0]
    clear h
    go_enter Try.func22, Try.ntmps22
    go_wp2_with fail
    go_ret
    exact ⟨rfl, hno.out⟩
  · rw [if_neg h0]
    have h1 : (d.nx != 0) = false := by simp at h0 ⊢; exact h0
    replace h0 := Lib.hid h0
    by_cases h2 : n < 0 ∨ m < n ∨ 1048577 < m
    · rw [if_pos h2]
      clear h
      rcases (show n < 0 ∨ (0 ≤ n ∧ m < n) ∨ (0 ≤ n ∧ n ≤ m ∧ 1048577 < m) by omega) with k1 | ⟨k1, k2⟩ | ⟨k1, k2, k3⟩
      all_goals
        clear h2
        go_enter Try.func22, Try.ntmps22
        go_wp2_with fail
        go_ret
        exact ⟨rfl, hno.out⟩
    · rw [if_neg h2]
      have k1 : 0 ≤ n := by omega
      have k2 : n ≤ m := by omega
      have k3 : m ≤ 1048577 := by omega
      have z0 := h.obj.frozen 0
      have z1 := h.obj.frozen 1
      have z2 := h.obj.frozen 2
      have hfin : Hid (LeftP W pb va ⟨n, m, m, d.rs⟩ (((W.setCell ⟨pb, 0, none⟩ (.int .i64 n)).setCell ⟨pb, 1, none⟩ (.int .i64 m)).setCell ⟨pb, 2, none⟩ (.int .i64 m))) := Lib.hid ⟨va, c, ⟨h.obj.store 0 [.int .i64 n, .int .i64 m, .int .i64 m] (by simp), h.row.of_kept ((Kept.refl (fun q => q = pb) W).setCells (.inl rfl) 0 [.int .i64 n, .int .i64 m, .int .i64 m]) (fun q hq e => h.ne hq e.symm)⟩, (Kept.refl (mineP pb va) W).setCells (.inl (.inl rfl)) 0 [.int .i64 n, .int .i64 m, .int .i64 m], fun q hq => .inl hq⟩
      clear h h2
      go_enter Try.func22, Try.ntmps22
      go_wp2_with fail
      go_ret
      exact ⟨rfl, hfin.out⟩
set_option maxRecDepth 100000 in
set_option maxHeartbeats 4000000 in
theorem pbytes_any (h : PdAt W pb d va c) (hn : d.rs.length ≤ 100000) (hok : ∀ r ∈ d.rs, r.ok) :
    Calls Try.prog 25 #[.pointer (some ⟨pb, 0, none⟩)] W fun e w' => e = .returned (.int .i64 ((packL d.rs).length : Int)) ∧ Below W.heap.size W w' := by
  obtain ⟨c0, c1, c2, c3⟩ := h.cells
  have hat := Lib.hid h.row.at_
  obtain ⟨rs, hrs⟩ : ∃ rs, Hid (d.rs = rs) := ⟨_, Lib.hid rfl⟩
  rw [hrs.out] at hat hn hok c3 ⊢
  obtain ⟨N, hN⟩ : ∃ N, Hid (rs.length = N) := ⟨_, Lib.hid rfl⟩
  rw [hN.out] at hn c3
  have hz := Lib.hid (fun (r : Rc) (hr : r.ok) W => size_yes r.off r.tick r.key r.val r.gone r.prod r.seq r.frm W hr)
  have hsum : Hid (∀ a r, rs[a]? = some r → r.ok → (packL (rs.take (a + 1))).length = (packL (rs.take a)).length + (recL r).length ∧ (recL r).length ≤ 300) := Lib.hid (fun a r hr hro => by
    have h1 := recL_bounds hro
    obtain ⟨_, _, _, _, _, _, hk, hv, _⟩ := hro
    refine ⟨?_, by omega⟩
    rw [List.take_add_one, hr]
    show (packL (rs.take a ++ [r])).length = _
    rw [packL_snoc, List.length_append])
  have hall := Lib.hid (show rs.take N = rs from by rw [← hN.out, List.take_length])
  replace hok := Lib.hid hok
  clear h
  go_enter Try.func25, Try.ntmps25
  go_wp2_with fail
  go_loopg [3, 13] N (fun ga nv i wr => ∃ a s : Nat, a ≤ N ∧ N ≤ a + ga ∧ i = .int .i64 (a : Int) ∧ nv = .int .i64 (s : Int) ∧ s ≤ 300 * a ∧ Hid ((packL (rs.take a)).length = s ∧ Below W.heap.size W wr))
  case atStart => exact ⟨0, 0, by omega, by omega, rfl, rfl, by omega, Lib.hid ⟨by simp [packL], Below.refl _ _⟩⟩
  case round =>
    obtain ⟨a, s, ha, hg, rfl, rfl, hs3, hrel⟩ := hrel
    generalize wr = wo at *
    by_cases hlt : a < N
    · obtain ⟨r, hr⟩ : ∃ r, rs[a]? = some r := ⟨_, List.getElem?_eq_getElem (by have := hN.out; omega)⟩
      obtain ⟨b, o, rfl, c0, c1, c2, c3, c4, c5, c6, c7⟩ := (hat.out.below hrel.out.2).get hr
      have hro := hok.out r (List.mem_of_getElem? hr)
      have hzr := hz.out r hro
      have hsr := hsum.out a r hr hro
      rw [hrel.out.1] at hsr
      obtain ⟨Z, hZ⟩ : ∃ Z, Hid ((recL r).length = Z) := ⟨_, Lib.hid rfl⟩
      rw [show (recL { off := r.off, tick := r.tick, key := r.key, val := r.val, gone := r.gone, prod := r.prod, seq := r.seq, frm := r.frm }).length = Z from hZ.out] at hzr
      rw [hZ.out] at hsr
      have hw1 : IntKind.i64.wrap ((s : Int) + (Z : Int)) = ((s + Z : Nat) : Int) := by rw [IntWalk.i64_in _ (by omega)]; omega
      have hB1 := Lib.hid (grewAlloc hrel.out.2 (.cells #[.int .i64 r.off, .int .i64 r.tick, .string r.key, .string r.val, .bool r.gone, .int .i64 r.prod, .int .i64 r.seq, .int .i64 r.frm] 40))
      have hki : (a : Int) < (N : Int) := by omega
      obtain ⟨e1, e2⟩ := hsr
      have e3 : s + Z ≤ 300 * (a + 1) := by omega
      obtain ⟨T, hT⟩ : ∃ T, Hid (s + Z = T) := ⟨_, Lib.hid rfl⟩
      rw [hT.out] at hw1 e1 e3
      replace e1 := Lib.hid e1
      replace hzr := Lib.hid hzr
      replace hr := Lib.hid hr
      clear hrel hro
      go_wp2_with fail
      refine (hzr.out _).mono ?_
      rintro _ w2 ⟨rfl, hb2⟩
      have hfin := Lib.hid (And.intro e1.out (grew hB1.out hb2))
      clear hb2 hB1 hzr c0 c1 c2 c3 c4 c5 c6 c7
      go_wp2_with fail
      go_roundg (gk - 1)
      case measure => omega
      case rel => exact ⟨a + 1, T, by omega, by omega, by go_num, rfl, e3, hfin⟩
    · obtain rfl : a = N := by omega
      have e1 := hrel.out.1
      rw [hall.out] at e1
      have hfin := Lib.hid hrel.out.2
      replace e1 := Lib.hid e1
      clear hrel
      go_wp2_with fail
      go_ret
      exact ⟨by rw [e1.out]; rfl, hfin.out⟩
end
end Go.Proofs.Ytahljbjgenepaaa.W
