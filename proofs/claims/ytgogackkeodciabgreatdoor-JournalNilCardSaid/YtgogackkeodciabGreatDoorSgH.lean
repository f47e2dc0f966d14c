/- The walks of package segment's reader: a frame. The walk of package segment's Load. The walks of package segment's Wipe, Frames and Header. -/
import Derived.Test.YtgogackkeodciabGreatDoorSgE
import Derived.Test.YtgogackkeodciabGreatDoorShelf
section
namespace Go.Proofs.YtgogackkeodciabGreatDoor.W
open Go.RowKit
open Go.Proofs.YtgogackkeodciabGreatDoor.M Go.Proofs.YtgogackkeodciabGreatDoor.D Go.Proofs.YtgogackkeodciabGreatDoor.Z
set_option linter.unusedVariables false

/-- Does a frame lie at a place? -/
def frameAt (x : List ByteArray) (st c E : Nat) : Prop := E < 16 ∧ decWhy (st : Int) (E : Int) (runS x st c E) = 0
theorem dat_at {x : List ByteArray} {k : Nat} {s : ByteArray} (h : x[k]? = some s) : datS x k = s.extract 6 58 := by
  unfold datS; rw [List.getD_eq_getElem?_getD, h]; rfl
theorem ok_at {x : List ByteArray} {k : Nat} {s : ByteArray} (h : x[k]? = some s) (st c : Nat) : okS x st c k ↔ (opensS s ∧ stampS s = st ∧ countS s = c) := by
  constructor
  · rintro ⟨s', h1, h2, h3, h4⟩
    rw [h] at h1; cases h1
    exact ⟨h2, h3, h4⟩
  · rintro ⟨h2, h3, h4⟩
    exact ⟨s, h, h2, h3, h4⟩
/-- What is so of the bytes of the first j sectors from a place on. -/
structure RdF (x : List ByteArray) (st c E j : Nat) (D : ByteArray) : Prop where
  size : D.size = 52 * j
  rest : D ++ runS x st c (E + j) = runS x st c E
  short : j = 0 ∨ decWhy (st : Int) (E : Int) D = 3
theorem RdF.zero (x : List ByteArray) (st c E : Nat) : RdF x st c E 0 ⟨#[]⟩ := ⟨rfl, by apply ByteArray.ext; simp, .inl rfl⟩
section
variable {x : List ByteArray} {st c E j : Nat} {D s : ByteArray}
/-- No sector more: no frame. -/
theorem RdF.stop (h : RdF x st c E j D) (hn : runS x st c (E + j) = ⟨#[]⟩) : ¬ frameAt x st c E := by
  rintro ⟨_, h2⟩
  rw [← h.rest, hn, bytes_nil] at h2
  rcases h.short with rfl | e
  · have e : D = ⟨#[]⟩ := by
      have hs := h.size
      apply ByteArray.ext
      exact Array.eq_empty_of_size_eq_zero (by simpa using hs)
    rw [e] at h2
    exact dec_nil _ _ h2
  · rw [e] at h2; cases h2
theorem RdF.more (h : RdF x st c E j D) (hk : E + j < 16) (ho : okS x st c (E + j)) : D ++ datS x (E + j) ++ runS x st c (E + (j + 1)) = runS x st c E := by
  rw [← h.rest, run_yes _ _ _ _ hk ho, bytes_assoc]; rfl
theorem dat_size (hs : x[j]? = some s) (ho : opensS s) : (datS x j).size = 52 := by
  rw [dat_at hs]; have := ho.1; simp; omega
theorem RdF.next (h : RdF x st c E j D) (hk : E + j < 16) (hs : x[E + j]? = some s) (ho : okS x st c (E + j)) (h3 : decWhy (st : Int) (E : Int) (D ++ datS x (E + j)) = 3) : RdF x st c E (j + 1) (D ++ datS x (E + j)) := by
  refine ⟨?_, h.more hk ho, .inr h3⟩
  rw [size_app, h.size, dat_size hs ((ok_at hs _ _).1 ho).1]
  omega
/-- No frame, though not too short. -/
theorem RdF.bad (h : RdF x st c E j D) (hk : E + j < 16) (hs : x[E + j]? = some s) (ho : okS x st c (E + j)) (h0 : decWhy (st : Int) (E : Int) (D ++ datS x (E + j)) ≠ 0) (h3 : decWhy (st : Int) (E : Int) (D ++ datS x (E + j)) ≠ 3) : ¬ frameAt x st c E := by
  rintro ⟨_, h2⟩
  have hz := dat_size hs ((ok_at hs _ _).1 ho).1
  rw [← h.more hk ho, dec_ext _ _ _ _ (by rw [size_app]; omega) h3] at h2
  exact h0 h2
/-- A frame. -/
theorem RdF.done (h : RdF x st c E j D) (hk : E + j < 16) (hs : x[E + j]? = some s) (ho : okS x st c (E + j)) (h0 : decWhy (st : Int) (E : Int) (D ++ datS x (E + j)) = 0) :
    frameAt x st c E ∧ frF (D ++ datS x (E + j)) = frF (runS x st c E) ∧ (6 + toldF (runS x st c E) + 51) / 52 = j + 1 := by
  have hz := dat_size hs ((ok_at hs _ _).1 ho).1
  have hd := dec_size _ _ _ h0
  have hm := h.more hk ho
  have hp := pieces_of _ _ _ _ j h.size hz h.short h0
  obtain ⟨F, hF⟩ : ∃ F, D ++ datS x (E + j) = F := ⟨_, rfl⟩
  rw [hF] at hd hm h0 hp ⊢
  have ht : toldF (runS x st c E) = toldF F := by rw [← hm, told_ext _ _ hd.1]
  refine ⟨⟨by omega, ?_⟩, ?_, ?_⟩
  · rw [← hm, dec_ext _ _ _ _ hd.1 (by rw [h0]; decide), h0]
  · unfold frF
    rw [ht, ← hm, bt_app F _ 6 (by omega), ext_app F _ _ _ hd.2.1]
  · rw [ht]; exact hp
end
section
variable {w : World} {sb vb n a g s b : Nat} {fa : Option Addr} {fc : Nat} {fs : List (Int × ByteArray)} {E : Nat} {sl : Bool}
/-- What reading a frame comes to. -/
def Framed (x : List ByteArray) (w : World) (sb vb n a g s b : Nat) (fa : Option Addr) (fs : List (Int × ByteArray)) (E : Nat) (sl : Bool) (c : Nat) (e : Ending) (w' : World) : Prop :=
  (¬ frameAt x s c E ∧ e = .returned (.int .i64 4) ∧ Below w.heap.size w w') ∨
  (frameAt x s c E ∧ e = .returned (.int .i64 0) ∧ ∃ fa' fc', Sg w' sb vb n a g s b fa' fc' (fs ++ [frF (runS x s c E)]) (E + (6 + toldF (runS x s c E) + 51) / 52) sl ∧ (∀ q, ofS sb fa' q → ofS sb fa q ∨ w.heap.size ≤ q) ∧ Kept (ofS sb fa) w w')
theorem decV_same (st pl : Int) (D : ByteArray) (h : decWhy st pl D = 0) : decV st pl D = .tuple #[.agg #[.int .i64 (frF D).1, .string (frF D).2], .int .i64 ((6 + toldF D : Nat) : Int), .int .i64 0] := by
  rw [decV_yes h]; rfl
end
end Go.Proofs.YtgogackkeodciabGreatDoor.W
end
section
namespace Go.Proofs.YtgogackkeodciabGreatDoor.W
open Go.RowKit
open Go.Proofs.YtgogackkeodciabGreatDoor.M Go.Proofs.YtgogackkeodciabGreatDoor.D Go.Proofs.YtgogackkeodciabGreatDoor.Z
set_option linter.unusedVariables false

theorem Sg.ne {w : World} {sb vb n a g s b : Nat} {fa : Option Addr} {fc : Nat} {fs : List (Int × ByteArray)} {E : Nat} {sl : Bool} {q : Nat} {t : TypeId} {cs : List Value} (h : Sg w sb vb n a g s b fa fc fs E sl) (hb : Whole w q t cs) (t1 : t ≠ 112) (t2 : t ≠ 36) : ¬ ofS sb fa q := by
  intro hq
  obtain ⟨u, ds, hw, rfl | rfl⟩ := h.typed q hq
  · exact hb.ne hw t1 rfl
  · exact hb.ne hw t2 rfl
theorem run_size (x : List ByteArray) (st c k : Nat) : (runS x st c k).size ≤ 52 * (16 - k) := runF_size x st c (16 - k) k
section
variable {w : World} {vb d g' : Nat} {v : Value} {lie : List (List UInt8)} {ws : List (Nat × List UInt8)} {from_ m : Nat} {fuse steps : Int} {gone : Bool}
end
end Go.Proofs.YtgogackkeodciabGreatDoor.W
end
section
namespace Go.Proofs.YtgogackkeodciabGreatDoor.W
open Go.RowKit
open Go.Proofs.YtgogackkeodciabGreatDoor.M Go.Proofs.YtgogackkeodciabGreatDoor.D Go.Proofs.YtgogackkeodciabGreatDoor.Z
set_option linter.unusedVariables false

/-- Frames that lie in memory. -/
def FrAt (w : World) (va : Option Addr) (fs : List (Int × ByteArray)) : Prop := ∀ i f, fs[i]? = some f → ∃ b o, va = some ⟨b, o, none⟩ ∧ b < w.heap.size ∧ w.cell? ⟨b, o + i * 2, none⟩ = some (.int .i64 f.1) ∧ w.cell? ⟨b, o + i * 2 + 1, none⟩ = some (.string f.2)
theorem FrAt.below {w w' : World} {va : Option Addr} {fs : List (Int × ByteArray)} (h : FrAt w va fs) (hb : Below w.heap.size w w') : FrAt w' va fs := fun i f hi => by
  obtain ⟨b, o, h1, h2, h3, h4⟩ := h i f hi
  exact ⟨b, o, h1, Nat.lt_of_lt_of_le h2 hb.size, (World.cell?_of_block (hb.block b h2)).trans h3, (World.cell?_of_block (hb.block b h2)).trans h4⟩
theorem frRows_at (fs : List (Int × ByteArray)) : ∀ i f, fs[i]? = some f → (frRows fs)[i * 2]? = some (.int .i64 f.1) ∧ (frRows fs)[i * 2 + 1]? = some (.string f.2) := by
  induction fs with
  | nil => intro i f h; cases h
  | cons x fs ih =>
    intro i f h
    cases i with
    | zero =>
      obtain rfl : x = f := by simpa using h
      exact ⟨rfl, rfl⟩
    | succ i =>
      have h2 := ih i f (by simpa using h)
      rw [Nat.succ_mul]
      exact h2
theorem frAt_own {w : World} {B : Nat} {va : Option Addr} {n c : Nat} {fs : List (Int × ByteArray)} (h : w.ownsRow B 36 2 (.slice va n c) n (frRows fs)) (hn : fs.length = n) : FrAt w va fs := fun i f hi => by
  have hlt : i < fs.length := (List.getElem?_eq_some_iff.1 hi).1
  obtain ⟨gg, rfl, h1, h2, h3⟩ := own_news (by omega) (own_mono h (Nat.zero_le _))
  obtain ⟨e1, e2⟩ := frRows_at fs i f hi
  have a1 := h3 _ _ e1
  have a2 := h3 _ _ e2
  have hadd : ∀ j, (⟨gg, 0, none⟩ : Addr).add j = ⟨gg, j, none⟩ := fun j => by unfold Addr.add; split <;> simp_all
  rw [hadd] at a1 a2
  exact ⟨gg, 0, rfl, h2, by rw [Nat.zero_add]; exact a1, by rw [Nat.zero_add]; exact a2⟩
theorem eql_nilF (w : World) (a : Option Addr) (n c : Nat) : (binOp .eql 22 (.slice a n c) (.slice none 0 0)).run Tryz.prog w = .ok (.bool a.isNone) w := by
  simp only [binOp]
  simp [Op.equal, Op.maxDepth, Lib.run_equalIn_slice_nil w 9999 22 36 a n c 0 0 Tryz.underlying22]
set_option maxRecDepth 100000 in
set_option maxHeartbeats 4000000 in
theorem cloneF_any (va : Option Addr) (n c : Nat) (fs : List (Int × ByteArray)) (w : World) (h : w.ownsRow 0 36 2 (.slice va n c) n (frRows fs)) (hn : fs.length = n) (hz : fs = [] → va = none) (hl : n ≤ 1000) :
    Calls Tryz.prog 78 #[.slice va n c] w fun e w' => ∃ va' c', e = .returned (.slice va' n c') ∧ w'.ownsRow w.heap.size 36 2 (.slice va' n c') n (frRows fs) ∧ Below w.heap.size w w' := by
  have hnil := fun W => eql_nilF W va n c
  by_cases h0 : fs = []
  · obtain rfl := hz h0
    subst h0
    obtain rfl : n = 0 := by simpa using hn.symm
    rw [show (none : Option Addr).isNone = true from rfl] at hnil
    replace hnil := hnil
    go_enter Tryz.func78, Tryz.ntmps78
    go_wp2_with fail
    go_ret
    exact ⟨none, 0, rfl, own_nil, Below.refl _ _⟩
  · have hpos : 0 < n := by
      rw [← hn]
      exact List.length_pos_iff.2 h0
    obtain ⟨gg, rfl, hrl, hlt, hnews⟩ := own_news hpos h
    rw [show (some (⟨gg, 0, none⟩ : Addr)).isNone = false from rfl] at hnil
    obtain ⟨i0, hi0, hz0, hz1, hz2⟩ := info_parts infoFrame
    replace hnews := Lib.hid hnews
    clear h hz
    go_enter Tryz.func78, Tryz.ntmps78
    go_wp2_with (with_reducible refine zAppend _ _ _ rfl ?_)
    refine Lib.hid ?_
    refine wpList_append_lies _ rfl _ _ 22 rfl w.heap.size 36 i0 _ 2 24 Tryz.underlying22 hi0 hz0 hz1 hz2 rfl (by omega) (.slice (some ⟨w.heap.size, 0, none⟩) 0 0) 0 [] rfl (World.ownsRow_made w #[] 0 (Nat.le_refl _) (by unfold maxLen; omega) rfl) _ n c (frRows fs) rfl hrl (fun j u hu => by rw [World.cell?_of_block (Below.heap_alloc w _ _ (by have hadd : ((⟨gg, 0, none⟩ : Addr).add j).block = gg := (by unfold Addr.add; split <;> simp_all); rw [hadd]; exact hlt))]; exact hnews.out j u hu) (frRows_one fs) hpos (by unfold maxLen; omega) (by omega) (by simp) _ rfl ?_
    intro g cap w' hown hgrow hat hlt'
    rw [Nat.zero_add, List.nil_append] at hown
    rw [Nat.zero_add]
    have hb : Below w.heap.size w w' := ((Kept.of_below (own := fun q => w.heap.size ≤ q) (allocBelow w (.cells #[] 36))).grown hgrow (fun q hq => .inr (by have e : w.heap.size = q := (by simpa [Value.ownBlock] using hq); omega))).below (Nat.le_refl _) (fun q h => h)
    have hfin := Lib.hid (show ∃ va' c', (Value.slice (some ⟨g, 0, none⟩) n cap) = .slice va' n c' ∧ w'.ownsRow w.heap.size 36 2 (.slice va' n c') n (frRows fs) ∧ Below w.heap.size w w' from ⟨_, _, rfl, hown, hb⟩)
    clear hown hgrow hat hb
    go_wp2_with fail
    go_ret
    obtain ⟨va', c', h1, h2, h3⟩ := hfin.out
    exact ⟨va', c', by rw [← h1]; rfl, h2, h3⟩
theorem frames_any {w : World} {sb vb n a g s b : Nat} {fa : Option Addr} {fc : Nat} {fs : List (Int × ByteArray)} {E : Nat} {sl : Bool} (h : Sg w sb vb n a g s b fa fc fs E sl) (hl : fs.length ≤ 1000) :
    Calls Tryz.prog 57 #[.pointer (some ⟨sb, 0, none⟩)] w fun e w' => ∃ va' c', e = .returned (.slice va' fs.length c') ∧ w'.ownsRow w.heap.size 36 2 (.slice va' fs.length c') fs.length (frRows fs) ∧ Below w.heap.size w w' := by
  have c6 : w.cell? ⟨sb, 6, none⟩ = some (.slice fa fs.length fc) := h.obj.cell 6
  have hc := Lib.hid (cloneF_any fa fs.length fc fs w h.own rfl h.none_ hl)
  clear h
  go_enter Tryz.func57, Tryz.ntmps57
  go_wp2_with fail
  refine hc.out.mono ?_
  rintro _ w1 ⟨va', c', rfl, h1, h2⟩
  replace h1 := Lib.hid h1
  go_wp2_with fail
  go_ret
  exact ⟨va', c', rfl, h1.out, h2⟩
theorem frames_nil (w : World) : Calls Tryz.prog 57 #[.pointer none] w fun e w' => e = .returned (.slice none 0 0) ∧ w = w' := by
  go_enter Tryz.func57, Tryz.ntmps57
  go_wp2_with fail
  go_ret
  exact ⟨rfl, rfl⟩
theorem header_any {w : World} {sb vb n a g s b E : Nat} {fv : Value} {sl : Bool} (h : Whole w sb 112 (sgL vb n a g s b fv E sl)) :
    Calls Tryz.prog 42 #[.pointer (some ⟨sb, 0, none⟩)] w fun e w' => e = .returned (.agg #[.int .i64 (a : Int), .int .u32 (g : Int), .int .u32 (s : Int), .int .i64 (b : Int)]) ∧ Below w.heap.size w w' := by
  have hB := Lib.hid (allocBelow w (.cells (hdr a g s b).toArray 80))
  have hS := h.alloc (.cells #[.int .i64 0, .int .u32 0, .int .u32 0, .int .i64 0] 80)
  have s2 := hS.cell 2
  have s3 := hS.cell 3
  have s4 := hS.cell 4
  have s5 := hS.cell 5
  simp only [List.getElem?_cons_zero, List.getElem?_cons_succ] at s2 s3 s4 s5
  clear h hS
  go_enter Tryz.func42, Tryz.ntmps42
  go_wp2_with fail
  exact bodyPost_ret (v := .agg #[.int .i64 (a : Int), .int .u32 (g : Int), .int .u32 (s : Int), .int .i64 (b : Int)]) (by simp [results, Tryz.results42, go_sem]) rfl ⟨rfl, hB.out⟩
theorem header_nil (w : World) : Calls Tryz.prog 42 #[.pointer none] w fun e w' => e = .returned (.agg #[.int .i64 0, .int .u32 0, .int .u32 0, .int .i64 0]) ∧ Below w.heap.size w w' := by
  have hB := Lib.hid (allocBelow w (.cells (hdr 0 0 0 0).toArray 80))
  go_enter Tryz.func42, Tryz.ntmps42
  go_wp2_with fail
  exact bodyPost_ret (v := .agg #[.int .i64 0, .int .u32 0, .int .u32 0, .int .i64 0]) (by simp [results, Tryz.results42, go_sem]) rfl ⟨rfl, hB.out⟩
theorem wipe_nil (n : Int) (w : World) : Calls Tryz.prog 76 #[.pointer none, .int .i64 n] w fun e w' => e = .returned (.int .i64 7) ∧ w = w' := by
  go_enter Tryz.func76, Tryz.ntmps76
  go_wp2_with fail
  refine (find_nil n _).mono ?_
  rintro _ w1 ⟨rfl, rfl⟩
  go_wp2_with fail
  go_ret
  exact ⟨rfl, rfl⟩
theorem zeros_repeat : (⟨(Lib.repeatL (⟨#[0]⟩ : ByteArray).data.toList 64).toArray⟩ : ByteArray) = zerosB 64 := by decide
section
variable {w : World} {vb d g' : Nat} {v : Value} {lie : List (List UInt8)} {ws : List (Nat × List UInt8)} {from_ m : Nat} {fuse steps : Int} {gone : Bool}
theorem wipe_out (n : Int) (q : Nat) (h : Vw w vb d g' v lie ws from_ m fuse steps gone) (hm : m = q + 2) (hq : q ≤ 1000000) (hn : ¬ (0 ≤ n ∧ n < ((q / 16 : Nat) : Int))) :
    Calls Tryz.prog 76 #[.pointer (some ⟨vb, 0, none⟩), .int .i64 n] w fun e w' => e = .returned (.int .i64 20) ∧ w = w' := by
  have hf := Lib.hid (find_out n q h hm hq hn)
  clear h
  go_enter Tryz.func76, Tryz.ntmps76
  go_wp2_with fail
  refine hf.out.mono ?_
  rintro _ w1 ⟨rfl, rfl⟩
  go_wp2_with fail
  go_ret
  exact ⟨rfl, rfl⟩
set_option maxRecDepth 100000 in
theorem wipe_by (n q : Nat) (r : Int) (V : Nat → World → Prop) (h : Vw w vb d g' v lie ws from_ m fuse steps gone) (hm : m = q + 2) (hq : q ≤ 1000) (hn : n < q / 16)
    (hV0 : V 0 w) (hVb : ∀ j W W', V j W → Below W.heap.size W W' → V j W')
    (hWr : ∀ W, V 0 W → Calls Tryz.prog 94 #[.pointer (some ⟨vb, 0, none⟩), .int .i64 ((2 + 16 * n + 0 : Nat) : Int), .string (zerosB 64)] W fun e w' => e = .returned (.int .i64 r) ∧ V 1 w') :
    Calls Tryz.prog 76 #[.pointer (some ⟨vb, 0, none⟩), .int .i64 (n : Int)] w fun e w' => e = .returned (.int .i64 r) ∧ V 1 w' := by
  have hf := Lib.hid (find_in n q h hm (by omega) hn)
  have hrp := fun W => Tryz.strings_Repeat ⟨#[0]⟩ 64 W (by omega) (by decide)
  rw [zeros_repeat] at hrp
  obtain ⟨Z, hZ⟩ : ∃ Z, Hid (zerosB 64 = Z) := ⟨_, Lib.hid rfl⟩
  rw [hZ.out] at hrp hWr
  have hse : ∀ W, W.cell? ⟨w.heap.size, 1, none⟩ = some (.int .i64 (n : Int)) → Calls Tryz.prog 95 #[.pointer (some ⟨w.heap.size, 0, none⟩), .int .i64 0] W fun e w' => e = .returned (.int .i64 ((2 + 16 * n + 0 : Nat) : Int)) ∧ W = w' := fun W hc => sectorAt_any w.heap.size n 0 W (by omega) (by omega) hc
  obtain ⟨A, hA⟩ : ∃ A : Nat, Hid (2 + 16 * n + 0 = A) := ⟨_, Lib.hid rfl⟩
  rw [hA.out] at hse hWr
  replace hse := Lib.hid hse
  replace hWr := Lib.hid hWr
  have hrp2 : Hid (∀ W, Calls Tryz.prog 96 #[.string ⟨#[0]⟩, .int .i64 64] W fun e w' => e = .returned (.string Z) ∧ Below W.heap.size W w') := Lib.hid hrp
  replace hV0 := Lib.hid hV0
  replace hVb := Lib.hid hVb
  clear h hrp hZ
  go_enter Tryz.func76, Tryz.ntmps76
  go_wp2_with fail
  refine hf.out.mono ?_
  rintro _ w1 ⟨rfl, hS1, hb1⟩
  have hV1 := Lib.hid (hVb.out _ _ _ hV0.out hb1)
  have c1 : w1.cell? ⟨w.heap.size, 1, none⟩ = some (.int .i64 (n : Int)) := hS1.cell 1
  clear hS1 hb1
  go_wp2_with fail
  refine (hse.out _ c1).mono ?_
  rintro _ w2 ⟨rfl, rfl⟩
  go_wp2_with fail
  refine (hrp2.out _).mono ?_
  rintro _ w3 ⟨rfl, hb3⟩
  have hV3 := Lib.hid (hVb.out _ _ _ hV1.out hb3)
  clear c1 hb3
  go_wp2_with fail
  refine (hWr.out _ hV3.out).mono ?_
  rintro _ w4 ⟨rfl, hV4⟩
  replace hV4 := Lib.hid hV4
  go_wp2_with fail
  go_ret
  exact ⟨rfl, hV4.out⟩
end
end Go.Proofs.YtgogackkeodciabGreatDoor.W
end
