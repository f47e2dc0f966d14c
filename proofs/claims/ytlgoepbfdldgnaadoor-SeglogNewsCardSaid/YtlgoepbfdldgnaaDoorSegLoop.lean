/- The walk of the definition of segments: Load of what is no segment. The walk of the definition of segments: Load of a segment. -/
import Derived.Test.YtlgoepbfdldgnaaDoorSegRef
import Derived.Test.YtlgoepbfdldgnaaDoorHdAll
import Derived.Deep.Cut
import Derived.Test.YtlgoepbfdldgnaaDoorFrRef
section
namespace Go.Proofs.YtlgoepbfdldgnaaDoor.W
open Go.RowKit
open Go.Proofs.YtlgoepbfdldgnaaDoor.M Go.Proofs.YtlgoepbfdldgnaaDoor.D Go.Proofs.YtlgoepbfdldgnaaDoor.Z
set_option linter.unusedVariables false

theorem sizeLoaded : (Tryd.prog.info? 66).map (·.size) = some 7 := by kernel_rfl
/-- Is the first sector one of a segment? -/
def headS (s : ByteArray) : Prop := opensS s ∧ countS s = 1 ∧ isH (s.extract 6 58) ∧ stH (s.extract 6 58) = stampS s
abbrev noLoaded : Value := .agg #[.int .i64 0, .int .u32 0, .int .u32 0, .int .i64 0, .slice none 0 0, .int .i64 0, .bool false]
set_option maxRecDepth 100000 in
set_option maxHeartbeats 4000000 in
/-- By what Open and Decode tell. -/
theorem rload_by (x : List ByteArray) (s : ByteArray) (st c : Int) (D : ByteArray) (ok : Bool) (ha hg hs hb he : Int) (w : World) (hx : x.length = 16) (hx0 : x[0]? = some s)
    (ho : ∀ W : World, Calls Tryd.prog 47 #[.string s] W fun e w' => e = .returned (.agg #[.int .u32 st, .int .i64 c, .string D, .bool ok]) ∧ Below W.heap.size W w')
    (hd : ∀ W : World, Calls Tryd.prog 70 #[.string D] W fun e w' => e = .returned (.agg #[.int .i64 ha, .int .u32 hg, .int .u32 hs, .int .i64 hb, .int .i64 he]) ∧ Below W.heap.size W w')
    (hno : ok = false ∨ c ≠ 1 ∨ he ≠ 0 ∨ hs ≠ st) :
    Calls Tryd.prog 31 #[.agg (rowS x).toArray] w fun e w' => e = .returned noLoaded ∧ Below w.heap.size w w' := by
  obtain ⟨T, hT⟩ : ∃ T, Hid (rowS x = T) := ⟨_, Lib.hid rfl⟩
  have hT0 : T[0]? = some (.string s) := by rw [← hT.out]; exact rowS_at hx0
  have hX := Whole.new w 39 T
  rw [hT.out]
  replace ho := Lib.hid ho
  replace hd := Lib.hid hd
  obtain ⟨W, hW, hA, hR, hB⟩ : ∃ W, Hid (W = (w.alloc (.cells T.toArray 39)).alloc (.cells #[.int .i64 0, .int .u32 0, .int .u32 0, .int .i64 0, .slice none 0 0, .int .i64 0, .bool false] 66)) ∧ Whole W w.heap.size 39 T ∧ Whole W (w.heap.size + 1) 66 [.int .i64 0, .int .u32 0, .int .u32 0, .int .i64 0, .slice none 0 0, .int .i64 0, .bool false] ∧ Below w.heap.size w W := by
    obtain ⟨W, h1, h2, h3, h4⟩ := two_boxes w 39 66 T [.int .i64 0, .int .u32 0, .int .u32 0, .int .i64 0, .slice none 0 0, .int .i64 0, .bool false]
    exact ⟨W, Lib.hid h1, h2, h3, h4⟩
  have c0 : W.cell? ⟨w.heap.size, 0, none⟩ = some (.string s) := (hA.cell 0).trans hT0
  clear hX hA
  go_enter Tryd.func31, Tryd.ntmps31
  go_upto_region 1 with fail
  rw [← show W = _ from hW.out]
  clear hW
  go_wp2_with fail
  refine (ho.out _).mono ?_
  rintro _ w1 ⟨rfl, hb1⟩
  have hR1 := Lib.hid ((hR.below hb1 hR.lt).alloc (.cells #[.int .u32 st, .int .i64 c, .string D, .bool ok] 93))
  have hB1 := Lib.hid (grewAlloc (grew hB hb1) (.cells #[.int .u32 st, .int .i64 c, .string D, .bool ok] 93))
  clear c0 hR hB hb1
  have hG1 := Whole.new w1 93 [.int .u32 st, .int .i64 c, .string D, .bool ok]
  go_wp2_with fail
  refine (hd.out _).mono ?_
  rintro _ w2 ⟨rfl, hb2⟩
  have hG2 := hG1.below hb2 hG1.lt
  have hR2 := Lib.hid ((hR1.out.below hb2 hR1.out.lt).alloc (.cells #[.int .i64 ha, .int .u32 hg, .int .u32 hs, .int .i64 hb, .int .i64 he] 127))
  have hB2 := Lib.hid (grewAlloc (grew hB1.out hb2) (.cells #[.int .i64 ha, .int .u32 hg, .int .u32 hs, .int .i64 hb, .int .i64 he] 127))
  have g0 := hG2.cell 0
  have g1 := hG2.cell 1
  have g3 := hG2.cell 3
  simp only [List.getElem?_cons_zero, List.getElem?_cons_succ] at g0 g1 g3
  have hq : w1.heap.size < w2.heap.size := by have := hG2.lt; exact this
  clear hR1 hB1 hG1 hG2 hb2
  have hends : ok = false ∨ (ok = true ∧ (¬ c = 1 ∨ (c = 1 ∧ (¬ he = 0 ∨ (he = 0 ∧ ¬ hs = st))))) := by
    cases ok
    · exact .inl rfl
    · refine .inr ⟨rfl, ?_⟩
      by_cases h1 : c = 1
      · refine .inr ⟨h1, ?_⟩
        by_cases h2 : he = 0
        · refine .inr ⟨h2, ?_⟩
          rcases hno with h | h | h | h
          · cases h
          · exact absurd h1 h
          · exact absurd h2 h
          · exact h
        · exact .inl h2
      · exact .inl h1
  clear hno
  rcases hends with rfl | ⟨rfl, h1 | ⟨rfl, h2 | ⟨rfl, h3⟩⟩⟩
  all_goals
    go_wp2_with (with_reducible refine zStore 66 _ _ rfl ?_)
    refine Lib.hid ?_
    refine wpList_store_mid rfl 66 _ _ rfl (w.heap.size + 1) 0 #[.int .i64 0, .int .u32 0, .int .u32 0, .int .i64 0, .slice none 0 0, .int .i64 0, .bool false] rfl rfl (hR2.out.there 0 7 (Nat.le_refl 7)) sizeLoaded (by simp [Value.oneCell']) ?_
    go_wp2_with fail
    have hfin := whole_all hR2.out (vs := [.int .i64 0, .int .u32 0, .int .u32 0, .int .i64 0, .slice none 0 0, .int .i64 0, .bool false]) rfl
    exact bodyPost_ret (result_cell Tryd.results31 rfl hfin.range Tryd.underlying66 rfl sizeLoaded) rfl ⟨rfl, below_store hB2.out (by omega) (Nat.le_refl _) 0 _⟩
theorem rload_no (x : List ByteArray) (s : ByteArray) (w : World) (hx : x.length = 16) (hx0 : x[0]? = some s) (hs : s.size ≤ 1000000) (hno : ¬ headS s) :
    Calls Tryd.prog 31 #[.agg (rowS x).toArray] w fun e w' => e = .returned noLoaded ∧ Below w.heap.size w w' := by
  by_cases ho : opensS s
  · have hz : 32 ≤ (s.extract 6 58).size := by have := ho.1; simp; omega
    have hz2 : (s.extract 6 58).size ≤ 1000000 := by simp; omega
    have h1 := fun W => ropen_yes s W ho
    by_cases hh : isH (s.extract 6 58)
    · refine rload_by x s (stampS s : Nat) (countS s : Nat) (s.extract 6 58) true _ _ _ _ 0 w hx hx0 h1 (fun W => rdecH_isH (s.extract 6 58) W hz hz2 hh) ?_
      by_cases hc : countS s = 1
      · refine .inr (.inr (.inr fun e => hno ⟨ho, hc, hh, ?_⟩))
        omega
      · exact .inr (.inl (by omega))
    · exact rload_by x s (stampS s : Nat) (countS s : Nat) (s.extract 6 58) true _ _ _ _ 4 w hx hx0 h1 (fun W => rdecH_notH (s.extract 6 58) W hz hz2 hh) (.inr (.inr (.inl (by decide))))
  · exact rload_by x s 0 0 ⟨#[]⟩ false _ _ _ _ 3 w hx hx0 (fun W => ropen_no s W hs ho) (fun W => rdecH_short ⟨#[]⟩ W (by decide)) (.inl rfl)
end Go.Proofs.YtlgoepbfdldgnaaDoor.W
end
section
namespace Go.Proofs.YtlgoepbfdldgnaaDoor.W
open Go.RowKit
open Go.Proofs.YtlgoepbfdldgnaaDoor.M Go.Proofs.YtlgoepbfdldgnaaDoor.D Go.Proofs.YtlgoepbfdldgnaaDoor.Z
set_option linter.unusedVariables false

theorem datS_size (x : List ByteArray) (k : Nat) : (datS x k).size ≤ 52 := by
  unfold datS
  simp
  omega
theorem runF_size (x : List ByteArray) (st c : Nat) : ∀ f k, (runF x st c f k).size ≤ 52 * f
  | 0, k => Nat.zero_le _
  | f + 1, k => by
    rw [runF_succ]
    split
    · rw [ByteArray.size_append]
      have h1 := datS_size x k
      have h2 := runF_size x st c f (k + 1)
      omega
    · exact Nat.zero_le _
theorem runS_size (x : List ByteArray) (st c k : Nat) : (runS x st c k).size ≤ 832 := by
  have h := runF_size x st c (16 - k) k
  unfold runS
  omega
/-- The frame that bytes tell. -/
def frF (d : ByteArray) : Int × ByteArray := (((bt d.data.toList 6 : Nat) : Int), d.extract 7 (6 + toldF d))
/-- What is loaded from a place on, behind frames. -/
noncomputable def loadF (x : List ByteArray) (st : Nat) : Nat → Nat → List (Int × ByteArray) → List (Int × ByteArray) × Nat
  | 0, e, l => (l, e)
  | f + 1, e, l => if e < 16 ∧ decWhy (st : Int) (e : Int) (runS x st (l.length + 2) e) = 0 then loadF x st f (e + (6 + toldF (runS x st (l.length + 2) e) + 51) / 52) (l ++ [frF (runS x st (l.length + 2) e)]) else (l, e)
theorem loadF_yes {x : List ByteArray} {st f e : Nat} {l : List (Int × ByteArray)} {d : ByteArray} (hd : runS x st (l.length + 2) e = d) (h : e < 16) (h2 : decWhy (st : Int) (e : Int) d = 0) :
    loadF x st (f + 1) e l = loadF x st f (e + (6 + toldF d + 51) / 52) (l ++ [frF d]) := by
  subst hd
  show (if _ then _ else _) = _
  rw [if_pos ⟨h, h2⟩]
theorem loadF_no {x : List ByteArray} {st f e : Nat} {l : List (Int × ByteArray)} {d : ByteArray} (hd : runS x st (l.length + 2) e = d) (h : ¬ (e < 16 ∧ decWhy (st : Int) (e : Int) d = 0)) : loadF x st f e l = (l, e) := by
  subst hd
  cases f with
  | zero => rfl
  | succ f =>
    show (if _ then _ else _) = _
    rw [if_neg h]
theorem loadF_end {x : List ByteArray} {st f e : Nat} {l : List (Int × ByteArray)} (h : ¬ e < 16) : loadF x st f e l = (l, e) := loadF_no rfl (fun h2 => h h2.1)
/-- A Loaded, as cells. -/
abbrev ldL (a g s b : Nat) (v : Value) (e : Nat) : List Value := [.int .i64 (a : Int), .int .u32 (g : Int), .int .u32 (s : Int), .int .i64 (b : Int), v, .int .i64 (e : Int), .bool true]
theorem newBelow4 {w0 w' : World} {c0 c1 c2 c3 : Value} {t : TypeId} (hb : Below (w0.alloc (.cells #[c0, c1, c2, c3] t)).heap.size (w0.alloc (.cells #[c0, c1, c2, c3] t)) w') : Whole w' w0.heap.size t [c0, c1, c2, c3] := by
  have h := Whole.new w0 t [c0, c1, c2, c3]
  exact h.below hb h.lt
theorem newBelow4d {w0 w' : World} {c0 c1 c2 c3 : Value} {t : TypeId} (hb : Below (w0.alloc (.cells #[c0, c1, c2, c3] t)).drew.heap.size (w0.alloc (.cells #[c0, c1, c2, c3] t)).drew w') : Whole w' w0.heap.size t [c0, c1, c2, c3] := by
  have h : Whole (w0.alloc (.cells #[c0, c1, c2, c3] t)).drew w0.heap.size t [c0, c1, c2, c3] := Whole.new w0 t [c0, c1, c2, c3]
  exact h.below hb h.lt
theorem keepNewL {V0 w : World} (h : Below V0.heap.size V0 w) (o : Obj) : Below V0.heap.size V0 (w.alloc o) := grewAlloc h o
theorem keepSet4 {V0 w : World} {q : Nat} (h : Below V0.heap.size V0 w) (hq : V0.heap.size ≤ q) (c0 c1 c2 c3 : Value) : Below V0.heap.size V0 ((((w.setCell ⟨q, 0, none⟩ c0).setCell ⟨q, 1, none⟩ c1).setCell ⟨q, 2, none⟩ c2).setCell ⟨q, 3, none⟩ c3) :=
  below_store h hq (Nat.le_refl _) 0 [c0, c1, c2, c3]
/-- What a round of Load finds and leaves. -/
structure LdW (w : World) (Bx Br Bg Bp Bo : Nat) (T : List Value) (st a g b : Nat) (D : ByteArray) (e : Nat) (l : List (Int × ByteArray)) (la : Option Addr) (lc : Nat) (W : World) : Prop where
  sect : Whole W Bx 39 T
  res : Whole W Br 66 [.int .i64 0, .int .u32 0, .int .u32 0, .int .i64 0, .slice none 0 0, .int .i64 0, .bool false]
  got : Whole W Bg 93 [.int .u32 (st : Int), .int .i64 1, .string D, .bool true]
  out : Whole W Bp 66 (ldL a g st b (.slice la l.length lc) e)
  own : W.ownsRow Bo 45 2 (.slice la l.length lc) l.length (frRows l)
  below : Below w.heap.size w W
theorem LdW.grow {w W W' : World} {Bx Br Bg Bp Bo : Nat} {T : List Value} {st a g b : Nat} {D : ByteArray} {e : Nat} {l : List (Int × ByteArray)} {la : Option Addr} {lc : Nat} (h : LdW w Bx Br Bg Bp Bo T st a g b D e l la lc W) (hb : Below W.heap.size W W') : LdW w Bx Br Bg Bp Bo T st a g b D e l la lc W' :=
  ⟨h.sect.below hb h.sect.lt, h.res.below hb h.res.lt, h.got.below hb h.got.lt, h.out.below hb h.out.lt, own_of_kept (own := fun _ => False) h.own (Kept.of_below hb) (fun _ _ h => h), grew h.below hb⟩
attribute [local go_sem ↓] load_secS in
set_option maxRecDepth 100000 in
set_option maxHeartbeats 8000000 in
theorem rload_yes (x : List ByteArray) (s : ByteArray) (st a g b : Nat) (D : ByteArray) (w : World) (hx : x.length = 16) (hx0 : x[0]? = some s) (hst : st < 4294967296) (hsz : ∀ (k : Nat) (s : ByteArray), x[k]? = some s → s.size ≤ 1000000)
    (ho : ∀ W : World, Calls Tryd.prog 47 #[.string s] W fun e w' => e = .returned (.agg #[.int .u32 (st : Int), .int .i64 1, .string D, .bool true]) ∧ Below W.heap.size W w')
    (hd : ∀ W : World, Calls Tryd.prog 70 #[.string D] W fun e w' => e = .returned (.agg #[.int .i64 (a : Int), .int .u32 (g : Int), .int .u32 (st : Int), .int .i64 (b : Int), .int .i64 0]) ∧ Below W.heap.size W w') :
    Calls Tryd.prog 31 #[.agg (rowS x).toArray] w fun e w' => ∃ v n, e = .returned (.agg (ldL a g st b v (loadF x st 16 1 []).2).toArray) ∧ n = (loadF x st 16 1 []).1.length ∧ w'.ownsRow w.heap.size 45 2 v n (frRows (loadF x st 16 1 []).1) ∧ Below w.heap.size w w' := by
  obtain ⟨FL, hFL⟩ : ∃ FL, Hid (loadF x st 16 1 [] = FL) := ⟨_, Lib.hid rfl⟩
  rw [hFL.out]
  obtain ⟨T, hT⟩ : ∃ T, Hid (rowS x = T) := ⟨_, Lib.hid rfl⟩
  have hT0 : T[0]? = some (.string s) := by rw [← hT.out]; exact rowS_at hx0
  have hTl : T.length = 16 := by rw [← hT.out, rowS_len, hx]
  have hrun : Hid (∀ (c e : Nat) (W : World), c < 4294967296 → e ≤ 16 → Calls Tryd.prog 72 #[.agg T.toArray, .int .u32 (st : Int), .int .i64 (e : Int), .int .i64 (c : Int)] W fun r w' => r = .returned (.string (runS x st c e)) ∧ Below W.heap.size W w') := Lib.hid (fun c e W h1 h2 => by
    have h := rrun_any x st c e W hx hsz hst h1 h2
    rw [hT.out] at h
    exact h)
  rw [hT.out]
  replace ho := Lib.hid ho
  replace hd := Lib.hid hd
  obtain ⟨W, hW, hA, hR, hB⟩ : ∃ W, Hid (W = (w.alloc (.cells T.toArray 39)).alloc (.cells #[.int .i64 0, .int .u32 0, .int .u32 0, .int .i64 0, .slice none 0 0, .int .i64 0, .bool false] 66)) ∧ Whole W w.heap.size 39 T ∧ Whole W (w.heap.size + 1) 66 [.int .i64 0, .int .u32 0, .int .u32 0, .int .i64 0, .slice none 0 0, .int .i64 0, .bool false] ∧ Below w.heap.size w W := by
    obtain ⟨W, h1, h2, h3, h4⟩ := two_boxes w 39 66 T [.int .i64 0, .int .u32 0, .int .u32 0, .int .i64 0, .slice none 0 0, .int .i64 0, .bool false]
    exact ⟨W, Lib.hid h1, h2, h3, h4⟩
  have c0 : W.cell? ⟨w.heap.size, 0, none⟩ = some (.string s) := (hA.cell 0).trans hT0
  go_enter Tryd.func31, Tryd.ntmps31
  go_upto_region 1 with fail
  rw [← show W = _ from hW.out]
  clear hW
  go_wp2_with fail
  refine (ho.out _).mono ?_
  rintro _ w1 ⟨rfl, hb1⟩
  have hA1 := Lib.hid ((hA.below hb1 hA.lt).alloc (.cells #[.int .u32 (st : Int), .int .i64 1, .string D, .bool true] 93))
  have hR1 := Lib.hid ((hR.below hb1 hR.lt).alloc (.cells #[.int .u32 (st : Int), .int .i64 1, .string D, .bool true] 93))
  have hB1 := Lib.hid (grewAlloc (grew hB hb1) (.cells #[.int .u32 (st : Int), .int .i64 1, .string D, .bool true] 93))
  have hG1 := Whole.new w1 93 [.int .u32 (st : Int), .int .i64 1, .string D, .bool true]
  have hq1 : w.heap.size + 1 < w1.heap.size := Nat.lt_of_lt_of_le hR.lt hb1.size
  clear c0 hR hA hB hb1
  go_wp2_with fail
  refine (hd.out _).mono ?_
  rintro _ w2 ⟨rfl, hb2⟩
  have hG2 := hG1.below hb2 hG1.lt
  have hq : w1.heap.size < w2.heap.size := by have := hG2.lt; exact this
  have hA2 := (hA1.out.below hb2 hA1.out.lt).alloc (.cells #[.int .i64 (a : Int), .int .u32 (g : Int), .int .u32 (st : Int), .int .i64 (b : Int), .int .i64 0] 127)
  have hR2 := (hR1.out.below hb2 hR1.out.lt).alloc (.cells #[.int .i64 (a : Int), .int .u32 (g : Int), .int .u32 (st : Int), .int .i64 (b : Int), .int .i64 0] 127)
  have hB2 := grewAlloc (grew hB1.out hb2) (.cells #[.int .i64 (a : Int), .int .u32 (g : Int), .int .u32 (st : Int), .int .i64 (b : Int), .int .i64 0] 127)
  have hG3 := hG2.alloc (.cells #[.int .i64 (a : Int), .int .u32 (g : Int), .int .u32 (st : Int), .int .i64 (b : Int), .int .i64 0] 127)
  have hA3 := Lib.hid (hA2.alloc (.cells (ldL a g st b (.slice none 0 0) 1).toArray 66))
  have hR3 := Lib.hid (hR2.alloc (.cells (ldL a g st b (.slice none 0 0) 1).toArray 66))
  have hB3 := Lib.hid (grewAlloc hB2 (.cells (ldL a g st b (.slice none 0 0) 1).toArray 66))
  have hG4 := Lib.hid (hG3.alloc (.cells (ldL a g st b (.slice none 0 0) 1).toArray 66))
  have hP4 := Whole.new (w2.alloc (.cells #[.int .i64 (a : Int), .int .u32 (g : Int), .int .u32 (st : Int), .int .i64 (b : Int), .int .i64 0] 127)) 66 (ldL a g st b (.slice none 0 0) 1)
  have g0 := hG2.cell 0
  have g1 := hG2.cell 1
  have g3 := hG2.cell 3
  simp only [List.getElem?_cons_zero, List.getElem?_cons_succ] at g0 g1 g3
  replace hG3 := Lib.hid hG3
  clear hG1 hG2 hA1 hR1 hB1 hA2 hR2 hB2 hb2
  go_wp2_with fail
  have hst0 : LdW w w.heap.size (w.heap.size + 1) w1.heap.size (w2.heap.size + 1) w.heap.size T st a g b D 1 [] none 0 ((w2.alloc (.cells #[.int .i64 (a : Int), .int .u32 (g : Int), .int .u32 (st : Int), .int .i64 (b : Int), .int .i64 0] 127)).alloc (.cells (ldL a g st b (.slice none 0 0) 1).toArray 66)) :=
    ⟨hA3.out, hR3.out, hG4.out, by simpa using hP4, own_nil, hB3.out⟩
  replace hst0 := Lib.hid hst0
  obtain ⟨Bp, hBp⟩ : ∃ Bp, Hid (w2.heap.size + 1 = Bp) := ⟨_, Lib.hid rfl⟩
  have hneP : w1.heap.size ≠ Bp ∧ w.heap.size ≠ Bp ∧ w.heap.size + 1 ≠ Bp ∧ w.heap.size ≤ Bp := ⟨by have := hBp.out; omega, by have := hBp.out; omega, by have := hBp.out; omega, by have := hBp.out; omega⟩
  rw [hBp.out] at hst0 ⊢
  clear hA3 hR3 hG4 hP4 hB3 hG3 g0 g1 g3
  go_loopg [] 16 (fun ga wr => ∃ (e : Nat) (l : List (Int × ByteArray)) (la : Option Addr) (lc : Nat), 1 ≤ e ∧ e ≤ 3000 ∧ l.length ≤ e ∧ 16 ≤ e + ga ∧ Hid (loadF x st ga e l = FL) ∧ Hid (LdW w w.heap.size (w.heap.size + 1) w1.heap.size Bp w.heap.size T st a g b D e l la lc wr))
  case atStart => exact ⟨1, [], none, 0, by omega, by omega, by simp, by omega, hFL, hst0⟩
  case round =>
    clear hst0
    obtain ⟨e, l, la, lc, he1, he2, hle, hge, hF, hw⟩ := hrel
    generalize wr = wo at *
    have r5 : wo.cell? ⟨Bp, 5, none⟩ = some (.int .i64 (e : Int)) := hw.out.out.cell 5
    by_cases h16 : e < 16
    · have hwn : IntKind.i64.wrap ((l.length : Int) + 2) = ((l.length + 2 : Nat) : Int) := by rw [IntWalk.i64_in _ (by omega)]; omega
      obtain ⟨c, hc⟩ : ∃ c, Hid (l.length + 2 = c) := ⟨_, Lib.hid rfl⟩
      have hcl : c ≤ 3002 := by have := hc.out; omega
      rw [hc.out] at hwn
      have hds := runS_size x st c e
      have hru := fun W => hrun.out c e W (by omega) (by omega)
      obtain ⟨d, hd2⟩ : ∃ d, Hid (runS x st c e = d) := ⟨_, Lib.hid rfl⟩
      rw [hd2.out] at hru hds
      have hde := fun W => rdecode_any (st : Int) (e : Int) d W (by omega) (by omega) (by omega)
      obtain ⟨i0, hi0, hz0, hz1, hz2⟩ := info_parts infoFrame
      by_cases hy : decWhy (st : Int) (e : Int) d = 0
      · have hF1 := hF.out
        obtain ⟨f, rfl⟩ : ∃ f, gk = f + 1 := ⟨gk - 1, by omega⟩
        rw [loadF_yes (d := d) (by rw [hc.out]; exact hd2.out) h16 hy] at hF1
        rw [rdecV_yes hy] at hde
        obtain ⟨K, hK⟩ : ∃ K : Nat, Hid (bt d.data.toList 6 = K) := ⟨_, Lib.hid rfl⟩
        obtain ⟨P, hP⟩ : ∃ P, Hid (d.extract 7 (6 + toldF d) = P) := ⟨_, Lib.hid rfl⟩
        obtain ⟨N, hN⟩ : ∃ N, Hid (6 + toldF d = N) := ⟨_, Lib.hid rfl⟩
        rw [hK.out, hP.out, hN.out] at hde
        have hV0 : Below wo.heap.size wo wo := Below.refl _ _
        have hV1 : Below wo.heap.size wo wo.drew := (Below.refl _ _).drew
        have f0 : ∀ W, Below wo.heap.size wo W → W.cell? ⟨w1.heap.size, 0, none⟩ = some (.int .u32 (st : Int)) := fun W h => (hw.out.grow h).got.cell 0
        have f4 : ∀ W, Below wo.heap.size wo W → W.cell? ⟨Bp, 4, none⟩ = some (.slice la l.length lc) := fun W h => (hw.out.grow h).out.cell 4
        have f5 : ∀ W, Below wo.heap.size wo W → W.cell? ⟨Bp, 5, none⟩ = some (.int .i64 (e : Int)) := fun W h => (hw.out.grow h).out.cell 5
        have hrh : ∀ W, Below wo.heap.size wo W → hasAt W (.pointer (some ⟨w.heap.size, 0, none⟩)) 16 := fun W h => has_of (hw.out.grow h).sect.range hTl
        have hrd : ∀ W, Below wo.heap.size wo W → readAt W (.pointer (some ⟨w.heap.size, 0, none⟩)) 16 = T := fun W h => read_of (hw.out.grow h).sect.range hTl
        replace hru := Lib.hid hru
        replace hde := Lib.hid hde
        go_wp2_with fail
        go_region_held3 (fun w' => Below wo.heap.size wo w') (first | assumption | exact keepNewL (by assumption) _ | exact keepSet4 (by first | assumption | exact keepNewL (by assumption) _) (by first | exact Nat.le_refl _ | exact Below.size (by assumption)) _ _ _ _ | (go_keep)) (first
          | (go_at_call 72; (with_reducible refine (hru.out _).mono ?_); rintro _ w5 ⟨rfl, hb5⟩; have hk5 : Below wo.heap.size wo w5 := grew (by assumption) hb5; (try (have hn := newBelow4d hb5; have n0 := hn.cell 0; have n1 := hn.cell 1; have n2 := hn.cell 2; have n3 := hn.cell 3; simp only [List.getElem?_cons_zero, List.getElem?_cons_succ] at n0 n1 n2 n3)))
          | (go_at_call 71; (with_reducible refine (hde.out _).mono ?_); rintro _ w6 ⟨rfl, hb6⟩; have hk6 : Below wo.heap.size wo w6 := grew (by assumption) hb6; (try ((first | (have hm := hn.below hb6 hn.lt) | (have hm := newBelow4 hb6)); have m0 := hm.cell 0; have m1 := hm.cell 1; have m2 := hm.cell 2; have m3 := hm.cell 3; have z0 := hm.frozen 0; have z1 := hm.frozen 1; have z2 := hm.frozen 2; have z3 := hm.frozen 3; simp only [List.getElem?_cons_zero, List.getElem?_cons_succ] at m0 m1 m2 m3))))
        all_goals (first
         | (have hY := whole_all hm (vs := [.int .i64 (K : Int), .string P, .int .i64 (N : Int), .int .i64 0]) rfl; have hK7 : Below wo.heap.size wo (w6.setCells w5.heap.size 0 [.int .i64 (K : Int), .string P, .int .i64 (N : Int), .int .i64 0]) := (by assumption); clear hm m0 m1 m2 m3 z0 z1 z2 z3
            rw [show (((w6.setCell ⟨w5.heap.size, 0, none⟩ (.int .i64 (K : Int))).setCell ⟨w5.heap.size, 1, none⟩ (.string P)).setCell ⟨w5.heap.size, 2, none⟩ (.int .i64 (N : Int))).setCell ⟨w5.heap.size, 3, none⟩ (.int .i64 0) = w6.setCells w5.heap.size 0 [.int .i64 (K : Int), .string P, .int .i64 (N : Int), .int .i64 0] from rfl]
            generalize w6.setCells w5.heap.size 0 [.int .i64 (K : Int), .string P, .int .i64 (N : Int), .int .i64 0] = w7 at hY hK7 ⊢
            obtain ⟨yb, hyb⟩ : ∃ yb, Hid (w5.heap.size = yb) := ⟨_, Lib.hid rfl⟩
            rw [hyb.out] at hY ⊢)
         | (have hY := whole_all hm (vs := [.int .i64 (K : Int), .string P, .int .i64 (N : Int), .int .i64 0]) rfl; have hK7 : Below wo.heap.size wo (w6.setCells wo.heap.size 0 [.int .i64 (K : Int), .string P, .int .i64 (N : Int), .int .i64 0]) := (by assumption); clear hm m0 m1 m2 m3 z0 z1 z2 z3
            rw [show (((w6.setCell ⟨wo.heap.size, 0, none⟩ (.int .i64 (K : Int))).setCell ⟨wo.heap.size, 1, none⟩ (.string P)).setCell ⟨wo.heap.size, 2, none⟩ (.int .i64 (N : Int))).setCell ⟨wo.heap.size, 3, none⟩ (.int .i64 0) = w6.setCells wo.heap.size 0 [.int .i64 (K : Int), .string P, .int .i64 (N : Int), .int .i64 0] from rfl]
            generalize w6.setCells wo.heap.size 0 [.int .i64 (K : Int), .string P, .int .i64 (N : Int), .int .i64 0] = w7 at hY hK7 ⊢
            obtain ⟨yb, hyb⟩ : ∃ yb, Hid (wo.heap.size = yb) := ⟨_, Lib.hid rfl⟩
            rw [hyb.out] at hY ⊢)
         | (have hY := Whole.new w6 130 [.int .i64 (K : Int), .string P, .int .i64 (N : Int), .int .i64 0]; have hK7 : Below wo.heap.size wo (w6.alloc (.cells #[.int .i64 (K : Int), .string P, .int .i64 (N : Int), .int .i64 0] 130)) := (by assumption)
            generalize w6.alloc (.cells #[.int .i64 (K : Int), .string P, .int .i64 (N : Int), .int .i64 0] 130) = w7 at hY hK7 ⊢
            obtain ⟨yb, hyb⟩ : ∃ yb, Hid (w6.heap.size = yb) := ⟨_, Lib.hid rfl⟩
            rw [hyb.out] at hY ⊢))
        all_goals
          have hw7 := hw.out.grow hK7
          have y0 := hY.cell 0
          have y1 := hY.cell 1
          have y2 := hY.cell 2
          have y3 := hY.cell 3
          have c4 : w7.cell? ⟨Bp, 4, none⟩ = some (.slice la l.length lc) := hw7.out.cell 4
          have c5 : w7.cell? ⟨Bp, 5, none⟩ = some (.int .i64 (e : Int)) := hw7.out.cell 5
          simp only [List.getElem?_cons_zero, List.getElem?_cons_succ] at y0 y1 y2 y3
          go_wp2_with (with_reducible refine zAppend _ _ _ rfl ?_)
          refine Lib.hid ?_
          refine wpList_append_lies _ rfl _ _ 25 rfl w.heap.size 45 i0 _ 2 24 Tryd.underlying25 hi0 hz0 hz1 hz2 rfl (by omega) (.slice la l.length lc) l.length (frRows l) rfl (hw7.own.alloc _) _ 1 1 [.int .i64 (K : Int), .string P] rfl rfl (World.news_of_block (heap_alloc_new _ _)) (by simp [Value.oneCell']) (by omega) (by unfold maxLen; omega) (by omega) (by have := hw7.below.size; simp; omega) (w7.heap.size + 1) (by simp) ?_
          intro gg cap w8 hown8 hgrow8 hat8 hlt8
          have hP8 := (hw7.out.alloc _).kept hgrow8 (fun h => own_ne hw7.own hw7.out (by decide) _ h.symm rfl)
          have hS8 := (hw7.sect.alloc _).kept hgrow8 (fun h => own_ne hw7.own hw7.sect (by decide) _ h.symm rfl)
          have hR8 := (hw7.res.alloc _).kept hgrow8 (fun h => own_ne hw7.own hw7.res (by decide) _ h.symm rfl)
          have hG8 := (hw7.got.alloc _).kept hgrow8 (fun h => own_ne hw7.own hw7.got (by decide) _ h.symm rfl)
          have hY8 := (hY.alloc (.cells #[.int .i64 (K : Int), .string P] 45)).kept hgrow8 (fun h => own_ne hw7.own hY (by decide) _ h.symm rfl)
          rw [← frRows_add] at hown8
          have hk8 : Kept (fun q => w.heap.size ≤ q) w w8 := ((Kept.of_below hw7.below).alloc _).grown hgrow8 (fun q hq => .inl (ownFar hw7.own q hq))
          have hneY : yb ≠ Bp := hY8.ne hP8 (by decide)
          have p4 : w8.cell? ⟨Bp, 4, none⟩ = some (.slice la l.length lc) := hP8.cell 4
          have p5 : w8.cell? ⟨Bp, 5, none⟩ = some (.int .i64 (e : Int)) := hP8.cell 5
          have f4' := hP8.frozen 4
          have f5' := hP8.frozen 5
          have y2' : w8.cell? ⟨yb, 2, none⟩ = some (.int .i64 (N : Int)) := hY8.cell 2
          have hP9 : Whole ((w8.setCell ⟨Bp, 4, none⟩ (.slice (some ⟨gg, 0, none⟩) (l.length + 1) cap)).setCell ⟨Bp, 5, none⟩ (.int .i64 ((e + (N + 51) / 52 : Nat) : Int))) Bp 66 (ldL a g st b (.slice (some ⟨gg, 0, none⟩) (l.length + 1) cap) (e + (N + 51) / 52)) := (hP8.store 4 [.slice (some ⟨gg, 0, none⟩) (l.length + 1) cap] (by simp)).store 5 [.int .i64 ((e + (N + 51) / 52 : Nat) : Int)] (by simp [splice])
          have hk9 : Kept (fun q => q = Bp) w8 ((w8.setCell ⟨Bp, 4, none⟩ (.slice (some ⟨gg, 0, none⟩) (l.length + 1) cap)).setCell ⟨Bp, 5, none⟩ (.int .i64 ((e + (N + 51) / 52 : Nat) : Int))) := ((Kept.refl (fun q => q = Bp) w8).setCell (c := Bp) (.inl rfl) 4 _).setCell (c := Bp) (.inl rfl) 5 _
          have hS9 := hS8.of_kept hk9 hneP.2.1
          have hG9 := hG8.of_kept hk9 hneP.1
          have hR9 := hR8.of_kept hk9 hneP.2.2.1
          have hO9 := own_of_kept hown8 hk9 (own_ne hown8 hP8 (by decide))
          have hb9 := (hk8.setCell (c := Bp) (.inl hneP.2.2.2) 4 (.slice (some ⟨gg, 0, none⟩) (l.length + 1) cap)).setCell (c := Bp) (.inl hneP.2.2.2) 5 (.int .i64 ((e + (N + 51) / 52 : Nat) : Int))
          have hL9 : LdW w w.heap.size (w.heap.size + 1) w1.heap.size Bp w.heap.size T st a g b D (e + (N + 51) / 52) (l ++ [((K : Int), P)]) (some ⟨gg, 0, none⟩) cap ((w8.setCell ⟨Bp, 4, none⟩ (.slice (some ⟨gg, 0, none⟩) (l.length + 1) cap)).setCell ⟨Bp, 5, none⟩ (.int .i64 ((e + (N + 51) / 52 : Nat) : Int))) :=
            ⟨hS9, hR9, hG9, by rw [List.length_append]; exact hP9, by rw [List.length_append]; exact hO9, hb9.below (Nat.le_refl _) (fun _ h => h)⟩
          replace hL9 := Lib.hid hL9
          have hNl : N < 65542 := by have := hN.out; have := toldF_lt d; omega
          have hw51 : IntKind.i64.wrap ((N : Int) + 51) = ((N + 51 : Nat) : Int) := by rw [IntWalk.i64_in _ (by omega)]; omega
          have hw52 : IntKind.i64.wrap ((e : Int) + (((N + 51) / 52 : Nat) : Int)) = ((e + (N + 51) / 52 : Nat) : Int) := by rw [IntWalk.i64_in _ (by omega)]; omega
          have hquo : Int.tdiv ((N + 51 : Nat) : Int) 52 = (((N + 51) / 52 : Nat) : Int) := rfl
          have hwq : IntKind.i64.wrap (((N + 51) / 52 : Nat) : Int) = (((N + 51) / 52 : Nat) : Int) := IntWalk.i64_in _ (by omega)
          have hfr : frF d = ((K : Int), P) := by unfold frF; rw [hK.out, hP.out]
          have hF2 : Hid (loadF x st f (e + (N + 51) / 52) (l ++ [((K : Int), P)]) = FL) := Lib.hid (by rw [← hF1, hfr, hN.out])
          have hNs : 7 ≤ N + 1 := by have := hN.out; omega
          clear hP9 hk9 hS9 hG9 hR9 hO9 hb9 hS8 hR8 hG8 hP8 hY8 hown8 hk8 hw7 c4 c5 y0 y1 y2 y3 hY hgrow8 hat8
          go_wp2_with fail
          go_roundg f
          case measure => omega
          case rel => exact ⟨e + (N + 51) / 52, l ++ [((K : Int), P)], some ⟨gg, 0, none⟩, cap, by omega, by omega, by rw [List.length_append, List.length_singleton]; omega, by omega, hF2, hL9⟩
      · have hF1 := hF.out
        rw [loadF_no (d := d) (by rw [hc.out]; exact hd2.out) (fun h => hy h.2)] at hF1
        rw [rdecV_no rfl hy] at hde
        obtain ⟨Y, hYY⟩ : ∃ Y, Hid (decWhy (st : Int) (e : Int) d = Y) := ⟨_, Lib.hid rfl⟩
        rw [hYY.out] at hde hy
        have hy2 : (Y == 0) = false := by simp [hy]
        have hV0 : Below wo.heap.size wo wo := Below.refl _ _
        have hV1 : Below wo.heap.size wo wo.drew := (Below.refl _ _).drew
        have f0 : ∀ W, Below wo.heap.size wo W → W.cell? ⟨w1.heap.size, 0, none⟩ = some (.int .u32 (st : Int)) := fun W h => (hw.out.grow h).got.cell 0
        have f4 : ∀ W, Below wo.heap.size wo W → W.cell? ⟨Bp, 4, none⟩ = some (.slice la l.length lc) := fun W h => (hw.out.grow h).out.cell 4
        have f5 : ∀ W, Below wo.heap.size wo W → W.cell? ⟨Bp, 5, none⟩ = some (.int .i64 (e : Int)) := fun W h => (hw.out.grow h).out.cell 5
        have hrh : ∀ W, Below wo.heap.size wo W → hasAt W (.pointer (some ⟨w.heap.size, 0, none⟩)) 16 := fun W h => has_of (hw.out.grow h).sect.range hTl
        have hrd : ∀ W, Below wo.heap.size wo W → readAt W (.pointer (some ⟨w.heap.size, 0, none⟩)) 16 = T := fun W h => read_of (hw.out.grow h).sect.range hTl
        replace hru := Lib.hid hru
        replace hde := Lib.hid hde
        go_wp2_with fail
        go_region_held3 (fun w' => Below wo.heap.size wo w') (first | assumption | exact keepNewL (by assumption) _ | exact keepSet4 (by first | assumption | exact keepNewL (by assumption) _) (by first | exact Nat.le_refl _ | exact Below.size (by assumption)) _ _ _ _ | (go_keep)) (first
          | (go_at_call 72; (with_reducible refine (hru.out _).mono ?_); rintro _ w5 ⟨rfl, hb5⟩; have hk5 : Below wo.heap.size wo w5 := grew (by assumption) hb5; (try (have hn := newBelow4d hb5; have n0 := hn.cell 0; have n1 := hn.cell 1; have n2 := hn.cell 2; have n3 := hn.cell 3; simp only [List.getElem?_cons_zero, List.getElem?_cons_succ] at n0 n1 n2 n3)))
          | (go_at_call 71; (with_reducible refine (hde.out _).mono ?_); rintro _ w6 ⟨rfl, hb6⟩; have hk6 : Below wo.heap.size wo w6 := grew (by assumption) hb6; (try ((first | (have hm := hn.below hb6 hn.lt) | (have hm := newBelow4 hb6)); have m0 := hm.cell 0; have m1 := hm.cell 1; have m2 := hm.cell 2; have m3 := hm.cell 3; have z0 := hm.frozen 0; have z1 := hm.frozen 1; have z2 := hm.frozen 2; have z3 := hm.frozen 3; simp only [List.getElem?_cons_zero, List.getElem?_cons_succ] at m0 m1 m2 m3))))
        all_goals (first
         | (have hY := whole_all hm (vs := [.int .i64 0, .string ⟨#[]⟩, .int .i64 0, .int .i64 Y]) rfl; have hK7 : Below wo.heap.size wo (w6.setCells w5.heap.size 0 [.int .i64 0, .string ⟨#[]⟩, .int .i64 0, .int .i64 Y]) := (by assumption); clear hm m0 m1 m2 m3 z0 z1 z2 z3
            rw [show (((w6.setCell ⟨w5.heap.size, 0, none⟩ (.int .i64 0)).setCell ⟨w5.heap.size, 1, none⟩ (.string ⟨#[]⟩)).setCell ⟨w5.heap.size, 2, none⟩ (.int .i64 0)).setCell ⟨w5.heap.size, 3, none⟩ (.int .i64 Y) = w6.setCells w5.heap.size 0 [.int .i64 0, .string ⟨#[]⟩, .int .i64 0, .int .i64 Y] from rfl]
            generalize w6.setCells w5.heap.size 0 [.int .i64 0, .string ⟨#[]⟩, .int .i64 0, .int .i64 Y] = w7 at hY hK7 ⊢
            obtain ⟨yb, hyb⟩ : ∃ yb, Hid (w5.heap.size = yb) := ⟨_, Lib.hid rfl⟩
            rw [hyb.out] at hY ⊢)
         | (have hY := whole_all hm (vs := [.int .i64 0, .string ⟨#[]⟩, .int .i64 0, .int .i64 Y]) rfl; have hK7 : Below wo.heap.size wo (w6.setCells wo.heap.size 0 [.int .i64 0, .string ⟨#[]⟩, .int .i64 0, .int .i64 Y]) := (by assumption); clear hm m0 m1 m2 m3 z0 z1 z2 z3
            rw [show (((w6.setCell ⟨wo.heap.size, 0, none⟩ (.int .i64 0)).setCell ⟨wo.heap.size, 1, none⟩ (.string ⟨#[]⟩)).setCell ⟨wo.heap.size, 2, none⟩ (.int .i64 0)).setCell ⟨wo.heap.size, 3, none⟩ (.int .i64 Y) = w6.setCells wo.heap.size 0 [.int .i64 0, .string ⟨#[]⟩, .int .i64 0, .int .i64 Y] from rfl]
            generalize w6.setCells wo.heap.size 0 [.int .i64 0, .string ⟨#[]⟩, .int .i64 0, .int .i64 Y] = w7 at hY hK7 ⊢
            obtain ⟨yb, hyb⟩ : ∃ yb, Hid (wo.heap.size = yb) := ⟨_, Lib.hid rfl⟩
            rw [hyb.out] at hY ⊢)
         | (have hY := Whole.new w6 130 [.int .i64 0, .string ⟨#[]⟩, .int .i64 0, .int .i64 Y]; have hK7 : Below wo.heap.size wo (w6.alloc (.cells #[.int .i64 0, .string ⟨#[]⟩, .int .i64 0, .int .i64 Y] 130)) := (by assumption)
            generalize w6.alloc (.cells #[.int .i64 0, .string ⟨#[]⟩, .int .i64 0, .int .i64 Y] 130) = w7 at hY hK7 ⊢
            obtain ⟨yb, hyb⟩ : ∃ yb, Hid (w6.heap.size = yb) := ⟨_, Lib.hid rfl⟩
            rw [hyb.out] at hY ⊢))
        all_goals
          have hw7 := hw.out.grow hK7
          have y3 := hY.cell 3
          have q0 := hw7.out.cell 0
          have q1 := hw7.out.cell 1
          have q2 := hw7.out.cell 2
          have q3 := hw7.out.cell 3
          have q4 := hw7.out.cell 4
          have q5 := hw7.out.cell 5
          have q6 := hw7.out.cell 6
          simp only [List.getElem?_cons_zero, List.getElem?_cons_succ] at y3 q0 q1 q2 q3 q4 q5 q6
          go_wp2_with (with_reducible refine zStore 66 _ _ rfl ?_)
          refine Lib.hid ?_
          refine wpList_store_mid rfl 66 _ _ rfl (w.heap.size + 1) 0 (ldL a g st b (.slice la l.length lc) e).toArray rfl rfl (hw7.res.there 0 7 (Nat.le_refl 7)) sizeLoaded (by simp [Value.oneCell']) ?_
          go_wp2_with fail
          have hfin := whole_all hw7.res (vs := ldL a g st b (.slice la l.length lc) e) rfl
          subst hF1
          have hk : Kept (fun q => q = w.heap.size + 1) w7 (w7.setCells (w.heap.size + 1) 0 (ldL a g st b (.slice la l.length lc) e)) := (Kept.refl (fun q => q = w.heap.size + 1) w7).setCells (c := w.heap.size + 1) (.inl rfl) 0 _
          exact bodyPost_ret (result_cell Tryd.results31 rfl hfin.range Tryd.underlying66 rfl sizeLoaded) rfl ⟨_, _, rfl, rfl, own_of_kept hw7.own hk (own_ne hw7.own hw7.res (by decide)), below_store hw7.below (Nat.le_add_right _ 1) (Nat.le_refl _) 0 _⟩
    · have hF1 := hF.out
      rw [loadF_end h16] at hF1
      have q0 := hw.out.out.cell 0
      have q1 := hw.out.out.cell 1
      have q2 := hw.out.out.cell 2
      have q3 := hw.out.out.cell 3
      have q4 := hw.out.out.cell 4
      have q6 := hw.out.out.cell 6
      simp only [List.getElem?_cons_zero, List.getElem?_cons_succ] at q0 q1 q2 q3 q4 q6
      go_wp2_with (with_reducible refine zStore 66 _ _ rfl ?_)
      refine Lib.hid ?_
      refine wpList_store_mid rfl 66 _ _ rfl (w.heap.size + 1) 0 (ldL a g st b (.slice la l.length lc) e).toArray rfl rfl (hw.out.res.there 0 7 (Nat.le_refl 7)) sizeLoaded (by simp [Value.oneCell']) ?_
      go_wp2_with fail
      have hfin := whole_all hw.out.res (vs := ldL a g st b (.slice la l.length lc) e) rfl
      subst hF1
      have hk : Kept (fun q => q = w.heap.size + 1) wo (wo.setCells (w.heap.size + 1) 0 (ldL a g st b (.slice la l.length lc) e)) := (Kept.refl (fun q => q = w.heap.size + 1) wo).setCells (c := w.heap.size + 1) (.inl rfl) 0 _
      exact bodyPost_ret (result_cell Tryd.results31 rfl hfin.range Tryd.underlying66 rfl sizeLoaded) rfl ⟨_, _, rfl, rfl, own_of_kept hw.out.own hk (own_ne hw.out.own hw.out.res (by decide)), below_store hw.out.below (Nat.le_add_right _ 1) (Nat.le_refl _) 0 _⟩
theorem rload_head (x : List ByteArray) (s : ByteArray) (w : World) (hx : x.length = 16) (hx0 : x[0]? = some s) (hsz : ∀ (k : Nat) (s : ByteArray), x[k]? = some s → s.size ≤ 1000000) (hh : headS s) :
    Calls Tryd.prog 31 #[.agg (rowS x).toArray] w fun e w' => ∃ v n, e = .returned (.agg (ldL (logH (s.extract 6 58)) (genH (s.extract 6 58)) (stampS s) (baseH (s.extract 6 58)) v (loadF x (stampS s) 16 1 []).2).toArray) ∧ n = (loadF x (stampS s) 16 1 []).1.length ∧ w'.ownsRow w.heap.size 45 2 v n (frRows (loadF x (stampS s) 16 1 []).1) ∧ Below w.heap.size w w' := by
  obtain ⟨ho, hc, hi, hs⟩ := hh
  have hz : 32 ≤ (s.extract 6 58).size := by have := ho.1; simp; omega
  have hz2 : (s.extract 6 58).size ≤ 1000000 := by have := ho.1; simp; omega
  refine rload_yes x s (stampS s) _ _ _ (s.extract 6 58) w hx hx0 (stampS_lt s) hsz (fun W => ?_) (fun W => ?_)
  · have h := ropen_yes s W ho
    rw [hc] at h
    exact h
  · have h := rdecH_isH (s.extract 6 58) W hz hz2 hi
    rw [hs] at h
    exact h
end Go.Proofs.YtlgoepbfdldgnaaDoor.W
end
