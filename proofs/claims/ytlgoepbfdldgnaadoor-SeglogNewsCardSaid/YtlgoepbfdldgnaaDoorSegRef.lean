/- Sixteen sectors: pieces that are put, and what runs from a place on; nothing of the program. The walks of the definition of segments: Put, Blank. The walk of the definition of segments: run. The walk of the definition of segments: Create. The walk of the definition of segments: Append, the refused ways. The walk of the definition of segments: Append that appends. -/
import Derived.WalkKit
import Derived.Test.YtlgoepbfdldgnaaDoorSealM
import Derived.Test.YtlgoepbfdldgnaaDoorFlat
import Derived.Test.YtlgoepbfdldgnaaDoorCells
import Derived.Test.YtlgoepbfdldgnaaDoorZeros
import Derived.Test.YtlgoepbfdldgnaaDoorQuietB
import Derived.Test.YtlgoepbfdldgnaaDoorSeal
import Derived.Test.YtlgoepbfdldgnaaDoorHdRef
import Derived.Test.YtlgoepbfdldgnaaDoorHeaderM
import Derived.Test.YtlgoepbfdldgnaaDoorPiecesA
import Derived.Test.YtlgoepbfdldgnaaDoorFrRef
import Derived.Deep.Cut
import Derived.Deep.AppendLies
import Derived.Laws.AppendOwnNone
section
namespace Go.Proofs.YtlgoepbfdldgnaaDoor.M
open Go.RowKit
open Go.Proofs.YtlgoepbfdldgnaaDoor.D
set_option linter.unusedVariables false

/-- Strings as cells. -/
def rowS (x : List ByteArray) : List Value := x.map Value.string
theorem rowS_len (x : List ByteArray) : (rowS x).length = x.length := by simp [rowS]
theorem rowS_at {x : List ByteArray} {k : Nat} {s : ByteArray} (h : x[k]? = some s) : (rowS x)[k]? = some (.string s) := by simp [rowS, h]
theorem rowS_set (x : List ByteArray) (k : Nat) (s : ByteArray) : (rowS x).set k (.string s) = rowS (x.set k s) := by unfold rowS; rw [List.map_set]
theorem rowS_one (x : List ByteArray) : ∀ v ∈ rowS x, v.oneCell' = true := fun v hv => by
  obtain ⟨s, _, rfl⟩ := List.mem_map.1 hv
  rfl
/-- A sealed piece. -/
def sealP (st c : Nat) (p : ByteArray) : ByteArray := B (sealL st c p.data.toList)
/-- The first k pieces, put from a place on. -/
def putP (x : List ByteArray) (st c at_ : Nat) (p : Nat → ByteArray) : Nat → List ByteArray
  | 0 => x
  | k + 1 => (putP x st c at_ p k).set (at_ + k) (sealP st c (p k))
theorem putP_len (x : List ByteArray) (st c at_ : Nat) (p : Nat → ByteArray) (k : Nat) : (putP x st c at_ p k).length = x.length := by
  induction k with
  | zero => rfl
  | succ k ih => unfold putP; rw [List.length_set, ih]
theorem putP_at (x : List ByteArray) (st c at_ : Nat) (p : Nat → ByteArray) (k i : Nat) (hi : at_ + k ≤ x.length) :
    (putP x st c at_ p k)[i]? = if at_ ≤ i ∧ i < at_ + k then some (sealP st c (p (i - at_))) else x[i]? := by
  induction k with
  | zero => rw [if_neg (by omega)]; rfl
  | succ k ih =>
    unfold putP
    rw [List.getElem?_set, putP_len]
    by_cases h : at_ + k = i
    · subst h
      rw [if_pos rfl, if_pos (by omega), if_pos (by omega)]
      congr 3
      omega
    · rw [if_neg h, ih (by omega)]
      by_cases h2 : at_ ≤ i ∧ i < at_ + k
      · rw [if_pos h2, if_pos (by omega)]
      · rw [if_neg h2, if_neg (by omega)]
/-- Does the sector of a place open, by a stamp and a count? -/
def okS (x : List ByteArray) (st c k : Nat) : Prop := ∃ s, x[k]? = some s ∧ opensS s ∧ stampS s = st ∧ countS s = c
def datS (x : List ByteArray) (k : Nat) : ByteArray := (x.getD k ⟨#[]⟩).extract 6 58
open Classical in
/-- The data of the sectors from a place on that open so. -/
noncomputable def runF (x : List ByteArray) (st c : Nat) : Nat → Nat → ByteArray
  | 0, _ => ⟨#[]⟩
  | f + 1, k => if okS x st c k then datS x k ++ runF x st c f (k + 1) else ⟨#[]⟩
noncomputable def runS (x : List ByteArray) (st c k : Nat) : ByteArray := runF x st c (16 - k) k
theorem run_end (x : List ByteArray) (st c : Nat) : runS x st c 16 = ⟨#[]⟩ := rfl
open Classical in
theorem runF_succ (x : List ByteArray) (st c f k : Nat) :
    runF x st c (f + 1) k = if okS x st c k then datS x k ++ runF x st c f (k + 1) else ⟨#[]⟩ := rfl
theorem run_yes (x : List ByteArray) (st c k : Nat) (hk : k < 16) (h : okS x st c k) : runS x st c k = datS x k ++ runS x st c (k + 1) := by
  unfold runS
  rw [show 16 - k = (16 - (k + 1)) + 1 from by omega, runF_succ, if_pos h]
theorem run_no (x : List ByteArray) (st c k : Nat) (hk : k < 16) (h : ¬ okS x st c k) : runS x st c k = ⟨#[]⟩ := by
  unfold runS
  rw [show 16 - k = (16 - (k + 1)) + 1 from by omega, runF_succ, if_neg h]
theorem bytes_nil (a : ByteArray) : a ++ ⟨#[]⟩ = a := by
  apply ByteArray.ext
  simp
theorem bytes_assoc (a b c : ByteArray) : a ++ b ++ c = a ++ (b ++ c) := by
  apply ByteArray.ext
  simp
end Go.Proofs.YtlgoepbfdldgnaaDoor.M
end
section
namespace Go.Proofs.YtlgoepbfdldgnaaDoor.W
open Go.RowKit
open Go.Proofs.YtlgoepbfdldgnaaDoor.M Go.Proofs.YtlgoepbfdldgnaaDoor.D Go.Proofs.YtlgoepbfdldgnaaDoor.Z
set_option linter.unusedVariables false

theorem sizeSec : (Tryd.prog.info? 39).map (·.size) = some 16 := by kernel_rfl
/-- Two blocks of a call's own. -/
theorem two_boxes (w : World) (t1 t2 : TypeId) (x y : List Value) : ∃ W, W = (w.alloc (.cells x.toArray t1)).alloc (.cells y.toArray t2) ∧
    Whole W w.heap.size t1 x ∧ Whole W (w.heap.size + 1) t2 y ∧ Below w.heap.size w W := by
  refine ⟨_, rfl, (Whole.new w t1 x).alloc _, ?_, ((Below.refl _ _).alloc (Nat.le_refl _) _).alloc (by simp) _⟩
  have h := Whole.new (w.alloc (.cells x.toArray t1)) t2 y
  simpa using h
theorem set_at (cur : List Value) (j : Nat) (v : Value) (h : j < cur.length) : splice cur j [v] = cur.set j v := by
  unfold splice
  rw [List.set_eq_take_append_cons_drop, if_pos h]
  rfl
/-- No sectors. -/
def noS : List ByteArray := List.replicate 16 ⟨#[]⟩
set_option maxRecDepth 100000 in
set_option maxHeartbeats 4000000 in
theorem rput_any (x : List ByteArray) (st c a n : Nat) (va : Option Addr) (vc : Nat) (p : Nat → ByteArray) (w : World) (hx : x.length = 16) (hst : st < 4294967296) (hc : c < 65536) (hn : a + n ≤ 16)
    (hp : ∀ k, k < n → (p k).size ≤ 1000000) (hcells : ∀ k, k < n → ∃ b, va = some ⟨b, 0, none⟩ ∧ b < w.heap.size ∧ w.cell? ⟨b, k, none⟩ = some (.string (p k))) :
    Calls Tryd.prog 53 #[.agg (rowS x).toArray, .int .u32 (st : Int), .int .i64 (a : Int), .int .i64 (c : Int), .slice va n vc] w fun e w' => e = .returned (.agg (rowS (putP x st c a p n)).toArray) ∧ Below w.heap.size w w' := by
  have hseal := Lib.hid (fun k (hk : k < n) W => rseal_any st c (p k) W hst hc (hp k hk))
  have hset : Hid (∀ k, (rowS (putP x st c a p k)).set (a + k) (.string (B (sealL st c (p k).data.toList))) = rowS (putP x st c a p (k + 1))) := Lib.hid (fun k => rowS_set _ _ _)
  have hlen : Hid (∀ k, (rowS (putP x st c a p k)).length = 16) := Lib.hid (fun k => by rw [rowS_len, putP_len, hx])
  have h0 : Hid (rowS x = rowS (putP x st c a p 0)) := Lib.hid rfl
  obtain ⟨R, hR'⟩ : ∃ R, Hid (rowS noS = R) := ⟨_, Lib.hid rfl⟩
  obtain ⟨W, hW, hX, hR, hB⟩ := two_boxes w 39 39 (rowS x) (rowS noS)
  rw [h0.out] at hX
  obtain ⟨T, hT⟩ : ∃ T, Hid ((fun k => rowS (putP x st c a p k)) = T) := ⟨_, Lib.hid rfl⟩
  have eT : ∀ k, rowS (putP x st c a p k) = T k := fun k => congrFun hT.out k
  rw [eT] at hX ⊢
  simp only [eT] at hset hlen h0
  rw [h0.out] at hW ⊢
  replace hX := Lib.hid hX
  replace hR := Lib.hid hR
  replace hB := Lib.hid hB
  replace hcells := Lib.hid hcells
  subst hW
  replace eT := Lib.hid eT
  clear hp
  go_enter Tryd.func53, Tryd.ntmps53
  go_wp2_with fail
  go_loopg [15] n (fun ga i wr => ∃ k : Nat, k ≤ n ∧ n ≤ k + ga ∧ i = .int .i64 k ∧ Hid (Whole wr w.heap.size 39 (T k) ∧ Whole wr (w.heap.size + 1) 39 (rowS noS) ∧ Below w.heap.size w wr))
  case atStart => exact ⟨0, by omega, by omega, rfl, Lib.hid ⟨hX.out, hR.out, hB.out⟩⟩
  case round =>
    clear hX hR hB
    obtain ⟨k, hk, hg, rfl, hrow⟩ := hrel
    generalize wr = wo at *
    by_cases hlt : k < n
    · obtain ⟨b, hva, hbl, hcell⟩ := hcells.out k hlt
      have c0 : wo.cell? ⟨b, k, none⟩ = some (.string (p k)) := (World.cell?_of_block (hrow.out.2.2.block b hbl)).trans hcell
      have hse := Lib.hid (hseal.out k hlt)
      have hst2 := Lib.hid (hset.out k)
      have hl2 := hlen.out k
      have hw1 : IntKind.i64.wrap ((a : Int) + (k : Int)) = ((a + k : Nat) : Int) := by rw [IntWalk.i64_in _ (by omega)]; omega
      obtain ⟨q, hq⟩ : ∃ q, Hid (a + k = q) := ⟨_, Lib.hid rfl⟩
      have hq16 : q < 16 := by have := hq.out; omega
      rw [hq.out] at hw1 hst2
      obtain ⟨S, hS⟩ : ∃ S, Hid (B (sealL st c (p k).data.toList) = S) := ⟨_, Lib.hid rfl⟩
      rw [hS.out] at hse hst2
      obtain ⟨P, hP⟩ : ∃ P, Hid (p k = P) := ⟨_, Lib.hid rfl⟩
      rw [hP.out] at c0 hse
      subst hva
      clear hP hS hcell
      go_wp2_with fail
      refine (hse.out _).mono ?_
      rintro e w5 ⟨rfl, hb5⟩
      have hX5 := hrow.out.1.below hb5 hrow.out.1.lt
      have hR5 := hrow.out.2.1.below hb5 hrow.out.2.1.lt
      have hB5 := grew hrow.out.2.2 hb5
      obtain ⟨v0, hv0⟩ : ∃ v, (T k)[q]? = some v := ⟨_, List.getElem?_eq_getElem (by omega)⟩
      have cq : w5.cell? ⟨w.heap.size, q, none⟩ = some v0 := (hX5.cell q).trans hv0
      have fq := hX5.frozen q
      have hX6 : Hid (Whole (w5.setCell ⟨w.heap.size, q, none⟩ (.string S)) w.heap.size 39 (T (k + 1))) := Lib.hid (by
        have h := hX5.store q [.string S] (by simp; omega)
        rw [set_at _ _ _ (by omega), hst2.out] at h
        exact h)
      have hR6 : Hid (Whole (w5.setCell ⟨w.heap.size, q, none⟩ (.string S)) (w.heap.size + 1) 39 (rowS noS)) := Lib.hid (hR5.far (c := w.heap.size) (by omega) q [.string S])
      have hB6 : Hid (Below w.heap.size w (w5.setCell ⟨w.heap.size, q, none⟩ (.string S))) := Lib.hid (below_store hB5 (c := w.heap.size) (Nat.le_refl _) (Nat.le_refl _) q [.string S])
      clear hX5 hR5 hB5 hv0
      go_wp2_with fail
      go_roundg (gk - 1)
      case measure => omega
      case rel => exact ⟨k + 1, by omega, by omega, by go_num, Lib.hid ⟨hX6.out, hR6.out, hB6.out⟩⟩
    · obtain rfl : k = n := by omega
      have hl2 := hlen.out k
      have hone : Hid (∀ v ∈ T k, v.oneCell' = true) := Lib.hid (by rw [← eT.out k]; exact rowS_one _)
      have hnl : (rowS noS).length = 16 := rfl
      go_wp2_with (with_reducible refine zLoad 39 _ rfl ?_)
      refine Lib.hid ?_
      refine wpList_load_mid rfl 39 _ rfl w.heap.size 0 rfl (T k) _ hrow.out.1.range Tryd.underlying39 rfl (by rw [hl2]; exact sizeSec) ?_
      go_wp2_with (with_reducible refine zStore 39 _ _ rfl ?_)
      refine Lib.hid ?_
      refine wpList_store_mid rfl 39 _ _ rfl (w.heap.size + 1) 0 (T k).toArray rfl rfl (hrow.out.2.1.there 0 (T k).toArray.size (by simp; omega)) (by rw [List.size_toArray, hl2]; exact sizeSec) (all_oneCell_toArray hone.out) ?_
      go_wp2_with fail
      have hfin := whole_all hrow.out.2.1 (vs := T k) (by omega)
      exact bodyPost_ret (result_cell Tryd.results53 rfl hfin.range Tryd.underlying39 rfl (by rw [hl2]; exact sizeSec)) rfl ⟨rfl, below_store hrow.out.2.2 (by omega) (Nat.le_refl _) 0 _⟩
/-- Sixteen cells of no bytes. -/
abbrev cells16 : List Value := [.string ⟨#[]⟩, .string ⟨#[]⟩, .string ⟨#[]⟩, .string ⟨#[]⟩, .string ⟨#[]⟩, .string ⟨#[]⟩, .string ⟨#[]⟩, .string ⟨#[]⟩, .string ⟨#[]⟩, .string ⟨#[]⟩, .string ⟨#[]⟩, .string ⟨#[]⟩, .string ⟨#[]⟩, .string ⟨#[]⟩, .string ⟨#[]⟩, .string ⟨#[]⟩]
theorem cells16_one : ∀ v ∈ cells16, v.oneCell' = true := by
  intro v hv
  simp at hv
  rw [hv]; rfl
/-- Sectors of bytes 0. -/
def blankS : List ByteArray := List.replicate 16 (zerosB 64)
/-- The first k of them made. -/
def someS (k : Nat) : List ByteArray := List.replicate k (zerosB 64) ++ List.replicate (16 - k) ⟨#[]⟩
theorem someS_len (k : Nat) (hk : k ≤ 16) : (someS k).length = 16 := by simp [someS]; omega
theorem someS_set (k : Nat) (hk : k < 16) : (someS k).set k (zerosB 64) = someS (k + 1) := by
  unfold someS
  rw [List.set_append, if_neg (by simp), List.length_replicate, Nat.sub_self, show 16 - k = (16 - (k + 1)) + 1 from by omega, List.replicate_succ, List.set_cons_zero, List.replicate_succ']
  simp
theorem someS_zero : rowS (someS 0) = cells16 := rfl
theorem someS_all : someS 16 = blankS := by simp [someS, blankS]
set_option maxRecDepth 100000 in
set_option maxHeartbeats 4000000 in
theorem rblank_any (w : World) :
    Calls Tryd.prog 16 #[] w fun e w' => e = .returned (.agg (rowS blankS).toArray) ∧ Below w.heap.size w w' := by
  have hset : Hid (∀ k, k < 16 → (rowS (someS k)).set k (.string (zerosB 64)) = rowS (someS (k + 1))) := Lib.hid (fun k hk => by rw [rowS_set, someS_set k hk])
  have hlen : Hid (∀ k, k ≤ 16 → (rowS (someS k)).length = 16) := Lib.hid (fun k hk => by rw [rowS_len, someS_len k hk])
  obtain ⟨c8, hc8, hm8⟩ := make_bytes 64 (by omega)
  replace hm8 : ∀ W : World, (Instr.makeSlice 108 (.int .i64 64) (.int .i64 64)).run Tryd.prog W = .ok (.slice (some ⟨W.heap.size, 0, none⟩) 64 64) (W.alloc (.cells c8 5)) := fun W => hm8 W
  have hs8 : ∀ W : World, (convert 108 9 (.slice (some ⟨W.heap.size, 0, none⟩) 64 64)).run Tryd.prog (W.alloc (.cells c8 5)) = .ok (.string (zerosB 64)) (W.alloc (.cells c8 5)) := fun W => zero_string 64 c8 hc8 W
  have hend : Hid (rowS (someS 16) = rowS blankS) := Lib.hid (by rw [someS_all])
  obtain ⟨Z, hZ⟩ : ∃ Z, Hid (zerosB 64 = Z) := ⟨_, Lib.hid rfl⟩
  rw [hZ.out] at hs8 hset
  have h0 : Hid (rowS (someS 0) = cells16) := Lib.hid someS_zero
  obtain ⟨W, hW, hR, hX, hB⟩ := two_boxes w 39 39 cells16 cells16
  have hone : Hid (∀ k, ∀ v ∈ rowS (someS k), v.oneCell' = true) := Lib.hid (fun k => rowS_one _)
  obtain ⟨T, hT⟩ : ∃ T, Hid ((fun k => rowS (someS k)) = T) := ⟨_, Lib.hid rfl⟩
  have eT : ∀ k, rowS (someS k) = T k := fun k => congrFun hT.out k
  simp only [eT] at hset hlen hone h0 hend
  rw [← hend.out]
  replace hW := Lib.hid hW
  replace hX := Lib.hid hX
  replace hR := Lib.hid hR
  replace hB := Lib.hid hB
  clear hend hc8
  go_enter Tryd.func16, Tryd.ntmps16
  go_wp2_with (with_reducible refine zStore 39 _ _ rfl ?_)
  rw [← show W = (w.alloc (.cells cells16.toArray 39)).alloc (.cells cells16.toArray 39) from hW.out]
  clear hW
  refine Lib.hid ?_
  refine wpList_store_mid rfl 39 _ _ rfl (w.heap.size + 1) 0 cells16.toArray rfl rfl (hX.out.there 0 16 (Nat.le_refl 16)) sizeSec (all_oneCell_toArray cells16_one) ?_
  have hXa : Hid (Whole (W.setCells (w.heap.size + 1) 0 cells16.toArray.toList) (w.heap.size + 1) 39 (T 0)) := Lib.hid (by rw [h0.out]; exact whole_all hX.out rfl)
  have hRa : Hid (Whole (W.setCells (w.heap.size + 1) 0 cells16.toArray.toList) w.heap.size 39 cells16) := Lib.hid (hR.out.far (c := w.heap.size + 1) (by omega) 0 _)
  have hBa : Hid (Below w.heap.size w (W.setCells (w.heap.size + 1) 0 cells16.toArray.toList)) := Lib.hid (below_store hB.out (c := w.heap.size + 1) (by omega) (Nat.le_refl _) 0 _)
  generalize W.setCells (w.heap.size + 1) 0 cells16.toArray.toList = Wa at *
  clear hX hR hB
  go_wp2_with fail
  go_loopg [4] 16 (fun ga i wr => ∃ k : Nat, k ≤ 16 ∧ 16 ≤ k + ga ∧ i = .int .i64 k ∧ Hid (Whole wr (w.heap.size + 1) 39 (T k) ∧ Whole wr w.heap.size 39 cells16 ∧ Below w.heap.size w wr))
  case atStart => exact ⟨0, by omega, by omega, rfl, Lib.hid ⟨hXa.out, hRa.out, hBa.out⟩⟩
  case round =>
    clear hXa hRa hBa
    obtain ⟨k, hk, hg, rfl, hrow⟩ := hrel
    generalize wr = wo at *
    by_cases hlt : k < 16
    · have hst2 := Lib.hid (hset.out k hlt)
      have hl2 := hlen.out k hk
      obtain ⟨v0, hv0⟩ : ∃ v, (T k)[k]? = some v := ⟨_, List.getElem?_eq_getElem (by omega)⟩
      have hX5 := hrow.out.1.alloc (.cells c8 5)
      have hR5 := hrow.out.2.1.alloc (.cells c8 5)
      have hB5 := hrow.out.2.2.alloc hrow.out.2.2.size (.cells c8 5)
      have cq : (wo.alloc (.cells c8 5)).cell? ⟨w.heap.size + 1, k, none⟩ = some v0 := (hX5.cell k).trans hv0
      have fq := hX5.frozen k
      have hX6 : Hid (Whole ((wo.alloc (.cells c8 5)).setCell ⟨w.heap.size + 1, k, none⟩ (.string Z)) (w.heap.size + 1) 39 (T (k + 1))) := Lib.hid (by
        have h := hX5.store k [.string Z] (by simp; omega)
        rw [set_at _ _ _ (by omega), hst2.out] at h
        exact h)
      have hR6 : Hid (Whole ((wo.alloc (.cells c8 5)).setCell ⟨w.heap.size + 1, k, none⟩ (.string Z)) w.heap.size 39 cells16) := Lib.hid (hR5.far (c := w.heap.size + 1) (by omega) k [.string Z])
      have hB6 : Hid (Below w.heap.size w ((wo.alloc (.cells c8 5)).setCell ⟨w.heap.size + 1, k, none⟩ (.string Z))) := Lib.hid (below_store hB5 (c := w.heap.size + 1) (by omega) (Nat.le_refl _) k [.string Z])
      clear hX5 hR5 hB5 hv0
      go_wp2_with fail
      go_roundg (gk - 1)
      case measure => omega
      case rel => exact ⟨k + 1, by omega, by omega, by go_num, Lib.hid ⟨hX6.out, hR6.out, hB6.out⟩⟩
    · obtain rfl : k = 16 := by omega
      have hl2 := hlen.out 16 (by omega)
      have hone2 := Lib.hid (hone.out 16)
      clear hset hlen hone h0 eT hT
      go_wp2_with (with_reducible refine zLoad 39 _ rfl ?_)
      refine Lib.hid ?_
      refine wpList_load_mid rfl 39 _ rfl (w.heap.size + 1) 0 rfl (T 16) _ hrow.out.1.range Tryd.underlying39 rfl (by rw [hl2]; exact sizeSec) ?_
      go_wp2_with (with_reducible refine zStore 39 _ _ rfl ?_)
      refine Lib.hid ?_
      refine wpList_store_mid rfl 39 _ _ rfl w.heap.size 0 (T 16).toArray rfl rfl (hrow.out.2.1.there 0 (T 16).toArray.size (by rw [List.size_toArray, hl2]; exact Nat.le_refl 16)) (by rw [List.size_toArray, hl2]; exact sizeSec) (all_oneCell_toArray hone2.out) ?_
      go_wp2_with fail
      have hfin := whole_all hrow.out.2.1 (vs := T 16) hl2
      exact bodyPost_ret (result_cell Tryd.results16 rfl hfin.range Tryd.underlying39 rfl (by rw [hl2]; exact sizeSec)) rfl ⟨rfl, below_store hrow.out.2.2 (Nat.le_refl _) (Nat.le_refl _) 0 _⟩
end Go.Proofs.YtlgoepbfdldgnaaDoor.W
end
section
namespace Go.Proofs.YtlgoepbfdldgnaaDoor.W
open Go.RowKit
open Go.Proofs.YtlgoepbfdldgnaaDoor.M Go.Proofs.YtlgoepbfdldgnaaDoor.D Go.Proofs.YtlgoepbfdldgnaaDoor.Z
set_option linter.unusedVariables false

theorem run_past (x : List ByteArray) (st c k : Nat) (hk : 16 ≤ k) : runS x st c k = ⟨#[]⟩ := by
  unfold runS
  rw [show 16 - k = 0 from by omega]
  rfl
set_option maxRecDepth 100000 in
set_option maxHeartbeats 4000000 in
theorem rrun_any (x : List ByteArray) (st c a : Nat) (w : World) (hx : x.length = 16) (hs : ∀ (k : Nat) (s : ByteArray), x[k]? = some s → s.size ≤ 1000000) (hst : st < 4294967296) (hc : c < 4294967296) (ha : a ≤ 16) :
    Calls Tryd.prog 72 #[.agg (rowS x).toArray, .int .u32 (st : Int), .int .i64 (a : Int), .int .i64 (c : Int)] w fun e w' => e = .returned (.string (runS x st c a)) ∧ Below w.heap.size w w' := by
  have hX := Whole.new w 39 (rowS x)
  have hB := (Below.refl w.heap.size w).alloc (Nat.le_refl _) (.cells (rowS x).toArray 39)
  obtain ⟨T, hT⟩ : ∃ T, Hid (rowS x = T) := ⟨_, Lib.hid rfl⟩
  have hat : Hid (∀ (k : Nat) (s : ByteArray), x[k]? = some s → T[k]? = some (Value.string s)) := Lib.hid (fun k s h => by rw [← hT.out]; exact rowS_at h)
  rw [hT.out] at hX hB ⊢
  have hyes : Hid (∀ k, k < 16 → okS x st c k → runS x st c k = datS x k ++ runS x st c (k + 1)) := Lib.hid (run_yes x st c)
  have hno : Hid (∀ k, k < 16 → ¬ okS x st c k → runS x st c k = ⟨#[]⟩) := Lib.hid (run_no x st c)
  have hend : Hid (runS x st c 16 = ⟨#[]⟩) := Lib.hid rfl
  obtain ⟨G, hG⟩ : ∃ G, Hid (runS x st c = G) := ⟨_, Lib.hid rfl⟩
  simp only [hG.out] at hyes hno hend
  rw [hG.out]
  obtain ⟨R, hR⟩ : ∃ R, Hid (G a = R) := ⟨_, Lib.hid rfl⟩
  rw [hR.out]
  replace hX := Lib.hid hX
  replace hB := Lib.hid hB
  replace hs := Lib.hid hs
  clear hT hG
  go_enter Tryd.func72, Tryd.ntmps72
  go_wp2_with fail
  go_loopg [9, 10] (16 - a) (fun ga v i wr => ∃ k : Nat, ∃ s : ByteArray, a ≤ k ∧ k ≤ 16 ∧ 16 ≤ k + ga ∧ s.size ≤ 52 * k ∧ i = .int .i64 k ∧ v = .string s ∧ Hid (s ++ G k = R) ∧ Hid (Whole wr w.heap.size 39 T ∧ Below w.heap.size w wr))
  case atStart => exact ⟨a, ⟨#[]⟩, by omega, by omega, by omega, Nat.zero_le _, rfl, rfl, Lib.hid (by rw [← hR.out]; apply ByteArray.ext; simp), Lib.hid ⟨hX.out, hB.out⟩⟩
  case round =>
    clear hX hB hR
    obtain ⟨k, D, hak, hk, hg, hDz, rfl, rfl, hD, hrow⟩ := hrel
    generalize wr = wo at *
    by_cases hlt : k < 16
    · obtain ⟨s, hks⟩ : ∃ s, x[k]? = some s := ⟨_, List.getElem?_eq_getElem (by omega)⟩
      have hsz := hs.out k s hks
      have c0 : wo.cell? ⟨w.heap.size, k, none⟩ = some (.string s) := (hrow.out.1.cell k).trans (hat.out k s hks)
      by_cases ho : opensS s
      · have hry := fun W => ropen_yes s W ho
        obtain ⟨g, hgs⟩ : ∃ g, Hid (stampS s = g) := ⟨_, Lib.hid rfl⟩
        obtain ⟨m, hms⟩ : ∃ m, Hid (countS s = m) := ⟨_, Lib.hid rfl⟩
        have hdat : datS x k = s.extract 6 58 := by unfold datS; rw [List.getD_eq_getElem?_getD, hks]; rfl
        rw [hgs.out, hms.out] at hry
        by_cases h1 : g = st
        · subst h1
          by_cases h2 : m = c
          · subst h2
            have hy := hyes.out k hlt ⟨s, hks, ho, hgs.out, hms.out⟩
            rw [hdat] at hy
            have hEz : (s.extract 6 58).size = 52 := by have := ho.1; simp; omega
            obtain ⟨E, hE⟩ : ∃ E, Hid (s.extract 6 58 = E) := ⟨_, Lib.hid rfl⟩
            rw [hE.out] at hy hry hEz
            have hcz : (D.size : Int) + (E.size : Int) ≤ 1000000 := by omega
            have hDE : (D ++ E).size ≤ 52 * (k + 1) := by rw [ByteArray.size_append]; omega
            replace hDE := Lib.hid hDE
            have hD2 : Hid (D ++ E ++ G (k + 1) = R) := Lib.hid (by rw [bytes_assoc, ← hy]; exact hD.out)
            replace hry := Lib.hid hry
            clear hyes hno hy hD hdat hE hgs hms
            go_wp2_with fail
            refine (hry.out _).mono ?_
            rintro e w5 ⟨rfl, hb5⟩
            have hX5 := Lib.hid ((hrow.out.1.below hb5 hrow.out.1.lt).alloc (.cells #[.int .u32 g, .int .i64 m, .string E, .bool true] 93))
            have hB5 := Lib.hid (grewAlloc (grew hrow.out.2 hb5) (.cells #[.int .u32 g, .int .i64 m, .string E, .bool true] 93))
            go_wp2_with fail
            go_roundg (gk - 1)
            case measure => omega
            case rel => exact ⟨k + 1, D ++ E, by omega, by omega, by omega, hDE.out, by go_num, rfl, hD2, Lib.hid ⟨hX5.out, hB5.out⟩⟩
          · have hn := hno.out k hlt (fun ⟨s', q1, q2, q3, q4⟩ => by rw [hks] at q1; cases q1; exact h2 (by rw [← hms.out]; exact q4))
            have hDR : Hid (D = R) := Lib.hid (by rw [← hD.out, hn]; exact (bytes_nil D).symm)
            obtain ⟨E, hE⟩ : ∃ E, Hid (s.extract 6 58 = E) := ⟨_, Lib.hid rfl⟩
            rw [hE.out] at hry
            replace hry := Lib.hid hry
            have hne : ((m : Int) == (c : Int)) = false := by rw [beq_eq_false_iff_ne]; omega
            clear hyes hno hn hD hdat hE hgs hms
            go_wp2_with fail
            refine (hry.out _).mono ?_
            rintro e w5 ⟨rfl, hb5⟩
            have hB5 := Lib.hid (grewAlloc (grew hrow.out.2 hb5) (.cells #[.int .u32 g, .int .i64 m, .string E, .bool true] 93))
            go_wp2_with fail
            go_ret
            exact ⟨ret_str hDR.out, hB5.out⟩
        · have hn := hno.out k hlt (fun ⟨s', q1, q2, q3, q4⟩ => by rw [hks] at q1; cases q1; exact h1 (by rw [← hgs.out]; exact q3))
          have hDR : Hid (D = R) := Lib.hid (by rw [← hD.out, hn]; exact (bytes_nil D).symm)
          obtain ⟨E, hE⟩ : ∃ E, Hid (s.extract 6 58 = E) := ⟨_, Lib.hid rfl⟩
          rw [hE.out] at hry
          replace hry := Lib.hid hry
          have hne : ((g : Int) == (st : Int)) = false := by rw [beq_eq_false_iff_ne]; omega
          clear hyes hno hn hD hdat hE hgs hms
          go_wp2_with fail
          refine (hry.out _).mono ?_
          rintro e w5 ⟨rfl, hb5⟩
          have hB5 := Lib.hid (grewAlloc (grew hrow.out.2 hb5) (.cells #[.int .u32 g, .int .i64 m, .string E, .bool true] 93))
          go_wp2_with fail
          go_ret
          exact ⟨ret_str hDR.out, hB5.out⟩
      · have hn := hno.out k hlt (fun ⟨s', h1, h2, _⟩ => by rw [hks] at h1; cases h1; exact ho h2)
        have hDR : Hid (D = R) := Lib.hid (by rw [← hD.out, hn]; exact (bytes_nil D).symm)
        have hro := Lib.hid (fun W => ropen_no s W hsz ho)
        clear hn hD hno hyes
        go_wp2_with fail
        refine (hro.out _).mono ?_
        rintro e w5 ⟨rfl, hb5⟩
        have hB5 := Lib.hid (grew hrow.out.2 hb5)
        go_wp2_with fail
        go_ret
        exact ⟨ret_str hDR.out, grewAlloc hB5.out _⟩
    · obtain rfl : k = 16 := by omega
      have hDR : Hid (D = R) := Lib.hid (by rw [← hD.out, hend.out]; exact (bytes_nil D).symm)
      go_wp2_with fail
      go_ret
      exact ⟨ret_str hDR.out, hrow.out.2⟩
end Go.Proofs.YtlgoepbfdldgnaaDoor.W
end
section
namespace Go.Proofs.YtlgoepbfdldgnaaDoor.W
open Go.RowKit
open Go.Proofs.YtlgoepbfdldgnaaDoor.M Go.Proofs.YtlgoepbfdldgnaaDoor.D Go.Proofs.YtlgoepbfdldgnaaDoor.Z
set_option linter.unusedVariables false

theorem sizeMade : (Tryd.prog.info? 41).map (·.size) = some 22 := by kernel_rfl
theorem built_lit (x0 x1 x2 x3 c y0 y1 y2 y3 y4 y5 y6 y7 y8 y9 ya yb yc yd ye yf : Value) :
    Tryd.prog.built 41 [(0, .agg #[x0, x1, x2, x3]), (2, .agg #[c]), (3, .agg #[y0, y1, y2, y3, y4, y5, y6, y7, y8, y9, ya, yb, yc, yd, ye, yf])] =
      some #[x0, x1, x2, x3, .slice none 0 0, c, y0, y1, y2, y3, y4, y5, y6, y7, y8, y9, ya, yb, yc, yd, ye, yf] := by kernel_rfl
/-- A Made, of a header, no frames, an end and sectors. -/
def madeL (x l c y : Value) : List Value := x.cells.toList ++ (l.cells.toList ++ (c.cells.toList ++ y.cells.toList))
theorem fill_cells (p : Nat → Option (Nat × Nat)) (z : Array Value) (i j k : Nat) (x c y : Value) : Instr.fill p z [(i, x), (j, c), (k, y)] = Instr.fill p z [(i, .agg x.cells), (j, .agg c.cells), (k, .agg y.cells)] := rfl
theorem built_cells (t : TypeId) (i j k : Nat) (x c y : Value) : Tryd.prog.built t [(i, x), (j, c), (k, y)] = Tryd.prog.built t [(i, .agg x.cells), (j, .agg c.cells), (k, .agg y.cells)] := by
  unfold Program.built
  generalize Tryd.prog.info? t = a
  generalize Tryd.prog.underlying t = b
  repeat' split
  all_goals first | rfl | exact fill_cells _ _ _ _ _ _ _ _
theorem list4 {l : List Value} (h : l.length = 4) : ∃ a b c d, l = [a, b, c, d] := by
  match l, h with
  | [a, b, c, d], _ => exact ⟨a, b, c, d, rfl⟩
theorem list16 {l : List Value} (h : l.length = 16) : ∃ y0 y1 y2 y3 y4 y5 y6 y7 y8 y9 ya yb yc yd ye yf, l = [y0, y1, y2, y3, y4, y5, y6, y7, y8, y9, ya, yb, yc, yd, ye, yf] := by
  match l, h with
  | [y0, y1, y2, y3, y4, y5, y6, y7, y8, y9, ya, yb, yc, yd, ye, yf], _ => exact ⟨y0, y1, y2, y3, y4, y5, y6, y7, y8, y9, ya, yb, yc, yd, ye, yf, rfl⟩
theorem built_made (x c y : Value) (hx : x.cells.size = 4) (hc : c.cells.size = 1) (hy : y.cells.size = 16) :
    Tryd.prog.built 41 [(0, x), (2, c), (3, y)] = some (madeL x (.slice none 0 0) c y).toArray := by
  rw [built_cells]
  unfold madeL
  obtain ⟨⟨X⟩, hX⟩ : ∃ X, X = x.cells := ⟨_, rfl⟩
  obtain ⟨⟨C⟩, hC⟩ : ∃ X, X = c.cells := ⟨_, rfl⟩
  obtain ⟨⟨Y⟩, hY⟩ : ∃ X, X = y.cells := ⟨_, rfl⟩
  rw [← hX] at hx ⊢
  rw [← hC] at hc ⊢
  rw [← hY] at hy ⊢
  obtain ⟨x0, x1, x2, x3, rfl⟩ := list4 (l := X) (by simpa using hx)
  obtain ⟨c0, rfl⟩ : ∃ c0, C = [c0] := List.length_eq_one_iff.1 (by simpa using hc)
  obtain ⟨y0, y1, y2, y3, y4, y5, y6, y7, y8, y9, ya, yb, yc, yd, ye, yf, rfl⟩ := list16 (l := Y) (by simpa using hy)
  exact built_lit _ _ _ _ _ _ _ _ _ _ _ _ _ _ _ _ _ _ _ _ _
theorem load_secS (e : Operand → Value) (d : Option Tmp) (x : Operand) (ty : TypeId) (ps : String) (af : Array Edge) (gd : Option (Nat × Bool)) (w : World) (h : hasAt w (e x) 16) :
    (execOp e { dst := d, op := .load 39 x, type := ty, pos := ps, after := af, guard := gd }).run Tryd.prog w = .ok (.value (.agg (readAt w (e x) 16).toArray)) w := by
  obtain ⟨b, o, hx, hc⟩ := h
  have hr : w.rangeAt b o (readAt w (e x) 16) := fun j v hv => by
    rw [hx] at hv
    have hj : j < 16 := by have := (List.getElem?_eq_some_iff.1 hv).1; simpa [readAt] using this
    obtain ⟨u, hu⟩ := Option.isSome_iff_exists.1 (hc j hj)
    have e1 : (readAt w (.pointer (some ⟨b, o, none⟩)) 16)[j]? = some u := by
      show ((List.range 16).map fun j => (w.cell? ⟨b, o + j, none⟩).getD undef)[j]? = _
      rw [List.getElem?_map, List.getElem?_range hj]; simp [hu]
    rw [e1] at hv
    cases hv; exact hu
  have hl : (readAt w (e x) 16).length = 16 := by rw [hx]; simp [readAt]
  have := run_loadVar_mid (P := Tryd.prog) w b o 39 _ _ hr Tryd.underlying39 rfl (by rw [hl]; exact sizeSec)
  unfold execOp
  simp only [hx] at this ⊢
  simp only [Instr.loadAt, Instr.sureAddr, Sem.run_bind, Sem.run_pure, Result.andThen_ok, this]
theorem build_madeC (e : Operand → Value) (d : Option Tmp) (x c y : Operand) (ty : TypeId) (ps : String) (af : Array Edge) (gd : Option (Nat × Bool)) (w : World) (hx : (e x).cells.size = 4) (hc : (e c).cells.size = 1) (hy : (e y).cells.size = 16) :
    (execOp e { dst := d, op := .build 41 #[(0, x), (2, c), (3, y)], type := ty, pos := ps, after := af, guard := gd }).run Tryd.prog w = .ok (.value (.agg (madeL (e x) (.slice none 0 0) (e c) (e y)).toArray)) w := by
  have h := run_build (P := Tryd.prog) w 41 #[(0, e x), (2, e c), (3, e y)] _ (built_made (e x) (e c) (e y) hx hc hy)
  unfold execOp
  simp only [List.map_toArray, List.map_cons, List.map_nil, h, Sem.run_bind, Sem.run_pure, Result.andThen_ok]
/-- Are n cells there, and not frozen? -/
def roomAt (w : World) (p : Value) (n : Nat) : Prop := ∃ b o, p = .pointer (some ⟨b, o, none⟩) ∧ w.there b o n
def laidAt (w : World) (p : Value) (cs : List Value) : World :=
  match p with
  | .pointer (some ⟨b, o, none⟩) => w.setCells b o cs
  | _ => w
def oneCells (v : Value) (n : Nat) : Prop := v.cells.size = n ∧ v = .agg v.cells ∧ v.cells.all (·.oneCell') = true
theorem store_madeC (e : Operand → Value) (d : Option Tmp) (x y : Operand) (ty : TypeId) (ps : String) (af : Array Edge) (gd : Option (Nat × Bool)) (w : World) (h : roomAt w (e x) 22) (hy : oneCells (e y) 22) :
    (execOp e { dst := d, op := .store 41 x y, type := ty, pos := ps, after := af, guard := gd }).run Tryd.prog w = .ok .skip (laidAt w (e x) (e y).cells.toList) := by
  obtain ⟨b, o, hx, ht⟩ := h
  obtain ⟨h1, h2, h3⟩ := hy
  have hs := run_storeVar_mid (P := Tryd.prog) w b o 41 (e y).cells (by rw [h1]; exact ht) (by rw [h1]; exact sizeMade) h3
  rw [← h2] at hs
  unfold execOp
  simp only [hx, Instr.storeAt, Instr.sureAddr, Sem.run_bind, Sem.run_pure, Result.andThen_ok, hs, laidAt]
/-- No Made. -/
abbrev noMade : List Value := [.int .i64 0, .int .u32 0, .int .u32 0, .int .i64 0, .slice none 0 0, .int .i64 0, .string ⟨#[]⟩, .string ⟨#[]⟩, .string ⟨#[]⟩, .string ⟨#[]⟩, .string ⟨#[]⟩, .string ⟨#[]⟩, .string ⟨#[]⟩, .string ⟨#[]⟩, .string ⟨#[]⟩, .string ⟨#[]⟩, .string ⟨#[]⟩, .string ⟨#[]⟩, .string ⟨#[]⟩, .string ⟨#[]⟩, .string ⟨#[]⟩, .string ⟨#[]⟩]
theorem oneMade (x l c y : Value) (hx : x.cells.size = 4) (hl : l.cells.size = 1) (hc : c.cells.size = 1) (hy : y.cells.size = 16) (h1 : ∀ v ∈ x.cells.toList ++ (l.cells.toList ++ (c.cells.toList ++ y.cells.toList)), v.oneCell' = true) : oneCells (.agg (madeL x l c y).toArray) 22 := by
  refine ⟨?_, rfl, all_oneCell_toArray h1⟩
  show (madeL x l c y).toArray.size = 22
  unfold madeL
  simp [hx, hl, hc, hy]
theorem hdr_oneR (a g s b : Int) : ∀ v ∈ [Value.int .i64 a, .int .u32 g, .int .u32 s, .int .i64 b], v.oneCell' = true := by intro v hv; simp at hv; rcases hv with h | h | h | h <;> rw [h] <;> rfl
abbrev hdv (a g s b : Nat) : Value := .agg #[.int .i64 (a : Int), .int .u32 (g : Int), .int .u32 (s : Int), .int .i64 (b : Int)]
/-- The world grows, and the block of the result stays one. -/
def KeepC (B : Nat) (V W : World) : Prop := Below B V W ∧ B < W.heap.size ∧ ∃ cs : List Value, cs.length = 22 ∧ Whole W B 41 cs
theorem KeepC.grow {B : Nat} {V W w' : World} (h : KeepC B V W) (hb : Below W.heap.size W w') : KeepC B V w' := by
  obtain ⟨h1, h2, cs, h3, h4⟩ := h
  exact ⟨h1.trans (hb.mono (Nat.le_of_lt h2)), Nat.lt_of_lt_of_le h2 hb.size, cs, h3, h4.below hb h4.lt⟩
theorem KeepC.drew {B : Nat} {V W : World} (h : KeepC B V W) : KeepC B V W.drew := by
  obtain ⟨h1, h2, cs, h3, h4⟩ := h
  exact ⟨h1.drew, h2, cs, h3, h4⟩
theorem KeepC.laid {B : Nat} {V W : World} (h : KeepC B V W) (hB : B ≤ V.heap.size) (cs : List Value) (hl : cs.length = 22) : KeepC B V (laidAt W (.pointer (some ⟨B, 0, none⟩)) cs) := by
  obtain ⟨h1, h2, ds, h3, h4⟩ := h
  exact ⟨below_store h1 (Nat.le_refl _) hB 0 cs, by show B < (W.setCells B 0 cs).heap.size; rw [size_setCells]; exact h2, cs, hl, whole_all h4 (by omega)⟩
theorem KeepC.cell {B b o : Nat} {V W : World} {v : Value} (h : KeepC B V W) (hb : b < B) (hc : V.cell? ⟨b, o, none⟩ = some v) : W.cell? ⟨b, o, none⟩ = some v := (World.cell?_of_block (h.1.block b hb)).trans hc
theorem KeepC.range {B b o : Nat} {V W : World} {cs : List Value} (h : KeepC B V W) (hb : b < B) (hc : V.rangeAt b o cs) : W.rangeAt b o cs := fun j v hv => h.cell hb (hc j v hv)
theorem KeepC.room {B : Nat} {V W : World} (h : KeepC B V W) : roomAt W (.pointer (some ⟨B, 0, none⟩)) 22 := by
  obtain ⟨h1, h2, cs, h3, h4⟩ := h
  exact ⟨_, _, rfl, h4.there 0 22 (by omega)⟩
attribute [local go_sem ↓] load_secS build_madeC store_madeC in
set_option maxRecDepth 100000 in
set_option maxHeartbeats 8000000 in
theorem rcreate_any (x : List ByteArray) (a g s b : Nat) (w : World) (hx : x.length = 16) (ha : a < 65536) (hg : g < 4294967296) (hs : s < 4294967296) (hb : b ≤ 1099511627776) :
    Calls Tryd.prog 15 #[.agg (rowS x).toArray, .agg #[.int .i64 (a : Int), .int .u32 (g : Int), .int .u32 (s : Int), .int .i64 (b : Int)]] w fun e w' =>
      e = .returned (.agg (madeL (hdv a g s b) (.slice none 0 0) (.int .i64 1) (.agg (rowS (putP x s 1 0 (fun k => B (pcL (headerL a g s b) k)) 1)).toArray)).toArray) ∧ Below w.heap.size w w' := by
  have he := Lib.hid (fun W => rencH_any a g s b W ha hg hs hb)
  have hp := Lib.hid (fun W => rpieces_any 1 (B (headerL a g s b)) W (by rw [B_size, headerL_len]; omega) (by omega))
  have hq : ∀ (va : Option Addr) (vc : Nat) (W : World), (∀ k, k < 1 → ∃ q, va = some ⟨q, 0, none⟩ ∧ q < W.heap.size ∧ W.cell? ⟨q, k, none⟩ = some (.string (B (pcL (headerL a g s b) k)))) →
      Calls Tryd.prog 53 #[.agg (rowS x).toArray, .int .u32 (s : Int), .int .i64 0, .int .i64 1, .slice va 1 vc] W fun e w' => e = .returned (.agg (rowS (putP x s 1 0 (fun k => B (pcL (headerL a g s b) k)) 1)).toArray) ∧ Below W.heap.size W w' := fun va vc W h =>
    rput_any x s 1 0 1 va vc (fun k => B (pcL (headerL a g s b) k)) W hx hs (by omega) (by omega) (fun k _ => by rw [B_size, pcL_len]; omega) h
  have hYl : (rowS (putP x s 1 0 (fun k => B (pcL (headerL a g s b) k)) 1)).length = 16 := by rw [rowS_len, putP_len, hx]
  have hYo := rowS_one (putP x s 1 0 (fun k => B (pcL (headerL a g s b) k)) 1)
  obtain ⟨Y, hY⟩ : ∃ Y, Hid (rowS (putP x s 1 0 (fun k => B (pcL (headerL a g s b) k)) 1) = Y) := ⟨_, Lib.hid rfl⟩
  rw [hY.out] at hq hYl hYo ⊢
  have hn1 : ((B (headerL a g s b)).size + 51) / 52 = 1 := by rw [B_size, headerL_len]
  rw [hn1, B_data] at hp
  obtain ⟨L, hL⟩ : ∃ L, Hid (headerL a g s b = L) := ⟨_, Lib.hid rfl⟩
  rw [hL.out] at he hp hq
  have hmo := oneMade (hdv a g s b) (.slice none 0 0) (.int .i64 1) (.agg Y.toArray) rfl rfl rfl (by rw [← hYl]; rfl) (by
    intro v hv
    rcases List.mem_append.1 hv with h | h
    · exact hdr_oneR _ _ _ _ v h
    rcases List.mem_append.1 h with h | h
    · have : v = .slice none 0 0 := by simpa [Value.cells] using h
      rw [this]; rfl
    rcases List.mem_append.1 h with h | h
    · have : v = .int .i64 1 := by simpa [Value.cells] using h
      rw [this]; rfl
    · exact hYo v h)
  obtain ⟨T, hT⟩ : ∃ T, Hid (rowS x = T) := ⟨_, Lib.hid rfl⟩
  have hTl : T.length = 16 := by rw [← hT.out, rowS_len, hx]
  obtain ⟨V, hV, hX, hH, hM, hB⟩ := three_boxes w 39 35 41 T [.int .i64 (a : Int), .int .u32 (g : Int), .int .u32 (s : Int), .int .i64 (b : Int)] noMade
  rw [hT.out] at hq ⊢
  replace hq := Lib.hid hq
  obtain ⟨B, hBB⟩ : ∃ B, Hid (w.heap.size + 1 + 1 = B) := ⟨_, Lib.hid rfl⟩
  rw [hBB.out] at hM
  have hV0 : KeepC B V V := ⟨Below.refl _ _, hM.lt, noMade, rfl, hM⟩
  have hV1 : KeepC B V V.drew := hV0.drew
  have l0 : w.heap.size < B := by have := hBB.out; omega
  have l1 : w.heap.size + 1 < B := by have := hBB.out; omega
  have hc0 : ∀ W, KeepC B V W → W.cell? ⟨w.heap.size + 1, 0, none⟩ = some (.int .i64 (a : Int)) := fun W h => h.cell l1 (hH.cell 0)
  have hc1 : ∀ W, KeepC B V W → W.cell? ⟨w.heap.size + 1, 1, none⟩ = some (.int .u32 (g : Int)) := fun W h => h.cell l1 (hH.cell 1)
  have hc2 : ∀ W, KeepC B V W → W.cell? ⟨w.heap.size + 1, 2, none⟩ = some (.int .u32 (s : Int)) := fun W h => h.cell l1 (hH.cell 2)
  have hc3 : ∀ W, KeepC B V W → W.cell? ⟨w.heap.size + 1, 3, none⟩ = some (.int .i64 (b : Int)) := fun W h => h.cell l1 (hH.cell 3)
  have hrh : ∀ W, KeepC B V W → hasAt W (.pointer (some ⟨w.heap.size, 0, none⟩)) 16 := fun W h => has_of (h.range l0 hX.range) hTl
  have hrd : ∀ W, KeepC B V W → readAt W (.pointer (some ⟨w.heap.size, 0, none⟩)) 16 = T := fun W h => read_of (h.range l0 hX.range) hTl
  have hrm : ∀ W, KeepC B V W → roomAt W (.pointer (some ⟨B, 0, none⟩)) 22 := fun W h => h.room
  have hBV : B ≤ V.heap.size := Nat.le_of_lt hM.lt
  have hml : (madeL (hdv a g s b) (.slice none 0 0) (.int .i64 1) (.agg Y.toArray)).length = 22 := by
    have h := hmo.1
    simpa [Value.cells] using h
  have hTz : T.toArray.size = 16 := by simpa using hTl
  have hYz : Y.toArray.size = 16 := by simpa using hYl
  go_enter Tryd.func15, Tryd.ntmps15
  go_wp2_with fail
  rw [← show V = _ from hV]
  clear hV
  rw [hBB.out]
  go_region_held3 (fun w' => KeepC B V w') (first | assumption | exact KeepC.laid (by assumption) hBV _ hml | (go_keep)) (first
    | (go_at_call 55; (with_reducible refine (he.out _).mono ?_); rintro _ w1 ⟨rfl, hb1⟩; have hk1 : KeepC B V w1 := KeepC.grow (by assumption) hb1)
    | (go_at_call 54; (with_reducible refine (hp.out _).mono ?_); rintro _ w2 ⟨v, rfl, hown, hb2⟩; have hk2 : KeepC B V w2 := KeepC.grow (by assumption) hb2; obtain ⟨va, vc, rfl, hcells⟩ := own_cells hown)
    | (go_at_call 53; (with_reducible refine (hq.out va vc _ (fun k hk => by obtain ⟨q, h1, h2, h3, h4⟩ := hcells k hk; exact ⟨q, h1, h3, h4⟩)).mono ?_); rintro _ w3 ⟨rfl, hb3⟩; have hk3 : KeepC B V w3 := KeepC.grow (by assumption) hb3))
  obtain ⟨k1, k2, cs, k3, k4⟩ := hk3
  have hfin := whole_all k4 (vs := madeL (hdv a g s b) (.slice none 0 0) (.int .i64 1) (.agg Y.toArray)) (by omega)
  have hlast := below_store (hB.trans (k1.mono (Nat.le_of_lt l0))) (c := B) (Nat.le_of_lt l0) (Nat.le_refl _) 0 (madeL (hdv a g s b) (.slice none 0 0) (.int .i64 1) (.agg Y.toArray))
  go_wp2_with fail
  exact bodyPost_ret (result_cell Tryd.results15 rfl hfin.range Tryd.underlying41 rfl (by rw [hml]; exact sizeMade)) rfl ⟨rfl, hlast⟩
end Go.Proofs.YtlgoepbfdldgnaaDoor.W
end
section
namespace Go.Proofs.YtlgoepbfdldgnaaDoor.W
open Go.RowKit
open Go.Proofs.YtlgoepbfdldgnaaDoor.M Go.Proofs.YtlgoepbfdldgnaaDoor.D Go.Proofs.YtlgoepbfdldgnaaDoor.Z
set_option linter.unusedVariables false

theorem sizeApp : (Tryd.prog.info? 49).map (·.size) = some 24 := by kernel_rfl
theorem built_appLit (x0 x1 x2 x3 x4 x5 y0 y1 y2 y3 y4 y5 y6 y7 y8 y9 ya yb yc yd ye yf c d : Value) :
    Tryd.prog.built 49 [(0, .agg #[x0, x1, x2, x3, x4, x5, y0, y1, y2, y3, y4, y5, y6, y7, y8, y9, ya, yb, yc, yd, ye, yf]), (1, .agg #[c]), (2, .agg #[d])] =
      some #[x0, x1, x2, x3, x4, x5, y0, y1, y2, y3, y4, y5, y6, y7, y8, y9, ya, yb, yc, yd, ye, yf, c, d] := by kernel_rfl
theorem list22 {l : List Value} (h : l.length = 22) : ∃ x0 x1 x2 x3 x4 x5 y0 y1 y2 y3 y4 y5 y6 y7 y8 y9 ya yb yc yd ye yf, l = [x0, x1, x2, x3, x4, x5, y0, y1, y2, y3, y4, y5, y6, y7, y8, y9, ya, yb, yc, yd, ye, yf] := by
  match l, h with
  | [x0, x1, x2, x3, x4, x5, y0, y1, y2, y3, y4, y5, y6, y7, y8, y9, ya, yb, yc, yd, ye, yf], _ => exact ⟨x0, x1, x2, x3, x4, x5, y0, y1, y2, y3, y4, y5, y6, y7, y8, y9, ya, yb, yc, yd, ye, yf, rfl⟩
/-- An Appended: a Made, a place, an error. -/
def appL (X : List Value) (c d : Int) : List Value := X ++ [Value.int .i64 c, Value.int .i64 d]
theorem appL_len (X : List Value) (c d : Int) (h : X.length = 22) : (appL X c d).length = 24 := by simp [appL, h]
theorem appL_one (X : List Value) (c d : Int) (h : ∀ v ∈ X, v.oneCell' = true) : ∀ v ∈ appL X c d, v.oneCell' = true := by
  intro v hv
  unfold appL at hv
  rcases List.mem_append.1 hv with h1 | h1
  · exact h v h1
  · simp at h1
    rcases h1 with h1 | h1 <;> rw [h1] <;> rfl
theorem built_app (X : List Value) (c d : Int) (hx : X.length = 22) :
    Tryd.prog.built 49 [(0, .agg X.toArray), (1, .int .i64 c), (2, .int .i64 d)] = some (appL X c d).toArray := by
  rw [built_cells]
  obtain ⟨x0, x1, x2, x3, x4, x5, y0, y1, y2, y3, y4, y5, y6, y7, y8, y9, ya, yb, yc, yd, ye, yf, rfl⟩ := list22 hx
  exact built_appLit _ _ _ _ _ _ _ _ _ _ _ _ _ _ _ _ _ _ _ _ _ _ _ _
theorem zBuild {P : Program} {w : World} {ops : Array Oper} {rest : List Oper} {o : Oper} {a : Act} {Q : Exit → Act → World → Prop} (t : TypeId) (x : Array (Nat × Operand)) (ho : o.op = .build t x) (h : Hid (wpList P ops Q (o :: rest) a w)) : wpList P ops Q (o :: rest) a w := h
theorem wpList_built {P : Program} {w : World} {ops : Array Oper} {rest : List Oper} {o : Oper} {a : Act} {Q : Exit → Act → World → Prop} (hg : o.guard = none) (t : TypeId) (i j k : Nat) (x y z : Operand) (ho : o.op = .build t #[(i, x), (j, y), (k, z)]) (vx vy vz : Value)
    (hx : a.eval x = vx) (hy : a.eval y = vy) (hz : a.eval z = vz) (cs : Array Value)
    (hf : P.built t [(i, vx), (j, vy), (k, vz)] = some cs) (h : wpList P ops Q rest (a.put o.dst (.agg cs)) w) : wpList P ops Q (o :: rest) a w := by
  subst hx hy hz
  have hf' : P.built t (#[(i, x), (j, y), (k, z)].map fun (i, x) => (i, a.eval x)).toList = some cs := by simpa using hf
  exact wpList_build hg t _ ho (by rw [hf']; rfl) (by rw [hf']; exact h)
/-- No Appended. -/
abbrev noApp : List Value := [.int .i64 0, .int .u32 0, .int .u32 0, .int .i64 0, .slice none 0 0, .int .i64 0, .string ⟨#[]⟩, .string ⟨#[]⟩, .string ⟨#[]⟩, .string ⟨#[]⟩, .string ⟨#[]⟩, .string ⟨#[]⟩, .string ⟨#[]⟩, .string ⟨#[]⟩, .string ⟨#[]⟩, .string ⟨#[]⟩, .string ⟨#[]⟩, .string ⟨#[]⟩, .string ⟨#[]⟩, .string ⟨#[]⟩, .string ⟨#[]⟩, .string ⟨#[]⟩, .int .i64 0, .int .i64 0]
/-- A Made in memory, as cells. -/
abbrev mkM (a g s b : Nat) (la : Option Addr) (n lc E : Nat) (X : List Value) : List Value := madeL (hdv a g s b) (.slice la n lc) (.int .i64 (E : Int)) (.agg X.toArray)
theorem mkM_len (a g s b : Nat) (la : Option Addr) (n lc E : Nat) (X : List Value) (h : X.length = 16) : (mkM a g s b la n lc E X).length = 22 := by
  unfold mkM madeL
  simp [Value.cells, h]
theorem mkM_one (a g s b : Nat) (la : Option Addr) (n lc E : Nat) (X : List Value) (h : ∀ v ∈ X, v.oneCell' = true) : ∀ v ∈ mkM a g s b la n lc E X, v.oneCell' = true := by
  intro v hv
  unfold mkM madeL at hv
  rcases List.mem_append.1 hv with h1 | h1
  · exact hdr_oneR _ _ _ _ v h1
  rcases List.mem_append.1 h1 with h2 | h2
  · have : v = .slice la n lc := by simpa [Value.cells] using h2
    rw [this]; rfl
  rcases List.mem_append.1 h2 with h3 | h3
  · have : v = .int .i64 (E : Int) := by simpa [Value.cells] using h3
    rw [this]; rfl
  · exact h v h3
set_option maxRecDepth 100000 in
set_option maxHeartbeats 4000000 in
theorem rappend_no (a g s b : Nat) (la : Option Addr) (n lc E : Nat) (X : List Value) (k : Int) (p : ByteArray) (pl c : Int) (w : World) (hX : X.length = 16) (hX1 : ∀ v ∈ X, v.oneCell' = true) (hE : E ≤ 16)
    (hpl : (E = 16 ∧ pl = 15) ∨ (E ≠ 16 ∧ pl = E)) (hp : p.size ≤ 1000000) (hc : wrongF pl k p.size = c) (hne : c ≠ 0) :
    Calls Tryd.prog 18 #[.agg (mkM a g s b la n lc E X).toArray, .agg #[.int .i64 k, .string p]] w fun e w' =>
      e = .returned (.agg (appL (mkM a g s b la n lc E X) 0 c).toArray) ∧ Below w.heap.size w w' := by
  have hw : ∀ W : World, Calls Tryd.prog 61 #[.int .i64 pl, .agg #[.int .i64 k, .string p]] W fun e w' => e = .returned (.int .i64 c) ∧ Below W.heap.size W w' := fun W => by
    have h := rwrong_any pl k p W (by omega)
    rw [hc] at h
    exact h
  have hl := mkM_len a g s b la n lc E X hX
  have ho := mkM_one a g s b la n lc E X hX1
  have m5 : (mkM a g s b la n lc E X)[5]? = some (.int .i64 (E : Int)) := rfl
  obtain ⟨M, hM⟩ : ∃ M, Hid (mkM a g s b la n lc E X = M) := ⟨_, Lib.hid rfl⟩
  rw [hM.out] at hl ho m5 ⊢
  obtain ⟨W, hW, hA, hF, hR, hB⟩ := three_boxes w 41 45 49 M [.int .i64 k, .string p] noApp
  have c5 : W.cell? ⟨w.heap.size, 5, none⟩ = some (.int .i64 (E : Int)) := (hA.cell 5).trans m5
  have d0 := hF.cell 0
  have d1 := hF.cell 1
  simp only [List.getElem?_cons_zero, List.getElem?_cons_succ] at d0 d1
  have hne2 : (c == 0) = false := by simp [hne]
  replace hw := Lib.hid hw
  replace hA := Lib.hid hA
  replace hF := Lib.hid hF
  replace hR := Lib.hid hR
  replace hB := Lib.hid hB
  replace hW := Lib.hid hW
  replace ho := Lib.hid ho
  clear hc hp m5
  have hE16 : ((E : Int) == 16) = decide (E = 16) := by
    by_cases h : E = 16
    · subst h; rfl
    · rw [decide_eq_false h, beq_eq_false_iff_ne]; omega
  rcases hpl with ⟨h16, rfl⟩ | ⟨h16, rfl⟩
  all_goals
    first | rw [decide_eq_true h16] at hE16 | rw [decide_eq_false h16] at hE16
    go_enter Tryd.func18, Tryd.ntmps18
    go_upto_region 1 with fail
    rw [← show W = _ from hW.out]
    clear hW
    go_wp2_with fail
    refine (hw.out _).mono ?_
    rintro _ w1 ⟨rfl, hb1⟩
    have hA1 := hA.out.below hb1 hA.out.lt
    have hR1 := Lib.hid (hR.out.below hb1 hR.out.lt)
    have hB1 := Lib.hid (grew hB.out hb1)
    clear c5 d0 d1 hA hF hR hB hb1
    go_wp2_with (with_reducible refine zLoad 41 _ rfl ?_)
    refine Lib.hid ?_
    refine wpList_load_mid rfl 41 _ rfl w.heap.size 0 rfl M _ hA1.range Tryd.underlying41 rfl (by rw [hl]; exact sizeMade) ?_
    go_wp2_with (with_reducible refine zBuild 49 _ rfl ?_)
    refine Lib.hid ?_
    refine wpList_built rfl 49 _ _ _ _ _ _ rfl (.agg M.toArray) (.int .i64 0) (.int .i64 c) rfl rfl rfl (appL M 0 c).toArray (built_app M 0 c hl) ?_
    go_wp2_with (with_reducible refine zStore 49 _ _ rfl ?_)
    refine Lib.hid ?_
    refine wpList_store_mid rfl 49 _ _ rfl (w.heap.size + 1 + 1) 0 (appL M 0 c).toArray rfl rfl (hR1.out.there 0 _ (by rw [List.size_toArray, appL_len M 0 c hl]; exact Nat.le_refl 24)) (by rw [List.size_toArray, appL_len M 0 c hl]; exact sizeApp) (all_oneCell_toArray (appL_one M 0 c ho.out)) ?_
    go_wp2_with fail
    have hfin := whole_all hR1.out (vs := appL M 0 c) (by rw [appL_len M 0 c hl]; rfl)
    exact bodyPost_ret (result_cell Tryd.results18 rfl hfin.range Tryd.underlying49 rfl (by rw [appL_len M 0 c hl]; exact sizeApp)) rfl ⟨rfl, below_store hB1.out (by omega) (Nat.le_refl _) 0 _⟩
/-- How many pieces a frame of n bytes has. -/
def pcsN (n : Nat) : Nat := (n + 7 + 51) / 52
theorem wrong_zero {pl k : Int} {n : Nat} (h : wrongF pl k n = 0) : 1 ≤ k ∧ k ≤ 255 ∧ 1 ≤ pl ∧ pl < 16 ∧ n ≤ 773 := by
  unfold wrongF at h
  split at h
  · cases h
  · split at h
    · cases h
    · omega
set_option maxRecDepth 100000 in
set_option maxHeartbeats 4000000 in
theorem rappend_full (a g s b : Nat) (la : Option Addr) (n lc E : Nat) (X : List Value) (k : Int) (p : ByteArray) (pl : Int) (w : World) (hX : X.length = 16) (hX1 : ∀ v ∈ X, v.oneCell' = true) (hs : s < 4294967296) (hE : E ≤ 16)
    (hpl : (E = 16 ∧ pl = 15) ∨ (E ≠ 16 ∧ pl = E)) (hc : wrongF pl k p.size = 0) (hf : 16 < E + pcsN p.size) :
    Calls Tryd.prog 18 #[.agg (mkM a g s b la n lc E X).toArray, .agg #[.int .i64 k, .string p]] w fun e w' =>
      e = .returned (.agg (appL (mkM a g s b la n lc E X) 0 5).toArray) ∧ Below w.heap.size w w' := by
  obtain ⟨z1, z2, z3, z4, z5⟩ := wrong_zero hc
  have hw : ∀ W : World, Calls Tryd.prog 61 #[.int .i64 pl, .agg #[.int .i64 k, .string p]] W fun e w' => e = .returned (.int .i64 0) ∧ Below W.heap.size W w' := fun W => by
    have h := rwrong_any pl k p W (by omega)
    rw [hc] at h
    exact h
  have hen := fun W => rencode_any (s : Int) pl k p W (by omega) (by omega) (by omega) z2 ⟨z3, z4⟩ (by omega)
  have hLl : (encF (s : Int) pl k p.data.toList).length = p.size + 7 := by
    rw [encF_len, Array.length_toList]
    exact Nat.add_comm _ _
  obtain ⟨L, hL⟩ : ∃ L, Hid (encF (s : Int) pl k p.data.toList = L) := ⟨_, Lib.hid rfl⟩
  rw [hL.out] at hen hLl
  have hpi := fun W => rpieces_any 20 (B L) W (by rw [B_size, hLl]; omega) (by omega)
  rw [B_data, B_size, hLl] at hpi
  obtain ⟨np, hnp⟩ : ∃ np, Hid (pcsN p.size = np) := ⟨_, Lib.hid rfl⟩
  rw [show (p.size + 7 + 51) / 52 = np from hnp.out] at hpi
  rw [hnp.out] at hf
  have hnz : np ≤ 16 := by have := hnp.out; unfold pcsN at this; omega
  have hl := mkM_len a g s b la n lc E X hX
  have ho := mkM_one a g s b la n lc E X hX1
  have m5 : (mkM a g s b la n lc E X)[5]? = some (.int .i64 (E : Int)) := rfl
  have m2 : (mkM a g s b la n lc E X)[2]? = some (.int .u32 (s : Int)) := rfl
  obtain ⟨M, hM⟩ : ∃ M, Hid (mkM a g s b la n lc E X = M) := ⟨_, Lib.hid rfl⟩
  rw [hM.out] at hl ho m5 m2 ⊢
  obtain ⟨W, hW, hA, hF, hR, hB⟩ := three_boxes w 41 45 49 M [.int .i64 k, .string p] noApp
  have c5 : W.cell? ⟨w.heap.size, 5, none⟩ = some (.int .i64 (E : Int)) := (hA.cell 5).trans m5
  have d0 := hF.cell 0
  have d1 := hF.cell 1
  simp only [List.getElem?_cons_zero, List.getElem?_cons_succ] at d0 d1
  replace hw := Lib.hid hw
  replace hen := Lib.hid hen
  replace hpi := Lib.hid hpi
  replace hA := Lib.hid hA
  replace hF := Lib.hid hF
  replace hR := Lib.hid hR
  replace hB := Lib.hid hB
  replace hW := Lib.hid hW
  replace ho := Lib.hid ho
  have hE16 : ((E : Int) == 16) = decide (E = 16) := by
    by_cases h : E = 16
    · subst h; rfl
    · rw [decide_eq_false h, beq_eq_false_iff_ne]; omega
  have hgt : (16 : Int) < (E : Int) + (np : Int) := by omega
  have hwr : IntKind.i64.wrap ((E : Int) + (np : Int)) = (E : Int) + (np : Int) := IntWalk.i64_in _ (by omega)
  clear hc z1 z2 z3 z4 z5 hnp hLl
  rcases hpl with ⟨h16, rfl⟩ | ⟨h16, rfl⟩
  all_goals
    first | rw [decide_eq_true h16] at hE16 | rw [decide_eq_false h16] at hE16
    go_enter Tryd.func18, Tryd.ntmps18
    go_upto_region 1 with fail
    rw [← show W = _ from hW.out]
    clear hW
    go_wp2_with fail
    refine (hw.out _).mono ?_
    rintro _ w1 ⟨rfl, hb1⟩
    have hA1 := Lib.hid (hA.out.below hb1 hA.out.lt)
    have hF1 := Lib.hid (hF.out.below hb1 hF.out.lt)
    have hR1 := Lib.hid (hR.out.below hb1 hR.out.lt)
    have hB1 := Lib.hid (grew hB.out hb1)
    clear c5 d0 d1 hA hF hR hB hb1
    have c2 : w1.cell? ⟨w.heap.size, 2, none⟩ = some (.int .u32 (s : Int)) := (hA1.out.cell 2).trans m2
    have d0 := hF1.out.cell 0
    have d1 := hF1.out.cell 1
    simp only [List.getElem?_cons_zero, List.getElem?_cons_succ] at d0 d1
    go_wp2_with fail
    refine (hen.out _).mono ?_
    rintro _ w2 ⟨rfl, hb2⟩
    go_wp2_with fail
    refine (hpi.out _).mono ?_
    rintro _ w3 ⟨v, rfl, hown, hb3⟩
    obtain ⟨va, vc, rfl, hcells⟩ := own_cells hown
    have hA3 := ((hA1.out.below hb2 hA1.out.lt).below hb3 (hA1.out.below hb2 hA1.out.lt).lt)
    have hR3 := Lib.hid ((hR1.out.below hb2 hR1.out.lt).below hb3 (hR1.out.below hb2 hR1.out.lt).lt)
    have hB3 := Lib.hid (grew (grew hB1.out hb2) hb3)
    clear c2 d0 d1 hA1 hF1 hR1 hB1 hb2 hb3 hown hcells
    have c5 : w3.cell? ⟨w.heap.size, 5, none⟩ = some (.int .i64 (E : Int)) := (hA3.cell 5).trans m5
    go_wp2_with (with_reducible refine zLoad 41 _ rfl ?_)
    refine Lib.hid ?_
    refine wpList_load_mid rfl 41 _ rfl w.heap.size 0 rfl M _ hA3.range Tryd.underlying41 rfl (by rw [hl]; exact sizeMade) ?_
    go_wp2_with (with_reducible refine zBuild 49 _ rfl ?_)
    refine Lib.hid ?_
    refine wpList_built rfl 49 _ _ _ _ _ _ rfl (.agg M.toArray) (.int .i64 0) (.int .i64 5) rfl rfl rfl (appL M 0 5).toArray (built_app M 0 5 hl) ?_
    go_wp2_with (with_reducible refine zStore 49 _ _ rfl ?_)
    refine Lib.hid ?_
    refine wpList_store_mid rfl 49 _ _ rfl (w.heap.size + 1 + 1) 0 (appL M 0 5).toArray rfl rfl (hR3.out.there 0 _ (by rw [List.size_toArray, appL_len M 0 5 hl]; exact Nat.le_refl 24)) (by rw [List.size_toArray, appL_len M 0 5 hl]; exact sizeApp) (all_oneCell_toArray (appL_one M 0 5 ho.out)) ?_
    go_wp2_with fail
    have hfin := whole_all hR3.out (vs := appL M 0 5) (by rw [appL_len M 0 5 hl]; rfl)
    exact bodyPost_ret (result_cell Tryd.results18 rfl hfin.range Tryd.underlying49 rfl (by rw [appL_len M 0 5 hl]; exact sizeApp)) rfl ⟨rfl, below_store hB3.out (by omega) (Nat.le_refl _) 0 _⟩
end Go.Proofs.YtlgoepbfdldgnaaDoor.W
end
section
namespace Go.Proofs.YtlgoepbfdldgnaaDoor.W
open Go.RowKit
open Go.Proofs.YtlgoepbfdldgnaaDoor.M Go.Proofs.YtlgoepbfdldgnaaDoor.D Go.Proofs.YtlgoepbfdldgnaaDoor.Z
set_option linter.unusedVariables false

theorem fill_cells4 (p : Nat → Option (Nat × Nat)) (z : Array Value) (i j k m : Nat) (x l c y : Value) : Instr.fill p z [(i, x), (j, l), (k, c), (m, y)] = Instr.fill p z [(i, .agg x.cells), (j, .agg l.cells), (k, .agg c.cells), (m, .agg y.cells)] := rfl
theorem built_cells4 (t : TypeId) (i j k m : Nat) (x l c y : Value) : Tryd.prog.built t [(i, x), (j, l), (k, c), (m, y)] = Tryd.prog.built t [(i, .agg x.cells), (j, .agg l.cells), (k, .agg c.cells), (m, .agg y.cells)] := by
  unfold Program.built
  generalize Tryd.prog.info? t = a
  generalize Tryd.prog.underlying t = b
  repeat' split
  all_goals first | rfl | exact fill_cells4 _ _ _ _ _ _ _ _ _ _
theorem built_lit4 (x0 x1 x2 x3 l c y0 y1 y2 y3 y4 y5 y6 y7 y8 y9 ya yb yc yd ye yf : Value) :
    Tryd.prog.built 41 [(0, .agg #[x0, x1, x2, x3]), (1, .agg #[l]), (2, .agg #[c]), (3, .agg #[y0, y1, y2, y3, y4, y5, y6, y7, y8, y9, ya, yb, yc, yd, ye, yf])] =
      some #[x0, x1, x2, x3, l, c, y0, y1, y2, y3, y4, y5, y6, y7, y8, y9, ya, yb, yc, yd, ye, yf] := by kernel_rfl
theorem built_made4 (x l c y : Value) (hx : x.cells.size = 4) (hl : l.cells.size = 1) (hc : c.cells.size = 1) (hy : y.cells.size = 16) :
    Tryd.prog.built 41 [(0, x), (1, l), (2, c), (3, y)] = some (madeL x l c y).toArray := by
  rw [built_cells4]
  unfold madeL
  obtain ⟨⟨X⟩, hX⟩ : ∃ X, X = x.cells := ⟨_, rfl⟩
  obtain ⟨⟨L⟩, hL⟩ : ∃ X, X = l.cells := ⟨_, rfl⟩
  obtain ⟨⟨C⟩, hC⟩ : ∃ X, X = c.cells := ⟨_, rfl⟩
  obtain ⟨⟨Y⟩, hY⟩ : ∃ X, X = y.cells := ⟨_, rfl⟩
  rw [← hX] at hx ⊢
  rw [← hL] at hl ⊢
  rw [← hC] at hc ⊢
  rw [← hY] at hy ⊢
  obtain ⟨x0, x1, x2, x3, rfl⟩ := list4 (l := X) (by simpa using hx)
  obtain ⟨l0, rfl⟩ : ∃ c0, L = [c0] := List.length_eq_one_iff.1 (by simpa using hl)
  obtain ⟨c0, rfl⟩ : ∃ c0, C = [c0] := List.length_eq_one_iff.1 (by simpa using hc)
  obtain ⟨y0, y1, y2, y3, y4, y5, y6, y7, y8, y9, ya, yb, yc, yd, ye, yf, rfl⟩ := list16 (l := Y) (by simpa using hy)
  exact built_lit4 _ _ _ _ _ _ _ _ _ _ _ _ _ _ _ _ _ _ _ _ _ _
theorem build_madeA (e : Operand → Value) (d : Option Tmp) (x l c y : Operand) (ty : TypeId) (ps : String) (af : Array Edge) (gd : Option (Nat × Bool)) (w : World) (hx : (e x).cells.size = 4) (hl : (e l).cells.size = 1) (hc : (e c).cells.size = 1) (hy : (e y).cells.size = 16) :
    (execOp e { dst := d, op := .build 41 #[(0, x), (1, l), (2, c), (3, y)], type := ty, pos := ps, after := af, guard := gd }).run Tryd.prog w = .ok (.value (.agg (madeL (e x) (e l) (e c) (e y)).toArray)) w := by
  have h := run_build (P := Tryd.prog) w 41 #[(0, e x), (1, e l), (2, e c), (3, e y)] _ (built_made4 (e x) (e l) (e c) (e y) hx hl hc hy)
  unfold execOp
  simp only [List.map_toArray, List.map_cons, List.map_nil, h, Sem.run_bind, Sem.run_pure, Result.andThen_ok]
/-- An Appended, of values. -/
def appV (x c d : Value) : List Value := x.cells.toList ++ (c.cells.toList ++ d.cells.toList)
theorem appV_eq (M : List Value) (c d : Int) : appV (.agg M.toArray) (.int .i64 c) (.int .i64 d) = appL M c d := rfl
theorem built_appV (x c d : Value) (hx : x.cells.size = 22) (hc : c.cells.size = 1) (hd : d.cells.size = 1) :
    Tryd.prog.built 49 [(0, x), (1, c), (2, d)] = some (appV x c d).toArray := by
  rw [built_cells]
  unfold appV
  obtain ⟨⟨X⟩, hX⟩ : ∃ X, X = x.cells := ⟨_, rfl⟩
  obtain ⟨⟨C⟩, hC⟩ : ∃ X, X = c.cells := ⟨_, rfl⟩
  obtain ⟨⟨D⟩, hD⟩ : ∃ X, X = d.cells := ⟨_, rfl⟩
  rw [← hX] at hx ⊢
  rw [← hC] at hc ⊢
  rw [← hD] at hd ⊢
  obtain ⟨x0, x1, x2, x3, x4, x5, y0, y1, y2, y3, y4, y5, y6, y7, y8, y9, ya, yb, yc, yd, ye, yf, rfl⟩ := list22 (l := X) (by simpa using hx)
  obtain ⟨c0, rfl⟩ : ∃ c0, C = [c0] := List.length_eq_one_iff.1 (by simpa using hc)
  obtain ⟨d0, rfl⟩ : ∃ c0, D = [c0] := List.length_eq_one_iff.1 (by simpa using hd)
  exact built_appLit _ _ _ _ _ _ _ _ _ _ _ _ _ _ _ _ _ _ _ _ _ _ _ _
theorem build_appA (e : Operand → Value) (d : Option Tmp) (x c y : Operand) (ty : TypeId) (ps : String) (af : Array Edge) (gd : Option (Nat × Bool)) (w : World) (hx : (e x).cells.size = 22) (hc : (e c).cells.size = 1) (hy : (e y).cells.size = 1) :
    (execOp e { dst := d, op := .build 49 #[(0, x), (1, c), (2, y)], type := ty, pos := ps, after := af, guard := gd }).run Tryd.prog w = .ok (.value (.agg (appV (e x) (e c) (e y)).toArray)) w := by
  have h := run_build (P := Tryd.prog) w 49 #[(0, e x), (1, e c), (2, e y)] _ (built_appV (e x) (e c) (e y) hx hc hy)
  unfold execOp
  simp only [List.map_toArray, List.map_cons, List.map_nil, h, Sem.run_bind, Sem.run_pure, Result.andThen_ok]
theorem store_appA (e : Operand → Value) (d : Option Tmp) (x y : Operand) (ty : TypeId) (ps : String) (af : Array Edge) (gd : Option (Nat × Bool)) (w : World) (h : roomAt w (e x) 24) (hy : oneCells (e y) 24) :
    (execOp e { dst := d, op := .store 49 x y, type := ty, pos := ps, after := af, guard := gd }).run Tryd.prog w = .ok .skip (laidAt w (e x) (e y).cells.toList) := by
  obtain ⟨b, o, hx, ht⟩ := h
  obtain ⟨h1, h2, h3⟩ := hy
  have hs := run_storeVar_mid (P := Tryd.prog) w b o 49 (e y).cells (by rw [h1]; exact ht) (by rw [h1]; exact sizeApp) h3
  rw [← h2] at hs
  unfold execOp
  simp only [hx, Instr.storeAt, Instr.sureAddr, Sem.run_bind, Sem.run_pure, Result.andThen_ok, hs, laidAt]
/-- The world grows, and one block is stored to. -/
def KeepR (B n : Nat) (t : TypeId) (V W : World) : Prop := Kept (fun q => q = B) V W ∧ ∃ cs : List Value, cs.length = n ∧ Whole W B t cs
section
variable {B n : Nat} {t : TypeId} {V W w' : World}
theorem KeepR.grow (h : KeepR B n t V W) (hb : Below W.heap.size W w') : KeepR B n t V w' := by
  obtain ⟨h1, cs, h3, h4⟩ := h
  exact ⟨h1.trans (Kept.of_below hb), cs, h3, h4.below hb h4.lt⟩
theorem KeepR.size (h : KeepR B n t V W) : V.heap.size ≤ W.heap.size := h.1.size
theorem KeepR.drew (h : KeepR B n t V W) : KeepR B n t V W.drew := by
  obtain ⟨h1, cs, h3, h4⟩ := h
  exact ⟨h1.drewN 1, cs, h3, h4⟩
theorem KeepR.laid (h : KeepR B n t V W) (cs : List Value) (hl : cs.length = n) : KeepR B n t V (laidAt W (.pointer (some ⟨B, 0, none⟩)) cs) := by
  obtain ⟨h1, ds, h3, h4⟩ := h
  exact ⟨h1.setCells (c := B) (.inl rfl) 0 cs, cs, hl, whole_all h4 (by omega)⟩
theorem KeepR.cell (h : KeepR B n t V W) {b o : Nat} {v : Value} (hb : b < V.heap.size) (hne : b ≠ B) (hc : V.cell? ⟨b, o, none⟩ = some v) : W.cell? ⟨b, o, none⟩ = some v := (World.cell?_of_block (h.1.block b hb hne)).trans hc
theorem KeepR.range (h : KeepR B n t V W) {b o : Nat} {cs : List Value} (hb : b < V.heap.size) (hne : b ≠ B) (hc : V.rangeAt b o cs) : W.rangeAt b o cs := fun j v hv => h.cell hb hne (hc j v hv)
theorem KeepR.room (h : KeepR B n t V W) : roomAt W (.pointer (some ⟨B, 0, none⟩)) n := by
  obtain ⟨h1, cs, h3, h4⟩ := h
  exact ⟨_, _, rfl, h4.there 0 n (by omega)⟩
end
/-- Frames, as cells. -/
def frRows (fs : List (Int × ByteArray)) : List Value := fs.flatMap fun f => [.int .i64 f.1, .string f.2]
theorem frRows_len : ∀ fs : List (Int × ByteArray), (frRows fs).length = fs.length * 2
  | [] => rfl
  | f :: fs => by
    have h := frRows_len fs
    unfold frRows at h ⊢
    simp only [List.flatMap_cons, List.length_append, List.length_cons, List.length_nil] at h ⊢
    omega
theorem frRows_one (fs : List (Int × ByteArray)) : ∀ v ∈ frRows fs, v.oneCell' = true := by
  intro v hv
  obtain ⟨f, _, h⟩ := List.mem_flatMap.1 hv
  simp at h
  rcases h with h | h <;> rw [h] <;> rfl
theorem frRows_add (fs : List (Int × ByteArray)) (k : Int) (p : ByteArray) : frRows (fs ++ [(k, p)]) = frRows fs ++ [.int .i64 k, .string p] := by
  unfold frRows; rw [List.flatMap_append]; rfl
theorem infoFrame : (Tryd.prog.info? 45).map (fun i => (i.zero, i.size, i.bytes)) = some (some (.agg #[.int .i64 0, .string ⟨#[]⟩]), 2, 24) := by kernel_rfl
theorem own_nil {W : World} {B : Nat} {e : TypeId} {sz : Nat} : W.ownsRow B e sz (.slice none 0 0) 0 [] := ⟨by simp, .inl ⟨rfl, rfl⟩⟩
theorem own_mono {W : World} {B B' n sz : Nat} {e : TypeId} {v : Value} {xs : List Value} (h : W.ownsRow B e sz v n xs) (hB : B' ≤ B) : W.ownsRow B' e sz v n xs := by
  rcases h with ⟨h0, h1 | ⟨k, cap, cur, h1, h2, h3⟩⟩
  · exact ⟨h0, .inl h1⟩
  · exact ⟨h0, .inr ⟨k, cap, cur, h1, Nat.le_trans hB h2, h3⟩⟩
theorem own_news {W : World} {B n : Nat} {la : Option Addr} {lc : Nat} {rows : List Value} (hn : 0 < n) (h : W.ownsRow B 45 2 (.slice la n lc) n rows) : ∃ gg, la = some ⟨gg, 0, none⟩ ∧ rows.length = n * 2 ∧ gg < W.heap.size ∧ ∀ j u, rows[j]? = some u → W.cell? ((⟨gg, 0, none⟩ : Addr).add j) = some u := by
  obtain ⟨h0, ⟨h1, h2⟩ | ⟨g, cap, cur, h1, hB, h2, h3, h4, h5, h6⟩⟩ := h
  · omega
  · cases h1
    have hW : Whole W g 45 cur.toList := by simpa [Whole] using h2
    refine ⟨g, rfl, h0, hW.lt, fun j u hu => ?_⟩
    have hadd : (⟨g, 0, none⟩ : Addr).add j = ⟨g, j, none⟩ := by unfold Addr.add; split <;> simp_all
    rw [hadd, hW.cell]
    have hi : j < rows.length := (List.getElem?_eq_some_iff.1 hu).1
    rw [← h6, List.getElem?_take, if_pos (by omega)] at hu
    exact hu
/-- The first append of a copy: of no frames or of some. -/
theorem app_first {ops : Array Oper} {rest : List Oper} {o : Oper} {a : Act} {W : World} {Q : Exit → Act → World → Prop} (hgd : o.guard = none) (s x : Operand)
    (ho : o.op = .call { callee := .builtin .append, args := #[s, x], argTypes := #[25, 25] }) (hs : a.eval s = .slice none 0 0) (la : Option Addr) (n lc : Nat) (hx : a.eval x = .slice la n lc) (fs : List (Int × ByteArray)) (hfs : fs.length = n) (hn : n ≤ 1000)
    (hL : (n = 0 ∧ la = none ∧ lc = 0) ∨ (0 < n ∧ W.ownsRow 0 45 2 (.slice la n lc) n (frRows fs)))
    (h : ∀ v8 w4, w4.ownsRow W.heap.size 45 2 v8 n (frRows fs) → Below W.heap.size W w4 → wpList Tryd.prog ops Q rest (a.put o.dst v8) w4) : wpList Tryd.prog ops Q (o :: rest) a W := by
  obtain ⟨i0, hi0, hz0, hz1, hz2⟩ := info_parts infoFrame
  rcases hL with ⟨rfl, rfl, rfl⟩ | ⟨h0, how⟩
  · have hnil : fs = [] := List.eq_nil_of_length_eq_zero hfs
    subst hnil
    exact wpList_append_own_none hgd s x _ ho 0 45 i0 2 Tryd.underlying25 hi0 (.slice none 0 0) 0 [] hs own_nil hx (h _ _ own_nil (Below.refl _ _))
  · obtain ⟨gg, rfl, hrl, hlt, hnews⟩ := own_news h0 how
    refine wpList_append_lies W hgd s x _ ho W.heap.size 45 i0 _ 2 24 Tryd.underlying25 hi0 hz0 hz1 hz2 rfl (by omega) _ 0 [] hs own_nil _ n lc (frRows fs) hx hrl hnews (frRows_one fs) h0 (by unfold maxLen; omega) (by omega) (Nat.le_refl _) _ rfl ?_
    intro g cap w' hown hgrow hat hlt'
    rw [Nat.zero_add, List.nil_append] at hown
    have e := h _ w' hown (((Kept.refl (fun _ => False) W).grown hgrow (fun q hq => by cases hq)).below (Nat.le_refl _) (fun _ h => h.elim))
    rw [Nat.zero_add]
    exact e
theorem own_whole' {w : World} {base : Nat} {e : TypeId} {n gg cap sz : Nat} {xs : List Value} (h : w.ownsRow base e sz (.slice (some ⟨gg, 0, none⟩) n cap) n xs) : ∃ cur, Whole w gg e cur := by
  rcases h.2 with ⟨h0, _⟩ | ⟨g', cap', cur, hv, _, hh, _⟩
  · cases h0
  · cases hv
    exact ⟨cur.toList, by simpa [Whole] using hh⟩
theorem own_ne {W : World} {B0 sz n R : Nat} {e t : TypeId} {v : Value} {xs cs : List Value} (h : W.ownsRow B0 e sz v n xs) (hR : Whole W R t cs) (ht : e ≠ t) : ∀ k, v.ownBlock = some k → ¬ k = R := by
  intro k hk
  rcases h.2 with ⟨rfl, _⟩ | ⟨g, cap, cur, rfl, _, hh, _⟩
  · cases hk
  · have hg : g = k := by simpa [Value.ownBlock] using hk
    subst hg
    have hW : Whole W g e cur.toList := by simpa [Whole] using hh
    exact hW.ne hR ht
attribute [local go_sem ↓] load_secS build_madeA build_appA store_appA in
set_option maxRecDepth 100000 in
set_option maxHeartbeats 8000000 in
theorem rappend_yes (a g s b : Nat) (la : Option Addr) (n lc E : Nat) (x : List ByteArray) (k : Int) (p : ByteArray) (fs : List (Int × ByteArray)) (w : World) (hx : x.length = 16) (hs : s < 4294967296)
    (hc : wrongF (E : Int) k p.size = 0) (hf : E + pcsN p.size ≤ 16) (hfs : fs.length = n) (hn : n ≤ 1000)
    (hL0 : (n = 0 ∧ la = none ∧ lc = 0) ∨ (0 < n ∧ w.ownsRow 0 45 2 (.slice la n lc) n (frRows fs))) :
    Calls Tryd.prog 18 #[.agg (mkM a g s b la n lc E (rowS x)).toArray, .agg #[.int .i64 k, .string p]] w fun e w' =>
      ∃ la' lc', e = .returned (.agg (appL (mkM a g s b la' (n + 1) lc' (E + pcsN p.size) (rowS (putP x s (n + 2) E (fun i => B (pcL (encF (s : Int) (E : Int) k p.data.toList) i)) (pcsN p.size)))) (E : Int) 0).toArray) ∧
        w'.ownsRow w.heap.size 45 2 (.slice la' (n + 1) lc') (n + 1) (frRows (fs ++ [(k, p)])) ∧ Below w.heap.size w w' := by
  obtain ⟨z1, z2, z3, z4, z5⟩ := wrong_zero hc
  have hw : ∀ W : World, Calls Tryd.prog 61 #[.int .i64 (E : Int), .agg #[.int .i64 k, .string p]] W fun e w' => e = .returned (.int .i64 0) ∧ Below W.heap.size W w' := fun W => by
    have h := rwrong_any (E : Int) k p W (by omega)
    rw [hc] at h
    exact h
  have hen := fun W => rencode_any (s : Int) (E : Int) k p W (by omega) (by omega) (by omega) z2 ⟨z3, z4⟩ (by omega)
  have hLl : (encF (s : Int) (E : Int) k p.data.toList).length = p.size + 7 := by
    rw [encF_len, Array.length_toList]
    exact Nat.add_comm _ _
  obtain ⟨L, hL⟩ : ∃ L, Hid (encF (s : Int) (E : Int) k p.data.toList = L) := ⟨_, Lib.hid rfl⟩
  rw [hL.out] at hen hLl ⊢
  have hpi := fun W => rpieces_any 20 (B L) W (by rw [B_size, hLl]; omega) (by omega)
  rw [B_data, B_size, hLl] at hpi
  obtain ⟨np, hnp⟩ : ∃ np, Hid (pcsN p.size = np) := ⟨_, Lib.hid rfl⟩
  rw [show (p.size + 7 + 51) / 52 = np from hnp.out] at hpi
  rw [hnp.out] at hf ⊢
  have hnz : 1 ≤ np := by have := hnp.out; unfold pcsN at this; omega
  have hput : ∀ (va : Option Addr) (vc : Nat) (W : World), (∀ i, i < np → ∃ q, va = some ⟨q, 0, none⟩ ∧ q < W.heap.size ∧ W.cell? ⟨q, i, none⟩ = some (.string (B (pcL L i)))) →
      Calls Tryd.prog 53 #[.agg (rowS x).toArray, .int .u32 (s : Int), .int .i64 (E : Int), .int .i64 ((n : Int) + 2), .slice va np vc] W fun e w' => e = .returned (.agg (rowS (putP x s (n + 2) E (fun i => B (pcL L i)) np)).toArray) ∧ Below W.heap.size W w' := fun va vc W h =>
    rput_any x s (n + 2) E np va vc (fun i => B (pcL L i)) W hx hs (by omega) hf (fun i _ => by rw [B_size, pcL_len]; omega) h
  have hYl : (rowS (putP x s (n + 2) E (fun i => B (pcL L i)) np)).length = 16 := by rw [rowS_len, putP_len, hx]
  have hYo := rowS_one (putP x s (n + 2) E (fun i => B (pcL L i)) np)
  obtain ⟨Y, hY⟩ : ∃ Y, Hid (rowS (putP x s (n + 2) E (fun i => B (pcL L i)) np) = Y) := ⟨_, Lib.hid rfl⟩
  rw [hY.out] at hput hYl hYo ⊢
  have hXl : (rowS x).length = 16 := by rw [rowS_len, hx]
  have hX1 := rowS_one x
  obtain ⟨X, hXX⟩ : ∃ X, Hid (rowS x = X) := ⟨_, Lib.hid rfl⟩
  rw [hXX.out] at hput hXl hX1 ⊢
  have hl := mkM_len a g s b la n lc E X hXl
  have m0 : (mkM a g s b la n lc E X)[0]? = some (.int .i64 (a : Int)) := rfl
  have m1 : (mkM a g s b la n lc E X)[1]? = some (.int .u32 (g : Int)) := rfl
  have m2 : (mkM a g s b la n lc E X)[2]? = some (.int .u32 (s : Int)) := rfl
  have m3 : (mkM a g s b la n lc E X)[3]? = some (.int .i64 (b : Int)) := rfl
  have m4 : (mkM a g s b la n lc E X)[4]? = some (.slice la n lc) := rfl
  have m5 : (mkM a g s b la n lc E X)[5]? = some (.int .i64 (E : Int)) := rfl
  have m6 : (mkM a g s b la n lc E X).drop 6 = X := rfl
  obtain ⟨M, hM⟩ : ∃ M, Hid (mkM a g s b la n lc E X = M) := ⟨_, Lib.hid rfl⟩
  rw [hM.out] at hl m0 m1 m2 m3 m4 m5 m6 ⊢
  obtain ⟨W, hW, hA, hF, hR, hB⟩ := three_boxes w 41 45 49 M [.int .i64 k, .string p] noApp
  have c5 : W.cell? ⟨w.heap.size, 5, none⟩ = some (.int .i64 (E : Int)) := (hA.cell 5).trans m5
  have d0 := hF.cell 0
  have d1 := hF.cell 1
  simp only [List.getElem?_cons_zero, List.getElem?_cons_succ] at d0 d1
  replace hw := Lib.hid hw
  replace hen := Lib.hid hen
  replace hpi := Lib.hid hpi
  replace hput := Lib.hid hput
  replace hA := Lib.hid hA
  replace hF := Lib.hid hF
  replace hR := Lib.hid hR
  replace hB := Lib.hid hB
  replace hW := Lib.hid hW
  have hE16 : ((E : Int) == 16) = false := by rw [beq_eq_false_iff_ne]; omega
  have hle : (E : Int) + (np : Int) ≤ 16 := by omega
  have hwr : IntKind.i64.wrap ((E : Int) + (np : Int)) = (E : Int) + (np : Int) := IntWalk.i64_in _ (by omega)
  have hwn : IntKind.i64.wrap ((n : Int) + 2) = (n : Int) + 2 := IntWalk.i64_in _ (by omega)
  clear hc z1 z2 z3 z4 z5 hnp hLl
  go_enter Tryd.func18, Tryd.ntmps18
  go_upto_region 1 with fail
  rw [← show W = _ from hW.out]
  clear hW
  go_wp2_with fail
  refine (hw.out _).mono ?_
  rintro _ w1 ⟨rfl, hb1⟩
  have hA1 := Lib.hid (hA.out.below hb1 hA.out.lt)
  have hF1 := Lib.hid (hF.out.below hb1 hF.out.lt)
  have hR1 := Lib.hid (hR.out.below hb1 hR.out.lt)
  have hB1 := Lib.hid (grew hB.out hb1)
  clear c5 d0 d1 hA hF hR hB hb1
  have c2 : w1.cell? ⟨w.heap.size, 2, none⟩ = some (.int .u32 (s : Int)) := (hA1.out.cell 2).trans m2
  have d0 := hF1.out.cell 0
  have d1 := hF1.out.cell 1
  simp only [List.getElem?_cons_zero, List.getElem?_cons_succ] at d0 d1
  go_wp2_with fail
  refine (hen.out _).mono ?_
  rintro _ w2 ⟨rfl, hb2⟩
  go_wp2_with fail
  refine (hpi.out _).mono ?_
  rintro _ w3 ⟨v, rfl, hown, hb3⟩
  obtain ⟨va, vc, rfl, hcells⟩ := own_cells hown
  have hpieces : w.heap.size + 1 + 1 < w2.heap.size := Nat.lt_of_lt_of_le hR1.out.lt hb2.size
  have hA3 := Lib.hid ((hA1.out.below hb2 hA1.out.lt).below hb3 (hA1.out.below hb2 hA1.out.lt).lt)
  have hF3 := Lib.hid ((hF1.out.below hb2 hF1.out.lt).below hb3 (hF1.out.below hb2 hF1.out.lt).lt)
  have hR3 := Lib.hid ((hR1.out.below hb2 hR1.out.lt).below hb3 (hR1.out.below hb2 hR1.out.lt).lt)
  have hB3 := Lib.hid (grew (grew hB1.out hb2) hb3)
  replace hcells := Lib.hid hcells
  clear c2 d0 d1 hA1 hF1 hR1 hB1 hb2 hb3 hown
  have c5 : w3.cell? ⟨w.heap.size, 5, none⟩ = some (.int .i64 (E : Int)) := (hA3.out.cell 5).trans m5
  have c4 : w3.cell? ⟨w.heap.size, 4, none⟩ = some (.slice la n lc) := (hA3.out.cell 4).trans m4
  have hL3 : Hid ((n = 0 ∧ la = none ∧ lc = 0) ∨ (0 < n ∧ w3.ownsRow 0 45 2 (.slice la n lc) n (frRows fs))) := Lib.hid (hL0.imp id (fun h => ⟨h.1, own_of_kept (own := fun _ => False) h.2 (Kept.of_below hB3.out) (fun _ _ h => h)⟩))
  obtain ⟨i0, hi0, hz0, hz1, hz2⟩ := info_parts infoFrame
  go_wp2_with (with_reducible refine zAppend _ _ _ rfl ?_)
  refine Lib.hid ?_
  refine app_first rfl _ _ rfl rfl la n lc rfl fs hfs hn hL3.out ?_
  intro v8 w4 hown4 hb4
  have hA4 := Lib.hid (hA3.out.below hb4 hA3.out.lt)
  have hF4 := Lib.hid (hF3.out.below hb4 hF3.out.lt)
  have hR4 := Lib.hid (hR3.out.below hb4 hR3.out.lt)
  replace hown4 := Lib.hid hown4
  have hfar := Lib.hid (ownFar hown4.out)
  have d0 := hF4.out.cell 0
  have d1 := hF4.out.cell 1
  simp only [List.getElem?_cons_zero, List.getElem?_cons_succ] at d0 d1
  have hs34 := hb4.size
  replace hb4 := Lib.hid hb4
  clear c4 c5
  go_wp2_with (with_reducible refine zAppend _ _ _ rfl ?_)
  refine Lib.hid ?_
  refine wpList_append_lies _ rfl _ _ 25 rfl w3.heap.size 45 i0 _ 2 24 Tryd.underlying25 hi0 hz0 hz1 hz2 rfl (by omega) v8 n (frRows fs) rfl (hown4.out.alloc _) _ 1 1 [.int .i64 k, .string p] rfl rfl (World.news_of_block (heap_alloc_new _ _)) (by simp [Value.oneCell']) (by omega) (by unfold maxLen; omega) (by omega) (by simp; omega) (w4.heap.size + 1) (by simp) ?_
  intro gg cap w5 hown5 hgrow5 hat5 hlt5
  have hk4 : Kept (fun q => w3.heap.size ≤ q) w3 w4 := Kept.of_below hb4.out
  have hk5 : Kept (fun q => w3.heap.size ≤ q) w3 w5 := (hk4.alloc _).grown hgrow5 (fun q hq => .inl (hfar.out q hq))
  have hb5 : Below w3.heap.size w3 w5 := hk5.below (Nat.le_refl _) (fun q h => h)
  have hA5 := hA3.out.below hb5 hA3.out.lt
  have hR5 := hR3.out.below hb5 hR3.out.lt
  have hB5 := Lib.hid (grew hB3.out hb5)
  have hs35 := hb5.size
  have hR3l := hR3.out.lt
  rw [← frRows_add] at hown5
  have hneR : gg ≠ w.heap.size + 1 + 1 := by
    obtain ⟨cur, hcur⟩ := own_whole' hown5
    exact hcur.ne hR5 (by decide)
  have hcell5 : Hid (∀ i, i < np → ∃ q, va = some ⟨q, 0, none⟩ ∧ q < w5.heap.size ∧ q ≠ w.heap.size + 1 + 1 ∧ w5.cell? ⟨q, i, none⟩ = some (.string (B (pcL L i)))) := Lib.hid (fun i hi => by
    obtain ⟨q, h1, h2, h3, h4⟩ := hcells.out i hi
    exact ⟨q, h1, by omega, by have := hpieces; omega, (World.cell?_of_block (hb5.block q h3)).trans h4⟩)
  obtain ⟨R, hRR⟩ : ∃ R, Hid (w.heap.size + 1 + 1 = R) := ⟨_, Lib.hid rfl⟩
  rw [hRR.out] at hR5 hneR hcell5 ⊢
  have hl0 := hA5.lt
  have hneA : w.heap.size ≠ R := by have := hRR.out; omega
  have hV0 : KeepR R 24 49 w5 w5 := ⟨Kept.refl _ _, noApp, rfl, hR5⟩
  have hV1 : KeepR R 24 49 w5 w5.drew := hV0.drew
  have r0 : ∀ W, KeepR R 24 49 w5 W → W.cell? ⟨w.heap.size, 0, none⟩ = some (.int .i64 (a : Int)) := fun W h => h.cell hl0 hneA ((hA5.cell 0).trans m0)
  have r1 : ∀ W, KeepR R 24 49 w5 W → W.cell? ⟨w.heap.size, 1, none⟩ = some (.int .u32 (g : Int)) := fun W h => h.cell hl0 hneA ((hA5.cell 1).trans m1)
  have r2 : ∀ W, KeepR R 24 49 w5 W → W.cell? ⟨w.heap.size, 2, none⟩ = some (.int .u32 (s : Int)) := fun W h => h.cell hl0 hneA ((hA5.cell 2).trans m2)
  have r3 : ∀ W, KeepR R 24 49 w5 W → W.cell? ⟨w.heap.size, 3, none⟩ = some (.int .i64 (b : Int)) := fun W h => h.cell hl0 hneA ((hA5.cell 3).trans m3)
  have r4 : ∀ W, KeepR R 24 49 w5 W → W.cell? ⟨w.heap.size, 4, none⟩ = some (.slice la n lc) := fun W h => h.cell hl0 hneA ((hA5.cell 4).trans m4)
  have r5 : ∀ W, KeepR R 24 49 w5 W → W.cell? ⟨w.heap.size, 5, none⟩ = some (.int .i64 (E : Int)) := fun W h => h.cell hl0 hneA ((hA5.cell 5).trans m5)
  have hpart : w5.rangeAt w.heap.size 6 X := by
    have h := hA5.part 6 16
    rw [m6, List.take_of_length_le (by omega)] at h
    exact h
  have hrh : ∀ W, KeepR R 24 49 w5 W → hasAt W (.pointer (some ⟨w.heap.size, 6, none⟩)) 16 := fun W h => has_of (h.range hl0 hneA hpart) hXl
  have hrd : ∀ W, KeepR R 24 49 w5 W → readAt W (.pointer (some ⟨w.heap.size, 6, none⟩)) 16 = X := fun W h => read_of (h.range hl0 hneA hpart) hXl
  have hrm : ∀ W, KeepR R 24 49 w5 W → roomAt W (.pointer (some ⟨R, 0, none⟩)) 24 := fun W h => h.room
  have hml := mkM_len a g s b (some ⟨gg, 0, none⟩) (n + 1) cap (E + np) Y hYl
  have hmo1 := mkM_one a g s b (some ⟨gg, 0, none⟩) (n + 1) cap (E + np) Y hYo
  have hal : (appV (.agg (madeL (hdv a g s b) (.slice (some ⟨gg, 0, none⟩) (n + 1) cap) (.int .i64 ((E : Int) + (np : Int))) (.agg Y.toArray)).toArray) (.int .i64 (E : Int)) (.int .i64 0)).length = 24 := appL_len _ (E : Int) 0 hml
  have hao : ∀ v ∈ (appV (.agg (madeL (hdv a g s b) (.slice (some ⟨gg, 0, none⟩) (n + 1) cap) (.int .i64 ((E : Int) + (np : Int))) (.agg Y.toArray)).toArray) (.int .i64 (E : Int)) (.int .i64 0)), v.oneCell' = true := appL_one _ (E : Int) 0 hmo1
  have hml2 : (madeL (hdv a g s b) (.slice (some ⟨gg, 0, none⟩) (n + 1) cap) (.int .i64 ((E : Int) + (np : Int))) (.agg Y.toArray)).length = 22 := hml
  have hone : oneCells (.agg (appV (.agg (madeL (hdv a g s b) (.slice (some ⟨gg, 0, none⟩) (n + 1) cap) (.int .i64 ((E : Int) + (np : Int))) (.agg Y.toArray)).toArray) (.int .i64 (E : Int)) (.int .i64 0)).toArray) 24 := ⟨by show (List.toArray _).size = 24; rw [List.size_toArray]; exact hal, rfl, all_oneCell_toArray hao⟩
  have hYz : Y.toArray.size = 16 := by simpa using hYl
  replace hown5 := Lib.hid hown5
  clear hml hmo1 hA5 hpart m0 m1 m2 m3 m4 m5 m6 hR5 hk4 hk5 hgrow5 hat5 hcells hA3 hF3 hR3 hA4 hF4 hR4 hL3 hL0
  go_wp2_with fail
  go_region_held3 (fun w' => KeepR R 24 49 w5 w') (first | assumption | exact KeepR.laid (by assumption) _ hal | (go_keep)) (first
    | (go_at_call 53; (with_reducible refine (hput.out va vc _ (fun i hi => by obtain ⟨q, h1, h2, h3, h4⟩ := hcell5.out i hi; exact ⟨q, h1, Nat.lt_of_lt_of_le h2 (KeepR.size hV1), KeepR.cell hV1 h2 h3 h4⟩)).mono ?_); rintro _ w6 ⟨rfl, hb6⟩; have hk6 : KeepR R 24 49 w5 w6 := KeepR.grow (by assumption) hb6))
  obtain ⟨k1, cs, k3, k4⟩ := hk6
  have hfin := whole_all k4 (vs := (appV (.agg (madeL (hdv a g s b) (.slice (some ⟨gg, 0, none⟩) (n + 1) cap) (.int .i64 ((E : Int) + (np : Int))) (.agg Y.toArray)).toArray) (.int .i64 (E : Int)) (.int .i64 0))) (by omega)
  have hk7 : Kept (fun q => q = R) w5 (w6.setCells R 0 (appV (.agg (madeL (hdv a g s b) (.slice (some ⟨gg, 0, none⟩) (n + 1) cap) (.int .i64 ((E : Int) + (np : Int))) (.agg Y.toArray)).toArray) (.int .i64 (E : Int)) (.int .i64 0))) := k1.setCells (c := R) (.inl rfl) 0 _
  have hRw : w.heap.size ≤ R := by have := hRR.out; omega
  have hb7 : Below w.heap.size w (w6.setCells R 0 (appV (.agg (madeL (hdv a g s b) (.slice (some ⟨gg, 0, none⟩) (n + 1) cap) (.int .i64 ((E : Int) + (np : Int))) (.agg Y.toArray)).toArray) (.int .i64 (E : Int)) (.int .i64 0))) := hB5.out.trans (hk7.below (Nat.le_of_lt hl0) (fun q hq => by rw [hq]; exact hRw))
  have hown7 := own_mono (own_of_kept hown5.out hk7 (fun q hq e => by
    have e2 : gg = q := by simpa [Value.ownBlock] using hq
    exact hneR (e2.trans e))) (Nat.le_trans (Nat.le_trans hRw (Nat.le_of_lt (by have := hRR.out; omega))) (Nat.le_refl w3.heap.size))
  go_wp2_with fail
  exact bodyPost_ret (result_cell Tryd.results18 rfl hfin.range Tryd.underlying49 rfl (by rw [hal]; exact sizeApp)) rfl ⟨some ⟨gg, 0, none⟩, cap, rfl, hown7, hb7⟩
end Go.Proofs.YtlgoepbfdldgnaaDoor.W
end
