/- A pool and the document's beside it, as the law keeps them. -/
import Derived.Test.YtoegohofmhijgaaPlW
import Derived.Test.YtoegohofmhijgaaPlActs
namespace Go.Proofs.Ytoegohofmhijgaa.W
open Go.RowKit Go.Sort
open Go.Proofs.Ytoegohofmhijgaa.M Go.Proofs.Ytoegohofmhijgaa.D Go.Proofs.Ytoegohofmhijgaa.Z
set_option linter.unusedVariables false

/-- The law's state: the pool (blocks pb, pa), the document's one in the variable of block wb. -/
structure PSt (wr : World) (q : Nat) (w : World) (pb pa wb B0 : Nat) (l : List Int) (ep ct r c : Nat) : Prop where
  pool : Pl wr pb pa l ep ct
  var_ : Whole wr wb 32 [.slice (some ⟨r, 0, none⟩) l.length c, .int .i64 (ep : Int), .int .i64 (ct : Int)]
  row : Rp wr B0 r l
  since : Below q w wr
  far : q ≤ pb ∧ q ≤ pa ∧ q ≤ wb ∧ pb < B0 ∧ pa < B0 ∧ B0 ≤ wb
theorem PSt.grow {wr wr' : World} {q : Nat} {w : World} {pb pa wb B0 : Nat} {l : List Int} {ep ct r c : Nat} (h : PSt wr q w pb pa wb B0 l ep ct r c) (hb : Below wr.heap.size wr wr') (hs : q ≤ wr.heap.size) : PSt wr' q w pb pa wb B0 l ep ct r c :=
  ⟨h.pool.grow hb, h.var_.below hb h.var_.lt, h.row.grow hb, h.since.trans (hb.mono hs), h.far⟩
theorem PSt.big {wr : World} {q : Nat} {w : World} {pb pa wb B0 : Nat} {l : List Int} {ep ct r c : Nat} (h : PSt wr q w pb pa wb B0 l ep ct r c) : B0 < wr.heap.size ∧ q < wr.heap.size := by
  have h1 := h.var_.lt
  have h2 := h.far
  omega
/-- Behind a call of the pool: the document's one is as it was. -/
structure PHalf (wr : World) (q : Nat) (w : World) (pb pa wb B0 : Nat) (l l' : List Int) (ep ct ct' r c : Nat) : Prop where
  pool : Pl wr pb pa l' ep ct'
  var_ : Whole wr wb 32 [.slice (some ⟨r, 0, none⟩) l.length c, .int .i64 (ep : Int), .int .i64 (ct : Int)]
  row : Rp wr B0 r l
  since : Below q w wr
  far : q ≤ pb ∧ q ≤ pa ∧ q ≤ wb ∧ pb < B0 ∧ pa < B0 ∧ B0 ≤ wb
theorem PSt.half {wr wr' : World} {q : Nat} {w : World} {pb pa wb B0 : Nat} {l l' : List Int} {ep ct ct' r c : Nat} (h : PSt wr q w pb pa wb B0 l ep ct r c) (hp : Pl wr' pb pa l' ep ct') (hk : Kept (Own2 pb pa) wr wr') : PHalf wr' q w pb pa wb B0 l l' ep ct ct' r c := by
  have hf := h.far
  have hb := h.big
  refine ⟨hp, h.var_.of_kept hk (fun e => by rcases e with e | e <;> omega), h.row.kept hf.2.2.2.1 hf.2.2.2.2.1 hk, kept_pl h.since (by omega) hf.1 hf.2.1 hk, hf⟩
theorem PHalf.grow {wr wr' : World} {q : Nat} {w : World} {pb pa wb B0 : Nat} {l l' : List Int} {ep ct ct' r c : Nat} (h : PHalf wr q w pb pa wb B0 l l' ep ct ct' r c) (hb : Below wr.heap.size wr wr') : PHalf wr' q w pb pa wb B0 l l' ep ct ct' r c :=
  ⟨h.pool.grow hb, h.var_.below hb h.var_.lt, h.row.grow hb, h.since.trans (hb.mono (by have := h.var_.lt; have := h.far; omega)), h.far⟩
/-- .. and behind the document's call, which is put into its variable. -/
theorem PHalf.full {wr : World} {q : Nat} {w : World} {pb pa wb B0 : Nat} {l l' : List Int} {ep ct ct' r c r' c' : Nat} (h : PHalf wr q w pb pa wb B0 l l' ep ct ct' r c) (hl : l'.length = l.length) (hr : Rp wr B0 r' l') (hne : r' ≠ wb) :
    PSt (wr.setCells wb 0 [.slice (some ⟨r', 0, none⟩) l.length c', .int .i64 (ep : Int), .int .i64 (ct' : Int)]) q w pb pa wb B0 l' ep ct' r' c' := by
  have hf := h.far
  have hk : Kept (fun x => x = wb) wr (wr.setCells wb 0 [.slice (some ⟨r', 0, none⟩) l.length c', .int .i64 (ep : Int), .int .i64 (ct' : Int)]) := (Kept.refl (fun x => x = wb) wr).setCells (c := wb) (.inl rfl) _ _
  refine ⟨⟨h.pool.box.of_kept hk (by omega), h.pool.row.of_kept hk (by omega)⟩, ?_, ⟨hr.lo, fun k o ho => ?_⟩, h.since.trans (hk.below (by have := h.var_.lt; omega) (fun x hx => by omega)), hf⟩
  · have e := whole_all h.var_ (vs := [.slice (some ⟨r', 0, none⟩) l.length c', .int .i64 (ep : Int), .int .i64 (ct' : Int)]) rfl
    rw [hl]
    exact e
  · have hc := hr.at_ k o ho
    have hb := hk.block r' (World.block_lt_of_cell? wr _ hc) hne
    rw [← hc]
    unfold World.cell?
    simp only [hb]
/-- The document's new row is not its variable. -/
theorem PHalf.ne {wr : World} {q : Nat} {w : World} {pb pa wb B0 : Nat} {l l' : List Int} {ep ct ct' r c r' : Nat} (h : PHalf wr q w pb pa wb B0 l l' ep ct ct' r c) (hr : Rp wr B0 r' l') (h0 : 0 < l'.length) : r' ≠ wb := by
  rintro rfl
  have h1 := hr.at_ 0 _ (List.getElem?_eq_getElem h0)
  have h2 : wr.cell? ⟨r', 0, none⟩ = some (.slice (some ⟨r, 0, none⟩) l.length c) := h.var_.cell 0
  rw [h1] at h2
  cases h2
theorem undrewP {W w' : World} (h : Below W.drew.heap.size W.drew w') : Below W.heap.size W w' := ⟨h.os, h.tape, h.output, h.size, h.block⟩
theorem ofP_len (l : List Int) (g : Int) (h : l.length ≤ 64) : (ofP l g).length ≤ 64 := by
  unfold ofP
  by_cases h0 : g = 0
  · rw [if_pos h0]; simp
  · rw [if_neg h0]; exact Nat.le_trans (ofL_le l g) h
theorem keepX {w w' : World} (h : Below w.heap.size w w') {a : Addr} {v : Value} (hc : w.cell? a = some v) : w'.cell? a = some v := (h.cell (World.block_lt_of_cell? w _ hc)).trans hc
theorem keepK {own : Nat → Prop} {w w' : World} (hk : Kept own w w') {b i : Nat} {v : Value} (hc : w.cell? ⟨b, i, none⟩ = some v) (ho : ¬ own b) : w'.cell? ⟨b, i, none⟩ = some v := by
  have hb := hk.block b (World.block_lt_of_cell? w _ hc) ho
  rw [← hc]
  unfold World.cell?
  simp only [hb]
end Go.Proofs.Ytoegohofmhijgaa.W
