/- The disk: how many writes a span has. The disk: a new one; a sector of one byte; a write that is let wait. The disk: a write that is let wait. -/
import Derived.Test.YtgogackkeodciabGreatDoorProg
import Derived.Test.YtgogackkeodciabGreatDoorDisk
import Derived.Lib.LazyBuf
import Derived.RowKit
import Derived.Deep.RegionLaw
section
namespace Go.Proofs.YtgogackkeodciabGreatDoor.D
open Go.RowKit
set_option linter.unusedVariables false

theorem stopLoad {P : Program} {w : World} {ops : Array Oper} {rest : List Oper} {o : Oper} {a : Act} {Q : Exit → Act → World → Prop} (t : TypeId) (x : Operand) (ho : o.op = .load t x) (h : Hid (wpList P ops Q (o :: rest) a w)) : wpList P ops Q (o :: rest) a w := h
theorem stopStore {P : Program} {w : World} {ops : Array Oper} {rest : List Oper} {o : Oper} {a : Act} {Q : Exit → Act → World → Prop} (t : TypeId) (x y : Operand) (ho : o.op = .store t x y) (h : Hid (wpList P ops Q (o :: rest) a w)) : wpList P ops Q (o :: rest) a w := h
theorem sizeWrite : (Tryz.prog.info? 163).map (·.size) = some 65 := by kernel_rfl
theorem sizeSector : (Tryz.prog.info? 161).map (·.size) = some 64 := by kernel_rfl
theorem wrow_len {p : Nat × List UInt8} (h : p.2.length = 64) : (wrow p).length = 65 := by simp [wrow, bytesV_len, h]
theorem wrow_one (p : Nat × List UInt8) : ∀ v ∈ wrow p, v.oneCell' = true := fun v hv => by
  rcases List.mem_cons.1 hv with rfl | h
  · rfl
  · exact bytesV_one _ v h
/-- A fresh variable that was stored into. -/
theorem fresh {w : World} {z : Array Value} {t : TypeId} {vs : List Value} (hz : z.size = vs.length) :
    Whole ((w.alloc (.cells z t)).setCells w.heap.size 0 vs) w.heap.size t vs ∧ Below w.heap.size w ((w.alloc (.cells z t)).setCells w.heap.size 0 vs) ∧ ((w.alloc (.cells z t)).setCells w.heap.size 0 vs).heap.size = w.heap.size + 1 := by
  have h0 : Whole (w.alloc (.cells z t)) w.heap.size t z.toList := by simpa using Whole.new w t z.toList
  have hl : z.toList.length = vs.length := by simpa using hz
  have h1 := h0.store 0 vs (by omega)
  have e : splice z.toList 0 vs = vs := by
    unfold splice
    rw [List.take_zero, List.nil_append, List.drop_eq_nil_of_le (by omega), List.append_nil]
  rw [e] at h1
  have k : Kept (fun _ => False) w ((w.alloc (.cells z t)).setCells w.heap.size 0 vs) := ((Kept.refl _ w).alloc _).setCells (.inr (Nat.le_refl _)) 0 vs
  exact ⟨h1, k.below (Nat.le_refl _) (fun _ h => h.elim), by rw [size_setCells]; simp⟩
theorem fresh_there {w : World} {z : Array Value} {t : TypeId} (n : Nat) (hz : z.size = n) : (w.alloc (.cells z t)).there w.heap.size 0 n := by
  have h0 : Whole (w.alloc (.cells z t)) w.heap.size t z.toList := by simpa using Whole.new w t z.toList
  exact h0.there 0 n (by simp [hz])

theorem grownOf {a w : World} (h : Below a.heap.size a w) (row : Option Nat) : a.grownBy w row := ⟨h.os, h.tape, h.output, h.size, fun i hi _ => h.block i hi⟩
theorem Dk.below {w w' : World} {d g : Nat} {v : Value} {lie : List (List UInt8)} {ws : List (Nat × List UInt8)} (h : Dk w d g v lie ws) (hb : Below w.heap.size w w') : Dk w' d g v lie ws :=
  ⟨h.obj.below hb h.obj.lt, h.lying.below hb h.lying.lt, h.wait.kept (grownOf hb none) (Classical.em _), h.lie64, h.ws64, h.some_, h.few, h.within⟩
theorem filter_snoc {p : Nat × List UInt8 → Bool} {ws : List (Nat × List UInt8)} {k : Nat} {q : Nat × List UInt8} (h : ws[k]? = some q) : (ws.take (k + 1)).filter p = (ws.take k).filter p ++ if p q then [q] else [] := by
  have hk : k < ws.length := (List.getElem?_eq_some_iff.1 h).1
  rw [List.take_succ_eq_append_getElem hk, (List.getElem?_eq_some_iff.1 h).2, List.filter_append]
  cases hp : p q <;> simp [hp]
theorem wpList_fresh {P : Program} {w : World} {ops : Array Oper} {rest : List Oper} {o : Oper} {a : Act} {Q : Exit → Act → World → Prop} (hgd : o.guard = none) (t : TypeId) (x y : Operand) (ho : o.op = .store t x y)
    (b : Nat) (hx : a.eval x = .pointer (some ⟨b, 0, none⟩)) (vs : List Value) (hy : a.eval y = .agg vs.toArray) (w0 : World) (z : Array Value) (hw : w = w0.alloc (.cells z t)) (hb : b = w0.heap.size) (hz : z.size = vs.length)
    (hi : (P.info? t).map (·.size) = some vs.length) (h1 : ∀ v ∈ vs, v.oneCell' = true)
    (h : ∀ w2, Whole w2 b t vs → Below w0.heap.size w0 w2 → w2.heap.size = w0.heap.size + 1 → wpList P ops Q rest (a.put o.dst undef) w2) : wpList P ops Q (o :: rest) a w := by
  subst hw
  subst hb
  obtain ⟨f1, f2, f3⟩ := fresh (w := w0) (t := t) hz
  refine wpList_store_mid hgd t x y ho w0.heap.size 0 vs.toArray hx hy (fresh_there _ (by simpa using hz)) (by simpa using hi) (all_oneCell_toArray h1) ?_
  exact h _ f1 f2 f3
section
variable (d g : Nat) (v : Value) (lie : List (List UInt8)) (ws : List (Nat × List UInt8)) (w : World)
/-- The rows of the waiting slice. -/
theorem Dk.rows {w : World} {d g k cap : Nat} {lie : List (List UInt8)} {ws : List (Nat × List UInt8)} (h : Dk w d g (.slice (some ⟨k, 0, none⟩) ws.length cap) lie ws) {m : Nat} {p : Nat × List UInt8} (hp : ws[m]? = some p) :
    w.rangeAt k (m * 65) (wrow p) ∧ p.2.length = 64 ∧ p.1 < lie.length := by
  have h64 := h.ws64 p (List.mem_of_getElem? hp)
  refine ⟨?_, h64, h.within p (List.mem_of_getElem? hp)⟩
  rcases h.form with ⟨h0, _⟩ | ⟨k', cap', cur, hv, hW, hle, hcap, hcur, htake⟩
  · cases h0
  cases hv
  intro j u hu
  have hj : j < 65 := by have := (List.getElem?_eq_some_iff.1 hu).1; rw [wrow_len h64] at this; exact this
  have e : (ws.map wrow).flatten[m * 65 + j]? = some u := by rw [flat_at h.evenW m j hj, List.getElem?_map, hp]; exact hu
  rw [← htake, List.getElem?_take] at e
  split at e
  · rw [hW.cell]; exact e
  · cases e

end
end Go.Proofs.YtgogackkeodciabGreatDoor.D
end
section
namespace Go.Proofs.YtgogackkeodciabGreatDoor.D
open Go.RowKit
set_option linter.unusedVariables false
attribute [local go_sem ↓] Go.wp_at_zero Go.wp_at_succ

theorem made_one (c : Value) (m k : Nat) (hk : 0 < k) : (madeCells (Array.replicate k c) m).toList = List.replicate m c := by
  apply List.ext_getElem?
  intro j
  by_cases hj : j < m
  · have hlt : j % k < k := Nat.mod_lt _ hk
    simp [madeCells, hj, hlt]
  · simp [madeCells, hj]
theorem infoSector : (Tryz.prog.info? 161).map (fun i => (i.zero, i.size, i.bytes)) = some (some (.agg (Array.replicate 64 (.int .u8 0))), 64, 64) := by kernel_rfl
theorem infoByte : (Tryz.prog.info? 5).map (fun i => (i.zero, i.size, i.bytes)) = some (some (.int .u8 0), 1, 1) := by kernel_rfl
theorem infoWrite : (Tryz.prog.info? 163).map (fun i => (i.zero, i.size, i.bytes)) = some (some (.agg (#[.int .i64 0] ++ Array.replicate 64 (.int .u8 0))), 65, 72) := by kernel_rfl
theorem run_make_rowN {P : Program} (t e : TypeId) (i : TypeInfo) (z : Value) (ht : P.underlying t = some (.slice e)) (hi : P.info? e = some i) (hz : i.zero = some z)
    (kl kc : IntKind) (n : Nat) (hbytes : i.bytes * n ≤ 281474976710656) (h63 : n ≤ 9223372036854775807) (w : World) :
    (Instr.makeSlice t (.int kl (n : Int)) (.int kc (n : Int))).run P w = .ok (.slice (some ⟨w.heap.size, 0, none⟩) n n) (w.alloc (.cells (madeCells z.cells (n * i.size)) e)) := by
  have hb : (i.bytes : Int) * (n : Int) ≤ 281474976710656 := by
    have h : ((i.bytes * n : Nat) : Int) ≤ 281474976710656 := by omega
    rwa [Int.natCast_mul] at h
  have hr := run_make (P := P) w t e i z ht hi hz kl kc n n (by omega) (by omega) hb (by omega)
  simp only [Int.toNat_natCast] at hr
  exact hr
theorem flat_zero : ∀ n : Nat, (((List.replicate n (List.replicate 64 (0 : UInt8))).map bytesV).flatten) = List.replicate (n * 64) (.int .u8 0)
  | 0 => by simp
  | n + 1 => by
    have ih := flat_zero n
    rw [List.replicate_succ, List.map_cons, List.flatten_cons, ih, Nat.succ_mul, Nat.add_comm, ← List.replicate_append_replicate]
    congr 1

/-- What lies on a new disk. -/
def zeros (n : Nat) : List (List UInt8) := List.replicate n (List.replicate 64 0)
/-- What New answers. -/
def NewDisk (w : World) (n : Nat) (e : Ending) (w' : World) : Prop :=
  e = .returned (.tuple #[.pointer (some ⟨w.heap.size + 1, 0, none⟩), .int .i64 0]) ∧ Dk w' (w.heap.size + 1) w.heap.size (.slice none 0 0) (zeros n) [] ∧ Below w.heap.size w w'
set_option maxRecDepth 100000 in
theorem new_in (n : Nat) (w : World) (h1 : 1 ≤ n) (h2 : n ≤ 8192) :
    Calls Tryz.prog 35 #[.int .i64 n] w (NewDisk w n) := by
  obtain ⟨i0, hi0, hz0, hz1, hz2⟩ := info_parts infoSector
  have hmk := fun W => run_make_rowN (P := Tryz.prog) 92 161 i0 _ Tryz.underlying92 hi0 hz0 .i64 .i64 n (by rw [hz2]; omega) (by omega) W
  rw [hz1, show (Value.agg (Array.replicate 64 (.int .u8 0))).cells = Array.replicate 64 (.int .u8 0) from rfl] at hmk
  obtain ⟨cs, hcs⟩ : ∃ cs, Hid (madeCells (Array.replicate 64 (Value.int .u8 0)) (n * 64) = cs) := ⟨_, Lib.hid rfl⟩
  rw [hcs.out] at hmk
  go_enter Tryz.func35, Tryz.ntmps35
  go_wp2_with fail
  clear hmk
  go_ret2
  have hl : cs.toList = ((zeros n).map bytesV).flatten := by rw [← hcs.out, made_one _ _ _ (by omega)]; exact (flat_zero n).symm
  have hlen : (zeros n).length = n := by simp [zeros]
  refine ⟨rfl, ⟨?_, ?_, ⟨by simp, .inl ⟨rfl, rfl⟩⟩, fun s hs => ?_, fun p hp => by simp at hp, by rw [hlen]; exact h1, by rw [hlen]; exact h2, fun p hp => by simp at hp⟩, (allocBelow w _).alloc (by simp) _⟩
  · rw [hlen]
    have := Whole.new (w.alloc (.cells cs 161)) 95 [.slice (some ⟨w.heap.size, 0, none⟩) n n, .slice none 0 0]
    simpa using this
  · rw [← hl]
    have := (Whole.new w 161 cs.toList).alloc (.cells #[.slice (some ⟨w.heap.size, 0, none⟩) n n, .slice none 0 0] 95)
    simpa using this
  · rw [zeros, List.mem_replicate] at hs
    rw [hs.2]; simp
theorem new_out (n : Int) (w : World) (h : n < 1 ∨ 8192 < n) :
    Calls Tryz.prog 35 #[.int .i64 n] w fun e w' => e = .returned (.tuple #[.pointer none, .int .i64 1]) ∧ w = w' := by
  by_cases h1 : n < 1
  · clear h
    go_enter Tryz.func35, Tryz.ntmps35
    go_wp2_with fail
    go_ret2
    exact ⟨rfl, rfl⟩
  · have h2 : 8192 < n := by omega
    have hd : decide (n < 1) = false := by simp; omega
    clear h h1
    go_enter Tryz.func35, Tryz.ntmps35
    go_wp2_with fail
    go_ret2
    exact ⟨rfl, rfl⟩

def fillL (c : UInt8) : List UInt8 := List.replicate 64 c
end Go.Proofs.YtgogackkeodciabGreatDoor.D
end
section
namespace Go.Proofs.YtgogackkeodciabGreatDoor.D
open Go.RowKit
set_option linter.unusedVariables false
attribute [local go_sem ↓] Go.wp_at_zero Go.wp_at_succ

theorem stopCopy {P : Program} {w : World} {ops : Array Oper} {rest : List Oper} {o : Oper} {a : Act} {Q : Exit → Act → World → Prop} (d s : Operand) (dT sT : TypeId)
    (ho : o.op = .call { callee := .builtin .copy, args := #[d, s], argTypes := #[dT, sT] }) (h : Hid (wpList P ops Q (o :: rest) a w)) : wpList P ops Q (o :: rest) a w := h
theorem sizeOf1 (w : World) : (Go.sizeOf 5).run Tryz.prog w = .ok 1 w := by kernel_rfl
/-- A string that is copied into a block. -/
theorem wpList_copy_text {w : World} {ops : Array Oper} {rest : List Oper} {o : Oper} {a : Act} {Q : Exit → Act → World → Prop} (hgd : o.guard = none) (d x : Operand)
    (ho : o.op = .call { callee := .builtin .copy, args := #[d, x], argTypes := #[71, 9] }) (b off dLen dCap : Nat) (hd : a.eval d = .slice (some ⟨b, off, none⟩) dLen dCap) (s : ByteArray) (hx : a.eval x = .string s) (hle : s.size ≤ dLen)
    (t : TypeId) (cs : List Value) (hW : Whole w b t cs) (hl : off + s.size ≤ cs.length)
    (h : ∀ w2, Whole w2 b t (splice cs off (bytesV s.data.toList)) → (∀ own : Nat → Prop, ∀ w0, (own b ∨ w0.heap.size ≤ b) → Kept own w0 w → Kept own w0 w2) → w2.heap.size = w.heap.size → wpList Tryz.prog ops Q rest (a.put o.dst (goInt s.size)) w2) :
    wpList Tryz.prog ops Q (o :: rest) a w := by
  refine wpList_plain hgd fun K hK => ?_
  have hth := hW.there off s.size hl
  have hrun := run_copy_string (P := Tryz.prog) w 71 9 o.type 5 b off dLen dCap s Tryz.underlying71 sizeOf1 hle (fun j hj => (hth j hj).1) (fun j hj => (hth j hj).2)
  unfold Oper.wp
  simp [execOp, ho, resolve, invoke, builtin, hd, hx, hrun, Result.andThen]
  have hsz : (bytesV s.data.toList).length = s.size := by rw [bytesV_len]; simp
  exact hK _ _ (h _ (hW.store off (bytesV s.data.toList) (by rw [hsz]; exact hl)) (fun own w0 hb hk => hk.setCells hb _ _) (size_setCells _ _ _ _))

/-- Its three blocks are apart. -/
theorem Dk.ne {w : World} {d g : Nat} {v : Value} {lie : List (List UInt8)} {ws : List (Nat × List UInt8)} (h : Dk w d g v lie ws) : d ≠ g ∧ some d ≠ v.ownBlock ∧ some g ≠ v.ownBlock := by
  refine ⟨h.obj.ne h.lying (by decide), fun e => ?_, fun e => ?_⟩
  · rcases h.form with ⟨rfl, _⟩ | ⟨k, cap, cur, rfl, hW, _⟩
    · cases e
    · have : d = k := by simpa [Value.ownBlock] using e
      subst this
      exact h.obj.ne hW (by decide) rfl
  · rcases h.form with ⟨rfl, _⟩ | ⟨k, cap, cur, rfl, hW, _⟩
    · cases e
    · have : g = k := by simpa [Value.ownBlock] using e
      subst this
      exact h.lying.ne hW (by decide) rfl
/-- The blocks of a disk. -/
def mine (d g : Nat) (v : Value) : Nat → Prop := fun k => k = d ∨ k = g ∨ v.ownBlock = some k
/-- What a call makes of a disk. -/
def Turned (w : World) (d g : Nat) (v : Value) (lie : List (List UInt8)) (ws : List (Nat × List UInt8)) (w' : World) : Prop :=
  ∃ v', Dk w' d g v' lie ws ∧ (∀ k, v'.ownBlock = some k → v.ownBlock = some k ∨ w.heap.size ≤ k) ∧ Kept (mine d g v) w w'
theorem wrow_splice (a : Nat) (s : List UInt8) (h : s.length = 64) : splice (wrow (a, List.replicate 64 0)) 1 (bytesV s) = wrow (a, s) := by
  unfold splice wrow
  rw [List.take_succ_cons, List.take_zero, show 1 + (bytesV s).length = 64 + 1 by rw [bytesV_len]; omega, List.drop_succ_cons, List.drop_eq_nil_of_le (by simp [bytesV])]
  simp

/-- A row of cells behind a pointer, as a region that draws its order reads it. -/
def readAt (w : World) (v : Value) (n : Nat) : List Value :=
  match v with
  | .pointer (some ⟨b, o, none⟩) => (List.range n).map fun j => (w.cell? ⟨b, o + j, none⟩).getD undef
  | _ => []
def hasAt (w : World) (v : Value) (n : Nat) : Prop := ∃ b o, v = .pointer (some ⟨b, o, none⟩) ∧ ∀ j, j < n → (w.cell? ⟨b, o + j, none⟩).isSome = true
theorem read_of {w : World} {b o n : Nat} {cs : List Value} (h : w.rangeAt b o cs) (hn : cs.length = n) : readAt w (.pointer (some ⟨b, o, none⟩)) n = cs := by
  apply List.ext_getElem?
  intro j
  by_cases hj : j < n
  · show ((List.range n).map fun j => (w.cell? ⟨b, o + j, none⟩).getD undef)[j]? = _
    rw [List.getElem?_map, List.getElem?_range hj, List.getElem?_eq_getElem (by omega)]
    simp [h j _ (List.getElem?_eq_getElem (by omega))]
  · show ((List.range n).map fun j => (w.cell? ⟨b, o + j, none⟩).getD undef)[j]? = _
    rw [List.getElem?_eq_none (by simp; omega), List.getElem?_eq_none (by omega)]
theorem has_of {w : World} {b o n : Nat} {cs : List Value} (h : w.rangeAt b o cs) (hn : cs.length = n) : hasAt w (.pointer (some ⟨b, o, none⟩)) n := ⟨b, o, rfl, fun j hj => by rw [h j _ (List.getElem?_eq_getElem (by omega))]; rfl⟩
theorem load_op (e : Operand → Value) (d : Option Tmp) (x : Operand) (ty : TypeId) (ps : String) (af : Array Edge) (gd : Option (Nat × Bool)) (w : World) (h : hasAt w (e x) 65) :
    (execOp e { dst := d, op := .load 163 x, type := ty, pos := ps, after := af, guard := gd }).run Tryz.prog w = .ok (.value (.agg (readAt w (e x) 65).toArray)) w := by
  obtain ⟨b, o, hx, hc⟩ := h
  have hr : w.rangeAt b o (readAt w (e x) 65) := fun j v hv => by
    rw [hx] at hv
    have hj : j < 65 := by have := (List.getElem?_eq_some_iff.1 hv).1; simpa [readAt] using this
    obtain ⟨u, hu⟩ := Option.isSome_iff_exists.1 (hc j hj)
    have e1 : (readAt w (.pointer (some ⟨b, o, none⟩)) 65)[j]? = some u := by
      show ((List.range 65).map fun j => (w.cell? ⟨b, o + j, none⟩).getD undef)[j]? = _
      rw [List.getElem?_map, List.getElem?_range hj]; simp [hu]
    rw [e1] at hv
    cases hv; exact hu
  have hl : (readAt w (e x) 65).length = 65 := by rw [hx]; simp [readAt]
  have := run_loadVar_mid (P := Tryz.prog) w b o 163 _ _ hr Tryz.underlying163 rfl (by rw [hl]; exact sizeWrite)
  unfold execOp
  simp only [hx] at this ⊢
  simp only [Instr.loadAt, Instr.sureAddr, Sem.run_bind, Sem.run_pure, Result.andThen_ok, this]

theorem fold_at : ∀ (l : List Value) (k : Nat) (b : Array Value), ((l.zipIdx k).foldl (fun cs x => cs.setIfInBounds x.2 x.1) b).size = b.size ∧ ∀ i, i < b.size → ((l.zipIdx k).foldl (fun cs x => cs.setIfInBounds x.2 x.1) b)[i]? = if k ≤ i ∧ i < k + l.length then l[i - k]? else b[i]?
  | [], k, b => ⟨rfl, fun i _ => by rw [if_neg (by simp)]; rfl⟩
  | c :: l, k, b => by
    obtain ⟨h1, h2⟩ := fold_at l (k + 1) (b.setIfInBounds k c)
    rw [List.zipIdx_cons, List.foldl_cons]
    refine ⟨by rw [h1]; simp, fun i hi => ?_⟩
    rw [h2 i (by simpa using hi)]
    by_cases c1 : k + 1 ≤ i ∧ i < k + 1 + l.length
    · rw [if_pos c1, if_pos (by simp; omega), show i - k = (i - (k + 1)) + 1 by omega, List.getElem?_cons_succ]
    · rw [if_neg c1]
      by_cases c2 : i = k
      · subst c2
        rw [if_pos (by simp)]
        simp [hi]
      · rw [if_neg (by simp; omega), Array.getElem?_setIfInBounds_ne (by omega)]
theorem fold_all (cs b : Array Value) (h : b.size = cs.size) : cs.zipIdx.foldl (fun (acc : Array Value) (x : Value × Nat) => acc.setIfInBounds (0 + x.2) x.1) b = cs := by
  obtain ⟨l⟩ := cs
  have e : ((⟨l⟩ : Array Value).zipIdx).foldl (fun (acc : Array Value) (x : Value × Nat) => acc.setIfInBounds (0 + x.2) x.1) b = (l.zipIdx 0).foldl (fun cs x => cs.setIfInBounds x.2 x.1) b := by
    simp
  rw [e]
  obtain ⟨h1, h2⟩ := fold_at l 0 b
  apply Array.ext_getElem?
  intro i
  by_cases hi : i < b.size
  · rw [h2 i hi, if_pos (by simp at h; omega)]; simp
  · rw [Array.getElem?_eq_none (by rw [h1]; omega), Array.getElem?_eq_none (by omega)]
theorem build_op (e : Operand → Value) (d : Option Tmp) (x : Operand) (ty : TypeId) (ps : String) (af : Array Edge) (gd : Option (Nat × Bool)) (w : World) (h : (e x).cells.size = 65) :
    (execOp e { dst := d, op := .buildSlice 93 1 #[(0, x)], type := ty, pos := ps, after := af, guard := gd }).run Tryz.prog w = .ok (.value (.slice (some ⟨w.heap.size, 0, none⟩) 1 1)) (w.alloc (.cells (e x).cells 163)) := by
  obtain ⟨i0, hi0, hz0, hz1, hz2⟩ := info_parts infoWrite
  have hf : ∀ b : Array Value, b.size = 65 → Instr.fill (fun i => some (i * 65, 65)) b [(0, e x)] = some (e x).cells := fun b hb => by
    unfold Instr.fill
    simp only []
    rw [if_neg (by rw [h, hb]; decide)]
    unfold Instr.fill
    rw [Nat.zero_mul]
    exact congrArg some (fold_all _ _ (by rw [hb, h]))
  obtain ⟨z, hz, hzs⟩ : ∃ z, i0.zero = some z ∧ z.cells.size = 65 := ⟨_, hz0, by simp [Value.cells]⟩
  clear hz0
  have hrun : (Instr.buildSlice 93 1 #[(0, e x)]).run Tryz.prog w = .ok (.slice (some ⟨w.heap.size, 0, none⟩) 1 1) (w.alloc (.cells (e x).cells 163)) := by
    have hzv : (zeroValue 163).run Tryz.prog w = .ok z w := by simp [zeroValue, typeInfo, hi0, hz]
    have hsv : (sizeOf 163).run Tryz.prog w = .ok 65 w := by simp [sizeOf, typeInfo, hi0, hz1]
    have h24 : ¬ (1 * 65 > 2 ^ 24) := by decide
    have h0 : ¬ (1 * 65 = 0) := by decide
    simp only [Instr.buildSlice, Sem.run_bind, run_underlying Tryz.underlying93, Result.andThen_ok, hsv, if_neg h24, if_neg h0, Sem.run_pure, hzv, hf _ (show ((Array.range (1 * 65)).map (z.cells[· % z.cells.size]!)).size = 65 by simp), newRow, newObj]
    rfl
  unfold execOp
  simp only [List.map_toArray, List.map_cons, List.map_nil, hrun, Sem.run_bind, Sem.run_pure, Result.andThen_ok]

theorem own_whole {w : World} {base : Nat} {e : TypeId} {size n gg cap : Nat} {xs : List Value} (h : w.ownsRow base e size (.slice (some ⟨gg, 0, none⟩) n cap) n xs) : ∃ cur, Whole w gg e cur := by
  rcases h.2 with ⟨h0, _⟩ | ⟨g', cap', cur, hv, _, hh, _⟩
  · cases h0
  · cases hv
    exact ⟨cur.toList, by simpa [Whole] using hh⟩
/-- What the statement d.waiting = append(d.waiting, w) leaves. -/
theorem written {w w3 w4 : World} {d g gg cap a : Nat} {v : Value} {lie : List (List UInt8)} {ws : List (Nat × List UInt8)} {s : List UInt8} {cs : List Value} {o : Obj} (h : Dk w d g v lie ws) (hd3 : Dk w3 d g v lie ws) (hb3 : Below w.heap.size w w3)
    (hgrow4 : (w3.drew.alloc o).grownBy w4 v.ownBlock) (hown4 : w4.ownsRow 0 163 65 (.slice (some ⟨gg, 0, none⟩) (ws.length + 1) cap) (ws.length + 1) ((ws.map wrow).flatten ++ cs)) (hat4 : v.ownBlock = some gg ∨ gg = w3.heap.size + 1)
    (hcs : cs = wrow (a, s)) (hs : s.length = 64) (ha : a < lie.length) : Turned w d g v lie (ws ++ [(a, s)]) (w4.setCell ⟨d, 1, none⟩ (.slice (some ⟨gg, 0, none⟩) (ws.length + 1) cap)) := by
  obtain ⟨n1, n2, n3⟩ := hd3.ne
  have hobj4 := (hd3.obj.alloc (w := w3.drew) o).kept hgrow4 n2
  have hly4 := (hd3.lying.alloc (w := w3.drew) o).kept hgrow4 n3
  obtain ⟨cur, hcur⟩ := own_whole hown4
  have hgd : gg ≠ d := hcur.ne hobj4 (by decide)
  have hk5 : Kept (fun k => k = d) w4 (w4.setCell ⟨d, 1, none⟩ (.slice (some ⟨gg, 0, none⟩) (ws.length + 1) cap)) := (Kept.refl (fun k => k = d) w4).setCell (c := d) (.inl rfl) 1 _
  refine ⟨.slice (some ⟨gg, 0, none⟩) (ws.length + 1) cap, ⟨?_, hly4.far (fun e => n1 e.symm) 1 [_], ?_, h.lie64, ?_, h.some_, h.few, ?_⟩, fun k hk => ?_, ?_⟩
  · exact hobj4.store 1 [_] (by simp)
  · have := own_of_kept hown4 hk5 (fun k hk e => by
      have e2 : gg = k := by simpa [Value.ownBlock] using hk
      exact hgd (e2.trans e))
    rw [List.length_append, List.map_append, List.flatten_append]
    simpa [hcs] using this
  · intro p hp
    rcases List.mem_append.1 hp with h1 | h1
    · exact h.ws64 p h1
    · have : p = (a, s) := by simpa using h1
      rw [this]; exact hs
  · intro p hp
    rcases List.mem_append.1 hp with h1 | h1
    · exact h.within p h1
    · have : p = (a, s) := by simpa using h1
      rw [this]; exact ha
  · have e2 : gg = k := by simpa [Value.ownBlock] using hk
    subst e2
    rcases hat4 with h1 | h1
    · exact .inl h1
    · exact .inr (by have := hb3.size; omega)
  · have k3 : Kept (mine d g v) w (w3.drew.alloc o) := ((Kept.of_below (own := mine d g v) hb3).drewN 1).alloc o
    exact (k3.grown hgrow4 (fun k hk => .inl (.inr (.inr hk)))).setCell (.inl (.inl rfl)) 1 _

attribute [local go_sem ↓] load_op build_op in
set_option maxRecDepth 100000 in
theorem write_in (d g : Nat) (v : Value) (lie : List (List UInt8)) (ws : List (Nat × List UInt8)) (w : World) (a : Nat) (s : ByteArray) (h : Dk w d g v lie ws) (ha : a < lie.length) (hs : s.size = 64) (hfew : ws.length ≤ 100000) :
    Calls Tryz.prog 110 #[.pointer (some ⟨d, 0, none⟩), .int .i64 a, .string s] w fun e w' => e = .returned (.int .i64 0) ∧ Turned w d g v lie (ws ++ [(a, s.data.toList)]) w' := by
  have hf := h.few
  have hsb : ((s.size : Int) != 64) = false := by rw [hs]; rfl
  obtain ⟨i0, hi0, hz0, hz1, hz2⟩ := info_parts infoWrite
  have hs2 := Lib.hid hs
  clear hs
  go_enter Tryz.func110, Tryz.ntmps110
  go_wp2_with fail
  refine (sector_in d g v lie ws _ a h ha).mono ?_
  rintro e w1 ⟨rfl, rfl⟩
  go_wp2_with (with_reducible refine stopStore 163 _ _ rfl ?_)
  refine Lib.hid ?_
  refine wpList_fresh rfl 163 _ _ rfl _ rfl (wrow (a, List.replicate 64 0)) rfl w _ rfl rfl rfl sizeWrite (wrow_one _) ?_
  intro w2 hbox hb2 hsz2
  go_wp2_with (with_reducible refine stopCopy _ _ _ _ rfl ?_)
  refine Lib.hid ?_
  refine wpList_copy_text rfl _ _ rfl w.heap.size 1 64 64 rfl s rfl (by rw [hs2.out]; exact Nat.le_refl _) 163 _ hbox (by rw [hs2.out, wrow_len (by simp)]; exact Nat.le_refl _) ?_
  intro w3 hbox3 hk3 hsz3
  have hl64 : s.data.toList.length = 64 := by have := hs2.out; simpa using this
  rw [wrow_splice a _ hl64] at hbox3
  have hb3 : Below w.heap.size w w3 := (hk3 (fun _ => False) w (.inr (Nat.le_refl _)) (Kept.of_below hb2)).below (Nat.le_refl _) (fun _ h => h.elim)
  have hd3 := h.below hb3
  have hc1 := hd3.c1
  have hown := Lib.hid hd3.wait
  have hr3 := hbox3.range
  have hfr := hd3.obj.frozen 1
  have hdlt := hd3.obj.lt
  have hwlt := h.obj.lt
  have hwsz : w.heap.size ≤ w3.heap.size := hb3.size
  have hu := Tryz.underlying163
  have h65 := wrow_len (p := (a, s.data.toList)) hl64
  have h1 := wrow_one (a, s.data.toList)
  obtain ⟨cs, hcs⟩ : ∃ cs, Hid (wrow (a, s.data.toList) = cs) := ⟨_, Lib.hid rfl⟩
  rw [hcs.out] at hr3 h65 h1 hbox3
  have hrd : ∀ w' : World, w'.rangeAt w.heap.size 0 cs → readAt w' (.pointer (some ⟨w.heap.size, 0, none⟩)) 65 = cs := fun w' h => read_of h h65
  have hrh : ∀ w' : World, w'.rangeAt w.heap.size 0 cs → hasAt w' (.pointer (some ⟨w.heap.size, 0, none⟩)) 65 := fun w' h => has_of h h65
  have hne : d ≠ w.heap.size := by omega
  have hobj := Lib.hid hd3.obj
  have hneD := Lib.hid hd3.ne.2.1
  clear hb2 hk3 hsz2 hbox hsz3
  go_wp2_with fail
  go_region_law
    ((refine step_append_lies _ (by rfl) _ _ _ (by rfl) 0 163 i0 _ 65 72 Tryz.underlying93 hi0 hz0 hz1 hz2 rfl (by omega) v ws.length _ (by rfl) (hown.out.drew.alloc _) _ 1 1 cs (by rfl) (by rw [h65]) (World.news_of_block (heap_alloc_new _ _)) h1 (by omega) (by unfold maxLen; omega) (by omega) (Nat.zero_le _) (w3.heap.size + 1) (by simp) ?_; intro gg cap w4 hown4 hgrow4 hat4 hlt4; have hobj4 := (hobj.out.alloc (w := w3.drew) (.cells cs.toArray 163)).kept hgrow4 hneD.out; have hc4 := hobj4.cell 1; have hf4 := hobj4.frozen 1; simp only [List.getElem?_cons_succ, List.getElem?_cons_zero] at hc4))
  all_goals
    go_wp2_with fail
    go_ret
    exact ⟨rfl, written h hd3 hb3 hgrow4 hown4 hat4 hcs.out.symm hl64 ha⟩
end Go.Proofs.YtgogackkeodciabGreatDoor.D
end
