/- Blocks of a law beside its view: a list of blocks, all apart; what a segment's calls, and a pool's, leave of it. Blocks of a law beside its view: what Create, Wipe, Seal of a segment, and a pool's Take and Give, leave of it. Package seglog's small calls. Package seglog's put: a frame into the last segment, or into a new one. Package seglog's put: a frame into a new segment. Package seglog's New, put and Append. -/
import Derived.Test.YtgogackkeodciabGreatDoorSegO
import Derived.Test.YtgogackkeodciabGreatDoorPlA
import Derived.Test.YtgogackkeodciabGreatDoorFrame
import Derived.Deep.Cut
import Derived.Deep.CutRange
import Derived.Deep.AppendLies
section
section
namespace Go.Proofs.YtgogackkeodciabGreatDoor.W
open Go.RowKit
open Go.Proofs.YtgogackkeodciabGreatDoor.M Go.Proofs.YtgogackkeodciabGreatDoor.D Go.Proofs.YtgogackkeodciabGreatDoor.Z
set_option linter.unusedVariables false

abbrev Bk := Nat × TypeId × List Value
/-- Blocks that were made since the world w0, all apart, of types that are no view's. -/
structure Blk (w0 W : World) (K : List Bk) : Prop where
  all : ∀ x ∈ K, Whole W x.1 x.2.1 x.2.2 ∧ plainT x.2.1 ∧ w0.heap.size ≤ x.1
  apart : (K.map (·.1)).Nodup
section
variable {w0 W W' : World} {K K' : List Bk}
theorem Blk.got (h : Blk w0 W K) {x : Bk} (hx : x ∈ K) : Whole W x.1 x.2.1 x.2.2 := (h.all x hx).1
theorem Blk.perm (h : Blk w0 W K) (hp : K.Perm K') : Blk w0 W K' := ⟨fun x hx => h.all x (hp.mem_iff.2 hx), (hp.map _).nodup_iff.1 h.apart⟩
theorem Blk.sub (h : Blk w0 W K) (hp : K'.Sublist K) : Blk w0 W K' := ⟨fun x hx => h.all x (hp.subset hx), h.apart.sublist (hp.map _)⟩
theorem Blk.nil (w0 W : World) : Blk w0 W [] := ⟨fun x hx => by simp at hx, List.nodup_nil⟩
theorem Blk.keep {own : Nat → Prop} (h : Blk w0 W K) (hk : Kept own W W') (ho : ∀ x ∈ K, ¬ own x.1) : Blk w0 W' K := ⟨fun x hx => ⟨(h.got hx).of_kept hk (ho x hx), (h.all x hx).2⟩, h.apart⟩
theorem Blk.below (h : Blk w0 W K) (hb : Below W.heap.size W W') : Blk w0 W' K := ⟨fun x hx => ⟨(h.got hx).below hb (h.got hx).lt, (h.all x hx).2⟩, h.apart⟩
theorem Blk.tk (h : Blk w0 W K) (hk : TK W W') : Blk w0 W' K := ⟨fun x hx => ⟨hk.2 _ _ _ (h.got hx) (h.all x hx).2.1.1 (h.all x hx).2.1.2.1 (h.all x hx).2.1.2.2.1 (h.all x hx).2.1.2.2.2, (h.all x hx).2⟩, h.apart⟩
theorem Blk.tail {x : Bk} (h : Blk w0 W (x :: K)) : Blk w0 W K := h.sub (List.sublist_cons_self _ _)
theorem Blk.ne {x y : Bk} (h : Blk w0 W (x :: K)) (hy : y ∈ K) : y.1 ≠ x.1 := by
  have h1 := h.apart
  rw [List.map_cons, List.nodup_cons] at h1
  exact fun e => h1.1 (by rw [← e]; exact List.mem_map_of_mem hy)
/-- A new block. -/
theorem Blk.new (h : Blk w0 W K) (hb : Below W.heap.size W W') {q : Nat} {t : TypeId} {cs : List Value} (hW : Whole W' q t cs) (hq : W.heap.size ≤ q) (ht : plainT t) (h0 : w0.heap.size ≤ W.heap.size) : Blk w0 W' ((q, t, cs) :: K) := by
  have h2 := h.below hb
  refine ⟨fun x hx => ?_, ?_⟩
  · rcases List.mem_cons.1 hx with rfl | hx
    · exact ⟨hW, ht, Nat.le_trans h0 hq⟩
    · exact h2.all x hx
  · rw [List.map_cons, List.nodup_cons]
    refine ⟨fun hm => ?_, h2.apart⟩
    obtain ⟨x, hx, e⟩ := List.mem_map.1 hm
    have := (h.got hx).lt
    simp only at e
    omega
/-- A block that is written. -/
theorem Blk.set {q : Nat} {t : TypeId} {cs cs' : List Value} (h : Blk w0 W ((q, t, cs) :: K)) (hk : Kept (fun r => r = q) W W') (hW : Whole W' q t cs') : Blk w0 W' ((q, t, cs') :: K) := by
  refine ⟨fun x hx => ?_, h.apart⟩
  rcases List.mem_cons.1 hx with rfl | hx
  · exact ⟨hW, (h.all _ List.mem_cons_self).2⟩
  · exact ⟨(h.got (List.mem_cons_of_mem _ hx)).of_kept hk (h.ne hx), (h.all x (List.mem_cons_of_mem _ hx)).2⟩
end
/-- A view and blocks beside it. -/
structure VB (w0 : World) (vb d g' : Nat) (lie : List (List UInt8)) (ws : List (Nat × List UInt8)) (from_ m : Nat) (steps : Int) (K : List Bk) (W : World) : Prop where
  view : SV w0 vb d g' lie ws from_ m (-1) steps false W
  blk : Blk w0 W K
section
variable {w0 W W' : World} {vb d g' from_ m : Nat} {lie : List (List UInt8)} {ws : List (Nat × List UInt8)} {steps : Int} {K K' : List Bk}
theorem VB.since (h : VB w0 vb d g' lie ws from_ m steps K W) : Below w0.heap.size w0 W := h.view.since
theorem VB.size (h : VB w0 vb d g' lie ws from_ m steps K W) : w0.heap.size ≤ W.heap.size := h.since.size
theorem VB.got (h : VB w0 vb d g' lie ws from_ m steps K W) {x : Bk} (hx : x ∈ K) : Whole W x.1 x.2.1 x.2.2 := h.blk.got hx
theorem VB.below (h : VB w0 vb d g' lie ws from_ m steps K W) (hb : Below W.heap.size W W') : VB w0 vb d g' lie ws from_ m steps K W' := ⟨h.view.below hb, h.blk.below hb⟩
theorem VB.perm (h : VB w0 vb d g' lie ws from_ m steps K W) (hp : K.Perm K') : VB w0 vb d g' lie ws from_ m steps K' W := ⟨h.view, h.blk.perm hp⟩
theorem VB.sub (h : VB w0 vb d g' lie ws from_ m steps K W) (hp : K'.Sublist K) : VB w0 vb d g' lie ws from_ m steps K' W := ⟨h.view, h.blk.sub hp⟩
theorem VB.new (h : VB w0 vb d g' lie ws from_ m steps K W) (hb : Below W.heap.size W W') {q : Nat} {t : TypeId} {cs : List Value} (hW : Whole W' q t cs) (hq : W.heap.size ≤ q) (ht : plainT t) : VB w0 vb d g' lie ws from_ m steps ((q, t, cs) :: K) W' := ⟨h.view.below hb, h.blk.new hb hW hq ht h.size⟩
/-- The view stays when plain blocks are written. -/
theorem SV.plain {own : Nat → Prop} (h : SV w0 vb d g' lie ws from_ m (-1) steps false W) (hk : Kept own W W') (ho : ∀ q, own q → w0.heap.size ≤ q ∧ ((∃ t cs, Whole W q t cs ∧ plainT t) ∨ W.heap.size ≤ q)) : SV w0 vb d g' lie ws from_ m (-1) steps false W' := by
  obtain ⟨v, k1, k2, k3⟩ := h
  refine ⟨v, Vw.of_seg k1 (hk.mono (own' := fun q => own q ∧ q < W.heap.size) (fun q hq ho => ⟨ho, hq⟩)) (fun q hq => ?_), k2, k3.trans (hk.below k3.size (fun q e => (ho q e).1))⟩
  rcases (ho q hq.1).2 with ⟨t, cs, h1, h2⟩ | h1
  · exact off_view k1 h1 h2.1 h2.2.1 h2.2.2.1 h2.2.2.2
  · have := hq.2; omega
theorem VB.set {q : Nat} {t : TypeId} {cs cs' : List Value} (h : VB w0 vb d g' lie ws from_ m steps ((q, t, cs) :: K) W) (hk : Kept (fun r => r = q) W W') (hW : Whole W' q t cs') : VB w0 vb d g' lie ws from_ m steps ((q, t, cs') :: K) W' := by
  obtain ⟨k1, k2, k3⟩ := h.blk.all _ List.mem_cons_self
  exact ⟨SV.plain h.view hk (fun r hr => by rw [hr]; exact ⟨k3, .inl ⟨_, _, k1, k2⟩⟩), h.blk.set hk hW⟩
end
/-- A segment's blocks. -/
structure Sr where
  (sb n a g s b : Nat)
  fs : List (Int × ByteArray)
  la : Option Addr
  lc : Nat
  rk : List Bk
  sl : Bool
def Sr.K (vb : Nat) (r : Sr) : List Bk := (r.sb, 112, sgL vb r.n r.a r.g r.s r.b (.slice r.la r.fs.length r.lc) (plc r.fs) r.sl) :: r.rk
structure Sr.Ok (r : Sr) : Prop where
  row : RowB r.la r.lc r.fs r.rk
  fr : ∀ f ∈ r.fs, FrOk f
  fits : plc r.fs ≤ 16
section
variable {w0 W W' : World} {vb d g' from_ m : Nat} {lie : List (List UInt8)} {ws : List (Nat × List UInt8)} {steps : Int} {K : List Bk} {r : Sr}
theorem RowB.slot {la : Option Addr} {lc : Nat} {fs : List (Int × ByteArray)} {K : List Bk} (h : RowB la lc fs K) : K.map (·.1) = ((Value.slice la 0 0).ownBlock).toList := by
  rcases h with ⟨_, rfl, _, rfl⟩ | ⟨q, cur, rfl, rfl, _⟩ <;> rfl
theorem Sr.sg (ho : r.Ok) (h : ∀ x ∈ r.K vb, Whole W x.1 x.2.1 x.2.2) : Sg W r.sb vb r.n r.a r.g r.s r.b r.la r.lc r.fs (plc r.fs) r.sl := by
  refine ⟨h _ List.mem_cons_self, ho.row.own (fun x hx => h x (List.mem_cons_of_mem _ hx)), fun e => ?_⟩
  rcases ho.row with ⟨_, h1, _⟩ | ⟨q, cur, _, _, h1, _⟩
  · exact h1
  · rw [e] at h1; exact absurd h1 (by decide)
theorem Sr.of (ho : r.Ok) {q : Nat} : ofS r.sb r.la q ↔ q ∈ (r.K vb).map (·.1) := by
  unfold Sr.K ofS
  rw [List.map_cons, List.mem_cons, ho.row.slot, Option.mem_toList]
theorem VB.sg (h : VB w0 vb d g' lie ws from_ m steps (r.K vb ++ K) W) (ho : r.Ok) : Sg W r.sb vb r.n r.a r.g r.s r.b r.la r.lc r.fs (plc r.fs) r.sl := Sr.sg ho (fun x hx => h.got (List.mem_append_left _ hx))
theorem VB.old (h : VB w0 vb d g' lie ws from_ m steps (r.K vb ++ K) W) (ho : r.Ok) : ∀ q, ofS r.sb r.la q → w0.heap.size ≤ q := fun q hq => by
  obtain ⟨x, hx, e⟩ := List.mem_map.1 ((Sr.of (vb := vb) ho).1 hq)
  rw [← e]
  exact (h.blk.all x (List.mem_append_left _ hx)).2.2
theorem VB.off (h : VB w0 vb d g' lie ws from_ m steps (r.K vb ++ K) W) (ho : r.Ok) : ∀ x ∈ K, ¬ ofS r.sb r.la x.1 := fun x hx hq => by
  have h1 := (Sr.of (vb := vb) ho).1 hq
  have h2 := h.blk.apart
  rw [List.map_append, List.nodup_append] at h2
  exact h2.2.2 _ h1 _ (List.mem_map_of_mem hx) rfl
theorem wrong_ok {E : Nat} {k : Int} {p : ByteArray} (h : FrOk (k, p)) (h2 : 1 ≤ plS E ∧ plS E < 16) : wrongF ((plS E : Nat) : Int) k p.size = 0 := by
  obtain ⟨z1, z2, z3⟩ := h
  simp only at z1 z2 z3
  unfold wrongF
  rw [if_neg (by omega), if_neg (by omega)]
/-- A frame is put into the view, behind those of a segment. -/
theorem VB.append (k : Int) (p : ByteArray) (h : VB w0 vb d g' lie ws from_ m steps (r.K vb ++ K) W) (ho : r.Ok) (hsl : r.sl = false) (hr : Room from_ m r.n) (hs : r.s < 4294967296) (hf : FrOk (k, p)) (hp : plc r.fs + pcsN p.size ≤ 16) (h0 : 0 ≤ steps) (h1 : steps ≤ 900000) (hw : ws.length ≤ 90000) :
    Calls Tryz.prog 75 #[.pointer (some ⟨r.sb, 0, none⟩), .agg #[.int .i64 k, .string p]] W fun e w' => e = .returned (.tuple #[.int .i64 (plc r.fs : Int), .int .i64 0]) ∧
      ∃ la' lc' rk', ({ r with fs := r.fs ++ [(k, p)], la := la', lc := lc', rk := rk' } : Sr).Ok ∧
        VB w0 vb d g' lie (ws ++ putW from_ r.n r.s (r.fs.length + 2) (plc r.fs) (encF (r.s : Int) (plc r.fs : Int) k p.data.toList) (pcsN p.size)) from_ m (steps + pcsN p.size) (({ r with fs := r.fs ++ [(k, p)], la := la', lc := lc', rk := rk' } : Sr).K vb ++ K) w' := by
  have hS := h.sg ho
  rw [hsl] at hS
  have hlen := plc_len r.fs
  have hfit := ho.fits
  have hpos := pcs_pos p.size
  have hc : wrongF ((plS (plc r.fs) : Nat) : Int) k p.size = 0 := wrong_ok hf (by unfold plS; omega)
  refine (fa_append_yes k p (pcsN p.size) h.view hS (h.old ho) hr hs (by omega) (by omega) (by omega) hc rfl (.inl (by decide)) (by decide) (by decide) h0 h1 hw).mono ?_
  rintro e w' ⟨r1, r2, fa', fc', r3, r4, r5⟩
  refine ⟨r1, fa', fc', ?_⟩
  have hne : 0 < (r.fs ++ [(k, p)]).length := by rw [List.length_append, List.length_singleton]; omega
  obtain ⟨rk', k1, k2⟩ := RowB.of_own (B := 0) hne r3.own
  have e3 := plc_snoc r.fs (k, p)
  refine ⟨rk', ⟨k1, fun f hf2 => ?_, by show plc (r.fs ++ [(k, p)]) ≤ 16; rw [e3]; exact hp⟩, ?_, ?_⟩
  · rcases List.mem_append.1 hf2 with h2 | h2
    · exact ho.fr f h2
    · obtain rfl := List.mem_singleton.1 h2
      exact hf
  · have : fuseJ (-1) (pcsN p.size) = -1 := by unfold fuseJ; rw [if_pos (by decide)]
    rw [this] at r2
    exact r2
  · have hso : ∀ x ∈ rk', ofS r.sb r.la x.1 ∨ W.heap.size ≤ x.1 := fun x hx => r4 x.1 (.inr (by
      have h2 : x.1 ∈ rk'.map (·.1) := List.mem_map_of_mem hx
      rw [k1.slot] at h2
      exact Option.mem_toList.1 h2))
    have hobj : Whole w' r.sb 112 (sgL vb r.n r.a r.g r.s r.b (.slice fa' (r.fs ++ [(k, p)]).length fc') (plc (r.fs ++ [(k, p)])) r.sl) := by
      have h2 := r3.obj
      rw [hsl, e3]
      exact h2
    have hKw : ∀ x ∈ K, Whole w' x.1 x.2.1 x.2.2 := fun x hx => by
      obtain ⟨q1, q2, q3⟩ := h.blk.all x (List.mem_append_right _ hx)
      exact r5.2 _ _ _ q1 q2.1 q2.2.1 q2.2.2.1 q2.2.2.2 (h.off ho x hx)
    refine ⟨fun x hx => ?_, ?_⟩
    · rcases List.mem_append.1 hx with hx | hx
      · rcases List.mem_cons.1 hx with rfl | hx
        · exact ⟨hobj, by show plainT 112; decide, h.old ho r.sb (.inl rfl)⟩
        · refine ⟨(k2 x hx).1, (k2 x hx).2.2, ?_⟩
          rcases hso x hx with e | e
          · exact h.old ho _ e
          · exact Nat.le_trans h.size e
      · exact ⟨hKw x hx, (h.blk.all x (List.mem_append_right _ hx)).2⟩
    · have hap := h.blk.apart
      rw [List.map_append, List.nodup_append] at hap
      rw [List.map_append, List.nodup_append]
      refine ⟨?_, hap.2.1, ?_⟩
      · show ((r.sb :: rk'.map (·.1)).Nodup)
        rw [List.nodup_cons]
        refine ⟨fun hm => ?_, ?_⟩
        · obtain ⟨x, hx, e⟩ := List.mem_map.1 hm
          have h2 := (k2 x hx).1
          rw [k1.types x hx, e] at h2
          exact hobj.ne h2 (by decide) rfl
        · rw [k1.slot]
          cases (Value.slice fa' 0 0).ownBlock <;> simp
      · intro q hq y hy
        obtain ⟨x, hx, rfl⟩ := List.mem_map.1 hy
        have hlt := (h.got (List.mem_append_right _ hx)).lt
        rcases List.mem_cons.1 hq with rfl | hq
        · intro e
          exact h.off ho x hx (.inl e.symm)
        · obtain ⟨z, hz, rfl⟩ := List.mem_map.1 hq
          intro e
          rcases hso z hz with h2 | h2
          · exact h.off ho x hx (by rw [← e]; exact h2)
          · omega
end
end Go.Proofs.YtgogackkeodciabGreatDoor.W
end
section
namespace Go.Proofs.YtgogackkeodciabGreatDoor.W
open Go.RowKit
open Go.Proofs.YtgogackkeodciabGreatDoor.M Go.Proofs.YtgogackkeodciabGreatDoor.D Go.Proofs.YtgogackkeodciabGreatDoor.Z
set_option linter.unusedVariables false
section
variable {w0 W W' : World} {vb d g' from_ m : Nat} {lie : List (List UInt8)} {ws : List (Nat × List UInt8)} {steps : Int} {K : List Bk} {r : Sr}
/-- A segment that was just made. -/
def Sr.made (sb n a g s b : Nat) : Sr := ⟨sb, n, a, g, s, b, [], none, 0, [], false⟩
theorem Sr.made_ok (sb n a g s b : Nat) : (Sr.made sb n a g s b).Ok := ⟨.inl ⟨rfl, rfl, rfl, rfl⟩, fun f hf => by simp [Sr.made] at hf, by show (1 : Nat) ≤ 16; decide⟩
set_option maxRecDepth 100000 in
theorem VB.create (n a g s b : Nat) (h : VB w0 vb d g' lie ws from_ m steps K W) (hr : Room from_ m n) (hT : Wide W) (ha1 : 1 ≤ a) (ha : a < 65536) (hg : g < 4294967296) (hs : s < 4294967296) (hb : b ≤ 1099511627776) (h0 : 0 ≤ steps) (h1 : steps ≤ 900000) (hw : ws.length ≤ 90000) :
    Calls Tryz.prog 87 #[.pointer (some ⟨vb, 0, none⟩), .int .i64 (n : Int), .agg #[.int .i64 (a : Int), .int .u32 (g : Int), .int .u32 (s : Int), .int .i64 (b : Int)]] W fun e w' => ∃ sb, e = .returned (.tuple #[.pointer (some ⟨sb, 0, none⟩), .int .i64 0]) ∧
      VB w0 vb d g' lie (ws ++ putW from_ n s 1 0 (headerL a g s b) 1) from_ m (steps + 1) ((Sr.made sb n a g s b).K vb ++ K) w' := by
  obtain ⟨hr1, hr2⟩ := hr.fits
  obtain ⟨q, q1, q2, q3⟩ := hr.q
  obtain ⟨hV, hK⟩ := h
  obtain ⟨v, k1, k2, k3⟩ := id hV
  refine (create_by n q a g s b 0 (fun j W' => (if j = 0 then SV w0 vb d g' lie ws from_ m (-1) steps false W' else SV w0 vb d g' lie (ws ++ putW from_ n s 1 0 (headerL a g s b) 1) from_ m (-1) (steps + 1) false W') ∧ Blk w0 W' K) k1 q1 q2 q3 hT ha1 ha hg hs hb ⟨hV, hK⟩ ?_ ?_ ?_).mono ?_
  · rintro j W1 W2 ⟨h1, h3⟩ h2
    refine ⟨?_, h3.below h2⟩
    show if j = 0 then _ else _
    split
    · rename_i e; rw [if_pos e] at h1; exact h1.below h2
    · rename_i e; rw [if_neg e] at h1; exact h1.below h2
  · rintro j W1 W2 sb cs ⟨h1, h5⟩ h2 h3 h4
    refine ⟨?_, h5.keep h4 (fun x hx e => by have := (hK.got hx).lt; omega)⟩
    show if j = 0 then _ else _
    split
    · rename_i e; rw [if_pos e] at h1; exact h1.one h2 (Nat.le_trans k3.size h3) h4
    · rename_i e; rw [if_neg e] at h1; exact h1.one h2 (Nat.le_trans k3.size h3) h4
  · rintro W1 ⟨h2, h5⟩
    refine (sv_writeK (2 + 16 * n + (0 + 0)) (B (sealL s 1 (pcL (headerL a g s b) 0))) h2 (by omega) (by rw [B_size, sealL_len, pcL_len]) (by omega) h0 (by omega) (by omega) (by omega) (by omega)).mono ?_
    rintro e w' ⟨r1, r2, r3⟩
    rw [if_neg (by omega), B_data] at r2
    exact ⟨r1, ⟨r2, h5.tk r3⟩, r3⟩
  · rintro e w' (⟨r1, _⟩ | ⟨_, r2, ⟨r3, r5⟩, r4⟩)
    · exact absurd rfl r1
    · refine ⟨_, r2, r3, fun x hx => ?_, ?_⟩
      · rcases List.mem_append.1 hx with hx | hx
        · obtain rfl := List.mem_singleton.1 hx
          exact ⟨r4.obj, by show plainT 112; decide, by show w0.heap.size ≤ W.heap.size + 1; have := k3.size; omega⟩
        · exact r5.all x hx
      · show ((W.heap.size + 1) :: K.map (·.1)).Nodup
        rw [List.nodup_cons]
        refine ⟨fun hm => ?_, r5.apart⟩
        obtain ⟨x, hx, e⟩ := List.mem_map.1 hm
        have := (hK.got hx).lt
        omega
theorem VB.wipe (n : Nat) (h : VB w0 vb d g' lie ws from_ m steps K W) (hr : Room from_ m n) (h0 : 0 ≤ steps) (h1 : steps ≤ 900000) (hw : ws.length ≤ 90000) :
    Calls Tryz.prog 76 #[.pointer (some ⟨vb, 0, none⟩), .int .i64 (n : Int)] W fun e w' => e = .returned (.int .i64 0) ∧ VB w0 vb d g' lie (ws ++ [(from_ + (2 + 16 * n + 0), List.replicate 64 0)]) from_ m (steps + 1) K w' := by
  obtain ⟨hr1, hr2⟩ := hr.fits
  obtain ⟨q, q1, q2, q3⟩ := hr.q
  obtain ⟨hV, hK⟩ := h
  obtain ⟨v, k1, k2, k3⟩ := id hV
  refine (wipe_by n q 0 (fun j W' => (if j = 0 then SV w0 vb d g' lie ws from_ m (-1) steps false W' else SV w0 vb d g' lie (ws ++ [(from_ + (2 + 16 * n + 0), List.replicate 64 0)]) from_ m (-1) (steps + 1) false W') ∧ Blk w0 W' K) k1 q1 q2 q3 ⟨hV, hK⟩ ?_ ?_).mono ?_
  · rintro j W1 W2 ⟨h1, h3⟩ h2
    refine ⟨?_, h3.below h2⟩
    show if j = 0 then _ else _
    split
    · rename_i e; rw [if_pos e] at h1; exact h1.below h2
    · rename_i e; rw [if_neg e] at h1; exact h1.below h2
  · rintro W1 ⟨h2, h5⟩
    refine (sv_writeK (2 + 16 * n + 0) (zerosB 64) h2 (by omega) (zerosB_size 64) (by omega) h0 (by omega) (by omega) (by omega) (by omega)).mono ?_
    rintro e w' ⟨r1, r2, r3⟩
    rw [if_neg (by omega)] at r2
    exact ⟨r1, r2, h5.tk r3⟩
  · rintro e w' ⟨r1, r2, r3⟩
    exact ⟨r1, r2, r3⟩
theorem VB.sealed (h : VB w0 vb d g' lie ws from_ m steps (r.K vb ++ K) W) :
    Calls Tryz.prog 50 #[.pointer (some ⟨r.sb, 0, none⟩)] W fun e w' => e = .returned (.tuple #[]) ∧ VB w0 vb d g' lie ws from_ m steps (({ r with sl := true } : Sr).K vb ++ K) w' := by
  refine (doSeal_any r.sb vb r.n r.a r.g r.s r.b (plc r.fs) (.slice r.la r.fs.length r.lc) r.sl W (h.got (x := (r.sb, 112, sgL vb r.n r.a r.g r.s r.b (.slice r.la r.fs.length r.lc) (plc r.fs) r.sl)) (List.mem_append_left _ List.mem_cons_self))).mono ?_
  rintro e w' ⟨r1, r2, r3⟩
  exact ⟨r1, VB.set (K := r.rk ++ K) h r3 r2⟩
/-- A pool's blocks. -/
def plK (b a : Nat) (l : List Int) (ep ct : Nat) : List Bk := [(b, 63, [.slice (some ⟨a, 0, none⟩) l.length l.length, .int .i64 (ep : Int), .int .i64 (ct : Int)]), (a, 3, rowP l)]
theorem VB.pool {b a : Nat} {l : List Int} {ep ct : Nat} (h : VB w0 vb d g' lie ws from_ m steps (plK b a l ep ct ++ K) W) : Pl W b a l ep ct := ⟨h.got (List.mem_append_left _ List.mem_cons_self), h.got (List.mem_append_left _ (List.mem_cons_of_mem _ List.mem_cons_self))⟩
theorem VB.pooled {b a : Nat} {l l' : List Int} {ep ct ct' : Nat} (h : VB w0 vb d g' lie ws from_ m steps (plK b a l ep ct ++ K) W) (hp : Pl W' b a l' ep ct') (hk : Kept (Own2 b a) W W') : VB w0 vb d g' lie ws from_ m steps (plK b a l' ep ct' ++ K) W' := by
  have hb := h.blk.all _ (List.mem_append_left K (List.mem_cons_self : (b, 63, [.slice (some ⟨a, 0, none⟩) l.length l.length, .int .i64 (ep : Int), .int .i64 (ct : Int)]) ∈ plK b a l ep ct))
  have ha := h.blk.all _ (List.mem_append_left K (List.mem_cons_of_mem _ List.mem_cons_self : (a, 3, rowP l) ∈ plK b a l ep ct))
  have hap := h.blk.apart
  rw [List.map_append, List.nodup_append] at hap
  refine ⟨SV.plain h.view hk (fun q hq => ?_), fun x hx => ?_, ?_⟩
  · rcases hq with rfl | rfl
    · exact ⟨hb.2.2, .inl ⟨_, _, hb.1, hb.2.1⟩⟩
    · exact ⟨ha.2.2, .inl ⟨_, _, ha.1, ha.2.1⟩⟩
  · rcases List.mem_append.1 hx with hx | hx
    · rcases List.mem_cons.1 hx with rfl | hx
      · exact ⟨hp.box, hb.2⟩
      · obtain rfl := List.mem_singleton.1 hx
        exact ⟨hp.row, ha.2⟩
    · refine ⟨(h.got (List.mem_append_right _ hx)).of_kept hk (fun hq => ?_), (h.blk.all x (List.mem_append_right _ hx)).2⟩
      have hm : x.1 ∈ K.map (·.1) := List.mem_map_of_mem hx
      rcases hq with e | e
      · exact hap.2.2 b (by simp [plK]) _ hm e.symm
      · exact hap.2.2 a (by simp [plK]) _ hm e.symm
  · rw [List.map_append, List.nodup_append]
    exact hap
end
end Go.Proofs.YtgogackkeodciabGreatDoor.W
end
section
namespace Go.Proofs.YtgogackkeodciabGreatDoor.W
open Go.RowKit
open Go.Proofs.YtgogackkeodciabGreatDoor.M Go.Proofs.YtgogackkeodciabGreatDoor.D Go.Proofs.YtgogackkeodciabGreatDoor.Z
set_option linter.unusedVariables false

/-- A log's object, as cells. -/
abbrev lgL (vb pb id gen : Nat) (A : Option Addr) (n c nx : Nat) : List Value := [.pointer (some ⟨vb, 0, none⟩), .pointer (some ⟨pb, 0, none⟩), .int .i64 (id : Int), .int .u32 (gen : Int), .slice A n c, .int .i64 (nx : Int)]
set_option maxRecDepth 100000 in
theorem check_any (k : Int) (p : ByteArray) (w : World) (hp : p.size ≤ 1000000) :
    Calls Tryz.prog 52 #[.agg #[.int .i64 k, .string p]] w fun e w' => e = .returned (.int .i64 (wrongF 1 k p.size)) ∧ Below w.heap.size w w' := by
  have hB := Lib.hid (allocBelow w (.cells #[.int .i64 k, .string p] 36))
  by_cases h1 : k < 1
  · rw [wrongF_arg (.inl h1)]
    go_enter Tryz.func52, Tryz.ntmps52
    go_wp2_with fail
    go_ret
    exact ⟨rfl, hB.out⟩
  · by_cases h2 : 255 < k
    · rw [wrongF_arg (.inr (.inl h2))]
      go_enter Tryz.func52, Tryz.ntmps52
      go_wp2_with fail
      go_ret
      exact ⟨rfl, hB.out⟩
    · have hno : ¬ (k < 1 ∨ 255 < k ∨ ¬ ((1 : Int) ≤ 1 ∧ (1 : Int) < 16)) := by omega
      by_cases h3 : 773 < p.size
      · rw [wrongF_long hno h3]
        have h4 : (773 : Int) < (p.size : Int) := by omega
        clear hno
        go_enter Tryz.func52, Tryz.ntmps52
        go_wp2_with fail
        go_ret
        exact ⟨rfl, hB.out⟩
      · rw [wrongF_no hno h3]
        have h4 : (p.size : Int) ≤ 773 := by omega
        clear hno
        go_enter Tryz.func52, Tryz.ntmps52
        go_wp2_with fail
        go_ret
        exact ⟨rfl, hB.out⟩
theorem last_none (lb c : Nat) (A : Option Addr) (w : World) (c4 : w.cell? ⟨lb, 4, none⟩ = some (.slice A 0 c)) :
    Calls Tryz.prog 74 #[.pointer (some ⟨lb, 0, none⟩)] w fun e w' => e = .returned (.pointer none) ∧ w = w' := by
  go_enter Tryz.func74, Tryz.ntmps74
  go_wp2_with fail
  go_ret
  exact ⟨rfl, rfl⟩
set_option maxRecDepth 100000 in
theorem last_some (lb q n c : Nat) (v : Value) (w : World) (hn : n < 100000) (c4 : w.cell? ⟨lb, 4, none⟩ = some (.slice (some ⟨q, 0, none⟩) (n + 1) c)) (cq : w.cell? ⟨q, n, none⟩ = some v) :
    Calls Tryz.prog 74 #[.pointer (some ⟨lb, 0, none⟩)] w fun e w' => e = .returned v ∧ Below w.heap.size w w' := by
  obtain ⟨m, hm⟩ : ∃ m, Hid (n + 1 = m) := ⟨_, Lib.hid rfl⟩
  rw [hm.out] at c4
  have h1 : IntKind.i64.wrap ((m : Int) - 1) = (n : Int) := by rw [IntWalk.i64_in _ (by have := hm.out; omega)]; have := hm.out; omega
  have h2 : (n : Int) < (m : Int) := by have := hm.out; omega
  have h3 : ((m : Int) == 0) = false := by have := hm.out; simp; omega
  have h4 : m ≠ 0 := by have := hm.out; omega
  have h5 : ¬ (m : Int) = 0 := by omega
  have hD := drewBelow w
  have cd : w.drew.cell? ⟨q, n, none⟩ = some v := cq
  have c4d : w.drew.cell? ⟨lb, 4, none⟩ = some (.slice (some ⟨q, 0, none⟩) m c) := c4
  go_enter Tryz.func74, Tryz.ntmps74
  go_wp2_with fail
  go_region
  all_goals
    go_wp2_with fail
    go_ret
    exact ⟨rfl, hD⟩
theorem next_any (lb : Nat) (v : Value) (w : World) (c5 : w.cell? ⟨lb, 5, none⟩ = some v) :
    Calls Tryz.prog 31 #[.pointer (some ⟨lb, 0, none⟩)] w fun e w' => e = .returned v ∧ w = w' := by
  go_enter Tryz.func31, Tryz.ntmps31
  go_wp2_with fail
  go_ret
  exact ⟨rfl, rfl⟩
theorem id_any (lb : Nat) (v : Value) (w : World) (c2 : w.cell? ⟨lb, 2, none⟩ = some v) :
    Calls Tryz.prog 24 #[.pointer (some ⟨lb, 0, none⟩)] w fun e w' => e = .returned v ∧ w = w' := by
  go_enter Tryz.func24, Tryz.ntmps24
  go_wp2_with fail
  go_ret
  exact ⟨rfl, rfl⟩
theorem gen_any (lb : Nat) (v : Value) (w : World) (c3 : w.cell? ⟨lb, 3, none⟩ = some v) :
    Calls Tryz.prog 25 #[.pointer (some ⟨lb, 0, none⟩)] w fun e w' => e = .returned v ∧ w = w' := by
  go_enter Tryz.func25, Tryz.ntmps25
  go_wp2_with fail
  go_ret
  exact ⟨rfl, rfl⟩
theorem base_none (lb c : Nat) (A : Option Addr) (v : Value) (w : World) (c4 : w.cell? ⟨lb, 4, none⟩ = some (.slice A 0 c)) (c5 : w.cell? ⟨lb, 5, none⟩ = some v) :
    Calls Tryz.prog 30 #[.pointer (some ⟨lb, 0, none⟩)] w fun e w' => e = .returned v ∧ w = w' := by
  have hn := Lib.hid (next_any lb v w c5)
  go_enter Tryz.func30, Tryz.ntmps30
  go_wp2_with fail
  refine hn.out.mono ?_
  rintro _ w1 ⟨rfl, rfl⟩
  go_wp2_with fail
  go_ret
  exact ⟨rfl, rfl⟩
set_option maxRecDepth 100000 in
theorem base_some (lb q n c : Nat) (sb vb sn a g s b E : Nat) (fv : Value) (sl : Bool) (w : World) (hn : 0 < n) (c4 : w.cell? ⟨lb, 4, none⟩ = some (.slice (some ⟨q, 0, none⟩) n c)) (cq : w.cell? ⟨q, 0, none⟩ = some (.pointer (some ⟨sb, 0, none⟩)))
    (hS : Whole w sb 112 (sgL vb sn a g s b fv E sl)) :
    Calls Tryz.prog 30 #[.pointer (some ⟨lb, 0, none⟩)] w fun e w' => e = .returned (.int .i64 (b : Int)) ∧ Below w.heap.size w w' := by
  have hh := Lib.hid (header_any hS)
  have h1 : ((n : Int) == 0) = false := by simp; omega
  have h2 : ¬ (n : Int) = 0 := by omega
  have h3 : (0 : Int) < (n : Int) := by omega
  have hf := fun W => field_base (.int .i64 (a : Int)) (.int .u32 (g : Int)) (.int .u32 (s : Int)) (.int .i64 (b : Int)) W
  clear hS
  go_enter Tryz.func30, Tryz.ntmps30
  go_wp2_with fail
  refine hh.out.mono ?_
  rintro _ w1 ⟨rfl, hb1⟩
  go_wp2_with fail
  go_ret
  exact ⟨rfl, hb1⟩
theorem behind_any (vb sb n a g s b E : Nat) (fa : Option Addr) (fn fc : Nat) (sl : Bool) (w : World) (hb : b ≤ 1099511628776) (hf : fn ≤ 1000) (hS : Whole w sb 112 (sgL vb n a g s b (.slice fa fn fc) E sl)) :
    Calls Tryz.prog 51 #[.pointer (some ⟨sb, 0, none⟩)] w fun e w' => e = .returned (.int .i64 ((b + fn : Nat) : Int)) ∧ Below w.heap.size w w' := by
  have hh := Lib.hid (header_any hS)
  have hl := Lib.hid (fun W (h : Below w.heap.size w W) => len_any sb fa fn fc W ((hS.below h hS.lt).cell 6))
  have hfi := fun W => field_base (.int .i64 (a : Int)) (.int .u32 (g : Int)) (.int .u32 (s : Int)) (.int .i64 (b : Int)) W
  have hw : IntKind.i64.wrap ((b : Int) + (fn : Int)) = ((b + fn : Nat) : Int) := by rw [IntWalk.i64_in _ (by omega)]; omega
  clear hS
  go_enter Tryz.func51, Tryz.ntmps51
  go_wp2_with fail
  refine hh.out.mono ?_
  rintro _ w1 ⟨rfl, hb1⟩
  go_wp2_with fail
  refine (hl.out _ hb1).mono ?_
  rintro _ w2 ⟨rfl, rfl⟩
  go_wp2_with fail
  go_ret
  exact ⟨rfl, hb1⟩
theorem takes_none (lb c : Nat) (A : Option Addr) (k : Int) (p : ByteArray) (w : World) (hl : lb < w.heap.size) (c4 : w.cell? ⟨lb, 4, none⟩ = some (.slice A 0 c)) :
    Calls Tryz.prog 60 #[.pointer (some ⟨lb, 0, none⟩), .agg #[.int .i64 k, .string p]] w fun e w' => e = .returned (.bool false) ∧ Below w.heap.size w w' := by
  have hB := Lib.hid (allocBelow w (.cells #[.int .i64 k, .string p] 36))
  have hla := Lib.hid (last_none lb c A (w.alloc (.cells #[.int .i64 k, .string p] 36)) (keepCell hB.out c4))
  have hsd := Lib.hid sealed_nil
  go_enter Tryz.func60, Tryz.ntmps60
  go_wp2_with fail
  refine hla.out.mono ?_
  rintro _ w1 ⟨rfl, rfl⟩
  go_wp2_with fail
  refine (hsd.out _).mono ?_
  rintro _ w2 ⟨rfl, rfl⟩
  go_wp2_with fail
  go_ret
  exact ⟨rfl, hB.out⟩
set_option maxRecDepth 100000 in
theorem takes_some (lb q n c sb : Nat) (sl : Bool) (E : Nat) (k : Int) (p : ByteArray) (w : World) (hp : p.size ≤ 1000000) (hE : E ≤ 16) (hn : n < 100000) (c4 : w.cell? ⟨lb, 4, none⟩ = some (.slice (some ⟨q, 0, none⟩) (n + 1) c)) (cq : w.cell? ⟨q, n, none⟩ = some (.pointer (some ⟨sb, 0, none⟩)))
    (c7 : w.cell? ⟨sb, 7, none⟩ = some (.int .i64 (E : Int))) (c8 : w.cell? ⟨sb, 8, none⟩ = some (.bool sl)) :
    Calls Tryz.prog 60 #[.pointer (some ⟨lb, 0, none⟩), .agg #[.int .i64 k, .string p]] w fun e w' => e = .returned (.bool (!sl && decide (E + pcsN p.size ≤ 16))) ∧ Below w.heap.size w w' := by
  have hB := Lib.hid (allocBelow w (.cells #[.int .i64 k, .string p] 36))
  have hX := Whole.new w 36 [.int .i64 k, .string p]
  have hla := Lib.hid (last_some lb q n c (.pointer (some ⟨sb, 0, none⟩)) (w.alloc (.cells #[.int .i64 k, .string p] 36)) hn (keepCell hB.out c4) (keepCell hB.out cq))
  have hsd := Lib.hid (fun W (h : Below w.heap.size w W) => sealed_any sb sl W (keepCell h c8))
  have hen := Lib.hid (fun W (h : Below w.heap.size w W) => end_any sb E W (keepCell h c7))
  have hsz := Lib.hid (fun W => frSize_any k p W hp)
  have hmn := Lib.hid (fun W => many_any ((p.size : Int) + 7) W (by omega) (by omega))
  have hmp := manyI_pcs p.size
  rw [show ((p.size + 7 : Nat) : Int) = (p.size : Int) + 7 from by omega] at hmp
  rw [hmp] at hmn
  have hps : pcsN p.size ≤ 100000 := by unfold pcsN; omega
  obtain ⟨P, hP⟩ : ∃ P, Hid (pcsN p.size = P) := ⟨_, Lib.hid rfl⟩
  rw [hP.out] at hmn hps ⊢
  obtain ⟨R, hR⟩ : ∃ R, Hid (decide (E + P ≤ 16) = R) := ⟨_, Lib.hid rfl⟩
  rw [hR.out]
  clear hmp c7 c8 c4 cq
  go_enter Tryz.func60, Tryz.ntmps60
  go_wp2_with fail
  refine hla.out.mono ?_
  rintro _ w1 ⟨rfl, hb1⟩
  have hX1 := hX.below hb1 hX.lt
  have x0 : w1.cell? ⟨w.heap.size, 0, none⟩ = some (.int .i64 k) := hX1.cell 0
  have x1 : w1.cell? ⟨w.heap.size, 1, none⟩ = some (.string p) := hX1.cell 1
  replace hB := Lib.hid (grew hB.out hb1)
  clear hX hX1 hb1 hla
  cases sl with
  | true =>
    go_wp2_with fail
    refine (hsd.out _ hB.out).mono ?_
    rintro _ w2 ⟨rfl, rfl⟩
    go_wp2_with fail
    go_ret
    exact ⟨rfl, hB.out⟩
  | false =>
    go_wp2_with fail
    refine (hsd.out _ hB.out).mono ?_
    rintro _ w2 ⟨rfl, rfl⟩
    go_wp2_with fail
    refine (hsz.out _).mono ?_
    rintro _ w3 ⟨rfl, hb3⟩
    have hB3 := Lib.hid (grew hB.out hb3)
    clear x0 x1
    go_wp2_with fail
    refine (hmn.out _).mono ?_
    rintro _ w4 ⟨rfl, rfl⟩
    go_wp2_with fail
    refine (hen.out _ hB3.out).mono ?_
    rintro _ w5 ⟨rfl, rfl⟩
    have hw : IntKind.i64.wrap (16 - (E : Int)) = 16 - (E : Int) := IntWalk.i64_in _ (by omega)
    have hd : Hid (decide ((P : Int) ≤ 16 - (E : Int)) = R) := Lib.hid (by rw [← hR.out]; apply decide_eq_decide.2; omega)
    go_wp2_with fail
    go_ret
    exact ⟨by show Ending.returned (Value.bool (decide ((P : Int) ≤ 16 - (E : Int)))) = _; rw [hd.out]; rfl, hB3.out⟩
end Go.Proofs.YtgogackkeodciabGreatDoor.W
end
end
section
section
namespace Go.Proofs.YtgogackkeodciabGreatDoor.W
open Go.RowKit
open Go.Proofs.YtgogackkeodciabGreatDoor.M Go.Proofs.YtgogackkeodciabGreatDoor.D Go.Proofs.YtgogackkeodciabGreatDoor.Z
set_option linter.unusedVariables false

abbrev ptV (sb : Nat) : Value := .pointer (some ⟨sb, 0, none⟩)
/-- A row of segments, and its block. -/
def RowPt (A : Option Addr) (c : Nat) (l : List Nat) (pk : List Bk) : Prop :=
  (l = [] ∧ A = none ∧ c = 0 ∧ pk = []) ∨ ∃ q cur, A = some ⟨q, 0, none⟩ ∧ pk = [(q, 83, cur)] ∧ l.length ≤ c ∧ c ≤ maxLen ∧ cur.length = c ∧ cur.take l.length = l.map ptV
theorem RowPt.own {A : Option Addr} {c : Nat} {l : List Nat} {pk : List Bk} {W : World} (h : RowPt A c l pk) (hK : ∀ x ∈ pk, Whole W x.1 x.2.1 x.2.2) : W.ownsRow 0 83 1 (.slice A l.length c) l.length (l.map ptV) := by
  rcases h with ⟨rfl, rfl, rfl, rfl⟩ | ⟨q, cur, rfl, rfl, h1, h2, h3, h4⟩
  · exact own_nil
  · have hW := hK _ (List.mem_singleton.2 rfl)
    exact ⟨by simp, .inr ⟨q, c, cur.toArray, rfl, Nat.zero_le _, hW, h1, h2, by rw [List.size_toArray, Nat.mul_one]; exact h3, by rw [Nat.mul_one]; exact h4⟩⟩
theorem RowPt.of_own {A : Option Addr} {c B : Nat} {l : List Nat} {W : World} (h0 : 0 < l.length) (h : W.ownsRow B 83 1 (.slice A l.length c) l.length (l.map ptV)) : ∃ pk, RowPt A c l pk ∧ ∀ x ∈ pk, Whole W x.1 x.2.1 x.2.2 ∧ B ≤ x.1 ∧ plainT x.2.1 := by
  rcases h.2 with ⟨e, h1⟩ | ⟨q, cap, cur, e, hb, hq, h1, h2, h3, h4⟩
  · omega
  · injection e with e1 e2 e3
    subst e1 e3
    refine ⟨_, .inr ⟨q, cur.toList, rfl, rfl, h1, h2, by rw [Array.length_toList, h3, Nat.mul_one], by rw [← h4, Nat.mul_one]⟩, fun x hx => ?_⟩
    obtain rfl := List.mem_singleton.1 hx
    exact ⟨by simpa [Whole] using hq, hb, show plainT 83 by decide⟩
theorem RowPt.slot {A : Option Addr} {c : Nat} {l : List Nat} {pk : List Bk} (h : RowPt A c l pk) : pk.map (·.1) = ((Value.slice A 0 0).ownBlock).toList := by
  rcases h with ⟨_, rfl, _, rfl⟩ | ⟨q, cur, rfl, rfl, _⟩ <;> rfl
theorem RowPt.types {A : Option Addr} {c : Nat} {l : List Nat} {pk : List Bk} (h : RowPt A c l pk) : ∀ x ∈ pk, x.2.1 = 83 := by
  rcases h with ⟨_, _, _, rfl⟩ | ⟨q, cur, rfl, rfl, _⟩
  · exact fun x hx => by simp at hx
  · intro x hx
    obtain rfl := List.mem_singleton.1 hx
    rfl
section
variable {w0 W W' : World} {vb d g' from_ m : Nat} {lie : List (List UInt8)} {ws : List (Nat × List UInt8)} {steps : Int} {K : List Bk} {r : Sr}
set_option maxRecDepth 100000 in
set_option maxHeartbeats 4000000 in
/-- Into the last segment. -/
theorem put_in (k : Int) (p : ByteArray) (lb pb id gen q n c nx : Nat) (cur : List Value) (h : VB w0 vb d g' lie ws from_ m steps (r.K vb ++ K) W) (ho : r.Ok) (hsl : r.sl = false) (hr : Room from_ m r.n) (hs : r.s < 4294967296) (hf : FrOk (k, p)) (hp : plc r.fs + pcsN p.size ≤ 16) (h0 : 0 ≤ steps) (h1 : steps ≤ 900000) (hw : ws.length ≤ 90000)
    (hL : (lb, 82, lgL vb pb id gen (some ⟨q, 0, none⟩) (n + 1) c nx) ∈ K) (hq : (q, 83, cur) ∈ K) (hcur : cur[n]? = some (ptV r.sb)) (hn : n < 100000) :
    Calls Tryz.prog 53 #[.pointer (some ⟨lb, 0, none⟩), .agg #[.int .i64 k, .string p]] W fun e w' => e = .returned (.int .i64 0) ∧
      ∃ la' lc' rk', ({ r with fs := r.fs ++ [(k, p)], la := la', lc := lc', rk := rk' } : Sr).Ok ∧
        VB w0 vb d g' lie (ws ++ putW from_ r.n r.s (r.fs.length + 2) (plc r.fs) (encF (r.s : Int) (plc r.fs : Int) k p.data.toList) (pcsN p.size)) from_ m (steps + pcsN p.size) (({ r with fs := r.fs ++ [(k, p)], la := la', lc := lc', rk := rk' } : Sr).K vb ++ K) w' := by
  have hpz : p.size ≤ 1000000 := by have := hf.2.2; simp only at this; omega
  have hB1 := allocBelow W (.cells #[.int .i64 k, .string p] 36)
  have hv1 := (h.new (q := W.heap.size) (t := 36) (cs := [.int .i64 k, .string p]) hB1 (Whole.new W _ _) (Nat.le_refl _) (by show plainT 36; decide)).perm (K' := r.K vb ++ ((W.heap.size, 36, [.int .i64 k, .string p]) :: K)) List.perm_middle.symm
  have hS1 := Sr.sg ho (fun x hx => hv1.got (List.mem_append_left _ hx))
  have hLw := hv1.got (List.mem_append_right _ (List.mem_cons_of_mem _ hL))
  have hQw := hv1.got (List.mem_append_right _ (List.mem_cons_of_mem _ hq))
  have htk := takes_some lb q n c r.sb r.sl (plc r.fs) k p _ hpz ho.fits hn (hLw.cell 4) ((hQw.cell n).trans hcur) (hS1.obj.cell 7) (hS1.obj.cell 8)
  rw [hsl, show (!false && decide (plc r.fs + pcsN p.size ≤ 16)) = true from by simp [hp]] at htk
  replace htk := Lib.hid htk
  have hx := hv1.got (List.mem_append_right (r.K vb) List.mem_cons_self)
  have x0 : (W.alloc (.cells #[.int .i64 k, .string p] 36)).cell? ⟨W.heap.size, 0, none⟩ = some (.int .i64 k) := hx.cell 0
  have x1 : (W.alloc (.cells #[.int .i64 k, .string p] 36)).cell? ⟨W.heap.size, 1, none⟩ = some (.string p) := hx.cell 1
  replace hv1 := Lib.hid hv1
  obtain ⟨W1, hW1⟩ : ∃ W1, Hid (W1 = W.alloc (.cells #[.int .i64 k, .string p] 36)) := ⟨_, Lib.hid rfl⟩
  rw [← hW1.out] at htk hv1 x0 x1
  obtain ⟨fb, hfb⟩ : ∃ fb, Hid (W.heap.size = fb) := ⟨_, Lib.hid rfl⟩
  rw [hfb.out] at hv1 x0 x1
  clear hS1 hLw hQw hx hB1
  go_enter Tryz.func53, Tryz.ntmps53
  go_upto_region 1 with fail
  rw [← show W1 = _ from hW1.out, hfb.out]
  clear hW1
  go_wp2_with fail
  refine htk.out.mono ?_
  rintro _ w2 ⟨rfl, hb2⟩
  have hv2 := hv1.out.below hb2
  have hx2 := hv2.got (List.mem_append_right (r.K vb) List.mem_cons_self)
  have y0 : w2.cell? ⟨fb, 0, none⟩ = some (.int .i64 k) := hx2.cell 0
  have y1 : w2.cell? ⟨fb, 1, none⟩ = some (.string p) := hx2.cell 1
  have hla : Hid (∀ V, Below w2.heap.size w2 V → Calls Tryz.prog 74 #[.pointer (some ⟨lb, 0, none⟩)] V fun e w' => e = .returned (.pointer (some ⟨r.sb, 0, none⟩)) ∧ Below V.heap.size V w') := Lib.hid (fun V hb => by
    have hv := hv2.below hb
    exact last_some lb q n c _ V hn ((hv.got (List.mem_append_right _ (List.mem_cons_of_mem _ hL))).cell 4) (((hv.got (List.mem_append_right _ (List.mem_cons_of_mem _ hq))).cell n).trans hcur))
  have hap : Hid (∀ V, Below w2.heap.size w2 V → Calls Tryz.prog 75 #[.pointer (some ⟨r.sb, 0, none⟩), .agg #[.int .i64 k, .string p]] V fun e w' => e = .returned (.tuple #[.int .i64 (plc r.fs : Int), .int .i64 0]) ∧
      ∃ la' lc' rk', ({ r with fs := r.fs ++ [(k, p)], la := la', lc := lc', rk := rk' } : Sr).Ok ∧
        VB w0 vb d g' lie (ws ++ putW from_ r.n r.s (r.fs.length + 2) (plc r.fs) (encF (r.s : Int) (plc r.fs : Int) k p.data.toList) (pcsN p.size)) from_ m (steps + pcsN p.size) (({ r with fs := r.fs ++ [(k, p)], la := la', lc := lc', rk := rk' } : Sr).K vb ++ ((fb, 36, [.int .i64 k, .string p]) :: K)) w') := Lib.hid (fun V hb => (hv2.below hb).append k p ho hsl hr hs hf hp h0 h1 hw)
  have hD := (Below.refl w2.heap.size w2).drew
  obtain ⟨P, hP⟩ : ∃ P, Hid (plc r.fs = P) := ⟨_, Lib.hid rfl⟩
  obtain ⟨sb, hsb⟩ : ∃ sb, Hid (r.sb = sb) := ⟨_, Lib.hid rfl⟩
  rw [hsb.out] at hla
  clear hv2 hx2 hb2 htk x0 x1 hv1
  go_wp2_with fail
  go_region_held3 (fun w' => w'.cell? ⟨fb, 0, none⟩ = some (.int .i64 k) ∧ w'.cell? ⟨fb, 1, none⟩ = some (.string p)) (first | assumption | (go_keep)) (first
    | (go_at_call 74; (with_reducible refine (hla.out _ hD).mono ?_); rintro _ w3 ⟨rfl, hb3⟩; have hk3 : Below w2.heap.size w2 w3 := grew hD hb3; have d0 := keepZ hk3 y0; have d1 := keepZ hk3 y1)
    | (go_at_call 75; rw [← hsb.out]; (with_reducible refine (hap.out _ hk3).mono ?_); rintro _ w4 ⟨rfl, la', lc', rk', ho4, h4⟩; have hx4 := h4.got (List.mem_append_right _ List.mem_cons_self); have e0 : w4.cell? ⟨fb, 0, none⟩ = some (.int .i64 k) := hx4.cell 0; have e1 : w4.cell? ⟨fb, 1, none⟩ = some (.string p) := hx4.cell 1))
  replace h4 := Lib.hid h4
  go_wp2_with fail
  go_ret
  exact ⟨rfl, la', lc', rk', ho4, h4.out.sub (List.Sublist.append_left (List.sublist_cons_self _ _) _)⟩
end
end Go.Proofs.YtgogackkeodciabGreatDoor.W
end
section
namespace Go.Proofs.YtgogackkeodciabGreatDoor.W
open Go.RowKit Go.Sort
open Go.Proofs.YtgogackkeodciabGreatDoor.M Go.Proofs.YtgogackkeodciabGreatDoor.D Go.Proofs.YtgogackkeodciabGreatDoor.Z
set_option linter.unusedVariables false

theorem infoPt : (Tryz.prog.info? 83).map (fun i => (i.zero, i.size, i.bytes)) = some (some (.pointer none), 1, 8) := by kernel_rfl
theorem perm_by {α : Type} {l1 l2 : List α} (h : ∀ [BEq α] [LawfulBEq α] (a : α), l1.count a = l2.count a) : l1.Perm l2 := by
  classical
  exact List.perm_iff_count.2 (fun a => h a)
section
variable {w0 W W' : World} {vb d g' from_ m : Nat} {lie : List (List UInt8)} {ws : List (Nat × List UInt8)} {steps : Int} {K : List Bk} {r : Sr}
/-- A segment behind a row of segments. -/
theorem VB.appended {A : Option Addr} {c sb gg c' : Nat} {l : List Nat} {pk : List Bk} {o : Obj} (h : VB w0 vb d g' lie ws from_ m steps (pk ++ K) W) (hr : RowPt A c l pk) (hg : (W.alloc o).grownBy W' (Value.slice A l.length c).ownBlock)
    (hown : W'.ownsRow 0 83 1 (.slice (some ⟨gg, 0, none⟩) (l.length + 1) c') (l.length + 1) (l.map ptV ++ [ptV sb])) (hat : (Value.slice A l.length c).ownBlock = some gg ∨ gg = W.heap.size + 1) :
    ∃ pk', RowPt (some ⟨gg, 0, none⟩) c' (l ++ [sb]) pk' ∧ VB w0 vb d g' lie ws from_ m steps (pk' ++ K) W' := by
  have e1 : (l ++ [sb]).length = l.length + 1 := by rw [List.length_append, List.length_singleton]
  have e2 : (l ++ [sb]).map ptV = l.map ptV ++ [ptV sb] := by rw [List.map_append]; rfl
  obtain ⟨pk', k1, k2⟩ := RowPt.of_own (l := l ++ [sb]) (A := some ⟨gg, 0, none⟩) (c := c') (W := W') (B := 0) (by omega) (by rw [e1, e2]; exact hown)
  have hso : ∀ x ∈ pk', x.1 = gg := fun x hx => by
    have h2 : x.1 ∈ pk'.map (·.1) := List.mem_map_of_mem hx
    rw [k1.slot] at h2
    have h3 := Option.mem_toList.1 h2
    have h4 : (Value.slice (some ⟨gg, 0, none⟩) 0 0).ownBlock = some gg := rfl
    rw [h4] at h3
    exact (Option.some.inj h3).symm
  have hold : ∀ q, (Value.slice A l.length c).ownBlock = some q → ∃ x ∈ pk, x.1 = q := fun q hq => by
    rw [ownBlock_slice] at hq
    have h2 : q ∈ pk.map (·.1) := by rw [hr.slot]; exact Option.mem_toList.2 hq
    exact List.mem_map.1 h2
  have hk : Kept (fun q => (Value.slice A l.length c).ownBlock = some q) W W' := ((Kept.refl (fun q => (Value.slice A l.length c).ownBlock = some q) W).alloc o).grown hg (fun q hq => .inl hq)
  have hap := h.blk.apart
  rw [List.map_append, List.nodup_append] at hap
  have hKo : ∀ x ∈ K, ¬ (Value.slice A l.length c).ownBlock = some x.1 := fun x hx e => by
    obtain ⟨y, hy, e2⟩ := hold _ e
    exact hap.2.2 y.1 (List.mem_map_of_mem hy) x.1 (List.mem_map_of_mem hx) e2
  refine ⟨pk', k1, SV.plain h.view hk (fun q hq => ?_), fun x hx => ?_, ?_⟩
  · obtain ⟨y, hy, rfl⟩ := hold q hq
    obtain ⟨f1, f2, f3⟩ := h.blk.all y (List.mem_append_left _ hy)
    exact ⟨f3, .inl ⟨_, _, f1, f2⟩⟩
  · rcases List.mem_append.1 hx with hx | hx
    · refine ⟨(k2 x hx).1, (k2 x hx).2.2, ?_⟩
      rw [hso x hx]
      rcases hat with e | e
      · obtain ⟨y, hy, rfl⟩ := hold gg e
        exact (h.blk.all y (List.mem_append_left _ hy)).2.2
      · have := h.size; omega
    · exact ⟨(h.got (List.mem_append_right _ hx)).of_kept hk (hKo x hx), (h.blk.all x (List.mem_append_right _ hx)).2⟩
  · rw [List.map_append, List.nodup_append]
    refine ⟨?_, hap.2.1, fun q hq y hy => ?_⟩
    · rw [k1.slot]
      show ([gg] : List Nat).Nodup
      simp
    · obtain ⟨x, hx, rfl⟩ := List.mem_map.1 hq
      obtain ⟨z, hz, rfl⟩ := List.mem_map.1 hy
      intro e
      rw [hso x hx] at e
      have hlt := (h.got (List.mem_append_right _ hz)).lt
      rcases hat with e2 | e2
      · exact hKo z hz (by rw [e2, e])
      · omega
set_option maxRecDepth 100000 in
set_option maxHeartbeats 4000000 in
/-- Into a new one. -/
theorem putAnew_yes (k : Int) (p : ByteArray) (pb pa lb id gen c nx ep ct sg : Nat) (l : List Int) (A : Option Addr) (sbs : List Nat) (pk : List Bk)
    (h : VB w0 vb d g' lie ws from_ m steps (plK pb pa l ep ct ++ ((lb, 82, lgL vb pb id gen A sbs.length c nx) :: (pk ++ K))) W) (hrow : RowPt A c sbs pk) (hns : sbs.length ≤ 1000)
    (hl64 : l.length ≤ 64) (hep : ep < 65536) (hct : ct < 65536) (hfst : FirstAt l sg) (hid1 : 1 ≤ id) (hid : id < 65536) (hgen : gen < 4294967296) (hnx : nx ≤ 1099511627776) (hT : Wide w0) (hr : Room from_ m sg) (hf : FrOk (k, p)) (h0 : 0 ≤ steps) (h1 : steps ≤ 800000) (hw : ws.length ≤ 80000) :
    Calls Tryz.prog 73 #[.pointer (some ⟨lb, 0, none⟩), .agg #[.int .i64 k, .string p]] W fun e w' => e = .returned (.int .i64 0) ∧
      ∃ sb la' lc' rk' A' c' pk', (⟨sb, sg, id, gen, 65536 * ep + ct, nx, [(k, p)], la', lc', rk', false⟩ : Sr).Ok ∧ RowPt A' c' (sbs ++ [sb]) pk' ∧
        VB w0 vb d g' lie ((ws ++ putW from_ sg (65536 * ep + ct) 1 0 (headerL id gen (65536 * ep + ct) nx) 1) ++ putW from_ sg (65536 * ep + ct) 2 1 (encF ((65536 * ep + ct : Nat) : Int) 1 k p.data.toList) (pcsN p.size)) from_ m (steps + 1 + pcsN p.size)
          (plK pb pa (l.set sg (id : Int)) ep (ct + 1) ++ ((lb, 82, lgL vb pb id gen A' (sbs.length + 1) c' nx) :: (pk' ++ ((⟨sb, sg, id, gen, 65536 * ep + ct, nx, [(k, p)], la', lc', rk', false⟩ : Sr).K vb ++ K)))) w' := by
  have hpz : p.size ≤ 773 := hf.2.2
  have hpc : pcsN p.size ≤ 15 := by unfold pcsN; omega
  obtain ⟨L, hL⟩ : ∃ L, Hid (lgL vb pb id gen A sbs.length c nx = L) := ⟨_, Lib.hid rfl⟩
  have hB1 := allocBelow W (.cells #[.int .i64 k, .string p] 36)
  have hv1 := (h.new (q := W.heap.size) (t := 36) (cs := [.int .i64 k, .string p]) hB1 (Whole.new W _ _) (Nat.le_refl _) (by show plainT 36; decide)).perm (K' := plK pb pa l ep ct ++ ((W.heap.size, 36, [.int .i64 k, .string p]) :: (lb, 82, lgL vb pb id gen A sbs.length c nx) :: (pk ++ K))) List.perm_middle.symm
  obtain ⟨W1, hW1⟩ : ∃ W1, Hid (W1 = W.alloc (.cells #[.int .i64 k, .string p] 36)) := ⟨_, Lib.hid rfl⟩
  rw [← hW1.out] at hv1
  obtain ⟨fb, hfb⟩ : ∃ fb, Hid (W.heap.size = fb) := ⟨_, Lib.hid rfl⟩
  rw [hfb.out] at hv1
  obtain ⟨S, hS⟩ : ∃ S, Hid (65536 * ep + ct = S) := ⟨_, Lib.hid rfl⟩
  have hSl : S < 4294967296 := by have := hS.out; omega
  have hLog1 := hv1.got (List.mem_append_right (plK pb pa l ep ct) (List.mem_cons_of_mem _ List.mem_cons_self))
  have a1 : W1.cell? ⟨lb, 1, none⟩ = some (.pointer (some ⟨pb, 0, none⟩)) := hLog1.cell 1
  have a2 : W1.cell? ⟨lb, 2, none⟩ = some (.int .i64 (id : Int)) := hLog1.cell 2
  have htk : Hid (∀ V, Below W1.heap.size W1 V → Calls Tryz.prog 86 #[.pointer (some ⟨pb, 0, none⟩), .int .i64 (id : Int)] V fun e w' => e = .returned (.tuple #[.int .i64 (sg : Int), .int .u32 (S : Int), .int .i64 0]) ∧
      VB w0 vb d g' lie ws from_ m steps (plK pb pa (l.set sg (id : Int)) ep (ct + 1) ++ ((fb, 36, [.int .i64 k, .string p]) :: (lb, 82, lgL vb pb id gen A sbs.length c nx) :: (pk ++ K))) w') := Lib.hid (fun V hb => by
    have hv := hv1.below hb
    refine (ptake_done hv.pool hl64 hep hct (id : Int) (by unfold okG; simp; omega) sg hfst).mono ?_
    rintro e w' ⟨r1, r2, r3⟩
    rw [hS.out] at r1
    exact ⟨r1, hv.pooled r2 r3⟩)
  have hD := (Below.refl W1.heap.size W1).drew
  rw [hS.out]
  clear hv1 hLog1 hB1
  go_enter Tryz.func73, Tryz.ntmps73
  go_upto_region 1 with fail
  rw [← show W1 = _ from hW1.out, hfb.out]
  clear hW1
  go_region_held3 (fun w' => w'.cell? ⟨lb, 1, none⟩ = some (.pointer (some ⟨pb, 0, none⟩)) ∧ w'.cell? ⟨lb, 2, none⟩ = some (.int .i64 (id : Int))) (first | assumption | (go_keep)) (first
    | (go_at_call 86; (with_reducible refine (htk.out _ hD).mono ?_); rintro _ w2 ⟨rfl, hv2⟩; have hLog2 := hv2.got (List.mem_append_right (plK pb pa (l.set sg (id : Int)) ep (ct + 1)) (List.mem_cons_of_mem _ List.mem_cons_self)); have b1 : w2.cell? ⟨lb, 1, none⟩ = some (.pointer (some ⟨pb, 0, none⟩)) := hLog2.cell 1; have b2 : w2.cell? ⟨lb, 2, none⟩ = some (.int .i64 (id : Int)) := hLog2.cell 2))
  have b0 : w2.cell? ⟨lb, 0, none⟩ = some (.pointer (some ⟨vb, 0, none⟩)) := hLog2.cell 0
  have b3 : w2.cell? ⟨lb, 3, none⟩ = some (.int .u32 (gen : Int)) := hLog2.cell 3
  have b5 : w2.cell? ⟨lb, 5, none⟩ = some (.int .i64 (nx : Int)) := hLog2.cell 5
  have hcr : Hid (∀ V, Below w2.heap.size w2 V → Calls Tryz.prog 87 #[.pointer (some ⟨vb, 0, none⟩), .int .i64 (sg : Int), .agg #[.int .i64 (id : Int), .int .u32 (gen : Int), .int .u32 (S : Int), .int .i64 (nx : Int)]] V fun e w' => ∃ sb, e = .returned (.tuple #[.pointer (some ⟨sb, 0, none⟩), .int .i64 0]) ∧
      VB w0 vb d g' lie (ws ++ putW from_ sg S 1 0 (headerL id gen S nx) 1) from_ m (steps + 1) ((Sr.made sb sg id gen S nx).K vb ++ (plK pb pa (l.set sg (id : Int)) ep (ct + 1) ++ ((fb, 36, [.int .i64 k, .string p]) :: (lb, 82, lgL vb pb id gen A sbs.length c nx) :: (pk ++ K)))) w') := Lib.hid (fun V hb => (hv2.below hb).create sg id gen S nx hr (hT.below (hv2.below hb).since) hid1 hid hgen hSl hnx h0 (by omega) (by omega))
  have hD2 := (Below.refl w2.heap.size w2).drew
  clear a1 a2 htk hLog2 hv2 hD
  go_wp2_with fail
  go_region_held3 (fun w' => w'.cell? ⟨lb, 0, none⟩ = some (.pointer (some ⟨vb, 0, none⟩)) ∧ w'.cell? ⟨lb, 2, none⟩ = some (.int .i64 (id : Int)) ∧ w'.cell? ⟨lb, 3, none⟩ = some (.int .u32 (gen : Int)) ∧ w'.cell? ⟨lb, 5, none⟩ = some (.int .i64 (nx : Int))) (first | assumption | (go_keep)) (first
    | (go_at_call 87; (with_reducible refine (hcr.out _ hD2).mono ?_); rintro _ w3 ⟨sb, rfl, hv3⟩; have hLog3 := hv3.got (List.mem_append_right ((Sr.made sb sg id gen S nx).K vb) (List.mem_append_right (plK pb pa (l.set sg (id : Int)) ep (ct + 1)) (List.mem_cons_of_mem _ List.mem_cons_self))); have f0 : w3.cell? ⟨lb, 0, none⟩ = some (.pointer (some ⟨vb, 0, none⟩)) := hLog3.cell 0; have f2 : w3.cell? ⟨lb, 2, none⟩ = some (.int .i64 (id : Int)) := hLog3.cell 2; have f3 : w3.cell? ⟨lb, 3, none⟩ = some (.int .u32 (gen : Int)) := hLog3.cell 3; have f5 : w3.cell? ⟨lb, 5, none⟩ = some (.int .i64 (nx : Int)) := hLog3.cell 5))
  have hx3 := hv3.got (List.mem_append_right ((Sr.made sb sg id gen S nx).K vb) (List.mem_append_right (plK pb pa (l.set sg (id : Int)) ep (ct + 1)) List.mem_cons_self))
  have y0 : w3.cell? ⟨fb, 0, none⟩ = some (.int .i64 k) := hx3.cell 0
  have y1 : w3.cell? ⟨fb, 1, none⟩ = some (.string p) := hx3.cell 1
  have hap := Lib.hid (hv3.append k p (Sr.made_ok _ _ _ _ _ _) rfl hr hSl hf (by show 1 + pcsN p.size ≤ 16; omega) (by omega) (by omega) (by rw [List.length_append, putW_len]; omega))
  have hap2 : Hid (Calls Tryz.prog 75 #[.pointer (some ⟨sb, 0, none⟩), .agg #[.int .i64 k, .string p]] w3 fun e w' => e = .returned (.tuple #[.int .i64 1, .int .i64 0]) ∧
      ∃ la' lc' rk', (⟨sb, sg, id, gen, S, nx, [(k, p)], la', lc', rk', false⟩ : Sr).Ok ∧
        VB w0 vb d g' lie ((ws ++ putW from_ sg S 1 0 (headerL id gen S nx) 1) ++ putW from_ sg S 2 1 (encF (S : Int) 1 k p.data.toList) (pcsN p.size)) from_ m (steps + 1 + pcsN p.size) ((⟨sb, sg, id, gen, S, nx, [(k, p)], la', lc', rk', false⟩ : Sr).K vb ++ (plK pb pa (l.set sg (id : Int)) ep (ct + 1) ++ ((fb, 36, [.int .i64 k, .string p]) :: (lb, 82, lgL vb pb id gen A sbs.length c nx) :: (pk ++ K)))) w') := Lib.hid hap.out
  clear b0 b1 b2 b3 b5 f0 f2 f3 f5 hap hcr hLog3 hx3 hv3 hD2
  go_wp2_with fail
  refine hap2.out.mono ?_
  rintro _ w4 ⟨rfl, la', lc', rk', ho4, hv4⟩
  obtain ⟨r, hr4⟩ : ∃ r, Hid ((⟨sb, sg, id, gen, S, nx, [(k, p)], la', lc', rk', false⟩ : Sr) = r) := ⟨_, Lib.hid rfl⟩
  rw [hr4.out] at hv4
  have hLog4 := hv4.got (List.mem_append_right (r.K vb) (List.mem_append_right (plK pb pa (l.set sg (id : Int)) ep (ct + 1)) (List.mem_cons_of_mem _ List.mem_cons_self)))
  have c4 : w4.cell? ⟨lb, 4, none⟩ = some (.slice A sbs.length c) := hLog4.cell 4
  have hv5 := hv4.perm (K' := pk ++ ((lb, 82, lgL vb pb id gen A sbs.length c nx) :: (fb, 36, [.int .i64 k, .string p]) :: (r.K vb ++ (plK pb pa (l.set sg (id : Int)) ep (ct + 1) ++ K)))) (perm_by fun a => by simp only [List.count_append, List.count_cons]; omega)
  have hown4 := hrow.own (fun x hx => hv5.got (List.mem_append_left _ hx))
  obtain ⟨i0, hi0, hz0, hz1, hz2⟩ := info_parts infoPt
  replace hv5 := Lib.hid hv5
  replace hown4 := Lib.hid hown4
  clear hv4 hLog4 hap2 y0 y1
  go_wp2_with (with_reducible refine zAppend _ _ _ rfl ?_)
  refine Lib.hid ?_
  refine wpList_append_lies _ rfl _ _ 30 rfl 0 83 i0 _ 1 8 Tryz.underlying30 hi0 hz0 hz1 hz2 rfl (by omega) (.slice A sbs.length c) sbs.length (sbs.map ptV) rfl (hown4.out.alloc _) _ 1 1 [ptV sb] rfl rfl (World.news_of_block (heap_alloc_new _ _)) (by simp [Value.oneCell']) (by omega) (by unfold maxLen; omega) (by omega) (Nat.zero_le _) (w4.heap.size + 1) (by simp) ?_
  intro gg cap w5 hown5 hgrow5 hat5 hlt5
  obtain ⟨pk', hrow5, hv6⟩ := hv5.out.appended hrow hgrow5 hown5 hat5
  have hv7 := hv6.perm (K' := (lb, 82, lgL vb pb id gen A sbs.length c nx) :: (fb, 36, [.int .i64 k, .string p]) :: (plK pb pa (l.set sg (id : Int)) ep (ct + 1) ++ (pk' ++ (r.K vb ++ K)))) (perm_by fun a => by simp only [List.count_append, List.count_cons]; omega)
  have hLog7 := hv7.got List.mem_cons_self
  have g4 : w5.cell? ⟨lb, 4, none⟩ = some (.slice A sbs.length c) := hLog7.cell 4
  have z4 := hLog7.frozen 4
  have hLog8 : Whole (w5.setCell ⟨lb, 4, none⟩ (.slice (some ⟨gg, 0, none⟩) (sbs.length + 1) cap)) lb 82 (lgL vb pb id gen (some ⟨gg, 0, none⟩) (sbs.length + 1) cap nx) := hLog7.store 4 [.slice (some ⟨gg, 0, none⟩) (sbs.length + 1) cap] (by simp)
  have hv8 := hv7.set ((Kept.refl (fun q => q = lb) w5).setCell (c := lb) (.inl rfl) 4 (.slice (some ⟨gg, 0, none⟩) (sbs.length + 1) cap)) hLog8
  have hv9 := (hv8.sub (K' := (lb, 82, lgL vb pb id gen (some ⟨gg, 0, none⟩) (sbs.length + 1) cap nx) :: (plK pb pa (l.set sg (id : Int)) ep (ct + 1) ++ (pk' ++ (r.K vb ++ K)))) (List.Sublist.cons_cons _ (List.sublist_cons_self _ _))).perm (K' := plK pb pa (l.set sg (id : Int)) ep (ct + 1) ++ ((lb, 82, lgL vb pb id gen (some ⟨gg, 0, none⟩) (sbs.length + 1) cap nx) :: (pk' ++ (r.K vb ++ K)))) (perm_by fun a => by simp only [List.count_append, List.count_cons]; omega)
  rw [← hr4.out] at hv9
  replace hv9 := Lib.hid hv9
  clear hv6 hv7 hv8 hLog7 hLog8 hown5 hgrow5 hat5
  go_wp2_with fail
  go_ret
  have h9 := hv9.out
  rw [List.append_assoc ws] at h9
  exact ⟨rfl, sb, la', lc', rk', ho4, _, cap, pk', hrow5, h9⟩
end
end Go.Proofs.YtgogackkeodciabGreatDoor.W
end
section
namespace Go.Proofs.YtgogackkeodciabGreatDoor.W
open Go.RowKit Go.Sort
open Go.Proofs.YtgogackkeodciabGreatDoor.M Go.Proofs.YtgogackkeodciabGreatDoor.D Go.Proofs.YtgogackkeodciabGreatDoor.Z
set_option linter.unusedVariables false
section
variable {w0 W W' : World} {vb d g' from_ m : Nat} {lie : List (List UInt8)} {ws : List (Nat × List UInt8)} {steps : Int} {K : List Bk} {r : Sr}
/-- What putAnew leaves. -/
def PutNew (w0 : World) (vb d g' : Nat) (lie : List (List UInt8)) (ws : List (Nat × List UInt8)) (from_ m : Nat) (steps : Int) (K : List Bk) (k : Int) (p : ByteArray) (pb pa lb id gen nx ep ct sg : Nat) (l : List Int) (sbs : List Nat) (w' : World) : Prop :=
  ∃ sb la' lc' rk' A' c' pk', (⟨sb, sg, id, gen, 65536 * ep + ct, nx, [(k, p)], la', lc', rk', false⟩ : Sr).Ok ∧ RowPt A' c' (sbs ++ [sb]) pk' ∧
    VB w0 vb d g' lie ((ws ++ putW from_ sg (65536 * ep + ct) 1 0 (headerL id gen (65536 * ep + ct) nx) 1) ++ putW from_ sg (65536 * ep + ct) 2 1 (encF ((65536 * ep + ct : Nat) : Int) 1 k p.data.toList) (pcsN p.size)) from_ m (steps + 1 + pcsN p.size)
      (plK pb pa (l.set sg (id : Int)) ep (ct + 1) ++ ((lb, 82, lgL vb pb id gen A' (sbs.length + 1) c' nx) :: (pk' ++ ((⟨sb, sg, id, gen, 65536 * ep + ct, nx, [(k, p)], la', lc', rk', false⟩ : Sr).K vb ++ K)))) w'
set_option maxRecDepth 100000 in
theorem put_new (k : Int) (p : ByteArray) (pb pa lb id gen c nx ep ct sg : Nat) (l : List Int) (A : Option Addr) (sbs : List Nat) (pk : List Bk)
    (h : VB w0 vb d g' lie ws from_ m steps (plK pb pa l ep ct ++ ((lb, 82, lgL vb pb id gen A sbs.length c nx) :: (pk ++ K))) W) (hrow : RowPt A c sbs pk) (hns : sbs.length ≤ 1000)
    (hl64 : l.length ≤ 64) (hep : ep < 65536) (hct : ct < 65536) (hfst : FirstAt l sg) (hid1 : 1 ≤ id) (hid : id < 65536) (hgen : gen < 4294967296) (hnx : nx ≤ 1099511627776) (hT : Wide w0) (hr : Room from_ m sg) (hf : FrOk (k, p)) (h0 : 0 ≤ steps) (h1 : steps ≤ 800000) (hw : ws.length ≤ 80000)
    (htk : ∀ V, Below W.heap.size W V → Calls Tryz.prog 60 #[.pointer (some ⟨lb, 0, none⟩), .agg #[.int .i64 k, .string p]] V fun e w' => e = .returned (.bool false) ∧ Below V.heap.size V w') :
    Calls Tryz.prog 53 #[.pointer (some ⟨lb, 0, none⟩), .agg #[.int .i64 k, .string p]] W fun e w' => e = .returned (.int .i64 0) ∧ PutNew w0 vb d g' lie ws from_ m steps K k p pb pa lb id gen nx ep ct sg l sbs w' := by
  have hB1 := allocBelow W (.cells #[.int .i64 k, .string p] 36)
  have hX := Whole.new W 36 [.int .i64 k, .string p]
  have htk1 := Lib.hid (htk _ hB1)
  have hpa : Hid (∀ V, Below W.heap.size W V → Calls Tryz.prog 73 #[.pointer (some ⟨lb, 0, none⟩), .agg #[.int .i64 k, .string p]] V fun e w' => e = .returned (.int .i64 0) ∧ PutNew w0 vb d g' lie ws from_ m steps K k p pb pa lb id gen nx ep ct sg l sbs w') := Lib.hid (fun V hb =>
    putAnew_yes k p pb pa lb id gen c nx ep ct sg l A sbs pk (h.below hb) hrow hns hl64 hep hct hfst hid1 hid hgen hnx hT hr hf h0 h1 hw)
  obtain ⟨Q, hQ⟩ : ∃ Q : World → Prop, Hid (PutNew w0 vb d g' lie ws from_ m steps K k p pb pa lb id gen nx ep ct sg l sbs = Q) := ⟨_, Lib.hid rfl⟩
  rw [hQ.out] at hpa ⊢
  clear h htk hrow
  go_enter Tryz.func53, Tryz.ntmps53
  go_wp2_with fail
  refine htk1.out.mono ?_
  rintro _ w2 ⟨rfl, hb2⟩
  have hX2 := hX.below hb2 hX.lt
  have x0 : w2.cell? ⟨W.heap.size, 0, none⟩ = some (.int .i64 k) := hX2.cell 0
  have x1 : w2.cell? ⟨W.heap.size, 1, none⟩ = some (.string p) := hX2.cell 1
  have hB2 := grew hB1 hb2
  clear hX hX2 hb2 htk1 hB1
  go_wp2_with fail
  refine (hpa.out _ hB2).mono ?_
  rintro _ w3 ⟨rfl, h3⟩
  replace h3 := Lib.hid h3
  go_wp2_with fail
  go_ret
  exact ⟨rfl, h3.out⟩
set_option maxRecDepth 100000 in
/-- Append, by what put leaves. -/
theorem log_append_by (Post : World → Prop) (k : Int) (p : ByteArray) (lb nx : Nat) (hf : FrOk (k, p)) (hnx : nx ≤ 1099511627776)
    (hput : ∀ V, Below W.heap.size W V → Calls Tryz.prog 53 #[.pointer (some ⟨lb, 0, none⟩), .agg #[.int .i64 k, .string p]] V fun e w' => e = .returned (.int .i64 0) ∧ Post w')
    (hobj : ∀ w', Post w' → w'.cell? ⟨lb, 5, none⟩ = some (.int .i64 (nx : Int)) ∧ w'.frozen? ⟨lb, 5, none⟩ = false) :
    Calls Tryz.prog 27 #[.pointer (some ⟨lb, 0, none⟩), .agg #[.int .i64 k, .string p]] W fun e w' => e = .returned (.tuple #[.int .i64 (nx : Int), .int .i64 0]) ∧ ∃ w1, Post w1 ∧ w' = w1.setCell ⟨lb, 5, none⟩ (.int .i64 ((nx + 1 : Nat) : Int)) := by
  have hpz : p.size ≤ 1000000 := by have := hf.2.2; simp only at this; omega
  have hB1 := allocBelow W (.cells #[.int .i64 k, .string p] 36)
  have hX := Whole.new W 36 [.int .i64 k, .string p]
  have hch := fun V => check_any k p V hpz
  rw [show wrongF 1 k p.size = 0 from by
    obtain ⟨z1, z2, z3⟩ := hf
    simp only at z1 z2 z3
    unfold wrongF
    rw [if_neg (by omega), if_neg (by omega)]] at hch
  replace hch := Lib.hid hch
  replace hput := Lib.hid hput
  replace hobj := Lib.hid hobj
  have hw : IntKind.i64.wrap ((nx : Int) + 1) = ((nx + 1 : Nat) : Int) := by rw [IntWalk.i64_in _ (by omega)]; omega
  have x0 : (W.alloc (.cells #[.int .i64 k, .string p] 36)).cell? ⟨W.heap.size, 0, none⟩ = some (.int .i64 k) := hX.cell 0
  have x1 : (W.alloc (.cells #[.int .i64 k, .string p] 36)).cell? ⟨W.heap.size, 1, none⟩ = some (.string p) := hX.cell 1
  obtain ⟨W1, hW1⟩ : ∃ W1, Hid (W1 = W.alloc (.cells #[.int .i64 k, .string p] 36)) := ⟨_, Lib.hid rfl⟩
  rw [← hW1.out] at hB1 hX x0 x1
  go_enter Tryz.func27, Tryz.ntmps27
  go_upto_region 1 with fail
  rw [← show W1 = _ from hW1.out]
  clear hW1
  go_wp2_with fail
  refine (hch.out _).mono ?_
  rintro _ w2 ⟨rfl, hb2⟩
  have hX2 := hX.below hb2 hX.lt
  clear x0 x1
  have x0 : w2.cell? ⟨W.heap.size, 0, none⟩ = some (.int .i64 k) := hX2.cell 0
  have x1 : w2.cell? ⟨W.heap.size, 1, none⟩ = some (.string p) := hX2.cell 1
  have hB2 := grew hB1 hb2
  clear hX hX2 hb2 hB1
  go_wp2_with fail
  refine (hput.out _ hB2).mono ?_
  rintro _ w3 ⟨rfl, h3⟩
  obtain ⟨c5, z5⟩ := hobj.out _ h3
  replace h3 := Lib.hid h3
  clear x0 x1 hB2
  go_wp2_with fail
  go_ret2
  exact ⟨rfl, w3, h3.out, rfl⟩
set_option maxRecDepth 100000 in
theorem log_new_yes (pb id gen base : Nat) (W : World) (hT : Wide W) (hid1 : 1 ≤ id) (hid : id < 65536) (hgen : gen < 4294967296) (hb : base ≤ 1099511627776) :
    Calls Tryz.prog 21 #[.pointer (some ⟨vb, 0, none⟩), .pointer (some ⟨pb, 0, none⟩), .int .i64 (id : Int), .int .u32 (gen : Int), .int .i64 (base : Int)] W fun e w' => ∃ lb, e = .returned (.tuple #[.pointer (some ⟨lb, 0, none⟩), .int .i64 0]) ∧ W.heap.size ≤ lb ∧ Whole w' lb 82 (lgL vb pb id gen none 0 0 base) ∧ Below W.heap.size W w' := by
  have hen := Lib.hid (encH_yes id gen 0 base W hT hid1 hid hgen (by decide) hb)
  go_enter Tryz.func21, Tryz.ntmps21
  go_wp2_with fail
  refine hen.out.mono ?_
  rintro _ w1 ⟨rfl, hb1⟩
  have hN := Lib.hid (Whole.new w1 82 (lgL vb pb id gen none 0 0 base))
  have hB := Lib.hid (grewAlloc hb1 (.cells (lgL vb pb id gen none 0 0 base).toArray 82))
  have hs := hb1.size
  clear hb1
  go_wp2_with fail
  go_ret2
  exact ⟨_, rfl, hs, hN.out, hB.out⟩
theorem log_new_no (pb : Nat) (id gen base : Int) (W : World) (hno : okH id base = false) :
    Calls Tryz.prog 21 #[.pointer (some ⟨vb, 0, none⟩), .pointer (some ⟨pb, 0, none⟩), .int .i64 id, .int .u32 gen, .int .i64 base] W fun e w' => e = .returned (.tuple #[.pointer none, .int .i64 1]) ∧ Below W.heap.size W w' := by
  have hen := Lib.hid (encH_no id gen 0 base W hno)
  go_enter Tryz.func21, Tryz.ntmps21
  go_wp2_with fail
  refine hen.out.mono ?_
  rintro _ w1 ⟨rfl, hb1⟩
  replace hb1 := Lib.hid hb1
  go_wp2_with fail
  go_ret2
  exact ⟨rfl, hb1.out⟩
end
end Go.Proofs.YtgogackkeodciabGreatDoor.W
end
end
