/- Blocks of a law beside its view: a list of blocks, all apart; what a segment's calls, and a pool's, leave of it. Blocks of a law beside its view: what Create, Wipe, Seal of a segment, and a pool's Take and Give, leave of it. Package seglog's small calls. -/
import Derived.Test.YtahljbjgenepaaaGreatDoorSegO
import Derived.Test.YtahljbjgenepaaaGreatDoorPlA
import Derived.Test.YtahljbjgenepaaaGreatDoorFrame
section
namespace Go.Proofs.YtahljbjgenepaaaGreatDoor.W
open Go.RowKit
open Go.Proofs.YtahljbjgenepaaaGreatDoor.M Go.Proofs.YtahljbjgenepaaaGreatDoor.D Go.Proofs.YtahljbjgenepaaaGreatDoor.Z
set_option linter.unusedVariables false

abbrev Bk := Nat × TypeId × List Value
/-- Blocks that were made since the world w0, all apart, of types that are no view's. -/
structure Blk (w0 W : World) (K : List Bk) : Prop where
  all : ∀ x ∈ K, Whole W x.1 x.2.1 x.2.2 ∧ plainT x.2.1 ∧ w0.heap.size ≤ x.1
  apart : (K.map (·.1)).Nodup
section
variable {w0 W W' : World} {K K' : List Bk}
theorem Blk.got (h : Blk w0 W K) {x : Bk} (hx : x ∈ K) : Whole W x.1 x.2.1 x.2.2 := (h.all x hx).1
theorem Blk.perm (h : Blk w0 W K) (hp : K.Perm K') : Blk w0 W K' := ⟨fun x hx => h.all x (hp.mem_iff.2 hx), (hp.map _).nodup_iff.1 h.apart⟩
theorem Blk.sub (h : Blk w0 W K) (hp : K'.Sublist K) : Blk w0 W K' := ⟨fun x hx => h.all x (hp.subset hx), h.apart.sublist (hp.map _)⟩
theorem Blk.nil (w0 W : World) : Blk w0 W [] := ⟨fun x hx => by simp at hx, List.nodup_nil⟩
theorem Blk.keep {own : Nat → Prop} (h : Blk w0 W K) (hk : Kept own W W') (ho : ∀ x ∈ K, ¬ own x.1) : Blk w0 W' K := ⟨fun x hx => ⟨(h.got hx).of_kept hk (ho x hx), (h.all x hx).2⟩, h.apart⟩
theorem Blk.below (h : Blk w0 W K) (hb : Below W.heap.size W W') : Blk w0 W' K := ⟨fun x hx => ⟨(h.got hx).below hb (h.got hx).lt, (h.all x hx).2⟩, h.apart⟩
theorem Blk.tk (h : Blk w0 W K) (hk : TK W W') : Blk w0 W' K := ⟨fun x hx => ⟨hk.2 _ _ _ (h.got hx) (h.all x hx).2.1.1 (h.all x hx).2.1.2.1 (h.all x hx).2.1.2.2.1 (h.all x hx).2.1.2.2.2, (h.all x hx).2⟩, h.apart⟩
theorem Blk.tail {x : Bk} (h : Blk w0 W (x :: K)) : Blk w0 W K := h.sub (List.sublist_cons_self _ _)
theorem Blk.ne {x y : Bk} (h : Blk w0 W (x :: K)) (hy : y ∈ K) : y.1 ≠ x.1 := by
  have h1 := h.apart
  rw [List.map_cons, List.nodup_cons] at h1
  exact fun e => h1.1 (by rw [← e]; exact List.mem_map_of_mem hy)
/-- A new block. -/
theorem Blk.new (h : Blk w0 W K) (hb : Below W.heap.size W W') {q : Nat} {t : TypeId} {cs : List Value} (hW : Whole W' q t cs) (hq : W.heap.size ≤ q) (ht : plainT t) (h0 : w0.heap.size ≤ W.heap.size) : Blk w0 W' ((q, t, cs) :: K) := by
  have h2 := h.below hb
  refine ⟨fun x hx => ?_, ?_⟩
  · rcases List.mem_cons.1 hx with rfl | hx
    · exact ⟨hW, ht, Nat.le_trans h0 hq⟩
    · exact h2.all x hx
  · rw [List.map_cons, List.nodup_cons]
    refine ⟨fun hm => ?_, h2.apart⟩
    obtain ⟨x, hx, e⟩ := List.mem_map.1 hm
    have := (h.got hx).lt
    simp only at e
    omega
/-- A block that is written. -/
theorem Blk.set {q : Nat} {t : TypeId} {cs cs' : List Value} (h : Blk w0 W ((q, t, cs) :: K)) (hk : Kept (fun r => r = q) W W') (hW : Whole W' q t cs') : Blk w0 W' ((q, t, cs') :: K) := by
  refine ⟨fun x hx => ?_, h.apart⟩
  rcases List.mem_cons.1 hx with rfl | hx
  · exact ⟨hW, (h.all _ List.mem_cons_self).2⟩
  · exact ⟨(h.got (List.mem_cons_of_mem _ hx)).of_kept hk (h.ne hx), (h.all x (List.mem_cons_of_mem _ hx)).2⟩
end
/-- A view and blocks beside it. -/
structure VB (w0 : World) (vb d g' : Nat) (lie : List (List UInt8)) (ws : List (Nat × List UInt8)) (from_ m : Nat) (steps : Int) (K : List Bk) (W : World) : Prop where
  view : SV w0 vb d g' lie ws from_ m (-1) steps false W
  blk : Blk w0 W K
section
variable {w0 W W' : World} {vb d g' from_ m : Nat} {lie : List (List UInt8)} {ws : List (Nat × List UInt8)} {steps : Int} {K K' : List Bk}
theorem VB.since (h : VB w0 vb d g' lie ws from_ m steps K W) : Below w0.heap.size w0 W := h.view.since
theorem VB.size (h : VB w0 vb d g' lie ws from_ m steps K W) : w0.heap.size ≤ W.heap.size := h.since.size
theorem VB.got (h : VB w0 vb d g' lie ws from_ m steps K W) {x : Bk} (hx : x ∈ K) : Whole W x.1 x.2.1 x.2.2 := h.blk.got hx
theorem VB.below (h : VB w0 vb d g' lie ws from_ m steps K W) (hb : Below W.heap.size W W') : VB w0 vb d g' lie ws from_ m steps K W' := ⟨h.view.below hb, h.blk.below hb⟩
theorem VB.perm (h : VB w0 vb d g' lie ws from_ m steps K W) (hp : K.Perm K') : VB w0 vb d g' lie ws from_ m steps K' W := ⟨h.view, h.blk.perm hp⟩
theorem VB.sub (h : VB w0 vb d g' lie ws from_ m steps K W) (hp : K'.Sublist K) : VB w0 vb d g' lie ws from_ m steps K' W := ⟨h.view, h.blk.sub hp⟩
theorem VB.new (h : VB w0 vb d g' lie ws from_ m steps K W) (hb : Below W.heap.size W W') {q : Nat} {t : TypeId} {cs : List Value} (hW : Whole W' q t cs) (hq : W.heap.size ≤ q) (ht : plainT t) : VB w0 vb d g' lie ws from_ m steps ((q, t, cs) :: K) W' := ⟨h.view.below hb, h.blk.new hb hW hq ht h.size⟩
/-- The view stays when plain blocks are written. -/
theorem SV.plain {own : Nat → Prop} (h : SV w0 vb d g' lie ws from_ m (-1) steps false W) (hk : Kept own W W') (ho : ∀ q, own q → w0.heap.size ≤ q ∧ ((∃ t cs, Whole W q t cs ∧ plainT t) ∨ W.heap.size ≤ q)) : SV w0 vb d g' lie ws from_ m (-1) steps false W' := by
  obtain ⟨v, k1, k2, k3⟩ := h
  refine ⟨v, Vw.of_seg k1 (hk.mono (own' := fun q => own q ∧ q < W.heap.size) (fun q hq ho => ⟨ho, hq⟩)) (fun q hq => ?_), k2, k3.trans (hk.below k3.size (fun q e => (ho q e).1))⟩
  rcases (ho q hq.1).2 with ⟨t, cs, h1, h2⟩ | h1
  · exact off_view k1 h1 h2.1 h2.2.1 h2.2.2.1 h2.2.2.2
  · have := hq.2; omega
theorem VB.set {q : Nat} {t : TypeId} {cs cs' : List Value} (h : VB w0 vb d g' lie ws from_ m steps ((q, t, cs) :: K) W) (hk : Kept (fun r => r = q) W W') (hW : Whole W' q t cs') : VB w0 vb d g' lie ws from_ m steps ((q, t, cs') :: K) W' := by
  obtain ⟨k1, k2, k3⟩ := h.blk.all _ List.mem_cons_self
  exact ⟨SV.plain h.view hk (fun r hr => by rw [hr]; exact ⟨k3, .inl ⟨_, _, k1, k2⟩⟩), h.blk.set hk hW⟩
end
/-- A segment's blocks. -/
structure Sr where
  (sb n a g s b : Nat)
  fs : List (Int × ByteArray)
  la : Option Addr
  lc : Nat
  rk : List Bk
  sl : Bool
def Sr.K (vb : Nat) (r : Sr) : List Bk := (r.sb, 161, sgL vb r.n r.a r.g r.s r.b (.slice r.la r.fs.length r.lc) (plc r.fs) r.sl) :: r.rk
structure Sr.Ok (r : Sr) : Prop where
  row : RowB r.la r.lc r.fs r.rk
  fr : ∀ f ∈ r.fs, FrOk f
  fits : plc r.fs ≤ 16
section
variable {w0 W W' : World} {vb d g' from_ m : Nat} {lie : List (List UInt8)} {ws : List (Nat × List UInt8)} {steps : Int} {K : List Bk} {r : Sr}
theorem RowB.slot {la : Option Addr} {lc : Nat} {fs : List (Int × ByteArray)} {K : List Bk} (h : RowB la lc fs K) : K.map (·.1) = ((Value.slice la 0 0).ownBlock).toList := by
  rcases h with ⟨_, rfl, _, rfl⟩ | ⟨q, cur, rfl, rfl, _⟩ <;> rfl
theorem Sr.sg (ho : r.Ok) (h : ∀ x ∈ r.K vb, Whole W x.1 x.2.1 x.2.2) : Sg W r.sb vb r.n r.a r.g r.s r.b r.la r.lc r.fs (plc r.fs) r.sl := by
  refine ⟨h _ List.mem_cons_self, ho.row.own (fun x hx => h x (List.mem_cons_of_mem _ hx)), fun e => ?_⟩
  rcases ho.row with ⟨_, h1, _⟩ | ⟨q, cur, _, _, h1, _⟩
  · exact h1
  · rw [e] at h1; exact absurd h1 (by decide)
theorem Sr.of (ho : r.Ok) {q : Nat} : ofS r.sb r.la q ↔ q ∈ (r.K vb).map (·.1) := by
  unfold Sr.K ofS
  rw [List.map_cons, List.mem_cons, ho.row.slot, Option.mem_toList]
theorem VB.sg (h : VB w0 vb d g' lie ws from_ m steps (r.K vb ++ K) W) (ho : r.Ok) : Sg W r.sb vb r.n r.a r.g r.s r.b r.la r.lc r.fs (plc r.fs) r.sl := Sr.sg ho (fun x hx => h.got (List.mem_append_left _ hx))
theorem VB.old (h : VB w0 vb d g' lie ws from_ m steps (r.K vb ++ K) W) (ho : r.Ok) : ∀ q, ofS r.sb r.la q → w0.heap.size ≤ q := fun q hq => by
  obtain ⟨x, hx, e⟩ := List.mem_map.1 ((Sr.of (vb := vb) ho).1 hq)
  rw [← e]
  exact (h.blk.all x (List.mem_append_left _ hx)).2.2
theorem VB.off (h : VB w0 vb d g' lie ws from_ m steps (r.K vb ++ K) W) (ho : r.Ok) : ∀ x ∈ K, ¬ ofS r.sb r.la x.1 := fun x hx hq => by
  have h1 := (Sr.of (vb := vb) ho).1 hq
  have h2 := h.blk.apart
  rw [List.map_append, List.nodup_append] at h2
  exact h2.2.2 _ h1 _ (List.mem_map_of_mem hx) rfl
theorem wrong_ok {E : Nat} {k : Int} {p : ByteArray} (h : FrOk (k, p)) (h2 : 1 ≤ plS E ∧ plS E < 16) : wrongF ((plS E : Nat) : Int) k p.size = 0 := by
  obtain ⟨z1, z2, z3⟩ := h
  simp only at z1 z2 z3
  unfold wrongF
  rw [if_neg (by omega), if_neg (by omega)]
/-- A frame is put into the view, behind those of a segment. -/
theorem VB.append (k : Int) (p : ByteArray) (h : VB w0 vb d g' lie ws from_ m steps (r.K vb ++ K) W) (ho : r.Ok) (hsl : r.sl = false) (hr : Room from_ m r.n) (hs : r.s < 4294967296) (hf : FrOk (k, p)) (hp : plc r.fs + pcsN p.size ≤ 16) (h0 : 0 ≤ steps) (h1 : steps ≤ 900000) (hw : ws.length ≤ 90000) :
    Calls Tryz.prog 79 #[.pointer (some ⟨r.sb, 0, none⟩), .agg #[.int .i64 k, .string p]] W fun e w' => e = .returned (.tuple #[.int .i64 (plc r.fs : Int), .int .i64 0]) ∧
      ∃ la' lc' rk', ({ r with fs := r.fs ++ [(k, p)], la := la', lc := lc', rk := rk' } : Sr).Ok ∧
        VB w0 vb d g' lie (ws ++ putW from_ r.n r.s (r.fs.length + 2) (plc r.fs) (encF (r.s : Int) (plc r.fs : Int) k p.data.toList) (pcsN p.size)) from_ m (steps + pcsN p.size) (({ r with fs := r.fs ++ [(k, p)], la := la', lc := lc', rk := rk' } : Sr).K vb ++ K) w' := by
  have hS := h.sg ho
  rw [hsl] at hS
  have hlen := plc_len r.fs
  have hfit := ho.fits
  have hpos := pcs_pos p.size
  have hc : wrongF ((plS (plc r.fs) : Nat) : Int) k p.size = 0 := wrong_ok hf (by unfold plS; omega)
  refine (fa_append_yes k p (pcsN p.size) h.view hS (h.old ho) hr hs (by omega) (by omega) (by omega) hc rfl (.inl (by decide)) (by decide) (by decide) h0 h1 hw).mono ?_
  rintro e w' ⟨r1, r2, fa', fc', r3, r4, r5⟩
  refine ⟨r1, fa', fc', ?_⟩
  have hne : 0 < (r.fs ++ [(k, p)]).length := by rw [List.length_append, List.length_singleton]; omega
  obtain ⟨rk', k1, k2⟩ := RowB.of_own (B := 0) hne r3.own
  have e3 := plc_snoc r.fs (k, p)
  refine ⟨rk', ⟨k1, fun f hf2 => ?_, by show plc (r.fs ++ [(k, p)]) ≤ 16; rw [e3]; exact hp⟩, ?_, ?_⟩
  · rcases List.mem_append.1 hf2 with h2 | h2
    · exact ho.fr f h2
    · obtain rfl := List.mem_singleton.1 h2
      exact hf
  · have : fuseJ (-1) (pcsN p.size) = -1 := by unfold fuseJ; rw [if_pos (by decide)]
    rw [this] at r2
    exact r2
  · have hso : ∀ x ∈ rk', ofS r.sb r.la x.1 ∨ W.heap.size ≤ x.1 := fun x hx => r4 x.1 (.inr (by
      have h2 : x.1 ∈ rk'.map (·.1) := List.mem_map_of_mem hx
      rw [k1.slot] at h2
      exact Option.mem_toList.1 h2))
    have hobj : Whole w' r.sb 161 (sgL vb r.n r.a r.g r.s r.b (.slice fa' (r.fs ++ [(k, p)]).length fc') (plc (r.fs ++ [(k, p)])) r.sl) := by
      have h2 := r3.obj
      rw [hsl, e3]
      exact h2
    have hKw : ∀ x ∈ K, Whole w' x.1 x.2.1 x.2.2 := fun x hx => by
      obtain ⟨q1, q2, q3⟩ := h.blk.all x (List.mem_append_right _ hx)
      exact r5.2 _ _ _ q1 q2.1 q2.2.1 q2.2.2.1 q2.2.2.2 (h.off ho x hx)
    refine ⟨fun x hx => ?_, ?_⟩
    · rcases List.mem_append.1 hx with hx | hx
      · rcases List.mem_cons.1 hx with rfl | hx
        · exact ⟨hobj, by show plainT 161; decide, h.old ho r.sb (.inl rfl)⟩
        · refine ⟨(k2 x hx).1, (k2 x hx).2.2, ?_⟩
          rcases hso x hx with e | e
          · exact h.old ho _ e
          · exact Nat.le_trans h.size e
      · exact ⟨hKw x hx, (h.blk.all x (List.mem_append_right _ hx)).2⟩
    · have hap := h.blk.apart
      rw [List.map_append, List.nodup_append] at hap
      rw [List.map_append, List.nodup_append]
      refine ⟨?_, hap.2.1, ?_⟩
      · show ((r.sb :: rk'.map (·.1)).Nodup)
        rw [List.nodup_cons]
        refine ⟨fun hm => ?_, ?_⟩
        · obtain ⟨x, hx, e⟩ := List.mem_map.1 hm
          have h2 := (k2 x hx).1
          rw [k1.types x hx, e] at h2
          exact hobj.ne h2 (by decide) rfl
        · rw [k1.slot]
          cases (Value.slice fa' 0 0).ownBlock <;> simp
      · intro q hq y hy
        obtain ⟨x, hx, rfl⟩ := List.mem_map.1 hy
        have hlt := (h.got (List.mem_append_right _ hx)).lt
        rcases List.mem_cons.1 hq with rfl | hq
        · intro e
          exact h.off ho x hx (.inl e.symm)
        · obtain ⟨z, hz, rfl⟩ := List.mem_map.1 hq
          intro e
          rcases hso z hz with h2 | h2
          · exact h.off ho x hx (by rw [← e]; exact h2)
          · omega
end
end Go.Proofs.YtahljbjgenepaaaGreatDoor.W
end
section
namespace Go.Proofs.YtahljbjgenepaaaGreatDoor.W
open Go.RowKit
open Go.Proofs.YtahljbjgenepaaaGreatDoor.M Go.Proofs.YtahljbjgenepaaaGreatDoor.D Go.Proofs.YtahljbjgenepaaaGreatDoor.Z
set_option linter.unusedVariables false
section
variable {w0 W W' : World} {vb d g' from_ m : Nat} {lie : List (List UInt8)} {ws : List (Nat × List UInt8)} {steps : Int} {K : List Bk} {r : Sr}
/-- A segment that was just made. -/
def Sr.made (sb n a g s b : Nat) : Sr := ⟨sb, n, a, g, s, b, [], none, 0, [], false⟩
theorem Sr.made_ok (sb n a g s b : Nat) : (Sr.made sb n a g s b).Ok := ⟨.inl ⟨rfl, rfl, rfl, rfl⟩, fun f hf => by simp [Sr.made] at hf, by show (1 : Nat) ≤ 16; decide⟩
set_option maxRecDepth 100000 in
theorem VB.create (n a g s b : Nat) (h : VB w0 vb d g' lie ws from_ m steps K W) (hr : Room from_ m n) (hT : Wide W) (ha1 : 1 ≤ a) (ha : a < 65536) (hg : g < 4294967296) (hs : s < 4294967296) (hb : b ≤ 1099511627776) (h0 : 0 ≤ steps) (h1 : steps ≤ 900000) (hw : ws.length ≤ 90000) :
    Calls Tryz.prog 78 #[.pointer (some ⟨vb, 0, none⟩), .int .i64 (n : Int), .agg #[.int .i64 (a : Int), .int .u32 (g : Int), .int .u32 (s : Int), .int .i64 (b : Int)]] W fun e w' => ∃ sb, e = .returned (.tuple #[.pointer (some ⟨sb, 0, none⟩), .int .i64 0]) ∧
      VB w0 vb d g' lie (ws ++ putW from_ n s 1 0 (headerL a g s b) 1) from_ m (steps + 1) ((Sr.made sb n a g s b).K vb ++ K) w' := by
  obtain ⟨hr1, hr2⟩ := hr.fits
  obtain ⟨q, q1, q2, q3⟩ := hr.q
  obtain ⟨hV, hK⟩ := h
  obtain ⟨v, k1, k2, k3⟩ := id hV
  refine (create_by n q a g s b 0 (fun j W' => (if j = 0 then SV w0 vb d g' lie ws from_ m (-1) steps false W' else SV w0 vb d g' lie (ws ++ putW from_ n s 1 0 (headerL a g s b) 1) from_ m (-1) (steps + 1) false W') ∧ Blk w0 W' K) k1 q1 q2 q3 hT ha1 ha hg hs hb ⟨hV, hK⟩ ?_ ?_ ?_).mono ?_
  · rintro j W1 W2 ⟨h1, h3⟩ h2
    refine ⟨?_, h3.below h2⟩
    show if j = 0 then _ else _
    split
    · rename_i e; rw [if_pos e] at h1; exact h1.below h2
    · rename_i e; rw [if_neg e] at h1; exact h1.below h2
  · rintro j W1 W2 sb cs ⟨h1, h5⟩ h2 h3 h4
    refine ⟨?_, h5.keep h4 (fun x hx e => by have := (hK.got hx).lt; omega)⟩
    show if j = 0 then _ else _
    split
    · rename_i e; rw [if_pos e] at h1; exact h1.one h2 (Nat.le_trans k3.size h3) h4
    · rename_i e; rw [if_neg e] at h1; exact h1.one h2 (Nat.le_trans k3.size h3) h4
  · rintro W1 ⟨h2, h5⟩
    refine (sv_writeK (2 + 16 * n + (0 + 0)) (B (sealL s 1 (pcL (headerL a g s b) 0))) h2 (by omega) (by rw [B_size, sealL_len, pcL_len]) (by omega) h0 (by omega) (by omega) (by omega) (by omega)).mono ?_
    rintro e w' ⟨r1, r2, r3⟩
    rw [if_neg (by omega), B_data] at r2
    exact ⟨r1, ⟨r2, h5.tk r3⟩, r3⟩
  · rintro e w' (⟨r1, _⟩ | ⟨_, r2, ⟨r3, r5⟩, r4⟩)
    · exact absurd rfl r1
    · refine ⟨_, r2, r3, fun x hx => ?_, ?_⟩
      · rcases List.mem_append.1 hx with hx | hx
        · obtain rfl := List.mem_singleton.1 hx
          exact ⟨r4.obj, by show plainT 161; decide, by show w0.heap.size ≤ W.heap.size + 1; have := k3.size; omega⟩
        · exact r5.all x hx
      · show ((W.heap.size + 1) :: K.map (·.1)).Nodup
        rw [List.nodup_cons]
        refine ⟨fun hm => ?_, r5.apart⟩
        obtain ⟨x, hx, e⟩ := List.mem_map.1 hm
        have := (hK.got hx).lt
        omega
theorem VB.wipe (n : Nat) (h : VB w0 vb d g' lie ws from_ m steps K W) (hr : Room from_ m n) (h0 : 0 ≤ steps) (h1 : steps ≤ 900000) (hw : ws.length ≤ 90000) :
    Calls Tryz.prog 93 #[.pointer (some ⟨vb, 0, none⟩), .int .i64 (n : Int)] W fun e w' => e = .returned (.int .i64 0) ∧ VB w0 vb d g' lie (ws ++ [(from_ + (2 + 16 * n + 0), List.replicate 64 0)]) from_ m (steps + 1) K w' := by
  obtain ⟨hr1, hr2⟩ := hr.fits
  obtain ⟨q, q1, q2, q3⟩ := hr.q
  obtain ⟨hV, hK⟩ := h
  obtain ⟨v, k1, k2, k3⟩ := id hV
  refine (wipe_by n q 0 (fun j W' => (if j = 0 then SV w0 vb d g' lie ws from_ m (-1) steps false W' else SV w0 vb d g' lie (ws ++ [(from_ + (2 + 16 * n + 0), List.replicate 64 0)]) from_ m (-1) (steps + 1) false W') ∧ Blk w0 W' K) k1 q1 q2 q3 ⟨hV, hK⟩ ?_ ?_).mono ?_
  · rintro j W1 W2 ⟨h1, h3⟩ h2
    refine ⟨?_, h3.below h2⟩
    show if j = 0 then _ else _
    split
    · rename_i e; rw [if_pos e] at h1; exact h1.below h2
    · rename_i e; rw [if_neg e] at h1; exact h1.below h2
  · rintro W1 ⟨h2, h5⟩
    refine (sv_writeK (2 + 16 * n + 0) (zerosB 64) h2 (by omega) (zerosB_size 64) (by omega) h0 (by omega) (by omega) (by omega) (by omega)).mono ?_
    rintro e w' ⟨r1, r2, r3⟩
    rw [if_neg (by omega)] at r2
    exact ⟨r1, r2, h5.tk r3⟩
  · rintro e w' ⟨r1, r2, r3⟩
    exact ⟨r1, r2, r3⟩
theorem VB.sealed (h : VB w0 vb d g' lie ws from_ m steps (r.K vb ++ K) W) :
    Calls Tryz.prog 58 #[.pointer (some ⟨r.sb, 0, none⟩)] W fun e w' => e = .returned (.tuple #[]) ∧ VB w0 vb d g' lie ws from_ m steps (({ r with sl := true } : Sr).K vb ++ K) w' := by
  refine (doSeal_any r.sb vb r.n r.a r.g r.s r.b (plc r.fs) (.slice r.la r.fs.length r.lc) r.sl W (h.got (x := (r.sb, 161, sgL vb r.n r.a r.g r.s r.b (.slice r.la r.fs.length r.lc) (plc r.fs) r.sl)) (List.mem_append_left _ List.mem_cons_self))).mono ?_
  rintro e w' ⟨r1, r2, r3⟩
  exact ⟨r1, VB.set (K := r.rk ++ K) h r3 r2⟩
/-- A pool's blocks. -/
def plK (b a : Nat) (l : List Int) (ep ct : Nat) : List Bk := [(b, 113, [.slice (some ⟨a, 0, none⟩) l.length l.length, .int .i64 (ep : Int), .int .i64 (ct : Int)]), (a, 3, rowP l)]
theorem VB.pool {b a : Nat} {l : List Int} {ep ct : Nat} (h : VB w0 vb d g' lie ws from_ m steps (plK b a l ep ct ++ K) W) : Pl W b a l ep ct := ⟨h.got (List.mem_append_left _ List.mem_cons_self), h.got (List.mem_append_left _ (List.mem_cons_of_mem _ List.mem_cons_self))⟩
theorem VB.pooled {b a : Nat} {l l' : List Int} {ep ct ct' : Nat} (h : VB w0 vb d g' lie ws from_ m steps (plK b a l ep ct ++ K) W) (hp : Pl W' b a l' ep ct') (hk : Kept (Own2 b a) W W') : VB w0 vb d g' lie ws from_ m steps (plK b a l' ep ct' ++ K) W' := by
  have hb := h.blk.all _ (List.mem_append_left K (List.mem_cons_self : (b, 113, [.slice (some ⟨a, 0, none⟩) l.length l.length, .int .i64 (ep : Int), .int .i64 (ct : Int)]) ∈ plK b a l ep ct))
  have ha := h.blk.all _ (List.mem_append_left K (List.mem_cons_of_mem _ List.mem_cons_self : (a, 3, rowP l) ∈ plK b a l ep ct))
  have hap := h.blk.apart
  rw [List.map_append, List.nodup_append] at hap
  refine ⟨SV.plain h.view hk (fun q hq => ?_), fun x hx => ?_, ?_⟩
  · rcases hq with rfl | rfl
    · exact ⟨hb.2.2, .inl ⟨_, _, hb.1, hb.2.1⟩⟩
    · exact ⟨ha.2.2, .inl ⟨_, _, ha.1, ha.2.1⟩⟩
  · rcases List.mem_append.1 hx with hx | hx
    · rcases List.mem_cons.1 hx with rfl | hx
      · exact ⟨hp.box, hb.2⟩
      · obtain rfl := List.mem_singleton.1 hx
        exact ⟨hp.row, ha.2⟩
    · refine ⟨(h.got (List.mem_append_right _ hx)).of_kept hk (fun hq => ?_), (h.blk.all x (List.mem_append_right _ hx)).2⟩
      have hm : x.1 ∈ K.map (·.1) := List.mem_map_of_mem hx
      rcases hq with e | e
      · exact hap.2.2 b (by simp [plK]) _ hm e.symm
      · exact hap.2.2 a (by simp [plK]) _ hm e.symm
  · rw [List.map_append, List.nodup_append]
    exact hap
end
end Go.Proofs.YtahljbjgenepaaaGreatDoor.W
end
section
namespace Go.Proofs.YtahljbjgenepaaaGreatDoor.W
open Go.RowKit
open Go.Proofs.YtahljbjgenepaaaGreatDoor.M Go.Proofs.YtahljbjgenepaaaGreatDoor.D Go.Proofs.YtahljbjgenepaaaGreatDoor.Z
set_option linter.unusedVariables false

/-- A log's object, as cells. -/
abbrev lgL (vb pb id gen : Nat) (A : Option Addr) (n c nx : Nat) : List Value := [.pointer (some ⟨vb, 0, none⟩), .pointer (some ⟨pb, 0, none⟩), .int .i64 (id : Int), .int .u32 (gen : Int), .slice A n c, .int .i64 (nx : Int)]
set_option maxRecDepth 100000 in
theorem check_any (k : Int) (p : ByteArray) (w : World) (hp : p.size ≤ 1000000) :
    Calls Tryz.prog 69 #[.agg #[.int .i64 k, .string p]] w fun e w' => e = .returned (.int .i64 (wrongF 1 k p.size)) ∧ Below w.heap.size w w' := by
  have hB := Lib.hid (allocBelow w (.cells #[.int .i64 k, .string p] 43))
  by_cases h1 : k < 1
  · rw [wrongF_arg (.inl h1)]
    go_enter Tryz.func69, Tryz.ntmps69
    go_wp2_with fail
    go_ret
    exact ⟨rfl, hB.out⟩
  · by_cases h2 : 255 < k
    · rw [wrongF_arg (.inr (.inl h2))]
      go_enter Tryz.func69, Tryz.ntmps69
      go_wp2_with fail
      go_ret
      exact ⟨rfl, hB.out⟩
    · have hno : ¬ (k < 1 ∨ 255 < k ∨ ¬ ((1 : Int) ≤ 1 ∧ (1 : Int) < 16)) := by omega
      by_cases h3 : 773 < p.size
      · rw [wrongF_long hno h3]
        have h4 : (773 : Int) < (p.size : Int) := by omega
        clear hno
        go_enter Tryz.func69, Tryz.ntmps69
        go_wp2_with fail
        go_ret
        exact ⟨rfl, hB.out⟩
      · rw [wrongF_no hno h3]
        have h4 : (p.size : Int) ≤ 773 := by omega
        clear hno
        go_enter Tryz.func69, Tryz.ntmps69
        go_wp2_with fail
        go_ret
        exact ⟨rfl, hB.out⟩
theorem last_none (lb c : Nat) (A : Option Addr) (w : World) (c4 : w.cell? ⟨lb, 4, none⟩ = some (.slice A 0 c)) :
    Calls Tryz.prog 111 #[.pointer (some ⟨lb, 0, none⟩)] w fun e w' => e = .returned (.pointer none) ∧ w = w' := by
  go_enter Tryz.func111, Tryz.ntmps111
  go_wp2_with fail
  go_ret
  exact ⟨rfl, rfl⟩
set_option maxRecDepth 100000 in
theorem last_some (lb q n c : Nat) (v : Value) (w : World) (hn : n < 100000) (c4 : w.cell? ⟨lb, 4, none⟩ = some (.slice (some ⟨q, 0, none⟩) (n + 1) c)) (cq : w.cell? ⟨q, n, none⟩ = some v) :
    Calls Tryz.prog 111 #[.pointer (some ⟨lb, 0, none⟩)] w fun e w' => e = .returned v ∧ Below w.heap.size w w' := by
  obtain ⟨m, hm⟩ : ∃ m, Hid (n + 1 = m) := ⟨_, Lib.hid rfl⟩
  rw [hm.out] at c4
  have h1 : IntKind.i64.wrap ((m : Int) - 1) = (n : Int) := by rw [IntWalk.i64_in _ (by have := hm.out; omega)]; have := hm.out; omega
  have h2 : (n : Int) < (m : Int) := by have := hm.out; omega
  have h3 : ((m : Int) == 0) = false := by have := hm.out; simp; omega
  have h4 : m ≠ 0 := by have := hm.out; omega
  have h5 : ¬ (m : Int) = 0 := by omega
  have hD := drewBelow w
  have cd : w.drew.cell? ⟨q, n, none⟩ = some v := cq
  have c4d : w.drew.cell? ⟨lb, 4, none⟩ = some (.slice (some ⟨q, 0, none⟩) m c) := c4
  go_enter Tryz.func111, Tryz.ntmps111
  go_wp2_with fail
  go_region
  all_goals
    go_wp2_with fail
    go_ret
    exact ⟨rfl, hD⟩
theorem next_any (lb : Nat) (v : Value) (w : World) (c5 : w.cell? ⟨lb, 5, none⟩ = some v) :
    Calls Tryz.prog 21 #[.pointer (some ⟨lb, 0, none⟩)] w fun e w' => e = .returned v ∧ w = w' := by
  go_enter Tryz.func21, Tryz.ntmps21
  go_wp2_with fail
  go_ret
  exact ⟨rfl, rfl⟩
theorem id_any (lb : Nat) (v : Value) (w : World) (c2 : w.cell? ⟨lb, 2, none⟩ = some v) :
    Calls Tryz.prog 43 #[.pointer (some ⟨lb, 0, none⟩)] w fun e w' => e = .returned v ∧ w = w' := by
  go_enter Tryz.func43, Tryz.ntmps43
  go_wp2_with fail
  go_ret
  exact ⟨rfl, rfl⟩
theorem gen_any (lb : Nat) (v : Value) (w : World) (c3 : w.cell? ⟨lb, 3, none⟩ = some v) :
    Calls Tryz.prog 44 #[.pointer (some ⟨lb, 0, none⟩)] w fun e w' => e = .returned v ∧ w = w' := by
  go_enter Tryz.func44, Tryz.ntmps44
  go_wp2_with fail
  go_ret
  exact ⟨rfl, rfl⟩
theorem base_none (lb c : Nat) (A : Option Addr) (v : Value) (w : World) (c4 : w.cell? ⟨lb, 4, none⟩ = some (.slice A 0 c)) (c5 : w.cell? ⟨lb, 5, none⟩ = some v) :
    Calls Tryz.prog 15 #[.pointer (some ⟨lb, 0, none⟩)] w fun e w' => e = .returned v ∧ w = w' := by
  have hn := Lib.hid (next_any lb v w c5)
  go_enter Tryz.func15, Tryz.ntmps15
  go_wp2_with fail
  refine hn.out.mono ?_
  rintro _ w1 ⟨rfl, rfl⟩
  go_wp2_with fail
  go_ret
  exact ⟨rfl, rfl⟩
set_option maxRecDepth 100000 in
theorem base_some (lb q n c : Nat) (sb vb sn a g s b E : Nat) (fv : Value) (sl : Bool) (w : World) (hn : 0 < n) (c4 : w.cell? ⟨lb, 4, none⟩ = some (.slice (some ⟨q, 0, none⟩) n c)) (cq : w.cell? ⟨q, 0, none⟩ = some (.pointer (some ⟨sb, 0, none⟩)))
    (hS : Whole w sb 161 (sgL vb sn a g s b fv E sl)) :
    Calls Tryz.prog 15 #[.pointer (some ⟨lb, 0, none⟩)] w fun e w' => e = .returned (.int .i64 (b : Int)) ∧ Below w.heap.size w w' := by
  have hh := Lib.hid (header_any hS)
  have h1 : ((n : Int) == 0) = false := by simp; omega
  have h2 : ¬ (n : Int) = 0 := by omega
  have h3 : (0 : Int) < (n : Int) := by omega
  have hf := fun W => field_base (.int .i64 (a : Int)) (.int .u32 (g : Int)) (.int .u32 (s : Int)) (.int .i64 (b : Int)) W
  clear hS
  go_enter Tryz.func15, Tryz.ntmps15
  go_wp2_with fail
  refine hh.out.mono ?_
  rintro _ w1 ⟨rfl, hb1⟩
  go_wp2_with fail
  go_ret
  exact ⟨rfl, hb1⟩
theorem behind_any (vb sb n a g s b E : Nat) (fa : Option Addr) (fn fc : Nat) (sl : Bool) (w : World) (hb : b ≤ 1099511628776) (hf : fn ≤ 1000) (hS : Whole w sb 161 (sgL vb n a g s b (.slice fa fn fc) E sl)) :
    Calls Tryz.prog 59 #[.pointer (some ⟨sb, 0, none⟩)] w fun e w' => e = .returned (.int .i64 ((b + fn : Nat) : Int)) ∧ Below w.heap.size w w' := by
  have hh := Lib.hid (header_any hS)
  have hl := Lib.hid (fun W (h : Below w.heap.size w W) => len_any sb fa fn fc W ((hS.below h hS.lt).cell 6))
  have hfi := fun W => field_base (.int .i64 (a : Int)) (.int .u32 (g : Int)) (.int .u32 (s : Int)) (.int .i64 (b : Int)) W
  have hw : IntKind.i64.wrap ((b : Int) + (fn : Int)) = ((b + fn : Nat) : Int) := by rw [IntWalk.i64_in _ (by omega)]; omega
  clear hS
  go_enter Tryz.func59, Tryz.ntmps59
  go_wp2_with fail
  refine hh.out.mono ?_
  rintro _ w1 ⟨rfl, hb1⟩
  go_wp2_with fail
  refine (hl.out _ hb1).mono ?_
  rintro _ w2 ⟨rfl, rfl⟩
  go_wp2_with fail
  go_ret
  exact ⟨rfl, hb1⟩
theorem takes_none (lb c : Nat) (A : Option Addr) (k : Int) (p : ByteArray) (w : World) (hl : lb < w.heap.size) (c4 : w.cell? ⟨lb, 4, none⟩ = some (.slice A 0 c)) :
    Calls Tryz.prog 95 #[.pointer (some ⟨lb, 0, none⟩), .agg #[.int .i64 k, .string p]] w fun e w' => e = .returned (.bool false) ∧ Below w.heap.size w w' := by
  have hB := Lib.hid (allocBelow w (.cells #[.int .i64 k, .string p] 43))
  have hla := Lib.hid (last_none lb c A (w.alloc (.cells #[.int .i64 k, .string p] 43)) (keepCell hB.out c4))
  have hsd := Lib.hid sealed_nil
  go_enter Tryz.func95, Tryz.ntmps95
  go_wp2_with fail
  refine hla.out.mono ?_
  rintro _ w1 ⟨rfl, rfl⟩
  go_wp2_with fail
  refine (hsd.out _).mono ?_
  rintro _ w2 ⟨rfl, rfl⟩
  go_wp2_with fail
  go_ret
  exact ⟨rfl, hB.out⟩
set_option maxRecDepth 100000 in
theorem takes_some (lb q n c sb : Nat) (sl : Bool) (E : Nat) (k : Int) (p : ByteArray) (w : World) (hp : p.size ≤ 1000000) (hE : E ≤ 16) (hn : n < 100000) (c4 : w.cell? ⟨lb, 4, none⟩ = some (.slice (some ⟨q, 0, none⟩) (n + 1) c)) (cq : w.cell? ⟨q, n, none⟩ = some (.pointer (some ⟨sb, 0, none⟩)))
    (c7 : w.cell? ⟨sb, 7, none⟩ = some (.int .i64 (E : Int))) (c8 : w.cell? ⟨sb, 8, none⟩ = some (.bool sl)) :
    Calls Tryz.prog 95 #[.pointer (some ⟨lb, 0, none⟩), .agg #[.int .i64 k, .string p]] w fun e w' => e = .returned (.bool (!sl && decide (E + pcsN p.size ≤ 16))) ∧ Below w.heap.size w w' := by
  have hB := Lib.hid (allocBelow w (.cells #[.int .i64 k, .string p] 43))
  have hX := Whole.new w 43 [.int .i64 k, .string p]
  have hla := Lib.hid (last_some lb q n c (.pointer (some ⟨sb, 0, none⟩)) (w.alloc (.cells #[.int .i64 k, .string p] 43)) hn (keepCell hB.out c4) (keepCell hB.out cq))
  have hsd := Lib.hid (fun W (h : Below w.heap.size w W) => sealed_any sb sl W (keepCell h c8))
  have hen := Lib.hid (fun W (h : Below w.heap.size w W) => end_any sb E W (keepCell h c7))
  have hsz := Lib.hid (fun W => frSize_any k p W hp)
  have hmn := Lib.hid (fun W => many_any ((p.size : Int) + 7) W (by omega) (by omega))
  have hmp := manyI_pcs p.size
  rw [show ((p.size + 7 : Nat) : Int) = (p.size : Int) + 7 from by omega] at hmp
  rw [hmp] at hmn
  have hps : pcsN p.size ≤ 100000 := by unfold pcsN; omega
  obtain ⟨P, hP⟩ : ∃ P, Hid (pcsN p.size = P) := ⟨_, Lib.hid rfl⟩
  rw [hP.out] at hmn hps ⊢
  obtain ⟨R, hR⟩ : ∃ R, Hid (decide (E + P ≤ 16) = R) := ⟨_, Lib.hid rfl⟩
  rw [hR.out]
  clear hmp c7 c8 c4 cq
  go_enter Tryz.func95, Tryz.ntmps95
  go_wp2_with fail
  refine hla.out.mono ?_
  rintro _ w1 ⟨rfl, hb1⟩
  have hX1 := hX.below hb1 hX.lt
  have x0 : w1.cell? ⟨w.heap.size, 0, none⟩ = some (.int .i64 k) := hX1.cell 0
  have x1 : w1.cell? ⟨w.heap.size, 1, none⟩ = some (.string p) := hX1.cell 1
  replace hB := Lib.hid (grew hB.out hb1)
  clear hX hX1 hb1 hla
  cases sl with
  | true =>
    go_wp2_with fail
    refine (hsd.out _ hB.out).mono ?_
    rintro _ w2 ⟨rfl, rfl⟩
    go_wp2_with fail
    go_ret
    exact ⟨rfl, hB.out⟩
  | false =>
    go_wp2_with fail
    refine (hsd.out _ hB.out).mono ?_
    rintro _ w2 ⟨rfl, rfl⟩
    go_wp2_with fail
    refine (hsz.out _).mono ?_
    rintro _ w3 ⟨rfl, hb3⟩
    have hB3 := Lib.hid (grew hB.out hb3)
    clear x0 x1
    go_wp2_with fail
    refine (hmn.out _).mono ?_
    rintro _ w4 ⟨rfl, rfl⟩
    go_wp2_with fail
    refine (hen.out _ hB3.out).mono ?_
    rintro _ w5 ⟨rfl, rfl⟩
    have hw : IntKind.i64.wrap (16 - (E : Int)) = 16 - (E : Int) := IntWalk.i64_in _ (by omega)
    have hd : Hid (decide ((P : Int) ≤ 16 - (E : Int)) = R) := Lib.hid (by rw [← hR.out]; apply decide_eq_decide.2; omega)
    go_wp2_with fail
    go_ret
    exact ⟨by show Ending.returned (Value.bool (decide ((P : Int) ≤ 16 - (E : Int)))) = _; rw [hd.out]; rfl, hB3.out⟩
end Go.Proofs.YtahljbjgenepaaaGreatDoor.W
end
