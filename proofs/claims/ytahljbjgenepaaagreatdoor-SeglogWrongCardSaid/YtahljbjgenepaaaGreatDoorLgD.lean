/- Package seglog's put: a frame into the last segment, or into a new one. Package seglog's put: a frame into a new segment. Package seglog's New, put and Append. -/
import Derived.Test.YtahljbjgenepaaaGreatDoorLgA
import Derived.Deep.Cut
import Derived.Deep.CutRange
import Derived.Deep.AppendLies
section
namespace Go.Proofs.YtahljbjgenepaaaGreatDoor.W
open Go.RowKit
open Go.Proofs.YtahljbjgenepaaaGreatDoor.M Go.Proofs.YtahljbjgenepaaaGreatDoor.D Go.Proofs.YtahljbjgenepaaaGreatDoor.Z
set_option linter.unusedVariables false

abbrev ptV (sb : Nat) : Value := .pointer (some ⟨sb, 0, none⟩)
/-- A row of segments, and its block. -/
def RowPt (A : Option Addr) (c : Nat) (l : List Nat) (pk : List Bk) : Prop :=
  (l = [] ∧ A = none ∧ c = 0 ∧ pk = []) ∨ ∃ q cur, A = some ⟨q, 0, none⟩ ∧ pk = [(q, 77, cur)] ∧ l.length ≤ c ∧ c ≤ maxLen ∧ cur.length = c ∧ cur.take l.length = l.map ptV
theorem RowPt.own {A : Option Addr} {c : Nat} {l : List Nat} {pk : List Bk} {W : World} (h : RowPt A c l pk) (hK : ∀ x ∈ pk, Whole W x.1 x.2.1 x.2.2) : W.ownsRow 0 77 1 (.slice A l.length c) l.length (l.map ptV) := by
  rcases h with ⟨rfl, rfl, rfl, rfl⟩ | ⟨q, cur, rfl, rfl, h1, h2, h3, h4⟩
  · exact own_nil
  · have hW := hK _ (List.mem_singleton.2 rfl)
    exact ⟨by simp, .inr ⟨q, c, cur.toArray, rfl, Nat.zero_le _, hW, h1, h2, by rw [List.size_toArray, Nat.mul_one]; exact h3, by rw [Nat.mul_one]; exact h4⟩⟩
theorem RowPt.of_own {A : Option Addr} {c B : Nat} {l : List Nat} {W : World} (h0 : 0 < l.length) (h : W.ownsRow B 77 1 (.slice A l.length c) l.length (l.map ptV)) : ∃ pk, RowPt A c l pk ∧ ∀ x ∈ pk, Whole W x.1 x.2.1 x.2.2 ∧ B ≤ x.1 ∧ plainT x.2.1 := by
  rcases h.2 with ⟨e, h1⟩ | ⟨q, cap, cur, e, hb, hq, h1, h2, h3, h4⟩
  · omega
  · injection e with e1 e2 e3
    subst e1 e3
    refine ⟨_, .inr ⟨q, cur.toList, rfl, rfl, h1, h2, by rw [Array.length_toList, h3, Nat.mul_one], by rw [← h4, Nat.mul_one]⟩, fun x hx => ?_⟩
    obtain rfl := List.mem_singleton.1 hx
    exact ⟨by simpa [Whole] using hq, hb, show plainT 77 by decide⟩
theorem RowPt.slot {A : Option Addr} {c : Nat} {l : List Nat} {pk : List Bk} (h : RowPt A c l pk) : pk.map (·.1) = ((Value.slice A 0 0).ownBlock).toList := by
  rcases h with ⟨_, rfl, _, rfl⟩ | ⟨q, cur, rfl, rfl, _⟩ <;> rfl
theorem RowPt.types {A : Option Addr} {c : Nat} {l : List Nat} {pk : List Bk} (h : RowPt A c l pk) : ∀ x ∈ pk, x.2.1 = 77 := by
  rcases h with ⟨_, _, _, rfl⟩ | ⟨q, cur, rfl, rfl, _⟩
  · exact fun x hx => by simp at hx
  · intro x hx
    obtain rfl := List.mem_singleton.1 hx
    rfl
section
variable {w0 W W' : World} {vb d g' from_ m : Nat} {lie : List (List UInt8)} {ws : List (Nat × List UInt8)} {steps : Int} {K : List Bk} {r : Sr}
set_option maxRecDepth 100000 in
set_option maxHeartbeats 4000000 in
/-- Into the last segment. -/
theorem put_in (k : Int) (p : ByteArray) (lb pb id gen q n c nx : Nat) (cur : List Value) (h : VB w0 vb d g' lie ws from_ m steps (r.K vb ++ K) W) (ho : r.Ok) (hsl : r.sl = false) (hr : Room from_ m r.n) (hs : r.s < 4294967296) (hf : FrOk (k, p)) (hp : plc r.fs + pcsN p.size ≤ 16) (h0 : 0 ≤ steps) (h1 : steps ≤ 900000) (hw : ws.length ≤ 90000)
    (hL : (lb, 119, lgL vb pb id gen (some ⟨q, 0, none⟩) (n + 1) c nx) ∈ K) (hq : (q, 77, cur) ∈ K) (hcur : cur[n]? = some (ptV r.sb)) (hn : n < 100000) :
    Calls Tryz.prog 70 #[.pointer (some ⟨lb, 0, none⟩), .agg #[.int .i64 k, .string p]] W fun e w' => e = .returned (.int .i64 0) ∧
      ∃ la' lc' rk', ({ r with fs := r.fs ++ [(k, p)], la := la', lc := lc', rk := rk' } : Sr).Ok ∧
        VB w0 vb d g' lie (ws ++ putW from_ r.n r.s (r.fs.length + 2) (plc r.fs) (encF (r.s : Int) (plc r.fs : Int) k p.data.toList) (pcsN p.size)) from_ m (steps + pcsN p.size) (({ r with fs := r.fs ++ [(k, p)], la := la', lc := lc', rk := rk' } : Sr).K vb ++ K) w' := by
  have hpz : p.size ≤ 1000000 := by have := hf.2.2; simp only at this; omega
  have hB1 := allocBelow W (.cells #[.int .i64 k, .string p] 43)
  have hv1 := (h.new (q := W.heap.size) (t := 43) (cs := [.int .i64 k, .string p]) hB1 (Whole.new W _ _) (Nat.le_refl _) (by show plainT 43; decide)).perm (K' := r.K vb ++ ((W.heap.size, 43, [.int .i64 k, .string p]) :: K)) List.perm_middle.symm
  have hS1 := Sr.sg ho (fun x hx => hv1.got (List.mem_append_left _ hx))
  have hLw := hv1.got (List.mem_append_right _ (List.mem_cons_of_mem _ hL))
  have hQw := hv1.got (List.mem_append_right _ (List.mem_cons_of_mem _ hq))
  have htk := takes_some lb q n c r.sb r.sl (plc r.fs) k p _ hpz ho.fits hn (hLw.cell 4) ((hQw.cell n).trans hcur) (hS1.obj.cell 7) (hS1.obj.cell 8)
  rw [hsl, show (!false && decide (plc r.fs + pcsN p.size ≤ 16)) = true from by simp [hp]] at htk
  replace htk := Lib.hid htk
  have hx := hv1.got (List.mem_append_right (r.K vb) List.mem_cons_self)
  have x0 : (W.alloc (.cells #[.int .i64 k, .string p] 43)).cell? ⟨W.heap.size, 0, none⟩ = some (.int .i64 k) := hx.cell 0
  have x1 : (W.alloc (.cells #[.int .i64 k, .string p] 43)).cell? ⟨W.heap.size, 1, none⟩ = some (.string p) := hx.cell 1
  replace hv1 := Lib.hid hv1
  obtain ⟨W1, hW1⟩ : ∃ W1, Hid (W1 = W.alloc (.cells #[.int .i64 k, .string p] 43)) := ⟨_, Lib.hid rfl⟩
  rw [← hW1.out] at htk hv1 x0 x1
  obtain ⟨fb, hfb⟩ : ∃ fb, Hid (W.heap.size = fb) := ⟨_, Lib.hid rfl⟩
  rw [hfb.out] at hv1 x0 x1
  clear hS1 hLw hQw hx hB1
  go_enter Tryz.func70, Tryz.ntmps70
  go_upto_region 1 with fail
  rw [← show W1 = _ from hW1.out, hfb.out]
  clear hW1
  go_wp2_with fail
  refine htk.out.mono ?_
  rintro _ w2 ⟨rfl, hb2⟩
  have hv2 := hv1.out.below hb2
  have hx2 := hv2.got (List.mem_append_right (r.K vb) List.mem_cons_self)
  have y0 : w2.cell? ⟨fb, 0, none⟩ = some (.int .i64 k) := hx2.cell 0
  have y1 : w2.cell? ⟨fb, 1, none⟩ = some (.string p) := hx2.cell 1
  have hla : Hid (∀ V, Below w2.heap.size w2 V → Calls Tryz.prog 111 #[.pointer (some ⟨lb, 0, none⟩)] V fun e w' => e = .returned (.pointer (some ⟨r.sb, 0, none⟩)) ∧ Below V.heap.size V w') := Lib.hid (fun V hb => by
    have hv := hv2.below hb
    exact last_some lb q n c _ V hn ((hv.got (List.mem_append_right _ (List.mem_cons_of_mem _ hL))).cell 4) (((hv.got (List.mem_append_right _ (List.mem_cons_of_mem _ hq))).cell n).trans hcur))
  have hap : Hid (∀ V, Below w2.heap.size w2 V → Calls Tryz.prog 79 #[.pointer (some ⟨r.sb, 0, none⟩), .agg #[.int .i64 k, .string p]] V fun e w' => e = .returned (.tuple #[.int .i64 (plc r.fs : Int), .int .i64 0]) ∧
      ∃ la' lc' rk', ({ r with fs := r.fs ++ [(k, p)], la := la', lc := lc', rk := rk' } : Sr).Ok ∧
        VB w0 vb d g' lie (ws ++ putW from_ r.n r.s (r.fs.length + 2) (plc r.fs) (encF (r.s : Int) (plc r.fs : Int) k p.data.toList) (pcsN p.size)) from_ m (steps + pcsN p.size) (({ r with fs := r.fs ++ [(k, p)], la := la', lc := lc', rk := rk' } : Sr).K vb ++ ((fb, 43, [.int .i64 k, .string p]) :: K)) w') := Lib.hid (fun V hb => (hv2.below hb).append k p ho hsl hr hs hf hp h0 h1 hw)
  have hD := (Below.refl w2.heap.size w2).drew
  obtain ⟨P, hP⟩ : ∃ P, Hid (plc r.fs = P) := ⟨_, Lib.hid rfl⟩
  obtain ⟨sb, hsb⟩ : ∃ sb, Hid (r.sb = sb) := ⟨_, Lib.hid rfl⟩
  rw [hsb.out] at hla
  clear hv2 hx2 hb2 htk x0 x1 hv1
  go_wp2_with fail
  go_region_held3 (fun w' => w'.cell? ⟨fb, 0, none⟩ = some (.int .i64 k) ∧ w'.cell? ⟨fb, 1, none⟩ = some (.string p)) (first | assumption | (go_keep)) (first
    | (go_at_call 111; (with_reducible refine (hla.out _ hD).mono ?_); rintro _ w3 ⟨rfl, hb3⟩; have hk3 : Below w2.heap.size w2 w3 := grew hD hb3; have d0 := keepZ hk3 y0; have d1 := keepZ hk3 y1)
    | (go_at_call 79; rw [← hsb.out]; (with_reducible refine (hap.out _ hk3).mono ?_); rintro _ w4 ⟨rfl, la', lc', rk', ho4, h4⟩; have hx4 := h4.got (List.mem_append_right _ List.mem_cons_self); have e0 : w4.cell? ⟨fb, 0, none⟩ = some (.int .i64 k) := hx4.cell 0; have e1 : w4.cell? ⟨fb, 1, none⟩ = some (.string p) := hx4.cell 1))
  replace h4 := Lib.hid h4
  go_wp2_with fail
  go_ret
  exact ⟨rfl, la', lc', rk', ho4, h4.out.sub (List.Sublist.append_left (List.sublist_cons_self _ _) _)⟩
end
end Go.Proofs.YtahljbjgenepaaaGreatDoor.W
end
section
namespace Go.Proofs.YtahljbjgenepaaaGreatDoor.W
open Go.RowKit Go.Sort
open Go.Proofs.YtahljbjgenepaaaGreatDoor.M Go.Proofs.YtahljbjgenepaaaGreatDoor.D Go.Proofs.YtahljbjgenepaaaGreatDoor.Z
set_option linter.unusedVariables false

theorem infoPt : (Tryz.prog.info? 77).map (fun i => (i.zero, i.size, i.bytes)) = some (some (.pointer none), 1, 8) := by kernel_rfl
theorem perm_by {α : Type} {l1 l2 : List α} (h : ∀ [BEq α] [LawfulBEq α] (a : α), l1.count a = l2.count a) : l1.Perm l2 := by
  classical
  exact List.perm_iff_count.2 (fun a => h a)
section
variable {w0 W W' : World} {vb d g' from_ m : Nat} {lie : List (List UInt8)} {ws : List (Nat × List UInt8)} {steps : Int} {K : List Bk} {r : Sr}
/-- A segment behind a row of segments. -/
theorem VB.appended {A : Option Addr} {c sb gg c' : Nat} {l : List Nat} {pk : List Bk} {o : Obj} (h : VB w0 vb d g' lie ws from_ m steps (pk ++ K) W) (hr : RowPt A c l pk) (hg : (W.alloc o).grownBy W' (Value.slice A l.length c).ownBlock)
    (hown : W'.ownsRow 0 77 1 (.slice (some ⟨gg, 0, none⟩) (l.length + 1) c') (l.length + 1) (l.map ptV ++ [ptV sb])) (hat : (Value.slice A l.length c).ownBlock = some gg ∨ gg = W.heap.size + 1) :
    ∃ pk', RowPt (some ⟨gg, 0, none⟩) c' (l ++ [sb]) pk' ∧ VB w0 vb d g' lie ws from_ m steps (pk' ++ K) W' := by
  have e1 : (l ++ [sb]).length = l.length + 1 := by rw [List.length_append, List.length_singleton]
  have e2 : (l ++ [sb]).map ptV = l.map ptV ++ [ptV sb] := by rw [List.map_append]; rfl
  obtain ⟨pk', k1, k2⟩ := RowPt.of_own (l := l ++ [sb]) (A := some ⟨gg, 0, none⟩) (c := c') (W := W') (B := 0) (by omega) (by rw [e1, e2]; exact hown)
  have hso : ∀ x ∈ pk', x.1 = gg := fun x hx => by
    have h2 : x.1 ∈ pk'.map (·.1) := List.mem_map_of_mem hx
    rw [k1.slot] at h2
    have h3 := Option.mem_toList.1 h2
    have h4 : (Value.slice (some ⟨gg, 0, none⟩) 0 0).ownBlock = some gg := rfl
    rw [h4] at h3
    exact (Option.some.inj h3).symm
  have hold : ∀ q, (Value.slice A l.length c).ownBlock = some q → ∃ x ∈ pk, x.1 = q := fun q hq => by
    rw [ownBlock_slice] at hq
    have h2 : q ∈ pk.map (·.1) := by rw [hr.slot]; exact Option.mem_toList.2 hq
    exact List.mem_map.1 h2
  have hk : Kept (fun q => (Value.slice A l.length c).ownBlock = some q) W W' := ((Kept.refl (fun q => (Value.slice A l.length c).ownBlock = some q) W).alloc o).grown hg (fun q hq => .inl hq)
  have hap := h.blk.apart
  rw [List.map_append, List.nodup_append] at hap
  have hKo : ∀ x ∈ K, ¬ (Value.slice A l.length c).ownBlock = some x.1 := fun x hx e => by
    obtain ⟨y, hy, e2⟩ := hold _ e
    exact hap.2.2 y.1 (List.mem_map_of_mem hy) x.1 (List.mem_map_of_mem hx) e2
  refine ⟨pk', k1, SV.plain h.view hk (fun q hq => ?_), fun x hx => ?_, ?_⟩
  · obtain ⟨y, hy, rfl⟩ := hold q hq
    obtain ⟨f1, f2, f3⟩ := h.blk.all y (List.mem_append_left _ hy)
    exact ⟨f3, .inl ⟨_, _, f1, f2⟩⟩
  · rcases List.mem_append.1 hx with hx | hx
    · refine ⟨(k2 x hx).1, (k2 x hx).2.2, ?_⟩
      rw [hso x hx]
      rcases hat with e | e
      · obtain ⟨y, hy, rfl⟩ := hold gg e
        exact (h.blk.all y (List.mem_append_left _ hy)).2.2
      · have := h.size; omega
    · exact ⟨(h.got (List.mem_append_right _ hx)).of_kept hk (hKo x hx), (h.blk.all x (List.mem_append_right _ hx)).2⟩
  · rw [List.map_append, List.nodup_append]
    refine ⟨?_, hap.2.1, fun q hq y hy => ?_⟩
    · rw [k1.slot]
      show ([gg] : List Nat).Nodup
      simp
    · obtain ⟨x, hx, rfl⟩ := List.mem_map.1 hq
      obtain ⟨z, hz, rfl⟩ := List.mem_map.1 hy
      intro e
      rw [hso x hx] at e
      have hlt := (h.got (List.mem_append_right _ hz)).lt
      rcases hat with e2 | e2
      · exact hKo z hz (by rw [e2, e])
      · omega
set_option maxRecDepth 100000 in
set_option maxHeartbeats 4000000 in
/-- Into a new one. -/
theorem putAnew_yes (k : Int) (p : ByteArray) (pb pa lb id gen c nx ep ct sg : Nat) (l : List Int) (A : Option Addr) (sbs : List Nat) (pk : List Bk)
    (h : VB w0 vb d g' lie ws from_ m steps (plK pb pa l ep ct ++ ((lb, 119, lgL vb pb id gen A sbs.length c nx) :: (pk ++ K))) W) (hrow : RowPt A c sbs pk) (hns : sbs.length ≤ 1000)
    (hl64 : l.length ≤ 64) (hep : ep < 65536) (hct : ct < 65536) (hfst : FirstAt l sg) (hid1 : 1 ≤ id) (hid : id < 65536) (hgen : gen < 4294967296) (hnx : nx ≤ 1099511627776) (hT : Wide w0) (hr : Room from_ m sg) (hf : FrOk (k, p)) (h0 : 0 ≤ steps) (h1 : steps ≤ 800000) (hw : ws.length ≤ 80000) :
    Calls Tryz.prog 110 #[.pointer (some ⟨lb, 0, none⟩), .agg #[.int .i64 k, .string p]] W fun e w' => e = .returned (.int .i64 0) ∧
      ∃ sb la' lc' rk' A' c' pk', (⟨sb, sg, id, gen, 65536 * ep + ct, nx, [(k, p)], la', lc', rk', false⟩ : Sr).Ok ∧ RowPt A' c' (sbs ++ [sb]) pk' ∧
        VB w0 vb d g' lie ((ws ++ putW from_ sg (65536 * ep + ct) 1 0 (headerL id gen (65536 * ep + ct) nx) 1) ++ putW from_ sg (65536 * ep + ct) 2 1 (encF ((65536 * ep + ct : Nat) : Int) 1 k p.data.toList) (pcsN p.size)) from_ m (steps + 1 + pcsN p.size)
          (plK pb pa (l.set sg (id : Int)) ep (ct + 1) ++ ((lb, 119, lgL vb pb id gen A' (sbs.length + 1) c' nx) :: (pk' ++ ((⟨sb, sg, id, gen, 65536 * ep + ct, nx, [(k, p)], la', lc', rk', false⟩ : Sr).K vb ++ K)))) w' := by
  have hpz : p.size ≤ 773 := hf.2.2
  have hpc : pcsN p.size ≤ 15 := by unfold pcsN; omega
  obtain ⟨L, hL⟩ : ∃ L, Hid (lgL vb pb id gen A sbs.length c nx = L) := ⟨_, Lib.hid rfl⟩
  have hB1 := allocBelow W (.cells #[.int .i64 k, .string p] 43)
  have hv1 := (h.new (q := W.heap.size) (t := 43) (cs := [.int .i64 k, .string p]) hB1 (Whole.new W _ _) (Nat.le_refl _) (by show plainT 43; decide)).perm (K' := plK pb pa l ep ct ++ ((W.heap.size, 43, [.int .i64 k, .string p]) :: (lb, 119, lgL vb pb id gen A sbs.length c nx) :: (pk ++ K))) List.perm_middle.symm
  obtain ⟨W1, hW1⟩ : ∃ W1, Hid (W1 = W.alloc (.cells #[.int .i64 k, .string p] 43)) := ⟨_, Lib.hid rfl⟩
  rw [← hW1.out] at hv1
  obtain ⟨fb, hfb⟩ : ∃ fb, Hid (W.heap.size = fb) := ⟨_, Lib.hid rfl⟩
  rw [hfb.out] at hv1
  obtain ⟨S, hS⟩ : ∃ S, Hid (65536 * ep + ct = S) := ⟨_, Lib.hid rfl⟩
  have hSl : S < 4294967296 := by have := hS.out; omega
  have hLog1 := hv1.got (List.mem_append_right (plK pb pa l ep ct) (List.mem_cons_of_mem _ List.mem_cons_self))
  have a1 : W1.cell? ⟨lb, 1, none⟩ = some (.pointer (some ⟨pb, 0, none⟩)) := hLog1.cell 1
  have a2 : W1.cell? ⟨lb, 2, none⟩ = some (.int .i64 (id : Int)) := hLog1.cell 2
  have htk : Hid (∀ V, Below W1.heap.size W1 V → Calls Tryz.prog 145 #[.pointer (some ⟨pb, 0, none⟩), .int .i64 (id : Int)] V fun e w' => e = .returned (.tuple #[.int .i64 (sg : Int), .int .u32 (S : Int), .int .i64 0]) ∧
      VB w0 vb d g' lie ws from_ m steps (plK pb pa (l.set sg (id : Int)) ep (ct + 1) ++ ((fb, 43, [.int .i64 k, .string p]) :: (lb, 119, lgL vb pb id gen A sbs.length c nx) :: (pk ++ K))) w') := Lib.hid (fun V hb => by
    have hv := hv1.below hb
    refine (ptake_done hv.pool hl64 hep hct (id : Int) (by unfold okG; simp; omega) sg hfst).mono ?_
    rintro e w' ⟨r1, r2, r3⟩
    rw [hS.out] at r1
    exact ⟨r1, hv.pooled r2 r3⟩)
  have hD := (Below.refl W1.heap.size W1).drew
  rw [hS.out]
  clear hv1 hLog1 hB1
  go_enter Tryz.func110, Tryz.ntmps110
  go_upto_region 1 with fail
  rw [← show W1 = _ from hW1.out, hfb.out]
  clear hW1
  go_region_held3 (fun w' => w'.cell? ⟨lb, 1, none⟩ = some (.pointer (some ⟨pb, 0, none⟩)) ∧ w'.cell? ⟨lb, 2, none⟩ = some (.int .i64 (id : Int))) (first | assumption | (go_keep)) (first
    | (go_at_call 145; (with_reducible refine (htk.out _ hD).mono ?_); rintro _ w2 ⟨rfl, hv2⟩; have hLog2 := hv2.got (List.mem_append_right (plK pb pa (l.set sg (id : Int)) ep (ct + 1)) (List.mem_cons_of_mem _ List.mem_cons_self)); have b1 : w2.cell? ⟨lb, 1, none⟩ = some (.pointer (some ⟨pb, 0, none⟩)) := hLog2.cell 1; have b2 : w2.cell? ⟨lb, 2, none⟩ = some (.int .i64 (id : Int)) := hLog2.cell 2))
  have b0 : w2.cell? ⟨lb, 0, none⟩ = some (.pointer (some ⟨vb, 0, none⟩)) := hLog2.cell 0
  have b3 : w2.cell? ⟨lb, 3, none⟩ = some (.int .u32 (gen : Int)) := hLog2.cell 3
  have b5 : w2.cell? ⟨lb, 5, none⟩ = some (.int .i64 (nx : Int)) := hLog2.cell 5
  have hcr : Hid (∀ V, Below w2.heap.size w2 V → Calls Tryz.prog 78 #[.pointer (some ⟨vb, 0, none⟩), .int .i64 (sg : Int), .agg #[.int .i64 (id : Int), .int .u32 (gen : Int), .int .u32 (S : Int), .int .i64 (nx : Int)]] V fun e w' => ∃ sb, e = .returned (.tuple #[.pointer (some ⟨sb, 0, none⟩), .int .i64 0]) ∧
      VB w0 vb d g' lie (ws ++ putW from_ sg S 1 0 (headerL id gen S nx) 1) from_ m (steps + 1) ((Sr.made sb sg id gen S nx).K vb ++ (plK pb pa (l.set sg (id : Int)) ep (ct + 1) ++ ((fb, 43, [.int .i64 k, .string p]) :: (lb, 119, lgL vb pb id gen A sbs.length c nx) :: (pk ++ K)))) w') := Lib.hid (fun V hb => (hv2.below hb).create sg id gen S nx hr (hT.below (hv2.below hb).since) hid1 hid hgen hSl hnx h0 (by omega) (by omega))
  have hD2 := (Below.refl w2.heap.size w2).drew
  clear a1 a2 htk hLog2 hv2 hD
  go_wp2_with fail
  go_region_held3 (fun w' => w'.cell? ⟨lb, 0, none⟩ = some (.pointer (some ⟨vb, 0, none⟩)) ∧ w'.cell? ⟨lb, 2, none⟩ = some (.int .i64 (id : Int)) ∧ w'.cell? ⟨lb, 3, none⟩ = some (.int .u32 (gen : Int)) ∧ w'.cell? ⟨lb, 5, none⟩ = some (.int .i64 (nx : Int))) (first | assumption | (go_keep)) (first
    | (go_at_call 78; (with_reducible refine (hcr.out _ hD2).mono ?_); rintro _ w3 ⟨sb, rfl, hv3⟩; have hLog3 := hv3.got (List.mem_append_right ((Sr.made sb sg id gen S nx).K vb) (List.mem_append_right (plK pb pa (l.set sg (id : Int)) ep (ct + 1)) (List.mem_cons_of_mem _ List.mem_cons_self))); have f0 : w3.cell? ⟨lb, 0, none⟩ = some (.pointer (some ⟨vb, 0, none⟩)) := hLog3.cell 0; have f2 : w3.cell? ⟨lb, 2, none⟩ = some (.int .i64 (id : Int)) := hLog3.cell 2; have f3 : w3.cell? ⟨lb, 3, none⟩ = some (.int .u32 (gen : Int)) := hLog3.cell 3; have f5 : w3.cell? ⟨lb, 5, none⟩ = some (.int .i64 (nx : Int)) := hLog3.cell 5))
  have hx3 := hv3.got (List.mem_append_right ((Sr.made sb sg id gen S nx).K vb) (List.mem_append_right (plK pb pa (l.set sg (id : Int)) ep (ct + 1)) List.mem_cons_self))
  have y0 : w3.cell? ⟨fb, 0, none⟩ = some (.int .i64 k) := hx3.cell 0
  have y1 : w3.cell? ⟨fb, 1, none⟩ = some (.string p) := hx3.cell 1
  have hap := Lib.hid (hv3.append k p (Sr.made_ok _ _ _ _ _ _) rfl hr hSl hf (by show 1 + pcsN p.size ≤ 16; omega) (by omega) (by omega) (by rw [List.length_append, putW_len]; omega))
  have hap2 : Hid (Calls Tryz.prog 79 #[.pointer (some ⟨sb, 0, none⟩), .agg #[.int .i64 k, .string p]] w3 fun e w' => e = .returned (.tuple #[.int .i64 1, .int .i64 0]) ∧
      ∃ la' lc' rk', (⟨sb, sg, id, gen, S, nx, [(k, p)], la', lc', rk', false⟩ : Sr).Ok ∧
        VB w0 vb d g' lie ((ws ++ putW from_ sg S 1 0 (headerL id gen S nx) 1) ++ putW from_ sg S 2 1 (encF (S : Int) 1 k p.data.toList) (pcsN p.size)) from_ m (steps + 1 + pcsN p.size) ((⟨sb, sg, id, gen, S, nx, [(k, p)], la', lc', rk', false⟩ : Sr).K vb ++ (plK pb pa (l.set sg (id : Int)) ep (ct + 1) ++ ((fb, 43, [.int .i64 k, .string p]) :: (lb, 119, lgL vb pb id gen A sbs.length c nx) :: (pk ++ K)))) w') := Lib.hid hap.out
  clear b0 b1 b2 b3 b5 f0 f2 f3 f5 hap hcr hLog3 hx3 hv3 hD2
  go_wp2_with fail
  refine hap2.out.mono ?_
  rintro _ w4 ⟨rfl, la', lc', rk', ho4, hv4⟩
  obtain ⟨r, hr4⟩ : ∃ r, Hid ((⟨sb, sg, id, gen, S, nx, [(k, p)], la', lc', rk', false⟩ : Sr) = r) := ⟨_, Lib.hid rfl⟩
  rw [hr4.out] at hv4
  have hLog4 := hv4.got (List.mem_append_right (r.K vb) (List.mem_append_right (plK pb pa (l.set sg (id : Int)) ep (ct + 1)) (List.mem_cons_of_mem _ List.mem_cons_self)))
  have c4 : w4.cell? ⟨lb, 4, none⟩ = some (.slice A sbs.length c) := hLog4.cell 4
  have hv5 := hv4.perm (K' := pk ++ ((lb, 119, lgL vb pb id gen A sbs.length c nx) :: (fb, 43, [.int .i64 k, .string p]) :: (r.K vb ++ (plK pb pa (l.set sg (id : Int)) ep (ct + 1) ++ K)))) (perm_by fun a => by simp only [List.count_append, List.count_cons]; omega)
  have hown4 := hrow.own (fun x hx => hv5.got (List.mem_append_left _ hx))
  obtain ⟨i0, hi0, hz0, hz1, hz2⟩ := info_parts infoPt
  replace hv5 := Lib.hid hv5
  replace hown4 := Lib.hid hown4
  clear hv4 hLog4 hap2 y0 y1
  go_wp2_with (with_reducible refine zAppend _ _ _ rfl ?_)
  refine Lib.hid ?_
  refine wpList_append_lies _ rfl _ _ 58 rfl 0 77 i0 _ 1 8 Tryz.underlying58 hi0 hz0 hz1 hz2 rfl (by omega) (.slice A sbs.length c) sbs.length (sbs.map ptV) rfl (hown4.out.alloc _) _ 1 1 [ptV sb] rfl rfl (World.news_of_block (heap_alloc_new _ _)) (by simp [Value.oneCell']) (by omega) (by unfold maxLen; omega) (by omega) (Nat.zero_le _) (w4.heap.size + 1) (by simp) ?_
  intro gg cap w5 hown5 hgrow5 hat5 hlt5
  obtain ⟨pk', hrow5, hv6⟩ := hv5.out.appended hrow hgrow5 hown5 hat5
  have hv7 := hv6.perm (K' := (lb, 119, lgL vb pb id gen A sbs.length c nx) :: (fb, 43, [.int .i64 k, .string p]) :: (plK pb pa (l.set sg (id : Int)) ep (ct + 1) ++ (pk' ++ (r.K vb ++ K)))) (perm_by fun a => by simp only [List.count_append, List.count_cons]; omega)
  have hLog7 := hv7.got List.mem_cons_self
  have g4 : w5.cell? ⟨lb, 4, none⟩ = some (.slice A sbs.length c) := hLog7.cell 4
  have z4 := hLog7.frozen 4
  have hLog8 : Whole (w5.setCell ⟨lb, 4, none⟩ (.slice (some ⟨gg, 0, none⟩) (sbs.length + 1) cap)) lb 119 (lgL vb pb id gen (some ⟨gg, 0, none⟩) (sbs.length + 1) cap nx) := hLog7.store 4 [.slice (some ⟨gg, 0, none⟩) (sbs.length + 1) cap] (by simp)
  have hv8 := hv7.set ((Kept.refl (fun q => q = lb) w5).setCell (c := lb) (.inl rfl) 4 (.slice (some ⟨gg, 0, none⟩) (sbs.length + 1) cap)) hLog8
  have hv9 := (hv8.sub (K' := (lb, 119, lgL vb pb id gen (some ⟨gg, 0, none⟩) (sbs.length + 1) cap nx) :: (plK pb pa (l.set sg (id : Int)) ep (ct + 1) ++ (pk' ++ (r.K vb ++ K)))) (List.Sublist.cons_cons _ (List.sublist_cons_self _ _))).perm (K' := plK pb pa (l.set sg (id : Int)) ep (ct + 1) ++ ((lb, 119, lgL vb pb id gen (some ⟨gg, 0, none⟩) (sbs.length + 1) cap nx) :: (pk' ++ (r.K vb ++ K)))) (perm_by fun a => by simp only [List.count_append, List.count_cons]; omega)
  rw [← hr4.out] at hv9
  replace hv9 := Lib.hid hv9
  clear hv6 hv7 hv8 hLog7 hLog8 hown5 hgrow5 hat5
  go_wp2_with fail
  go_ret
  have h9 := hv9.out
  rw [List.append_assoc ws] at h9
  exact ⟨rfl, sb, la', lc', rk', ho4, _, cap, pk', hrow5, h9⟩
end
end Go.Proofs.YtahljbjgenepaaaGreatDoor.W
end
section
namespace Go.Proofs.YtahljbjgenepaaaGreatDoor.W
open Go.RowKit Go.Sort
open Go.Proofs.YtahljbjgenepaaaGreatDoor.M Go.Proofs.YtahljbjgenepaaaGreatDoor.D Go.Proofs.YtahljbjgenepaaaGreatDoor.Z
set_option linter.unusedVariables false
section
variable {w0 W W' : World} {vb d g' from_ m : Nat} {lie : List (List UInt8)} {ws : List (Nat × List UInt8)} {steps : Int} {K : List Bk} {r : Sr}
/-- What putAnew leaves. -/
def PutNew (w0 : World) (vb d g' : Nat) (lie : List (List UInt8)) (ws : List (Nat × List UInt8)) (from_ m : Nat) (steps : Int) (K : List Bk) (k : Int) (p : ByteArray) (pb pa lb id gen nx ep ct sg : Nat) (l : List Int) (sbs : List Nat) (w' : World) : Prop :=
  ∃ sb la' lc' rk' A' c' pk', (⟨sb, sg, id, gen, 65536 * ep + ct, nx, [(k, p)], la', lc', rk', false⟩ : Sr).Ok ∧ RowPt A' c' (sbs ++ [sb]) pk' ∧
    VB w0 vb d g' lie ((ws ++ putW from_ sg (65536 * ep + ct) 1 0 (headerL id gen (65536 * ep + ct) nx) 1) ++ putW from_ sg (65536 * ep + ct) 2 1 (encF ((65536 * ep + ct : Nat) : Int) 1 k p.data.toList) (pcsN p.size)) from_ m (steps + 1 + pcsN p.size)
      (plK pb pa (l.set sg (id : Int)) ep (ct + 1) ++ ((lb, 119, lgL vb pb id gen A' (sbs.length + 1) c' nx) :: (pk' ++ ((⟨sb, sg, id, gen, 65536 * ep + ct, nx, [(k, p)], la', lc', rk', false⟩ : Sr).K vb ++ K)))) w'
set_option maxRecDepth 100000 in
theorem put_new (k : Int) (p : ByteArray) (pb pa lb id gen c nx ep ct sg : Nat) (l : List Int) (A : Option Addr) (sbs : List Nat) (pk : List Bk)
    (h : VB w0 vb d g' lie ws from_ m steps (plK pb pa l ep ct ++ ((lb, 119, lgL vb pb id gen A sbs.length c nx) :: (pk ++ K))) W) (hrow : RowPt A c sbs pk) (hns : sbs.length ≤ 1000)
    (hl64 : l.length ≤ 64) (hep : ep < 65536) (hct : ct < 65536) (hfst : FirstAt l sg) (hid1 : 1 ≤ id) (hid : id < 65536) (hgen : gen < 4294967296) (hnx : nx ≤ 1099511627776) (hT : Wide w0) (hr : Room from_ m sg) (hf : FrOk (k, p)) (h0 : 0 ≤ steps) (h1 : steps ≤ 800000) (hw : ws.length ≤ 80000)
    (htk : ∀ V, Below W.heap.size W V → Calls Tryz.prog 95 #[.pointer (some ⟨lb, 0, none⟩), .agg #[.int .i64 k, .string p]] V fun e w' => e = .returned (.bool false) ∧ Below V.heap.size V w') :
    Calls Tryz.prog 70 #[.pointer (some ⟨lb, 0, none⟩), .agg #[.int .i64 k, .string p]] W fun e w' => e = .returned (.int .i64 0) ∧ PutNew w0 vb d g' lie ws from_ m steps K k p pb pa lb id gen nx ep ct sg l sbs w' := by
  have hB1 := allocBelow W (.cells #[.int .i64 k, .string p] 43)
  have hX := Whole.new W 43 [.int .i64 k, .string p]
  have htk1 := Lib.hid (htk _ hB1)
  have hpa : Hid (∀ V, Below W.heap.size W V → Calls Tryz.prog 110 #[.pointer (some ⟨lb, 0, none⟩), .agg #[.int .i64 k, .string p]] V fun e w' => e = .returned (.int .i64 0) ∧ PutNew w0 vb d g' lie ws from_ m steps K k p pb pa lb id gen nx ep ct sg l sbs w') := Lib.hid (fun V hb =>
    putAnew_yes k p pb pa lb id gen c nx ep ct sg l A sbs pk (h.below hb) hrow hns hl64 hep hct hfst hid1 hid hgen hnx hT hr hf h0 h1 hw)
  obtain ⟨Q, hQ⟩ : ∃ Q : World → Prop, Hid (PutNew w0 vb d g' lie ws from_ m steps K k p pb pa lb id gen nx ep ct sg l sbs = Q) := ⟨_, Lib.hid rfl⟩
  rw [hQ.out] at hpa ⊢
  clear h htk hrow
  go_enter Tryz.func70, Tryz.ntmps70
  go_wp2_with fail
  refine htk1.out.mono ?_
  rintro _ w2 ⟨rfl, hb2⟩
  have hX2 := hX.below hb2 hX.lt
  have x0 : w2.cell? ⟨W.heap.size, 0, none⟩ = some (.int .i64 k) := hX2.cell 0
  have x1 : w2.cell? ⟨W.heap.size, 1, none⟩ = some (.string p) := hX2.cell 1
  have hB2 := grew hB1 hb2
  clear hX hX2 hb2 htk1 hB1
  go_wp2_with fail
  refine (hpa.out _ hB2).mono ?_
  rintro _ w3 ⟨rfl, h3⟩
  replace h3 := Lib.hid h3
  go_wp2_with fail
  go_ret
  exact ⟨rfl, h3.out⟩
set_option maxRecDepth 100000 in
/-- Append, by what put leaves. -/
theorem log_append_by (Post : World → Prop) (k : Int) (p : ByteArray) (lb nx : Nat) (hf : FrOk (k, p)) (hnx : nx ≤ 1099511627776)
    (hput : ∀ V, Below W.heap.size W V → Calls Tryz.prog 70 #[.pointer (some ⟨lb, 0, none⟩), .agg #[.int .i64 k, .string p]] V fun e w' => e = .returned (.int .i64 0) ∧ Post w')
    (hobj : ∀ w', Post w' → w'.cell? ⟨lb, 5, none⟩ = some (.int .i64 (nx : Int)) ∧ w'.frozen? ⟨lb, 5, none⟩ = false) :
    Calls Tryz.prog 27 #[.pointer (some ⟨lb, 0, none⟩), .agg #[.int .i64 k, .string p]] W fun e w' => e = .returned (.tuple #[.int .i64 (nx : Int), .int .i64 0]) ∧ ∃ w1, Post w1 ∧ w' = w1.setCell ⟨lb, 5, none⟩ (.int .i64 ((nx + 1 : Nat) : Int)) := by
  have hpz : p.size ≤ 1000000 := by have := hf.2.2; simp only at this; omega
  have hB1 := allocBelow W (.cells #[.int .i64 k, .string p] 43)
  have hX := Whole.new W 43 [.int .i64 k, .string p]
  have hch := fun V => check_any k p V hpz
  rw [show wrongF 1 k p.size = 0 from by
    obtain ⟨z1, z2, z3⟩ := hf
    simp only at z1 z2 z3
    unfold wrongF
    rw [if_neg (by omega), if_neg (by omega)]] at hch
  replace hch := Lib.hid hch
  replace hput := Lib.hid hput
  replace hobj := Lib.hid hobj
  have hw : IntKind.i64.wrap ((nx : Int) + 1) = ((nx + 1 : Nat) : Int) := by rw [IntWalk.i64_in _ (by omega)]; omega
  have x0 : (W.alloc (.cells #[.int .i64 k, .string p] 43)).cell? ⟨W.heap.size, 0, none⟩ = some (.int .i64 k) := hX.cell 0
  have x1 : (W.alloc (.cells #[.int .i64 k, .string p] 43)).cell? ⟨W.heap.size, 1, none⟩ = some (.string p) := hX.cell 1
  obtain ⟨W1, hW1⟩ : ∃ W1, Hid (W1 = W.alloc (.cells #[.int .i64 k, .string p] 43)) := ⟨_, Lib.hid rfl⟩
  rw [← hW1.out] at hB1 hX x0 x1
  go_enter Tryz.func27, Tryz.ntmps27
  go_upto_region 1 with fail
  rw [← show W1 = _ from hW1.out]
  clear hW1
  go_wp2_with fail
  refine (hch.out _).mono ?_
  rintro _ w2 ⟨rfl, hb2⟩
  have hX2 := hX.below hb2 hX.lt
  clear x0 x1
  have x0 : w2.cell? ⟨W.heap.size, 0, none⟩ = some (.int .i64 k) := hX2.cell 0
  have x1 : w2.cell? ⟨W.heap.size, 1, none⟩ = some (.string p) := hX2.cell 1
  have hB2 := grew hB1 hb2
  clear hX hX2 hb2 hB1
  go_wp2_with fail
  refine (hput.out _ hB2).mono ?_
  rintro _ w3 ⟨rfl, h3⟩
  obtain ⟨c5, z5⟩ := hobj.out _ h3
  replace h3 := Lib.hid h3
  clear x0 x1 hB2
  go_wp2_with fail
  go_ret2
  exact ⟨rfl, w3, h3.out, rfl⟩
set_option maxRecDepth 100000 in
theorem log_new_yes (pb id gen base : Nat) (W : World) (hT : Wide W) (hid1 : 1 ≤ id) (hid : id < 65536) (hgen : gen < 4294967296) (hb : base ≤ 1099511627776) :
    Calls Tryz.prog 14 #[.pointer (some ⟨vb, 0, none⟩), .pointer (some ⟨pb, 0, none⟩), .int .i64 (id : Int), .int .u32 (gen : Int), .int .i64 (base : Int)] W fun e w' => ∃ lb, e = .returned (.tuple #[.pointer (some ⟨lb, 0, none⟩), .int .i64 0]) ∧ W.heap.size ≤ lb ∧ Whole w' lb 119 (lgL vb pb id gen none 0 0 base) ∧ Below W.heap.size W w' := by
  have hen := Lib.hid (encH_yes id gen 0 base W hT hid1 hid hgen (by decide) hb)
  go_enter Tryz.func14, Tryz.ntmps14
  go_wp2_with fail
  refine hen.out.mono ?_
  rintro _ w1 ⟨rfl, hb1⟩
  have hN := Lib.hid (Whole.new w1 119 (lgL vb pb id gen none 0 0 base))
  have hB := Lib.hid (grewAlloc hb1 (.cells (lgL vb pb id gen none 0 0 base).toArray 119))
  have hs := hb1.size
  clear hb1
  go_wp2_with fail
  go_ret2
  exact ⟨_, rfl, hs, hN.out, hB.out⟩
theorem log_new_no (pb : Nat) (id gen base : Int) (W : World) (hno : okH id base = false) :
    Calls Tryz.prog 14 #[.pointer (some ⟨vb, 0, none⟩), .pointer (some ⟨pb, 0, none⟩), .int .i64 id, .int .u32 gen, .int .i64 base] W fun e w' => e = .returned (.tuple #[.pointer none, .int .i64 1]) ∧ Below W.heap.size W w' := by
  have hen := Lib.hid (encH_no id gen 0 base W hno)
  go_enter Tryz.func14, Tryz.ntmps14
  go_wp2_with fail
  refine hen.out.mono ?_
  rintro _ w1 ⟨rfl, hb1⟩
  replace hb1 := Lib.hid hb1
  go_wp2_with fail
  go_ret2
  exact ⟨rfl, hb1.out⟩
end
end Go.Proofs.YtahljbjgenepaaaGreatDoor.W
end
