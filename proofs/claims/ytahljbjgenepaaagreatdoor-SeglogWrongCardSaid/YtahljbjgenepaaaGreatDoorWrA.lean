/- Layer 14's law: any frames behind one another into one log, whose segments lie in its view as they are. Layer 14's law: its start. Layer 14's law: segments that are loaded. Package seglog: isOwn. Package seglog: claim. Package seglog: Adopt. Layer 14's law: what is adopted, and what is not. -/
import Derived.Test.YtahljbjgenepaaaGreatDoorEig
import Derived.Test.YtahljbjgenepaaaGreatDoorScA
import Derived.Test.YtahljbjgenepaaaGreatDoorCells
import Derived.Deep.Cut
import Derived.Test.YtahljbjgenepaaaGreatDoorQuietB
import Derived.Deep.Quiet
import Derived.Deep.QuietTactic
import Derived.Deep.RegionHeld3
section
namespace Go.Proofs.YtahljbjgenepaaaGreatDoor.W
open Go.RowKit Go.Sort
open Go.Proofs.YtahljbjgenepaaaGreatDoor.M Go.Proofs.YtahljbjgenepaaaGreatDoor.D Go.Proofs.YtahljbjgenepaaaGreatDoor.Z
set_option linter.unusedVariables false
set_option linter.unusedSimpArgs false

section
variable {w0 W W' : World} {vb d g' from_ m : Nat} {lie : List (List UInt8)} {ws : List (Nat × List UInt8)} {steps : Int} {K : List Bk} {r : Sr}
set_option maxRecDepth 100000 in
theorem lappend_bad (k : Int) (p : ByteArray) (lb : Nat) (W : World) (hpz : p.size ≤ 1000000) (hno : wrongF 1 k p.size ≠ 0) :
    Calls Tryz.prog 27 #[.pointer (some ⟨lb, 0, none⟩), .agg #[.int .i64 k, .string p]] W fun e w' => (∃ a b, e = .returned (.tuple #[a, b])) ∧ Below W.heap.size W w' := by
  have hB1 := allocBelow W (.cells #[.int .i64 k, .string p] 43)
  have hX := Whole.new W 43 [.int .i64 k, .string p]
  have hch := fun V => check_any k p V hpz
  obtain ⟨E, hE⟩ : ∃ E, Hid (wrongF 1 k p.size = E) := ⟨_, Lib.hid rfl⟩
  rw [hE.out] at hch hno
  have h1 : (E != 0) = true := by simpa using hno
  replace hch := Lib.hid hch
  replace hno := Lib.hid hno
  have x0 : (W.alloc (.cells #[.int .i64 k, .string p] 43)).cell? ⟨W.heap.size, 0, none⟩ = some (.int .i64 k) := hX.cell 0
  have x1 : (W.alloc (.cells #[.int .i64 k, .string p] 43)).cell? ⟨W.heap.size, 1, none⟩ = some (.string p) := hX.cell 1
  obtain ⟨W1, hW1⟩ : ∃ W1, Hid (W1 = W.alloc (.cells #[.int .i64 k, .string p] 43)) := ⟨_, Lib.hid rfl⟩
  rw [← hW1.out] at hB1 hX x0 x1
  clear hX
  replace hB1 := Lib.hid hB1
  go_enter Tryz.func27, Tryz.ntmps27
  go_upto_region 1 with fail
  rw [← show W1 = _ from hW1.out]
  clear hW1
  go_wp2_with fail
  refine (hch.out _).mono ?_
  rintro _ w2 ⟨rfl, hb2⟩
  have hB2 := Lib.hid (grew hB1.out hb2)
  clear x0 x1 hB1 hb2 hch
  go_wp2_with fail
  go_ret2
  exact ⟨⟨_, _, rfl⟩, hB2.out⟩
set_option maxRecDepth 100000 in
set_option maxHeartbeats 4000000 in
/-- A pool of which all is taken. -/
theorem putAnew_full (k : Int) (p : ByteArray) (pb pa lb id gen c nx ep ct N : Nat) (l : List Int) (A : Option Addr)
    (h : VB w0 vb d g' lie ws from_ m steps (plK pb pa l ep ct ++ ((lb, 119, lgL vb pb id gen A N c nx) :: K)) W)
    (hl64 : l.length ≤ 64) (hep : ep < 65536) (hful : Full l) (hid1 : 1 ≤ id) (hid : id < 65536) :
    Calls Tryz.prog 110 #[.pointer (some ⟨lb, 0, none⟩), .agg #[.int .i64 k, .string p]] W fun e w' => e = .returned (.int .i64 32) ∧ Below W.heap.size W w' := by
  have hB1 := allocBelow W (.cells #[.int .i64 k, .string p] 43)
  obtain ⟨W1, hW1⟩ : ∃ W1, Hid (W1 = W.alloc (.cells #[.int .i64 k, .string p] 43)) := ⟨_, Lib.hid rfl⟩
  rw [← hW1.out] at hB1
  have hv1 := h.below hB1
  have hLog1 := hv1.got (List.mem_append_right (plK pb pa l ep ct) List.mem_cons_self)
  have a1 : W1.cell? ⟨lb, 1, none⟩ = some (.pointer (some ⟨pb, 0, none⟩)) := hLog1.cell 1
  have a2 : W1.cell? ⟨lb, 2, none⟩ = some (.int .i64 (id : Int)) := hLog1.cell 2
  have hD := (Below.refl W1.heap.size W1).drew
  have htk := Lib.hid (ptake_none (hv1.below hD).pool hl64 hep (id : Int) (by unfold okG; simp; omega) (.inl hful))
  replace hB1 := Lib.hid hB1
  replace hD := Lib.hid hD
  replace hLog1 := Lib.hid hLog1
  clear hv1
  go_enter Tryz.func110, Tryz.ntmps110
  go_upto_region 1 with fail
  rw [← show W1 = _ from hW1.out]
  clear hW1
  go_region_held3 (fun w' => w'.cell? ⟨lb, 1, none⟩ = some (.pointer (some ⟨pb, 0, none⟩)) ∧ w'.cell? ⟨lb, 2, none⟩ = some (.int .i64 (id : Int))) (first | assumption | (go_keep)) (first
    | (go_at_call 145; (with_reducible refine htk.out.mono ?_); rintro _ w2 ⟨rfl, hb2⟩; have hB2 := Lib.hid (grew hB1.out (hD.out.trans (hb2.mono hD.out.size))); have b1 := keepZ (grew hD.out hb2) a1; have b2 := keepZ (grew hD.out hb2) a2; replace hb2 := Lib.hid hb2))
  all_goals
    clear a1 a2 b1 b2
    go_wp2_with fail
    go_ret
    exact ⟨rfl, hB2.out⟩
set_option maxRecDepth 100000 in
set_option maxHeartbeats 4000000 in
theorem lappend_full (k : Int) (p : ByteArray) (pb pa lb id gen nx ep ct c : Nat) (l : List Int) (segs : List Sr) (A : Option Addr) (pk : List Bk)
    (h : LgV w0 vb d g' lie ws from_ m steps pb pa l ep ct lb id gen nx segs A c pk K W) (hf : FrOk (k, p)) (hno : ∀ init r, segs = init ++ [r] → r.sl = true ∨ 16 < plc r.fs + pcsN p.size)
    (hl64 : l.length ≤ 64) (hep : ep < 65536) (hful : Full l) (hid1 : 1 ≤ id) (hid : id < 65536) :
    Calls Tryz.prog 27 #[.pointer (some ⟨lb, 0, none⟩), .agg #[.int .i64 k, .string p]] W fun e w' => (∃ a b, e = .returned (.tuple #[a, b])) ∧ Below W.heap.size W w' := by
  have hpz : p.size ≤ 1000000 := by have := hf.2.2; simp only at this; omega
  have hput : ∀ V, Below W.heap.size W V → Calls Tryz.prog 70 #[.pointer (some ⟨lb, 0, none⟩), .agg #[.int .i64 k, .string p]] V fun e w' => e = .returned (.int .i64 32) ∧ Below V.heap.size V w' := fun V hV => by
    have hB1 := allocBelow V (.cells #[.int .i64 k, .string p] 43)
    have hX := Whole.new V 43 [.int .i64 k, .string p]
    have htk1 := Lib.hid (((h.below hV).below hB1).shut k p hpz hno)
    have hpa : Hid (∀ V2, Below V.heap.size V V2 → Calls Tryz.prog 110 #[.pointer (some ⟨lb, 0, none⟩), .agg #[.int .i64 k, .string p]] V2 fun e w' => e = .returned (.int .i64 32) ∧ Below V2.heap.size V2 w') := Lib.hid (fun V2 hb => putAnew_full k p pb pa lb id gen c nx ep ct segs.length l A ((h.below hV).below hb).vb_ hl64 hep hful hid1 hid)
    clear h hno hV
    go_enter Tryz.func70, Tryz.ntmps70
    go_wp2_with fail
    refine htk1.out.mono ?_
    rintro _ w2 ⟨rfl, hb2⟩
    have hX2 := hX.below hb2 hX.lt
    have x0 : w2.cell? ⟨V.heap.size, 0, none⟩ = some (.int .i64 k) := hX2.cell 0
    have x1 : w2.cell? ⟨V.heap.size, 1, none⟩ = some (.string p) := hX2.cell 1
    have hB2 := Lib.hid (grew hB1 hb2)
    clear hX hX2 hb2 htk1 hB1
    go_wp2_with fail
    refine (hpa.out _ hB2.out).mono ?_
    rintro _ w3 ⟨rfl, hb3⟩
    have hfin := Lib.hid (grew hB2.out hb3)
    clear hB2 hb3 hpa
    go_wp2_with fail
    go_ret
    exact ⟨rfl, hfin.out⟩
  have hB1 := allocBelow W (.cells #[.int .i64 k, .string p] 43)
  have hX := Whole.new W 43 [.int .i64 k, .string p]
  have hch := fun V => check_any k p V hpz
  rw [show wrongF 1 k p.size = 0 from by
    obtain ⟨z1, z2, z3⟩ := hf
    simp only at z1 z2 z3
    unfold wrongF
    rw [if_neg (by omega), if_neg (by omega)]] at hch
  replace hch := Lib.hid hch
  replace hput := Lib.hid hput
  have x0 : (W.alloc (.cells #[.int .i64 k, .string p] 43)).cell? ⟨W.heap.size, 0, none⟩ = some (.int .i64 k) := hX.cell 0
  have x1 : (W.alloc (.cells #[.int .i64 k, .string p] 43)).cell? ⟨W.heap.size, 1, none⟩ = some (.string p) := hX.cell 1
  obtain ⟨W1, hW1⟩ : ∃ W1, Hid (W1 = W.alloc (.cells #[.int .i64 k, .string p] 43)) := ⟨_, Lib.hid rfl⟩
  rw [← hW1.out] at hB1 hX x0 x1
  clear h hno
  go_enter Tryz.func27, Tryz.ntmps27
  go_upto_region 1 with fail
  rw [← show W1 = _ from hW1.out]
  clear hW1
  go_wp2_with fail
  refine (hch.out _).mono ?_
  rintro _ w2 ⟨rfl, hb2⟩
  have hX2 := hX.below hb2 hX.lt
  clear x0 x1
  have x0 : w2.cell? ⟨W.heap.size, 0, none⟩ = some (.int .i64 k) := hX2.cell 0
  have x1 : w2.cell? ⟨W.heap.size, 1, none⟩ = some (.string p) := hX2.cell 1
  have hB2 := Lib.hid (grew hB1 hb2)
  clear hX hX2 hb2 hB1 hch
  go_wp2_with fail
  refine (hput.out _ hB2.out).mono ?_
  rintro _ w3 ⟨rfl, hb3⟩
  have hfin := Lib.hid (grew hB2.out hb3)
  clear hB2 hb3 hput x0 x1
  go_wp2_with fail
  go_ret2
  exact ⟨⟨_, _, rfl⟩, hfin.out⟩
end
theorem blankX_no (s : Nat) : ∀ k c, 1 ≤ k → k < 16 → ¬ okS blankS s c k := by
  rintro k c _ hk2 ⟨y, h1, h2, _⟩
  unfold blankS at h1
  rw [List.getElem?_replicate, if_pos hk2] at h1
  cases h1
  exact zero_shut h2
theorem layX_create {s a g b : Nat} : LayB (putP blankS s 1 0 (fun i => B (pcL (headerL a g s b) i)) 1) s [] := by
  have hX : blankS.length = 16 := by unfold blankS; rw [List.length_replicate]
  refine ⟨by rw [putP_len, hX], fun f hf => by simp at hf, by decide, fun i f hf => by simp at hf, ?_⟩
  intro k c hk hk2
  rw [plc_nil] at hk
  rintro ⟨y, h1, h2, h3, h4⟩
  rw [putP_at _ _ _ _ _ _ _ (by rw [hX]; decide), if_neg (by omega)] at h1
  exact blankX_no s k c hk hk2 ⟨y, h1, h2, h3, h4⟩
theorem secX_zero (n : Nat) (h : n < 6) : secOf (zeros 98) [] 0 n = blankS := by
  unfold secOf blankS
  apply List.ext_getElem?
  intro k
  by_cases hk : k < 16
  · rw [List.getElem?_map, List.getElem?_range hk, List.getElem?_replicate, if_pos hk, Option.map_some, zeros_at _ _ (by omega)]
    rfl
  · rw [List.getElem?_eq_none (by simp; omega), List.getElem?_eq_none (by simp; omega)]
/-- A log's segments as they lie in its view. -/
structure SegL (ws : List (Nat × List UInt8)) (id gen : Nat) (l : List Int) (segs : List Sr) : Prop where
  hd : ∀ r ∈ segs, r.a = id ∧ r.g = gen ∧ r.b ≤ 1099511627776 ∧ r.n < 6 ∧ l[r.n]? = some (id : Int)
  lay : ∀ r ∈ segs, LayB (secOf (zeros 98) ws 0 r.n) r.s r.fs
  head : ∀ r ∈ segs, (secOf (zeros 98) ws 0 r.n)[0]? = some (sealP r.s 1 (B (pcL (headerL r.a r.g r.s r.b) 0)))
  apart : (segs.map Sr.n).Nodup
  blank : ∀ i, i < 6 → l[i]? = some 0 → secOf (zeros 98) ws 0 i = blankS
/-- A log into which frames went. -/
def LS (w0 : World) (vb d g' pb pa lb id gen base k : Nat) (K : List Bk) (W : World) : Prop :=
  ∃ ws steps l ct nx segs A c pk, LgV w0 vb d g' (zeros 98) ws 0 98 steps pb pa l 1 ct lb id gen nx segs A c pk K W ∧ 0 ≤ steps ∧ steps ≤ 20 * (k : Int) ∧ ws.length ≤ 20 * k ∧ l.length = 6 ∧ ct ≤ k ∧ segs.length ≤ k ∧ nx ≤ base + k ∧ baseOf segs nx = base ∧ SegL ws id gen l segs
theorem LS.below {w0 W W' : World} {vb d g' pb pa lb id gen base k : Nat} {K : List Bk} (h : LS w0 vb d g' pb pa lb id gen base k K W) (hb : Below W.heap.size W W') : LS w0 vb d g' pb pa lb id gen base k K W' := by
  obtain ⟨ws, steps, l, ct, nx, segs, A, c, pk, h1, h2⟩ := h
  exact ⟨ws, steps, l, ct, nx, segs, A, c, pk, h1.below hb, h2⟩
theorem LS.since {w0 W : World} {vb d g' pb pa lb id gen base k : Nat} {K : List Bk} (h : LS w0 vb d g' pb pa lb id gen base k K W) : Below w0.heap.size w0 W := by
  obtain ⟨ws, steps, l, ct, nx, segs, A, c, pk, h1, h2⟩ := h
  exact h1.vb_.since
theorem LS.idle {w0 W W' : World} {vb d g' pb pa lb id gen base k : Nat} {K : List Bk} (h : LS w0 vb d g' pb pa lb id gen base k K W) (hb : Below W.heap.size W W') : LS w0 vb d g' pb pa lb id gen base (k + 1) K W' := by
  obtain ⟨ws, steps, l, ct, nx, segs, A, c, pk, h1, h2, h3, h4, h5, h6, h7, h8, h9, h10⟩ := h
  exact ⟨ws, steps, l, ct, nx, segs, A, c, pk, h1.below hb, h2, by omega, by omega, h5, by omega, by omega, by omega, h9, h10⟩
set_option maxRecDepth 100000 in
set_option maxHeartbeats 4000000 in
theorem LS.step {w0 W : World} {vb d g' pb pa lb id gen base i : Nat} {K : List Bk} (k : Int) (p : ByteArray) (h : LS w0 vb d g' pb pa lb id gen base i K W) (hi : i < 64) (hp9 : p.size ≤ 900) (hid1 : 1 ≤ id) (hid : id < 65536) (hgen : gen < 4294967296) (hbase : base ≤ 1000000) (hT : Wide w0) :
    Calls Tryz.prog 27 #[.pointer (some ⟨lb, 0, none⟩), .agg #[.int .i64 k, .string p]] W fun e w' => (∃ a b, e = .returned (.tuple #[a, b])) ∧ LS w0 vb d g' pb pa lb id gen base (i + 1) K w' := by
  by_cases hw : wrongF 1 k p.size = 0
  · have hf : FrOk (k, p) := by
      unfold wrongF at hw
      by_cases e1 : k < 1 ∨ 255 < k ∨ ¬ ((1 : Int) ≤ 1 ∧ (1 : Int) < 16)
      · rw [if_pos e1] at hw; omega
      · rw [if_neg e1] at hw
        by_cases e2 : 773 < p.size
        · rw [if_pos e2] at hw; omega
        · exact ⟨by show 1 ≤ k; omega, by show k ≤ 255; omega, by show p.size ≤ 773; omega⟩
    have hp7 : p.size ≤ 773 := hf.2.2
    have hpc : pcsN p.size ≤ 15 := by unfold pcsN; omega
    obtain ⟨ws, steps, l, ct, nx, segs, A, c, pk, h1, h2, h3, h4, h5, h6, h7, h8, h9, h10⟩ := _root_.id h
    have hnew : (∀ init r, segs = init ++ [r] → r.sl = true ∨ 16 < plc r.fs + pcsN p.size) → Calls Tryz.prog 27 #[.pointer (some ⟨lb, 0, none⟩), .agg #[.int .i64 k, .string p]] W fun e w' => (∃ a b, e = .returned (.tuple #[a, b])) ∧ LS w0 vb d g' pb pa lb id gen base (i + 1) K w' := fun hno => by
      rcases first_or l with ⟨sg, hfst⟩ | hful
      · have hsg : sg < 6 := by have := (List.getElem?_eq_some_iff.1 hfst.1).1; omega
        refine (log_append_new k p sg h1 hno hf (by omega) (by omega) (by decide) (by omega) hfst hid1 hid hgen hT (room14 sg hsg) (by omega) h2 (by omega) (by omega)).mono ?_
        rintro e w' ⟨r1, sb, la', lc', rk', A', c', pk', h11⟩
        refine ⟨⟨_, _, r1⟩, _, _, _, _, _, _, A', c', pk', h11, by omega, by omega, ?_, by rw [List.length_set]; exact h5, by omega, by rw [List.length_append, List.length_singleton]; omega, by omega, ?_, ?_⟩
        · rw [List.length_append, List.length_append, putW_len, putW_len]; omega
        · rw [← h9]; cases segs <;> rfl
        · have hbl := h10.blank sg hsg hfst.1
          have hne : ∀ r ∈ segs, r.n ≠ sg := fun r hr e => by
            have h12 := (h10.hd r hr).2.2.2.2
            rw [e, hfst.1] at h12
            injection h12 with h12
            omega
          have hfar : ∀ j, j ≠ sg → secOf (zeros 98) ((ws ++ putW 0 sg (65536 * 1 + ct) 1 0 (headerL id gen (65536 * 1 + ct) nx) 1) ++ putW 0 sg (65536 * 1 + ct) 2 1 (encF ((65536 * 1 + ct : Nat) : Int) 1 k p.data.toList) (pcsN p.size)) 0 j = secOf (zeros 98) ws 0 j := fun j hj => by
            rw [sec_far _ _ _ _ _ _ _ _ _ _ (by omega) (fun e => hj e.symm), sec_far _ _ _ _ _ _ _ _ _ _ (by omega) (fun e => hj e.symm)]
          have hL0 : LayB (secOf (zeros 98) (ws ++ putW 0 sg (65536 * 1 + ct) 1 0 (headerL id gen (65536 * 1 + ct) nx) 1) 0 sg) (65536 * 1 + ct) [] := by
            rw [sec_put _ _ _ _ _ _ _ _ _ (by omega), hbl]
            exact layX_create
          have hL1 := hL0.add (f := (k, p)) hf (by rw [plc_nil]; show 1 + pcsN p.size ≤ 16; omega)
          unfold moreX at hL1
          simp only [plc_nil, List.length_nil, List.nil_append, Nat.zero_add] at hL1
          have hsec := sec_put (zeros 98) (ws ++ putW 0 sg (65536 * 1 + ct) 1 0 (headerL id gen (65536 * 1 + ct) nx) 1) 0 sg (65536 * 1 + ct) 2 1 (encF ((65536 * 1 + ct : Nat) : Int) 1 k p.data.toList) (pcsN p.size) (by omega)
          refine ⟨fun r hr => ?_, fun r hr => ?_, fun r hr => ?_, ?_, fun j hj hz => ?_⟩
          · rcases List.mem_append.1 hr with hr | hr
            · obtain ⟨k1, k2, k3, k4, k5⟩ := h10.hd r hr
              exact ⟨k1, k2, k3, k4, by rw [List.getElem?_set_ne (fun e => hne r hr e.symm)]; exact k5⟩
            · obtain rfl := List.mem_singleton.1 hr
              exact ⟨rfl, rfl, by show nx ≤ 1099511627776; omega, hsg, by show (l.set sg (id : Int))[sg]? = _; rw [List.getElem?_set_self (by omega)]⟩
          · rcases List.mem_append.1 hr with hr | hr
            · rw [hfar r.n (hne r hr)]; exact h10.lay r hr
            · obtain rfl := List.mem_singleton.1 hr
              show LayB (secOf _ _ 0 sg) (65536 * 1 + ct) [(k, p)]
              rw [hsec]; exact hL1
          · rcases List.mem_append.1 hr with hr | hr
            · rw [hfar r.n (hne r hr)]; exact h10.head r hr
            · obtain rfl := List.mem_singleton.1 hr
              show (secOf _ _ 0 sg)[0]? = some (sealP (65536 * 1 + ct) 1 (B (pcL (headerL id gen (65536 * 1 + ct) nx) 0)))
              rw [hsec, putP_far _ _ _ _ _ _ (by rw [sec_len]; omega) (by omega), sec_put _ _ _ _ _ _ _ _ _ (by omega), putP_at _ _ _ _ _ _ _ (by rw [sec_len]; omega), if_pos (by omega)]
          · rw [List.map_append, List.nodup_append]
            refine ⟨h10.apart, by simp, fun a ha b hb => ?_⟩
            obtain ⟨r, hr, rfl⟩ := List.mem_map.1 ha
            have e : b = sg := by simpa using hb
            rw [e]; exact hne r hr
          · have hjs : j ≠ sg := fun e => by
              rw [e, List.getElem?_set_self (by omega)] at hz
              injection hz with hz
              omega
            rw [List.getElem?_set_ne (fun e => hjs e.symm)] at hz
            rw [hfar j hjs]; exact h10.blank j hj hz
      · refine (lappend_full k p pb pa lb id gen nx 1 ct c l segs A pk h1 hf hno (by omega) (by decide) hful hid1 hid).mono ?_
        rintro e w' ⟨r1, r2⟩
        exact ⟨r1, h.idle r2⟩
    rcases snoc_or segs with rfl | ⟨init, r, rfl⟩
    · exact hnew (fun init r e => by simp at e)
    · by_cases ht : r.sl = false ∧ plc r.fs + pcsN p.size ≤ 16
      · have hr := h10.hd r (by simp)
        refine (log_append_in k p h1 ht.1 hf ht.2 (by omega) h2 (by omega) (by omega)).mono ?_
        rintro e w' ⟨r1, la', lc', rk', h11⟩
        refine ⟨⟨_, _, r1⟩, _, _, _, _, _, _, _, _, _, h11, by omega, by omega, ?_, h5, by omega, by rw [List.length_append, List.length_singleton] at h7 ⊢; omega, by omega, ?_, ?_⟩
        · rw [List.length_append, putW_len]; omega
        · rw [← h9]; cases init <;> rfl
        · have hap := h10.apart
          have hpl : 1 ≤ plc r.fs := by unfold plc; omega
          have hfar : ∀ j, j ≠ r.n → secOf (zeros 98) (ws ++ putW 0 r.n r.s (r.fs.length + 2) (plc r.fs) (encF (r.s : Int) (plc r.fs : Int) k p.data.toList) (pcsN p.size)) 0 j = secOf (zeros 98) ws 0 j := fun j hj => sec_far _ _ _ _ _ _ _ _ _ _ ht.2 (fun e => hj e.symm)
          have hsec := sec_put (zeros 98) ws 0 r.n r.s (r.fs.length + 2) (plc r.fs) (encF (r.s : Int) (plc r.fs : Int) k p.data.toList) (pcsN p.size) ht.2
          have hL1 := (h10.lay r (by simp)).add (f := (k, p)) hf ht.2
          have hne : ∀ x ∈ init, x.n ≠ r.n := fun x hx e => by
            rw [List.map_append, List.nodup_append] at hap
            exact hap.2.2 x.n (List.mem_map_of_mem hx) r.n (by simp) e
          refine ⟨fun x hx => ?_, fun x hx => ?_, fun x hx => ?_, ?_, fun j hj hz => ?_⟩
          · rcases List.mem_append.1 hx with hx | hx
            · exact h10.hd x (List.mem_append_left _ hx)
            · obtain rfl := List.mem_singleton.1 hx
              exact hr
          · rcases List.mem_append.1 hx with hx | hx
            · rw [hfar x.n (hne x hx)]; exact h10.lay x (List.mem_append_left _ hx)
            · obtain rfl := List.mem_singleton.1 hx
              show LayB (secOf _ _ 0 r.n) r.s (r.fs ++ [(k, p)])
              rw [hsec]; exact hL1
          · rcases List.mem_append.1 hx with hx | hx
            · rw [hfar x.n (hne x hx)]; exact h10.head x (List.mem_append_left _ hx)
            · obtain rfl := List.mem_singleton.1 hx
              show (secOf _ _ 0 r.n)[0]? = some (sealP r.s 1 (B (pcL (headerL r.a r.g r.s r.b) 0)))
              rw [hsec, putP_far _ _ _ _ _ _ (by rw [sec_len]; omega) (by omega)]
              exact h10.head r (by simp)
          · rw [List.map_append] at hap ⊢
            exact hap
          · have hjs : j ≠ r.n := fun e => by
              rw [e, hr.2.2.2.2] at hz
              injection hz with hz
              omega
            rw [hfar j hjs]; exact h10.blank j hj hz
      · refine hnew (fun init2 r2 e => ?_)
        have e2 : r = r2 := by
          have := congrArg List.getLast? e
          simpa using this
        rw [← e2]
        cases hs : r.sl with
        | true => exact .inl rfl
        | false =>
          exact .inr (Nat.lt_of_not_le (fun e => ht ⟨hs, e⟩))
  · refine (lappend_bad k p lb W (by omega) hw).mono ?_
    rintro e w' ⟨r1, r2⟩
    exact ⟨r1, h.idle r2⟩
end Go.Proofs.YtahljbjgenepaaaGreatDoor.W
end
section
namespace Go.Proofs.YtahljbjgenepaaaGreatDoor.W
open Go.RowKit Go.Sort
open Go.Proofs.YtahljbjgenepaaaGreatDoor.M Go.Proofs.YtahljbjgenepaaaGreatDoor.D Go.Proofs.YtahljbjgenepaaaGreatDoor.Z
set_option linter.unusedVariables false
set_option linter.unusedSimpArgs false

theorem sizeWd4 : (Tryz.prog.info? 30).map (·.size) = some 4 := by kernel_rfl
theorem plainW : plainT 30 := by decide
theorem plainLg : plainT 119 := by decide
theorem VB.newPool {w0 W W' : World} {vb d g' from_ m : Nat} {lie : List (List UInt8)} {ws : List (Nat × List UInt8)} {steps : Int} {K : List Bk} {b a ep ct : Nat} {l : List Int} (h : VB w0 vb d g' lie ws from_ m steps K W) (hb : Below W.heap.size W W') (hp : Pl W' b a l ep ct) (h1 : W.heap.size ≤ b) (h2 : W.heap.size ≤ a) :
    VB w0 vb d g' lie ws from_ m steps (plK b a l ep ct ++ K) W' := by
  have hs := h.size
  refine ⟨h.view.below hb, fun x hx => ?_, ?_⟩
  · rcases List.mem_cons.1 hx with rfl | hx
    · exact ⟨hp.box, by show plainT 113; decide, Nat.le_trans hs h1⟩
    · rcases List.mem_cons.1 hx with rfl | hx
      · exact ⟨hp.row, by show plainT 3; decide, Nat.le_trans hs h2⟩
      · exact (h.below hb).blk.all x hx
  · show (b :: a :: K.map (·.1)).Nodup
    have hne := hp.ne
    have hfar : ∀ q, W.heap.size ≤ q → q ∉ K.map (·.1) := fun q hq hm => by
      obtain ⟨z, hz, rfl⟩ := List.mem_map.1 hm
      have := (h.got hz).lt
      omega
    rw [List.nodup_cons, List.nodup_cons]
    refine ⟨fun hm => ?_, hfar a h2, h.blk.apart⟩
    rcases List.mem_cons.1 hm with e | e
    · first | exact hne e | exact hne e.symm
    · exact hfar b h1 e
set_option maxRecDepth 100000 in
set_option maxHeartbeats 4000000 in
theorem start14_any (w : World) (hT : Wide w) : Calls Tryz.prog 9 #[] w fun e w' => ∃ vb d g' pb pa la lb, e = .returned (.agg #[.pointer (some ⟨vb, 0, none⟩), .pointer (some ⟨pb, 0, none⟩), .pointer (some ⟨la, 0, none⟩), .pointer (some ⟨lb, 0, none⟩)]) ∧
    LS w vb d g' pb pa lb 2 7 50 0 [(la, 119, lgL vb pb 1 7 none 0 0 0)] w' := by
  have hpn : Hid (∀ W, Calls Tryz.prog 13 #[.int .i64 6, .int .i64 1] W fun x w' => ∃ pb pa, x = .returned (.tuple #[.pointer (some ⟨pb, 0, none⟩), .int .i64 0]) ∧ Pl w' pb pa (List.replicate 6 0) 1 0 ∧ W.heap.size ≤ pb ∧ W.heap.size ≤ pa ∧ Below W.heap.size W w') := Lib.hid (fun W => (pnew_yes 6 1 W (by decide) (by decide) (by decide)).mono fun e w' ⟨r1, r2, r3⟩ => ⟨_, _, r1, r2, Nat.le_succ _, Nat.le_refl _, r3⟩)
  have hfr := Lib.hid fresh14_any
  obtain ⟨W0, hW0⟩ : ∃ W0, Hid (W0 = w.alloc (.cells #[.pointer none, .pointer none, .pointer none, .pointer none] 30)) := ⟨_, Lib.hid rfl⟩
  have hb0 : Below w.heap.size w W0 := by rw [hW0.out]; exact allocBelow w _
  have hX0 : Whole W0 w.heap.size 30 [.pointer none, .pointer none, .pointer none, .pointer none] := by rw [hW0.out]; exact Whole.new w _ _
  obtain ⟨t0, ht0⟩ : ∃ t0, Hid (w.heap.size = t0) := ⟨_, Lib.hid rfl⟩
  rw [ht0.out] at hX0
  go_enter Tryz.func9, Tryz.ntmps9
  go_upto_region 1 with fail
  rw [← show W0 = _ from hW0.out, ht0.out]
  clear hW0
  go_wp2_with fail
  refine (hfr.out _).mono ?_
  rintro _ w2 ⟨vb, d, g', rfl, hv⟩
  have hVB : VB w vb d g' (zeros 98) [] 0 98 0 [(t0, 30, [.pointer none, .pointer none, .pointer none, .pointer none])] w2 := ⟨hv.base hb0, fun x hx => by
    obtain rfl := List.mem_singleton.1 hx
    exact ⟨hX0.below hv.since hX0.lt, plainW, by show w.heap.size ≤ t0; have := ht0.out; omega⟩, by simp⟩
  obtain ⟨W3, hW3⟩ : ∃ W3, Hid (W3 = w2.alloc (.cells #[.pointer (some ⟨vb, 0, none⟩), .pointer none, .pointer none, .pointer none] 30)) := ⟨_, Lib.hid rfl⟩
  have hb3 : Below w2.heap.size w2 W3 := by rw [hW3.out]; exact allocBelow w2 _
  have hX3 : Whole W3 w2.heap.size 30 [.pointer (some ⟨vb, 0, none⟩), .pointer none, .pointer none, .pointer none] := by rw [hW3.out]; exact Whole.new w2 _ _
  have hV3 := hVB.new hb3 hX3 (Nat.le_refl _) plainW
  obtain ⟨t1, ht1⟩ : ∃ t1, Hid (w2.heap.size = t1) := ⟨_, Lib.hid rfl⟩
  rw [ht1.out] at hV3
  replace hV3 := Lib.hid hV3
  clear hVB hv hb3 hX3 hX0 hb0
  go_upto_region 2 with fail
  rw [← show W3 = _ from hW3.out, ht1.out]
  clear hW3
  go_wp2_with fail
  refine (hpn.out _).mono ?_
  rintro _ w4 ⟨pb, pa, rfl, hp4, hpb, hpa, hb4⟩
  have hV4 := Lib.hid (hV3.out.newPool hb4 hp4 hpb hpa)
  have x4 : w4.cell? ⟨t1, 0, none⟩ = some (.pointer (some ⟨vb, 0, none⟩)) := (hV4.out.got (List.mem_append_right _ List.mem_cons_self)).cell 0
  have hn4 := Lib.hid (log_new_yes (vb := vb) pb 1 7 0 w4 (hT.below hV4.out.since) (by decide) (by decide) (by decide) (by decide))
  clear hp4 hpb hpa hb4 hV3
  go_wp2_with fail
  refine hn4.out.mono ?_
  rintro _ w5 ⟨la, rfl, hla, hL5, hb5⟩
  have hV5 := Lib.hid (hV4.out.new hb5 hL5 hla plainLg)
  have x5 : w5.cell? ⟨t1, 0, none⟩ = some (.pointer (some ⟨vb, 0, none⟩)) := (hV5.out.got (List.mem_cons_of_mem _ (List.mem_append_right _ List.mem_cons_self))).cell 0
  have hn5 := Lib.hid (log_new_yes (vb := vb) pb 2 7 50 w5 (hT.below hV5.out.since) (by decide) (by decide) (by decide) (by decide))
  clear hla hL5 hb5 hV4 hn4 x4
  go_wp2_with fail
  refine hn5.out.mono ?_
  rintro _ w6 ⟨lb, rfl, hlb, hL6, hb6⟩
  have hV6 := (hV5.out.new hb6 hL6 hlb plainLg).perm (K' := (t1, 30, [.pointer (some ⟨vb, 0, none⟩), .pointer none, .pointer none, .pointer none]) :: (t0, 30, [.pointer none, .pointer none, .pointer none, .pointer none]) :: (plK pb pa (List.replicate 6 0) 1 0 ++ [(lb, 119, lgL vb pb 2 7 none 0 0 50), (la, 119, lgL vb pb 1 7 none 0 0 0)]))
    (perm_by fun a => by simp only [List.count_append, List.count_cons, List.count_nil]; omega)
  have hX6 := hV6.got List.mem_cons_self
  have hX7 : Whole (w6.setCell ⟨t1, 1, none⟩ (.pointer (some ⟨pb, 0, none⟩))) t1 30 [.pointer (some ⟨vb, 0, none⟩), .pointer (some ⟨pb, 0, none⟩), .pointer none, .pointer none] := hX6.store 1 [_] (by simp)
  have hX8 : Whole ((w6.setCell ⟨t1, 1, none⟩ (.pointer (some ⟨pb, 0, none⟩))).setCell ⟨t1, 2, none⟩ (.pointer (some ⟨la, 0, none⟩))) t1 30 [.pointer (some ⟨vb, 0, none⟩), .pointer (some ⟨pb, 0, none⟩), .pointer (some ⟨la, 0, none⟩), .pointer none] := hX7.store 2 [_] (by simp)
  have hX9 : Whole (((w6.setCell ⟨t1, 1, none⟩ (.pointer (some ⟨pb, 0, none⟩))).setCell ⟨t1, 2, none⟩ (.pointer (some ⟨la, 0, none⟩))).setCell ⟨t1, 3, none⟩ (.pointer (some ⟨lb, 0, none⟩))) t1 30 [.pointer (some ⟨vb, 0, none⟩), .pointer (some ⟨pb, 0, none⟩), .pointer (some ⟨la, 0, none⟩), .pointer (some ⟨lb, 0, none⟩)] := hX8.store 3 [_] (by simp)
  have c61 : w6.cell? ⟨t1, 1, none⟩ = some (.pointer none) := hX6.cell 1
  have z61 := hX6.frozen 1
  have c72 : (w6.setCell ⟨t1, 1, none⟩ (.pointer (some ⟨pb, 0, none⟩))).cell? ⟨t1, 2, none⟩ = some (.pointer none) := hX7.cell 2
  have z72 := hX7.frozen 2
  have c83 : ((w6.setCell ⟨t1, 1, none⟩ (.pointer (some ⟨pb, 0, none⟩))).setCell ⟨t1, 2, none⟩ (.pointer (some ⟨la, 0, none⟩))).cell? ⟨t1, 3, none⟩ = some (.pointer none) := hX8.cell 3
  have z83 := hX8.frozen 3
  have hk : Kept (fun r => r = t1) w6 (((w6.setCell ⟨t1, 1, none⟩ (.pointer (some ⟨pb, 0, none⟩))).setCell ⟨t1, 2, none⟩ (.pointer (some ⟨la, 0, none⟩))).setCell ⟨t1, 3, none⟩ (.pointer (some ⟨lb, 0, none⟩))) := (((Kept.refl (fun r => r = t1) w6).setCell (.inl rfl) 1 _).setCell (.inl rfl) 2 _).setCell (.inl rfl) 3 _
  obtain ⟨W9, hW9⟩ : ∃ W9, Hid (W9 = ((w6.setCell ⟨t1, 1, none⟩ (.pointer (some ⟨pb, 0, none⟩))).setCell ⟨t1, 2, none⟩ (.pointer (some ⟨la, 0, none⟩))).setCell ⟨t1, 3, none⟩ (.pointer (some ⟨lb, 0, none⟩))) := ⟨_, Lib.hid rfl⟩
  rw [← show W9 = _ from hW9.out] at hX9 hk
  have hV9 := hV6.set hk hX9
  obtain ⟨y0, y1, y2, y3⟩ : W9.cell? ⟨t1, 0, none⟩ = some (.pointer (some ⟨vb, 0, none⟩)) ∧ W9.cell? ⟨t1, 1, none⟩ = some (.pointer (some ⟨pb, 0, none⟩)) ∧ W9.cell? ⟨t1, 2, none⟩ = some (.pointer (some ⟨la, 0, none⟩)) ∧ W9.cell? ⟨t1, 3, none⟩ = some (.pointer (some ⟨lb, 0, none⟩)) := ⟨hX9.cell 0, hX9.cell 1, hX9.cell 2, hX9.cell 3⟩
  have hX0 := Lib.hid (hV9.got (List.mem_cons_of_mem _ List.mem_cons_self))
  have hfin : Hid (LS w vb d g' pb pa lb 2 7 50 0 [(la, 119, lgL vb pb 1 7 none 0 0 0)] (W9.setCells t0 0 [.pointer (some ⟨vb, 0, none⟩), .pointer (some ⟨pb, 0, none⟩), .pointer (some ⟨la, 0, none⟩), .pointer (some ⟨lb, 0, none⟩)])) := Lib.hid (by
    have h1 := (hV9.sub (List.sublist_cons_self _ _)).set ((Kept.refl (fun r => r = t0) W9).setCells (.inl rfl) 0 [.pointer (some ⟨vb, 0, none⟩), .pointer (some ⟨pb, 0, none⟩), .pointer (some ⟨la, 0, none⟩), .pointer (some ⟨lb, 0, none⟩)]) (whole_all hX0.out (vs := [.pointer (some ⟨vb, 0, none⟩), .pointer (some ⟨pb, 0, none⟩), .pointer (some ⟨la, 0, none⟩), .pointer (some ⟨lb, 0, none⟩)]) rfl)
    have h2 := h1.sub (List.sublist_cons_self _ _)
    exact ⟨[], 0, _, 0, 50, [], none, 0, [], ⟨h2, .inl ⟨rfl, rfl, rfl, rfl⟩, fun r hr => by simp at hr, by decide, rfl, by decide⟩, by decide, by decide, by decide, by simp, by decide, by decide, by decide, rfl, ⟨fun r hr => by simp at hr, fun r hr => by simp at hr, fun r hr => by simp at hr, by simp, fun i hi _ => secX_zero i hi⟩⟩)
  have hXf := whole_all hX0.out (vs := [.pointer (some ⟨vb, 0, none⟩), .pointer (some ⟨pb, 0, none⟩), .pointer (some ⟨la, 0, none⟩), .pointer (some ⟨lb, 0, none⟩)]) rfl
  clear hV6 hV5 hn5 hlb hL6 hb6 x5 hX6 hX7 hX8 hX9 hk hV9
  go_upto_region 8 with fail
  rw [← show W9 = _ from hW9.out]
  clear hW9 c61 z61 c72 z72 c83 z83
  go_wp2_with (with_reducible refine zStore 30 _ _ rfl ?_)
  refine Lib.hid ?_
  refine wpList_store_mid rfl 30 _ _ rfl t0 0 #[.pointer (some ⟨vb, 0, none⟩), .pointer (some ⟨pb, 0, none⟩), .pointer (some ⟨la, 0, none⟩), .pointer (some ⟨lb, 0, none⟩)] rfl rfl (hX0.out.there 0 4 (by simp)) sizeWd4 (by simp [Value.oneCell']) ?_
  go_wp2_with fail
  exact bodyPost_ret (result_cell Tryz.results9 rfl hXf.range Tryz.underlying30 rfl sizeWd4) rfl ⟨vb, d, g', pb, pa, la, lb, rfl, hfin.out⟩
end Go.Proofs.YtahljbjgenepaaaGreatDoor.W
end
section
namespace Go.Proofs.YtahljbjgenepaaaGreatDoor.W
open Go.RowKit Go.Sort
open Go.Proofs.YtahljbjgenepaaaGreatDoor.M Go.Proofs.YtahljbjgenepaaaGreatDoor.D Go.Proofs.YtahljbjgenepaaaGreatDoor.Z
set_option linter.unusedVariables false
set_option linter.unusedSimpArgs false

section
variable {w0 W W' : World} {vb d g' from_ m : Nat} {lie : List (List UInt8)} {ws : List (Nat × List UInt8)} {steps : Int} {K : List Bk}
/-- Segments, loaded again. -/
def Again (rs segs : List Sr) : Prop := rs.map (fun r => (r.n, r.hd)) = segs.map (fun r => (r.n, r.hd)) ∧ ∀ r ∈ rs, r.Ok ∧ r.sl = true
set_option maxRecDepth 100000 in
set_option maxHeartbeats 4000000 in
theorem loaded14_any (segs : List Sr) (g : Nat) (h : VB w0 vb d g' lie ws from_ m steps ((g, 3, rowP (segs.map fun r => (r.n : Int))) :: K) W) (hs : segs.length ≤ 64) (hl : ∀ r ∈ segs, Room from_ m r.n ∧ Lies lie ws from_ r.n (some r.hd)) (hT : Wide w0) (hw : ws.length ≤ 90000) :
    Calls Tryz.prog 17 #[.pointer (some ⟨vb, 0, none⟩), .slice (some ⟨g, 0, none⟩) segs.length segs.length] W fun e w' => ∃ rs A c pk, e = .returned (.slice A rs.length c) ∧ Again rs segs ∧ RowPt A c (rs.map Sr.sb) pk ∧ VB w0 vb d g' lie ws from_ m steps (pk ++ (rs.flatMap (Sr.K vb) ++ ((g, 3, rowP (segs.map fun r => (r.n : Int))) :: K))) w' := by
  obtain ⟨K0, hK0⟩ : ∃ K0, Hid ((g, 3, rowP (segs.map fun r => (r.n : Int))) :: K = K0) := ⟨_, Lib.hid rfl⟩
  have hld : Hid (∀ (k : Nat) (s : Sr) (K' : List Bk) (V : World), segs[k]? = some s → VB w0 vb d g' lie ws from_ m steps K' V → Calls Tryz.prog 60 #[.pointer (some ⟨vb, 0, none⟩), .int .i64 (s.n : Int)] V fun e w' => ∃ r : Sr, e = .returned (.tuple #[.pointer (some ⟨r.sb, 0, none⟩), .int .i64 0]) ∧ r.Ok ∧ r.hd = s.hd ∧ r.n = s.n ∧ r.sl = true ∧ VB w0 vb d g' lie ws from_ m steps (r.K vb ++ K') w') := Lib.hid (fun k s K' V hk hv => hv.load_yes (hl s (List.mem_of_getElem? hk)).1 hT hw (hl s (List.mem_of_getElem? hk)).2)
  have hcell : Hid (∀ (k : Nat) (s : Sr) (K1 : List Bk) (V : World), segs[k]? = some s → VB w0 vb d g' lie ws from_ m steps (K1 ++ K0) V → V.cell? ⟨g, k, none⟩ = some (.int .i64 (s.n : Int))) := Lib.hid (fun k s K1 V hk hv => by
    have h1 := hv.got (List.mem_append_right _ (by rw [← hK0.out]; exact List.mem_cons_self))
    have h2 := h1.cell k
    rw [h2]
    show (rowP (segs.map fun r => (r.n : Int)))[k]? = _
    unfold rowP
    rw [List.getElem?_map, List.getElem?_map, hk]
    rfl)
  rw [hK0.out] at h ⊢
  obtain ⟨Q, hQ⟩ : ∃ Q, Hid (segs.length = Q) := ⟨_, Lib.hid rfl⟩
  rw [hQ.out] at hs ⊢
  have h0 := Lib.hid h
  clear h hl hT hw
  go_enter Tryz.func17, Tryz.ntmps17
  go_wp2_with fail
  go_loopg [5, 12] Q (fun ga lx ix wr => ∃ (k : Nat) (rs : List Sr) (sbs : List Nat) (A : Option Addr) (c : Nat) (pk : List Bk), k ≤ Q ∧ Q ≤ k + ga ∧ ix = .int .i64 k ∧ lx = .slice A sbs.length c ∧ sbs.length = k ∧ Hid (sbs = rs.map (·.sb) ∧ Again rs (segs.take k) ∧ RowPt A c sbs pk ∧ VB w0 vb d g' lie ws from_ m steps (pk ++ (rs.flatMap (Sr.K vb) ++ K0)) wr))
  case atStart => exact ⟨0, [], [], none, 0, [], by omega, by omega, rfl, rfl, rfl, Lib.hid ⟨rfl, ⟨rfl, fun r hr => by simp at hr⟩, .inl ⟨rfl, rfl, rfl, rfl⟩, h0.out⟩⟩
  case round =>
    clear h0
    obtain ⟨k, rs, sbs, A, c, pk, hk, hgk, rfl, rfl, hsl, hrel⟩ := hrel
    have hs64 : sbs.length ≤ 64 := by omega
    replace hsl := Lib.hid hsl
    generalize wr = wo at *
    by_cases hlt : k < Q
    · obtain ⟨s, hs1⟩ : ∃ s, segs[k]? = some s := ⟨_, List.getElem?_eq_getElem (by have := hQ.out; omega)⟩
      have hki : (k : Int) < (Q : Int) := by omega
      have hce : wo.cell? ⟨g, k, none⟩ = some (.int .i64 (s.n : Int)) := hcell.out k s (pk ++ rs.flatMap (Sr.K vb)) wo hs1 (by rw [List.append_assoc]; exact hrel.out.2.2.2)
      have hc := Lib.hid (hld.out k s _ wo hs1 hrel.out.2.2.2)
      replace hs1 := Lib.hid hs1
      go_wp2_with fail
      refine hc.out.mono ?_
      rintro _ w5 ⟨r, rfl, r1⟩
      replace r1 := Lib.hid r1
      obtain ⟨s1, s3, s4, s5⟩ := _root_.id hrel.out
      have hv5 := Lib.hid (r1.out.2.2.2.2.perm (K' := pk ++ (r.K vb ++ (rs.flatMap (Sr.K vb) ++ K0))) (perm_by fun a => by simp only [List.count_append]; omega))
      have hown5 := Lib.hid (s4.own (fun x hx => hv5.out.got (List.mem_append_left _ hx)))
      obtain ⟨i0, hi0, hz0, hz1, hz2⟩ := info_parts infoPt
      replace s1 := Lib.hid s1
      replace s3 := Lib.hid s3
      replace s4 := Lib.hid s4
      clear hrel hc s5 hce
      go_wp2_with (with_reducible refine zAppend _ _ _ rfl ?_)
      refine Lib.hid ?_
      refine wpList_append_lies _ rfl _ _ 58 rfl 0 77 i0 _ 1 8 Tryz.underlying58 hi0 hz0 hz1 hz2 rfl (by omega) (.slice A sbs.length c) sbs.length (sbs.map ptV) rfl (hown5.out.alloc _) _ 1 1 [ptV r.sb] rfl rfl (World.news_of_block (heap_alloc_new _ _)) (by simp [Value.oneCell']) (by omega) (by unfold maxLen; omega) (by omega) (Nat.zero_le _) (w5.heap.size + 1) (by simp) ?_
      intro gg cap w6 hown6 hgrow6 hat6 hlt6
      obtain ⟨pk', hrow6, hv6⟩ := hv5.out.appended s4.out hgrow6 hown6 hat6
      have hv7 := hv6.perm (K' := pk' ++ ((rs ++ [r]).flatMap (Sr.K vb) ++ K0)) (perm_by fun a => by simp only [List.flatMap_append, List.flatMap_cons, List.flatMap_nil, List.append_nil, List.count_append]; omega)
      have hnew : Hid (sbs ++ [r.sb] = (rs ++ [r]).map (·.sb) ∧ Again (rs ++ [r]) (segs.take (k + 1)) ∧ RowPt (some ⟨gg, 0, none⟩) cap (sbs ++ [r.sb]) pk' ∧ VB w0 vb d g' lie ws from_ m steps (pk' ++ ((rs ++ [r]).flatMap (Sr.K vb) ++ K0)) w6) := Lib.hid ⟨by rw [s1.out, List.map_append]; rfl, ⟨by
          rw [List.take_add_one, hs1.out, List.map_append, List.map_append, s3.out.1]
          show _ ++ [(r.n, r.hd)] = _ ++ [(s.n, s.hd)]
          rw [r1.out.2.1, r1.out.2.2.1], fun x hx => by
          rcases List.mem_append.1 hx with hx | hx
          · exact s3.out.2 x hx
          · obtain rfl := List.mem_singleton.1 hx
            exact ⟨r1.out.1, r1.out.2.2.2.1⟩⟩, hrow6, hv7⟩
      clear hown5 hown6 hgrow6 hat6 hlt6 hv5 hv6 hv7 hrow6 r1 hi0 hz0 hz1 hz2
      go_wp2_with fail
      go_roundg (gk - 1)
      case measure => omega
      case rel => exact ⟨k + 1, rs ++ [r], sbs ++ [r.sb], some ⟨gg, 0, none⟩, cap, pk', by omega, by omega, by go_num, by rw [List.length_append]; rfl, by rw [List.length_append, List.length_singleton, hsl.out], hnew⟩
    · obtain rfl : k = Q := by omega
      go_wp2_with fail
      go_ret
      obtain ⟨s1, s3, s4, s5⟩ := hrel.out
      rw [show segs.take k = segs from by rw [← hQ.out, List.take_length]] at s3
      exact ⟨rs, A, c, pk, by rw [s1, List.length_map]; rfl, s3, by rw [← s1]; exact s4, s5⟩
end
end Go.Proofs.YtahljbjgenepaaaGreatDoor.W
end
section
namespace Go.Proofs.YtahljbjgenepaaaGreatDoor.W
open Go.RowKit Go.Sort
open Go.Proofs.YtahljbjgenepaaaGreatDoor.M Go.Proofs.YtahljbjgenepaaaGreatDoor.D Go.Proofs.YtahljbjgenepaaaGreatDoor.Z
set_option linter.unusedVariables false
set_option linter.unusedSimpArgs false

/-- A comparison within a region that is walked in the order of the text, its answer known. -/
theorem quiet_cmpW {P : Program} {ops : Array Oper} {C : World → Prop} {Q : Go.Act → Prop} {a : Go.Act} {rest : List Oper} {d : Option Tmp} {x y : Operand} {ty : TypeId} {ps : String} {af : Array Edge} {gd : Option (Nat × Bool)} (o : BinOp) (t u : TypeId) (vx vy v : Value)
    (hx : a.eval x = vx) (hy : a.eval y = vy) (h0 : ∀ w, (binOp o t vx vy).run P w = .ok v w) (hq : ∀ w, (eqGuard o t x y vx vy).run P w = .ok () w)
    (hw : Region.wanted { dst := d, op := .binOp o t x y u, type := ty, pos := ps, after := af, guard := gd } (yielded ops a.tmps) = true)
    (h : wpQuiet P ops C Q rest (a.put d v)) : wpQuiet P ops C Q ({ dst := d, op := .binOp o t x y u, type := ty, pos := ps, after := af, guard := gd } :: rest) a := by
  refine quiet_by v hw (fun w _ => ?_) h
  have e := h0 w
  have e2 := hq w
  unfold execOp
  simp [hx, hy, Sem.run_bind, Sem.run_pure, Result.andThen_ok, e, e2]
/-- A segment, or none. -/
abbrev ptO : Option Sr → Value
  | none => .pointer none
  | some r => ptV r.sb
/-- Is the list's segment the log's next one? -/
def OwnAt (id gen nx : Nat) (os : List (Option Sr)) (i : Nat) : Prop :=
  ∃ r, os[i]? = some (some r) ∧ r.a = id ∧ r.g = gen ∧ (i = 0 → r.b ≤ nx) ∧ (∀ j, i = j + 1 → ∃ p, os[j]? = some (some p) ∧ r.b = p.b + p.fs.length)
structure OsAt (W : World) (vb : Nat) (B : Option Addr) (os : List (Option Sr)) : Prop where
  row : ∀ i o, os[i]? = some o → ∃ q, B = some ⟨q, 0, none⟩ ∧ W.cell? ⟨q, i, none⟩ = some (ptO o)
  sg : ∀ r, some r ∈ os → Whole W r.sb 161 (sgL vb r.n r.a r.g r.s r.b (.slice r.la r.fs.length r.lc) (plc r.fs) r.sl)
  low : ∀ r, some r ∈ os → r.b ≤ 1099511627776 ∧ r.fs.length ≤ 1000
theorem OsAt.below {W W' : World} {vb : Nat} {B : Option Addr} {os : List (Option Sr)} (h : OsAt W vb B os) (hb : Below W.heap.size W W') : OsAt W' vb B os :=
  ⟨fun i o hi => by
    obtain ⟨q, e, hc⟩ := h.row i o hi
    exact ⟨q, e, keepCell hb hc⟩, fun r hr => (h.sg r hr).below hb (h.sg r hr).lt, h.low⟩
set_option maxRecDepth 100000 in
set_option maxHeartbeats 8000000 in
theorem isOwn_any (vb lb pb id gen nx c c' n : Nat) (A B : Option Addr) (os : List (Option Sr)) (W : World) (hL : Whole W lb 119 (lgL vb pb id gen A 0 c nx)) (h : OsAt W vb B os) (hn : os.length = n) (hn2 : n ≤ 1000) (hnx : nx ≤ 1099511628776) :
    Calls Tryz.prog 56 #[.pointer (some ⟨lb, 0, none⟩), .slice B n c'] W fun e w' => (∃ R, e = .returned (.bool R) ∧ (R = true ↔ ∀ i, i < n → OwnAt id gen nx os i)) ∧ Below W.heap.size W w' := by
  have hno : Hid (∀ (k : Nat) (w' : World), k < n → ¬ OwnAt id gen nx os k → Below W.heap.size W w' → (∃ R, Ending.returned (.bool false) = .returned (.bool R) ∧ (R = true ↔ ∀ i, i < n → OwnAt id gen nx os i)) ∧ Below W.heap.size W w') := Lib.hid (fun k w' hk h1 hb => ⟨⟨false, rfl, by simp; exact ⟨k, hk, h1⟩⟩, hb⟩)
  have hos := Lib.hid h
  have hLg := Lib.hid hL
  have hlen := Lib.hid hn
  clear h hL hn
  go_enter Tryz.func56, Tryz.ntmps56
  go_wp2_with fail
  go_loopg [10] n (fun ga i wr => ∃ k : Nat, k ≤ n ∧ n ≤ k + ga ∧ i = .int .i64 (k : Int) ∧ Hid ((∀ i, i < k → OwnAt id gen nx os i) ∧ Below W.heap.size W wr))
  case atStart => exact ⟨0, by omega, by omega, rfl, Lib.hid ⟨fun i hi => absurd hi (Nat.not_lt_zero _), Below.refl _ _⟩⟩
  case round =>
    obtain ⟨k, hk, hg, rfl, hrel⟩ := hrel
    generalize wr = wo at *
    by_cases hlt : k < n
    · obtain ⟨o, ho⟩ : ∃ o, os[k]? = some o := ⟨_, List.getElem?_eq_getElem (by have := hlen.out; omega)⟩
      have hos1 := hos.out.below hrel.out.2
      obtain ⟨q, rfl, hc⟩ := hos1.row k o ho
      have hki : (k : Int) < (n : Int) := by omega
      cases o with
      | none =>
        have hc2 : wo.cell? ⟨q, k, none⟩ = some (.pointer none) := hc
        have hfin := Lib.hid (hno.out k wo hlt (fun ⟨r, e, _⟩ => by rw [ho] at e; cases e) hrel.out.2)
        clear hos1 hc ho
        go_wp2_with fail
        go_ret
        exact hfin.out
      | some r =>
        have hc2 : wo.cell? ⟨q, k, none⟩ = some (ptV r.sb) := hc
        have hrm : some r ∈ os := List.mem_of_getElem? ho
        have hsg := hos1.sg r hrm
        have hlow := hos1.low r hrm
        have hh := Lib.hid (header_any hsg)
        replace ho := Lib.hid ho
        replace hos1 := Lib.hid hos1
        clear hc hsg
        go_wp2_with fail
        refine hh.out.mono ?_
        rintro _ w2 ⟨rfl, hb2⟩
        obtain ⟨W3, hW3⟩ : ∃ V, Hid (V = w2.alloc (.cells #[.int .i64 (r.a : Int), .int .u32 (r.g : Int), .int .u32 (r.s : Int), .int .i64 (r.b : Int)] 81)) := ⟨_, Lib.hid rfl⟩
        have hb3 : Below wo.heap.size wo W3 := by rw [hW3.out]; exact grewAlloc hb2 _
        have hX3 : Whole W3 w2.heap.size 81 [.int .i64 (r.a : Int), .int .u32 (r.g : Int), .int .u32 (r.s : Int), .int .i64 (r.b : Int)] := by rw [hW3.out]; exact Whole.new w2 _ _
        obtain ⟨hb, hhb⟩ : ∃ q, Hid (w2.heap.size = q) := ⟨_, Lib.hid rfl⟩
        rw [hhb.out] at hX3
        have hB3 := grew hrel.out.2 hb3
        have hL3 := hLg.out.below hB3 hLg.out.lt
        have x0 : W3.cell? ⟨hb, 0, none⟩ = some (.int .i64 (r.a : Int)) := hX3.cell 0
        have x1 : W3.cell? ⟨hb, 1, none⟩ = some (.int .u32 (r.g : Int)) := hX3.cell 1
        have g2 : W3.cell? ⟨lb, 2, none⟩ = some (.int .i64 (id : Int)) := hL3.cell 2
        have g3 : W3.cell? ⟨lb, 3, none⟩ = some (.int .u32 (gen : Int)) := hL3.cell 3
        replace hX3 := Lib.hid hX3
        replace hL3 := Lib.hid hL3
        replace hB3 := Lib.hid hB3
        replace hos1 := Lib.hid (hos1.out.below hb3)
        have hpre := Lib.hid hrel.out.1
        clear hh hb2 hb3 hrel hc2
        go_upto_region 7 with fail
        rw [← show W3 = _ from hW3.out, hhb.out]
        clear hW3 hhb
        by_cases ha : r.a = id
        · by_cases hgn : r.g = gen
          · have e1 : ((r.a : Int) != (id : Int)) = false := by simp; omega
            have e2 : ((r.g : Int) != (gen : Int)) = false := by simp; omega
            go_quiet (fail)
            obtain ⟨V, hV⟩ : ∃ V, Hid (V = W3.drewN nq) := ⟨_, Lib.hid rfl⟩
            have hbV : Below W3.heap.size W3 V := by rw [hV.out]; exact (fun (h : Below W3.heap.size W3 W3) => ⟨h.os, h.tape, h.output, h.size, h.block⟩) (Below.refl _ _)
            have hLV := hL3.out.below hbV hL3.out.lt
            have hXV := hX3.out.below hbV hX3.out.lt
            have hosV := hos1.out.below hbV
            have hBV := Lib.hid (grew hB3.out hbV)
            have y3 : V.cell? ⟨hb, 3, none⟩ = some (.int .i64 (r.b : Int)) := hXV.cell 3
            have gy := fun d os => cell_regrown y3 d os
            have hb0 := fun U (hu : Whole U lb 119 (lgL vb pb id gen A 0 c nx)) => (base_none lb c A (.int .i64 (nx : Int)) U (hu.cell 4) (hu.cell 5)).mono (fun e w' h => (⟨h.1, h.2 ▸ Below.refl _ _⟩ : e = .returned (.int .i64 (nx : Int)) ∧ Below U.heap.size U w'))
            have hbas := Lib.hid (regrown_if hb0 V (fun w' hb => hLV.below hb hLV.lt))
            rw [← show V = _ from hV.out]
            obtain ⟨KI, hKI⟩ : ∃ KI : Int, Hid ((k : Int) = KI) := ⟨_, Lib.hid rfl⟩
            rw [hKI.out]
            have hwk : IntKind.i64.wrap (KI + 1) = ((k + 1 : Nat) : Int) := by rw [← hKI.out, IntWalk.i64_in _ (by omega)]; omega
            obtain ⟨v4, hv4⟩ : ∃ v, Hid (decide ((nx : Int) < (r.b : Int)) = v) := ⟨_, Lib.hid rfl⟩
            have e4 : ∀ W, (binOp BinOp.gtr 3 (.int .i64 (r.b : Int)) (.int .i64 (nx : Int))).run Tryz.prog W = .ok (.bool v4) W := fun W => by rw [← hv4.out]; simp [go_sem, Tryz.underlying3]
            clear hV x0 x1 g2 g3 e1 e2 hX3 hL3 hos1 hB3 hbV hb0 hLV hXV
            rcases Nat.eq_zero_or_pos k with hk0 | hkp
            · have e0 : ∀ W, (binOp BinOp.eql 3 (.int .i64 KI) (.int .i64 0)).run Tryz.prog W = .ok (.bool true) W := fun W => by rw [← hKI.out, hk0]; simp [go_sem, Tryz.underlying3]
              have e6 : ∀ W, (binOp BinOp.gtr 3 (.int .i64 KI) (.int .i64 0)).run Tryz.prog W = .ok (.bool false) W := fun W => by rw [← hKI.out, hk0]; simp [go_sem, Tryz.underlying3]
              clear hosV
              replace hk0 := Lib.hid hk0
              cases v4 with
              | true =>
                have hfin := Lib.hid (fun U (hu : Below W.heap.size W U) => hno.out k U hlt (fun ⟨r2, e, _, _, e3, _⟩ => by
                  rw [ho.out] at e; cases e
                  have h1 := of_decide_eq_true hv4.out
                  have := e3 hk0.out
                  omega) hu)
                go_wp2_with fail
                refine wp_region_quiet_below (by kernel_rfl) (by kernel_rfl) ?_
                repeat (first
                  | ((with_reducible refine quiet_cmpW BinOp.eql 3 3 (.int .i64 KI) (.int .i64 0) _ ?_ ?_ e0 ?_ ?_ ?_); (· rfl); (· rfl); (· exact fun _ => rfl); (· rfl); simp only [Act.put, List.setIfInBounds_toArray, List.set_cons_zero, List.set_cons_succ])
                  | ((with_reducible refine quiet_cmpW BinOp.gtr 3 3 (.int .i64 (r.b : Int)) (.int .i64 (nx : Int)) _ ?_ ?_ e4 ?_ ?_ ?_); (· rfl); (· rfl); (· exact fun _ => rfl); (· rfl); simp only [Act.put, List.setIfInBounds_toArray, List.set_cons_zero, List.set_cons_succ])
                  | go_big_quiet_step (first | (with_reducible exact hbas.out _ _) | fail "none"))
                refine wpQuiet_nil ?_
                intro _ hw'
                obtain ⟨⟨dq, osq⟩, hw''⟩ := hw'
                subst hw''
                have hf2 := Lib.hid (hfin.out _ (grew hBV.out (below_regrown V dq osq)))
                clear gy hbas e4 e0 e6 hfin
                go_wp2_with fail
                go_ret
                exact hf2.out
              | false =>
                have hnew : Hid (∀ i, i < k + 1 → OwnAt id gen nx os i) := Lib.hid (fun i hi => by
                  obtain rfl : i = k := by have := hk0.out; omega
                  exact ⟨r, ho.out, ha, hgn, fun _ => by have h1 := of_decide_eq_false hv4.out; omega, fun j e => by have := hk0.out; omega⟩)
                go_wp2_with fail
                refine wp_region_quiet_below (by kernel_rfl) (by kernel_rfl) ?_
                repeat (first
                  | ((with_reducible refine quiet_cmpW BinOp.eql 3 3 (.int .i64 KI) (.int .i64 0) _ ?_ ?_ e0 ?_ ?_ ?_); (· rfl); (· rfl); (· exact fun _ => rfl); (· rfl); simp only [Act.put, List.setIfInBounds_toArray, List.set_cons_zero, List.set_cons_succ])
                  | ((with_reducible refine quiet_cmpW BinOp.gtr 3 3 (.int .i64 (r.b : Int)) (.int .i64 (nx : Int)) _ ?_ ?_ e4 ?_ ?_ ?_); (· rfl); (· rfl); (· exact fun _ => rfl); (· rfl); simp only [Act.put, List.setIfInBounds_toArray, List.set_cons_zero, List.set_cons_succ])
                  | ((with_reducible refine quiet_cmpW BinOp.gtr 3 3 (.int .i64 KI) (.int .i64 0) _ ?_ ?_ e6 ?_ ?_ ?_); (· rfl); (· rfl); (· exact fun _ => rfl); (· rfl); simp only [Act.put, List.setIfInBounds_toArray, List.set_cons_zero, List.set_cons_succ])
                  | go_big_quiet_step (first | (with_reducible exact hbas.out _ _) | fail "none"))
                refine wpQuiet_nil ?_
                intro _ hw'
                obtain ⟨⟨dq, osq⟩, hw''⟩ := hw'
                subst hw''
                have hf2 := Lib.hid (grew hBV.out (below_regrown V dq osq))
                clear gy hbas e4 e0 e6
                go_wp2_with fail
                go_roundg (gk - 1)
                case measure => omega
                case rel => exact ⟨k + 1, by omega, by omega, by first | rfl | (simp; done) | (congr 1; omega) | go_num, Lib.hid ⟨hnew.out, hf2.out⟩⟩
            · obtain ⟨j, hj⟩ : ∃ j, k = j + 1 := ⟨k - 1, by omega⟩
              have e0 : ∀ W, (binOp BinOp.eql 3 (.int .i64 KI) (.int .i64 0)).run Tryz.prog W = .ok (.bool false) W := fun W => by
                have h1 : (KI == 0) = false := by rw [← hKI.out]; simp; omega
                simp [go_sem, Tryz.underlying3, h1]
              have e6 : ∀ W, (binOp BinOp.gtr 3 (.int .i64 KI) (.int .i64 0)).run Tryz.prog W = .ok (.bool true) W := fun W => by
                have h1 : 0 < KI := by rw [← hKI.out]; omega
                simp [go_sem, Tryz.underlying3, h1]
              have hwj : IntKind.i64.wrap (KI - 1) = (j : Int) := by rw [← hKI.out, IntWalk.i64_in _ (by omega)]; omega
              have hji : (j : Int) < (n : Int) := by omega
              have hj0 : (0 : Int) ≤ (j : Int) := by omega
              obtain ⟨p, hp⟩ : ∃ p, os[j]? = some (some p) := by
                obtain ⟨p, hp, _⟩ := hpre.out j (by omega)
                exact ⟨p, hp⟩
              obtain ⟨q', eq', hcj⟩ := hosV.row j _ hp
              obtain rfl : q' = q := by cases eq'; rfl
              have hcj2 : V.cell? ⟨q', j, none⟩ = some (ptV p.sb) := hcj
              have gj := fun d os => cell_regrown hcj2 d os
              have hplow := hosV.low p (List.mem_of_getElem? hp)
              have hpsg := hosV.sg p (List.mem_of_getElem? hp)
              have hb1 := fun U (hu : Whole U p.sb 161 (sgL vb p.n p.a p.g p.s p.b (.slice p.la p.fs.length p.lc) (plc p.fs) p.sl)) => behind_any vb p.sb p.n p.a p.g p.s p.b (plc p.fs) p.la p.fs.length p.lc p.sl U (by omega) hplow.2 hu
              have hbeh := Lib.hid (regrown_if hb1 V (fun w' hb => hpsg.below hb hpsg.lt))
              obtain ⟨PB, hPB⟩ : ∃ PB : Int, Hid (((p.b + p.fs.length : Nat) : Int) = PB) := ⟨_, Lib.hid rfl⟩
              rw [hPB.out] at hbeh
              obtain ⟨v5, hv5⟩ : ∃ v, Hid (((r.b : Int) != PB) = v) := ⟨_, Lib.hid rfl⟩
              have e5 : ∀ W, (binOp BinOp.neq 3 (.int .i64 (r.b : Int)) (.int .i64 PB)).run Tryz.prog W = .ok (.bool v5) W := fun W => by rw [← hv5.out]; simp [go_sem, Tryz.underlying3]
              replace hp := Lib.hid hp
              replace hj := Lib.hid hj
              clear hosV hb1 hpsg hcj hcj2 eq'
              cases v5 with
              | true =>
                have hfin := Lib.hid (fun U (hu : Below W.heap.size W U) => hno.out k U hlt (fun ⟨r2, e, _, _, _, e3⟩ => by
                  rw [ho.out] at e; cases e
                  obtain ⟨p2, h2, h3⟩ := e3 j hj.out
                  rw [hp.out] at h2; cases h2
                  have h1 := hv5.out
                  rw [← hPB.out, ← h3] at h1
                  simp at h1) hu)
                go_wp2_with fail
                refine wp_region_quiet_below (by kernel_rfl) (by kernel_rfl) ?_
                repeat (first
                  | ((with_reducible refine quiet_cmpW BinOp.eql 3 3 (.int .i64 KI) (.int .i64 0) _ ?_ ?_ e0 ?_ ?_ ?_); (· rfl); (· rfl); (· exact fun _ => rfl); (· rfl); simp only [Act.put, List.setIfInBounds_toArray, List.set_cons_zero, List.set_cons_succ])
                  | ((with_reducible refine quiet_cmpW BinOp.neq 3 3 (.int .i64 (r.b : Int)) (.int .i64 PB) _ ?_ ?_ e5 ?_ ?_ ?_); (· rfl); (· rfl); (· exact fun _ => rfl); (· rfl); simp only [Act.put, List.setIfInBounds_toArray, List.set_cons_zero, List.set_cons_succ])
                  | ((with_reducible refine quiet_cmpW BinOp.gtr 3 3 (.int .i64 KI) (.int .i64 0) _ ?_ ?_ e6 ?_ ?_ ?_); (· rfl); (· rfl); (· exact fun _ => rfl); (· rfl); simp only [Act.put, List.setIfInBounds_toArray, List.set_cons_zero, List.set_cons_succ])
                  | go_big_quiet_step (first | (with_reducible exact hbeh.out _ _) | fail "none"))
                refine wpQuiet_nil ?_
                intro _ hw'
                obtain ⟨⟨dq, osq⟩, hw''⟩ := hw'
                subst hw''
                have hf2 := Lib.hid (hfin.out _ (grew hBV.out (below_regrown V dq osq)))
                clear gy hbas hbeh gj e4 e5 e0 e6 hfin
                go_wp2_with fail
                go_ret
                exact hf2.out
              | false =>
                have hnew : Hid (∀ i, i < k + 1 → OwnAt id gen nx os i) := Lib.hid (fun i hi => by
                  by_cases hik : i < k
                  · exact hpre.out i hik
                  · obtain rfl : i = k := by omega
                    refine ⟨r, ho.out, ha, hgn, fun e => by omega, fun j' e => ⟨p, ?_, ?_⟩⟩
                    · have h1 := hj.out
                      obtain rfl : j' = j := by omega
                      exact hp.out
                    · have h1 := hv5.out
                      rw [← hPB.out] at h1
                      simp at h1
                      omega)
                go_wp2_with fail
                refine wp_region_quiet_below (by kernel_rfl) (by kernel_rfl) ?_
                repeat (first
                  | ((with_reducible refine quiet_cmpW BinOp.eql 3 3 (.int .i64 KI) (.int .i64 0) _ ?_ ?_ e0 ?_ ?_ ?_); (· rfl); (· rfl); (· exact fun _ => rfl); (· rfl); simp only [Act.put, List.setIfInBounds_toArray, List.set_cons_zero, List.set_cons_succ])
                  | ((with_reducible refine quiet_cmpW BinOp.neq 3 3 (.int .i64 (r.b : Int)) (.int .i64 PB) _ ?_ ?_ e5 ?_ ?_ ?_); (· rfl); (· rfl); (· exact fun _ => rfl); (· rfl); simp only [Act.put, List.setIfInBounds_toArray, List.set_cons_zero, List.set_cons_succ])
                  | ((with_reducible refine quiet_cmpW BinOp.gtr 3 3 (.int .i64 KI) (.int .i64 0) _ ?_ ?_ e6 ?_ ?_ ?_); (· rfl); (· rfl); (· exact fun _ => rfl); (· rfl); simp only [Act.put, List.setIfInBounds_toArray, List.set_cons_zero, List.set_cons_succ])
                  | go_big_quiet_step (first | (with_reducible exact hbeh.out _ _) | fail "none"))
                refine wpQuiet_nil ?_
                intro _ hw'
                obtain ⟨⟨dq, osq⟩, hw''⟩ := hw'
                subst hw''
                have hf2 := Lib.hid (grew hBV.out (below_regrown V dq osq))
                clear gy hbas hbeh gj e4 e5 e0 e6
                go_wp2_with fail
                go_roundg (gk - 1)
                case measure => omega
                case rel => exact ⟨k + 1, by omega, by omega, by first | rfl | (simp; done) | (congr 1; omega) | go_num, Lib.hid ⟨hnew.out, hf2.out⟩⟩
          · have e1 : ((r.a : Int) != (id : Int)) = false := by simp; omega
            have e2 : ((r.g : Int) != (gen : Int)) = true := by simp; omega
            go_quiet (fail)
            have hfin := Lib.hid (hno.out k (W3.drewN nq) hlt (fun ⟨r2, e, _, e3, _⟩ => by rw [ho.out] at e; cases e; exact hgn e3) ((fun (h : Below W.heap.size W W3) => ⟨h.os, h.tape, h.output, h.size, h.block⟩) hB3.out))
            go_wp2_with fail
            go_ret
            exact hfin.out
        · have e1 : ((r.a : Int) != (id : Int)) = true := by simp; omega
          go_quiet (fail)
          have hfin := Lib.hid (hno.out k (W3.drewN nq) hlt (fun ⟨r2, e, e3, _⟩ => by rw [ho.out] at e; cases e; exact ha e3) ((fun (h : Below W.heap.size W W3) => ⟨h.os, h.tape, h.output, h.size, h.block⟩) hB3.out))
          go_wp2_with fail
          go_ret
          exact hfin.out
    · obtain rfl : k = n := by omega
      have hfin : Hid ((∃ R, Ending.returned (.bool true) = .returned (.bool R) ∧ (R = true ↔ ∀ i, i < k → OwnAt id gen nx os i)) ∧ Below W.heap.size W wo) := Lib.hid ⟨⟨true, rfl, by simp; exact hrel.out.1⟩, hrel.out.2⟩
      go_wp2_with fail
      go_ret
      exact hfin.out
end Go.Proofs.YtahljbjgenepaaaGreatDoor.W
end
section
namespace Go.Proofs.YtahljbjgenepaaaGreatDoor.W
open Go.RowKit Go.Sort
open Go.Proofs.YtahljbjgenepaaaGreatDoor.M Go.Proofs.YtahljbjgenepaaaGreatDoor.D Go.Proofs.YtahljbjgenepaaaGreatDoor.Z
set_option linter.unusedVariables false
set_option linter.unusedSimpArgs false

/-- The owners behind claims. -/
def clm (id : Nat) (l : List Int) (rs : List Sr) : List Int := rs.foldl (fun l r => l.set r.n (id : Int)) l
theorem clm_len (id : Nat) : ∀ (rs : List Sr) (l : List Int), (clm id l rs).length = l.length
  | [], l => rfl
  | r :: rs, l => by show (clm id (l.set r.n (id : Int)) rs).length = _; rw [clm_len id rs, List.length_set]
theorem clm_snoc (id : Nat) (l : List Int) (rs : List Sr) (r : Sr) : clm id l (rs ++ [r]) = (clm id l rs).set r.n (id : Int) := by unfold clm; rw [List.foldl_append]; rfl
theorem clm_far (id : Nat) (i : Nat) : ∀ (rs : List Sr) (l : List Int), (∀ r ∈ rs, r.n ≠ i) → (clm id l rs)[i]? = l[i]?
  | [], l, _ => rfl
  | r :: rs, l, h => by
    show (clm id (l.set r.n (id : Int)) rs)[i]? = _
    rw [clm_far id i rs _ (fun x hx => h x (List.mem_cons_of_mem _ hx)), List.getElem?_set_ne (h r List.mem_cons_self)]
section
variable {w0 W W' : World} {vb d g' from_ m : Nat} {lie : List (List UInt8)} {ws : List (Nat × List UInt8)} {steps : Int} {K : List Bk}
set_option maxRecDepth 100000 in
set_option maxHeartbeats 8000000 in
theorem claim_yes (pb pa lb id gen nx c cB ep ct N : Nat) (A B : Option Addr) (l : List Int) (rs : List Sr) (pk : List Bk)
    (h : VB w0 vb d g' lie ws from_ m steps (plK pb pa l ep ct ++ ((lb, 119, lgL vb pb id gen A N c nx) :: (pk ++ (rs.flatMap (Sr.K vb) ++ K)))) W) (hrow : RowPt B cB (rs.map Sr.sb) pk)
    (hn : rs.length ≤ 64) (hid1 : 1 ≤ id) (hid : id < 65536) (hfree : ∀ r ∈ rs, r.n < l.length ∧ l[r.n]? = some 0) (hap : (rs.map Sr.n).Nodup) :
    Calls Tryz.prog 57 #[.pointer (some ⟨lb, 0, none⟩), .slice B rs.length cB] W fun e w' => e = .returned (.int .i64 0) ∧
      VB w0 vb d g' lie ws from_ m steps (plK pb pa (clm id l rs) ep ct ++ ((lb, 119, lgL vb pb id gen A N c nx) :: (pk ++ (rs.flatMap (Sr.K vb) ++ K)))) w' := by
  have hstep : Hid (∀ (k : Nat) (r : Sr) (V : World), rs[k]? = some r → VB w0 vb d g' lie ws from_ m steps (plK pb pa (clm id l (rs.take k)) ep ct ++ ((lb, 119, lgL vb pb id gen A N c nx) :: (pk ++ (rs.flatMap (Sr.K vb) ++ K)))) V →
      (∃ q, B = some ⟨q, 0, none⟩ ∧ V.cell? ⟨q, k, none⟩ = some (ptV r.sb)) ∧ V.cell? ⟨r.sb, 1, none⟩ = some (.int .i64 (r.n : Int)) ∧ V.cell? ⟨lb, 1, none⟩ = some (.pointer (some ⟨pb, 0, none⟩)) ∧ V.cell? ⟨lb, 2, none⟩ = some (.int .i64 (id : Int)) ∧
      Calls Tryz.prog 104 #[.pointer (some ⟨pb, 0, none⟩), .int .i64 (r.n : Int), .int .i64 (id : Int)] V fun e w' => e = .returned (.int .i64 0) ∧ VB w0 vb d g' lie ws from_ m steps (plK pb pa (clm id l (rs.take (k + 1))) ep ct ++ ((lb, 119, lgL vb pb id gen A N c nx) :: (pk ++ (rs.flatMap (Sr.K vb) ++ K)))) w') := Lib.hid (fun k r V hk hv => by
    have hrm := List.mem_of_getElem? hk
    obtain ⟨q, cur, e1, e2, e3⟩ := hrow.cells (fun x hx => hv.got (List.mem_append_right _ (List.mem_cons_of_mem _ (List.mem_append_left _ hx)))) (i := k) (sb := r.sb) (by rw [List.getElem?_map, hk]; rfl)
    have hq := hv.got (List.mem_append_right _ (List.mem_cons_of_mem _ (List.mem_append_left _ e2)))
    have hS := hv.got (x := (r.sb, 161, sgL vb r.n r.a r.g r.s r.b (.slice r.la r.fs.length r.lc) (plc r.fs) r.sl)) (List.mem_append_right _ (List.mem_cons_of_mem _ (List.mem_append_right _ (List.mem_append_left _ (List.mem_flatMap.2 ⟨r, hrm, List.mem_cons_self⟩)))))
    have hL := hv.got (x := (lb, 119, lgL vb pb id gen A N c nx)) (List.mem_append_right _ List.mem_cons_self)
    refine ⟨⟨q, e1, (hq.cell k).trans e3⟩, hS.cell 1, hL.cell 1, hL.cell 2, ?_⟩
    have hne : ∀ x ∈ rs.take k, x.n ≠ r.n := fun x hx e => by
      obtain ⟨i, hi⟩ := List.getElem?_of_mem hx
      rw [List.getElem?_take] at hi
      split at hi
      · rename_i hlt
        obtain ⟨hi1, hi2⟩ := List.getElem?_eq_some_iff.1 hi
        obtain ⟨hk1, hk2⟩ := List.getElem?_eq_some_iff.1 hk
        have h1 := List.pairwise_iff_getElem.1 hap i k (by rw [List.length_map]; exact hi1) (by rw [List.length_map]; exact hk1) hlt
        rw [List.getElem_map, List.getElem_map, hi2, hk2] at h1
        exact h1 e
      · cases hi
    have hcl : Cl (clm id l (rs.take k)) (r.n : Int) (id : Int) 0 (clm id l (rs.take (k + 1))) := by
      refine .inr (.inr (.inr ⟨⟨by omega, by rw [clm_len]; have := (hfree r hrm).1; omega⟩, by unfold okG; simp; omega, ?_, rfl, ?_⟩))
      · rw [Int.toNat_natCast, clm_far id r.n _ _ hne]; exact (hfree r hrm).2
      · rw [List.take_add_one, hk, Int.toNat_natCast]
        exact clm_snoc id l (rs.take k) r
    refine (pclaim_any hv.pool hcl).mono ?_
    rintro e w' ⟨r1, r2, r3⟩
    exact ⟨r1, hv.pooled r2 r3⟩)
  obtain ⟨n, hnn⟩ : ∃ n, Hid (rs.length = n) := ⟨_, Lib.hid rfl⟩
  rw [hnn.out] at hn ⊢
  have h0 := Lib.hid h
  have htk := Lib.hid (show rs.take n = rs from by rw [← hnn.out, List.take_length])
  clear h hrow hfree hap
  go_enter Tryz.func57, Tryz.ntmps57
  go_wp2_with fail
  go_loopg [12] n (fun ga i wr => ∃ k : Nat, k ≤ n ∧ n ≤ k + ga ∧ i = .int .i64 (k : Int) ∧ Hid (VB w0 vb d g' lie ws from_ m steps (plK pb pa (clm id l (rs.take k)) ep ct ++ ((lb, 119, lgL vb pb id gen A N c nx) :: (pk ++ (rs.flatMap (Sr.K vb) ++ K)))) wr))
  case atStart => exact ⟨0, by omega, by omega, rfl, h0⟩
  case round =>
    clear h0
    obtain ⟨k, hk, hg, rfl, hrel⟩ := hrel
    generalize wr = wo at *
    by_cases hlt : k < n
    · obtain ⟨r, hr⟩ : ∃ r, rs[k]? = some r := ⟨_, List.getElem?_eq_getElem (by have := hnn.out; omega)⟩
      obtain ⟨⟨q, rfl, hc⟩, _⟩ := hstep.out k r wo hr hrel.out
      have hD := (Below.refl wo.heap.size wo).drew
      obtain ⟨_, c1, g1, g2, hcl⟩ := hstep.out k r wo.drew hr (hrel.out.below hD)
      have hnx := Lib.hid (fun V hV => (hstep.out k r V hr hV))
      have hnum := Lib.hid (number_any r.sb r.n wo.drew c1)
      have hki : (k : Int) < (n : Int) := by omega
      replace hcl := Lib.hid hcl
      have hL6 := Lib.hid (fun (V : World) (hV : VB w0 vb d g' lie ws from_ m steps (plK pb pa (clm id l (rs.take (k + 1))) ep ct ++ ((lb, 119, lgL vb pb id gen A N c nx) :: (pk ++ (rs.flatMap (Sr.K vb) ++ K)))) V) => (hV.got (x := (lb, 119, lgL vb pb id gen A N c nx)) (List.mem_append_right _ List.mem_cons_self)))
      replace hr := Lib.hid hr
      clear hrel c1 hD
      go_wp2_with fail
      go_region_held3 (fun w' => w'.cell? ⟨lb, 1, none⟩ = some (.pointer (some ⟨pb, 0, none⟩)) ∧ w'.cell? ⟨lb, 2, none⟩ = some (.int .i64 (id : Int))) (first | assumption | exact ⟨by assumption, by assumption⟩ | (go_keep)) (first
        | (go_at_call 61; (with_reducible refine hnum.out.mono ?_); rintro _ _ ⟨rfl, rfl⟩)
        | (go_at_call 104; (with_reducible refine hcl.out.mono ?_); rintro _ w6 ⟨rfl, hv6⟩; have f1 : w6.cell? ⟨lb, 1, none⟩ = some (.pointer (some ⟨pb, 0, none⟩)) := (hL6.out w6 hv6).cell 1; have f2 : w6.cell? ⟨lb, 2, none⟩ = some (.int .i64 (id : Int)) := (hL6.out w6 hv6).cell 2; replace hv6 := Lib.hid hv6))
      all_goals
        clear f1 f2 g1 g2 hc
        go_wp2_with fail
        go_roundg (gk - 1)
        case measure => omega
        case rel => exact ⟨k + 1, by omega, by omega, by go_num, hv6⟩
    · obtain rfl : k = n := by omega
      have hv := hrel.out
      rw [htk.out] at hv
      replace hv := Lib.hid hv
      clear hrel
      go_wp2_with fail
      go_ret
      exact ⟨rfl, hv.out⟩
end
end Go.Proofs.YtahljbjgenepaaaGreatDoor.W
end
section
namespace Go.Proofs.YtahljbjgenepaaaGreatDoor.W
open Go.RowKit Go.Sort
open Go.Proofs.YtahljbjgenepaaaGreatDoor.M Go.Proofs.YtahljbjgenepaaaGreatDoor.D Go.Proofs.YtahljbjgenepaaaGreatDoor.Z
set_option linter.unusedVariables false
set_option linter.unusedSimpArgs false

section
variable {w0 W W' : World} {vb d g' from_ m : Nat} {lie : List (List UInt8)} {ws : List (Nat × List UInt8)} {steps : Int} {K : List Bk}
set_option maxRecDepth 100000 in
theorem adopt_again (lb N c : Nat) (A : Option Addr) (v : Value) (W : World) (c4 : W.cell? ⟨lb, 4, none⟩ = some (.slice A N c)) (hN : 0 < N) :
    Calls Tryz.prog 16 #[.pointer (some ⟨lb, 0, none⟩), v] W fun e w' => e = .returned (.int .i64 7) ∧ W = w' := by
  have h1 : (0 : Int) < (N : Int) := by omega
  have h2 : decide (0 < N) = true := by simp; omega
  go_enter Tryz.func16, Tryz.ntmps16
  go_wp2_with fail
  go_ret
  exact ⟨rfl, rfl⟩
set_option maxRecDepth 100000 in
theorem adopt_no (lb c : Nat) (A : Option Addr) (v : Value) (W : World) (c4 : W.cell? ⟨lb, 4, none⟩ = some (.slice A 0 c))
    (ho : Calls Tryz.prog 56 #[.pointer (some ⟨lb, 0, none⟩), v] W fun e w' => e = .returned (.bool false) ∧ Below W.heap.size W w') :
    Calls Tryz.prog 16 #[.pointer (some ⟨lb, 0, none⟩), v] W fun e w' => e = .returned (.int .i64 4) ∧ Below W.heap.size W w' := by
  replace ho := Lib.hid ho
  go_enter Tryz.func16, Tryz.ntmps16
  go_wp2_with fail
  refine ho.out.mono ?_
  rintro _ w2 ⟨rfl, hb2⟩
  replace hb2 := Lib.hid hb2
  go_wp2_with fail
  go_ret
  exact ⟨rfl, hb2.out⟩
theorem sealedSame {r : Sr} (h : r.sl = true) : ({ r with sl := true } : Sr) = r := by cases r; cases h; rfl
set_option maxRecDepth 100000 in
set_option maxHeartbeats 8000000 in
theorem adopt_yes (pb pa lb id gen nx cB ep ct : Nat) (B : Option Addr) (l : List Int) (rs : List Sr) (pk : List Bk)
    (h : VB w0 vb d g' lie ws from_ m steps (plK pb pa l ep ct ++ ((lb, 119, lgL vb pb id gen none 0 0 nx) :: (pk ++ (rs.flatMap (Sr.K vb) ++ K)))) W) (hrow : RowPt B cB (rs.map Sr.sb) pk)
    (hn : rs.length ≤ 64) (hid1 : 1 ≤ id) (hid : id < 65536) (hfree : ∀ r ∈ rs, r.n < l.length ∧ l[r.n]? = some 0) (hap : (rs.map Sr.n).Nodup) (hsl : ∀ r ∈ rs, r.sl = true) (hlow : ∀ r ∈ rs, r.b ≤ 1099511627776 ∧ r.fs.length ≤ 1000)
    (ho : Calls Tryz.prog 56 #[.pointer (some ⟨lb, 0, none⟩), .slice B rs.length cB] W fun e w' => e = .returned (.bool true) ∧ Below W.heap.size W w') :
    Calls Tryz.prog 16 #[.pointer (some ⟨lb, 0, none⟩), .slice B rs.length cB] W fun e w' => e = .returned (.int .i64 0) ∧ ∃ A' c' nx' pk',
      VB w0 vb d g' lie ws from_ m steps (plK pb pa (clm id l rs) ep ct ++ ((lb, 119, lgL vb pb id gen A' rs.length c' nx') :: (pk' ++ (pk ++ (rs.flatMap (Sr.K vb) ++ K))))) w' := by
  have c4 : W.cell? ⟨lb, 4, none⟩ = some (.slice none 0 0) := (h.got (x := (lb, 119, lgL vb pb id gen none 0 0 nx)) (List.mem_append_right _ List.mem_cons_self)).cell 4
  have hcl := Lib.hid (fun V (hV : Below W.heap.size W V) => claim_yes pb pa lb id gen nx 0 cB ep ct 0 none B l rs pk (h.below hV) hrow hn hid1 hid hfree hap)
  obtain ⟨PL, hPL⟩ : ∃ PL, Hid (plK pb pa (clm id l rs) ep ct = PL) := ⟨_, Lib.hid rfl⟩
  obtain ⟨n, hnn⟩ : ∃ n, Hid (rs.length = n) := ⟨_, Lib.hid rfl⟩
  rw [hPL.out, hnn.out] at hcl
  rw [hnn.out] at ho hn
  rw [hPL.out, hnn.out]
  have hfacts : Hid (∀ (k : Nat) (r : Sr) (A1 : Option Addr) (c1 nx1 : Nat) (pk1 : List Bk) (V : World), rs[k]? = some r → VB w0 vb d g' lie ws from_ m steps (PL ++ ((lb, 119, lgL vb pb id gen A1 k c1 nx1) :: (pk1 ++ (pk ++ (rs.flatMap (Sr.K vb) ++ K))))) V →
      (∃ q, B = some ⟨q, 0, none⟩ ∧ V.cell? ⟨q, k, none⟩ = some (ptV r.sb)) ∧
      Calls Tryz.prog 58 #[.pointer (some ⟨r.sb, 0, none⟩)] V fun e w' => e = .returned (.tuple #[]) ∧ VB w0 vb d g' lie ws from_ m steps (PL ++ ((lb, 119, lgL vb pb id gen A1 k c1 nx1) :: (pk1 ++ (pk ++ (rs.flatMap (Sr.K vb) ++ K))))) w') := Lib.hid (fun k r A1 c1 nx1 pk1 V hk hv => by
    have hrm := List.mem_of_getElem? hk
    obtain ⟨q, cur, e1, e2, e3⟩ := hrow.cells (fun x hx => hv.got (List.mem_append_right _ (List.mem_cons_of_mem _ (List.mem_append_right _ (List.mem_append_left _ hx))))) (i := k) (sb := r.sb) (by rw [List.getElem?_map, hk]; rfl)
    have hq := hv.got (List.mem_append_right _ (List.mem_cons_of_mem _ (List.mem_append_right _ (List.mem_append_left _ e2))))
    refine ⟨⟨q, e1, (hq.cell k).trans e3⟩, ?_⟩
    obtain ⟨s, t, est⟩ := List.append_of_mem hrm
    have hp : (rs.flatMap (Sr.K vb)) = s.flatMap (Sr.K vb) ++ (r.K vb ++ t.flatMap (Sr.K vb)) := by rw [est, List.flatMap_append, List.flatMap_cons]
    have hv2 := hv.perm (K' := r.K vb ++ (PL ++ ((lb, 119, lgL vb pb id gen A1 k c1 nx1) :: (pk1 ++ (pk ++ (s.flatMap (Sr.K vb) ++ (t.flatMap (Sr.K vb) ++ K))))))) (perm_by fun a => by rw [hp]; simp only [List.count_append, List.count_cons]; omega)
    refine hv2.sealed.mono ?_
    rintro e w' ⟨r1, r2⟩
    rw [sealedSame (hsl r hrm)] at r2
    exact ⟨r1, r2.perm (perm_by fun a => by rw [hp]; simp only [List.count_append, List.count_cons]; omega)⟩)
  have hseg : Hid (∀ (k : Nat) (r : Sr) (K1 : List Bk) (V : World), rs[k]? = some r → VB w0 vb d g' lie ws from_ m steps (K1 ++ (rs.flatMap (Sr.K vb) ++ K)) V → Calls Tryz.prog 59 #[.pointer (some ⟨r.sb, 0, none⟩)] V fun e w' => e = .returned (.int .i64 ((r.b + r.fs.length : Nat) : Int)) ∧ Below V.heap.size V w') := Lib.hid (fun k r K1 V hk hv => by
    have hrm := List.mem_of_getElem? hk
    have hS := hv.got (x := (r.sb, 161, sgL vb r.n r.a r.g r.s r.b (.slice r.la r.fs.length r.lc) (plc r.fs) r.sl)) (List.mem_append_right _ (List.mem_append_left _ (List.mem_flatMap.2 ⟨r, hrm, List.mem_cons_self⟩)))
    exact behind_any vb r.sb r.n r.a r.g r.s r.b (plc r.fs) r.la r.fs.length r.lc r.sl V (by have := (hlow r hrm).1; omega) (hlow r hrm).2 hS)
  obtain ⟨KK, hKK⟩ : ∃ KK, Hid (rs.flatMap (Sr.K vb) ++ K = KK) := ⟨_, Lib.hid rfl⟩
  rw [hKK.out] at hcl hfacts hseg ⊢
  replace ho := Lib.hid ho
  clear h hrow hfree hap hsl hlow
  go_enter Tryz.func16, Tryz.ntmps16
  go_wp2_with fail
  refine ho.out.mono ?_
  rintro _ w2 ⟨rfl, hb2⟩
  have hcl2 := Lib.hid (hcl.out w2 hb2)
  clear ho hcl hb2 c4
  go_wp2_with fail
  refine hcl2.out.mono ?_
  rintro _ w3 ⟨rfl, hv3⟩
  replace hv3 := Lib.hid hv3
  clear hcl2
  go_wp2_with fail
  go_loopg [30] n (fun ga i wr => ∃ (k : Nat) (sbs : List Nat) (A1 : Option Addr) (c1 nx1 : Nat) (pk1 : List Bk), k ≤ n ∧ n ≤ k + ga ∧ i = .int .i64 (k : Int) ∧ Hid (sbs.length = k ∧ RowPt A1 c1 sbs pk1 ∧ VB w0 vb d g' lie ws from_ m steps (PL ++ ((lb, 119, lgL vb pb id gen A1 k c1 nx1) :: (pk1 ++ (pk ++ KK)))) wr))
  case atStart => exact ⟨0, [], none, 0, nx, [], by omega, by omega, rfl, Lib.hid ⟨rfl, .inl ⟨rfl, rfl, rfl, rfl⟩, hv3.out⟩⟩
  case round =>
    clear hv3
    obtain ⟨k, sbs, A1, c1, nx1, pk1, hk, hg, rfl, hrel⟩ := hrel
    generalize wr = wo at *
    by_cases hlt : k < n
    · obtain ⟨r, hr⟩ : ∃ r, rs[k]? = some r := ⟨_, List.getElem?_eq_getElem (by have := hnn.out; omega)⟩
      obtain ⟨s1, s2, s3⟩ := _root_.id hrel.out
      obtain ⟨⟨q, rfl, hc⟩, hse⟩ := hfacts.out k r A1 c1 nx1 pk1 wo hr s3
      have hki : (k : Int) < (n : Int) := by omega
      replace hse := Lib.hid hse
      replace s2 := Lib.hid s2
      replace s1 := Lib.hid s1
      replace hr := Lib.hid hr
      clear s3 hrel
      go_wp2_with fail
      refine hse.out.mono ?_
      rintro _ w4 ⟨rfl, hv4⟩
      have hLog4 := hv4.got (x := (lb, 119, lgL vb pb id gen A1 k c1 nx1)) (List.mem_append_right _ List.mem_cons_self)
      have a4 : w4.cell? ⟨lb, 4, none⟩ = some (.slice A1 k c1) := hLog4.cell 4
      have hv5 := hv4.perm (K' := pk1 ++ ((lb, 119, lgL vb pb id gen A1 k c1 nx1) :: (PL ++ (pk ++ KK)))) (perm_by fun a => by simp only [List.count_append, List.count_cons]; omega)
      have hown4 := s2.out.own (fun x hx => hv5.got (List.mem_append_left _ hx))
      rw [s1.out] at hown4
      obtain ⟨i0, hi0, hz0, hz1, hz2⟩ := info_parts infoPt
      replace hv5 := Lib.hid hv5
      replace hown4 := Lib.hid hown4
      clear hv4 hLog4 hse hc
      go_wp2_with (with_reducible refine zAppend _ _ _ rfl ?_)
      refine Lib.hid ?_
      refine wpList_append_lies _ rfl _ _ 58 rfl 0 77 i0 _ 1 8 Tryz.underlying58 hi0 hz0 hz1 hz2 rfl (by omega) (.slice A1 k c1) k (sbs.map ptV) rfl (hown4.out.alloc _) _ 1 1 [ptV r.sb] rfl rfl (World.news_of_block (heap_alloc_new _ _)) (by simp [Value.oneCell']) (by omega) (by unfold maxLen; omega) (by omega) (Nat.zero_le _) (w4.heap.size + 1) (by simp) ?_
      intro gg cap w5 hown5 hgrow5 hat5 hlt5
      rw [← s1.out] at hown5 hgrow5 hat5
      obtain ⟨pk', hrow5, hv6⟩ := hv5.out.appended s2.out hgrow5 hown5 hat5
      have hv7 := hv6.perm (K' := (lb, 119, lgL vb pb id gen A1 k c1 nx1) :: (PL ++ (pk' ++ (pk ++ KK)))) (perm_by fun a => by simp only [List.count_append, List.count_cons]; omega)
      have hLog7 := hv7.got List.mem_cons_self
      have g4 : w5.cell? ⟨lb, 4, none⟩ = some (.slice A1 k c1) := hLog7.cell 4
      have z4 : w5.frozen? ⟨lb, 4, none⟩ = false := hLog7.frozen 4
      have hLog8 : Whole (w5.setCell ⟨lb, 4, none⟩ (.slice (some ⟨gg, 0, none⟩) (k + 1) cap)) lb 119 (lgL vb pb id gen (some ⟨gg, 0, none⟩) (k + 1) cap nx1) := hLog7.store 4 [.slice (some ⟨gg, 0, none⟩) (k + 1) cap] (by simp)
      have hv8 := hv7.set ((Kept.refl (fun q => q = lb) w5).setCell (c := lb) (.inl rfl) 4 (.slice (some ⟨gg, 0, none⟩) (k + 1) cap)) hLog8
      obtain ⟨W8, hW8⟩ : ∃ W8, Hid (W8 = w5.setCell ⟨lb, 4, none⟩ (.slice (some ⟨gg, 0, none⟩) (k + 1) cap)) := ⟨_, Lib.hid rfl⟩
      rw [← show W8 = _ from hW8.out] at hv8
      have hbh := Lib.hid (hseg.out k r ((lb, 119, lgL vb pb id gen (some ⟨gg, 0, none⟩) (k + 1) cap nx1) :: (PL ++ (pk' ++ pk))) W8 hr.out (by exact hv8.perm (perm_by fun a => by simp only [List.count_append, List.count_cons]; omega)))
      have hs2 : Hid ((sbs ++ [r.sb]).length = k + 1 ∧ RowPt (some ⟨gg, 0, none⟩) cap (sbs ++ [r.sb]) pk') := Lib.hid ⟨by rw [List.length_append, s1.out]; rfl, hrow5⟩
      replace hv8 := Lib.hid hv8
      clear hown5 hgrow5 hat5 hlt5 hv6 hv7 hLog7 hLog8 hrow5 hown4 hv5 s2
      go_upto_region 13 with fail
      rw [← show W8 = _ from hW8.out]
      clear hW8 g4 z4 a4
      go_wp2_with fail
      refine hbh.out.mono ?_
      rintro _ w9 ⟨rfl, hb9⟩
      have hv9 := hv8.out.below hb9
      have hLog9 := hv9.got List.mem_cons_self
      have f5 : w9.cell? ⟨lb, 5, none⟩ = some (.int .i64 (nx1 : Int)) := hLog9.cell 5
      have z5 : w9.frozen? ⟨lb, 5, none⟩ = false := hLog9.frozen 5
      have hLog10 : Whole (w9.setCell ⟨lb, 5, none⟩ (.int .i64 ((r.b + r.fs.length : Nat) : Int))) lb 119 (lgL vb pb id gen (some ⟨gg, 0, none⟩) (k + 1) cap (r.b + r.fs.length)) := hLog9.store 5 [.int .i64 ((r.b + r.fs.length : Nat) : Int)] (by simp)
      have hv10 := hv9.set ((Kept.refl (fun q => q = lb) w9).setCell (c := lb) (.inl rfl) 5 (.int .i64 ((r.b + r.fs.length : Nat) : Int))) hLog10
      have hv11 := Lib.hid (hv10.perm (K' := PL ++ ((lb, 119, lgL vb pb id gen (some ⟨gg, 0, none⟩) (k + 1) cap (r.b + r.fs.length)) :: (pk' ++ (pk ++ KK)))) (perm_by fun a => by simp only [List.count_append, List.count_cons]; omega))
      obtain ⟨X, hX⟩ : ∃ X : Int, Hid (((r.b + r.fs.length : Nat) : Int) = X) := ⟨_, Lib.hid rfl⟩
      rw [hX.out] at hv11 ⊢
      clear hv9 hLog9 hLog10 hv10 hv8 hb9 hbh
      go_wp2_with fail
      go_roundg (gk - 1)
      case measure => omega
      case rel => exact ⟨k + 1, sbs ++ [r.sb], some ⟨gg, 0, none⟩, cap, r.b + r.fs.length, pk', by omega, by omega, by go_num, Lib.hid ⟨hs2.out.1, hs2.out.2, hv11.out⟩⟩
    · obtain rfl : k = n := by omega
      obtain ⟨s1, s2, s3⟩ := hrel.out
      replace s3 := Lib.hid s3
      clear hrel
      go_wp2_with fail
      go_ret
      exact ⟨rfl, A1, c1, nx1, pk1, s3.out⟩
end
end Go.Proofs.YtahljbjgenepaaaGreatDoor.W
end
section
namespace Go.Proofs.YtahljbjgenepaaaGreatDoor.W
open Go.RowKit Go.Sort
open Go.Proofs.YtahljbjgenepaaaGreatDoor.M Go.Proofs.YtahljbjgenepaaaGreatDoor.D Go.Proofs.YtahljbjgenepaaaGreatDoor.Z
set_option linter.unusedVariables false
set_option linter.unusedSimpArgs false

theorem Chain.head : ∀ {l : List Sr} {b nx : Nat} {r : Sr}, Chain l b nx → l[0]? = some r → r.b = b
  | [], b, nx, r, _, h => by simp at h
  | x :: t, b, nx, r, h, e => by
    obtain rfl : x = r := by simpa using e
    exact h.1
theorem Chain.next : ∀ {l : List Sr} {b nx j : Nat} {p r : Sr}, Chain l b nx → l[j]? = some p → l[j + 1]? = some r → r.b = p.b + p.fs.length
  | [], b, nx, j, p, r, _, h, _ => by simp at h
  | x :: t, b, nx, 0, p, r, h, e1, e2 => by
    obtain rfl : x = p := by simpa using e1
    have := h.2.head (r := r) (by simpa using e2)
    rw [this, h.1]
  | x :: t, b, nx, j + 1, p, r, h, e1, e2 => Chain.next (l := t) h.2 (by simpa using e1) (by simpa using e2)
theorem Chain.last : ∀ {l : List Sr} {b nx j : Nat} {p : Sr}, Chain l b nx → l[j]? = some p → j + 1 = l.length → p.b + p.fs.length = nx
  | [], b, nx, j, p, _, h, _ => by simp at h
  | [x], b, nx, 0, p, h, e1, _ => by
    obtain rfl : x = p := by simpa using e1
    have h2 : b + x.fs.length = nx := h.2
    rw [h.1, h2]
  | x :: y :: t, b, nx, 0, p, h, e1, e2 => by simp at e2
  | x :: t, b, nx, j + 1, p, h, e1, e2 => Chain.last (l := t) h.2 (by simpa using e1) (by simpa using e2)
theorem Again.at_ {rs segs : List Sr} (h : Again rs segs) {i : Nat} {r : Sr} (hr : rs[i]? = some r) : ∃ s, segs[i]? = some s ∧ r.n = s.n ∧ r.a = s.a ∧ r.g = s.g ∧ r.b = s.b ∧ r.fs = s.fs := by
  have h1 := congrArg (fun l => l[i]?) h.1
  simp only [List.getElem?_map, hr, Option.map_some] at h1
  cases hs : segs[i]? with
  | none => rw [hs] at h1; cases h1
  | some s =>
    rw [hs] at h1
    simp only [Option.map_some, Option.some.injEq, Prod.mk.injEq, Sr.hd, Hd.mk.injEq] at h1
    obtain ⟨h2, h3, h4, _, h6, h7⟩ := h1
    exact ⟨s, rfl, h2, h3, h4, h6, h7⟩
theorem Again.len {rs segs : List Sr} (h : Again rs segs) : rs.length = segs.length := by
  have := congrArg List.length h.1
  simpa using this
theorem Again.nums {rs segs : List Sr} (h : Again rs segs) : rs.map Sr.n = segs.map Sr.n := by
  have := congrArg (List.map Prod.fst) h.1
  simpa [List.map_map, Function.comp_def] using this
/-- What is known of segments that were loaded again. -/
structure Ld (rs : List Sr) (id gen base nx : Nat) : Prop where
  len : rs.length ≤ 64
  fix : ∀ r ∈ rs, r.a = id ∧ r.g = gen ∧ r.b ≤ 1099511627776 ∧ r.fs.length ≤ 1000 ∧ r.fs ≠ [] ∧ r.n < 6 ∧ r.sl = true
  apart : (rs.map Sr.n).Nodup
  head : ∀ r, rs[0]? = some r → r.b = base
  next : ∀ j p r, rs[j]? = some p → rs[j + 1]? = some r → r.b = p.b + p.fs.length
  low : ∀ r ∈ rs, base ≤ r.b
  last : ∀ j p, rs[j]? = some p → j + 1 = rs.length → p.b + p.fs.length = nx
theorem Ld.own {rs : List Sr} {id gen base nx : Nat} (h : Ld rs id gen base nx) (i : Nat) (hi : i < rs.length) (os : List (Option Sr)) (hos : ∀ j, j < rs.length → os[j]? = some rs[j]?) : OwnAt id gen base os i := by
  obtain ⟨r, hr⟩ : ∃ r, rs[i]? = some r := ⟨_, List.getElem?_eq_getElem hi⟩
  have hf := h.fix r (List.mem_of_getElem? hr)
  refine ⟨r, by rw [hos i hi, hr], hf.1, hf.2.1, fun e => ?_, fun j e => ?_⟩
  · rw [e] at hr; exact Nat.le_of_eq (h.head r hr)
  · obtain ⟨p, hp⟩ : ∃ p, rs[j]? = some p := ⟨_, List.getElem?_eq_getElem (by omega)⟩
    exact ⟨p, by rw [hos j (by omega), hp], h.next j p r hp (by rw [← e]; exact hr)⟩
section
variable {w0 W W' : World} {vb d g' from_ m : Nat} {lie : List (List UInt8)} {ws : List (Nat × List UInt8)} {steps : Int} {K : List Bk}
theorem ld_of {pb pa ct lb id gen nx c : Nat} {l : List Int} {segs rs : List Sr} {A : Option Addr} {pk : List Bk} (h : LgV w0 vb d g' lie ws from_ m steps pb pa l 1 ct lb id gen nx segs A c pk K W) (hs : SegL ws id gen l segs) (ha : Again rs segs) (hk : segs.length ≤ 64) : Ld rs id gen (baseOf segs nx) nx := by
  have hx : ∀ r ∈ rs, ∃ s ∈ segs, r.n = s.n ∧ r.a = s.a ∧ r.g = s.g ∧ r.b = s.b ∧ r.fs = s.fs := fun r hr => by
    obtain ⟨i, hi⟩ := List.getElem?_of_mem hr
    obtain ⟨s, h1, h2⟩ := ha.at_ hi
    exact ⟨s, List.mem_of_getElem? h1, h2⟩
  refine ⟨by rw [ha.len]; exact hk, fun r hr => ?_, by rw [ha.nums]; exact hs.apart, fun r hr => ?_, fun j p r hp hr => ?_, fun r hr => ?_, fun j p hp e => ?_⟩
  · obtain ⟨s, h1, h2, h3, h4, h5, h6⟩ := hx r hr
    obtain ⟨k1, k2, k3, k4, _⟩ := hs.hd s h1
    have hpl := plc_len s.fs
    have hfit := (h.fine s h1).ok.fits
    exact ⟨by rw [h3]; exact k1, by rw [h4]; exact k2, by rw [h5]; exact k3, by rw [h6]; omega, by rw [h6]; exact (h.fine s h1).ne, by rw [h2]; exact k4, (ha.2 r hr).2⟩
  · obtain ⟨s, h1, _, _, _, h5, _⟩ := ha.at_ hr
    rw [h5]; exact h.chain.head h1
  · obtain ⟨s, h1, _, _, _, h5, h6⟩ := ha.at_ hp
    obtain ⟨t, g1, _, _, _, g5, g6⟩ := ha.at_ hr
    rw [g5, h5, h6]; exact h.chain.next h1 g1
  · obtain ⟨i, hi⟩ := List.getElem?_of_mem hr
    obtain ⟨s, h1, _, _, _, h5, _⟩ := ha.at_ hi
    rw [h5]; exact (h.chain.at_ h1).1
  · obtain ⟨s, h1, _, _, _, h5, h6⟩ := ha.at_ hp
    rw [h5, h6]; exact h.chain.last h1 (by rw [← ha.len]; exact e)
theorem os_of {rs : List Sr} {A : Option Addr} {c : Nat} {pk : List Bk} {id gen base nx : Nat} (h : VB w0 vb d g' lie ws from_ m steps (pk ++ (rs.flatMap (Sr.K vb) ++ K)) W) (hr : RowPt A c (rs.map Sr.sb) pk) (hl : Ld rs id gen base nx) : OsAt W vb A (rs.map some) :=
  ⟨fun i o hi => by
    rw [List.getElem?_map] at hi
    cases hx : rs[i]? with
    | none => rw [hx] at hi; cases hi
    | some r =>
      rw [hx] at hi; cases hi
      obtain ⟨q, cur, e1, e2, e3⟩ := hr.cells (fun x hx => h.got (List.mem_append_left _ hx)) (i := i) (sb := r.sb) (by rw [List.getElem?_map, hx]; rfl)
      exact ⟨q, e1, ((h.got (List.mem_append_left _ e2)).cell i).trans e3⟩, fun r hm => by
    obtain ⟨x, hx, e⟩ := List.mem_map.1 hm
    cases e
    exact h.got (x := (r.sb, 161, sgL vb r.n r.a r.g r.s r.b (.slice r.la r.fs.length r.lc) (plc r.fs) r.sl)) (List.mem_append_right _ (List.mem_append_left _ (List.mem_flatMap.2 ⟨r, hx, List.mem_cons_self⟩))), fun r hm => by
    obtain ⟨x, hx, e⟩ := List.mem_map.1 hm
    cases e
    exact ⟨(hl.fix r hx).2.2.1, (hl.fix r hx).2.2.2.1⟩⟩
/-- One more behind the row. -/
theorem os_more {rs : List Sr} {A : Option Addr} {c gg c' : Nat} {pk : List Bk} {id gen base nx : Nat} {o : Option Sr} {ob : Obj} (h : VB w0 vb d g' lie ws from_ m steps (pk ++ (rs.flatMap (Sr.K vb) ++ K)) W) (hr : RowPt A c (rs.map Sr.sb) pk) (hl : Ld rs id gen base nx)
    (hg : (W.alloc ob).grownBy W' (Value.slice A rs.length c).ownBlock) (hown : W'.ownsRow 0 77 1 (.slice (some ⟨gg, 0, none⟩) (rs.length + 1) c') (rs.length + 1) ((rs.map Sr.sb).map ptV ++ [ptO o])) (ho : ∀ r, o = some r → r ∈ rs) :
    OsAt W' vb (some ⟨gg, 0, none⟩) (rs.map some ++ [o]) ∧ VB w0 vb d g' lie ws from_ m steps (rs.flatMap (Sr.K vb) ++ K) W' := by
  have e1 : (rs.map Sr.sb).length = rs.length := List.length_map ..
  have hold : ∀ q, (Value.slice A rs.length c).ownBlock = some q → ∃ x ∈ pk, x.1 = q := fun q hq => by
    rw [ownBlock_slice] at hq
    have h2 : q ∈ pk.map (·.1) := by rw [hr.slot]; exact Option.mem_toList.2 hq
    exact List.mem_map.1 h2
  have hk : Kept (fun q => (Value.slice A rs.length c).ownBlock = some q) W W' := ((Kept.refl (fun q => (Value.slice A rs.length c).ownBlock = some q) W).alloc ob).grown hg (fun q hq => .inl hq)
  have hap := h.blk.apart
  rw [List.map_append, List.nodup_append] at hap
  have hv : VB w0 vb d g' lie ws from_ m steps (rs.flatMap (Sr.K vb) ++ K) W' := ⟨SV.plain h.view hk (fun q hq => by
    obtain ⟨y, hy, rfl⟩ := hold q hq
    obtain ⟨f1, f2, f3⟩ := h.blk.all y (List.mem_append_left _ hy)
    exact ⟨f3, .inl ⟨_, _, f1, f2⟩⟩), fun x hx => ⟨(h.got (List.mem_append_right _ hx)).of_kept hk (fun e => by
      obtain ⟨y, hy, e2⟩ := hold _ e
      exact hap.2.2 y.1 (List.mem_map_of_mem hy) x.1 (List.mem_map_of_mem hx) e2), (h.blk.all x (List.mem_append_right _ hx)).2⟩, hap.2.1⟩
  have hsg : ∀ r ∈ rs, Whole W' r.sb 161 (sgL vb r.n r.a r.g r.s r.b (.slice r.la r.fs.length r.lc) (plc r.fs) r.sl) := fun r hx => hv.got (x := (r.sb, 161, sgL vb r.n r.a r.g r.s r.b (.slice r.la r.fs.length r.lc) (plc r.fs) r.sl)) (List.mem_append_left _ (List.mem_flatMap.2 ⟨r, hx, List.mem_cons_self⟩))
  have hin : ∀ r, some r ∈ rs.map some ++ [o] → r ∈ rs := fun r hm => by
    rcases List.mem_append.1 hm with hm | hm
    · obtain ⟨x, hx, e⟩ := List.mem_map.1 hm
      cases e; exact hx
    · exact ho r (List.mem_singleton.1 hm).symm
  refine ⟨⟨fun i o' hi => ?_, fun r hm => hsg r (hin r hm), fun r hm => ⟨(hl.fix r (hin r hm)).2.2.1, (hl.fix r (hin r hm)).2.2.2.1⟩⟩, hv⟩
  obtain ⟨gg2, c2, e, _, _, _, _, hcl⟩ := ownCells (by omega) hown
  injection e with e1'
  refine ⟨gg2, e1', hcl i _ ?_⟩
  by_cases hi2 : i < rs.length
  · rw [List.getElem?_append_left (by rw [List.length_map]; exact hi2), List.getElem?_map] at hi
    rw [List.getElem?_append_left (by simpa using hi2), List.getElem?_map, List.getElem?_map]
    cases hx : rs[i]? with
    | none => rw [hx] at hi; cases hi
    | some r => rw [hx] at hi; cases hi; rfl
  · rw [List.getElem?_append_right (by rw [List.length_map]; omega), List.length_map] at hi
    rw [List.getElem?_append_right (by simp; omega), List.length_map, List.length_map]
    cases hy : i - rs.length with
    | zero => rw [hy] at hi; cases hi; rfl
    | succ z => rw [hy] at hi; simp at hi
end
theorem freeN_clm (id : Nat) (hid : 1 ≤ id) : ∀ (rs : List Sr) (l : List Int), (rs.map Sr.n).Nodup → (∀ r ∈ rs, r.n < l.length ∧ l[r.n]? = some 0) → freeN (clm id l rs) + rs.length = freeN l
  | [], l, _, _ => rfl
  | r :: t, l, hap, hf => by
    have hap' : r.n ∉ t.map Sr.n ∧ (t.map Sr.n).Nodup := by simpa using hap
    obtain ⟨h1, h2⟩ := hf r List.mem_cons_self
    have ih := freeN_clm id hid t (l.set r.n (id : Int)) hap'.2 (fun x hx => by
      have hne : r.n ≠ x.n := fun e => hap'.1 (by rw [e]; exact List.mem_map_of_mem hx)
      rw [List.length_set, List.getElem?_set_ne hne]
      exact hf x (List.mem_cons_of_mem _ hx))
    show freeN (clm id (l.set r.n (id : Int)) t) + (t.length + 1) = freeN l
    have h3 : freeN (l.set r.n (id : Int)) + 1 = freeN l := by
      have hg : l[r.n] = 0 := by
        have := (List.getElem?_eq_some_iff.1 h2).2
        exact this
      unfold freeN
      rw [List.count_set h1, hg]
      have hpos : 0 < l.count 0 := List.count_pos_iff.2 (by rw [← hg]; exact List.getElem_mem h1)
      have hidz : ((id : Int) == 0) = false := by simp; omega
      simp [hidz]
      omega
    omega
theorem LS.more {w0 W W' : World} {vb d g' pb pa lb id gen base k q : Nat} {t : TypeId} {cs : List Value} {K : List Bk} (h : LS w0 vb d g' pb pa lb id gen base k K W) (hb : Below W.heap.size W W') (hW : Whole W' q t cs) (hq : W.heap.size ≤ q) (ht : plainT t) : LS w0 vb d g' pb pa lb id gen base k ((q, t, cs) :: K) W' := by
  obtain ⟨ws, steps, l, ct, nx, segs, A, c, pk, h1, h2⟩ := h
  refine ⟨ws, steps, l, ct, nx, segs, A, c, pk, ⟨(h1.vb_.new hb hW hq ht).perm (perm_by fun a => by simp only [List.count_append, List.count_cons]; omega), h1.row, h1.fine, h1.small, h1.chain, h1.top⟩, h2⟩
theorem LS.got {w0 W : World} {vb d g' pb pa lb id gen base k : Nat} {K : List Bk} (h : LS w0 vb d g' pb pa lb id gen base k K W) {x : Bk} (hx : x ∈ K) : Whole W x.1 x.2.1 x.2.2 := by
  obtain ⟨ws, steps, l, ct, nx, segs, A, c, pk, h1, h2⟩ := h
  exact h1.vb_.got (List.mem_append_right _ (List.mem_cons_of_mem _ (List.mem_append_right _ (List.mem_append_right _ hx))))
/-- A log without segments. -/
theorem noSegs {vb lb pb id gen nx : Nat} {W : World} (hL : Whole W lb 119 (lgL vb pb id gen none 0 0 nx)) (hnx : nx ≤ 1099511628776) : LogAt W vb lb pb id gen nx [] none 0 :=
  ⟨hL, fun i r hi => by simp at hi, fun r hr => by simp at hr, fun r hr => by simp at hr, by decide, fun r hr => by simp at hr, ⟨Nat.le_refl _, by unfold maxLen; decide⟩, rfl, hnx⟩
end Go.Proofs.YtahljbjgenepaaaGreatDoor.W
end
