/- Package batch's Pairs, behind, Records. -/
import Derived.Test.YtbbeapglkdkajaaBtQ
import Derived.Deep.MidRow
import Derived.BigRegion
namespace Go.Proofs.Ytbbeapglkdkajaa.W
open Go.RowKit Go.Sort
open Go.Proofs.Ytbbeapglkdkajaa.M Go.Proofs.Ytbbeapglkdkajaa.D Go.Proofs.Ytbbeapglkdkajaa.Z
set_option linter.unusedVariables false
set_option linter.unusedSimpArgs false

/-- A row of a block of its own, whose first k rows are laid. -/
def MadeRow (W : World) (q : Nat) (t : TypeId) (sz N k : Nat) (xs : List Value) : Prop := ∃ cur, Whole W q t cur ∧ cur.length = N * sz ∧ cur.take (k * sz) = xs
theorem MadeRow.put {W : World} {q sz N k : Nat} {t : TypeId} {xs vs : List Value} (h : MadeRow W q t sz N k xs) (hv : vs.length = sz) (hk : k < N) : MadeRow (W.setCells q (k * sz) vs) q t sz N (k + 1) (xs ++ vs) := by
  obtain ⟨cur, h1, h2, h3⟩ := h
  have hle : k * sz + sz ≤ N * sz := by rw [← Nat.succ_mul]; exact Nat.mul_le_mul_right _ hk
  have e : splice cur (k * sz) vs = (xs ++ vs) ++ cur.drop (k * sz + vs.length) := by unfold splice; rw [← h3, List.append_assoc]
  have hx : (xs ++ vs).length = (k + 1) * sz := by rw [List.length_append, ← h3, List.length_take, hv, Nat.succ_mul]; omega
  refine ⟨splice cur (k * sz) vs, h1.store _ _ (by omega), ?_, ?_⟩
  · rw [e, List.length_append, hx, List.length_drop, Nat.succ_mul]; omega
  · rw [e, ← hx, List.take_left]
theorem MadeRow.there {W : World} {q sz N k : Nat} {t : TypeId} {xs : List Value} (h : MadeRow W q t sz N k xs) (hk : k < N) (n : Nat) (hn : n = sz) : W.there q (k * sz) n := by
  obtain ⟨cur, h1, h2, h3⟩ := h
  have hle : k * sz + sz ≤ N * sz := by rw [← Nat.succ_mul]; exact Nat.mul_le_mul_right _ hk
  exact h1.there _ _ (by omega)
theorem MadeRow.below {W W' : World} {q sz N k : Nat} {t : TypeId} {xs : List Value} (h : MadeRow W q t sz N k xs) (hb : Below W.heap.size W W') : MadeRow W' q t sz N k xs := by
  obtain ⟨cur, h1, h2, h3⟩ := h
  exact ⟨cur, h1.below hb h1.lt, h2, h3⟩
theorem MadeRow.own {W : World} {q B sz N : Nat} {t : TypeId} {xs : List Value} (h : MadeRow W q t sz N N xs) (hB : B ≤ q) (hN : N ≤ 100000) : W.ownsRow B t sz (.slice (some ⟨q, 0, none⟩) N N) N xs := by
  obtain ⟨cur, h1, h2, h3⟩ := h
  have hx : xs = cur := by rw [← h3, List.take_of_length_le (by omega)]
  subst hx
  exact ⟨h2, .inr ⟨q, N, xs.toArray, rfl, hB, h1, Nat.le_refl _, by unfold maxLen; omega, by simpa using h2, by simpa using h3⟩⟩
theorem run_makeB {P : Program} (t e : TypeId) (i : TypeInfo) (z : Value) (ht : P.underlying t = some (.slice e)) (hi : P.info? e = some i) (hz : i.zero = some z)
    (n sz by_ : Nat) (hsz : i.size = sz) (hby : i.bytes = by_) (hb : by_ ≤ 1000) (hn : n ≤ 1000000) (W : World) :
    ∃ cs : Array Value, cs.size = n * sz ∧ ∀ W : World, (Instr.makeSlice t (.int .i64 (n : Int)) (.int .i64 (n : Int))).run P W = .ok (.slice (some ⟨W.heap.size, 0, none⟩) n n) (W.alloc (.cells cs e)) := by
  refine ⟨madeCells z.cells (n * i.size), by simp [madeCells, hsz], fun W => ?_⟩
  have hm : i.bytes * n ≤ 1000 * 1000000 := Nat.mul_le_mul (by omega) hn
  have hb : (i.bytes : Int) * (n : Int) ≤ 281474976710656 := by
    have h : ((i.bytes * n : Nat) : Int) ≤ 281474976710656 := by omega
    rwa [Int.natCast_mul] at h
  have hr := run_make (P := P) W t e i z ht hi hz .i64 .i64 n n (by omega) (by omega) hb (by omega)
  simp only [Int.toNat_natCast] at hr
  exact hr
theorem infoPr : (Try.prog.info? 26).map (fun i => (i.zero, i.size, i.bytes)) = some (some (.agg #[.string ⟨#[]⟩, .string ⟨#[]⟩, .bool false]), 3, 40) := by kernel_rfl
theorem sizePr : (Try.prog.info? 26).map (·.size) = some 3 := by kernel_rfl
theorem infoRd : (Try.prog.info? 33).map (fun i => (i.zero, i.size, i.bytes)) = some (some (.agg #[.int .i64 0, .int .i64 0, .string ⟨#[]⟩, .string ⟨#[]⟩, .bool false, .int .i64 0, .int .i64 0, .int .i64 0]), 8, 80) := by kernel_rfl
theorem sizeRd : (Try.prog.info? 33).map (·.size) = some 8 := by kernel_rfl

def toPr (r : Rc) : Pr := ⟨r.key, r.val, r.gone⟩
set_option maxRecDepth 100000 in
set_option maxHeartbeats 4000000 in
theorem pairs_any (va : Option Addr) (c : Nat) (rs : List Rc) (w : World) (h : RcAt w va rs) (hn : rs.length ≤ 1000) :
    Calls Try.prog 14 #[.slice va rs.length c] w fun e w' => ∃ q, e = .returned (.slice (some ⟨q, 0, none⟩) rs.length rs.length) ∧ PrAt w' (some ⟨q, 0, none⟩) (rs.map toPr) ∧ Below w.heap.size w w' := by
  obtain ⟨i0, hi0, hz0, hz1, hz2⟩ := info_parts infoPr
  obtain ⟨cs, hcs, hmk⟩ := run_makeB (P := Try.prog) 22 26 i0 _ Try.underlying22 hi0 hz0 rs.length 3 40 hz1 hz2 (by omega) (by omega) w
  obtain ⟨N, hN⟩ : ∃ N, Hid (rs.length = N) := ⟨_, Lib.hid rfl⟩
  obtain ⟨V, hV⟩ : ∃ V, Hid (V = w.alloc (.cells cs 26)) := ⟨_, Lib.hid rfl⟩
  have hb0 : Below w.heap.size w V := by rw [hV.out]; exact grewAlloc (Below.refl _ _) _
  rw [hN.out] at hcs hmk hn ⊢
  have hX : MadeRow V w.heap.size 26 3 N 0 (prRows ((rs.take 0).map toPr)) := ⟨cs.toList, by rw [hV.out]; have := Whole.new w 26 cs.toList; simpa using this, by simpa using hcs, by simp [prRows]⟩
  have hq0 : w.heap.size ≤ w.heap.size := Nat.le_refl _
  obtain ⟨q, hq⟩ : ∃ q, Hid (w.heap.size = q) := ⟨_, Lib.hid rfl⟩
  replace h := Lib.hid h
  have hstep : Hid (∀ k r, rs[k]? = some r → prRows ((rs.take (k + 1)).map toPr) = prRows ((rs.take k).map toPr) ++ [.string r.key, .string r.val, .bool r.gone]) := Lib.hid (fun k r hr => by
    rw [List.take_add_one, hr, List.map_append, prRows_append]
    simp [prRows, toPr])
  replace hX := Lib.hid hX
  replace hb0 := Lib.hid hb0
  clear hi0 hz0 hz1 hz2 hcs
  go_enter Try.func14, Try.ntmps14
  go_upto_region 2 with fail
  rw [← show V = _ from hV.out, hq.out]
  rw [hq.out] at hX hq0
  clear hV hmk
  go_wp2_with fail
  go_loopg [11] N (fun ga i wr => ∃ k : Nat, k ≤ N ∧ N ≤ k + ga ∧ i = .int .i64 k ∧ Hid (MadeRow wr q 26 3 N k (prRows ((rs.take k).map toPr)) ∧ Below w.heap.size w wr))
  case atStart => exact ⟨0, by omega, by omega, rfl, Lib.hid ⟨hX.out, hb0.out⟩⟩
  case round =>
    clear hX hb0
    obtain ⟨k, hk, hg, rfl, hrel⟩ := hrel
    generalize wr = wo at *
    by_cases hlt : k < N
    · obtain ⟨r, hr⟩ : ∃ r, rs[k]? = some r := ⟨_, List.getElem?_eq_getElem (by have := hN.out; omega)⟩
      obtain ⟨b, o, rfl, c0, c1, c2, c3, c4, c5, c6, c7⟩ := (h.out.below hrel.out.2).get hr
      have hst := Lib.hid (hstep.out k r hr)
      obtain ⟨W1, hW1⟩ : ∃ W1, Hid (W1 = wo.alloc (.cells #[.int .i64 r.off, .int .i64 r.tick, .string r.key, .string r.val, .bool r.gone, .int .i64 r.prod, .int .i64 r.seq, .int .i64 r.frm] 33)) := ⟨_, Lib.hid rfl⟩
      have hb1 : Below wo.heap.size wo W1 := by rw [hW1.out]; exact grewAlloc (Below.refl _ _) _
      have hX1 : Whole W1 wo.heap.size 33 (rcL r) := by rw [hW1.out]; exact Whole.new wo _ _
      obtain ⟨xb, hxb⟩ : ∃ xb, Hid (wo.heap.size = xb) := ⟨_, Lib.hid rfl⟩
      rw [hxb.out] at hX1
      obtain ⟨x0, x1, x2, x3, x4, x5, x6, x7⟩ := recCells hX1
      have hM1 := Lib.hid (hrel.out.1.below hb1)
      have hB1 := Lib.hid (grew hrel.out.2 hb1)
      have hki : (k : Int) < (N : Int) := by omega
      replace hr := Lib.hid hr
      clear hrel hb1 hX1
      go_upto_region 5 with fail
      rw [← show W1 = _ from hW1.out, hxb.out]
      clear hW1 hxb
      go_wp2_with (with_reducible refine zStore _ _ _ rfl ?_)
      refine Lib.hid ?_
      refine wpList_store_mid rfl 26 _ _ rfl q (k * 3) #[.string r.key, .string r.val, .bool r.gone] (by first | rfl | simp) rfl (hM1.out.there hlt _ rfl) sizePr (by simp [Value.oneCell']) ?_
      have hfin := Lib.hid (And.intro (hM1.out.put (vs := [.string r.key, .string r.val, .bool r.gone]) rfl hlt) (Z.below_store hB1.out (c := q) (by rw [hq.out]; exact Nat.le_refl _) (Nat.le_refl _) (k * 3) [.string r.key, .string r.val, .bool r.gone]))
      rw [← hst.out] at hfin
      clear c0 c1 c2 c3 c4 c5 c6 c7 x0 x1 x2 x3 x4 x5 x6 x7 hM1 hB1 hst
      go_wp2_with fail
      go_roundg (gk - 1)
      case measure => omega
      case rel => exact ⟨k + 1, by omega, by omega, by go_num, hfin⟩
    · obtain rfl : k = N := by omega
      obtain ⟨h1, h2⟩ := hrel.out
      rw [List.take_of_length_le (by have := hN.out; omega)] at h1
      have hfin := Lib.hid (And.intro (prAt_own (h1.own (B := 0) (Nat.zero_le _) (by omega)) (by rw [List.length_map]; exact hN.out)) h2)
      clear hrel h1 h2
      go_wp2_with fail
      go_ret
      exact ⟨q, rfl, hfin.out⟩

/-- The record of a pair, behind a head and so many pairs. -/
def behF (h : Rc) (a : Nat) (p : Pr) : Rc := ⟨IntKind.i64.wrap (h.off + (a : Int)), h.tick, p.key, p.val, p.gone, h.prod, if h.prod = 0 then h.seq else IntKind.i64.wrap (h.seq + (a : Int)), h.frm⟩
set_option maxRecDepth 100000 in
set_option maxHeartbeats 4000000 in
theorem behind17_any (h : Rc) (a : Nat) (p : Pr) (w : World) :
    Calls Try.prog 32 #[.agg #[.int .i64 h.off, .int .i64 h.tick, .string h.key, .string h.val, .bool h.gone, .int .i64 h.prod, .int .i64 h.seq, .int .i64 h.frm], .int .i64 (a : Int), .agg #[.string p.key, .string p.val, .bool p.gone]] w fun e w' => e = .returned (rcV (behF h a p)) ∧ Below w.heap.size w w' := by
  obtain ⟨o, t, k, v, g, pr, sq, f⟩ := h
  obtain ⟨pk, pv, pg⟩ := p
  unfold behF
  dsimp only
  obtain ⟨O1, hO⟩ : ∃ O, Hid (IntKind.i64.wrap (o + (a : Int)) = O) := ⟨_, Lib.hid rfl⟩
  have hO1 := hO.out
  obtain ⟨S1, hS⟩ : ∃ O, Hid (IntKind.i64.wrap (sq + (a : Int)) = O) := ⟨_, Lib.hid rfl⟩
  have hS1 := hS.out
  rw [hO.out, hS.out]
  obtain ⟨S2, hS2⟩ : ∃ S, Hid ((if pr = 0 then sq else S1) = S) := ⟨_, Lib.hid rfl⟩
  rw [hS2.out]
  obtain ⟨W, hW, hA, hP, hR, hB⟩ := Z.three_boxes w 33 26 33 [.int .i64 o, .int .i64 t, .string k, .string v, .bool g, .int .i64 pr, .int .i64 sq, .int .i64 f] [.string pk, .string pv, .bool pg] [.int .i64 0, .int .i64 0, .string ⟨#[]⟩, .string ⟨#[]⟩, .bool false, .int .i64 0, .int .i64 0, .int .i64 0]
  obtain ⟨ab, hab⟩ : ∃ b, Hid (w.heap.size = b) := ⟨_, Lib.hid rfl⟩
  obtain ⟨pb, hpb⟩ : ∃ b, Hid (w.heap.size + 1 = b) := ⟨_, Lib.hid rfl⟩
  obtain ⟨rb, hrb⟩ : ∃ b, Hid (w.heap.size + 1 + 1 = b) := ⟨_, Lib.hid rfl⟩
  have hrB : w.heap.size ≤ rb := by rw [← hrb.out]; omega
  rw [hab.out] at hA
  rw [hpb.out] at hP
  rw [hrb.out] at hR
  obtain ⟨a0, a1, a2, a3, a4, a5, a6, a7⟩ := recCells hA
  obtain ⟨xb, hxb⟩ : ∃ b, Hid (W.heap.size = b) := ⟨_, Lib.hid rfl⟩
  have hxB : w.heap.size ≤ xb := by rw [← hxb.out]; exact hB.size
  obtain ⟨W2, hW2⟩ : ∃ V, Hid (V = W.alloc (.cells #[.int .i64 o, .int .i64 t, .string k, .string v, .bool g, .int .i64 pr, .int .i64 sq, .int .i64 f] 33)) := ⟨_, Lib.hid rfl⟩
  have hX2 : Whole W2 xb 33 [.int .i64 o, .int .i64 t, .string k, .string v, .bool g, .int .i64 pr, .int .i64 sq, .int .i64 f] := by rw [hW2.out, ← hxb.out]; exact Whole.new W _ _
  have hP2 : Whole W2 pb 26 [.string pk, .string pv, .bool pg] := by rw [hW2.out]; exact hP.alloc _
  have hR2 : Whole W2 rb 33 [.int .i64 0, .int .i64 0, .string ⟨#[]⟩, .string ⟨#[]⟩, .bool false, .int .i64 0, .int .i64 0, .int .i64 0] := by rw [hW2.out]; exact hR.alloc _
  have hB2 : Below w.heap.size w W2 := by rw [hW2.out]; exact grewAlloc hB _
  have hpx : pb ≠ xb := hP2.ne hX2 (by decide)
  have hrx : rb ≠ xb := by rw [← hxb.out]; have := hR.lt; omega
  obtain ⟨W3, hW3⟩ : ∃ V, Hid (V = W2.setCell ⟨xb, 0, none⟩ (.int .i64 O1)) := ⟨_, Lib.hid rfl⟩
  have hX3 : Whole W3 xb 33 [.int .i64 O1, .int .i64 t, .string k, .string v, .bool g, .int .i64 pr, .int .i64 sq, .int .i64 f] := by rw [hW3.out]; exact hX2.store 0 [.int .i64 O1] (by simp)
  have hP3 : Whole W3 pb 26 [.string pk, .string pv, .bool pg] := by rw [hW3.out]; exact hP2.far hpx 0 [.int .i64 O1]
  have hR3 : Whole W3 rb 33 [.int .i64 0, .int .i64 0, .string ⟨#[]⟩, .string ⟨#[]⟩, .bool false, .int .i64 0, .int .i64 0, .int .i64 0] := by rw [hW3.out]; exact hR2.far hrx 0 [.int .i64 O1]
  have hB3 : Below w.heap.size w W3 := by rw [hW3.out]; exact Z.below_store hB2 hxB (Nat.le_refl _) 0 [.int .i64 O1]
  have x20 : W2.cell? ⟨xb, 0, none⟩ = some (.int .i64 o) := hX2.cell 0
  have z20 : W2.frozen? ⟨xb, 0, none⟩ = false := hX2.frozen 0
  replace hX3 := Lib.hid hX3
  replace hP3 := Lib.hid hP3
  replace hR3 := Lib.hid hR3
  replace hB3 := Lib.hid hB3
  clear hA hP hR hB hX2 hP2 hR2 hB2
  go_enter Try.func32, Try.ntmps32
  go_upto_region 1 with fail
  rw [← show W = ((w.alloc (.cells #[.int .i64 o, .int .i64 t, .string k, .string v, .bool g, .int .i64 pr, .int .i64 sq, .int .i64 f] 33)).alloc (.cells #[.string pk, .string pv, .bool pg] 26)).alloc (.cells #[.int .i64 0, .int .i64 0, .string ⟨#[]⟩, .string ⟨#[]⟩, .bool false, .int .i64 0, .int .i64 0, .int .i64 0] 33) from hW, hrb.out, hpb.out, hab.out]
  clear hW hab hpb hrb
  go_upto_region 2 with fail
  rw [← show W2 = _ from hW2.out, hxb.out]
  clear hW2 hxb a0 a1 a2 a3 a4 a5 a6 a7
  go_upto_region 3 with fail
  rw [← show W3 = _ from hW3.out]
  clear hW3 x20 z20
  obtain ⟨x0, x1, x2, x3, x4, x5, x6, x7⟩ := recCells hX3.out
  have z6 := hX3.out.frozen 6
  by_cases hp : pr = 0
  · obtain rfl : S2 = sq := by rw [← hS2.out, if_pos hp]
    have hp2 : (pr == 0) = true := by simp [hp]
    replace hp := Lib.hid hp
    have hX4 := hX3
    have hP4 := hP3
    have hR4 := hR3
    have hB4 := hB3
    go_upto_region 5 with fail
    clear hX3 hP3 hR3 hB3 x0 x1 x2 x3 x4 x5 x6 x7 z6
    generalize W3 = W4 at *
    obtain ⟨y0, y1, y2⟩ := prCells hP4.out
    have z2 := hX4.out.frozen 2
    have z3 := hX4.out.frozen 3
    have z4 := hX4.out.frozen 4
    obtain ⟨x0, x1, x2, x3, x4, x5, x6, x7⟩ := recCells hX4.out
    go_region
    obtain ⟨W5, hW5⟩ : ∃ V, Hid (V = (((W4.setCell ⟨xb, 2, none⟩ (.string pk)).setCell ⟨xb, 3, none⟩ (.string pv)).setCell ⟨xb, 4, none⟩ (.bool pg)).drew) := ⟨_, Lib.hid rfl⟩
    have hX5 : Whole W5 xb 33 [.int .i64 O1, .int .i64 t, .string pk, .string pv, .bool pg, .int .i64 pr, .int .i64 S2, .int .i64 f] := by rw [hW5.out]; exact (hX4.out.store 2 [.string pk, .string pv, .bool pg] (by simp)).drewN 1
    have hR5 : Whole W5 rb 33 [.int .i64 0, .int .i64 0, .string ⟨#[]⟩, .string ⟨#[]⟩, .bool false, .int .i64 0, .int .i64 0, .int .i64 0] := by rw [hW5.out]; exact (hR4.out.far hrx 2 [.string pk, .string pv, .bool pg]).drewN 1
    have hB5 : Below w.heap.size w W5 := by rw [hW5.out]; exact (Z.below_store hB4.out hxB (Nat.le_refl _) 2 [.string pk, .string pv, .bool pg]).drew
    rw [← show W5 = _ from hW5.out]
    clear hW5 x0 x1 x2 x3 x4 x5 x6 x7 y0 y1 y2 z2 z3 z4 hX4 hR4 hB4 hP4
    obtain ⟨x0, x1, x2, x3, x4, x5, x6, x7⟩ := recCells hX5
    have z0 := hR5.frozen 0
    have z1 := hR5.frozen 1
    have z2 := hR5.frozen 2
    have z3 := hR5.frozen 3
    have z4 := hR5.frozen 4
    have z5 := hR5.frozen 5
    have z6 := hR5.frozen 6
    have z7 := hR5.frozen 7
    obtain ⟨r0, r1, r2, r3, r4, r5, r6, r7⟩ := recCells hR5
    have hR6 : Whole (W5.setCells rb 0 [.int .i64 O1, .int .i64 t, .string pk, .string pv, .bool pg, .int .i64 pr, .int .i64 S2, .int .i64 f]) rb 33 [.int .i64 O1, .int .i64 t, .string pk, .string pv, .bool pg, .int .i64 pr, .int .i64 S2, .int .i64 f] := hR5.store 0 [.int .i64 O1, .int .i64 t, .string pk, .string pv, .bool pg, .int .i64 pr, .int .i64 S2, .int .i64 f] (by simp)
    have hB6 := Lib.hid (Z.below_store hB5 (c := rb) hrB (Nat.le_refl _) 0 [.int .i64 O1, .int .i64 t, .string pk, .string pv, .bool pg, .int .i64 pr, .int .i64 S2, .int .i64 f])
    obtain ⟨e0, e1, e2, e3, e4, e5, e6, e7⟩ := recCells hR6
    simp only [World.setCells, Nat.zero_add, Nat.reduceAdd] at e0 e1 e2 e3 e4 e5 e6 e7
    clear hX5 hR5 hB5 hR6
    go_wp2_with fail
    exact bodyPost_ret (v := rcV ⟨O1, t, pk, pv, pg, pr, S2, f⟩) (by simp [results, Try.results32, go_sem, e0, e1, e2, e3, e4, e5, e6, e7]) rfl ⟨rfl, hB6.out⟩
  · obtain rfl : S2 = S1 := by rw [← hS2.out, if_neg hp]
    have hp2 : (pr == 0) = false := by simp [hp]
    replace hp := Lib.hid hp
    obtain ⟨W4, hW4⟩ : ∃ V, Hid (V = W3.setCell ⟨xb, 6, none⟩ (.int .i64 S2)) := ⟨_, Lib.hid rfl⟩
    have hX4 : Hid (Whole W4 xb 33 [.int .i64 O1, .int .i64 t, .string k, .string v, .bool g, .int .i64 pr, .int .i64 S2, .int .i64 f]) := Lib.hid (by rw [hW4.out]; exact hX3.out.store 6 [.int .i64 S2] (by simp))
    have hP4 : Hid (Whole W4 pb 26 [.string pk, .string pv, .bool pg]) := Lib.hid (by rw [hW4.out]; exact hP3.out.far hpx 6 [.int .i64 S2])
    have hR4 : Hid (Whole W4 rb 33 [.int .i64 0, .int .i64 0, .string ⟨#[]⟩, .string ⟨#[]⟩, .bool false, .int .i64 0, .int .i64 0, .int .i64 0]) := Lib.hid (by rw [hW4.out]; exact hR3.out.far hrx 6 [.int .i64 S2])
    have hB4 : Hid (Below w.heap.size w W4) := Lib.hid (by rw [hW4.out]; exact Z.below_store hB3.out hxB (Nat.le_refl _) 6 [.int .i64 S2])
    go_upto_region 5 with fail
    rw [← show W4 = _ from hW4.out]
    clear hW4 hX3 hP3 hR3 hB3 x0 x1 x2 x3 x4 x5 x6 x7 z6
    obtain ⟨y0, y1, y2⟩ := prCells hP4.out
    have z2 := hX4.out.frozen 2
    have z3 := hX4.out.frozen 3
    have z4 := hX4.out.frozen 4
    obtain ⟨x0, x1, x2, x3, x4, x5, x6, x7⟩ := recCells hX4.out
    go_region
    obtain ⟨W5, hW5⟩ : ∃ V, Hid (V = (((W4.setCell ⟨xb, 2, none⟩ (.string pk)).setCell ⟨xb, 3, none⟩ (.string pv)).setCell ⟨xb, 4, none⟩ (.bool pg)).drew) := ⟨_, Lib.hid rfl⟩
    have hX5 : Whole W5 xb 33 [.int .i64 O1, .int .i64 t, .string pk, .string pv, .bool pg, .int .i64 pr, .int .i64 S2, .int .i64 f] := by rw [hW5.out]; exact (hX4.out.store 2 [.string pk, .string pv, .bool pg] (by simp)).drewN 1
    have hR5 : Whole W5 rb 33 [.int .i64 0, .int .i64 0, .string ⟨#[]⟩, .string ⟨#[]⟩, .bool false, .int .i64 0, .int .i64 0, .int .i64 0] := by rw [hW5.out]; exact (hR4.out.far hrx 2 [.string pk, .string pv, .bool pg]).drewN 1
    have hB5 : Below w.heap.size w W5 := by rw [hW5.out]; exact (Z.below_store hB4.out hxB (Nat.le_refl _) 2 [.string pk, .string pv, .bool pg]).drew
    rw [← show W5 = _ from hW5.out]
    clear hW5 x0 x1 x2 x3 x4 x5 x6 x7 y0 y1 y2 z2 z3 z4 hX4 hR4 hB4 hP4
    obtain ⟨x0, x1, x2, x3, x4, x5, x6, x7⟩ := recCells hX5
    have z0 := hR5.frozen 0
    have z1 := hR5.frozen 1
    have z2 := hR5.frozen 2
    have z3 := hR5.frozen 3
    have z4 := hR5.frozen 4
    have z5 := hR5.frozen 5
    have z6 := hR5.frozen 6
    have z7 := hR5.frozen 7
    obtain ⟨r0, r1, r2, r3, r4, r5, r6, r7⟩ := recCells hR5
    have hR6 : Whole (W5.setCells rb 0 [.int .i64 O1, .int .i64 t, .string pk, .string pv, .bool pg, .int .i64 pr, .int .i64 S2, .int .i64 f]) rb 33 [.int .i64 O1, .int .i64 t, .string pk, .string pv, .bool pg, .int .i64 pr, .int .i64 S2, .int .i64 f] := hR5.store 0 [.int .i64 O1, .int .i64 t, .string pk, .string pv, .bool pg, .int .i64 pr, .int .i64 S2, .int .i64 f] (by simp)
    have hB6 := Lib.hid (Z.below_store hB5 (c := rb) hrB (Nat.le_refl _) 0 [.int .i64 O1, .int .i64 t, .string pk, .string pv, .bool pg, .int .i64 pr, .int .i64 S2, .int .i64 f])
    obtain ⟨e0, e1, e2, e3, e4, e5, e6, e7⟩ := recCells hR6
    simp only [World.setCells, Nat.zero_add, Nat.reduceAdd] at e0 e1 e2 e3 e4 e5 e6 e7
    clear hX5 hR5 hB5 hR6
    go_wp2_with fail
    exact bodyPost_ret (v := rcV ⟨O1, t, pk, pv, pg, pr, S2, f⟩) (by simp [results, Try.results32, go_sem, e0, e1, e2, e3, e4, e5, e6, e7]) rfl ⟨rfl, hB6.out⟩
end Go.Proofs.Ytbbeapglkdkajaa.W
