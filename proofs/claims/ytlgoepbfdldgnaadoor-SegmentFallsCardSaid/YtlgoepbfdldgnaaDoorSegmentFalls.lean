/- For every header, every list of frames and every fall the law SegmentFalls returns true: of a segment whose power goes the first frames alone are loaded, at least those that were flushed, over an older segment of another stamp. The package variable header.widths starts as the program's text lays it (the card ties it). No other condition. -/
import Derived.Test.YtlgoepbfdldgnaaDoorCards
import Derived.Test.YtlgoepbfdldgnaaDoorTie
import Derived.Test.YtlgoepbfdldgnaaDoorFallL
import Derived.Test.YtlgoepbfdldgnaaDoorOpenBytes
import Derived.WalkKit
import Derived.ProofKit
import Derived.OpenShut
import Derived.ChangeOld
import Derived.Deep.DeepHandedRow
import Derived.Lib.LaidTab
namespace Go.Proofs.YtlgoepbfdldgnaaDoor.segmentFalls
open Go.ChangeShapes Go.WideShapes Go.ChangeAt Go.RowKit Go.Sort
open Go.Proofs.YtlgoepbfdldgnaaDoor.M Go.Proofs.YtlgoepbfdldgnaaDoor.Z
open Go.Proofs.YtlgoepbfdldgnaaDoor.W Go.Proofs.YtlgoepbfdldgnaaDoor.D
set_option linter.unusedVariables false

theorem quiet_min {P : Program} {ops : Array Oper} {C : World → Prop} {Q : Go.Act → Prop} {a : Go.Act} {o : Oper} {rest : List Oper} (x y : Operand) (t u : TypeId)
    (ho : o.op = .call { callee := .builtin .min, args := #[x, y], argTypes := #[t, u] }) (p q r : Int) (hx : a.eval x = .int .i64 p) (hy : a.eval y = .int .i64 q) (hr : min p q = r) (hw : Region.wanted o (yielded ops a.tmps) = true)
    (h : wpQuiet P ops C Q rest (a.put o.dst (.int .i64 r))) : wpQuiet P ops C Q (o :: rest) a := by
  refine quiet_by (.int .i64 r) hw (fun w _ => ?_) h
  have hrun := run_min_int2 (P := P) (w := w) #[t, u] o.type .i64 .i64 p q
  rw [show (if q < p then q else p) = r by split <;> omega] at hrun
  simp [execOp, ho, resolve, invoke, builtin, hx, hy, hrun, Result.andThen]
theorem wrap64_next (m : Nat) (h : m < 1000000) : wrap64 ((m : Int) + 1) = ((m + 1 : Nat) : Int) := by
  unfold wrap64
  omega
theorem frAt_take {w : World} {va : Option Addr} {fs : List (Int × ByteArray)} (h : FrAt w va fs) (j : Nat) : FrAt w va (fs.take j) := fun i f hi => by
  rw [List.getElem?_take] at hi
  split at hi
  · exact h i f hi
  · cases hi
theorem frAt_below {w w' : World} {va : Option Addr} {fs : List (Int × ByteArray)} (h : FrAt w va fs) (hb : Below w.heap.size w w') : FrAt w' va fs := h.below hb
theorem row_cap {W : World} {B : Nat} {va : Option Addr} {c : Nat} {Dv : List (Int × ByteArray)} (h : RowF W B va c Dv) : Dv.length ≤ c ∧ (va = none → c = 0) := by
  rcases h.2 with ⟨h0, h1⟩ | ⟨q, cap, cur, e2, _, hg, hc1, hc2, _⟩
  · injection h0 with e1 e2 e3
    exact ⟨by omega, fun _ => e3⟩
  · injection e2 with e1 e2 e3
    exact ⟨by omega, fun e => by rw [e] at e1; cases e1⟩
set_option maxRecDepth 100000 in
set_option maxHeartbeats 4000000 in
/-- Of what is gone through. -/
theorem walkIn (a g s b st : Nat) (q1 q2 : Int) (ka : Option Addr) (kn kc : Nat) (kl : List (Int × Int)) (va : Option Addr) (len cap : Nat) (xs : List (Int × ByteArray)) (w : World) (hT : Wide w) (ha1 : 1 ≤ a) (ha : a < 65536) (hg : g < 4294967296) (hs : s < 4294967296) (hb : b ≤ 1099511627776) (hx : FrIn w va len xs) (hbig : bigF xs = false)
    (hst : IntKind.u32.wrap ((s : Int) + 1) = (st : Int)) (hst2 : st < 4294967296) (hne : st ≠ s) (hq1 : -9223372036854775808 ≤ q2) (hq2 : q2 ≤ 9223372036854775807) (hkp : Keeps w (.slice ka kn kc) kl) (hkn : kl.length = kn) (hk60 : kn ≤ 60) :
    Calls Tryd.prog 5 #[.agg #[.int .i64 (a : Int), .int .u32 (g : Int), .int .u32 (s : Int), .int .i64 (b : Int)], .slice va len cap, .agg #[.int .i64 q1, .int .i64 q2, .slice ka kn kc]] w fun e w' => e = .returned (.bool true) ∧ Below w.heap.size w w' := by
  obtain ⟨W, hW⟩ : ∃ W, Hid (W = (w.alloc (.cells (hdr a g s b).toArray 24)).alloc (.cells #[.int .i64 q1, .int .i64 q2, .slice ka kn kc] 71)) := ⟨_, Lib.hid rfl⟩
  have hbW : Below w.heap.size w W := by rw [hW.out]; exact ((Below.refl _ _).alloc (Nat.le_refl _) _).alloc (by simp) _
  have hH : Whole W w.heap.size 24 (hdr a g s b) := by rw [hW.out]; exact (Whole.new w _ _).alloc _
  have hQ : Whole W (w.heap.size + 1) 71 [.int .i64 q1, .int .i64 q2, .slice ka kn kc] := by
    have h := Whole.new (w.alloc (.cells (hdr a g s b).toArray 24)) 71 [.int .i64 q1, .int .i64 q2, .slice ka kn kc]
    rw [hW.out]
    simpa using h
  have hok : okH (a : Int) (b : Int) = true := okH_yes a b ha1 ha hb
  have hmay := fun W => rmayH_any (a : Int) g s b W
  rw [hok] at hmay
  have hla := fun (W' : World) (hb : Below w.heap.size w W') => large13_any va len cap xs W' ⟨hx.len, hx.at_.below hb, hx.ok⟩
  rw [hbig] at hla
  obtain ⟨hl40, hsz⟩ := bigF_no hbig
  have hHk : Hid (∀ W', Below W.heap.size W W' → Whole W' w.heap.size 24 (hdr a g s b)) := Lib.hid (fun W' hb => hH.below hb hH.lt)
  have hQk : Hid (∀ W', Below W.heap.size W W' → Whole W' (w.heap.size + 1) 71 [.int .i64 q1, .int .i64 q2, .slice ka kn kc]) := Lib.hid (fun W' hb => hQ.below hb hQ.lt)
  have hput := Lib.hid (fun W' (hb : Below w.heap.size w W') => put13_any W' (hT.below hb))
  have hat := Lib.hid (fun W' (hb : Below w.heap.size w W') => hx.at_.below hb)
  have hlen := hx.len
  have hTw := Lib.hid (fun W' (hb : Below w.heap.size w W') => hT.below hb)
  replace hmay := Lib.hid hmay
  replace hla := Lib.hid hla
  replace hsz := Lib.hid hsz
  replace hbW := Lib.hid hbW
  replace hkp := Lib.hid hkp
  replace hst := hst
  have hsh := fun W => same_hd (a : Int) g s b (wf_i64 (by omega) (by omega)) (wf_u32 (by omega) (by omega)) (wf_u32 (by omega) (by omega)) (wf_i64 (by omega) (by omega)) W
  have hk1 : decide (60 < (kn : Int)) = false := by simp; omega
  have hk2 : (kn : Int) ≤ 60 := by omega
  have hB0 := Lib.hid (hHk.out W (Below.refl _ _))
  have a0 := hB0.out.cell 0
  have a1 := hB0.out.cell 1
  have a2 := hB0.out.cell 2
  have a3 := hB0.out.cell 3
  simp only [List.getElem?_cons_zero, List.getElem?_cons_succ] at a0 a1 a2 a3
  clear hH hQ hx hT hok hbig hB0
  go_enter Tryd.func5, Tryd.ntmps5
  go_upto_region 1 with fail
  rw [← show W = _ from hW.out]
  clear hW
  go_wp2_with fail
  refine (hla.out _ hbW.out).mono ?_
  rintro _ w1 ⟨rfl, hb1⟩
  have hH1 := hHk.out _ hb1
  clear a0 a1 a2 a3
  have a0 := hH1.cell 0
  have a1 := hH1.cell 1
  have a2 := hH1.cell 2
  have a3 := hH1.cell 3
  simp only [List.getElem?_cons_zero, List.getElem?_cons_succ] at a0 a1 a2 a3
  replace hH1 := Lib.hid hH1
  replace hb1 := Lib.hid hb1
  go_wp2_with fail
  refine (ref13_any (a : Int) g s b _).mono ?_
  rintro _ w2 ⟨rfl, hb2⟩
  replace hb2 := Lib.hid (grew hb1.out hb2)
  clear hb1 a0 a1 a2 a3 hH1
  go_wp2_with fail
  refine (hmay.out _).mono ?_
  rintro _ w3 ⟨rfl, hb3⟩
  have hb3w := Lib.hid (grew hb2.out hb3)
  have hB3 := Lib.hid (grew hbW.out hb3w.out)
  have c2 : w3.cell? ⟨w.heap.size + 1, 2, none⟩ = some (.slice ka kn kc) := (hQk.out _ hb3w.out).cell 2
  clear hb2 hb3
  go_wp2_with fail
  refine (fresh13_any _).mono ?_
  rintro _ w4 ⟨vb, d, g', rfl, h4⟩
  have hHw : Hid (∀ W', Below w3.heap.size w3 W' → Whole W' w.heap.size 24 (hdr a g s b)) := Lib.hid (fun W' hb => hHk.out W' (hb3w.out.trans (hb.mono hb3w.out.size)))
  have hQw : Hid (∀ W', Below w3.heap.size w3 W' → Whole W' (w.heap.size + 1) 71 [.int .i64 q1, .int .i64 q2, .slice ka kn kc]) := Lib.hid (fun W' hb => hQk.out W' (hb3w.out.trans (hb.mono hb3w.out.size)))
  clear hHk hQk c2
  have a2 := (hHw.out _ h4.since).cell 2
  simp only [List.getElem?_cons_zero, List.getElem?_cons_succ] at a2
  have hcr : Hid (Calls Tryd.prog 12 #[.pointer (some ⟨vb, 0, none⟩), .int .i64 0, .agg #[.int .i64 7, .int .u32 3, .int .u32 (st : Int), .int .i64 0]] w4 fun e w' => ∃ ob, e = .returned (.tuple #[.pointer (some ⟨ob, 0, none⟩), .int .i64 0]) ∧
      SegM w3 vb d g' ob 0 7 3 st 0 [] (putP blankS st 1 0 (fun i => B (pcL (headerL 7 3 st 0) i)) 1) w') := Lib.hid (seg_made h4 (by decide) (hTw.out _ hB3.out) (by decide) (by decide) (by decide) hst2 (by decide))
  have hc0 := Lib.hid (old_made (a := 7) (g := 3) (b := 0) hne hst2)
  clear h4
  go_wp2_with fail
  refine hcr.out.mono ?_
  rintro _ w5 ⟨ob, rfl, h5⟩
  clear a2 hcr
  have h5c : Hid (SegM w3 vb d g' ob 0 7 3 st 0 [] (putP blankS st 1 0 (fun i => B (pcL (headerL 7 3 st 0) i)) 1) w5 ∧ (NoneOf (putP blankS st 1 0 (fun i => B (pcL (headerL 7 3 st 0) i)) 1) s ∧ Go.Proofs.YtlgoepbfdldgnaaDoor.W.Ends (putP blankS st 1 0 (fun i => B (pcL (headerL 7 3 st 0) i)) 1))) := Lib.hid ⟨h5, hc0.out⟩
  clear h5 hc0
  have hstep : Hid (∀ (k : Int) (p : ByteArray) (fs : List (Int × ByteArray)) (X : List ByteArray) (W : World), SegM w3 vb d g' ob 0 7 3 st 0 fs X W ∧ (NoneOf X s ∧ Go.Proofs.YtlgoepbfdldgnaaDoor.W.Ends X) → p.size ≤ 1000 → Calls Tryd.prog 17 #[.pointer (some ⟨ob, 0, none⟩), .agg #[.int .i64 k, .string p]] W fun e w' => ∃ p1 p2 fs' X', e = .returned (.tuple #[.int .i64 p1, .int .i64 p2]) ∧ SegM w3 vb d g' ob 0 7 3 st 0 fs' X' w' ∧ (NoneOf X' s ∧ Go.Proofs.YtlgoepbfdldgnaaDoor.W.Ends X')) := Lib.hid (fun k p fs X W h hp => by
    exact old_step k p h.1 h.2 (by decide) hne hst2 hp)
  go_wp2_with fail
  go_loopg [52] len (fun ga i wr => ∃ k : Nat, ∃ fs X, k ≤ len ∧ len ≤ k + ga ∧ i = .int .i64 k ∧ Hid (SegM w3 vb d g' ob 0 7 3 st 0 fs X wr ∧ (NoneOf X s ∧ Go.Proofs.YtlgoepbfdldgnaaDoor.W.Ends X)))
  case atStart => exact ⟨0, _, _, by omega, by omega, rfl, h5c⟩
  case round =>
    clear h5c
    obtain ⟨k, fs, X, hk, hgk, rfl, hrow⟩ := hrel
    generalize wr = wo at *
    have hBo := Lib.hid (hB3.out.trans (hrow.out.1.since.mono hB3.out.size))
    by_cases hlt : k < len
    · obtain ⟨⟨fk, fp⟩, hf⟩ : ∃ f, xs[k]? = some f := ⟨_, List.getElem?_eq_getElem (by omega)⟩
      obtain ⟨b1, o1, rfl, l1, c0, c1⟩ := hat.out _ hBo.out k _ hf
      have hp900 := hsz.out _ (List.mem_of_getElem? hf)
      obtain ⟨V, hV⟩ : ∃ V, Hid (V = wo.alloc (.cells #[.int .i64 fk, .string fp] 45)) := ⟨_, Lib.hid rfl⟩
      have hbV : Below wo.heap.size wo V := by rw [hV.out]; exact allocBelow wo _
      have hXV : Whole V wo.heap.size 45 [.int .i64 fk, .string fp] := by rw [hV.out]; exact Whole.new wo _ _
      have hap := Lib.hid (hstep.out fk fp fs X V ⟨hrow.out.1.below hbV, hrow.out.2⟩ (by simp only at hp900; omega))
      have d0 : V.cell? ⟨wo.heap.size, 0, none⟩ = some (.int .i64 fk) := hXV.cell 0
      have d1 : V.cell? ⟨wo.heap.size, 1, none⟩ = some (.string fp) := hXV.cell 1
      clear hXV hbV hf l1 hrow hBo
      go_upto_region 8 with fail
      rw [← show V = _ from hV.out]
      clear hV c0 c1
      go_wp2_with fail
      refine hap.out.mono ?_
      rintro _ w6 ⟨p1, p2, fs', X', rfl, h6⟩
      replace h6 := Lib.hid h6
      clear hap d0 d1
      go_wp2_with fail
      go_roundg (gk - 1)
      case measure => omega
      case rel => exact ⟨k + 1, fs', X', by omega, by omega, by go_num, h6⟩
    · obtain rfl : k = len := by omega
      have hfl := Lib.hid (old_flush hrow.out.1)
      have hcX := Lib.hid hrow.out.2
      clear hrow hstep hBo
      go_wp2_with fail
      refine hfl.out.mono ?_
      rintro _ w6 ⟨rfl, h6⟩
      clear hfl
      have hH6 := Lib.hid (hHw.out _ h6.since)
      have a0 := hH6.out.cell 0
      have a1 := hH6.out.cell 1
      have a2 := hH6.out.cell 2
      have a3 := hH6.out.cell 3
      simp only [List.getElem?_cons_zero, List.getElem?_cons_succ] at a0 a1 a2 a3
      have hcr := Lib.hid (over_made h6 (hTw.out _ hB3.out) ha1 ha hg hs hb)
      clear h6
      go_wp2_with fail
      refine hcr.out.mono ?_
      rintro _ w7 ⟨sb, rfl, h7⟩
      clear hcr a0 a1 a2 a3 hH6
      have hfl := Lib.hid (over_flush h7 hcX.out)
      clear h7 hcX
      go_wp2_with fail
      refine hfl.out.mono ?_
      rintro _ w8 ⟨rfl, fa0, h8⟩
      have h9 := Lib.hid (FallL.start h8 (Nat.le_refl w3.heap.size))
      clear hfl h8
      generalize gk = gk1 at *
      go_wp2_with fail
      go_loopg [72, 16, 17] k (fun ga i dv sv wr => ∃ (m stage : Nat) (va' : Option Addr) (dc : Nat) (D : List (Int × ByteArray)) (sure : Nat), m ≤ k ∧ k ≤ m + ga ∧ i = .int .i64 m ∧ dv = .slice va' D.length dc ∧ sv = .int .i64 sure ∧ D.length ≤ m ∧ (stage = 0 ∨ stage = 2) ∧ ((m : Int) ≤ q1 → stage = 0) ∧ Hid (FallL stage w3 vb d g' sb a g s b w3.heap.size va' dc D D sure none wr))
      case atStart => exact ⟨0, 0, none, 0, [], 0, by omega, by omega, rfl, rfl, rfl, by simp, .inl rfl, fun _ => rfl, h9⟩
      case round =>
        clear h9
        obtain ⟨m, stage, va', dc, D, sure, hm, hgm, rfl, rfl, rfl, hDm, hstg, hqm, hrow⟩ := hrel
        generalize wr = wo at *
        have hBo := Lib.hid (hB3.out.trans (hrow.out.since.mono hB3.out.size))
        have hQo := Lib.hid (fun W' (hb : Below wo.heap.size wo W') => hQw.out W' (hrow.out.since.trans (hb.mono hrow.out.since.size)))
        by_cases hlt : m < k
        · obtain ⟨⟨fk, fp⟩, hf⟩ : ∃ f, xs[m]? = some f := ⟨_, List.getElem?_eq_getElem (by omega)⟩
          obtain ⟨b1, o1, rfl, l1, c0, c1⟩ := hat.out _ hBo.out m _ hf
          have hp900 := hsz.out _ (List.mem_of_getElem? hf)
          obtain ⟨V, hV⟩ : ∃ V, Hid (V = wo.alloc (.cells #[.int .i64 fk, .string fp] 45)) := ⟨_, Lib.hid rfl⟩
          have hbV : Below wo.heap.size wo V := by rw [hV.out]; exact allocBelow wo _
          have hXV : Whole V wo.heap.size 45 [.int .i64 fk, .string fp] := by rw [hV.out]; exact Whole.new wo _ _
          have hV0 := Lib.hid (hrow.out.box hbV hXV)
          have e0 : V.cell? ⟨w.heap.size + 1, 0, none⟩ = some (.int .i64 q1) := (hQo.out V hbV).cell 0
          replace hp900 : fp.size ≤ 1000 := by simp only at hp900; omega
          obtain ⟨i0, hi0, hz0, hz1, hz2⟩ := info_parts infoFrame
          have hDl : D.length < 100 := by omega
          clear hXV hbV hf l1 hrow hBo
          go_upto_region 18 with fail
          rw [← show V = _ from hV.out]
          clear hV c0 c1
          by_cases hkq : (m : Int) = q1
          · obtain rfl : stage = 0 := hqm (by omega)
            have hkb : ((m : Int) == q1) = true := by simp [hkq]
            have hfl := Lib.hid hV0.out.flush
            go_wp2_with fail
            refine hfl.out.mono ?_
            rintro _ w9 ⟨rfl, h9⟩
            have f1 : w9.cell? ⟨w.heap.size + 1, 1, none⟩ = some (.int .i64 q2) := (hQw.out _ h9.since).cell 1
            have hfu := Lib.hid (h9.fuse q2 hq1 hq2)
            clear h9 hfl hV0
            go_wp2_with fail
            refine hfu.out.mono ?_
            rintro _ w10 ⟨rfl, h10⟩
            replace h10 := Lib.hid h10
            have hap := Lib.hid (h10.out.append fk fp (by omega) hs hp900)
            have d0 : w10.cell? ⟨wo.heap.size, 0, none⟩ = some (.int .i64 fk) := h10.out.got.cell 0
            have d1 : w10.cell? ⟨wo.heap.size, 1, none⟩ = some (.string fp) := h10.out.got.cell 1
            clear hfu f1 e0 hstg hqm hkb
            have hqh : Hid ((m : Int) = q1) := Lib.hid hkq
            clear hkq
            go_wp2_with fail
            refine hap.out.mono ?_
            rintro _ w11 ⟨p1, err, rfl, ⟨he, h11⟩ | ⟨⟨he1, he2⟩, h11⟩⟩
            · have z0 : w11.cell? ⟨wo.heap.size, 0, none⟩ = some (.int .i64 fk) := h11.got.cell 0
              have z1 : w11.cell? ⟨wo.heap.size, 1, none⟩ = some (.string fp) := h11.got.cell 1
              have hrw := h11.row
              have hsz11 : w3.heap.size ≤ w11.heap.size := h11.since.size
              replace h11 := Lib.hid h11
              clear hap d0 d1
              rcases he with rfl | rfl
              all_goals
                go_wp2_with (with_reducible refine zAppend _ _ _ rfl ?_)
                refine Lib.hid ?_
                refine wpList_append_lies _ rfl _ _ 25 rfl w3.heap.size 45 i0 _ 2 24 Tryd.underlying25 hi0 hz0 hz1 hz2 rfl (by omega) (.slice va' D.length dc) D.length (frRows D) rfl (hrw.alloc _) _ 1 1 [.int .i64 fk, .string fp] rfl rfl (World.news_of_block (heap_alloc_new _ _)) (by simp [Value.oneCell']) (by omega) (by unfold maxLen; omega) (by omega) (by simp; omega) (w11.heap.size + 1) (by simp) ?_
                intro gg cap' w12 hown12 hgrow12 hat12 hlt12
                have h12 := Lib.hid (h11.out.rowed hown12 hgrow12 hat12)
                clear hown12 hgrow12 hat12 hlt12 z0 z1 hrw h11
                go_wp2_with fail
                go_roundg (gk - 1)
                case measure => omega
                case rel =>
                  have hq9 := hqh.out
                  have hwm : wrap64 (q1 + 1) = ((m + 1 : Nat) : Int) := by rw [← hq9]; exact wrap64_next m (by omega)
                  exact ⟨m + 1, 2, some ⟨gg, 0, none⟩, cap', D ++ [(fk, fp)], D.length, by omega, by omega, congrArg (Value.int .i64) hwm, by rw [List.length_append, List.length_singleton], rfl, by rw [List.length_append, List.length_singleton]; omega, .inr rfl, fun h => (by omega), h12⟩
            · have he3 : (err == 0) = false := by rw [beq_eq_false_iff_ne]; exact he1
              have he4 : (err == 21) = false := by rw [beq_eq_false_iff_ne]; exact he2
              have h12 := Lib.hid h11.unbox
              clear h11 hap d0 d1
              go_wp2_with fail
              go_roundg (gk - 1)
              case measure => omega
              case rel =>
                  have hq9 := hqh.out
                  have hwm : wrap64 (q1 + 1) = ((m + 1 : Nat) : Int) := by rw [← hq9]; exact wrap64_next m (by omega)
                  exact ⟨m + 1, 2, va', dc, D, D.length, by omega, by omega, congrArg (Value.int .i64) hwm, rfl, rfl, by omega, .inr rfl, fun h => (by omega), h12⟩
          · have hkb : ((m : Int) == q1) = false := by rw [beq_eq_false_iff_ne]; exact hkq
            have hap := Lib.hid (hV0.out.append fk fp (by omega) hs hp900)
            have d0 : V.cell? ⟨wo.heap.size, 0, none⟩ = some (.int .i64 fk) := hV0.out.got.cell 0
            have d1 : V.cell? ⟨wo.heap.size, 1, none⟩ = some (.string fp) := hV0.out.got.cell 1
            replace hqm : Hid (((m + 1 : Nat) : Int) ≤ q1 → stage = 0) := Lib.hid (fun h => hqm (by omega))
            replace hstg := Lib.hid hstg
            go_wp2_with fail
            clear e0
            refine hap.out.mono ?_
            rintro _ w11 ⟨p1, err, rfl, ⟨he, h11⟩ | ⟨⟨he1, he2⟩, h11⟩⟩
            · have z0 : w11.cell? ⟨wo.heap.size, 0, none⟩ = some (.int .i64 fk) := h11.got.cell 0
              have z1 : w11.cell? ⟨wo.heap.size, 1, none⟩ = some (.string fp) := h11.got.cell 1
              have hrw := h11.row
              have hsz11 : w3.heap.size ≤ w11.heap.size := h11.since.size
              replace h11 := Lib.hid h11
              clear hap d0 d1
              rcases he with rfl | rfl
              all_goals
                go_wp2_with (with_reducible refine zAppend _ _ _ rfl ?_)
                refine Lib.hid ?_
                refine wpList_append_lies _ rfl _ _ 25 rfl w3.heap.size 45 i0 _ 2 24 Tryd.underlying25 hi0 hz0 hz1 hz2 rfl (by omega) (.slice va' D.length dc) D.length (frRows D) rfl (hrw.alloc _) _ 1 1 [.int .i64 fk, .string fp] rfl rfl (World.news_of_block (heap_alloc_new _ _)) (by simp [Value.oneCell']) (by omega) (by unfold maxLen; omega) (by omega) (by simp; omega) (w11.heap.size + 1) (by simp) ?_
                intro gg cap' w12 hown12 hgrow12 hat12 hlt12
                have h12 := Lib.hid (h11.out.rowed hown12 hgrow12 hat12)
                clear hown12 hgrow12 hat12 hlt12 z0 z1 hrw h11
                go_wp2_with fail
                go_roundg (gk - 1)
                case measure => omega
                case rel => exact ⟨m + 1, stage, some ⟨gg, 0, none⟩, cap', D ++ [(fk, fp)], sure, by omega, by omega, by go_num, by rw [List.length_append, List.length_singleton], rfl, by rw [List.length_append, List.length_singleton]; omega, hstg.out, hqm.out, h12⟩
            · have he3 : (err == 0) = false := by rw [beq_eq_false_iff_ne]; exact he1
              have he4 : (err == 21) = false := by rw [beq_eq_false_iff_ne]; exact he2
              have h12 := Lib.hid h11.unbox
              clear h11 hap d0 d1
              go_wp2_with fail
              go_roundg (gk - 1)
              case measure => omega
              case rel => exact ⟨m + 1, stage, va', dc, D, sure, by omega, by omega, by go_num, rfl, rfl, by omega, hstg.out, hqm.out, h12⟩
        · obtain rfl : m = k := by omega
          have hcr := Lib.hid (hrow.out.crash (.slice ka kn kc) kl hB3.out hkp.out (by omega) hs)
          have c2 : wo.cell? ⟨w.heap.size + 1, 2, none⟩ = some (.slice ka kn kc) := (hQo.out wo (Below.refl _ _)).cell 2
          clear hrow hBo hQo hat hla
          go_wp2_with fail
          refine hcr.out.mono ?_
          rintro _ w9 ⟨rfl, fs9, h9, hr9, hD9, hl9, hf9⟩
          have hld := Lib.hid (fell_load h9 (hTw.out _ hB3.out) ha1 ha hg hs hb)
          have hS9 := Lib.hid h9.since
          clear c2 hcr h9
          go_wp2_with fail
          refine hld.out.mono ?_
          rintro _ w10 ⟨tb, j, rfl, hb10, hj1, hj2, fa, fc, h10, hfa⟩
          replace hr9 := hr9.below hb10
          replace hS9 := Lib.hid (hS9.out.trans (hb10.mono hS9.out.size))
          have hjl : (fs9.take j).length = j := by rw [List.length_take]; omega
          have hjD : fs9.take j = D.take j := by
            rw [← hD9, List.take_take, Nat.min_eq_left hj2]
          have hDl : fs9.length ≤ D.length := by
            have := congrArg List.length hD9
            rw [List.length_take] at this
            omega
          have hcap := row_cap hr9
          have hFr : Hid (Calls Tryd.prog 25 #[.pointer (some ⟨tb, 0, none⟩)] w10 fun e w' => ∃ va9 c9, e = .returned (.slice va9 j c9) ∧ FrAt w' va9 (fs9.take j) ∧ Below w10.heap.size w10 w') := Lib.hid (by
            refine (frames_any h10 (by omega)).mono ?_
            rintro e w' ⟨va9, c9, r1, r2, r3⟩
            rw [hjl] at r1 r2
            exact ⟨va9, c9, r1, frAt_own r2 hjl, r3⟩)
          have hfok : ∀ f ∈ fs9.take j, (Lit.int .i64 f.1).wf = true ∧ f.2.size ≤ maxLen := fun f hf => wf_frame (hf9 f (List.mem_of_mem_take hf))
          clear hld
          go_wp2_with fail
          refine hFr.out.mono ?_
          rintro _ w11 ⟨va9, c9, rfl, hf11, hb11⟩
          replace h10 := h10.below hb11
          replace hr9 := hr9.below hb11
          replace hS9 := hS9.out.trans (hb11.mono hS9.out.size)
          have hrA : FrAt w11 va' (fs9.take j) := by rw [hjD]; exact frAt_take (frAt_own hr9 rfl) j
          have cs2 := Lib.hid (regrown_if (C := fun W => Below w11.heap.size w11 W) (fun W hb => same_frames va9 va' j c9 dc (fs9.take j) W (frAt_below hf11 hb) (frAt_below hrA hb) hjl (by omega) hfok) w11 (fun w' h => h))
          have ch2 := Lib.hid (regrown_if (C := fun W => Below w11.heap.size w11 W) (fun W hb => header_any (h10.below hb).obj) w11 (fun w' h => h))
          have cp2 := Lib.hid (regrown_if (C := fun W => Below w11.heap.size w11 W) (fun W hb => hput.out W (hB3.out.trans ((hS9.trans (hb.mono hS9.size)).mono hB3.out.size))) w11 (fun w' h => h))
          have hr0 : ∀ (dd : Nat) (os : Array Obj), Whole (grow (redrawn w11 dd) os) w.heap.size 24 (hdr a g s b) := fun dd os => hHw.out _ (hS9.trans ((below_regrown w11 dd os).mono hS9.size))
          have e0 : ∀ dd os, (grow (redrawn w11 dd) os).cell? ⟨w.heap.size, 0, none⟩ = some (.int .i64 (a : Int)) := fun dd os => (hr0 dd os).cell 0
          have e1 : ∀ dd os, (grow (redrawn w11 dd) os).cell? ⟨w.heap.size, 1, none⟩ = some (.int .u32 (g : Int)) := fun dd os => (hr0 dd os).cell 1
          have e2 : ∀ dd os, (grow (redrawn w11 dd) os).cell? ⟨w.heap.size, 2, none⟩ = some (.int .u32 (s : Int)) := fun dd os => (hr0 dd os).cell 2
          have e3 : ∀ dd os, (grow (redrawn w11 dd) os).cell? ⟨w.heap.size, 3, none⟩ = some (.int .i64 (b : Int)) := fun dd os => (hr0 dd os).cell 3
          clear hr0
          have hmin : Hid (min (j : Int) (D.length : Int) = (j : Int)) := Lib.hid (by omega)
          have g1 : (sure : Int) ≤ (j : Int) := by omega
          have g2 : (j : Int) ≤ (D.length : Int) := by omega
          have g3 : (j : Int) ≤ (dc : Int) := by omega
          have g4 : (0 : Int) ≤ (j : Int) := by omega
          replace hS9 := Lib.hid hS9
          clear hFr hf11 hb11 h10 hr9 hfok hjD hD9 hf9 hfa hHw hQw hTw hput hsz
          go_wp2_with fail
          refine wp_region_quiet_below (by kernel_rfl) (by kernel_rfl) ?_
          iterate 38 (go_big_quiet_step (first | (with_reducible exact cs2.out _ _) | (with_reducible exact ch2.out _ _) | (with_reducible exact cp2.out _ _)))
          refine quiet_min _ _ _ _ (by rfl) (j : Int) (D.length : Int) (j : Int) (by rfl) (by rfl) hmin.out (by rfl) ?_
          simp only [Act.put, List.setIfInBounds_toArray, List.set_cons_zero, List.set_cons_succ]
          repeat (go_big_quiet_step (first | (with_reducible exact cs2.out _ _) | (with_reducible exact ch2.out _ _) | (with_reducible exact cp2.out _ _)))
          refine wpQuiet_nil ?_
          intro _ hw'
          obtain ⟨⟨dq, osq⟩, hw''⟩ := hw'
          subst hw''
          have hfin := Lib.hid (hB3.out.trans ((hS9.out.trans ((below_regrown w11 dq osq).mono hS9.out.size)).mono hB3.out.size))
          clear e0 e1 e2 e3 cs2 ch2 cp2 hrA hsh
          generalize grow (redrawn w11 dq) osq = w12 at *
          go_wp2_with fail
          go_ret
          exact ⟨rfl, hfin.out⟩
set_option maxRecDepth 100000 in
set_option maxHeartbeats 4000000 in
/-- Of what is not gone through. -/
theorem walkOut (a g s b q1 q2 : Int) (ka : Option Addr) (kn kc : Nat) (va : Option Addr) (len cap : Nat) (xs : List (Int × ByteArray)) (w : World) (hT : Wide w) (hx : FrIn w va len xs) (hno : bigF xs = true ∨ (bigF xs = false ∧ okH a b = false) ∨ (bigF xs = false ∧ okH a b = true ∧ 60 < kn)) :
    Calls Tryd.prog 5 #[.agg #[.int .i64 a, .int .u32 g, .int .u32 s, .int .i64 b], .slice va len cap, .agg #[.int .i64 q1, .int .i64 q2, .slice ka kn kc]] w fun e w' => e = .returned (.bool true) ∧ Below w.heap.size w w' := by
  obtain ⟨W, hW⟩ : ∃ W, Hid (W = (w.alloc (.cells (hdr a g s b).toArray 24)).alloc (.cells #[.int .i64 q1, .int .i64 q2, .slice ka kn kc] 71)) := ⟨_, Lib.hid rfl⟩
  have hbW : Hid (Below w.heap.size w W) := Lib.hid (by rw [hW.out]; exact ((Below.refl _ _).alloc (Nat.le_refl _) _).alloc (by simp) _)
  have hH : Whole W w.heap.size 24 (hdr a g s b) := by rw [hW.out]; exact (Whole.new w _ _).alloc _
  have hQ : Whole W (w.heap.size + 1) 71 [.int .i64 q1, .int .i64 q2, .slice ka kn kc] := by
    have h := Whole.new (w.alloc (.cells (hdr a g s b).toArray 24)) 71 [.int .i64 q1, .int .i64 q2, .slice ka kn kc]
    rw [hW.out]
    simpa using h
  have hmay := fun W => rmayH_any a g s b W
  have hla := fun (W' : World) (hb : Below w.heap.size w W') => large13_any va len cap xs W' ⟨hx.len, hx.at_.below hb, hx.ok⟩
  have hput := Lib.hid (fun W' (hb : Below w.heap.size w W') => put13_any W' (hT.below hb))
  replace hno : bigF xs = true ∨ (∃ r, bigF xs = false ∧ okH a b = r ∧ (r = true → 60 < kn)) := by
    rcases hno with h | ⟨h, h2⟩ | ⟨h, h2, h3⟩
    · exact .inl h
    · exact .inr ⟨_, h, h2, fun h => by cases h⟩
    · exact .inr ⟨_, h, h2, fun _ => h3⟩
  rcases hno with h | ⟨r, h, h2, h3⟩
  · rw [h] at hla
    replace hla := Lib.hid hla
    clear hx hmay hH hQ
    go_enter Tryd.func5, Tryd.ntmps5
    go_upto_region 1 with fail
    rw [← show W = _ from hW.out]
    clear hW
    go_wp2_with fail
    refine (hla.out _ hbW.out).mono ?_
    rintro _ w1 ⟨rfl, hb1⟩
    have hB1 := Lib.hid (grew hbW.out hb1)
    go_wp2_with fail
    refine (hput.out _ hB1.out).mono ?_
    rintro _ w2 ⟨rfl, hb2⟩
    go_wp2_with fail
    go_ret
    exact ⟨rfl, grew hB1.out hb2⟩
  · rw [h] at hla
    rw [h2] at hmay
    replace hla := Lib.hid hla
    replace hmay := Lib.hid hmay
    have hk1 : 60 < kn → (decide (60 < (kn : Int)) = true ∧ (60 : Int) < (kn : Int)) := fun h => ⟨by simp; omega, by omega⟩
    clear hx
    go_enter Tryd.func5, Tryd.ntmps5
    go_upto_region 1 with fail
    rw [← show W = _ from hW.out]
    clear hW
    go_wp2_with fail
    refine (hla.out _ hbW.out).mono ?_
    rintro _ w1 ⟨rfl, hb1⟩
    have hH1 := hH.below hb1 hH.lt
    have hQ1 := Lib.hid (hQ.below hb1 hQ.lt)
    have a0 := hH1.cell 0
    have a1 := hH1.cell 1
    have a2 := hH1.cell 2
    have a3 := hH1.cell 3
    simp only [List.getElem?_cons_zero, List.getElem?_cons_succ] at a0 a1 a2 a3
    have hB1 := Lib.hid (grew hbW.out hb1)
    clear hH hH1 hQ hb1
    go_wp2_with fail
    refine (ref13_any a g s b _).mono ?_
    rintro _ w2 ⟨rfl, hb2⟩
    have hB2 := Lib.hid (grew hB1.out hb2)
    have hQ2 := Lib.hid (hQ1.out.below hb2 hQ1.out.lt)
    clear a0 a1 a2 a3 hb2 hB1 hQ1
    go_wp2_with fail
    refine (hmay.out _).mono ?_
    rintro _ w3 ⟨rfl, hb3⟩
    have hB3 := Lib.hid (grew hB2.out hb3)
    have c2 : w3.cell? ⟨w.heap.size + 1, 2, none⟩ = some (.slice ka kn kc) := (hQ2.out.below hb3 hQ2.out.lt).cell 2
    clear hQ2 hb3
    cases r
    · clear hk1 h3
      go_wp2_with fail
      refine (hput.out _ hB3.out).mono ?_
      rintro _ w4 ⟨rfl, hb4⟩
      go_wp2_with fail
      go_ret
      exact ⟨rfl, grew hB3.out hb4⟩
    · obtain ⟨hk2, hk3⟩ := hk1 (h3 rfl)
      clear hk1 h3
      go_wp2_with fail
      refine (hput.out _ hB3.out).mono ?_
      rintro _ w4 ⟨rfl, hb4⟩
      go_wp2_with fail
      go_ret
      exact ⟨rfl, grew hB3.out hb4⟩
theorem lit_i64 {a : Int} (h : (Lit.int .i64 a).wf = true) : -9223372036854775808 ≤ a ∧ a ≤ 9223372036854775807 := by
  have hb : IntKind.i64.min ≤ a ∧ a ≤ IntKind.i64.max := by simpa [Lit.wf] using h
  have e1 : IntKind.i64.min = -9223372036854775808 := by decide
  have e2 : IntKind.i64.max = 9223372036854775807 := by decide
  omega
theorem walk (a g s b : Int) (va : Option Addr) (len cap : Nat) (xs : List (Int × ByteArray)) (q1 q2 : Int) (kv : Value) (kl : List (Int × Int)) (w : World) (hT : Wide w) (_ : (Lit.int .i64 a).wf = true) (hg : (Lit.int .u32 g).wf = true) (hs : (Lit.int .u32 s).wf = true) (_ : (Lit.int .i64 b).wf = true) (hx : FrIn w va len xs) (_ : (Lit.int .i64 q1).wf = true) (hq2 : (Lit.int .i64 q2).wf = true) (hk : Keeps w kv kl) :
    Calls Tryd.prog 5 #[.agg #[.int .i64 a, .int .u32 g, .int .u32 s, .int .i64 b], .slice va len cap, .agg #[.int .i64 q1, .int .i64 q2, kv]] w fun e w' => e = .returned (.bool true) ∧ Below w.heap.size w w' := by
  obtain ⟨ka, kc, rfl, _⟩ := id hk.form
  cases hbig : bigF xs with
  | true => exact walkOut a g s b q1 q2 ka _ kc va len cap xs w hT hx (.inl hbig)
  | false =>
    cases hok : okH a b with
    | false => exact walkOut a g s b q1 q2 ka _ kc va len cap xs w hT hx (.inr (.inl ⟨hbig, hok⟩))
    | true =>
      by_cases h60 : 60 < kl.length
      · exact walkOut a g s b q1 q2 ka _ kc va len cap xs w hT hx (.inr (.inr ⟨hbig, hok, h60⟩))
      · obtain ⟨h1, h2, h3, h4⟩ := okH_true hok
        obtain ⟨g1, g2⟩ := lit_u32 hg
        obtain ⟨s1, s2⟩ := lit_u32 hs
        obtain ⟨a', rfl⟩ := lit_nat (a := a) (by omega)
        obtain ⟨b', rfl⟩ := lit_nat h3
        obtain ⟨g', rfl⟩ := lit_nat g1
        obtain ⟨s', rfl⟩ := lit_nat s1
        have hb2 : -9223372036854775808 ≤ q2 ∧ q2 ≤ 9223372036854775807 := by
          exact lit_i64 hq2
        by_cases hm : s' = 4294967295
        · subst hm
          exact walkIn a' g' 4294967295 b' 0 q1 q2 ka _ kc kl va len cap xs w hT (by omega) (by omega) (by omega) (by omega) (by omega) hx hbig (by decide) (by decide) (by decide) hb2.1 hb2.2 hk rfl (by omega)
        · exact walkIn a' g' s' b' (s' + 1) q1 q2 ka _ kc kl va len cap xs w hT (by omega) (by omega) (by omega) (by omega) (by omega) hx hbig (by rw [IntWalk.u32_in _ (by omega)]; omega) (by omega) (by omega) hb2.1 hb2.2 hk rfl (by omega)

theorem own : ownKnob Tryd.prog.godebug = none := by kernel_rfl
theorem laidOut : laidOutB Tryd.prog = true := by kernel_rfl
theorem gW : Tryd.prog.globalNamed "weighlock/header.widths" = some 0 := by kernel_rfl
theorem gWType : (Tryd.prog.globals[0]?).map (·.type) = some 200 := by kernel_rfl
theorem cellsW4 : Tryd.prog.cellsOf 200 = 4 := by kernel_rfl
theorem cellsW1 : Tryd.prog.cellsOf 3 = 1 := by kernel_rfl
/-- What the row's list gives: the table's numbers. -/
theorem table {W : World} (h : laidMetH Tryd.prog Rows.segmentFallsRow.laid W) : Lib.TabIs Tryd.prog W "weighlock/header.widths" .i64 [2, 4, 4, 8] :=
  Lib.tabIs_of_head (rest := []) gW gWType Tryd.underlying200 Tryd.underlying3 cellsW1 cellsW4 h

set_option maxRecDepth 100000 in
theorem contract (H : Type) (enc : TypeId × Value → H) (W : World) (base : Nat) (args : Array Value) (ds gs : List (DataW H)) (before : List MemPlace)
    (hval : ∀ (j : Nat) t v, Tryd.f5.params[j]? = some t → args[j]? = some v → Value.okWide Tryd.prog W .any base t v)
    (hW : DataW.Whole enc Tryd.prog Tryd.f5.params.toList Rows.segmentFallsSpec.vars false W args.toList ds gs before) (hL : laidMetH Tryd.prog Rows.segmentFallsRow.laid W) :
    Calls Tryd.prog 5 args W fun e W' => ∃ v, e = .returned v ∧ Rows.segmentFallsSpec.post enc Tryd.prog Tryd.f5 false true false false W args v W' := by
  have hTb : Wide W := fun i hi => by
    match i, hi with
    | 0, _ => exact (table hL).cell gW 0 (by decide)
    | 1, _ => exact (table hL).cell gW 1 (by decide)
    | 2, _ => exact (table hL).cell gW 2 (by decide)
    | 3, _ => exact (table hL).cell gW 3 (by decide)
  have hW' := hW
  obtain ⟨p, q, hA0, hV, rfl, hfz, hnd⟩ := hW
  have hA : DataW.TrodAll enc Tryd.prog W 0 (fun _ => true) true Tryd.f5.params.toList args.toList ds p := hA0
  rw [Tryd.params5] at hA hval
  obtain ⟨v0, vs0, d0, ds0, p0, q0, hargs, rfl, rfl, h0, r0⟩ := trodAll_cons hA
  obtain ⟨v1, vs1, d1, ds1, p1, q1, rfl, rfl, rfl, h1, r1⟩ := trodAll_cons r0
  obtain ⟨v2, vs2, d2, ds2, p2, q2, rfl, rfl, rfl, h2, r2⟩ := trodAll_cons r1
  obtain ⟨rfl, rfl, rfl⟩ := trodAll_nil r2
  obtain rfl : args = #[v0, v1, v2] := by cases args; simp_all
  obtain ⟨rfl, rfl⟩ := trodVars_none hV
  have k0 := h0
  have lt0 : ∀ x ∈ p0, x.block < W.heap.size := by obtain ⟨m, hm⟩ := k0; exact DataW.trod_lt m _ _ _ hm
  obtain ⟨ha0, hg0, hs0, hb0, rfl, wha0, whg0, whs0, whb0⟩ := M.open_hd4 (hval 0 24 v0 rfl rfl) h0
  obtain ⟨a1, len1, cap1, rfl⟩ := okWide_slice Tryd.underlying25 (hval 1 25 v1 rfl rfl)
  have k1 := h1
  have lt1 : ∀ x ∈ p1, x.block < W.heap.size := by obtain ⟨m, hm⟩ := k1; exact DataW.trod_lt m _ _ _ hm
  obtain ⟨fu1, hf1⟩ := h1
  obtain ⟨z1, w1⟩ := open_frames (show DataW.trod enc Tryd.prog W 0 (fun _ => true) true fu1 25 [.slice a1 len1 cap1] = some _ from hf1)
  have k2 := h2
  have lt2 : ∀ x ∈ p2, x.block < W.heap.size := by obtain ⟨m, hm⟩ := k2; exact DataW.trod_lt m _ _ _ hm
  obtain ⟨qa2, qb2, qv2, ql2, rfl, wqa2, wqb2, wql2⟩ := Go.Proofs.YtlgoepbfdldgnaaDoor.W.open_fall13 (hval 2 71 v2 rfl rfl) h2
  clear hA0
  refine (walk ha0 hg0 hs0 hb0 a1 len1 cap1 z1 qa2 qb2 qv2 ql2 W hTb wha0 whg0 whs0 whb0 w1 wqa2 wqb2 wql2).mono fun e W' ⟨he, bel⟩ => ?_
  subst he
  exact ⟨_, rfl, _, _, _, [], _, [], hW', trodAll_mk1 (shut_bool Tryd.underlying4 _), (trodAll_cons_mk (Below.trod laidOut (by kernel_rfl) (of_decide_eq_true (by kernel_rfl)) k0 bel lt0) (trodAll_cons_mk (Below.trod laidOut (by kernel_rfl) (of_decide_eq_true (by kernel_rfl)) k1 bel lt1) (trodAll_cons_mk (Below.trod laidOut (by kernel_rfl) (of_decide_eq_true (by kernel_rfl)) k2 bel lt2) trodAll_mk0))), rfl, bel.frame _, fun h => by cases h⟩

/-- A world for the witness: the settled one, the table as its initialiser lays it. -/
noncomputable def laidWorld (os : Os) : World :=
  { World.holding Tryd.prog os ⟨#[], #[], []⟩ with heap := (World.holding Tryd.prog os ⟨#[], #[], []⟩).heap.modify 0 fun
      | .cells _ t frozen => .cells #[.int .i64 2, .int .i64 4, .int .i64 4, .int .i64 8] t frozen
      | o => o }
theorem laid_met (os : Os) : laidMet Tryd.prog Rows.segmentFallsRow.laid ((laidWorld os).forCall (fun _ _ => 0) ⟨#[], #[.agg #[.int .i64 0, .int .u32 0, .int .u32 0, .int .i64 0], .slice none 0 0, .agg #[.int .i64 0, .int .i64 0, .slice none 0 0]], []⟩).memory :=
  laidMet_of_run' 8 (by kernel_rfl) (by kernel_rfl)
theorem reads (os : Os) {H : Type} (enc : TypeId × Value → H) : ∃ places, DataW.whole enc Tryd.prog ((laidWorld os).forCall (fun _ _ => 0) ⟨#[], #[.agg #[.int .i64 0, .int .u32 0, .int .u32 0, .int .i64 0], .slice none 0 0, .agg #[.int .i64 0, .int .i64 0, .slice none 0 0]], []⟩).memory Tryd.f5.params.toList Rows.segmentFallsSpec.vars false (#[.agg #[.int .i64 0, .int .u32 0, .int .u32 0, .int .i64 0], .slice none 0 0, .agg #[.int .i64 0, .int .i64 0, .slice none 0 0]] : Array Value).toList 8 = some ([.agg [.lit (.int .i64 0), .lit (.int .u32 0), .lit (.int .u32 0), .lit (.int .i64 0)], .nil, .agg [.lit (.int .i64 0), .lit (.int .i64 0), .nil]], [], places) :=
  ⟨[], by kernel_rfl⟩
set_option maxRecDepth 100000 in
theorem lifted (os : Os) (started : os.Started) (H : Type) (enc : TypeId × Value → H) (F : Stop.Interp) :
    ReturnsInHanded {} Tryd.checked os 5 .any ((OpenSpec.ofChange Rows.segmentFallsSpec).preRow enc Tryd.prog Tryd.f5 Rows.segmentFallsRow.domain false Rows.segmentFallsRow.laid) (((OpenSpec.ofChange Rows.segmentFallsSpec).at F).post enc Tryd.prog Tryd.f5 false true false false) := by
  obtain ⟨places, hx⟩ := reads os enc
  refine returnsInHanded_of_row (C := Tryd.checked) (s := OpenSpec.ofChange Rows.segmentFallsSpec) own started (by kernel_rfl) Tryd.func5
    (witness_row_at (enc := enc) (C := Tryd.checked) false (laidWorld os) #[.agg #[.int .i64 0, .int .u32 0, .int .u32 0, .int .i64 0], .slice none 0 0, .agg #[.int .i64 0, .int .i64 0, .slice none 0 0]] rfl (by kernel_rfl) (by kernel_rfl) (by kernel_rfl)
      (OpenSpec.preRow_of_cond 8 hx (by kernel_rfl) (fun k hk => by cases hk) (by kernel_rfl) (laid_met os))) ?_
  intro W base args ds gs before hval hW _ _ _ hL _ _
  exact contract H enc W base args ds gs before hval hW hL
theorem over : Rows.segmentFallsRow.holds Tryd.pinned (OpenSpec.ofChange Rows.segmentFallsSpec) :=
  OpenClaim.holds_of_cond 5 Tryd.f5 rfl rfl rfl rfl rfl rfl rfl ⟨rfl, rfl, rfl, rfl, rfl⟩ rfl rfl rfl rfl rfl (by kernel_rfl) Tryd.func5 (by kernel_rfl)
    (of_decide_eq_true (by kernel_rfl)) (by unfold Func.isWrapper; first | (rw [if_pos (by decide +kernel)]; kernel_rfl) | (rw [if_neg (by decide +kernel)]; exact ⟨rfl, rfl⟩))
    (fun os started H enc _ F => by rw [OpenClaim.pre_eq_preRow]; exact lifted os started H enc F)
theorem allPlain : (Tryd.f5.params.toList.all fun u => !(Tryd.prog.wantsStandIn u)) = true := by kernel_rfl
/-- No parameter wants a stand-in; the program's own looks are off. -/
theorem plain (f : FuncId) (fn : Func) (hf : Tryd.pinned.checked.prog.funcNamed "weighlock/weighlocklaw13.SegmentFalls" = some f) (hfn : Tryd.pinned.checked.prog.funcs[f]? = some fn) :
    false = Tryd.pinned.checked.prog.looks [] ∧ ∀ (j : Nat) t, fn.params[j]? = some t → Tryd.pinned.checked.prog.wantsStandIn t = false := by
  obtain rfl : f = 5 := Option.some.inj ((show Tryd.prog.funcNamed "weighlock/weighlocklaw13.SegmentFalls" = some 5 by kernel_rfl).symm.trans hf) |>.symm
  obtain rfl : fn = Tryd.f5 := (Option.some.inj (Tryd.func5.symm.trans hfn)).symm
  refine ⟨by kernel_rfl, fun j t ht => ?_⟩
  have h := List.all_eq_true.1 allPlain t (Array.mem_toList_iff.2 (Array.mem_of_getElem? ht))
  have h2 : Tryd.prog.wantsStandIn t = false := by simpa using h
  exact h2

/-- The statement: the tied card. -/
theorem proved : Rows.SegmentFallsCardSaid :=
  Claim7.holds_tied_plain_at .later [] _ _ _ _ over (fun _ h => by cases h) (by kernel_rfl) (fun _ h => by cases h) segmentFalls_row_tie rfl ⟨rfl, rfl⟩ (by kernel_rfl) rfl plain (by kernel_rfl)
#print axioms proved

end Go.Proofs.YtlgoepbfdldgnaaDoor.segmentFalls
