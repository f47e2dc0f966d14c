/- The disk's take: a span's writes are taken out of those that wait. -/
import Derived.Test.YtkmlmondhmpkkaaProg
import Derived.Test.YtkmlmondhmpkkaaTake
import Derived.Deep.RegionWith
namespace Go.Proofs.Ytkmlmondhmpkkaa.D
open Go.RowKit
set_option linter.unusedVariables false

theorem stopBuild {P : Program} {w : World} {ops : Array Oper} {rest : List Oper} {o : Oper} {a : Act} {Q : Exit → Act → World → Prop} (t : TypeId) (x : Operand)
    (ho : o.op = .buildSlice t 1 #[(0, x)]) (h : Hid (wpList P ops Q (o :: rest) a w)) : wpList P ops Q (o :: rest) a w := h
theorem stopAppend {P : Program} {w : World} {ops : Array Oper} {rest : List Oper} {o : Oper} {a : Act} {Q : Exit → Act → World → Prop} (x y : Operand) (t : TypeId)
    (ho : o.op = .call { callee := .builtin .append, args := #[x, y], argTypes := #[t, t] }) (h : Hid (wpList P ops Q (o :: rest) a w)) : wpList P ops Q (o :: rest) a w := h
theorem wpList_build {w : World} {ops : Array Oper} {rest : List Oper} {o : Oper} {a : Act} {Q : Exit → Act → World → Prop} (hgd : o.guard = none) (x : Operand)
    (ho : o.op = .buildSlice 93 1 #[(0, x)]) (cs : List Value) (hx : a.eval x = .agg cs.toArray) (hl : cs.length = 65)
    (h : wpList Try.prog ops Q rest (a.put o.dst (.slice (some ⟨w.heap.size, 0, none⟩) 1 1)) (w.alloc (.cells cs.toArray 124))) : wpList Try.prog ops Q (o :: rest) a w := by
  refine wpList_plain hgd fun K hK => ?_
  obtain ⟨d, op, ty, ps, af, gd⟩ := o
  have ho' : op = .buildSlice 93 1 #[(0, x)] := ho
  subst ho'
  have hb := build_op a.eval d x ty ps af gd w (by rw [hx]; simpa [Value.cells] using hl)
  rw [hx] at hb
  unfold Oper.wp
  simp only [Oper.upon, hb]
  exact hK _ _ h
theorem Dk.held {w : World} {d g k cap : Nat} {lie : List (List UInt8)} {ws : List (Nat × List UInt8)} (h : Dk w d g (.slice (some ⟨k, 0, none⟩) ws.length cap) lie ws) : Held w k cap ws := by
  rcases h.form with ⟨h0, _⟩ | ⟨k', cap', cur, hv, hW, hle, hcap, hcur, htake⟩
  · cases h0
  cases hv
  have hf := h.few
  exact ⟨hle, hcap, h.ws64, fun p hp => by have := h.within p hp; omega, cur, hW, hcur, htake⟩
theorem Held.owns {w : World} {k cap : Nat} {ws : List (Nat × List UInt8)} (h : Held w k cap ws) : w.ownsRow 0 124 65 (.slice (some ⟨k, 0, none⟩) ws.length cap) ws.length (ws.map wrow).flatten := by
  obtain ⟨cur, h1, h2, h3⟩ := h.cur
  refine ⟨by rw [flat_len h.even, List.length_map], .inr ⟨k, cap, cur.toArray, rfl, Nat.zero_le _, h1, h.le, h.few, by simpa using h2, by simpa using h3⟩⟩
theorem delete_dk {w : World} {d g : Nat} {v : Value} {lie : List (List UInt8)} {ws : List (Nat × List UInt8)} (from_ n : Nat) (h : Dk w d g v lie ws) (hn : from_ + n ≤ lie.length) (hm : ws.length ≤ 100000) :
    Calls Try.prog 65 #[v, hasV from_ n] w fun e w' =>
      ∃ v', e = .returned v' ∧ v'.ownBlock = v.ownBlock ∧ w'.ownsRow 0 124 65 v' (ws.filter (keepB from_ n)).length ((ws.filter (keepB from_ n)).map wrow).flatten ∧ Kept (fun b => v.ownBlock = some b) w w' := by
  have hf := h.few
  rcases h.form with ⟨rfl, rfl⟩ | ⟨k, cap, cur, rfl, -⟩
  · refine (delete_nil _ w).mono ?_
    rintro e w1 ⟨rfl, rfl⟩
    exact ⟨_, rfl, rfl, ⟨rfl, .inl ⟨rfl, rfl⟩⟩, Kept.refl _ _⟩
  · refine (delete_any k cap from_ n ws w h.held hm (by omega)).mono ?_
    rintro e w1 ⟨rfl, h1, h2⟩
    exact ⟨_, rfl, rfl, h1.owns, h2.mono fun b _ e => by rw [e]; rfl⟩
/-- What the statement d.waiting = DeleteFunc(..) leaves. -/
theorem redone {w wr w2 : World} {d g : Nat} {v v' : Value} {lie : List (List UInt8)} {ws ws' : List (Nat × List UInt8)} (h : Dk wr d g v lie ws) (hK : Kept (mine d g v) w wr) (hv : v'.ownBlock = v.ownBlock)
    (hown : w2.ownsRow 0 124 65 v' ws'.length (ws'.map wrow).flatten) (hk : Kept (fun b => v.ownBlock = some b) wr w2) (hsub : ∀ p ∈ ws', p ∈ ws) :
    Dk (w2.setCell ⟨d, 1, none⟩ v') d g v' lie ws' ∧ Kept (mine d g v) w (w2.setCell ⟨d, 1, none⟩ v') := by
  obtain ⟨n1, n2, n3⟩ := h.ne
  have hobj := h.obj.of_kept hk (fun e => n2 e.symm)
  have hly := h.lying.of_kept hk (fun e => n3 e.symm)
  refine ⟨⟨hobj.store 1 [_] (by simp), hly.far (fun e => n1 e.symm) 1 [_], ?_, h.lie64, fun p hp => h.ws64 p (hsub p hp), h.some_, h.few, fun p hp => h.within p (hsub p hp)⟩, ?_⟩
  · exact own_of_kept hown ((Kept.refl (fun k => k = d) w2).setCell (c := d) (.inl rfl) 1 _) (fun k hk e => n2 (by rw [← hv, hk, e]))
  · exact (hK.trans (hk.mono fun b _ e => .inr (.inr e))).setCell (.inl (.inl rfl)) 1 _

theorem own_low {w : World} {b B : Nat} {e : TypeId} {size n : Nat} {v : Value} {xs : List Value} (h : w.ownsRow B e size v n xs) (hb : b ≤ B) : w.ownsRow b e size v n xs := by
  rcases h with ⟨h1, h2 | ⟨g, cap, cur, h2, h3, h4⟩⟩
  · exact ⟨h1, .inl h2⟩
  · exact ⟨h1, .inr ⟨g, cap, cur, h2, by omega, h4⟩⟩
theorem own_far {w : World} {B : Nat} {e : TypeId} {size n : Nat} {v : Value} {xs : List Value} (h : w.ownsRow B e size v n xs) : ∀ k, v.ownBlock = some k → B ≤ k := fun k hk => by
  rcases h with ⟨h1, ⟨rfl, _⟩ | ⟨g, cap, cur, rfl, h3, h4⟩⟩
  · cases hk
  · have e2 : g = k := by simpa [Value.ownBlock] using hk
    omega
theorem Dk.own_lt {w : World} {d g : Nat} {v : Value} {lie : List (List UInt8)} {ws : List (Nat × List UInt8)} (h : Dk w d g v lie ws) : ∀ k, v.ownBlock = some k → k < w.heap.size := fun k hk => by
  rcases h.form with ⟨rfl, _⟩ | ⟨k', cap, cur, rfl, hW, _⟩
  · cases hk
  · have e2 : k' = k := by simpa [Value.ownBlock] using hk
    subst e2
    exact hW.lt
/-- What take leaves. -/
def Took (w : World) (d g : Nat) (v : Value) (lie : List (List UInt8)) (ws : List (Nat × List UInt8)) (from_ n : Nat) (tv : Value) (w' : World) : Prop :=
  ∃ v', w'.ownsRow w.heap.size 124 65 tv (ws.filter (spanB from_ n)).length ((ws.filter (spanB from_ n)).map wrow).flatten ∧ Dk w' d g v' lie (ws.filter (keepB from_ n)) ∧ v'.ownBlock = v.ownBlock ∧ Kept (mine d g v) w w'
theorem Took.drew {w w' : World} {d g from_ n : Nat} {v tv : Value} {lie : List (List UInt8)} {ws : List (Nat × List UInt8)} (h : Took w d g v lie ws from_ n tv w') : Took w d g v lie ws from_ n tv w'.drew := by
  obtain ⟨v', h1, h2, h3, h4⟩ := h
  exact ⟨v', h1.drew, ⟨h2.obj, h2.lying, h2.wait.drew, h2.lie64, h2.ws64, h2.some_, h2.few, h2.within⟩, h3, h4.drewN 1⟩
theorem Dk.drew {w : World} {d g : Nat} {v : Value} {lie : List (List UInt8)} {ws : List (Nat × List UInt8)} (h : Dk w d g v lie ws) : Dk w.drew d g v lie ws := ⟨h.obj, h.lying, h.wait.drew, h.lie64, h.ws64, h.some_, h.few, h.within⟩
theorem took {w wr w2 : World} {d g B from_ n : Nat} {v v' tv : Value} {lie : List (List UInt8)} {ws : List (Nat × List UInt8)} (h : Dk w d g v lie ws) (hbr : Below w.heap.size w wr) (hB : w.heap.size ≤ B)
    (htv : wr.ownsRow B 124 65 tv (ws.filter (spanB from_ n)).length ((ws.filter (spanB from_ n)).map wrow).flatten) (hv : v'.ownBlock = v.ownBlock)
    (hown : w2.ownsRow 0 124 65 v' (ws.filter (keepB from_ n)).length ((ws.filter (keepB from_ n)).map wrow).flatten) (hk : Kept (fun b => v.ownBlock = some b) wr w2) : Took w d g v lie ws from_ n tv (w2.setCell ⟨d, 1, none⟩ v') := by
  obtain ⟨r1, r2⟩ := redone (h.below hbr) (Kept.of_below hbr) hv hown hk (fun p hp => (List.mem_filter.1 hp).1)
  have k2 : Kept (fun b => v.ownBlock = some b ∨ b = d) wr (w2.setCell ⟨d, 1, none⟩ v') := (hk.mono fun _ _ e => .inl e).setCell (c := d) (.inl (.inr rfl)) 1 _
  have hdl := h.obj.lt
  refine ⟨v', own_low (own_of_kept htv k2 ?_) hB, r1, hv, r2⟩
  intro k hk' hc
  have := own_far htv k hk'
  rcases hc with e | e
  · have := h.own_lt k e; omega
  · omega

set_option maxHeartbeats 2000000 in
set_option maxRecDepth 100000 in
theorem take_any (d g : Nat) (v : Value) (lie : List (List UInt8)) (ws : List (Nat × List UInt8)) (w : World) (from_ n : Nat) (h : Dk w d g v lie ws) (hn : from_ + n ≤ lie.length) (hfew : ws.length ≤ 100000) :
    Calls Try.prog 57 #[.pointer (some ⟨d, 0, none⟩), .agg #[.int .i64 from_, .int .i64 n]] w fun e w' =>
      ∃ tv, e = .returned tv ∧ Took w d g v lie ws from_ n tv w' := by
  have hf := h.few
  obtain ⟨i0, hi0, hz0, hz1, hz2⟩ := info_parts infoWrite
  obtain ⟨W, hW⟩ : ∃ W, Hid (W = w.alloc (.cells #[.int .i64 from_, .int .i64 n] 117)) := ⟨_, Lib.hid rfl⟩
  have hbW : Below w.heap.size w W := by rw [hW.out]; exact allocBelow w _
  have hWs : W.heap.size = w.heap.size + 1 := by rw [hW.out]; simp
  have c3 : W.cell? ⟨w.heap.size, 0, none⟩ = some (.int .i64 from_) := by rw [hW.out]; exact (Whole.new w 117 [.int .i64 from_, .int .i64 n]).cell 0
  have c4 : W.cell? ⟨w.heap.size, 1, none⟩ = some (.int .i64 n) := by rw [hW.out]; exact (Whole.new w 117 [.int .i64 from_, .int .i64 n]).cell 1
  have hk1 := h.below hbW
  have c0 := hk1.c1
  have hbel := Below.refl W.heap.size W
  rcases h.form with ⟨rfl, rfl⟩ | ⟨k, cap, cur, rfl, hWh, hle, hcap, hcur, htake⟩
  · go_enter Try.func57, Try.ntmps57
    go_wp2_with (with_reducible refine stopLoad 93 _ rfl ?_)
    rw [← hW.out]
    refine Lib.hid ?_
    go_wp2_with fail
    go_loopg [5, 13] 0 (fun g tv i wr => tv = .slice none 0 0 ∧ i = .int .i64 0 ∧ W = wr)
    case atStart => exact ⟨rfl, rfl, rfl⟩
    case round =>
      obtain ⟨rfl, rfl, rfl⟩ := hrel
      have hf1 := hk1.obj.frozen 1
      go_wp2_with fail
      go_region_with (go_at_call 65; refine (delete_nil _ _).mono ?_; rintro e w1 ⟨rfl, rfl⟩)
      all_goals
        go_wp2_with fail
        go_ret
        exact ⟨_, rfl, (took h hbW hbW.size ⟨rfl, .inl ⟨rfl, rfl⟩⟩ rfl ⟨rfl, .inl ⟨rfl, rfl⟩⟩ (Kept.refl _ _)).drew⟩
  · obtain ⟨m, hm⟩ : ∃ m, Hid (ws.length = m) := ⟨_, Lib.hid rfl⟩
    have hrow : Hid (∀ j p, ws[j]? = some p → W.rangeAt k (j * 65) (wrow p) ∧ p.2.length = 64 ∧ p.1 < lie.length) := fun j p hp => hk1.rows hp
    have hklt : k < W.heap.size := Nat.lt_of_lt_of_le hWh.lt hbW.size
    have hget : Hid (∀ j, j < m → ∃ p, ws[j]? = some p) := fun j hj => ⟨_, List.getElem?_eq_getElem (by rw [hm.out]; exact hj)⟩
    have hh := Lib.hid h
    have hfew' := Lib.hid hfew
    rw [hm.out] at c0 hle hfew
    unfold maxLen at hcap
    clear hWh hcur htake hk1 h
    go_enter Try.func57, Try.ntmps57
    rw [hm.out]
    go_wp2_with (with_reducible refine stopLoad 93 _ rfl ?_)
    rw [← hW.out]
    refine Lib.hid ?_
    go_wp2_with fail
    go_loopg [5, 13] m (fun g tv i wr => ∃ j : Nat, j ≤ m ∧ m ≤ j + g ∧ i = .int .i64 j ∧ Below W.heap.size W wr ∧ wr.ownsRow W.heap.size 124 65 tv ((ws.take j).filter (spanB from_ n)).length (((ws.take j).filter (spanB from_ n)).map wrow).flatten)
    case atStart => exact ⟨0, by omega, by omega, rfl, Below.refl _ _, rfl, .inl ⟨rfl, rfl⟩⟩
    case round =>
      obtain ⟨j, hj, hg, rfl, hbr, hown⟩ := hrel
      by_cases hlt : j < m
      · obtain ⟨p, hp⟩ := hget.out j hlt
        obtain ⟨e1, e2, e3⟩ := hrow.out j p hp
        have e4 : wr.rangeAt k (j * 65) (wrow p) := fun i u hu => keepCell hbr (e1 i u hu)
        have hsn := Lib.hid (filter_snoc (p := spanB from_ n) hp)
        have hl65 := Lib.hid (wrow_len e2)
        have hlen : ((ws.take j).filter (spanB from_ n)).length ≤ 100000 := by
          have h1 := List.length_filter_le (spanB from_ n) (ws.take j)
          have h2 := List.length_take_le j ws
          omega
        replace e2 := Lib.hid e2
        replace hp := Lib.hid hp
        replace hown := Lib.hid hown
        have c31 := keepCell hbr c3
        have c41 := keepCell hbr c4
        go_wp2_with (with_reducible refine stopLoad 124 _ rfl ?_)
        refine Lib.hid ?_
        refine wpList_load_mid rfl 124 _ rfl k (j * 65) rfl (wrow p) _ e4 Try.underlying124 rfl (by rw [hl65.out]; exact sizeWrite) ?_
        go_wp2_with (with_reducible refine stopStore 124 _ _ rfl ?_)
        refine Lib.hid ?_
        refine wpList_fresh rfl 124 _ _ rfl _ rfl (wrow p) rfl wr _ rfl rfl (by rw [hl65.out]; rfl) (by rw [hl65.out]; exact sizeWrite) (wrow_one p) ?_
        intro w2 hbox hb2 hsz2
        have c32 := keepCell hb2 c31
        have c42 := keepCell hb2 c41
        have hr2 := hbox.range
        go_wp2_with (with_reducible refine stopLoad 124 _ rfl ?_)
        refine Lib.hid ?_
        refine wpList_load_mid rfl 124 _ rfl wr.heap.size 0 rfl (wrow p) _ hr2 Try.underlying124 rfl (by rw [hl65.out]; exact sizeWrite) ?_
        go_wp2_with fail
        refine (has_any from_ n p _ (by omega) (by omega)).mono ?_
        rintro e w3 ⟨rfl, hb3⟩
        have hb23 := hb2.trans (hb3.mono hb2.size)
        have hbr3 := hbr.trans (hb23.mono hbr.size)
        have hown3 := Lib.hid (own_of_kept (own := fun _ => False) hown.out (Kept.of_below hb23) (fun _ _ h => h))
        have hr3 : w3.rangeAt wr.heap.size 0 (wrow p) := (hbox.below hb3 (by omega)).range
        cases hs : spanB from_ n p <;> rw [hs] at hsn <;> replace hs := Lib.hid hs
        · have hown4 := Lib.hid hown3.out
          rw [show (ws.take j).filter (spanB from_ n) = (ws.take (j + 1)).filter (spanB from_ n) by rw [hsn.out]; simp] at hown4
          go_wp2_with fail
          go_roundg (gk - 1)
          case measure => omega
          case rel => exact ⟨j + 1, by omega, by omega, by go_num, hbr3, hown4.out⟩
        · go_wp2_with (with_reducible refine stopLoad 124 _ rfl ?_)
          refine Lib.hid ?_
          refine wpList_load_mid rfl 124 _ rfl wr.heap.size 0 rfl (wrow p) _ hr3 Try.underlying124 rfl (by rw [hl65.out]; exact sizeWrite) ?_
          go_wp2_with (with_reducible refine stopBuild _ _ rfl ?_)
          refine Lib.hid ?_
          refine wpList_build rfl _ rfl (wrow p) rfl hl65.out ?_
          go_wp2_with (with_reducible refine stopAppend _ _ _ rfl ?_)
          refine Lib.hid ?_
          have hsz3 := hbr3.size
          refine wpList_append_lies _ rfl _ _ 93 rfl W.heap.size 124 i0 _ 65 72 Try.underlying93 hi0 hz0 hz1 hz2 rfl (by omega) _ _ _ rfl (hown3.out.alloc _) _ 1 1 (wrow p) rfl (by rw [hl65.out]) (World.news_of_block (heap_alloc_new _ _)) (wrow_one p) (by omega) (by unfold maxLen; omega) (by omega) (by simp; omega) (w3.heap.size + 1) (by simp) ?_
          intro gg cap2 w5 hown5 hgrow5 hat5 hlt5
          have hbr5 : Below W.heap.size W w5 := (((Kept.of_below (own := fun b => W.heap.size ≤ b) hbr3).alloc _).grown hgrow5 (fun k hk => .inl (own_far hown3.out k hk))).below (Nat.le_refl _) (fun _ h => h)
          have hown6 := Lib.hid hown5
          have hend : Hid ((ws.take (j + 1)).filter (spanB from_ n) = (ws.take j).filter (spanB from_ n) ++ [p]) := by rw [hsn.out]; exact Lib.hid (by simp)
          clear hown5 hgrow5 hat5 hr3 hr2 hbox
          go_wp2_with fail
          go_roundg (gk - 1)
          case measure => omega
          case rel => exact ⟨j + 1, by omega, by omega, by go_num, hbr5, by rw [hend.out, List.length_append, List.map_append, List.flatten_append]; simpa using hown6.out⟩
      · obtain rfl : j = m := by omega
        have htk : ws.take j = ws := by rw [← hm.out, List.take_length]
        rw [htk] at hown
        have hbw := hbW.trans (hbr.mono hbW.size)
        rw [hm.out] at hh
        have hkd := Lib.hid ((hh.out.below hbw).drew)
        have hdel := Lib.hid (delete_any k cap from_ n ws wr.drew (by have h2 := (hh.out.below hbw).drew; rw [← hm.out] at h2; exact h2.held) hfew'.out (by omega))
        rw [hm.out] at hdel
        have hobj := hkd.out.obj
        have hf1 := hobj.frozen 1
        have c1 := (hh.out.below hbw).c1
        have c31 := keepCell hbr c3
        have c41 := keepCell hbr c4
        replace hown := Lib.hid hown
        replace hobj := Lib.hid hobj
        have hne := Lib.hid hkd.out.ne.2.1
        clear htk hrow
        go_wp2_with fail
        go_region_with (go_at_call 65; refine hdel.out.mono ?_; rintro e w2 ⟨rfl, hheld', hk0⟩; have hk' := hk0.mono (own' := fun b => (Value.slice (some ⟨k, 0, none⟩) j cap).ownBlock = some b) (fun b _ e => by rw [e]; rfl); have hob2 := hobj.out.of_kept hk' (fun e => hne.out e.symm); have hc2 := hob2.cell 1; have hf2 := hob2.frozen 1; simp only [List.getElem?_cons_succ, List.getElem?_cons_zero] at hc2; replace hheld' := Lib.hid hheld'; replace hob2 := Lib.hid hob2)
        all_goals
          go_wp2_with fail
          go_ret
          exact ⟨_, rfl, took hh.out hbw hbW.size hown.out rfl hheld'.out.owns (((Kept.refl _ wr).drewN 1).trans hk')⟩
end Go.Proofs.Ytkmlmondhmpkkaa.D
