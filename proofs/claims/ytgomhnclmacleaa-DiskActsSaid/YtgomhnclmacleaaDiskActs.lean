/- For every int and every slice of acts the law DiskActs returns true: what any calls make of a disk of any size, one behind the other, is as the definition says, or why there is none. No condition. -/
import Derived.Test.YtgomhnclmacleaaRows
import Derived.Test.YtgomhnclmacleaaRef3K
import Derived.ChangeOld
namespace Go.Proofs.Ytgomhnclmacleaa.diskActs
open Go.ChangeShapes Go.WideShapes Go.ChangeAt Go.RowKit
open Go.Proofs.Ytgomhnclmacleaa.D Go.Proofs.Ytgomhnclmacleaa.Z
set_option linter.unusedVariables false

set_option maxHeartbeats 16000000 in
set_option maxRecDepth 100000 in
theorem walk (sn : Int) (av : Value) (xs : List Act1) (w : World) (wn : (Lit.int .i64 sn).wf = true) (hA : Acts w av xs) :
    Calls Try.prog 3 #[.int .i64 sn, av] w fun e w' => e = .returned (.bool true) ∧ Below w.heap.size w w' := by
  obtain ⟨n0, n1⟩ := bounds_i64 wn
  have hlg := Lib.hid (large_any av xs w hA)
  by_cases hbig : largeB xs = true
  · rw [hbig] at hlg
    clear hbig
    go_enter Try.func3, Try.ntmps3
    go_wp2_with fail
    refine hlg.out.mono ?_
    rintro e w1 ⟨rfl, hb1⟩
    go_wp2_with fail
    refine (torn_any _).mono ?_
    rintro e w2 ⟨rfl, hb2⟩
    go_wp2_with fail
    go_ret
    exact ⟨rfl, hb1.trans (hb2.mono hb1.size)⟩
  replace hbig : largeB xs = false := by simpa using hbig
  rw [hbig] at hlg
  have hm40 : xs.length ≤ 40 ∧ ∀ x ∈ xs, x.kl.length ≤ 40 := by
    unfold largeB at hbig
    rw [Bool.or_eq_false_iff] at hbig
    refine ⟨by have := of_decide_eq_false hbig.1; omega, fun x hx => ?_⟩
    have := List.any_eq_false.1 hbig.2 x hx
    simp at this; omega
  clear hbig
  rcases (show (20 < sn ∧ sn ≤ 8192) ∨ (sn < 1 ∨ 8192 < sn) ∨ (1 ≤ sn ∧ sn ≤ 20) by omega) with ⟨h1, h2⟩ | h1 | ⟨h1, h2⟩
  · go_enter Try.func3, Try.ntmps3
    go_wp2_with fail
    refine hlg.out.mono ?_
    rintro e w1 ⟨rfl, hb1⟩
    go_wp2_with fail
    refine (torn_any _).mono ?_
    rintro e w2 ⟨rfl, hb2⟩
    go_wp2_with fail
    go_ret
    exact ⟨rfl, hb1.trans (hb2.mono hb1.size)⟩
  · have hno := fun W => new_out sn W h1
    replace hno := Lib.hid hno
    rcases h1 with h1 | h1
    all_goals
      go_enter Try.func3, Try.ntmps3
      go_wp2_with fail
      refine hlg.out.mono ?_
      rintro e w1 ⟨rfl, hb1⟩
      go_wp2_with fail
      refine (hno.out _).mono ?_
      rintro e w2 ⟨rfl, rfl⟩
      go_wp2_with fail
      refine (torn_any _).mono ?_
      rintro e w2 ⟨rfl, hb2⟩
      go_wp2_with fail
      go_ret
      exact ⟨rfl, hb1.trans (hb2.mono hb1.size)⟩
  obtain ⟨sz, rfl⟩ := Int.eq_ofNat_of_zero_le (show 0 ≤ sn by omega)
  obtain ⟨ka, cap, rfl, hle, hcap, hx⟩ := hA.form
  unfold maxLen at hcap
  obtain ⟨m, hm⟩ : ∃ m, Hid (xs.length = m) := ⟨_, Lib.hid rfl⟩
  have hget : Hid (∀ j, j < m → ∃ q, xs[j]? = some q ∧ q.kl.length ≤ 40) := fun j hj => ⟨_, List.getElem?_eq_getElem (by rw [hm.out]; exact hj), hm40.2 _ (List.getElem_mem _)⟩
  replace hm40 := hm40.1
  rw [hm.out] at hle hlg hm40 ⊢
  replace hx := Lib.hid hx
  clear hA hm
  go_enter Try.func3, Try.ntmps3
  go_wp2_with fail
  refine hlg.out.mono ?_
  rintro e w1 ⟨rfl, hb1⟩
  clear hlg
  go_wp2_with fail
  refine (new_in sz _ (by omega) (by omega)).mono ?_
  rintro e w2 ⟨rfl, hd2, hb2⟩
  obtain ⟨D0, hD0⟩ : ∃ D, Hid (w1.heap.size + 1 = D) := ⟨_, Lib.hid rfl⟩
  obtain ⟨G0, hG0⟩ : ∃ D, Hid (w1.heap.size = D) := ⟨_, Lib.hid rfl⟩
  rw [hD0.out] at hd2 ⊢
  rw [show Dk w2 D0 w1.heap.size (.slice none 0 0) (zeros sz) [] = Dk w2 D0 G0 (.slice none 0 0) (zeros sz) [] from by rw [hG0.out]] at hd2
  have hs1 := hb1.size
  have hour : ∀ k, mine D0 G0 (.slice none 0 0) k → w.heap.size ≤ k := fun k h => by
    have e1 := hD0.out
    have e2 := hG0.out
    rcases h with h | h | h
    · omega
    · omega
    · cases h
  have hb12 := hb1.trans (hb2.mono hs1)
  go_wp2_with fail
  refine (rnew_any _ sz (by omega)).mono ?_
  rintro e w3 ⟨lv, rfl, hrl, hb3⟩
  have hzl : (zeros sz).length = sz := by simp [zeros]
  obtain ⟨la, lc, rfl, _⟩ := hrl.form
  obtain ⟨tb, htb⟩ : ∃ D, Hid (w3.heap.size = D) := ⟨_, Lib.hid rfl⟩
  have hz64 := zeros64 sz
  have hb123 := hb12.trans (hb3.mono hb12.size)
  have htbw : w.heap.size ≤ tb := by have := hb123.size; have := htb.out; omega
  have hboth : Hid (Both w (w3.alloc (.cells #[.slice la (zeros sz).length lc, .slice none 0 0] 32)) D0 G0 tb la lc none 0 (.slice none 0 0) (zeros sz) []) := Lib.hid
    ⟨(hd2.below hb3).below (allocBelow w3 _), hour, by
      have h := Whole.new w3 32 [.slice la (zeros sz).length lc, .slice none 0 0]
      rw [htb.out] at h
      exact h, ⟨hrl.below (allocBelow w3 _), RL.nil0 _, by omega, fun p hp => by simp at hp⟩, hb123.trans ((allocBelow w3 _).mono hb123.size)⟩
  rw [hzl] at hboth ⊢
  clear hz64 hb123 hb12 hb3 hrl hd2 hour hs1 hb1 hb2 hD0 hG0
  generalize zeros sz = lie0 at hboth hzl
  go_wp2_with fail
  rw [htb.out]
  clear htb
  go_loopg [46] m (fun ga i wr => ∃ (k : Nat) (ya : Option Addr) (yc : Nat) (za : Option Addr) (zc : Nat) (v : Value) (lie : List (List UInt8)) (ws : List (Nat × List UInt8)), k ≤ m ∧ m ≤ k + ga ∧ i = .int .i64 k ∧ Hid (lie.length = sz) ∧ ws.length ≤ k ∧ Hid (Both w wr D0 G0 tb ya yc za zc v lie ws))
  case atStart => exact ⟨0, la, lc, none, 0, _, lie0, [], by omega, by omega, rfl, Lib.hid hzl, by simp, hboth⟩
  case round =>
    obtain ⟨k, ya, yc, za, zc, v, lie, ws, hk, hg, rfl, hlen, hwl, hbo⟩ := hrel
    generalize wr = wo at *
    by_cases hlt : k < m
    · obtain ⟨x, hxk, hx40⟩ := hget.out k hlt
      obtain ⟨hat, b, o, kv, rfl, hbl, q0, q1, q2, q3, q4, hkk⟩ := hx.out k x hxk
      obtain ⟨kka, kcap, rfl⟩ := hkk.len
      have hbr := hbo.out.bel
      have hkn : ∀ q, x.kl ≠ [] → (Value.slice kka x.kl.length kcap).ownBlock = some q → ¬ mine D0 G0 v q := fun q hne hq hmine => by
        have h1 := hbo.out.ours q hmine
        obtain ⟨ka', cap', e1, _, _, hall⟩ := hkk.form
        obtain ⟨y, hy⟩ : ∃ y, x.kl[0]? = some y := ⟨_, List.getElem?_eq_getElem (List.length_pos_iff.2 hne)⟩
        obtain ⟨b', o', e2, hlt', _⟩ := hall 0 y hy
        injection e1 with e3
        rw [e3, e2] at hq
        have e4 : b' = q := by simpa [Value.ownBlock] using hq
        omega
      have r0 := keepCell hbr q0
      have r1 := keepCell hbr q1
      have r2 := keepCell hbr q2
      have r3 := keepCell hbr q3
      have r4 := keepCell hbr q4
      have hsr := hbr.size
      have hkw := hkk.below hbr
      obtain ⟨lie', hlie⟩ : ∃ l, Hid (actL lie ws x = l) := ⟨_, Lib.hid rfl⟩
      obtain ⟨ws', hwss⟩ : ∃ l, Hid (actW lie.length ws x = l) := ⟨_, Lib.hid rfl⟩
      obtain ⟨E, hE⟩ : ∃ l, Hid (actE lie.length x = l) := ⟨_, Lib.hid rfl⟩
      have hl2 : Hid (lie'.length = sz) := Lib.hid (by rw [← hlie.out, actL_len]; exact hlen.out)
      have hw2 : ws'.length ≤ k + 1 := by rw [← hwss.out]; exact Nat.le_trans (actW_len _ _ _) (by omega)
      obtain ⟨kd, xa, xn, xc, xl⟩ := x
      dsimp only at r0 r1 r2 r3 r4 hat hx40 hkn hkw
      obtain ⟨ml, hml⟩ : ∃ ml, Hid (xl.length = ml) := ⟨_, Lib.hid rfl⟩
      rw [hml.out] at r4 hkn hkw
      obtain ⟨W1, hW1⟩ : ∃ W, Hid (W = wo.alloc (.cells #[.int .i64 kd, .int .i64 xa, .int .i64 xn, .int .u8 (xc.toNat : Int), .slice kka ml kcap] 36)) := ⟨_, Lib.hid rfl⟩
      obtain ⟨ab, hab⟩ : ∃ D, Hid (wo.heap.size = D) := ⟨_, Lib.hid rfl⟩
      have hb1 : Below wo.heap.size wo W1 := by rw [hW1.out]; exact allocBelow wo _
      have hAb1 : Whole W1 ab 36 [.int .i64 kd, .int .i64 xa, .int .i64 xn, .int .u8 (xc.toNat : Int), .slice kka ml kcap] := by rw [hW1.out, ← hab.out]; exact Whole.new wo _ _
      have hbo1 := hbo.out.below hb1
      have hact := Lib.hid (ract_any _ _ lie ws W1 kd xa xn xc (.slice kka ml kcap) xl hbo1.doc hat (by omega) hbo1.disk.within hbo1.disk.lie64 hbo1.disk.ws64 (hkw.below hb1) (by omega))
      rw [hlie.out, hwss.out, hE.out] at hact
      have t0 : W1.cell? ⟨tb, 0, none⟩ = some (.slice ya lie.length yc) := hbo1.box.cell 0
      have t1 : W1.cell? ⟨tb, 1, none⟩ = some (.slice za ws.length zc) := hbo1.box.cell 1
      have a0 : W1.cell? ⟨ab, 0, none⟩ = some (.int .i64 kd) := hAb1.cell 0
      have a1 : W1.cell? ⟨ab, 1, none⟩ = some (.int .i64 xa) := hAb1.cell 1
      have a2 : W1.cell? ⟨ab, 2, none⟩ = some (.int .i64 xn) := hAb1.cell 2
      have a3 : W1.cell? ⟨ab, 3, none⟩ = some (.int .u8 (xc.toNat : Int)) := hAb1.cell 3
      have a4 : W1.cell? ⟨ab, 4, none⟩ = some (.slice kka ml kcap) := hAb1.cell 4
      have hkw1 := Lib.hid (hkw.below hb1)
      replace hbo1 := Lib.hid hbo1
      replace hAb1 := Lib.hid hAb1
      replace hkn := Lib.hid hkn
      clear q0 q1 q2 q3 q4 hkk hxk hbr hkw hb1 hbo
      go_wp2_with (with_reducible refine zLoad 32 _ rfl ?_)
      rw [← hW1.out, hab.out]
      clear hW1 hab r0 r1 r2 r3 r4
      refine Lib.hid ?_
      go_wp2_with fail
      refine hact.out.mono ?_
      rintro e w4 ⟨nv, nu, rfl, hRL, hRW, hb4⟩
      obtain ⟨na, nc, rfl, _⟩ := hRL.form
      obtain ⟨nu, nuc, rfl, _⟩ := hRW.form
      obtain ⟨W5, hW5⟩ : ∃ W, Hid (W = w4.alloc (.cells #[.slice na lie'.length nc, .slice nu ws'.length nuc, .int .i64 E] 38)) := ⟨_, Lib.hid rfl⟩
      obtain ⟨sb, hsb⟩ : ∃ D, Hid (w4.heap.size = D) := ⟨_, Lib.hid rfl⟩
      have hb5 : Below w4.heap.size w4 W5 := by rw [hW5.out]; exact allocBelow w4 _
      have hSb5 : Whole W5 sb 38 [.slice na lie'.length nc, .slice nu ws'.length nuc, .int .i64 E] := by rw [hW5.out, ← hsb.out]; exact Whole.new w4 _ _
      have hb45 := hb4.trans (hb5.mono hb4.size)
      have hb45d : Below W1.heap.size W1 W5.drew := ⟨hb45.os, hb45.tape, hb45.output, hb45.size, hb45.block⟩
      have hd5 : ∀ {x : World} , Below x.heap.size x x.drew := fun {x} => ⟨rfl, rfl, rfl, Nat.le_refl _, fun _ _ => rfl⟩
      have hbo5 : Both w W5.drew D0 G0 tb ya yc za zc v lie ws := hbo1.out.below hb45d
      have hAb5 : Whole W5.drew ab 36 [.int .i64 kd, .int .i64 xa, .int .i64 xn, .int .u8 (xc.toNat : Int), .slice kka ml kcap] := hAb1.out.below hb45d hAb1.out.lt
      have hSbd : Whole W5.drew sb 38 [.slice na lie'.length nc, .slice nu ws'.length nuc, .int .i64 E] := hSb5
      have hRL5 : RL W5.drew (.slice na lie'.length nc) lie' := (hRL.below hb5).below hd5
      have hRW5 : RW W5.drew (.slice nu ws'.length nuc) ws' := (hRW.below hb5).below hd5
      have hkw5 : Keeps W5.drew (.slice kka ml kcap) xl := hkw1.out.below hb45d
      have hdn := Lib.hid (done_any D0 G0 v lie ws W5.drew kd xa xn xc (.slice kka ml kcap) xl hbo5.disk hat (by omega) hkw5 hkn.out (by omega))
      unfold Did at hdn
      rw [hlie.out, hwss.out, hE.out] at hdn
      have a0 : W5.drew.cell? ⟨ab, 0, none⟩ = some (.int .i64 kd) := hAb5.cell 0
      have a1 : W5.drew.cell? ⟨ab, 1, none⟩ = some (.int .i64 xa) := hAb5.cell 1
      have a2 : W5.drew.cell? ⟨ab, 2, none⟩ = some (.int .i64 xn) := hAb5.cell 2
      have a3 : W5.drew.cell? ⟨ab, 3, none⟩ = some (.int .u8 (xc.toNat : Int)) := hAb5.cell 3
      have a4 : W5.drew.cell? ⟨ab, 4, none⟩ = some (.slice kka ml kcap) := hAb5.cell 4
      have s2 : W5.drew.cell? ⟨sb, 2, none⟩ = some (.int .i64 E) := hSbd.cell 2
      replace hbo5 := Lib.hid hbo5
      replace hAb5 := Lib.hid hAb5
      replace hSbd := Lib.hid hSbd
      replace hRL5 := Lib.hid hRL5
      replace hRW5 := Lib.hid hRW5
      replace hkw5 := Lib.hid hkw5
      have hszW5 : w.heap.size ≤ W5.drew.heap.size := hbo5.out.bel.size
      clear hact t0 t1 hRL hRW hb4 hb5 hb45 hb45d hSb5 hAb1 hbo1 hkw1 hd5
      go_wp2_with fail
      rw [← hW5.out, hsb.out]
      clear hW5 hsb
      go_region_held3 (fun w' => w'.cell? ⟨ab, 0, none⟩ = some (.int .i64 kd) ∧ w'.cell? ⟨ab, 1, none⟩ = some (.int .i64 xa) ∧ w'.cell? ⟨ab, 2, none⟩ = some (.int .i64 xn) ∧ w'.cell? ⟨ab, 3, none⟩ = some (.int .u8 (xc.toNat : Int)) ∧ w'.cell? ⟨ab, 4, none⟩ = some (.slice kka ml kcap) ∧ w'.cell? ⟨sb, 2, none⟩ = some (.int .i64 E)) (go_keep) (first
        | (go_at_call 18; (with_reducible refine hdn.out.mono ?_); rintro e w6 ⟨rfl, v6, hd6, ho6, hk6⟩; have hAb6 := hAb5.out.keptD hbo5.out.disk hk6 (by decide) (by decide) (by decide); have hSb6 := hSbd.out.keptD hbo5.out.disk hk6 (by decide) (by decide) (by decide); have f0 := hAb6.cell 0; have f1 := hAb6.cell 1; have f2 := hAb6.cell 2; have f3 := hAb6.cell 3; have f4 := hAb6.cell 4; have f5 := hSb6.cell 2; simp only [List.getElem?_cons_zero, List.getElem?_cons_succ] at f0 f1 f2 f3 f4 f5; replace hAb6 := Lib.hid hAb6; replace hSb6 := Lib.hid hSb6; replace hd6 := Lib.hid hd6))
      clear f0 f1 f2 f3 f4 f5 a0 a1 a2 a3 a4 s2 hdn
      have s0 : w6.cell? ⟨sb, 0, none⟩ = some (.slice na lie'.length nc) := hSb6.out.cell 0
      have s1 : w6.cell? ⟨sb, 1, none⟩ = some (.slice nu ws'.length nuc) := hSb6.out.cell 1
      have hBx6 : Whole w6 tb 32 [.slice ya lie.length yc, .slice za ws.length zc] := hbo5.out.box.keptD hbo5.out.disk hk6 (by decide) (by decide) (by decide)
      have g0 := hBx6.cell 0
      have g1 := hBx6.cell 1
      have z0 := hBx6.frozen 0
      have z1 := hBx6.frozen 1
      simp only [List.getElem?_cons_zero, List.getElem?_cons_succ] at g0 g1
      have hour6 : ∀ q, mine D0 G0 v6 q → w.heap.size ≤ q := fun q hq => by
        rcases hq with h | h | h
        · exact hbo5.out.ours q (.inl h)
        · exact hbo5.out.ours q (.inr (.inl h))
        · rcases ho6 q h with h | h
          · exact hbo5.out.ours q (.inr (.inr h))
          · exact Nat.le_trans hszW5 h
      have hbel6 : Below w.heap.size w w6 := hbo5.out.bel.trans (hk6.below hszW5 (fun q hq => hbo5.out.ours q hq))
      have hRL6 := hRL5.out.keptD hbo5.out.disk hk6
      have hRW6 := hRW5.out.keptD hbo5.out.disk hk6
      have hk7 : Kept (fun q => q = tb) w6 (w6.setCells tb 0 [.slice na lie'.length nc, .slice nu ws'.length nuc]) := (Kept.refl (fun q => q = tb) w6).setCells (c := tb) (.inl rfl) 0 _
      have hntb : ¬ mine D0 G0 v6 tb := hd6.out.notMine hBx6.typed (by decide) (by decide) (by decide)
      have hB7 : Hid (Both w (w6.setCells tb 0 [.slice na lie'.length nc, .slice nu ws'.length nuc]) D0 G0 tb na nc nu nuc v6 lie' ws') := Lib.hid
        ⟨hd6.out.farTb hntb hk7, hour6, hBx6.store 0 [.slice na lie'.length nc, .slice nu ws'.length nuc] (by simp),
          ⟨hRL6.store' hBx6 (by simp) _, hRW6.store' hBx6 (by simp) _, by have := hl2.out; omega, fun p hp => by have := hd6.out.within p hp; have := hl2.out; omega⟩,
          hbel6.trans (hk7.below hbel6.size (fun q hq => by omega))⟩
      have hA7 : Hid (Whole (w6.setCells tb 0 [.slice na lie'.length nc, .slice nu ws'.length nuc]) ab 36 [.int .i64 kd, .int .i64 xa, .int .i64 xn, .int .u8 (xc.toNat : Int), .slice kka ml kcap]) := Lib.hid (hAb6.out.of_kept hk7 (hAb6.out.ne hBx6 (by decide)))
      clear hBx6 hour6 hbel6 hRL6 hRW6 hk7 hntb hk6 ho6 hd6 hSb6 hAb6 hRL5 hRW5 hSbd hAb5 hkw5 hbo5 hkn
      go_wp2_with fail
      rw [show (w6.setCell ⟨tb, 0, none⟩ (.slice na lie'.length nc)).setCell ⟨tb, 1, none⟩ (.slice nu ws'.length nuc) = w6.setCells tb 0 [.slice na lie'.length nc, .slice nu ws'.length nuc] from rfl]
      generalize w6.setCells tb 0 [.slice na lie'.length nc, .slice nu ws'.length nuc] = W8 at hB7 hA7 ⊢
      clear s0 s1 g0 g1 z0 z1
      have hd8 : Below W8.heap.size W8 W8.drew := ⟨rfl, rfl, rfl, Nat.le_refl _, fun _ _ => rfl⟩
      have hB8 := Lib.hid (hB7.out.below hd8)
      have hA8 : Whole W8.drew ab 36 [.int .i64 kd, .int .i64 xa, .int .i64 xn, .int .u8 (xc.toNat : Int), .slice kka ml kcap] := hA7.out
      have t0 : W8.drew.cell? ⟨tb, 0, none⟩ = some (.slice na lie'.length nc) := hB8.out.box.cell 0
      have t1 : W8.drew.cell? ⟨tb, 1, none⟩ = some (.slice nu ws'.length nuc) := hB8.out.box.cell 1
      have a0 : W8.drew.cell? ⟨ab, 0, none⟩ = some (.int .i64 kd) := hA8.cell 0
      have a1 : W8.drew.cell? ⟨ab, 1, none⟩ = some (.int .i64 xa) := hA8.cell 1
      have a2 : W8.drew.cell? ⟨ab, 2, none⟩ = some (.int .i64 xn) := hA8.cell 2
      have a3 : W8.drew.cell? ⟨ab, 3, none⟩ = some (.int .u8 (xc.toNat : Int)) := hA8.cell 3
      have a4 : W8.drew.cell? ⟨ab, 4, none⟩ = some (.slice kka ml kcap) := hA8.cell 4
      have hsm : Hid (∀ W, Below W8.drew.heap.size W8.drew W → Calls Try.prog 19 #[.pointer (some ⟨D0, 0, none⟩), .agg #[.slice na lie'.length nc, .slice nu ws'.length nuc]] W fun e w' => e = .returned (.bool true) ∧ Below W.heap.size W w') := Lib.hid (fun W hb => same_any D0 G0 v6 _ _ lie' ws' W (hB8.out.below hb).disk (hB8.out.below hb).doc (by omega))
      have hw1 : Hid (∀ W, Below W8.drew.heap.size W8.drew W → Calls Try.prog 20 #[.pointer (some ⟨D0, 0, none⟩), .int .i64 xa, .int .i64 xn] W fun e w' => e = .returned (.int .i64 (waitN lie'.length ws' xa xn)) ∧ Below W.heap.size W w') := Lib.hid (fun W hb => waiting_any D0 G0 v6 lie' ws' W xa xn (hB8.out.below hb).disk hat (by omega))
      have hw3 : Hid (∀ W, Below W8.drew.heap.size W8.drew W → Calls Try.prog 21 #[.agg #[.slice na lie'.length nc, .slice nu ws'.length nuc], actV kd xa xn xc (.slice kka ml kcap)] W fun e w' => e = .returned (.int .i64 (waitN lie'.length ws' xa xn)) ∧ Below W.heap.size W w') := Lib.hid (fun W hb => rwaiting_any _ _ lie' ws' W kd xa xn xc kka ml kcap (hB8.out.below hb).doc hat (by omega))
      obtain ⟨Q, hQ⟩ : ∃ Q, Hid (waitN lie'.length ws' xa xn = Q) := ⟨_, Lib.hid rfl⟩
      rw [hQ.out] at hw1 hw3
      have hqq : ((Q : Int) != (Q : Int)) = false := by simp
      clear hd8 hA8 hQ hA7 hB7
      go_region_held3 (fun w' => w'.cell? ⟨tb, 0, none⟩ = some (.slice na lie'.length nc) ∧ w'.cell? ⟨tb, 1, none⟩ = some (.slice nu ws'.length nuc) ∧ w'.cell? ⟨ab, 0, none⟩ = some (.int .i64 kd) ∧ w'.cell? ⟨ab, 1, none⟩ = some (.int .i64 xa) ∧ w'.cell? ⟨ab, 2, none⟩ = some (.int .i64 xn) ∧ w'.cell? ⟨ab, 3, none⟩ = some (.int .u8 (xc.toNat : Int)) ∧ w'.cell? ⟨ab, 4, none⟩ = some (.slice kka ml kcap)) (go_keep) (first
        | (go_at_call 19; (with_reducible refine (hsm.out _ (Below.refl _ _)).mono ?_); rintro e u1 ⟨rfl, hu1⟩; have b0 := keepCell hu1 t0; have b1 := keepCell hu1 t1; have b2 := keepCell hu1 a0; have b3 := keepCell hu1 a1; have b4 := keepCell hu1 a2; have b5 := keepCell hu1 a3; have b6 := keepCell hu1 a4)
        | (go_at_call 20; (with_reducible refine (hw1.out _ hu1).mono ?_); rintro e u2 ⟨rfl, hu2⟩; have c0 := keepCell hu2 b0; have c1 := keepCell hu2 b1; have c2 := keepCell hu2 b2; have c3 := keepCell hu2 b3; have c4 := keepCell hu2 b4; have c5 := keepCell hu2 b5; have c6 := keepCell hu2 b6; have hu12 := hu1.trans (hu2.mono hu1.size))
        | (go_at_call 21; (with_reducible refine (hw3.out _ hu12).mono ?_); rintro e u3 ⟨rfl, hu3⟩; have d0 := keepCell hu3 c0; have d1 := keepCell hu3 c1; have d2 := keepCell hu3 c2; have d3 := keepCell hu3 c3; have d4 := keepCell hu3 c4; have d5 := keepCell hu3 c5; have d6 := keepCell hu3 c6))
      have hB9 := Lib.hid (hB8.out.below (hu12.trans (hu3.mono hu12.size)))
      clear t0 t1 a0 a1 a2 a3 a4 b0 b1 b2 b3 b4 b5 b6 c0 c1 c2 c3 c4 c5 c6 d0 d1 d2 d3 d4 d5 d6 hu1 hu2 hu3 hu12 hB8 hsm hw1 hw3
      go_wp2_with fail
      go_roundg (gk - 1)
      case measure => omega
      case rel => exact ⟨k + 1, na, nc, nu, nuc, v6, lie', ws', by omega, by omega, by go_num, hl2, hw2, hB9⟩
    · obtain rfl : k = m := by omega
      have t0 : wo.cell? ⟨tb, 0, none⟩ = some (.slice ya lie.length yc) := hbo.out.box.cell 0
      have t1 : wo.cell? ⟨tb, 1, none⟩ = some (.slice za ws.length zc) := hbo.out.box.cell 1
      have hsm := Lib.hid (same_any D0 G0 v _ _ lie ws wo hbo.out.disk hbo.out.doc (by omega))
      go_wp2_with fail
      refine hsm.out.mono ?_
      rintro e u1 ⟨rfl, hu1⟩
      go_wp2_with fail
      refine (torn_any _).mono ?_
      rintro e u2 ⟨rfl, hu2⟩
      have hb := hbo.out.bel
      have hfin := Lib.hid (hb.trans ((hu1.trans (hu2.mono hu1.size)).mono hb.size))
      go_wp2_with fail
      go_ret
      exact ⟨rfl, hfin.out⟩

theorem own : ownKnob Try.prog.godebug = none := by kernel_rfl
theorem laidOut : laidOutB Try.prog = true := by kernel_rfl

set_option maxRecDepth 100000 in
theorem lifted (os : Os) (started : os.Started) (H : Type) (enc : TypeId × Value → H) :
    ReturnsInHanded {} Try.checked os 3 .any (Rows.diskActsSpec.pre6 enc Try.prog Try.f3 Rows.diskActsRow.domain false) (Rows.diskActsSpec.post enc Try.prog Try.f3 false true false false) := by
  refine returnsInHanded_of_change (C := Try.checked) own started (by kernel_rfl) Try.func3
    (ChangeSpec.witness6 (enc := enc) (C := Try.checked) false ⟨#[], #[.int .i64 0, .slice none 0 0], []⟩ 8 (by kernel_rfl) (by kernel_rfl) (by kernel_rfl) (by kernel_rfl)) ?_
  intro W base args ds gs before hval0 hW hcnd _
  have hval : ∀ (j : Nat) t v, Try.f3.params[j]? = some t → args[j]? = some v → Value.okWide Try.prog W .any base t v := hval0
  have hW' := hW
  obtain ⟨p, q, hA0, hV, rfl, hfz, hnd⟩ := hW
  have hA : DataW.TrodAll enc Try.prog W 0 (fun _ => true) true Try.f3.params.toList args.toList ds p := hA0
  rw [Try.params3] at hA hval
  obtain ⟨v0, vs0, d0, ds0, p0, q0, hargs, rfl, rfl, h0, r0⟩ := trodAll_cons hA
  obtain ⟨v1, vs1, d1, ds1, p1, q1, rfl, rfl, rfl, h1, r1⟩ := trodAll_cons r0
  obtain ⟨rfl, rfl, rfl⟩ := trodAll_nil r1
  obtain rfl : args = #[v0, v1] := by cases args; simp_all
  obtain ⟨rfl, rfl⟩ := trodVars_none hV
  obtain ⟨a0, rfl, rfl, rfl, w0⟩ := open_int Try.underlying3 (hval 0 3 v0 rfl rfl) h0
  have k1 := h1
  have lt1 : ∀ x ∈ p1, x.block < W.heap.size := by obtain ⟨m, hm⟩ := k1; exact DataW.trod_lt m _ _ _ hm
  obtain ⟨a1, len1, cap1, rfl⟩ := okWide_slice Try.underlying22 (hval 1 22 v1 rfl rfl)
  obtain ⟨fu1, hf1⟩ := h1
  obtain ⟨xs1, w1⟩ := D.open_acts (show DataW.trod enc Try.prog W 0 (fun _ => true) true fu1 22 [.slice a1 len1 cap1] = some _ from hf1)
  clear hA0 hval0
  refine (walk a0 (.slice a1 len1 cap1) xs1 W w0 w1).mono fun e W' ⟨he, bel⟩ => ?_
  subst he
  exact ⟨_, rfl, _, _, _, [], _, [], hW', trodAll_mk1 (shut_bool Try.underlying4 _), (trodAll_cons_mk (shut_int Try.underlying3 w0) (trodAll_cons_mk (Below.trod laidOut (by kernel_rfl) (of_decide_eq_true (by kernel_rfl)) k1 bel lt1) trodAll_mk0)), rfl, bel.frame _, fun h => by cases h⟩

theorem over : Rows.diskActsRow.holds Try.pinned (OpenSpec.ofChange Rows.diskActsSpec) :=
  OpenClaim.holds_of_wide 3 Try.f3 rfl rfl rfl rfl rfl rfl rfl ⟨rfl, rfl, rfl, rfl, rfl⟩ rfl rfl rfl rfl rfl (by kernel_rfl) Try.func3 (by kernel_rfl)
    (of_decide_eq_true (by kernel_rfl)) (by unfold Func.isWrapper; first | (rw [if_pos (by decide +kernel)]; kernel_rfl) | (rw [if_neg (by decide +kernel)]; exact ⟨rfl, rfl⟩))
    (fun os started H enc _ => lifted os started H enc)

/-- The statement. -/
theorem proved : Rows.DiskActsSaid := over
#print axioms proved

end Go.Proofs.Ytgomhnclmacleaa.diskActs
