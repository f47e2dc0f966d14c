/- For all calls, one behind the other, the law DedupActs returns true: a table tells what the definition's list tells, and is it; a batch that was noted is told to be the last one. No condition. -/
import Derived.Test.YtbbeapglkdkajaaRows
import Derived.Test.YtbbeapglkdkajaaDdL
import Derived.Test.YtbbeapglkdkajaaDdC
import Derived.Test.YtbbeapglkdkajaaOpenA18
import Derived.ChangeOld
import Derived.ShutString
import Derived.Deep.Cut
import Derived.Deep.LoopGhost
import Derived.Deep.RegionHeld3
namespace Go.Proofs.Ytbbeapglkdkajaa.dedupActs
open Go.ChangeShapes Go.WideShapes Go.ChangeAt Go.RowKit Go.Sort
open Go.ChangeMaps (open_string shut_string)
open Go.Proofs.Ytbbeapglkdkajaa.M Go.Proofs.Ytbbeapglkdkajaa.W Go.Proofs.Ytbbeapglkdkajaa.D Go.Proofs.Ytbbeapglkdkajaa.Z
set_option linter.unusedVariables false
set_option linter.unusedSimpArgs false

theorem noteE_cases (l : List La) (x : La) : noteE l x = 0 ∨ noteE l x = 1 ∨ noteE l x = 5 := by
  unfold noteE
  split
  · exact .inr (.inl rfl)
  · split
    · exact .inl rfl
    · exact .inr (.inr rfl)
theorem noteE_ok {l : List La} {x : La} (h : noteE l x = 0) : x.ok ∧ (hasL l x.p = true ∨ l.length < 16) := by
  unfold noteE at h
  by_cases c0 : ¬ x.ok
  · rw [if_pos c0] at h; omega
  · rw [if_neg c0] at h
    refine ⟨Classical.not_not.1 c0, Classical.byContradiction fun e => ?_⟩
    rw [if_neg e] at h
    omega
theorem chk_noted {l : List La} {x : La} (hok : TabOk l) (h : noteE l x = 0) : chkF (noteL l x) x.p x.s x.n = (x.o, true, 0) := by
  obtain ⟨h1, h2⟩ := noteE_ok h
  have ht := hok.note h1 h2
  have hm : x ∈ noteL l x := (noteL_perm l x).mem_iff.2 (by simp)
  obtain ⟨k, hk⟩ := List.getElem?_of_mem hm
  have hg := getV_at ht.rise hk
  unfold chkF
  rw [if_neg (fun e => e ⟨h1.1, h1.2.1, h1.2.2.1, by decide⟩), hg, if_pos ⟨rfl, rfl⟩]
theorem tbApart {B B0 : Nat} {w w' : World} {tb cb : Nat} {m m' : Option Nat} {l l' : List La} (hc : TbAt B w cb m' l') (h : TbAt B0 w tb m l) (hk : Kept (ofT tb m) w w') (h1 : tb < B) (h2 : ∀ mb, m = some mb → mb < B) : TbAt B w' cb m' l' := by
  have hno : ∀ q, B ≤ q → ¬ ofT tb m q := fun q hq e => by
    rcases e with rfl | e
    · omega
    · have := h2 q e; omega
  refine ⟨hc.box.of_kept hk (hno cb hc.new), ?_, hc.new, hc.newM⟩
  rcases hc.map with e | ⟨mb, e, ho⟩
  · exact .inl e
  · refine .inr ⟨mb, e, ?_⟩
    obtain ⟨es, clock, hb, F, hs, hD⟩ := ho
    exact ⟨es, clock, (hk.block mb (Array.getElem?_eq_some_iff.1 hb).1 (hno mb (hc.newM mb e))).trans hb, F, hs, hD⟩
/-- The law's state. -/
def StA (w wr : World) (tb : Nat) (O : Option Addr) (l : List La) : Prop := TabOk l ∧ Tb w.heap.size wr tb l ∧ LaL wr O l ∧ Below w.heap.size w wr
theorem StA.below {w a b : World} {tb : Nat} {O : Option Addr} {l : List La} (h : StA w a tb O l) (hb : Below a.heap.size a b) : StA w b tb O l := ⟨h.1, h.2.1.below hb, h.2.2.1.below hb, h.2.2.2.trans (hb.mono h.2.2.2.size)⟩
/-- What Note leaves beside the law's other blocks. -/
theorem note_st {w wr : World} {tb : Nat} {O O2 : Option Addr} {l l2 : List La} (h : StA w wr tb O l) (x : La) (hx : noteE l x = 0) (hL2 : LaL wr O2 l2) :
    Calls Try.prog 20 #[.pointer (some ⟨tb, 0, none⟩), .int .i64 x.p, .int .i64 x.s, .int .i64 x.n, .int .i64 x.o] wr fun e w' => e = .returned (.int .i64 0) ∧ Tb w.heap.size w' tb (noteL l x) ∧ LaL w' O2 l2 ∧ Below w.heap.size w w' ∧ (∀ q t cs, Whole wr q t cs → t ≠ 76 → Whole w' q t cs) ∧ (∀ (B : Nat) (cb : Nat) (l3 : List La), Tb B wr cb l3 → (∀ m, TbAt w.heap.size wr tb m l → tb < B ∧ ∀ mb, m = some mb → mb < B) → Tb B w' cb l3) := by
  obtain ⟨hok, ⟨m, ht⟩, hL, hB⟩ := h
  refine (note_yes tb m l x wr ht hB.size hok hx).mono ?_
  rintro e w' ⟨r1, r2, r3⟩
  refine ⟨r1, r2, hL2.kept r3 (fun g cur hg => ht.ne hg (by decide)), hB.trans (ht.beside r3 hB.size), fun q t cs hw hne => hw.of_kept r3 (ht.ne hw hne), fun B cb l3 hc hlt => ?_⟩
  obtain ⟨m', hc⟩ := hc
  exact ⟨m', tbApart hc ht r3 (hlt m ht).1 (hlt m ht).2⟩
set_option maxRecDepth 100000 in
set_option maxHeartbeats 8000000 in
theorem walk (a0 : Option Addr) (n c : Nat) (xs : List A18) (w : World) (w0 : A18In w a0 n xs) :
    Calls Try.prog 6 #[.slice a0 n c] w fun e w' => e = .returned (.bool true) ∧ Below w.heap.size w w' := by
  obtain ⟨hn, hat, hwf⟩ := w0
  clear hwf
  by_cases hl : 60 < n
  · have hli : (60 : Int) < (n : Int) := by omega
    clear hat
    go_enter Try.func6, Try.ntmps6
    go_wp2_with fail
    refine (seven_any _).mono ?_
    rintro e w1 ⟨rfl, hb⟩
    replace hb := Lib.hid hb
    go_wp2_with fail
    go_ret
    exact ⟨rfl, hb.out⟩
  have hli : (n : Int) ≤ 60 := by omega
  replace hat := Lib.hid hat
  have hnew := Lib.hid (dnew_any w)
  obtain ⟨tb, htb⟩ : ∃ tb, Hid (w.heap.size = tb) := ⟨_, Lib.hid rfl⟩
  go_enter Try.func6, Try.ntmps6
  go_wp2_with fail
  refine hnew.out.mono ?_
  rintro e w1 ⟨rfl, hT, hb1⟩
  have hS : Hid (StA w w1 tb none []) := Lib.hid ⟨TabOk.nil, by rw [← htb.out]; exact hT, .inl rfl, hb1⟩
  rw [htb.out]
  clear hnew hT hb1
  go_wp2_with fail
  go_loopg [4, 24] n (fun ga lv ix wr => ∃ (k : Nat) (l : List La) (O : Option Addr) (oc : Nat), k ≤ n ∧ n ≤ k + ga ∧ ix = .int .i64 k ∧ lv = .slice O l.length oc ∧ Hid (StA w wr tb O l))
  case atStart => exact ⟨0, [], none, 0, by omega, by omega, rfl, rfl, hS⟩
  case round =>
    clear hS
    obtain ⟨k, l, O, oc, hk, hg, rfl, rfl, hrel⟩ := hrel
    generalize wr = wo at *
    by_cases hlt : k < n
    · obtain ⟨x, hx⟩ : ∃ x, xs[k]? = some x := ⟨_, List.getElem?_eq_getElem (by omega)⟩
      obtain ⟨ab, ao, rfl, habl, hcl⟩ := hat.out k x hx
      have c0 := keepZ (w := w) (w' := wo) (a := ⟨ab, ao + k * 5, none⟩) hrel.out.2.2.2 (hcl 0 _ rfl)
      have c1 := keepZ (w := w) (w' := wo) (a := ⟨ab, ao + k * 5 + 1, none⟩) hrel.out.2.2.2 (hcl 1 _ rfl)
      have c2 := keepZ (w := w) (w' := wo) (a := ⟨ab, ao + k * 5 + 2, none⟩) hrel.out.2.2.2 (hcl 2 _ rfl)
      have c3 := keepZ (w := w) (w' := wo) (a := ⟨ab, ao + k * 5 + 3, none⟩) hrel.out.2.2.2 (hcl 3 _ rfl)
      have c4 := keepZ (w := w) (w' := wo) (a := ⟨ab, ao + k * 5 + 4, none⟩) hrel.out.2.2.2 (hcl 4 _ rfl)
      clear hcl
      replace hx := Lib.hid hx
      obtain ⟨kd, p, s, m, o⟩ := x
      dsimp only at c0 c1 c2 c3 c4
      obtain ⟨W1, hW1⟩ : ∃ V, Hid (V = wo.alloc (.cells #[.int .i64 kd, .int .i64 p, .int .i64 s, .int .i64 m, .int .i64 o] 44)) := ⟨_, Lib.hid rfl⟩
      have hb1 : Below wo.heap.size wo W1 := by rw [hW1.out]; exact grewAlloc (Below.refl _ _) _
      have hA1 : Whole W1 wo.heap.size 44 [.int .i64 kd, .int .i64 p, .int .i64 s, .int .i64 m, .int .i64 o] := by rw [hW1.out]; exact Whole.new wo _ _
      obtain ⟨qb, hqb⟩ : ∃ q, Hid (wo.heap.size = q) := ⟨_, Lib.hid rfl⟩
      rw [hqb.out] at hA1
      have hS1 := Lib.hid (hrel.out.below hb1)
      have a0' : W1.cell? ⟨qb, 0, none⟩ = some (.int .i64 kd) := hA1.cell 0
      have a1 : W1.cell? ⟨qb, 1, none⟩ = some (.int .i64 p) := hA1.cell 1
      have a2 : W1.cell? ⟨qb, 2, none⟩ = some (.int .i64 s) := hA1.cell 2
      have a3 : W1.cell? ⟨qb, 3, none⟩ = some (.int .i64 m) := hA1.cell 3
      have a4 : W1.cell? ⟨qb, 4, none⟩ = some (.int .i64 o) := hA1.cell 4
      have hki : (k : Int) < (n : Int) := by omega
      replace hA1 := Lib.hid hA1
      clear hrel hb1
      by_cases hkd : kd = 0
      · have hkb : (kd == 0) = true := by simp [hkd]
        replace hkd := Lib.hid hkd
        obtain ⟨er, her⟩ : ∃ e, Hid (noteE l ⟨p, s, m, o⟩ = e) := ⟨_, Lib.hid rfl⟩
        by_cases he : er = 0
        · subst he
          have hrn := Lib.hid (rnote_yes O oc l ⟨p, s, m, o⟩ W1 hS1.out.2.2.1 hS1.out.1 her.out)
          go_upto_region 8 with fail
          rw [← show W1 = _ from hW1.out, hqb.out]
          clear hW1 hqb c0 c1 c2 c3 c4
          go_wp2_with fail
          refine hrn.out.mono ?_
          rintro e w2 ⟨A2, n2, rfl, hL2, hb2⟩
          obtain ⟨l2, hl2⟩ : ∃ l2, Hid (noteL l ⟨p, s, m, o⟩ = l2) := ⟨_, Lib.hid rfl⟩
          have hok2 : TabOk l2 := by rw [← hl2.out]; exact hS1.out.1.note (noteE_ok her.out).1 (noteE_ok her.out).2
          have hck : chkF l2 p s m = (o, true, 0) := by rw [← hl2.out]; exact chk_noted hS1.out.1 her.out
          rw [hl2.out] at hL2 ⊢
          obtain ⟨W3, hW3⟩ : ∃ V, Hid (V = w2.alloc (.cells #[.slice A2 l2.length n2, .int .i64 0] 46)) := ⟨_, Lib.hid rfl⟩
          have hb3 : Below w2.heap.size w2 W3 := by rw [hW3.out]; exact grewAlloc (Below.refl _ _) _
          have hN3 : Whole W3 w2.heap.size 46 [.slice A2 l2.length n2, .int .i64 0] := by rw [hW3.out]; exact Whole.new w2 _ _
          obtain ⟨nb, hnb⟩ : ∃ q, Hid (w2.heap.size = q) := ⟨_, Lib.hid rfl⟩
          rw [hnb.out] at hN3
          have hA3 := (hA1.out.below hb2 hA1.out.lt).below hb3 (hA1.out.below hb2 hA1.out.lt).lt
          have hS3 := (hS1.out.below hb2).below hb3
          have b1 : W3.drew.cell? ⟨qb, 1, none⟩ = some (.int .i64 p) := hA3.cell 1
          have b2 : W3.drew.cell? ⟨qb, 2, none⟩ = some (.int .i64 s) := hA3.cell 2
          have b3 : W3.drew.cell? ⟨qb, 3, none⟩ = some (.int .i64 m) := hA3.cell 3
          have b4 : W3.drew.cell? ⟨qb, 4, none⟩ = some (.int .i64 o) := hA3.cell 4
          have n1 : W3.drew.cell? ⟨nb, 1, none⟩ = some (.int .i64 0) := hN3.cell 1
          have hA3d : Whole W3.drew qb 44 [.int .i64 kd, .int .i64 p, .int .i64 s, .int .i64 m, .int .i64 o] := hA3
          have hN3d : Whole W3.drew nb 46 [.slice A2 l2.length n2, .int .i64 0] := hN3
          have hS3d : StA w W3.drew tb O l := hS3.below ((Below.refl _ _).drew)
          have hL3d : LaL W3.drew A2 l2 := (hL2.below hb3).below ((Below.refl _ _).drew)
          have hnt := Lib.hid (note_st hS3d ⟨p, s, m, o⟩ her.out hL3d)
          rw [hl2.out] at hnt
          have hck2 := Lib.hid (fun V (hV : Tb w.heap.size V tb l2) => check_any tb l2 p s m V hV hok2)
          rw [hck] at hck2
          replace hA3d := Lib.hid hA3d
          replace hN3d := Lib.hid hN3d
          replace hok2 := Lib.hid hok2
          have oo : (o == o) = true := by simp
          clear hck hrn hL2 hb2 hb3 hN3 hA3 hS3 hS3d hL3d hS1 hA1 a0' a1 a2 a3 a4
          go_upto_region 10 with fail
          rw [← show W3 = _ from hW3.out, hnb.out]
          clear hW3 hnb
          go_region_held3 (fun w' => w'.cell? ⟨qb, 1, none⟩ = some (.int .i64 p) ∧ w'.cell? ⟨qb, 2, none⟩ = some (.int .i64 s) ∧ w'.cell? ⟨qb, 3, none⟩ = some (.int .i64 m) ∧ w'.cell? ⟨qb, 4, none⟩ = some (.int .i64 o) ∧ w'.cell? ⟨nb, 1, none⟩ = some (.int .i64 0)) (go_keep) (first
            | (go_at_call 20; (with_reducible refine hnt.out.mono ?_); rintro e w6 ⟨rfl, t6, l6, v6, k6, _⟩; have hA6 := k6 _ _ _ hA3d.out (by decide); have hN6 := k6 _ _ _ hN3d.out (by decide); have f1 := hA6.cell 1; have f2 := hA6.cell 2; have f3 := hA6.cell 3; have f4 := hA6.cell 4; have f5 := hN6.cell 1; simp only [List.getElem?_cons_zero, List.getElem?_cons_succ] at f1 f2 f3 f4 f5; replace hA6 := Lib.hid hA6; replace hN6 := Lib.hid hN6; replace t6 := Lib.hid t6; replace l6 := Lib.hid l6; replace v6 := Lib.hid v6; replace k6 := Lib.hid k6))
          have f0 : w6.cell? ⟨nb, 0, none⟩ = some (.slice A2 l2.length n2) := hN6.out.cell 0
          have hc6 := Lib.hid (hck2.out w6 t6.out)
          clear b1 b2 b3 b4 n1 hnt hck2 k6
          go_wp2_with fail
          refine hc6.out.mono ?_
          rintro e w7 ⟨rfl, hb7⟩
          have hA7 := hA6.out.below hb7 hA6.out.lt
          have g4 : w7.cell? ⟨qb, 4, none⟩ = some (.int .i64 o) := hA7.cell 4
          have hS7 := Lib.hid (show StA w w7 tb A2 l2 from ⟨hok2.out, t6.out.below hb7, l6.out.below hb7, v6.out.trans (hb7.mono v6.out.size)⟩)
          have hsm := Lib.hid (same_any tb A2 n2 l2 w7 hS7.out.2.1 hS7.out.2.2.1 hS7.out.1)
          clear hc6 hb7 hA7 hA6 hN6 t6 l6 v6 f0 f1 f2 f3 f4 f5
          go_wp2_with fail
          refine hsm.out.mono ?_
          rintro e w8 ⟨rfl, hb8⟩
          have hS8 := Lib.hid (hS7.out.below hb8)
          clear hsm hb8 hS7 g4
          go_wp2_with fail
          go_roundg (gk - 1)
          case measure => omega
          case rel => exact ⟨k + 1, l2, A2, n2, by omega, by omega, by go_num, rfl, hS8⟩
        · have hrn := rnote_no O oc l ⟨p, s, m, o⟩ W1 hS1.out.2.2.1 hS1.out.1 (by rw [her.out]; exact he)
          rw [her.out] at hrn
          have hnn := fun V (hV : Tb w.heap.size V tb l) => note_no tb l ⟨p, s, m, o⟩ V hV hS1.out.1 (by rw [her.out]; exact he)
          rw [her.out] at hnn
          replace hrn := Lib.hid hrn
          replace hnn := Lib.hid hnn
          have er1 : (er == er) = true := by simp
          have er2 : (er == 0) = false := by simpa using he
          replace he := Lib.hid he
          go_upto_region 8 with fail
          rw [← show W1 = _ from hW1.out, hqb.out]
          clear hW1 hqb c0 c1 c2 c3 c4
          go_wp2_with fail
          refine hrn.out.mono ?_
          rintro e w2 ⟨rfl, hb2⟩
          obtain ⟨W3, hW3⟩ : ∃ V, Hid (V = w2.alloc (.cells #[.slice O l.length oc, .int .i64 er] 46)) := ⟨_, Lib.hid rfl⟩
          have hb3 : Below w2.heap.size w2 W3 := by rw [hW3.out]; exact grewAlloc (Below.refl _ _) _
          have hN3 : Whole W3 w2.heap.size 46 [.slice O l.length oc, .int .i64 er] := by rw [hW3.out]; exact Whole.new w2 _ _
          obtain ⟨nb, hnb⟩ : ∃ q, Hid (w2.heap.size = q) := ⟨_, Lib.hid rfl⟩
          rw [hnb.out] at hN3
          have hA3 := (hA1.out.below hb2 hA1.out.lt).below hb3 (hA1.out.below hb2 hA1.out.lt).lt
          have hS3 := (hS1.out.below hb2).below hb3
          have b1 : W3.drew.cell? ⟨qb, 1, none⟩ = some (.int .i64 p) := hA3.cell 1
          have b2 : W3.drew.cell? ⟨qb, 2, none⟩ = some (.int .i64 s) := hA3.cell 2
          have b3 : W3.drew.cell? ⟨qb, 3, none⟩ = some (.int .i64 m) := hA3.cell 3
          have b4 : W3.drew.cell? ⟨qb, 4, none⟩ = some (.int .i64 o) := hA3.cell 4
          have n1 : W3.drew.cell? ⟨nb, 1, none⟩ = some (.int .i64 er) := hN3.cell 1
          have hA3d : Whole W3.drew qb 44 [.int .i64 kd, .int .i64 p, .int .i64 s, .int .i64 m, .int .i64 o] := hA3
          have hN3d : Whole W3.drew nb 46 [.slice O l.length oc, .int .i64 er] := hN3
          have hS3d : StA w W3.drew tb O l := hS3.below ((Below.refl _ _).drew)
          have hnt := Lib.hid (hnn.out W3.drew hS3d.2.1)
          replace hA3d := Lib.hid hA3d
          replace hN3d := Lib.hid hN3d
          replace hS3d := Lib.hid hS3d
          clear hrn hnn hb2 hb3 hN3 hA3 hS3 hS1 hA1 a0' a1 a2 a3 a4
          go_upto_region 10 with fail
          rw [← show W3 = _ from hW3.out, hnb.out]
          clear hW3 hnb
          go_region_held3 (fun w' => w'.cell? ⟨qb, 1, none⟩ = some (.int .i64 p) ∧ w'.cell? ⟨qb, 2, none⟩ = some (.int .i64 s) ∧ w'.cell? ⟨qb, 3, none⟩ = some (.int .i64 m) ∧ w'.cell? ⟨qb, 4, none⟩ = some (.int .i64 o) ∧ w'.cell? ⟨nb, 1, none⟩ = some (.int .i64 er)) (go_keep) (first
            | (go_at_call 20; (with_reducible refine hnt.out.mono ?_); rintro e w6 ⟨rfl, hb6⟩; have hA6 := hA3d.out.below hb6 hA3d.out.lt; have hN6 := hN3d.out.below hb6 hN3d.out.lt; have f1 := hA6.cell 1; have f2 := hA6.cell 2; have f3 := hA6.cell 3; have f4 := hA6.cell 4; have f5 := hN6.cell 1; simp only [List.getElem?_cons_zero, List.getElem?_cons_succ] at f1 f2 f3 f4 f5; replace hA6 := Lib.hid hA6; replace hN6 := Lib.hid hN6; replace hb6 := Lib.hid hb6))
          have f0 : w6.cell? ⟨nb, 0, none⟩ = some (.slice O l.length oc) := hN6.out.cell 0
          have hS6 := Lib.hid (hS3d.out.below hb6.out)
          have hsm := Lib.hid (same_any tb O oc l w6 hS6.out.2.1 hS6.out.2.2.1 hS6.out.1)
          clear b1 b2 b3 b4 n1 hnt hA6 hN6 hb6 hS3d hA3d hN3d
          go_wp2_with fail
          refine hsm.out.mono ?_
          rintro e w8 ⟨rfl, hb8⟩
          have hS8 := Lib.hid (hS6.out.below hb8)
          clear hsm hb8 hS6 f0 f1 f2 f3 f4 f5
          go_wp2_with fail
          go_roundg (gk - 1)
          case measure => omega
          case rel => exact ⟨k + 1, l, O, oc, by omega, by omega, by go_num, rfl, hS8⟩
      · have hkb : (kd == 0) = false := by simpa using hkd
        replace hkd := Lib.hid hkd
        have hch := Lib.hid (check_any tb l p s m W1 hS1.out.2.1 hS1.out.1)
        have hrc := Lib.hid (fun V (hb : Below W1.heap.size W1 V) => rcheck_any O oc l p s m V (hS1.out.2.2.1.below hb) hS1.out.1)
        obtain ⟨r, hr⟩ : ∃ r, Hid (chkF l p s m = r) := ⟨_, Lib.hid rfl⟩
        rw [hr.out] at hch hrc
        obtain ⟨r1, r2, r3⟩ := r
        have e1 : (r1 == r1) = true := by simp
        have e2 : (r2 == r2) = true := by simp
        have e3 : (r3 == r3) = true := by simp
        go_upto_region 8 with fail
        rw [← show W1 = _ from hW1.out, hqb.out]
        clear hW1 hqb c0 c1 c2 c3 c4
        go_wp2_with fail
        refine hch.out.mono ?_
        rintro e w2 ⟨rfl, hb2⟩
        have hA2 := hA1.out.below hb2 hA1.out.lt
        have b1 : w2.cell? ⟨qb, 1, none⟩ = some (.int .i64 p) := hA2.cell 1
        have b2 : w2.cell? ⟨qb, 2, none⟩ = some (.int .i64 s) := hA2.cell 2
        have b3 : w2.cell? ⟨qb, 3, none⟩ = some (.int .i64 m) := hA2.cell 3
        have hrc2 := Lib.hid (hrc.out w2 hb2)
        have hS2 := Lib.hid (hS1.out.below hb2)
        clear hch hrc hb2 hS1 hA1 a0' a1 a2 a3 a4 hA2
        go_wp2_with fail
        refine hrc2.out.mono ?_
        rintro e w3 ⟨rfl, hb3⟩
        obtain ⟨W4, hW4⟩ : ∃ V, Hid (V = w3.alloc (.cells #[.int .i64 r1, .bool r2, .int .i64 r3] 54)) := ⟨_, Lib.hid rfl⟩
        have hb4 : Below w3.heap.size w3 W4 := by rw [hW4.out]; exact grewAlloc (Below.refl _ _) _
        have hC4 : Whole W4 w3.heap.size 54 [.int .i64 r1, .bool r2, .int .i64 r3] := by rw [hW4.out]; exact Whole.new w3 _ _
        obtain ⟨cb, hcb⟩ : ∃ q, Hid (w3.heap.size = q) := ⟨_, Lib.hid rfl⟩
        rw [hcb.out] at hC4
        have d0 : W4.cell? ⟨cb, 0, none⟩ = some (.int .i64 r1) := hC4.cell 0
        have d1 : W4.cell? ⟨cb, 1, none⟩ = some (.bool r2) := hC4.cell 1
        have d2 : W4.cell? ⟨cb, 2, none⟩ = some (.int .i64 r3) := hC4.cell 2
        have hS4 := Lib.hid ((hS2.out.below hb3).below hb4)
        have hsm := Lib.hid (same_any tb O oc l W4 hS4.out.2.1 hS4.out.2.2.1 hS4.out.1)
        clear hrc2 hb3 hb4 hS2 hC4 b1 b2 b3
        go_upto_region 19 with fail
        rw [← show W4 = _ from hW4.out, hcb.out]
        clear hW4 hcb
        go_wp2_with fail
        refine hsm.out.mono ?_
        rintro e w5 ⟨rfl, hb5⟩
        have hS5 := Lib.hid (hS4.out.below hb5)
        clear hsm hb5 hS4 d0 d1 d2
        go_wp2_with fail
        go_roundg (gk - 1)
        case measure => omega
        case rel => exact ⟨k + 1, l, O, oc, by omega, by omega, by go_num, rfl, hS5⟩
    · obtain rfl : k = n := by omega
      have hcp := Lib.hid (copy_any tb l wo hrel.out.2.1)
      go_wp2_with fail
      refine hcp.out.mono ?_
      rintro e w2 ⟨cb, rfl, hC2, hb2⟩
      have hS2 := hrel.out.below hb2
      have hlow : ∀ m, TbAt w.heap.size w2 tb m l → tb < wo.heap.size ∧ ∀ mb, m = some mb → mb < wo.heap.size := fun m ht => by
        obtain ⟨m0, h0⟩ := hrel.out.2.1
        have h02 := h0.below hb2
        have e : m = m0 := by
          have e1 : w2.cell? ⟨tb, 0, none⟩ = some (.map m) := ht.box.cell 0
          have e2 : w2.cell? ⟨tb, 0, none⟩ = some (.map m0) := h02.box.cell 0
          rw [e1] at e2
          injection e2 with e2
          injection e2
        refine ⟨h0.box.lt, fun mb e2 => ?_⟩
        rw [e] at e2
        rcases h0.map with ⟨e3, _⟩ | ⟨mb', e3, ho⟩
        · rw [e3] at e2; cases e2
        · rw [e3] at e2
          cases e2
          exact ho.lt
      have hL2 := hS2.2.2.1
      have key : ∃ d : Int, (d = 0 ∨ d = 5) ∧ Calls Try.prog 20 #[.pointer (some ⟨tb, 0, none⟩), .int .i64 1, .int .i64 0, .int .i64 1, .int .i64 0] w2 fun e w' => e = .returned (.int .i64 d) ∧ Tb wo.heap.size w' cb l ∧ LaL w' O l ∧ Below w.heap.size w w' := by
        rcases noteE_cases l ⟨1, 0, 1, 0⟩ with h0 | h0 | h0
        · refine ⟨0, .inl rfl, (note_st hS2 ⟨1, 0, 1, 0⟩ h0 hL2).mono ?_⟩
          rintro e w' ⟨r1, r2, r3, r4, r5, r6⟩
          exact ⟨r1, r6 _ cb l hC2 hlow, r3, r4⟩
        · exfalso
          unfold noteE at h0
          rw [if_neg (by decide)] at h0
          split at h0 <;> omega
        · refine ⟨5, .inr rfl, ?_⟩
          have hno := note_no tb l ⟨1, 0, 1, 0⟩ w2 hS2.2.1 hS2.1 (by rw [h0]; decide)
          rw [h0] at hno
          refine hno.mono ?_
          rintro e w' ⟨r1, r2⟩
          exact ⟨r1, hC2.below r2, hL2.below r2, hS2.2.2.2.trans (r2.mono hS2.2.2.2.size)⟩
      obtain ⟨d, hd, hnt⟩ := key
      have hokl := hrel.out.1
      have hsm := Lib.hid (fun V (h1 : Tb wo.heap.size V cb l) (h2 : LaL V O l) => same_any cb O oc l V h1 h2 hokl)
      replace hnt := Lib.hid hnt
      clear hcp hC2 hb2 hS2 hlow hL2 hrel hokl
      rcases hd with rfl | rfl
      all_goals
        go_wp2_with fail
        refine hnt.out.mono ?_
        rintro e w3 ⟨rfl, hC3, hL3, hB3⟩
        have hs3 := Lib.hid (hsm.out w3 hC3 hL3)
        replace hB3 := Lib.hid hB3
        clear hnt hsm hC3 hL3
        go_wp2_with fail
        refine hs3.out.mono ?_
        rintro e w4 ⟨rfl, hb4⟩
        have hB4 := Lib.hid (hB3.out.trans (hb4.mono hB3.out.size))
        clear hs3 hb4 hB3
        go_wp2_with fail
        refine (seven_any _).mono ?_
        rintro e w5 ⟨rfl, hb5⟩
        have hB5 := Lib.hid (grew hB4.out hb5)
        clear hB4 hb5
        go_wp2_with fail
        go_ret
        exact ⟨rfl, hB5.out⟩


theorem own : ownKnob Try.prog.godebug = none := by kernel_rfl
theorem laidOut : laidOutB Try.prog = true := by kernel_rfl

set_option maxRecDepth 100000 in
theorem lifted (os : Os) (started : os.Started) (H : Type) (enc : TypeId × Value → H) :
    ReturnsInHanded {} Try.checked os 6 .any (Rows.dedupActsSpec.pre6 enc Try.prog Try.f6 Rows.dedupActsRow.domain false) (Rows.dedupActsSpec.post enc Try.prog Try.f6 false true false false) := by
  refine returnsInHanded_of_change (C := Try.checked) own started (by kernel_rfl) Try.func6
    (ChangeSpec.witness6 (enc := enc) (C := Try.checked) false ⟨#[], #[.slice none 0 0], []⟩ 8 (by kernel_rfl) (by kernel_rfl) (by kernel_rfl) (by kernel_rfl)) ?_
  intro W base args ds gs before hval0 hW hcnd _
  have hval : ∀ (j : Nat) t v, Try.f6.params[j]? = some t → args[j]? = some v → Value.okWide Try.prog W .any base t v := hval0
  have hW' := hW
  obtain ⟨p, q, hA0, hV, rfl, hfz, hnd⟩ := hW
  have hA : DataW.TrodAll enc Try.prog W 0 (fun _ => true) true Try.f6.params.toList args.toList ds p := hA0
  rw [Try.params6] at hA hval
  obtain ⟨v0, vs0, d0, ds0, p0, q0, hargs, rfl, rfl, h0, r0⟩ := trodAll_cons hA
  obtain ⟨rfl, rfl, rfl⟩ := trodAll_nil r0
  obtain rfl : args = #[v0] := by cases args; simp_all
  obtain ⟨rfl, rfl⟩ := trodVars_none hV
  obtain ⟨a0, len0, cap0, rfl⟩ := okWide_slice Try.underlying39 (hval 0 39 v0 rfl rfl)
  have k0 := h0
  have lt0 : ∀ x ∈ p0, x.block < W.heap.size := by obtain ⟨m, hm⟩ := k0; exact DataW.trod_lt m _ _ _ hm
  obtain ⟨fu0, hf0⟩ := h0
  obtain ⟨z0, w0⟩ := Go.Proofs.Ytbbeapglkdkajaa.W.open_acts18 (show DataW.trod enc Try.prog W 0 (fun _ => true) true fu0 39 [.slice a0 len0 cap0] = some _ from hf0)
  clear hA0 hval0
  refine (walk a0 len0 cap0 z0 W w0).mono fun e W' ⟨he, bel⟩ => ?_
  subst he
  exact ⟨_, rfl, _, _, _, [], _, [], hW', trodAll_mk1 (shut_bool Try.underlying4 _), (trodAll_cons_mk (Below.trod laidOut (by kernel_rfl) (of_decide_eq_true (by kernel_rfl)) k0 bel lt0) trodAll_mk0), rfl, bel.frame _, fun h => by cases h⟩

theorem over : Rows.dedupActsRow.holds Try.pinned (OpenSpec.ofChange Rows.dedupActsSpec) :=
  OpenClaim.holds_of_wide 6 Try.f6 rfl rfl rfl rfl rfl rfl rfl ⟨rfl, rfl, rfl, rfl, rfl⟩ rfl rfl rfl rfl rfl (by kernel_rfl) Try.func6 (by kernel_rfl)
    (of_decide_eq_true (by kernel_rfl)) (by unfold Func.isWrapper; first | (rw [if_pos (by decide +kernel)]; kernel_rfl) | (rw [if_neg (by decide +kernel)]; exact ⟨rfl, rfl⟩))
    (fun os started H enc _ => lifted os started H enc)

/-- The statement. -/
theorem proved : Rows.DedupActsSaid := over
#print axioms proved

end Go.Proofs.Ytbbeapglkdkajaa.dedupActs
