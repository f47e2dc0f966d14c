/- The law's done: an act, by the program. -/
import Derived.Test.YtgomhnclmacleaaProg
import Derived.Test.YtgomhnclmacleaaOpenAct
import Derived.Deep.RegionHeld3
namespace Go.Proofs.Ytgomhnclmacleaa.D
open Go.RowKit
set_option linter.unusedVariables false

/-- An act, by its parts. -/
structure Act1 where
  kind : Int
  at_ : Int
  n : Int
  c : UInt8
  kl : List (Int × Int)
/-- May a span be? -/
def spanOk (len : Nat) (a n : Int) : Prop := 0 ≤ a ∧ 0 ≤ n ∧ n ≤ len - a
instance (len : Nat) (a n : Int) : Decidable (spanOk len a n) := by unfold spanOk; infer_instance
/-- What an act leaves to lie there. -/
def actL (lie : List (List UInt8)) (ws : List (Nat × List UInt8)) (x : Act1) : List (List UInt8) :=
  if x.kind = 1 ∧ spanOk lie.length x.at_ x.n then laid lie (ws.filter (spanB x.at_.toNat x.n.toNat))
  else if x.kind = 2 ∧ spanOk lie.length x.at_ x.n then kepts (ws.filter (spanB x.at_.toNat x.n.toNat)) lie x.kl
  else lie
/-- What waits behind an act. -/
def actW (len : Nat) (ws : List (Nat × List UInt8)) (x : Act1) : List (Nat × List UInt8) :=
  if x.kind = 0 ∧ 0 ≤ x.at_ ∧ x.at_ < len ∧ cut x.n = 0 then ws ++ [(x.at_.toNat, fillL x.c)]
  else if (x.kind = 1 ∨ x.kind = 2) ∧ spanOk len x.at_ x.n then ws.filter (keepB x.at_.toNat x.n.toNat)
  else ws
/-- What an act answers. -/
def actE (len : Nat) (x : Act1) : Int :=
  if x.kind = 0 then (if 0 ≤ x.at_ ∧ x.at_ < len then (if cut x.n = 0 then 0 else 1) else 20)
  else if x.kind = 1 ∨ x.kind = 2 then (if spanOk len x.at_ x.n then 0 else 20)
  else (if 0 ≤ x.at_ ∧ x.at_ < len then 0 else 20)
theorem actL_len (lie : List (List UInt8)) (ws : List (Nat × List UInt8)) (x : Act1) : (actL lie ws x).length = lie.length := by
  unfold actL
  split
  · exact laid_len _ _
  · split
    · exact kepts_len _ _ _
    · rfl
theorem actW_len (len : Nat) (ws : List (Nat × List UInt8)) (x : Act1) : (actW len ws x).length ≤ ws.length + 1 := by
  unfold actW
  split
  · simp
  · split
    · exact Nat.le_succ_of_le (List.length_filter_le _ _)
    · omega
/-- What done leaves. -/
def Did (w : World) (d g : Nat) (v : Value) (lie : List (List UInt8)) (ws : List (Nat × List UInt8)) (x : Act1) (w' : World) : Prop :=
  Turned w d g v (actL lie ws x) (actW lie.length ws x) w'
theorem Turned.stay {w w' : World} {d g : Nat} {v : Value} {lie : List (List UInt8)} {ws : List (Nat × List UInt8)} (h : Dk w d g v lie ws) (hb : Below w.heap.size w w') : Turned w d g v lie ws w' :=
  Turned.of (h.below hb) rfl (Kept.of_below hb)
theorem Turned.first {w w1 w' : World} {d g : Nat} {v : Value} {lie' : List (List UInt8)} {ws' : List (Nat × List UInt8)} (hb : Below w.heap.size w w1) (h : Turned w1 d g v lie' ws' w') : Turned w d g v lie' ws' w' := by
  obtain ⟨v', h1, h2, h3⟩ := h
  refine ⟨v', h1, fun k hk => (h2 k hk).imp id fun e => ?_, (Kept.of_below hb).trans h3⟩
  have := hb.size
  omega
theorem Turned.kept {w w' : World} {d g : Nat} {v : Value} {lie' : List (List UInt8)} {ws' : List (Nat × List UInt8)} (h : Turned w d g v lie' ws' w') : Kept (mine d g v) w w' := h.elim fun _ h => h.2.2
theorem Did.kept {w w' : World} {d g : Nat} {v : Value} {lie : List (List UInt8)} {ws : List (Nat × List UInt8)} {x : Act1} (h : Did w d g v lie ws x w') : Kept (mine d g v) w w' := Turned.kept h
theorem Keeps.below {w w' : World} {kv : Value} {kl : List (Int × Int)} (h : Keeps w kv kl) (hb : Below w.heap.size w w') : Keeps w' kv kl := by
  obtain ⟨ka, cap, h1, h2, h3, h4⟩ := h.form
  refine ⟨ka, cap, h1, h2, h3, fun j q hq => ?_⟩
  obtain ⟨b, o, e1, e2, e3, e4⟩ := h4 j q hq
  exact ⟨b, o, e1, Nat.lt_of_lt_of_le e2 hb.size, keepCell hb e3, keepCell hb e4⟩
section
variable (d g : Nat) (v : Value) (lie : List (List UInt8)) (ws : List (Nat × List UInt8)) (w : World)
/-- Write, whatever comes. -/
theorem write_any (a n : Int) (c : UInt8) (T : ByteArray) (h : Dk w d g v lie ws) (hT : Texted n c T) (hfew : ws.length ≤ 100000) (kl : List (Int × Int)) :
    Calls Try.prog 51 #[.pointer (some ⟨d, 0, none⟩), .int .i64 a, .string T] w fun e w' => e = .returned (.int .i64 (actE lie.length ⟨0, a, n, c, kl⟩)) ∧ Did w d g v lie ws ⟨0, a, n, c, kl⟩ w' := by
  have hL : actL lie ws ⟨0, a, n, c, kl⟩ = lie := by simp [actL]
  unfold Did
  rw [hL]
  by_cases h1 : 0 ≤ a ∧ a < lie.length
  · obtain ⟨i, rfl⟩ := Int.eq_ofNat_of_zero_le h1.1
    have hi : i < lie.length := by omega
    by_cases hc : cut n = 0
    · have hW : actW lie.length ws ⟨0, (i : Int), n, c, kl⟩ = ws ++ [(i, fillL c)] := by simp [actW, hi, hc]
      have hE : actE lie.length ⟨0, (i : Int), n, c, kl⟩ = 0 := by simp [actE, hi, hc]
      rw [hW, hE]
      have hTe := hT.2 hc
      have := write_in d g v lie ws w i T h hi (by rw [hT.1, hc]) hfew
      rw [show T.data.toList = fillL c by rw [hTe]] at this
      exact this
    · have hW : actW lie.length ws ⟨0, (i : Int), n, c, kl⟩ = ws := by simp [actW, hc]
      have hE : actE lie.length ⟨0, (i : Int), n, c, kl⟩ = 1 := by simp [actE, hi, hc]
      rw [hW, hE]
      refine (write_short d g v lie ws w i T h hi (by rw [hT.1]; omega)).mono ?_
      rintro e w1 ⟨rfl, rfl⟩
      exact ⟨rfl, Turned.stay h (Below.refl _ _)⟩
  · have hW : actW lie.length ws ⟨0, a, n, c, kl⟩ = ws := by
      unfold actW
      rw [if_neg (by simp; omega), if_neg (by simp)]
    have hE : actE lie.length ⟨0, a, n, c, kl⟩ = 20 := by
      unfold actE
      rw [if_pos rfl, if_neg h1]
    rw [hW, hE]
    refine (write_out d g v lie ws w a T h (by omega)).mono ?_
    rintro e w1 ⟨rfl, rfl⟩
    exact ⟨rfl, Turned.stay h (Below.refl _ _)⟩
/-- Flush, whatever comes. -/
theorem flush_any (a n : Int) (c : UInt8) (h : Dk w d g v lie ws) (hbig : a ≤ 9223372036854775807) (hfew : ws.length ≤ 100000) (kl : List (Int × Int)) :
    Calls Try.prog 24 #[.pointer (some ⟨d, 0, none⟩), .int .i64 a, .int .i64 n] w fun e w' => e = .returned (.int .i64 (actE lie.length ⟨1, a, n, c, kl⟩)) ∧ Did w d g v lie ws ⟨1, a, n, c, kl⟩ w' := by
  unfold Did
  by_cases h1 : spanOk lie.length a n
  · obtain ⟨i, rfl⟩ := Int.eq_ofNat_of_zero_le h1.1
    obtain ⟨m, rfl⟩ := Int.eq_ofNat_of_zero_le h1.2.1
    have := flush_in d g v lie ws w i m h (by have := h1.2.2; omega) hfew
    simpa [actL, actW, actE, h1] using this
  · have hL : actL lie ws ⟨1, a, n, c, kl⟩ = lie := by simp [actL, h1]
    have hW : actW lie.length ws ⟨1, a, n, c, kl⟩ = ws := by simp [actW, h1]
    have hE : actE lie.length ⟨1, a, n, c, kl⟩ = 20 := by simp [actE, h1]
    rw [hL, hW, hE]
    refine (flush_out d g v lie ws w a n h hbig (by unfold spanOk at h1; omega)).mono ?_
    rintro e w1 ⟨rfl, hb⟩
    exact ⟨rfl, Turned.stay h hb⟩
theorem crash_any (a n : Int) (c : UInt8) (kv : Value) (kl : List (Int × Int)) (h : Dk w d g v lie ws) (hbig : a ≤ 9223372036854775807) (hfew : ws.length ≤ 100000) (hkl : Keeps w kv kl) (hkn : ∀ k, kl ≠ [] → kv.ownBlock = some k → ¬ mine d g v k) (hks : kl.length ≤ 100000) :
    Calls Try.prog 25 #[.pointer (some ⟨d, 0, none⟩), .int .i64 a, .int .i64 n, kv] w fun e w' => e = .returned (.int .i64 (actE lie.length ⟨2, a, n, c, kl⟩)) ∧ Did w d g v lie ws ⟨2, a, n, c, kl⟩ w' := by
  unfold Did
  by_cases h1 : spanOk lie.length a n
  · obtain ⟨i, rfl⟩ := Int.eq_ofNat_of_zero_le h1.1
    obtain ⟨m, rfl⟩ := Int.eq_ofNat_of_zero_le h1.2.1
    have := crash_in d g v lie ws w i m kv kl h (by have := h1.2.2; omega) hfew hkl hkn hks
    simpa [actL, actW, actE, h1] using this
  · have hL : actL lie ws ⟨2, a, n, c, kl⟩ = lie := by simp [actL, h1]
    have hW : actW lie.length ws ⟨2, a, n, c, kl⟩ = ws := by simp [actW, h1]
    have hE : actE lie.length ⟨2, a, n, c, kl⟩ = 20 := by simp [actE, h1]
    rw [hL, hW, hE]
    refine (crash_out d g v lie ws w a n kv h hbig (by unfold spanOk at h1; omega)).mono ?_
    rintro e w1 ⟨rfl, hb⟩
    exact ⟨rfl, Turned.stay h hb⟩
theorem read_any (a : Int) (h : Dk w d g v lie ws) (hfew : ws.length ≤ 100000) :
    Calls Try.prog 22 #[.pointer (some ⟨d, 0, none⟩), .int .i64 a] w fun e w' => ∃ s, e = .returned (.tuple #[.string s, .int .i64 (if 0 ≤ a ∧ a < lie.length then 0 else 20)]) ∧ w = w' := by
  by_cases h1 : 0 ≤ a ∧ a < lie.length
  · rw [if_pos h1]
    obtain ⟨i, rfl⟩ := Int.eq_ofNat_of_zero_le h1.1
    have hi : i < lie.length := by omega
    refine (read_in d g v lie ws w i _ h (List.getElem?_eq_getElem hi) hfew).mono ?_
    rintro e w1 ⟨rfl, rfl⟩
    exact ⟨_, rfl, rfl⟩
  · rw [if_neg h1]
    refine (read_out d g v lie ws w a h (by omega)).mono ?_
    rintro e w1 ⟨rfl, rfl⟩
    exact ⟨_, rfl, rfl⟩

set_option maxHeartbeats 1000000 in
set_option maxRecDepth 100000 in
theorem done_any (k at_ n : Int) (c : UInt8) (kv : Value) (kl : List (Int × Int)) (h : Dk w d g v lie ws) (hbig : at_ ≤ 9223372036854775807) (hfew : ws.length ≤ 100000) (hkl : Keeps w kv kl) (hkn : ∀ k, kl ≠ [] → kv.ownBlock = some k → ¬ mine d g v k) (hks : kl.length ≤ 100000) :
    Calls Try.prog 18 #[.pointer (some ⟨d, 0, none⟩), actV k at_ n c kv] w fun e w' => e = .returned (.int .i64 (actE lie.length ⟨k, at_, n, c, kl⟩)) ∧ Did w d g v lie ws ⟨k, at_, n, c, kl⟩ w' := by
  obtain ⟨W, hW⟩ : ∃ W, Hid (W = w.alloc (.cells #[.int .i64 k, .int .i64 at_, .int .i64 n, .int .u8 (c.toNat : Int), kv] 36)) := ⟨_, Lib.hid rfl⟩
  have hbW : Below w.heap.size w W := by rw [hW.out]; exact allocBelow w _
  have hall := fun i => (Whole.new w 36 [.int .i64 k, .int .i64 at_, .int .i64 n, .int .u8 (c.toNat : Int), kv]).cell i
  have c0 : W.cell? ⟨w.heap.size, 0, none⟩ = some (.int .i64 k) := by rw [hW.out]; exact hall 0
  have c1 : W.cell? ⟨w.heap.size, 1, none⟩ = some (.int .i64 at_) := by rw [hW.out]; exact hall 1
  have c2 : W.cell? ⟨w.heap.size, 2, none⟩ = some (.int .i64 n) := by rw [hW.out]; exact hall 2
  have c3 : W.cell? ⟨w.heap.size, 3, none⟩ = some (.int .u8 (c.toNat : Int)) := by rw [hW.out]; exact hall 3
  have c4 : W.cell? ⟨w.heap.size, 4, none⟩ = some kv := by rw [hW.out]; exact hall 4
  clear hall
  have hkW : Keeps W kv kl := hkl.below hbW
  have hd := Lib.hid (h.below hbW)
  have hbox : ¬ mine d g v w.heap.size := by
    rintro (e | e | e)
    · have := h.obj.lt; omega
    · have := h.lying.lt; omega
    · have := h.own_lt _ e; omega
  replace hkW := Lib.hid hkW
  replace hkn := Lib.hid hkn
  clear hkl
  obtain ⟨E, hE⟩ : ∃ E, Hid (actE lie.length ⟨k, at_, n, c, kl⟩ = E) := ⟨_, Lib.hid rfl⟩
  rw [hE.out]
  by_cases k0 : k = 0
  · subst k0
    have hlt : w.heap.size < W.heap.size := World.block_lt_of_cell? W _ c0
    go_enter Try.func18, Try.ntmps18
    go_wp2_with fail
    rw [← hW.out]
    clear hW
    go_region_held3 (fun w' => w'.cell? ⟨w.heap.size, 0, none⟩ = some (.int .i64 0) ∧ w'.cell? ⟨w.heap.size, 1, none⟩ = some (.int .i64 at_) ∧ w'.cell? ⟨w.heap.size, 2, none⟩ = some (.int .i64 n) ∧ w'.cell? ⟨w.heap.size, 3, none⟩ = some (.int .u8 (c.toNat : Int)) ∧ w'.cell? ⟨w.heap.size, 4, none⟩ = some kv) (go_keep) (first
      | (go_at_call 55; (with_reducible refine (text_any 0 at_ n c kv _).mono ?_); rintro e w2 ⟨T, rfl, hT, hb2⟩; have d0 := keepCell hb2 c0; have d1 := keepCell hb2 c1; have d2 := keepCell hb2 c2; have d3 := keepCell hb2 c3; have d4 := keepCell hb2 c4; replace hT := Lib.hid hT; have hd2 := Lib.hid (hd.out.below (below_of_drew hb2)))
      | (go_at_call 51; (with_reducible refine (write_any d g v lie ws _ at_ n c T hd2.out hT.out hfew kl).mono ?_); rintro e w3 ⟨rfl, hdid⟩; rw [hE.out]; have hk3 := hdid.kept; have hlt2 : w.heap.size < w2.heap.size := Nat.lt_of_lt_of_le hlt (below_of_drew hb2).size; have e0 := (hk3.cell hlt2 hbox 0).trans d0; have e1 := (hk3.cell hlt2 hbox 1).trans d1; have e2 := (hk3.cell hlt2 hbox 2).trans d2; have e3 := (hk3.cell hlt2 hbox 3).trans d3; have e4 := (hk3.cell hlt2 hbox 4).trans d4; replace hdid := Lib.hid hdid))
    have hb2W : Below W.heap.size W w2 := below_of_drew hb2
    have hdid1 := Lib.hid (Turned.first hbW (Turned.first hb2W hdid.out))
    clear hE
    go_wp2_with fail
    go_ret
    exact ⟨rfl, hdid1.out⟩
  · have b0 : (k == 0) = false := by rw [beq_eq_false_iff_ne]; exact k0
    by_cases k1 : k = 1
    · subst k1
      go_enter Try.func18, Try.ntmps18
      go_wp2_with (with_reducible refine stopLoad 3 _ rfl ?_)
      rw [← hW.out]
      clear hW
      refine Lib.hid ?_
      go_wp2_with fail
      refine (flush_any d g v lie ws _ at_ n c hd.out hbig hfew kl).mono ?_
      rintro e w1 ⟨rfl, hdid⟩
      rw [hE.out]
      have hdid1 := Lib.hid (Turned.first hbW hdid)
      clear hE hdid
      go_wp2_with fail
      go_ret
      exact ⟨rfl, hdid1.out⟩
    · have b1 : (k == 1) = false := by rw [beq_eq_false_iff_ne]; exact k1
      by_cases k2 : k = 2
      · subst k2
        go_enter Try.func18, Try.ntmps18
        go_wp2_with (with_reducible refine stopLoad 3 _ rfl ?_)
        rw [← hW.out]
        clear hW
        refine Lib.hid ?_
        go_wp2_with fail
        refine (crash_any d g v lie ws _ at_ n c kv kl hd.out hbig hfew hkW.out hkn.out hks).mono ?_
        rintro e w1 ⟨rfl, hdid⟩
        rw [hE.out]
        have hdid1 := Lib.hid (Turned.first hbW hdid)
        clear hE hdid
        go_wp2_with fail
        go_ret
        exact ⟨rfl, hdid1.out⟩
      · have b2 : (k == 2) = false := by rw [beq_eq_false_iff_ne]; exact k2
        have hE2 : (if 0 ≤ at_ ∧ at_ < lie.length then (0 : Int) else 20) = E := by
          rw [← hE.out]; simp [actE, k0, k1, k2]
        have hL : actL lie ws ⟨k, at_, n, c, kl⟩ = lie := by simp [actL, k1, k2]
        have hWs : actW lie.length ws ⟨k, at_, n, c, kl⟩ = ws := by simp [actW, k0, k1, k2]
        have hfin : Hid (Did w d g v lie ws ⟨k, at_, n, c, kl⟩ W) := by unfold Did; rw [hL, hWs]; exact Lib.hid (Turned.stay h hbW)
        replace hE2 := Lib.hid hE2
        clear hE hL hWs
        go_enter Try.func18, Try.ntmps18
        go_wp2_with (with_reducible refine stopLoad 3 _ rfl ?_)
        rw [← hW.out]
        clear hW
        refine Lib.hid ?_
        go_wp2_with fail
        refine (read_any d g v lie ws _ at_ hd.out hfew).mono ?_
        rintro e w1 ⟨s, rfl, rfl⟩
        rw [hE2.out]
        go_wp2_with fail
        go_ret
        exact ⟨rfl, hfin.out⟩
end
end Go.Proofs.Ytgomhnclmacleaa.D
