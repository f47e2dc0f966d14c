/- Is just so much left of each rule? -/
import Derived.Test.YtdagbepjhbmlfaaProg
import Derived.Test.YtdagbepjhbmlfaaSpent
import Derived.Deep.RegionHeld3
import Derived.Deep.DrawnRows
namespace Go.Proofs.Ytdagbepjhbmlfaa.Q
open Go.RowKit
open Go.Proofs.Ytdagbepjhbmlfaa.Z
open Go.Proofs.Ytdagbepjhbmlfaa.D (Whole Kept Even own_of_kept)
open Go.Proofs.Ytdagbepjhbmlfaa.L (ret_bool ret_i64)
set_option linter.unusedVariables false
attribute [local go_sem ↓] Go.wp_at_zero Go.wp_at_succ

theorem Deeds.kept {own : Nat → Prop} {w w' : World} {B : Nat} {v : Value} {ds : List (Nat × Nat)} (h : Deeds w B v ds) (hk : Kept own w w') (ho : ∀ k, v.ownBlock = some k → ¬ own k) : Deeds w' B v ds := own_of_kept h hk ho
theorem Deeds.below {w w' : World} {B : Nat} {v : Value} {ds : List (Nat × Nat)} (h : Deeds w B v ds) (hb : Below w.heap.size w w') : Deeds w' B v ds := own_of_kept h (Kept.of_below (own := fun _ => False) hb) (fun _ _ h => h)
set_option maxHeartbeats 4000000 in
set_option maxRecDepth 100000 in
theorem lefts_any (B g p n : Nat) (r : Nat → Rule1) (win tick : Nat) (sp : Nat → Nat) (a : Option Addr) (cap B2 : Nat) (v : Value) (ds : List (Nat × Nat)) (now : Nat) (w : World)
    (hL : Led w B g p n r win tick sp) (hR : Rls w a n cap r) (hD : Deeds w B2 v ds) (hB2 : B2 ≤ w.heap.size) (hl : ds.length ≤ 100) (hnow : now ≤ 100) (hd : ∀ d ∈ ds, d.1 ≤ 100 ∧ d.2 ≤ 100) (hsp : ∀ i, i < n → spentN win now i ds = sp i) :
    Calls Try.prog 42 #[.pointer (some ⟨g, 0, none⟩), .slice a n cap, v, .int .i64 win, .int .i64 now] w fun e w' => e = .returned (.bool true) ∧ Below w.heap.size w w' := by
  have hm := hR.max
  have hle := hR.le
  unfold maxLen at hm
  have hf := hL.pol.few
  have hw := hL.wins
  obtain ⟨va, vc, rfl, _⟩ := hD.form
  obtain ⟨dn, hdn⟩ : ∃ dn, Hid (ds.length = dn) := ⟨_, Lib.hid rfl⟩
  have hspA := Lib.hid (fun (i : Nat) (hi : i < n) (wx : World) (hb : Below w.heap.size w wx) => spent_any B2 _ ds i win now wx (hD.below hb) (Nat.le_trans hB2 hb.size) hl hw.1 hw.2 hnow (by omega) hd)
  rw [hdn.out] at hspA ⊢
  have hlf := Lib.hid (fun (i : Nat) (hi : i < n) (wx : World) (hb : Below w.heap.size w wx) => left_in B g p n r win tick sp wx i (hL.below hb) hi)
  have hlo := Lib.hid (fun (i : Int) (hi : i < 0 ∨ n ≤ i) (wx : World) (hb : Below w.heap.size w wx) => left_out B g p n r win tick sp wx i (hL.below hb) hi)
  replace hsp := Lib.hid hsp
  have hbud := Lib.hid (fun i (hi : i < n) => And.intro (hL.pol.buds i hi) (hL.spent i hi))
  replace hR := Lib.hid hR
  clear hL hD hd hw
  go_enter Try.func42, Try.ntmps42
  go_wp2_with fail
  go_loopg [15] n (fun ga i wr => ∃ k : Nat, k ≤ n ∧ n ≤ k + ga ∧ i = .int .i64 k ∧ Hid (Below w.heap.size w wr))
  case atStart => exact ⟨0, by omega, by omega, rfl, Lib.hid (Below.refl _ _)⟩
  case round =>
    obtain ⟨k, hk, hg, rfl, hb⟩ := hrel
    by_cases hlt : k < n
    · obtain ⟨b, o, rfl, c0, c1, c2⟩ := (hR.out.below hb.out).cell k hlt
      obtain ⟨W2, hW2⟩ : ∃ W, Hid (W = wr.alloc (.cells #[.int .i64 (r k).from_, .int .i64 (r k).to, .int .i64 (r k).bud] 69)) := ⟨_, Lib.hid rfl⟩
      have hbw : Below wr.heap.size wr W2 := by rw [hW2.out]; exact allocB wr _
      have v2 : W2.cell? ⟨wr.heap.size, 2, none⟩ = some (.int .i64 (r k).bud) := by rw [hW2.out]; exact (Whole.new wr 69 [.int .i64 (r k).from_, .int .i64 (r k).to, .int .i64 (r k).bud]).cell 2
      have hb2 := hb.out.trans (hbw.mono hb.out.size)
      have k1 := Lib.hid (hlf.out k hlt)
      have k2 := Lib.hid (hspA.out k hlt)
      have hbk := hbud.out k hlt
      rw [hsp.out k hlt] at k2
      clear hb hbw
      obtain ⟨f, hf'⟩ : ∃ f, Hid ((r k).from_ = f) := ⟨_, Lib.hid rfl⟩
      obtain ⟨t, ht⟩ : ∃ t, Hid ((r k).to = t) := ⟨_, Lib.hid rfl⟩
      obtain ⟨bd, hbd⟩ : ∃ bd, Hid ((r k).bud = bd) := ⟨_, Lib.hid rfl⟩
      obtain ⟨S, hS⟩ : ∃ S, Hid (sp k = S) := ⟨_, Lib.hid rfl⟩
      rw [hf'.out] at c0
      rw [ht.out] at c1
      rw [hbd.out] at c2 v2 hbk k1
      rw [hS.out] at k1 k2 hbk
      rw [hf'.out, ht.out, hbd.out] at hW2
      have hne : ((bd - (S : Int)) != (bd - (S : Int))) = false := by simp
      have hwr : IntKind.i64.wrap (bd - (S : Int)) = bd - (S : Int) := IntWalk.i64_in _ (by omega)
      obtain ⟨vb, hvb⟩ : ∃ vb, Hid (wr.heap.size = vb) := ⟨_, Lib.hid rfl⟩
      rw [hvb.out] at v2
      clear hf' ht hbd hS
      go_wp2_with fail
      rw [← hW2.out, hvb.out]
      clear hW2 c0 c1 c2 hvb
      have hb2d : Below w.heap.size w W2.drew := drewB hb2 1
      have v2d : W2.drew.cell? ⟨vb, 2, none⟩ = some (.int .i64 bd) := v2
      go_region_held3 (fun w' => w'.cell? ⟨vb, 2, none⟩ = some (.int .i64 bd)) (go_keep) (first
        | (go_at_call 43; (with_reducible refine (k1.out _ hb2d).mono ?_); rintro e w5 ⟨rfl, hb5⟩; have v5 := keepC hb5 v2d; have hb6 := hb2d.trans (hb5.mono hb2d.size))
        | (go_at_call 41; (with_reducible refine (k2.out _ hb6).mono ?_); rintro e w7 ⟨rfl, hb7⟩; have v7 := keepC hb7 v5))
      have hb8 := Lib.hid (hb6.trans (hb7.mono hb6.size))
      clear v2 v2d v5 v7 hb5 hb6 hb7 hb2 hb2d k1 k2
      go_wp2_with fail
      go_roundg (gk - 1)
      case measure => omega
      case rel => exact ⟨k + 1, by omega, by omega, by go_num, hb8⟩
    · obtain rfl : k = n := by omega
      go_wp2_with fail
      refine (hlo.out (-1) (.inl (by decide)) _ hb.out).mono ?_
      rintro e w5 ⟨rfl, rfl⟩
      go_wp2_with fail
      refine (hlo.out (k : Int) (.inr (Int.le_refl _)) _ hb.out).mono ?_
      rintro e w5 ⟨rfl, rfl⟩
      go_wp2_with fail
      go_ret
      exact ⟨rfl, hb.out⟩
end Go.Proofs.Ytdagbepjhbmlfaa.Q
