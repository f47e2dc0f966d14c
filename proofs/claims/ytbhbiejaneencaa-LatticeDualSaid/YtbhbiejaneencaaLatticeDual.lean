/- For every table of bools the law LatticeDual returns true: a label is below another one just if that is above it; all are above the bottom, and below the top. No condition. -/
import Derived.Test.YtbhbiejaneencaaRows
import Derived.Test.YtbhbiejaneencaaFour
import Derived.Test.YtbhbiejaneencaaGrid
import Derived.Test.YtbhbiejaneencaaSqTop
import Derived.Deep.RegionHeld3
import Derived.ChangeOld
import Derived.ShutString
namespace Go.Proofs.Ytbhbiejaneencaa.latticeDual
open Go.ChangeShapes Go.WideShapes Go.ChangeAt Go.RowKit
open Go.ChangeMaps (open_string shut_string)
open Go.Proofs.Ytbhbiejaneencaa.L
set_option linter.unusedVariables false
attribute [local go_sem ↓] Go.wp_at_zero Go.wp_at_succ

theorem latDrew {w : World} {p n : Nat} {F : Nat → Nat → Bool} (h : Lat w p n F) : Lat w.drew p n F := ⟨h.small, h.size, h.flows⟩
theorem belowDrew {B : Nat} {a w : World} (h : Below B a w) : Below B a w.drew := ⟨h.os, h.tape, h.output, h.size, h.block⟩
theorem pick_mem {n b : Nat} {p : Nat → Bool} (hb : b < n) : (pick n p).contains b = p b := by
  rw [Bool.eq_iff_iff]
  simp [pick, hb]
theorem pick_lt {n : Nat} {p : Nat → Bool} (h : n ≤ 6) : ∀ x ∈ pick n p, x < 6 := fun x hx => by
  simp [pick] at hx; omega
theorem top_is {n : Nat} {F : Nat → Nat → Bool} (h : IsLat n F) (h0 : 0 < n) : ∃ c, c < n ∧ ∀ j, j < n → F j c = true := by
  have : ∀ m, m ≤ n → ∃ c, c < n ∧ ∀ j, j < m → F j c = true := by
    intro m
    induction m with
    | zero => exact fun _ => ⟨0, h0, fun j hj => by omega⟩
    | succ m ih =>
      intro hm
      obtain ⟨c, hc, hall⟩ := ih (by omega)
      obtain ⟨j1, j2, j3, _⟩ := J_spec h hc (show m < n by omega)
      refine ⟨J n F c m, j1, fun j hj => ?_⟩
      rcases Nat.lt_or_ge j m with h1 | h1
      · exact h.trans j c _ (by omega) hc j1 (hall j h1) j2
      · obtain rfl : j = m := by omega
        exact j3
  exact this n (Nat.le_refl n)
theorem end_is {n : Nat} {F : Nat → Nat → Bool} (h : IsLat n F) (h0 : 0 < n) : ∃ c, c < n ∧ endI n (turn F) = c ∧ (pick n (turn F c)).length = n := by
  obtain ⟨c, hc, hall⟩ := top_is h h0
  exact ⟨c, hc, endI_of (end_unique h hc hall), pick_all.2 (allB_true fun j hj => hall j hj)⟩

set_option maxRecDepth 100000 in
set_option maxHeartbeats 4000000 in
theorem walk (a : Option Addr) (len cap : Nat) (A : Nat → Option Addr) (L C : Nat → Nat) (B : Nat → Nat → Bool) (w : World) (h : Tab w a len A L C B) :
    Calls Try.prog 12 #[.slice a len cap] w fun e w' => e = .returned (.bool true) ∧ Below w.heap.size w w' := by
  cases hl : largeB len L <;> replace hl := Lib.hid hl
  · go_enter Try.func12, Try.ntmps12
    go_wp2_with fail
    refine (large_any a len cap A L C B _ h).mono ?_
    rintro e w1 ⟨rfl, rfl⟩
    rw [hl.out]
    go_wp2_with fail
    refine (wrong_any a len cap A L C B _ h).mono ?_
    rintro e w1 ⟨rfl, hb1⟩
    have hT := h.below hb1
    by_cases h0 : wrongN len L B = 0
    · obtain ⟨hsq, hlat⟩ := isLat_of h0
      rw [h0]
      replace h0 := Lib.hid h0
      go_wp2_with fail
      refine (new_any a len cap A L C B _ hT).mono ?_
      rintro e W hnew
      rcases hnew with ⟨hne, -, -⟩ | ⟨-, p, rfl, hF, hb2⟩
      · exact absurd h0.out hne
      have hbW := hb1.trans (hb2.mono hb1.size)
      have hs := hF.lat.small
      obtain ⟨bk, off, rfl, hpos, hS⟩ := (hT.below hb2).square hsq
      obtain ⟨R, O, C2, hr, he⟩ := hS.rows
      replace hr := Lib.hid hr
      replace he := Lib.hid he
      have hLat := hF.lat
      have hLp := hLat.lt
      clear hb1 hb2 hT hsq h0 hl h hS hF
      obtain ⟨ctop, ht1, ht2, ht3⟩ := end_is hlat hpos
      obtain ⟨cbot, hu1, hu2, hu3⟩ := end_is hlat.dual hpos
      rw [turn_turn] at hu2 hu3
      replace ht2 := Lib.hid ht2
      replace ht3 := Lib.hid ht3
      replace hu2 := Lib.hid hu2
      replace hu3 := Lib.hid hu3
      go_wp2_with fail
      go_loopg [24] len (fun g i wr => ∃ k : Nat, k ≤ len ∧ len ≤ k + g ∧ i = .int .i64 k ∧ Below W.heap.size W wr)
      case atStart => exact ⟨0, by omega, by omega, rfl, Below.refl _ _⟩
      case round =>
        obtain ⟨k, hk, hg, rfl, hbr⟩ := hrel
        by_cases hkn : k < len
        · generalize gk = gout at *
          go_wp2_with fail
          go_loopg [28] len (fun g i wr => ∃ l : Nat, l ≤ len ∧ len ≤ l + g ∧ i = .int .i64 l ∧ Below W.heap.size W wr)
          case atStart => exact ⟨0, by omega, by omega, rfl, hbr⟩
          case round =>
            clear hbr
            obtain ⟨l, hl, hgl, rfl, hbr⟩ := hrel
            by_cases hln : l < len
            · have hL := hLat.below hbr hLp
              have e1 := keepCell hbr (hr.out k hkn)
              have e2 := keepCell hbr (he.out k l hkn hln)
              have hk1 : (k : Int) < (len : Int) := by omega
              have hl1 : (l : Int) < (len : Int) := by omega
              have hm1 := Lib.hid (pick_mem (p := turn B k) hln)
              have hm2 := Lib.hid (pick_mem (p := B l) hkn)
              have hm3 := Lib.hid (pick_mem (p := B k) hln)
              obtain ⟨v, hv⟩ : ∃ v, Hid (B k l = v) := ⟨_, Lib.hid rfl⟩
              obtain ⟨u, hu⟩ : ∃ u, Hid (B l k = u) := ⟨_, Lib.hid rfl⟩
              rw [hv.out] at e2
              go_wp2_with fail
              go_region_held3 (fun w' => w'.cell? ⟨bk, off + k, none⟩ = some (.slice (some ⟨R k, O k, none⟩) len (C2 k)) ∧ w'.cell? ⟨R k, O k + l, none⟩ = some (.bool v)) (go_keep) (first
                | (go_at_call 46; refine (below_in p len k B _ (latDrew hL) hkn).mono ?_; rintro e w1 ⟨A1, d1, rfl, hi1, hb1⟩; have hL1 := (latDrew hL).below hb1 hL.lt; have e11 := keepCell hb1 e1; have e21 := keepCell hb1 e2; have hbr1 := (belowDrew hbr).trans (hb1.mono (belowDrew hbr).size))
                | (go_at_call 48; (with_reducible refine (in_any A1 d1 l _ _ hi1 (Nat.le_trans (pick_len _ _) hs) (by omega) (pick_lt hs)).mono ?_); rintro e w2 ⟨rfl, rfl⟩; rw [hm1.out, show turn B k l = u from hu.out])
                | (go_at_call 44; (with_reducible refine (above_in p len l B _ hL1 hln).mono ?_); rintro e w3 ⟨A2, d2, rfl, hi2, hb2⟩; have hL2 := hL1.below hb2 hL1.lt; have e12 := keepCell hb2 e11; have e22 := keepCell hb2 e21; have hbr2 := hbr1.trans (hb2.mono hbr1.size))
                | (go_at_call 48; (with_reducible refine (in_any A2 d2 k _ _ hi2 (Nat.le_trans (pick_len _ _) hs) (by omega) (pick_lt hs)).mono ?_); rintro e w4 ⟨rfl, rfl⟩; rw [hm2.out, hu.out])
                | (go_at_call 44; (with_reducible refine (above_in p len k B _ hL2 hkn).mono ?_); rintro e w5 ⟨A3, d3, rfl, hi3, hb3⟩; have e13 := keepCell hb3 e12; have e23 := keepCell hb3 e22; have hbr3 := hbr2.trans (hb3.mono hbr2.size))
                | (go_at_call 48; (with_reducible refine (in_any A3 d3 l _ _ hi3 (Nat.le_trans (pick_len _ _) hs) (by omega) (pick_lt hs)).mono ?_); rintro e w6 ⟨rfl, rfl⟩; rw [hm3.out, hv.out]))
              go_wp2_with fail
              go_roundg (gk - 1)
              case measure => omega
              case rel => exact ⟨l + 1, by omega, by omega, by go_num, hbr3⟩
            · obtain rfl : l = len := by omega
              go_wp2_with fail
              go_roundg (gout - 1)
              case measure => omega
              case rel => exact ⟨k + 1, by omega, by omega, by go_num, hbr⟩
        · obtain rfl : k = len := by omega
          have hL := hLat.below hbr hLp
          go_wp2_with fail
          refine (bottom_in p k B _ hL).mono ?_
          rintro e w1 ⟨rfl, hb1⟩
          rw [hu2.out]
          have hL1 := hL.below hb1 hL.lt
          have hbr1 := hbr.trans (hb1.mono hbr.size)
          go_wp2_with fail
          refine (above_in p k cbot B _ hL1 hu1).mono ?_
          rintro e w2 ⟨A1, d1, rfl, -, hb2⟩
          rw [hu3.out]
          have hL2 := hL1.below hb2 hL1.lt
          have hbr2 := hbr1.trans (hb2.mono hbr1.size)
          go_wp2_with fail
          refine (top_in p k B _ hL2).mono ?_
          rintro e w3 ⟨rfl, hb3⟩
          rw [ht2.out]
          have hL3 := hL2.below hb3 hL2.lt
          have hbr3 := hbr2.trans (hb3.mono hbr2.size)
          go_wp2_with fail
          refine (below_in p k ctop B _ hL3 ht1).mono ?_
          rintro e w4 ⟨A2, d2, rfl, -, hb4⟩
          rw [ht3.out]
          have hbr4 := hbr3.trans (hb4.mono hbr3.size)
          go_wp2_with fail
          refine (four_any _).mono ?_
          rintro e w5 ⟨rfl, hb5⟩
          go_wp2_with fail
          go_ret
          have hall := hbW.trans (hbr4.mono hbW.size)
          exact ⟨rfl, hall.trans (hb5.mono hall.size)⟩
    · have hb2 : ((wrongN len L B : Int) != 0) = true := by rw [bne_iff_ne]; omega
      clear h0
      go_wp2_with fail
      refine (four_any _).mono ?_
      rintro e w2 ⟨rfl, hb⟩
      go_wp2_with fail
      go_ret
      exact ⟨rfl, hb1.trans (hb.mono hb1.size)⟩
  · go_enter Try.func12, Try.ntmps12
    go_wp2_with fail
    refine (large_any a len cap A L C B _ h).mono ?_
    rintro e w1 ⟨rfl, rfl⟩
    rw [hl.out]
    go_wp2_with fail
    refine (four_any _).mono ?_
    rintro e w1 ⟨rfl, hb⟩
    go_wp2_with fail
    go_ret
    exact ⟨rfl, hb⟩

theorem own : ownKnob Try.prog.godebug = none := by kernel_rfl
theorem laidOut : laidOutB Try.prog = true := by kernel_rfl

set_option maxRecDepth 100000 in
theorem lifted (os : Os) (started : os.Started) (H : Type) (enc : TypeId × Value → H) :
    ReturnsInHanded {} Try.checked os 12 .any (Rows.latticeDualSpec.pre6 enc Try.prog Try.f12 Rows.latticeDualRow.domain false) (Rows.latticeDualSpec.post enc Try.prog Try.f12 false true false false) := by
  refine returnsInHanded_of_change (C := Try.checked) own started (by kernel_rfl) Try.func12
    (ChangeSpec.witness6 (enc := enc) (C := Try.checked) false ⟨#[], #[.slice none 0 0], []⟩ 8 (by kernel_rfl) (by kernel_rfl) (by kernel_rfl) (by kernel_rfl)) ?_
  intro W base args ds gs before hval0 hW hcnd _
  have hval : ∀ (j : Nat) t v, Try.f12.params[j]? = some t → args[j]? = some v → Value.okWide Try.prog W .any base t v := hval0
  have hW' := hW
  obtain ⟨p, q, hA0, hV, rfl, hfz, hnd⟩ := hW
  have hA : DataW.TrodAll enc Try.prog W 0 (fun _ => true) true Try.f12.params.toList args.toList ds p := hA0
  rw [Try.params12] at hA hval
  obtain ⟨v0, vs0, d0, ds0, p0, q0, hargs, rfl, rfl, h0, r0⟩ := trodAll_cons hA
  obtain ⟨rfl, rfl, rfl⟩ := trodAll_nil r0
  obtain rfl : args = #[v0] := by cases args; simp_all
  obtain ⟨rfl, rfl⟩ := trodVars_none hV
  obtain ⟨a0, len0, cap0, rfl⟩ := okWide_slice Try.underlying57 (hval 0 57 v0 rfl rfl)
  have k0 := h0
  have lt0 : ∀ x ∈ p0, x.block < W.heap.size := by obtain ⟨m, hm⟩ := k0; exact DataW.trod_lt m _ _ _ hm
  obtain ⟨A0, L0, C0, B0, w0⟩ := L.open_grid Try.underlying57 Try.underlying68 Try.underlying4 (by kernel_rfl) (by kernel_rfl) h0
  clear hA0 hval0
  refine (walk a0 len0 cap0 A0 L0 C0 B0 W w0).mono fun e W' ⟨he, bel⟩ => ?_
  subst he
  exact ⟨_, rfl, _, _, _, [], _, [], hW', trodAll_mk1 (shut_bool Try.underlying4 _), (trodAll_cons_mk (Below.trod laidOut (by kernel_rfl) (of_decide_eq_true (by kernel_rfl)) k0 bel lt0) trodAll_mk0), rfl, bel.frame _, fun h => by cases h⟩

theorem over : Rows.latticeDualRow.holds Try.pinned (OpenSpec.ofChange Rows.latticeDualSpec) :=
  OpenClaim.holds_of_wide 12 Try.f12 rfl rfl rfl rfl rfl rfl rfl ⟨rfl, rfl, rfl, rfl, rfl⟩ rfl rfl rfl rfl rfl (by kernel_rfl) Try.func12 (by kernel_rfl)
    (of_decide_eq_true (by kernel_rfl)) (by unfold Func.isWrapper; first | (rw [if_pos (by decide +kernel)]; kernel_rfl) | (rw [if_neg (by decide +kernel)]; exact ⟨rfl, rfl⟩))
    (fun os started H enc _ => lifted os started H enc)

/-- The statement. -/
theorem proved : Rows.LatticeDualSaid := over
#print axioms proved

end Go.Proofs.Ytbhbiejaneencaa.latticeDual
