/- For every epoch and number the law PoolStamps returns true: no two stamps that a pool tells are alike; free ones and all logs' are all segments. No condition. -/
import Derived.Test.YtoegohofmhijgaaRows
import Derived.Test.YtoegohofmhijgaaPlE
import Derived.ChangeOld
import Derived.ShutString
import Derived.Deep.LoopGhost
namespace Go.Proofs.Ytoegohofmhijgaa.poolStamps
open Go.ChangeShapes Go.WideShapes Go.ChangeAt Go.RowKit
open Go.Proofs.Ytoegohofmhijgaa.M (grew grewAlloc okG)
open Go.Proofs.Ytoegohofmhijgaa.W Go.Proofs.Ytoegohofmhijgaa.D
set_option linter.unusedVariables false

set_option maxRecDepth 100000 in
set_option maxHeartbeats 8000000 in
theorem walk (e n : Int) (w : World) (_ : (Lit.int .i64 e).wf = true) (wn : (Lit.int .u32 n).wf = true) :
    Calls Try.prog 4 #[.int .i64 e, .int .u32 n] w fun x w' => x = .returned (.bool true) ∧ Below w.heap.size w w' := by
  by_cases hin : 0 ≤ e ∧ e ≤ 65535
  · have hnb : 0 ≤ n ∧ n ≤ 4294967295 := by
      have hb : IntKind.u32.min ≤ n ∧ n ≤ IntKind.u32.max := by simpa [Lit.wf] using wn
      have q1 : IntKind.u32.min = 0 := by decide
      have q2 : IntKind.u32.max = 4294967295 := by decide
      rw [q1, q2] at hb
      exact hb
    obtain ⟨ep, rfl⟩ : ∃ p : Nat, e = (p : Int) := ⟨e.toNat, by omega⟩
    obtain ⟨nn, rfl⟩ : ∃ p : Nat, n = (p : Int) := ⟨n.toNat, by omega⟩
    have he : ep < 65536 := by omega
    have i1 : decide ((ep : Int) < 0) = false := by simp
    have i2 : decide (65535 < (ep : Int)) = false := by simp; omega
    have hn : Hid (∀ W : World, Calls Try.prog 8 #[.int .i64 7, .int .i64 (ep : Int)] W fun x w' => x = .returned (.tuple #[.pointer (some ⟨W.heap.size + 1, 0, none⟩), .int .i64 0]) ∧ Pl w' (W.heap.size + 1) W.heap.size (zeroL 7) ep 0 ∧ Below W.heap.size W w') := Lib.hid (fun W => pnew_yes 7 ep W (by decide) (by decide) he)
    clear hin wn
    go_enter Try.func4, Try.ntmps4
    go_wp2_with fail
    refine (hn.out _).mono ?_
    rintro ee w1 ⟨rfl, hp, hb⟩
    generalize hq : w.heap.size = q at *
    replace hp := Lib.hid hp
    replace hb := Lib.hid hb
    go_wp2_with fail
    obtain ⟨M, hM⟩ : ∃ M : Nat, Hid (nn % 300 + 1 = M) := ⟨_, Lib.hid rfl⟩
    have hM2 : M ≤ 300 := by have := hM.out; omega
    rw [show ((nn : Int) % 300 + 1) = (M : Int) from by have := hM.out; omega]
    have ht : Hid (∀ (W : World) (b a ct : Nat) (g : Int), okG g = true → Pl W b a (zeroL 7) ep ct → ct < 65536 → Calls Try.prog 11 #[.pointer (some ⟨b, 0, none⟩), .int .i64 g] W fun e w' => e = .returned (.tuple #[.int .i64 0, .int .u32 ((65536 * ep + ct : Nat) : Int), .int .i64 0]) ∧ Pl w' b a (oneL 7 g) ep (ct + 1) ∧ Kept (Own2 b a) W w') := Lib.hid (fun W b a ct g hg h hc => zero_calls 7 ep (by decide) (by decide) he g hg h hc)
    have hf : Hid (∀ (W : World) (b a ct : Nat), Pl W b a (zeroL 7) ep ct → Calls Try.prog 21 #[.pointer (some ⟨b, 0, none⟩)] W fun e w' => e = .returned (.int .i64 7) ∧ Below W.heap.size W w') := Lib.hid (fun W b a ct h => by
      have h1 := pfree_any h (by rw [zeroL_len]; decide)
      rw [zero_free] at h1
      exact h1)
    have of11 : Hid (∀ (W : World) (b a ct : Nat), Pl W b a (oneL 7 1) ep ct → Calls Try.prog 19 #[.pointer (some ⟨b, 0, none⟩), .int .i64 1] W fun e w' => ∃ A c, e = .returned (.slice A 1 c) ∧ Below W.heap.size W w') := Lib.hid (fun W b a ct hh => by
      refine (pof_any hh (by rw [oneL_len]; decide) (one_good 7 1 (by decide)) 1).mono ?_
      rintro e w' ⟨A, c, rfl, _, hb, _⟩
      exact ⟨A, c, by rw [one_of 7 1 1 (by decide) (by decide) (by decide)]; rfl, hb⟩)
    have of12 : Hid (∀ (W : World) (b a ct : Nat), Pl W b a (oneL 7 1) ep ct → Calls Try.prog 19 #[.pointer (some ⟨b, 0, none⟩), .int .i64 2] W fun e w' => ∃ A c, e = .returned (.slice A 0 c) ∧ Below W.heap.size W w') := Lib.hid (fun W b a ct hh => by
      refine (pof_any hh (by rw [oneL_len]; decide) (one_good 7 1 (by decide)) 2).mono ?_
      rintro e w' ⟨A, c, rfl, _, hb, _⟩
      exact ⟨A, c, by rw [one_of 7 1 2 (by decide) (by decide) (by decide)]; rfl, hb⟩)
    have of13 : Hid (∀ (W : World) (b a ct : Nat), Pl W b a (oneL 7 1) ep ct → Calls Try.prog 19 #[.pointer (some ⟨b, 0, none⟩), .int .i64 3] W fun e w' => ∃ A c, e = .returned (.slice A 0 c) ∧ Below W.heap.size W w') := Lib.hid (fun W b a ct hh => by
      refine (pof_any hh (by rw [oneL_len]; decide) (one_good 7 1 (by decide)) 3).mono ?_
      rintro e w' ⟨A, c, rfl, _, hb, _⟩
      exact ⟨A, c, by rw [one_of 7 1 3 (by decide) (by decide) (by decide)]; rfl, hb⟩)
    have fr1 : Hid (∀ (W : World) (b a ct : Nat), Pl W b a (oneL 7 1) ep ct → Calls Try.prog 21 #[.pointer (some ⟨b, 0, none⟩)] W fun e w' => e = .returned (.int .i64 6) ∧ Below W.heap.size W w') := Lib.hid (fun W b a ct h => by
      have h1 := pfree_any h (by rw [oneL_len]; decide)
      rw [one_free 7 1 (by decide) (by decide)] at h1
      exact h1)
    have gv1 : Hid (∀ (W : World) (b a ct : Nat), Pl W b a (oneL 7 1) ep ct → Calls Try.prog 16 #[.pointer (some ⟨b, 0, none⟩), .int .i64 0] W fun e w' => e = .returned (.int .i64 0) ∧ Pl w' b a (zeroL 7) ep ct ∧ Kept (Own2 b a) W w') := Lib.hid (fun W b a ct h => one_calls 7 ep (by decide) 1 (by decide) h)
    have of21 : Hid (∀ (W : World) (b a ct : Nat), Pl W b a (oneL 7 2) ep ct → Calls Try.prog 19 #[.pointer (some ⟨b, 0, none⟩), .int .i64 1] W fun e w' => ∃ A c, e = .returned (.slice A 0 c) ∧ Below W.heap.size W w') := Lib.hid (fun W b a ct hh => by
      refine (pof_any hh (by rw [oneL_len]; decide) (one_good 7 2 (by decide)) 1).mono ?_
      rintro e w' ⟨A, c, rfl, _, hb, _⟩
      exact ⟨A, c, by rw [one_of 7 2 1 (by decide) (by decide) (by decide)]; rfl, hb⟩)
    have of22 : Hid (∀ (W : World) (b a ct : Nat), Pl W b a (oneL 7 2) ep ct → Calls Try.prog 19 #[.pointer (some ⟨b, 0, none⟩), .int .i64 2] W fun e w' => ∃ A c, e = .returned (.slice A 1 c) ∧ Below W.heap.size W w') := Lib.hid (fun W b a ct hh => by
      refine (pof_any hh (by rw [oneL_len]; decide) (one_good 7 2 (by decide)) 2).mono ?_
      rintro e w' ⟨A, c, rfl, _, hb, _⟩
      exact ⟨A, c, by rw [one_of 7 2 2 (by decide) (by decide) (by decide)]; rfl, hb⟩)
    have of23 : Hid (∀ (W : World) (b a ct : Nat), Pl W b a (oneL 7 2) ep ct → Calls Try.prog 19 #[.pointer (some ⟨b, 0, none⟩), .int .i64 3] W fun e w' => ∃ A c, e = .returned (.slice A 0 c) ∧ Below W.heap.size W w') := Lib.hid (fun W b a ct hh => by
      refine (pof_any hh (by rw [oneL_len]; decide) (one_good 7 2 (by decide)) 3).mono ?_
      rintro e w' ⟨A, c, rfl, _, hb, _⟩
      exact ⟨A, c, by rw [one_of 7 2 3 (by decide) (by decide) (by decide)]; rfl, hb⟩)
    have fr2 : Hid (∀ (W : World) (b a ct : Nat), Pl W b a (oneL 7 2) ep ct → Calls Try.prog 21 #[.pointer (some ⟨b, 0, none⟩)] W fun e w' => e = .returned (.int .i64 6) ∧ Below W.heap.size W w') := Lib.hid (fun W b a ct h => by
      have h1 := pfree_any h (by rw [oneL_len]; decide)
      rw [one_free 7 2 (by decide) (by decide)] at h1
      exact h1)
    have gv2 : Hid (∀ (W : World) (b a ct : Nat), Pl W b a (oneL 7 2) ep ct → Calls Try.prog 16 #[.pointer (some ⟨b, 0, none⟩), .int .i64 0] W fun e w' => e = .returned (.int .i64 0) ∧ Pl w' b a (zeroL 7) ep ct ∧ Kept (Own2 b a) W w') := Lib.hid (fun W b a ct h => one_calls 7 ep (by decide) 2 (by decide) h)
    have of31 : Hid (∀ (W : World) (b a ct : Nat), Pl W b a (oneL 7 3) ep ct → Calls Try.prog 19 #[.pointer (some ⟨b, 0, none⟩), .int .i64 1] W fun e w' => ∃ A c, e = .returned (.slice A 0 c) ∧ Below W.heap.size W w') := Lib.hid (fun W b a ct hh => by
      refine (pof_any hh (by rw [oneL_len]; decide) (one_good 7 3 (by decide)) 1).mono ?_
      rintro e w' ⟨A, c, rfl, _, hb, _⟩
      exact ⟨A, c, by rw [one_of 7 3 1 (by decide) (by decide) (by decide)]; rfl, hb⟩)
    have of32 : Hid (∀ (W : World) (b a ct : Nat), Pl W b a (oneL 7 3) ep ct → Calls Try.prog 19 #[.pointer (some ⟨b, 0, none⟩), .int .i64 2] W fun e w' => ∃ A c, e = .returned (.slice A 0 c) ∧ Below W.heap.size W w') := Lib.hid (fun W b a ct hh => by
      refine (pof_any hh (by rw [oneL_len]; decide) (one_good 7 3 (by decide)) 2).mono ?_
      rintro e w' ⟨A, c, rfl, _, hb, _⟩
      exact ⟨A, c, by rw [one_of 7 3 2 (by decide) (by decide) (by decide)]; rfl, hb⟩)
    have of33 : Hid (∀ (W : World) (b a ct : Nat), Pl W b a (oneL 7 3) ep ct → Calls Try.prog 19 #[.pointer (some ⟨b, 0, none⟩), .int .i64 3] W fun e w' => ∃ A c, e = .returned (.slice A 1 c) ∧ Below W.heap.size W w') := Lib.hid (fun W b a ct hh => by
      refine (pof_any hh (by rw [oneL_len]; decide) (one_good 7 3 (by decide)) 3).mono ?_
      rintro e w' ⟨A, c, rfl, _, hb, _⟩
      exact ⟨A, c, by rw [one_of 7 3 3 (by decide) (by decide) (by decide)]; rfl, hb⟩)
    have fr3 : Hid (∀ (W : World) (b a ct : Nat), Pl W b a (oneL 7 3) ep ct → Calls Try.prog 21 #[.pointer (some ⟨b, 0, none⟩)] W fun e w' => e = .returned (.int .i64 6) ∧ Below W.heap.size W w') := Lib.hid (fun W b a ct h => by
      have h1 := pfree_any h (by rw [oneL_len]; decide)
      rw [one_free 7 3 (by decide) (by decide)] at h1
      exact h1)
    have gv3 : Hid (∀ (W : World) (b a ct : Nat), Pl W b a (oneL 7 3) ep ct → Calls Try.prog 16 #[.pointer (some ⟨b, 0, none⟩), .int .i64 0] W fun e w' => e = .returned (.int .i64 0) ∧ Pl w' b a (zeroL 7) ep ct ∧ Kept (Own2 b a) W w') := Lib.hid (fun W b a ct h => one_calls 7 ep (by decide) 3 (by decide) h)
    clear hn hnb
    generalize zeroL 7 = z at *
    go_loopg [7, 28] M (fun ga la i wr => ∃ k lv : Nat, k ≤ M ∧ M ≤ k + ga ∧ la = .int .u32 (lv : Int) ∧ i = .int .i64 k ∧ Hid (0 < k → lv + 1 = 65536 * ep + k) ∧ Hid (Pl wr (q + 1) q z ep k ∧ Below q w wr))
    case atStart => exact ⟨0, 0, by omega, by omega, rfl, rfl, Lib.hid (fun h => by omega), Lib.hid ⟨hp.out, hb.out⟩⟩
    case round =>
      clear hp hb
      obtain ⟨k, lv, hk, hgk, rfl, rfl, hlv, hrow⟩ := hrel
      by_cases hlt : k < M
      · have hl2 : (k : Int) < (M : Int) := by omega
        obtain ⟨v, hv⟩ : ∃ v : Nat, Hid (65536 * ep + k = v) := ⟨_, Lib.hid rfl⟩
        have v1 : 65536 * (ep : Int) + (k : Int) = (v : Int) := by have := hv.out; omega
        have v2 : v ≤ 4294967295 := by have := hv.out; omega
        have v3 : IntKind.i64.wrap (65536 * (ep : Int)) = 65536 * (ep : Int) := IntWalk.i64_in _ (by omega)
        have v4 : IntKind.i64.wrap (65536 * (ep : Int) + (k : Int)) = (v : Int) := (IntWalk.i64_in _ (by omega)).trans v1
        have v5 : IntKind.u32.wrap (65536 * (ep : Int) + (k : Int)) = (v : Int) := (IntWalk.u32_in _ (by omega)).trans v1
        have v6 : IntKind.u32.wrap (v : Int) = (v : Int) := IntWalk.u32_in _ (by omega)
        have n1 : ((v : Int) != (v : Int)) = false := by simp
        have n2 : ((v : Int) != 65536 * (ep : Int) + (k : Int)) = false := by simp; omega
        by_cases hk0 : k = 0
        · have k0 : decide ((0 : Int) < (k : Int)) = false := by simp; omega
          have m3 : (k : Int) % 3 = 0 := by omega
          clear hlv
          have ht2 := Lib.hid (ht.out wr (q + 1) q k 1 (by decide) hrow.out.1 (by omega))
          rw [hv.out] at ht2
          go_wp2_with fail
          refine ht2.out.mono ?_
          rintro ee w2 ⟨rfl, hp2, hk2⟩
          have hb2 := kept_pl hrow.out.2 (by have := hrow.out.2.size; omega) (by omega) (by omega) hk2
          replace hp2 := Lib.hid hp2
          replace hb2 := Lib.hid hb2
          clear hk2 ht2
          go_wp2_with fail
          refine (of11.out _ _ _ _ hp2.out).mono ?_
          rintro ee w3 ⟨A1, c1, rfl, hb3⟩
          replace hp2 := Lib.hid (hp2.out.grow hb3)
          replace hb2 := Lib.hid (hb2.out.trans (hb3.mono (by have := hb2.out.size; omega)))
          clear hb3
          go_wp2_with fail
          refine (of12.out _ _ _ _ hp2.out).mono ?_
          rintro ee w3 ⟨A2, c2, rfl, hb3⟩
          replace hp2 := Lib.hid (hp2.out.grow hb3)
          replace hb2 := Lib.hid (hb2.out.trans (hb3.mono (by have := hb2.out.size; omega)))
          clear hb3
          go_wp2_with fail
          refine (of13.out _ _ _ _ hp2.out).mono ?_
          rintro ee w3 ⟨A3, c3, rfl, hb3⟩
          replace hp2 := Lib.hid (hp2.out.grow hb3)
          replace hb2 := Lib.hid (hb2.out.trans (hb3.mono (by have := hb2.out.size; omega)))
          clear hb3
          go_wp2_with fail
          refine (fr1.out _ _ _ _ hp2.out).mono ?_
          rintro ee w4 ⟨rfl, hb3⟩
          replace hp2 := Lib.hid (hp2.out.grow hb3)
          replace hb2 := Lib.hid (hb2.out.trans (hb3.mono (by have := hb2.out.size; omega)))
          clear hb3
          go_wp2_with fail
          refine (gv1.out _ _ _ _ hp2.out).mono ?_
          rintro ee w5 ⟨rfl, hp3, hk3⟩
          have hb3 := kept_pl hb2.out (by have := hb2.out.size; omega) (by omega) (by omega) hk3
          replace hp3 := Lib.hid (And.intro hp3 hb3)
          clear hk3 hb3 hp2 hb2
          go_wp2_with fail
          go_roundg (gk - 1)
          case measure => omega
          case rel => exact ⟨k + 1, v, by omega, by omega, by first | rfl | (congr 1; omega), by go_num, Lib.hid (by have := hv.out; omega), hp3⟩
        · have hl3 := hlv.out (by omega)
          have hv2 := hv.out
          rcases (show (k : Int) % 3 = 0 ∨ (k : Int) % 3 = 1 ∨ (k : Int) % 3 = 2 by omega) with m3 | m3 | m3
          · have k0 : (0 : Int) < (k : Int) := by omega
            have y1 : IntKind.u32.wrap ((lv : Int) + 1) = (v : Int) := (IntWalk.u32_in _ (by omega)).trans (by omega)
            have y2 : ((v : Int) != (lv : Int) + 1) = false := by simp; omega
            have ht2 := Lib.hid (ht.out wr (q + 1) q k 1 (by decide) hrow.out.1 (by omega))
            rw [hv.out] at ht2
            go_wp2_with fail
            refine ht2.out.mono ?_
            rintro ee w2 ⟨rfl, hp2, hk2⟩
            have hb2 := kept_pl hrow.out.2 (by have := hrow.out.2.size; omega) (by omega) (by omega) hk2
            replace hp2 := Lib.hid hp2
            replace hb2 := Lib.hid hb2
            clear hk2 ht2
            go_wp2_with fail
            refine (of11.out _ _ _ _ hp2.out).mono ?_
            rintro ee w3 ⟨A1, c1, rfl, hb3⟩
            replace hp2 := Lib.hid (hp2.out.grow hb3)
            replace hb2 := Lib.hid (hb2.out.trans (hb3.mono (by have := hb2.out.size; omega)))
            clear hb3
            go_wp2_with fail
            refine (of12.out _ _ _ _ hp2.out).mono ?_
            rintro ee w3 ⟨A2, c2, rfl, hb3⟩
            replace hp2 := Lib.hid (hp2.out.grow hb3)
            replace hb2 := Lib.hid (hb2.out.trans (hb3.mono (by have := hb2.out.size; omega)))
            clear hb3
            go_wp2_with fail
            refine (of13.out _ _ _ _ hp2.out).mono ?_
            rintro ee w3 ⟨A3, c3, rfl, hb3⟩
            replace hp2 := Lib.hid (hp2.out.grow hb3)
            replace hb2 := Lib.hid (hb2.out.trans (hb3.mono (by have := hb2.out.size; omega)))
            clear hb3
            go_wp2_with fail
            refine (fr1.out _ _ _ _ hp2.out).mono ?_
            rintro ee w4 ⟨rfl, hb3⟩
            replace hp2 := Lib.hid (hp2.out.grow hb3)
            replace hb2 := Lib.hid (hb2.out.trans (hb3.mono (by have := hb2.out.size; omega)))
            clear hb3
            go_wp2_with fail
            refine (gv1.out _ _ _ _ hp2.out).mono ?_
            rintro ee w5 ⟨rfl, hp3, hk3⟩
            have hb3 := kept_pl hb2.out (by have := hb2.out.size; omega) (by omega) (by omega) hk3
            replace hp3 := Lib.hid (And.intro hp3 hb3)
            clear hk3 hb3 hp2 hb2
            go_wp2_with fail
            go_roundg (gk - 1)
            case measure => omega
            case rel => exact ⟨k + 1, v, by omega, by omega, by first | rfl | (congr 1; omega), by go_num, Lib.hid (by have := hv.out; omega), hp3⟩
          · have k0 : (0 : Int) < (k : Int) := by omega
            have y1 : IntKind.u32.wrap ((lv : Int) + 1) = (v : Int) := (IntWalk.u32_in _ (by omega)).trans (by omega)
            have y2 : ((v : Int) != (lv : Int) + 1) = false := by simp; omega
            have ht2 := Lib.hid (ht.out wr (q + 1) q k 2 (by decide) hrow.out.1 (by omega))
            rw [hv.out] at ht2
            go_wp2_with fail
            refine ht2.out.mono ?_
            rintro ee w2 ⟨rfl, hp2, hk2⟩
            have hb2 := kept_pl hrow.out.2 (by have := hrow.out.2.size; omega) (by omega) (by omega) hk2
            replace hp2 := Lib.hid hp2
            replace hb2 := Lib.hid hb2
            clear hk2 ht2
            go_wp2_with fail
            refine (of21.out _ _ _ _ hp2.out).mono ?_
            rintro ee w3 ⟨A1, c1, rfl, hb3⟩
            replace hp2 := Lib.hid (hp2.out.grow hb3)
            replace hb2 := Lib.hid (hb2.out.trans (hb3.mono (by have := hb2.out.size; omega)))
            clear hb3
            go_wp2_with fail
            refine (of22.out _ _ _ _ hp2.out).mono ?_
            rintro ee w3 ⟨A2, c2, rfl, hb3⟩
            replace hp2 := Lib.hid (hp2.out.grow hb3)
            replace hb2 := Lib.hid (hb2.out.trans (hb3.mono (by have := hb2.out.size; omega)))
            clear hb3
            go_wp2_with fail
            refine (of23.out _ _ _ _ hp2.out).mono ?_
            rintro ee w3 ⟨A3, c3, rfl, hb3⟩
            replace hp2 := Lib.hid (hp2.out.grow hb3)
            replace hb2 := Lib.hid (hb2.out.trans (hb3.mono (by have := hb2.out.size; omega)))
            clear hb3
            go_wp2_with fail
            refine (fr2.out _ _ _ _ hp2.out).mono ?_
            rintro ee w4 ⟨rfl, hb3⟩
            replace hp2 := Lib.hid (hp2.out.grow hb3)
            replace hb2 := Lib.hid (hb2.out.trans (hb3.mono (by have := hb2.out.size; omega)))
            clear hb3
            go_wp2_with fail
            refine (gv2.out _ _ _ _ hp2.out).mono ?_
            rintro ee w5 ⟨rfl, hp3, hk3⟩
            have hb3 := kept_pl hb2.out (by have := hb2.out.size; omega) (by omega) (by omega) hk3
            replace hp3 := Lib.hid (And.intro hp3 hb3)
            clear hk3 hb3 hp2 hb2
            go_wp2_with fail
            go_roundg (gk - 1)
            case measure => omega
            case rel => exact ⟨k + 1, v, by omega, by omega, by first | rfl | (congr 1; omega), by go_num, Lib.hid (by have := hv.out; omega), hp3⟩
          · have k0 : (0 : Int) < (k : Int) := by omega
            have y1 : IntKind.u32.wrap ((lv : Int) + 1) = (v : Int) := (IntWalk.u32_in _ (by omega)).trans (by omega)
            have y2 : ((v : Int) != (lv : Int) + 1) = false := by simp; omega
            have ht2 := Lib.hid (ht.out wr (q + 1) q k 3 (by decide) hrow.out.1 (by omega))
            rw [hv.out] at ht2
            go_wp2_with fail
            refine ht2.out.mono ?_
            rintro ee w2 ⟨rfl, hp2, hk2⟩
            have hb2 := kept_pl hrow.out.2 (by have := hrow.out.2.size; omega) (by omega) (by omega) hk2
            replace hp2 := Lib.hid hp2
            replace hb2 := Lib.hid hb2
            clear hk2 ht2
            go_wp2_with fail
            refine (of31.out _ _ _ _ hp2.out).mono ?_
            rintro ee w3 ⟨A1, c1, rfl, hb3⟩
            replace hp2 := Lib.hid (hp2.out.grow hb3)
            replace hb2 := Lib.hid (hb2.out.trans (hb3.mono (by have := hb2.out.size; omega)))
            clear hb3
            go_wp2_with fail
            refine (of32.out _ _ _ _ hp2.out).mono ?_
            rintro ee w3 ⟨A2, c2, rfl, hb3⟩
            replace hp2 := Lib.hid (hp2.out.grow hb3)
            replace hb2 := Lib.hid (hb2.out.trans (hb3.mono (by have := hb2.out.size; omega)))
            clear hb3
            go_wp2_with fail
            refine (of33.out _ _ _ _ hp2.out).mono ?_
            rintro ee w3 ⟨A3, c3, rfl, hb3⟩
            replace hp2 := Lib.hid (hp2.out.grow hb3)
            replace hb2 := Lib.hid (hb2.out.trans (hb3.mono (by have := hb2.out.size; omega)))
            clear hb3
            go_wp2_with fail
            refine (fr3.out _ _ _ _ hp2.out).mono ?_
            rintro ee w4 ⟨rfl, hb3⟩
            replace hp2 := Lib.hid (hp2.out.grow hb3)
            replace hb2 := Lib.hid (hb2.out.trans (hb3.mono (by have := hb2.out.size; omega)))
            clear hb3
            go_wp2_with fail
            refine (gv3.out _ _ _ _ hp2.out).mono ?_
            rintro ee w5 ⟨rfl, hp3, hk3⟩
            have hb3 := kept_pl hb2.out (by have := hb2.out.size; omega) (by omega) (by omega) hk3
            replace hp3 := Lib.hid (And.intro hp3 hb3)
            clear hk3 hb3 hp2 hb2
            go_wp2_with fail
            go_roundg (gk - 1)
            case measure => omega
            case rel => exact ⟨k + 1, v, by omega, by omega, by first | rfl | (congr 1; omega), by go_num, Lib.hid (by have := hv.out; omega), hp3⟩
      · obtain rfl : k = M := by omega
        have hl2 : ¬ (k : Int) < (k : Int) := by omega
        clear ht
        go_wp2_with fail
        refine (hf.out _ _ _ _ hrow.out.1).mono ?_
        rintro ee w3 ⟨rfl, hb4⟩
        have hb3 := Lib.hid (hrow.out.2.trans (hb4.mono (by have := hrow.out.2.size; omega)))
        clear hb4
        go_wp2_with fail
        refine (six_any _).mono ?_
        rintro ee w4 ⟨rfl, hb4⟩
        go_wp2_with fail
        go_ret
        exact ⟨rfl, by rw [hq]; exact hb3.out.trans (hb4.mono (by have := hb3.out.size; omega))⟩
  · by_cases h1 : e < 0
    · clear hin wn
      go_enter Try.func4, Try.ntmps4
      go_wp2_with fail
      refine (six_any _).mono ?_
      rintro ee w1 ⟨rfl, hb⟩
      go_wp2_with fail
      go_ret
      exact ⟨rfl, hb⟩
    · have h2 : 65535 < e := by omega
      clear hin wn
      go_enter Try.func4, Try.ntmps4
      go_wp2_with fail
      refine (six_any _).mono ?_
      rintro ee w1 ⟨rfl, hb⟩
      go_wp2_with fail
      go_ret
      exact ⟨rfl, hb⟩

theorem own : ownKnob Try.prog.godebug = none := by kernel_rfl
theorem laidOut : laidOutB Try.prog = true := by kernel_rfl

set_option maxRecDepth 100000 in
theorem lifted (os : Os) (started : os.Started) (H : Type) (enc : TypeId × Value → H) :
    ReturnsInHanded {} Try.checked os 4 .any (Rows.poolStampsSpec.pre6 enc Try.prog Try.f4 Rows.poolStampsRow.domain false) (Rows.poolStampsSpec.post enc Try.prog Try.f4 false true false false) := by
  refine returnsInHanded_of_change (C := Try.checked) own started (by kernel_rfl) Try.func4
    (ChangeSpec.witness6 (enc := enc) (C := Try.checked) false ⟨#[], #[.int .i64 0, .int .u32 0], []⟩ 8 (by kernel_rfl) (by kernel_rfl) (by kernel_rfl) (by kernel_rfl)) ?_
  intro W base args ds gs before hval0 hW hcnd _
  have hval : ∀ (j : Nat) t v, Try.f4.params[j]? = some t → args[j]? = some v → Value.okWide Try.prog W .any base t v := hval0
  have hW' := hW
  obtain ⟨p, q, hA0, hV, rfl, hfz, hnd⟩ := hW
  have hA : DataW.TrodAll enc Try.prog W 0 (fun _ => true) true Try.f4.params.toList args.toList ds p := hA0
  rw [Try.params4] at hA hval
  obtain ⟨v0, vs0, d0, ds0, p0, q0, hargs, rfl, rfl, h0, r0⟩ := trodAll_cons hA
  obtain ⟨v1, vs1, d1, ds1, p1, q1, rfl, rfl, rfl, h1, r1⟩ := trodAll_cons r0
  obtain ⟨rfl, rfl, rfl⟩ := trodAll_nil r1
  obtain rfl : args = #[v0, v1] := by cases args; simp_all
  obtain ⟨rfl, rfl⟩ := trodVars_none hV
  obtain ⟨a0, rfl, rfl, rfl, w0⟩ := open_int Try.underlying3 (hval 0 3 v0 rfl rfl) h0
  obtain ⟨a1, rfl, rfl, rfl, w1⟩ := open_int Try.underlying36 (hval 1 36 v1 rfl rfl) h1
  clear hA0 hval0
  refine (walk a0 a1 W w0 w1).mono fun e W' ⟨he, bel⟩ => ?_
  subst he
  exact ⟨_, rfl, _, _, _, [], [], [], hW', trodAll_mk1 (shut_bool Try.underlying4 _), (trodAll_cons_mk (shut_int Try.underlying3 w0) (trodAll_cons_mk (shut_int Try.underlying36 w1) trodAll_mk0)), rfl, bel.frame _, fun h => by cases h⟩

theorem over : Rows.poolStampsRow.holds Try.pinned (OpenSpec.ofChange Rows.poolStampsSpec) :=
  OpenClaim.holds_of_wide 4 Try.f4 rfl rfl rfl rfl rfl rfl rfl ⟨rfl, rfl, rfl, rfl, rfl⟩ rfl rfl rfl rfl rfl (by kernel_rfl) Try.func4 (by kernel_rfl)
    (of_decide_eq_true (by kernel_rfl)) (by unfold Func.isWrapper; first | (rw [if_pos (by decide +kernel)]; kernel_rfl) | (rw [if_neg (by decide +kernel)]; exact ⟨rfl, rfl⟩))
    (fun os started H enc _ => lifted os started H enc)

/-- The statement. -/
theorem proved : Rows.PoolStampsSaid := over
#print axioms proved

end Go.Proofs.Ytoegohofmhijgaa.poolStamps
