/- The walks of nums.Text and nums.Untext, and of their definitions. -/
import Derived.Test.YtgogackkeodciaaProg
import Derived.Test.YtgogackkeodciaaUntext
import Derived.Test.YtgogackkeodciaaChains
import Derived.Test.YtgogackkeodciaaUnchains
import Derived.Deep.QuietTactic
import Derived.BigQuiet
import Derived.BigRegion
namespace Go.Proofs.Ytgogackkeodciaa.W
open Go.RowKit
open Go.Proofs.Ytgogackkeodciaa.M
set_option linter.unusedVariables false

theorem text_size (s : ByteArray) : (B (chain s.size)).size ≤ 10 := chF_size 9 _
theorem text_eq (s : ByteArray) : B (chain s.size) ++ s = B (textL s.data.toList) := by
  have : s.data.toList.length = s.size := by simp
  unfold textL
  rw [this, ← B_append]
  rfl

theorem text_any (s : ByteArray) (w : World) (hs : s.size ≤ 1099511627776) :
    Calls Try.prog 53 #[.string s] w fun e w' => e = .returned (.string (B (textL s.data.toList))) ∧ Below w.heap.size w w' := by
  have hz := text_size s
  go_enter Try.func53, Try.ntmps53
  go_wp2_with (go_at_call 80; refine (chain_any _ _ (by omega) (by omega)).mono ?_; rintro e w' ⟨rfl, hb⟩)
  go_ret
  exact ⟨ret_str (text_eq s), hb⟩

theorem rtext_any (s : ByteArray) (w : World) (hs : s.size ≤ 1099511627776) :
    Calls Try.prog 71 #[.string s] w fun e w' => e = .returned (.string (B (textL s.data.toList))) ∧ Below w.heap.size w w' := by
  have hz : (B (chF 9 s.size)).size ≤ 10 := chF_size 9 _
  go_enter Try.func71, Try.ntmps71
  go_wp2_with (go_at_call 72; refine (rchain_any 9 _ _ (by omega) (by omega) (by omega) (by omega)).mono ?_; rintro e w' ⟨rfl, hb⟩)
  go_ret
  exact ⟨ret_str (text_eq s), hb⟩

theorem clone_any (s : ByteArray) (w : World) (hs : s.size ≤ 281474976710656) :
    Calls Try.prog 116 #[.string s] w fun e w' => e = .returned (.string s) ∧ Below w.heap.size w w' := by
  go_enter Try.func116, Try.ntmps116
  go_wp2_with (go_at_call 132; refine (Try.stringslite_Clone _ _ hs).mono ?_; rintro e w' ⟨rfl, hb⟩)
  go_ret
  exact ⟨rfl, hb⟩

theorem ret_three_s {a1 b1 : ByteArray} {a2 a3 b2 b3 : Int} (h : (a1, a2, a3) = (b1, b2, b3)) :
    Ending.returned (.tuple #[.string a1, .int .i64 a2, .int .i64 a3]) = .returned (.tuple #[.string b1, .int .i64 b2, .int .i64 b3]) := by
  simp only [Prod.mk.injEq] at h
  rw [h.1, h.2.1, h.2.2]
theorem ret_agg_s {a1 b1 : ByteArray} {a2 a3 b2 b3 : Int} (h : (a1, a2, a3) = (b1, b2, b3)) :
    Ending.returned (.agg #[.string a1, .int .i64 a2, .int .i64 a3]) = .returned (.agg #[.string b1, .int .i64 b2, .int .i64 b3]) := by
  simp only [Prod.mk.injEq] at h
  rw [h.1, h.2.1, h.2.2]

theorem untext_any (s : ByteArray) (w : World) (hs : s.size ≤ 1099511627776) :
    Calls Try.prog 99 #[.string s] w fun e w' => e = .returned (.tuple #[.string (untx s).1, .int .i64 (untx s).2.1, .int .i64 (untx s).2.2]) ∧ Below w.heap.size w w' := by
  have hlen := Lib.hid (show s.data.toList.length = s.size from by simp)
  obtain ⟨hv0, hv1, hf⟩ := unch_facts s.data.toList
  obtain ⟨v, n, x, hU⟩ : ∃ v n x, unch s.data.toList = (v, n, x) := ⟨_, _, _, rfl⟩
  rw [hU] at hv0 hv1 hf
  rw [hlen.out] at hf
  dsimp only at hv0 hv1 hf
  rcases hf with ⟨rfl, hn1, hn2, hn3⟩ | ⟨hx, hv, hn, hx34⟩
  · by_cases hl : 1099511627776 < v
    · have hE := Lib.hid (untx_long s v n hU hl)
      replace hU := Lib.hid hU
      go_enter Try.func99, Try.ntmps99
      go_wp2_with (go_at_call 97; refine (unchain_any _ _ hs).mono ?_; rintro e w' ⟨rfl, rfl⟩; rw [hU.out])
      go_ret3
      exact ⟨ret_three_s hE.out.symm, Below.refl _ _⟩
    · by_cases hl2 : (s.size : Int) - n < v
      · have hE := Lib.hid (untx_short s v n hU (by omega) hl2)
        replace hU := Lib.hid hU
        go_enter Try.func99, Try.ntmps99
        go_wp2_with (go_at_call 97; refine (unchain_any _ _ hs).mono ?_; rintro e w' ⟨rfl, rfl⟩; rw [hU.out])
        go_ret3
        exact ⟨ret_three_s hE.out.symm, Below.refl _ _⟩
      · have hE := Lib.hid (untx_some s v n hU (by omega) (by omega))
        replace hU := Lib.hid hU
        go_enter Try.func99, Try.ntmps99
        go_wp2_with (first | (go_at_call 97; refine (unchain_any _ _ hs).mono ?_; rintro e w' ⟨rfl, rfl⟩; rw [hU.out]) | (go_at_call 116; refine (clone_any _ _ (by simp; omega)).mono ?_; rintro e w' ⟨rfl, hb⟩))
        go_ret3
        exact ⟨ret_three_s hE.out.symm, hb⟩
  · have hE := Lib.hid (untx_err s v n x hU hx)
    replace hU := Lib.hid hU
    have hxb : (x != 0) = true := by simpa using hx
    clear hx hv hn
    go_enter Try.func99, Try.ntmps99
    go_wp2_with (go_at_call 97; refine (unchain_any _ _ hs).mono ?_; rintro e w' ⟨rfl, rfl⟩; rw [hU.out])
    go_ret3
    exact ⟨ret_three_s hE.out.symm, Below.refl _ _⟩


theorem runtext_any (s : ByteArray) (w : World) (hs : s.size ≤ 1099511627776) :
    Calls Try.prog 41 #[.string s] w fun e w' => e = .returned (.agg #[.string (untx s).1, .int .i64 (untx s).2.1, .int .i64 (untx s).2.2]) ∧ Below w.heap.size w w' := by
  have hlen := Lib.hid (show s.data.toList.length = s.size from by simp)
  obtain ⟨hv0, hv1, hf⟩ := unch_facts s.data.toList
  obtain ⟨v, n, x, hU⟩ : ∃ v n x, unch s.data.toList = (v, n, x) := ⟨_, _, _, rfl⟩
  rw [hU] at hv0 hv1 hf
  rw [hlen.out] at hf
  dsimp only at hv0 hv1 hf
  rcases hf with ⟨rfl, hn1, hn2, hn3⟩ | ⟨hx, hv, hn, hx34⟩
  · by_cases hl : 1099511627776 < v
    · have hE := Lib.hid (untx_long s v n hU hl)
      replace hU := Lib.hid hU
      go_enter Try.func41, Try.ntmps41
      go_wp2_with (go_at_call 78; refine (runchain_any _ _ hs).mono ?_; rintro e w' ⟨rfl, rfl⟩; rw [hU.out])
      exact bodyPost_ret (v := .agg #[.string ⟨#[]⟩, .int .i64 0, .int .i64 2]) (by simp [results, Try.results41, go_sem]) rfl ⟨ret_agg_s hE.out.symm, ((((Below.refl _ _).alloc (Nat.le_refl _) _).alloc (by simp) _).alloc (by simp; omega) _)⟩
    · by_cases hl2 : (s.size : Int) - n < v
      · have hE := Lib.hid (untx_short s v n hU (by omega) hl2)
        replace hU := Lib.hid hU
        go_enter Try.func41, Try.ntmps41
        go_wp2_with (go_at_call 78; refine (runchain_any _ _ hs).mono ?_; rintro e w' ⟨rfl, rfl⟩; rw [hU.out])
        exact bodyPost_ret (v := .agg #[.string ⟨#[]⟩, .int .i64 0, .int .i64 3]) (by simp [results, Try.results41, go_sem]) rfl ⟨ret_agg_s hE.out.symm, ((((Below.refl _ _).alloc (Nat.le_refl _) _).alloc (by simp) _).alloc (by simp; omega) _)⟩
      · have hE := Lib.hid (untx_some s v n hU (by omega) (by omega))
        replace hU := Lib.hid hU
        go_enter Try.func41, Try.ntmps41
        go_wp2_with (go_at_call 78; refine (runchain_any _ _ hs).mono ?_; rintro e w' ⟨rfl, rfl⟩; rw [hU.out])
        go_region
        go_wp2
        exact bodyPost_ret (v := .agg #[.string (s.extract n.toNat (n + v).toNat), .int .i64 (n + v), .int .i64 0]) (by simp [results, Try.results41, go_sem]) rfl ⟨ret_agg_s hE.out.symm, ((((Below.refl _ _).alloc (Nat.le_refl _) _).alloc (by simp) _).alloc (by simp; omega) _).drew⟩
  · have hE := Lib.hid (untx_err s v n x hU hx)
    replace hU := Lib.hid hU
    have hxb : (x != 0) = true := by simpa using hx
    clear hx hv hn
    go_enter Try.func41, Try.ntmps41
    go_wp2_with (go_at_call 78; refine (runchain_any _ _ hs).mono ?_; rintro e w' ⟨rfl, rfl⟩; rw [hU.out])
    exact bodyPost_ret (v := .agg #[.string ⟨#[]⟩, .int .i64 0, .int .i64 x]) (by simp [results, Try.results41, go_sem]) rfl ⟨ret_agg_s hE.out.symm, ((((Below.refl _ _).alloc (Nat.le_refl _) _).alloc (by simp) _).alloc (by simp; omega) _)⟩
end Go.Proofs.Ytgogackkeodciaa.W
