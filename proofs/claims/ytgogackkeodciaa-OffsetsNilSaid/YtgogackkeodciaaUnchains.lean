/- The walks of nums.Unchain and of its definition. -/
import Derived.Test.YtgogackkeodciaaProg
import Derived.Test.YtgogackkeodciaaUnchain
import Derived.ProofKit
import Derived.OpenShut
import Derived.Below
import Derived.Outline
import Derived.Lib.Hide
import Derived.WalkSpells
import Derived.WalkLawsBesides
namespace Go.Proofs.Ytgogackkeodciaa.W
open Go.RowKit
open Go.Proofs.Ytgogackkeodciaa.M
set_option linter.unusedVariables false

theorem ret_three' {a1 a2 a3 b1 b2 b3 : Int} (h : (a1, a2, a3) = (b1, b2, b3)) :
    Ending.returned (.tuple #[.int .u64 a1, .int .i64 a2, .int .i64 a3]) = .returned (.tuple #[.int .u64 b1, .int .i64 b2, .int .i64 b3]) := by
  simp only [Prod.mk.injEq] at h
  rw [h.1, h.2.1, h.2.2]

set_option maxRecDepth 100000 in
set_option maxHeartbeats 4000000 in
theorem unchain_any (s : ByteArray) (w : World) (hs : s.size ≤ 1099511627776) :
    Calls Try.prog 97 #[.string s] w fun e w' => e = .returned (.tuple #[.int .u64 (unch s.data.toList).1, .int .i64 (unch s.data.toList).2.1, .int .i64 (unch s.data.toList).2.2]) ∧ w = w' := by
  have hlen := Lib.hid (show s.data.toList.length = s.size from by simp)
  go_enter Try.func97, Try.ntmps97
  go_wp2
  all_goals
    go_loop [5, 11] (fun v i => ∃ k : Nat, k ≤ 9 ∧ k ≤ s.size ∧ (∀ j, j < k → 128 ≤ bt s.data.toList j) ∧ i = .int .i64 k ∧ v = .int .u64 (val s.data.toList k)) (fun _ i => s.size - (intOf i).toNat)
    case atStart => exact ⟨0, by omega, by omega, fun j hj => by omega, rfl, rfl⟩
    case round =>
      obtain ⟨k, hk, hks, hall, rfl, rfl⟩ := hrel
      replace hall := Lib.hid hall
      by_cases hlt : k < s.size
      · have hx := Lib.hid (bt_of s k hlt)
        have hx256 : s[k].toNat < 256 := s[k].toNat_lt
        have hv0 := val_lo s.data.toList k
        have hv1 := Lib.hid (val_hi s.data.toList k)
        by_cases h9 : 9 ≤ k ∧ 1 < s[k].toNat
        · obtain ⟨hk9, h91⟩ := h9
          have hU := Lib.hid (unch_ten s.data.toList k (by omega) hall.out (by rw [hlen.out]; exact hlt) (by rw [← hx.out]; exact h91))
          go_wp2
          go_ret3
          exact ⟨ret_three' hU.out.symm, rfl⟩
        · have hx7 := and_low7 s[k].toNat hx256
          have hcast : ((s[k].toNat % 128 : Nat) : Int) = (s[k].toNat : Int) % 128 := by omega
          rw [hcast] at hx7
          have hor := Lib.hid (or_step (val s.data.toList k) ((s[k].toNat : Int) % 128) k hv0 hv1.out (by omega) (by omega) (by omega))
          have hor2 := Lib.hid (show val s.data.toList (k + 1) = val s.data.toList k + (s[k].toNat : Int) % 128 * 128 ^ k from by
            show _ + ((bt s.data.toList k % 128 : Nat) : Int) * 128 ^ k = _
            rw [← hx.out, hcast])
          have hk89 := Lib.hid (show k ≤ 8 ∨ (k = 9 ∧ bt s.data.toList k ≤ 1) from by rw [← hx.out]; omega)
          have h9' : (9 ≤ k ∧ s[k].toNat ≤ 1) ∨ k ≤ 8 := by omega
          clear hcast h9
          by_cases hmore : 128 ≤ s[k].toNat
          · have hk8 : k ≤ 8 := by omega
            clear h9'
            have hall2 := Lib.hid (show ∀ j, j < k + 1 → 128 ≤ bt s.data.toList j from fun j hj => by
              by_cases e : j = k
              · subst e; rw [← hx.out]; exact hmore
              · exact hall.out j (by omega))
            go_wp2
            go_round
            case rel => exact ⟨k + 1, by omega, by omega, hall2.out, by go_num, by rw [hor.out, hor2.out]⟩
            case measure => simp [intOf]; omega
          · have hb128 := Lib.hid (show bt s.data.toList k < 128 from by rw [← hx.out]; omega)
            by_cases hz : s[k].toNat = 0
            · have hzb : ((s[k].toNat : Int) == 0) = true := by rw [hz]; rfl
              have hb0 := Lib.hid (show bt s.data.toList k = 0 from by rw [← hx.out]; exact hz)
              by_cases hk0 : 0 < k
              · have hU := Lib.hid (unch_zero s.data.toList k hk hk0 (by rw [hlen.out]; exact hlt) hall.out hb0.out)
                clear hz
                rcases h9' with ⟨hk9, hs1⟩ | hk8
                all_goals
                  go_wp2
                  go_ret3
                  exact ⟨ret_three' hU.out.symm, rfl⟩
              · have hU := Lib.hid (unch_some s.data.toList k hk89.out (by rw [hlen.out]; exact hlt) hall.out hb128.out (.inl (by omega)))
                have hk8 : k ≤ 8 := by omega
                clear hz h9'
                go_wp2
                go_ret3
                exact ⟨ret_three' (by rw [hor.out, ← hor2.out]; exact hU.out.symm), rfl⟩
            · have hzb : ((s[k].toNat : Int) == 0) = false := by simp; omega
              have hU := Lib.hid (unch_some s.data.toList k hk89.out (by rw [hlen.out]; exact hlt) hall.out hb128.out (.inr (by rw [← hx.out]; exact hz)))
              clear hz
              rcases h9' with ⟨hk9, hs1⟩ | hk8
              · have hU9 := Lib.hid (show unch s.data.toList = (bits BinOp.or IntKind.u64 (val s.data.toList k) ((s[k].toNat : Int) % 128 * 9223372036854775808), 10, 0) from by
                  have e9 : k = 9 := by omega
                  have hv := hv1.out
                  have h2 := hor2.out
                  rw [hU.out, h2, show (128 : Int) ^ k = 128 ^ 9 from by rw [e9], or_nine _ _ hv0 (by rw [show (128 : Int) ^ 9 = 128 ^ k from by rw [e9]]; exact hv) (by omega) (by omega), show ((k + 1 : Nat) : Int) = 10 from by omega])
                go_wp2
                go_ret3
                exact ⟨ret_three' hU9.out.symm, rfl⟩
              · go_wp2
                go_ret3
                exact ⟨ret_three' (by rw [hor.out, ← hor2.out]; exact hU.out.symm), rfl⟩
      · have hU := Lib.hid (unch_short s.data.toList k hk (by rw [hlen.out]; omega) hall.out)
        first
        | (exfalso; omega)
        | (go_wp2
           go_ret3
           exact ⟨ret_three' hU.out.symm, rfl⟩)

theorem ret_agg3 {a1 a2 a3 b1 b2 b3 : Int} (h : (a1, a2, a3) = (b1, b2, b3)) :
    Ending.returned (.agg #[.int .u64 a1, .int .i64 a2, .int .i64 a3]) = .returned (.agg #[.int .u64 b1, .int .i64 b2, .int .i64 b3]) := by
  simp only [Prod.mk.injEq] at h
  rw [h.1, h.2.1, h.2.2]

theorem world_agg3 (w : World) (T : TypeId) {a1 a2 a3 b1 b2 b3 : Int} (h : (a1, a2, a3) = (b1, b2, b3)) :
    w.alloc (.cells #[.int .u64 a1, .int .i64 a2, .int .i64 a3] T) = w.alloc (.cells #[.int .u64 b1, .int .i64 b2, .int .i64 b3] T) := by
  simp only [Prod.mk.injEq] at h
  rw [h.1, h.2.1, h.2.2]

set_option maxRecDepth 100000 in
set_option maxHeartbeats 4000000 in
theorem runchain_any (s : ByteArray) (w : World) (hs : s.size ≤ 1099511627776) :
    Calls Try.prog 78 #[.string s] w fun e w' => e = .returned (.agg #[.int .u64 (unch s.data.toList).1, .int .i64 (unch s.data.toList).2.1, .int .i64 (unch s.data.toList).2.2]) ∧ w' = w.alloc (.cells #[.int .u64 (unch s.data.toList).1, .int .i64 (unch s.data.toList).2.1, .int .i64 (unch s.data.toList).2.2] 129) := by
  have hlen := Lib.hid (show s.data.toList.length = s.size from by simp)
  go_enter Try.func78, Try.ntmps78
  go_wp2
  go_loop [3] (fun n => ∃ k : Nat, k ≤ 10 ∧ k ≤ s.size ∧ (∀ j, j < k → 128 ≤ bt s.data.toList j) ∧ n = .int .i64 k) (fun n => 10 - (intOf n).toNat)
  case atStart => exact ⟨0, by omega, by omega, fun j hj => by omega, rfl⟩
  case round =>
    obtain ⟨k, hk, hks, hall, rfl⟩ := hrel
    replace hall := Lib.hid hall
    by_cases hlt : k < s.size
    · have hidx := fun wx => idx_nat (P := Try.prog) 9 Try.underlying9 s .i64 k hlt wx
      by_cases hlt2 : k < 10
      · by_cases hb : 128 ≤ bt s.data.toList k
        · have hall2 := Lib.hid (show ∀ j, j < k + 1 → 128 ≤ bt s.data.toList j from fun j hj => by
            by_cases e : j = k
            · subst e; exact hb
            · exact hall.out j (by omega))
          go_wp2
          go_round
          case rel => exact ⟨k + 1, by omega, by omega, hall2.out, by go_num⟩
          case measure => simp [intOf]; omega
        · by_cases e9 : k = 9
          · subst e9
            clear hidx
            have hidx9 : ∀ wx, (Instr.index 9 (.string s) (.int .i64 9)).run Try.prog wx = .ok (.int .u8 (bt s.data.toList 9 : Nat)) wx := fun wx => idx_nat (P := Try.prog) 9 Try.underlying9 s .i64 9 (by omega) wx
            by_cases h91 : 1 < bt s.data.toList 9
            · have hU := Lib.hid (unch_ten s.data.toList 9 rfl hall.out (by rw [hlen.out]; exact hlt) h91)
              go_wp2
              all_goals exact bodyPost_ret (v := .agg #[.int .u64 0, .int .i64 0, .int .i64 4]) (by simp [results, Try.results78, go_sem]) rfl ⟨ret_agg3 hU.out.symm, world_agg3 _ _ hU.out.symm⟩
            · by_cases hz : bt s.data.toList 9 = 0
              · have hzb : ((bt s.data.toList 9 : Int) == 0) = true := by rw [hz]; rfl
                have hU := Lib.hid (unch_zero s.data.toList 9 (by omega) (by omega) (by rw [hlen.out]; exact hlt) hall.out hz)
                clear hz
                go_wp2
                all_goals exact bodyPost_ret (v := .agg #[.int .u64 0, .int .i64 0, .int .i64 4]) (by simp [results, Try.results78, go_sem]) rfl ⟨ret_agg3 hU.out.symm, world_agg3 _ _ hU.out.symm⟩
              · have hzb : ((bt s.data.toList 9 : Int) == 0) = false := by simp; omega
                have hU := Lib.hid (unch_some s.data.toList 9 (.inr ⟨rfl, by omega⟩) (by rw [hlen.out]; exact hlt) hall.out (by omega) (.inr hz))
                have hV := Lib.hid (val_64 s.data.toList (9 + 1) (.inr ⟨rfl, by omega⟩))
                obtain ⟨V, HVe⟩ : ∃ V, Hid (V = val s.data.toList (9 + 1)) := ⟨_, Lib.hid rfl⟩
                rw [← HVe.out] at hU hV
                clear hz
                go_wp2
                go_loop [4, 5] (fun v i => ∃ i' x : Int, -1 ≤ i' ∧ i' ≤ 9 ∧ 0 ≤ x ∧ Hid (x * 128 ^ (i' + 1).toNat + val s.data.toList (i' + 1).toNat = V) ∧ i = .int .i64 i' ∧ v = .int .u64 x) (fun _ i => (intOf i + 1).toNat)
                case atStart => exact ⟨9, 0, by omega, by omega, by omega, Lib.hid (by rw [show ((9 : Int) + 1).toNat = 9 + 1 from by omega, HVe.out]; omega), rfl, rfl⟩
                case round =>
                  obtain ⟨i', x, hi1, hi2, hx0, hxV, rfl, rfl⟩ := hrel
                  by_cases hi : 0 ≤ i'
                  · obtain ⟨j, rfl⟩ := Int.eq_ofNat_of_zero_le hi
                    have hjdx := fun wx => idx_nat (P := Try.prog) 9 Try.underlying9 s .i64 j (by omega) wx
                    have hbj := bt_lt s.data.toList j
                    rw [show ((j : Int) + 1).toNat = j + 1 from by omega] at hxV
                    have hd := val_down s.data.toList j x _ hxV.out
                    have hcast : ((bt s.data.toList j % 128 : Nat) : Int) = (bt s.data.toList j : Int) % 128 := by omega
                    rw [hcast] at hd
                    clear hcast
                    replace hd := Lib.hid hd
                    have hlt64 := val_down_lt s.data.toList j _ _ (by omega) hd.out hV.out
                    go_wp2
                    go_round
                    case rel => exact ⟨(j : Int) - 1, _, by omega, by omega, by omega, Lib.hid (by rw [show ((j : Int) - 1 + 1).toNat = j from by omega]; exact hd.out), rfl, rfl⟩
                    case measure => simp [intOf]
                  · have hx : x = V := by
                      have h := hxV.out
                      rw [show (i' + 1).toNat = 0 from by omega] at h
                      simpa [val] using h
                    have hE : unch s.data.toList = (x, 10, 0) := by have h := hU.out; rw [hx]; exact h
                    clear hx hxV
                    replace hE := Lib.hid hE
                    go_wp2
                    exact bodyPost_ret (v := .agg #[.int .u64 x, .int .i64 (10), .int .i64 0]) (by simp [results, Try.results78, go_sem]) rfl ⟨ret_agg3 hE.out.symm, world_agg3 _ _ hE.out.symm⟩
          · have hk8 : k ≤ 8 := by omega
            clear e9
            by_cases hz : bt s.data.toList k = 0 ∧ 0 < k
            · obtain ⟨hz, hk0⟩ := hz
              have hzb : ((bt s.data.toList k : Int) == 0) = true := by rw [hz]; rfl
              have hU := Lib.hid (unch_zero s.data.toList k (by omega) hk0 (by rw [hlen.out]; exact hlt) hall.out hz)
              clear hz
              go_wp2
              all_goals exact bodyPost_ret (v := .agg #[.int .u64 0, .int .i64 0, .int .i64 4]) (by simp [results, Try.results78, go_sem]) rfl ⟨ret_agg3 hU.out.symm, world_agg3 _ _ hU.out.symm⟩
            · have hU := Lib.hid (unch_some s.data.toList k (.inl hk8) (by rw [hlen.out]; exact hlt) hall.out (by omega) (by omega))
              have hV := Lib.hid (val_64 s.data.toList (k + 1) (.inl (by omega)))
              obtain ⟨V, HVe⟩ : ∃ V, Hid (V = val s.data.toList (k + 1)) := ⟨_, Lib.hid rfl⟩
              rw [← HVe.out] at hU hV
              replace HVe : ∃ u, u = k ∧ Hid (V = val s.data.toList (u + 1)) := ⟨k, rfl, HVe⟩
              obtain ⟨u, HVu, HVe⟩ := HVe
              replace HVu := Lib.hid HVu
              have hz' : k = 0 ∨ (0 < k ∧ bt s.data.toList k ≠ 0) := by omega
              clear hz
              rcases hz' with hk0 | ⟨hk0, hz⟩
              · subst hk0
                have hidx0 : ∀ wx, (Instr.index 9 (.string s) (.int .i64 0)).run Try.prog wx = .ok (.int .u8 (bt s.data.toList 0 : Nat)) wx := hidx
                go_wp2
                go_loop [4, 5] (fun v i => ∃ i' x : Int, -1 ≤ i' ∧ i' ≤ 0 ∧ 0 ≤ x ∧ Hid (x * 128 ^ (i' + 1).toNat + val s.data.toList (i' + 1).toNat = V) ∧ i = .int .i64 i' ∧ v = .int .u64 x) (fun _ i => (intOf i + 1).toNat)
                case atStart => exact ⟨0, 0, by omega, by omega, by omega, Lib.hid (by rw [show ((0 : Int) + 1).toNat = 0 + 1 from by omega, HVe.out, HVu.out]; omega), rfl, rfl⟩
                case round =>
                  obtain ⟨i', x, hi1, hi2, hx0, hxV, rfl, rfl⟩ := hrel
                  by_cases hi : 0 ≤ i'
                  · obtain ⟨j, rfl⟩ := Int.eq_ofNat_of_zero_le hi
                    have hjdx := fun wx => idx_nat (P := Try.prog) 9 Try.underlying9 s .i64 j (by omega) wx
                    have hbj := bt_lt s.data.toList j
                    rw [show ((j : Int) + 1).toNat = j + 1 from by omega] at hxV
                    have hd := val_down s.data.toList j x _ hxV.out
                    have hcast : ((bt s.data.toList j % 128 : Nat) : Int) = (bt s.data.toList j : Int) % 128 := by omega
                    rw [hcast] at hd
                    clear hcast
                    replace hd := Lib.hid hd
                    have hlt64 := val_down_lt s.data.toList j _ _ (by omega) hd.out hV.out
                    go_wp2
                    go_round
                    case rel => exact ⟨(j : Int) - 1, _, by omega, by omega, by omega, Lib.hid (by rw [show ((j : Int) - 1 + 1).toNat = j from by omega]; exact hd.out), rfl, rfl⟩
                    case measure => simp [intOf]
                  · have hx : x = V := by
                      have h := hxV.out
                      rw [show (i' + 1).toNat = 0 from by omega] at h
                      simpa [val] using h
                    have hE : unch s.data.toList = (x, 1, 0) := by have h := hU.out; rw [hx]; exact h
                    clear hx hxV
                    replace hE := Lib.hid hE
                    go_wp2
                    exact bodyPost_ret (v := .agg #[.int .u64 x, .int .i64 (1), .int .i64 0]) (by simp [results, Try.results78, go_sem]) rfl ⟨ret_agg3 hE.out.symm, world_agg3 _ _ hE.out.symm⟩
              · have hzb : ((bt s.data.toList k : Int) == 0) = false := by simp; omega
                clear hz
                go_wp2
                go_loop [4, 5] (fun v i => ∃ i' x : Int, -1 ≤ i' ∧ i' ≤ (k : Int) ∧ 0 ≤ x ∧ Hid (x * 128 ^ (i' + 1).toNat + val s.data.toList (i' + 1).toNat = V) ∧ i = .int .i64 i' ∧ v = .int .u64 x) (fun _ i => (intOf i + 1).toNat)
                case atStart => exact ⟨(k : Int), 0, by omega, by omega, by omega, Lib.hid (by rw [show (((k : Int) : Int) + 1).toNat = k + 1 from by omega, HVe.out, HVu.out]; omega), rfl, rfl⟩
                case round =>
                  obtain ⟨i', x, hi1, hi2, hx0, hxV, rfl, rfl⟩ := hrel
                  by_cases hi : 0 ≤ i'
                  · obtain ⟨j, rfl⟩ := Int.eq_ofNat_of_zero_le hi
                    have hjdx := fun wx => idx_nat (P := Try.prog) 9 Try.underlying9 s .i64 j (by omega) wx
                    have hbj := bt_lt s.data.toList j
                    rw [show ((j : Int) + 1).toNat = j + 1 from by omega] at hxV
                    have hd := val_down s.data.toList j x _ hxV.out
                    have hcast : ((bt s.data.toList j % 128 : Nat) : Int) = (bt s.data.toList j : Int) % 128 := by omega
                    rw [hcast] at hd
                    clear hcast
                    replace hd := Lib.hid hd
                    have hlt64 := val_down_lt s.data.toList j _ _ (by omega) hd.out hV.out
                    go_wp2
                    go_round
                    case rel => exact ⟨(j : Int) - 1, _, by omega, by omega, by omega, Lib.hid (by rw [show ((j : Int) - 1 + 1).toNat = j from by omega]; exact hd.out), rfl, rfl⟩
                    case measure => simp [intOf]
                  · have hx : x = V := by
                      have h := hxV.out
                      rw [show (i' + 1).toNat = 0 from by omega] at h
                      simpa [val] using h
                    have hE : unch s.data.toList = (x, (k : Int) + 1, 0) := by have h := hU.out; rw [hx]; exact h
                    clear hx hxV
                    replace hE := Lib.hid hE
                    go_wp2
                    exact bodyPost_ret (v := .agg #[.int .u64 x, .int .i64 ((k : Int) + 1), .int .i64 0]) (by simp [results, Try.results78, go_sem]) rfl ⟨ret_agg3 hE.out.symm, world_agg3 _ _ hE.out.symm⟩
      · have hk10 : 10 ≤ k := by omega
        have hU := Lib.hid (unch_ten s.data.toList 9 rfl (fun j hj => hall.out j (by omega)) (by rw [hlen.out]; omega) (by have := hall.out 9 (by omega); omega))
        go_wp2
        all_goals exact bodyPost_ret (v := .agg #[.int .u64 0, .int .i64 0, .int .i64 4]) (by simp [results, Try.results78, go_sem]) rfl ⟨ret_agg3 hU.out.symm, world_agg3 _ _ hU.out.symm⟩
    · by_cases hlt2 : k < 10
      · have hU := Lib.hid (unch_short s.data.toList k (by omega) (by rw [hlen.out]; omega) hall.out)
        go_wp2
        all_goals exact bodyPost_ret (v := .agg #[.int .u64 0, .int .i64 0, .int .i64 3]) (by simp [results, Try.results78, go_sem]) rfl ⟨ret_agg3 hU.out.symm, world_agg3 _ _ hU.out.symm⟩
      · have hU := Lib.hid (unch_ten s.data.toList 9 rfl (fun j hj => hall.out j (by omega)) (by rw [hlen.out]; omega) (by have := hall.out 9 (by omega); omega))
        go_wp2
        all_goals exact bodyPost_ret (v := .agg #[.int .u64 0, .int .i64 0, .int .i64 4]) (by simp [results, Try.results78, go_sem]) rfl ⟨ret_agg3 hU.out.symm, world_agg3 _ _ hU.out.symm⟩
end Go.Proofs.Ytgogackkeodciaa.W
