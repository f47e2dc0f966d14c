/- For every beginning and every slice of strings the law SumsParts returns true: a sum of bytes that come in any pieces is the CRC of all, told behind each. No condition. -/
import Derived.Test.YtngacdajagegcaaRows
import Derived.Test.YtngacdajagegcaaSums
import Derived.Test.YtngacdajagegcaaOpen
import Derived.Test.YtngacdajagegcaaText
import Derived.ChangeOld
import Derived.ShutString
namespace Go.Proofs.Ytngacdajagegcaa.sumsParts
open Go.ChangeShapes Go.WideShapes Go.ChangeAt Go.RowKit
open Go.ChangeMaps (open_string shut_string)
open Go.Proofs.Ytngacdajagegcaa.M Go.Proofs.Ytngacdajagegcaa.W
set_option linter.unusedVariables false

/-- The bytes of the first k strings. -/
def cat (ss : List ByteArray) : Nat → List UInt8
  | 0 => []
  | k + 1 => cat ss k ++ (ss.getD k ByteArray.empty).data.toList

theorem new_any (b : Nat) (w : World) :
    Calls Try.prog 42 #[.int .u32 b] w fun e w' => e = .returned (.pointer (some ⟨w.heap.size, 0, none⟩)) ∧ w' = w.alloc (.cells #[.int .u32 b] 74) := by
  go_enter Try.func42, Try.ntmps42
  go_wp2
  go_ret
  exact ⟨rfl, rfl⟩
theorem add_any (c : Nat) (hc : c < 4294967296) (s : ByteArray) (hs : s.size ≤ 1099511627776) (w : World) :
    Calls Try.prog 43 #[.pointer (some ⟨w.heap.size, 0, none⟩), .string s] (w.alloc (.cells #[.int .u32 c] 74)) fun e w' => e = .returned (.tuple #[]) ∧ w' = w.alloc (.cells #[.int .u32 (crc c s.data.toList : Nat)] 74) := by
  go_enter Try.func43, Try.ntmps43
  go_wp2_with (go_at_call 38; refine (crc_any c s _ hc hs).mono ?_; rintro e w' ⟨rfl, rfl⟩)
  go_end0
  exact ⟨rfl, rfl⟩
theorem value_any (c : Nat) (w : World) :
    Calls Try.prog 44 #[.pointer (some ⟨w.heap.size, 0, none⟩)] (w.alloc (.cells #[.int .u32 c] 74)) fun e w' => e = .returned (.int .u32 c) ∧ w' = w.alloc (.cells #[.int .u32 c] 74) := by
  go_enter Try.func44, Try.ntmps44
  go_wp2
  go_ret
  exact ⟨rfl, rfl⟩

set_option maxHeartbeats 4000000 in
theorem walk (a0 : Int) (a : Option Addr) (len cap : Nat) (ss : List ByteArray) (w : World) (w0 : (Lit.int .u32 a0).wf = true) (w1 : IsStrs w a len cap ss) :
    Calls Try.prog 10 #[.int .u32 a0, .slice a len cap] w fun e w' => e = .returned (.bool true) ∧ Below w.heap.size w w' := by
  obtain ⟨l0, l1⟩ := bounds_u32 w0
  obtain ⟨b, rfl⟩ := Int.eq_ofNat_of_zero_le l0
  have hb : b < 4294967296 := by omega
  have hc30 : len ≤ 9223372036854775807 := by
    rcases w1 with ⟨_, h, _⟩ | ⟨_, _, h1, h2, _⟩
    · omega
    · unfold maxLen at h2; omega
  by_cases hl : 30 < len
  · go_enter Try.func10, Try.ntmps10
    go_wp2_with (go_at_call 37; refine (nine_any _).mono ?_; rintro e w1 ⟨rfl, rfl⟩)
    go_ret
    exact ⟨rfl, Below.refl _ _⟩
  · have hcells : ∀ k, k < len → ∃ bb off, a = some ⟨bb, off, none⟩ ∧ (∀ c : Nat, (w.alloc (.cells #[.int .u32 (c : Int)] 74)).cell? ⟨bb, off + k, none⟩ = some (.string (ss.getD k ByteArray.empty))) ∧ (ss.getD k ByteArray.empty).size ≤ maxLen := by
      intro k hk
      rcases w1 with ⟨_, h, _⟩ | ⟨x, rfl, h1, h2, h3, h4, h5⟩
      · omega
      · have h6 := h4 k (by omega)
        obtain ⟨bb, off, spot⟩ := x
        have hspot := World.cell?_spot (h4 0 (by omega))
        simp [Addr.add] at hspot
        subst hspot
        have h7 : w.cell? ⟨bb, off + k, none⟩ = some (.string (ss.getD k ByteArray.empty)) := by
          have e : (⟨bb, off, none⟩ : Addr).add k = ⟨bb, off + k, none⟩ := by unfold Addr.add; split <;> simp_all
          rw [← e]; exact h6
        refine ⟨bb, off, rfl, fun c => ?_, ?_⟩
        · rw [World.cell?_alloc_lt _ _ _ (cell_lt h7)]; exact h7
        · apply h5
          rw [List.getD, List.getElem?_eq_getElem (by omega), Option.getD_some]
          exact List.getElem_mem _
    replace hcells := Lib.hid hcells
    clear w1
    have hz0 := Lib.hid (show b = crc b (cat ss 0) from (crc_nil b hb).symm)
    go_enter Try.func10, Try.ntmps10
    go_wp2_with (go_at_call 42; refine (new_any b _).mono ?_; rintro e w1 ⟨rfl, rfl⟩)
    go_loopw [6, 7, 19] (fun v al i wr => ∃ k : Nat, k ≤ len ∧ i = .int .i64 k ∧ v = .int .u32 (crc b (cat ss k) : Nat) ∧ al = .string (B (cat ss k)) ∧ (cat ss k).length ≤ 100 * k ∧ wr = w.alloc (.cells #[.int .u32 (crc b (cat ss k) : Nat)] 74)) (fun _ _ i _ => len - (intOf i).toNat)
    case atStart => exact ⟨0, by omega, rfl, by rw [← hz0.out], rfl, by simp [cat], by rw [← hz0.out]⟩
    case round =>
      obtain ⟨k, hk, rfl, rfl, rfl, hlen, rfl⟩ := hrel
      have hcl := crc_lt b (cat ss k)
      have happ := Lib.hid (crc_append b hb (cat ss k) (ss.getD k ByteArray.empty).data.toList)
      have hsz : (B (cat ss k)).size ≤ 100 * k := by rw [B_size]; exact hlen
      obtain ⟨c, hc⟩ : ∃ c, Hid (crc b (cat ss k) = c) := ⟨_, Lib.hid rfl⟩
      rw [hc.out] at hcl ⊢
      by_cases hlt : k < len
      · obtain ⟨bb, off, ha, hcell, hsmax⟩ := hcells.out k hlt
        unfold maxLen at hsmax
        replace hcell := hcell c
        rw [ha]
        obtain ⟨s, hs⟩ : ∃ s, Hid (ss.getD k ByteArray.empty = s) := ⟨_, Lib.hid rfl⟩
        rw [hs.out] at hcell hsmax happ
        clear ha
        by_cases h100 : 100 < s.size
        · go_wp2_with (go_at_call 37; refine (nine_any _).mono ?_; rintro e w1 ⟨rfl, rfl⟩)
          go_ret
          exact ⟨rfl, (Below.refl _ _).alloc (Nat.le_refl _) _⟩
        · have hcat : cat ss (k + 1) = cat ss k ++ s.data.toList := by show cat ss k ++ _ = _; rw [hs.out]
          obtain ⟨c2, hc2⟩ : ∃ c2, Hid (crc c s.data.toList = c2) := ⟨_, Lib.hid rfl⟩
          have hnew : crc b (cat ss (k + 1)) = c2 := by rw [hcat, happ.out, hc.out, hc2.out]
          have hB : B (cat ss k) ++ s = B (cat ss (k + 1)) := by rw [hcat, ← B_append, B_of]
          have hR : crc b (B (cat ss k) ++ s).data.toList = c2 := by rw [hB, B_data, hnew]
          have hl1 : (cat ss (k + 1)).length ≤ 100 * (k + 1) := by
            rw [hcat, List.length_append]
            have : s.data.toList.length = s.size := by simp
            omega
          have hsz2 : (B (cat ss k) ++ s).size ≤ 100 * (k + 1) := by rw [ByteArray.size_append]; omega
          replace hcat := Lib.hid hcat
          replace hnew := Lib.hid hnew
          replace hB := Lib.hid hB
          replace hR := Lib.hid hR
          go_wp2_with fail
          refine (add_any c hcl s (by omega) w).mono ?_
          rintro e w1 ⟨rfl, rfl⟩
          rw [hc2.out]
          go_wp2_with fail
          refine (crc_any c s _ hcl (by omega)).mono ?_
          rintro e w1 ⟨rfl, rfl⟩
          rw [hc2.out]
          go_wp2_with fail
          refine (value_any c2 w).mono ?_
          rintro e w1 ⟨rfl, rfl⟩
          go_wp2_with fail
          refine (rcrc_any b (B (cat ss k) ++ s) _ hb (by omega)).mono ?_
          rintro e w1 ⟨rfl, rfl⟩
          rw [hR.out]
          go_wp2_with fail
          refine (value_any c2 w).mono ?_
          rintro e w1 ⟨rfl, rfl⟩
          go_wp2_with fail
          go_roundw
          case rel => exact ⟨k + 1, by omega, by go_num, by rw [hnew.out], by rw [hB.out], hl1, by rw [hnew.out]⟩
          case measure => simp [intOf]; omega
      · go_wp2_with fail
        refine (value_any c w).mono ?_
        rintro e w1 ⟨rfl, rfl⟩
        go_wp2_with fail
        refine (nine_any _).mono ?_
        rintro e w1 ⟨rfl, rfl⟩
        go_wp2_with fail
        go_ret
        exact ⟨rfl, (Below.refl _ _).alloc (Nat.le_refl _) _⟩

theorem own : ownKnob Try.prog.godebug = none := by kernel_rfl
theorem laidOut : laidOutB Try.prog = true := by kernel_rfl

set_option maxRecDepth 100000 in
theorem lifted (os : Os) (started : os.Started) (H : Type) (enc : TypeId × Value → H) :
    ReturnsInHanded {} Try.checked os 10 .any (Rows.sumsPartsSpec.pre6 enc Try.prog Try.f10 Rows.sumsPartsRow.domain false) (Rows.sumsPartsSpec.post enc Try.prog Try.f10 false true false false) := by
  refine returnsInHanded_of_change (C := Try.checked) own started (by kernel_rfl) Try.func10
    (ChangeSpec.witness6 (enc := enc) (C := Try.checked) false ⟨#[], #[.int .u32 0, .slice none 0 0], []⟩ 8 (by kernel_rfl) (by kernel_rfl) (by kernel_rfl) (by kernel_rfl)) ?_
  intro W base args ds gs before hval0 hW hcnd _
  have hval : ∀ (j : Nat) t v, Try.f10.params[j]? = some t → args[j]? = some v → Value.okWide Try.prog W .any base t v := hval0
  have hW' := hW
  obtain ⟨p, q, hA0, hV, rfl, hfz, hnd⟩ := hW
  have hA : DataW.TrodAll enc Try.prog W 0 (fun _ => true) true Try.f10.params.toList args.toList ds p := hA0
  rw [Try.params10] at hA hval
  obtain ⟨v0, vs0, d0, ds0, p0, q0, hargs, rfl, rfl, h0, r0⟩ := trodAll_cons hA
  obtain ⟨v1, vs1, d1, ds1, p1, q1, rfl, rfl, rfl, h1, r1⟩ := trodAll_cons r0
  obtain ⟨rfl, rfl, rfl⟩ := trodAll_nil r1
  obtain rfl : args = #[v0, v1] := by cases args; simp_all
  obtain ⟨rfl, rfl⟩ := trodVars_none hV
  obtain ⟨a0, rfl, rfl, rfl, w0⟩ := open_int Try.underlying53 (hval 0 53 v0 rfl rfl) h0
  obtain ⟨a1, len1, cap1, rfl⟩ := okWide_slice Try.underlying56 (hval 1 56 v1 rfl rfl)
  have k1 := h1
  have lt1 : ∀ x ∈ p1, x.block < W.heap.size := by obtain ⟨m, hm⟩ := k1; exact DataW.trod_lt m _ _ _ hm
  obtain ⟨z1, w1⟩ := open_strs Try.underlying56 Try.underlying9 (by kernel_rfl) h1
  clear hA0 hval0
  refine (walk a0 a1 len1 cap1 z1 W w0 w1).mono fun e W' ⟨he, bel⟩ => ?_
  subst he
  exact ⟨_, rfl, _, _, _, [], _, [], hW', trodAll_mk1 (shut_bool Try.underlying4 _), (trodAll_cons_mk (shut_int Try.underlying53 w0) (trodAll_cons_mk (Below.trod laidOut (by kernel_rfl) (of_decide_eq_true (by kernel_rfl)) k1 bel lt1) trodAll_mk0)), rfl, bel.frame _, fun h => by cases h⟩

theorem over : Rows.sumsPartsRow.holds Try.pinned (OpenSpec.ofChange Rows.sumsPartsSpec) :=
  OpenClaim.holds_of_wide 10 Try.f10 rfl rfl rfl rfl rfl rfl rfl ⟨rfl, rfl, rfl, rfl, rfl⟩ rfl rfl rfl rfl rfl (by kernel_rfl) Try.func10 (by kernel_rfl)
    (of_decide_eq_true (by kernel_rfl)) (by unfold Func.isWrapper; first | (rw [if_pos (by decide +kernel)]; kernel_rfl) | (rw [if_neg (by decide +kernel)]; exact ⟨rfl, rfl⟩))
    (fun os started H enc _ => lifted os started H enc)

/-- The statement. -/
theorem proved : Rows.SumsPartsSaid := over
#print axioms proved

end Go.Proofs.Ytngacdajagegcaa.sumsParts
