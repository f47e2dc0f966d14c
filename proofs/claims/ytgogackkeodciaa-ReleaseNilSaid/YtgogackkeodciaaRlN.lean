/- Package release: the calls of nil; the law's long. -/
import Derived.Test.YtgogackkeodciaaRlK
namespace Go.Proofs.Ytgogackkeodciaa.W
open Go.RowKit Go.Sort
open Go.Proofs.Ytgogackkeodciaa.M Go.Proofs.Ytgogackkeodciaa.D Go.Proofs.Ytgogackkeodciaa.Z
set_option linter.unusedVariables false
set_option linter.unusedSimpArgs false

set_option maxRecDepth 100000 in
set_option maxHeartbeats 4000000 in
theorem make25_nil (num rule label : Int) (st : ByteArray) (sp off : Int) (tt : ByteArray) (tp : Int) (k v : ByteArray) (g : Bool) (w : World) :
    Calls Try.prog 27 #[.pointer none, .agg #[.int .i64 num, .int .i64 rule, .int .i64 label, .string st, .int .i64 sp, .int .i64 off, .string tt, .int .i64 tp, .string k, .string v, .bool g]] w fun e w' => e = .returned (.tuple #[.agg #[.int .i64 0, .string ⟨#[]⟩], .int .i64 7]) ∧ Below w.heap.size w w' := by
  obtain ⟨V, hV⟩ : ∃ V, Hid (V = (w.alloc (.cells #[.int .i64 num, .int .i64 rule, .int .i64 label, .string st, .int .i64 sp, .int .i64 off, .string tt, .int .i64 tp, .string k, .string v, .bool g] 67)).alloc (.cells #[.int .i64 0, .string ⟨#[]⟩] 33)) := ⟨_, Lib.hid rfl⟩
  have hB : Below w.heap.size w V := by rw [hV.out]; exact grewAlloc (grewAlloc (Below.refl _ _) _) _
  have hR : Whole V (w.heap.size + 1) 33 [.int .i64 0, .string ⟨#[]⟩] := by
    rw [hV.out]
    have := Whole.new (w.alloc (.cells #[.int .i64 num, .int .i64 rule, .int .i64 label, .string st, .int .i64 sp, .int .i64 off, .string tt, .int .i64 tp, .string k, .string v, .bool g] 67)) 33 [.int .i64 0, .string ⟨#[]⟩]
    simpa using this
  obtain ⟨fb, hfb⟩ : ∃ q, Hid (w.heap.size + 1 = q) := ⟨_, Lib.hid rfl⟩
  rw [hfb.out] at hR
  have hfw : w.heap.size ≤ fb := by have := hfb.out; omega
  have r0 : V.cell? ⟨fb, 0, none⟩ = some (.int .i64 0) := hR.cell 0
  have r1 : V.cell? ⟨fb, 1, none⟩ = some (.string ⟨#[]⟩) := hR.cell 1
  have f0 := hR.frozen 0
  have f1 := hR.frozen 1
  have hend : Hid (Whole (V.setCells fb 0 [.int .i64 0, .string ⟨#[]⟩]) fb 33 [.int .i64 0, .string ⟨#[]⟩]) := Lib.hid (whole_all hR rfl)
  have hB9 : Hid (Below w.heap.size w (V.setCells fb 0 [.int .i64 0, .string ⟨#[]⟩])) := Lib.hid (below_store hB hfw (Nat.le_refl _) 0 [.int .i64 0, .string ⟨#[]⟩])
  clear hR hB
  go_enter Try.func27, Try.ntmps27
  go_upto_region 1 with fail
  rw [← show V = _ from hV.out, hfb.out]
  clear hV hfb
  go_wp2_with fail
  exact bodyPost_ret (result_cell_tmp Try.results27 rfl rfl hend.out.range Try.underlying33 rfl sizeFr25) rfl ⟨rfl, hB9.out⟩
set_option maxRecDepth 100000 in
set_option maxHeartbeats 4000000 in
theorem finish25_nil (x : Int) (w : World) :
    Calls Try.prog 28 #[.pointer none, .int .i64 x] w fun e w' => e = .returned (.tuple #[.agg #[.int .i64 0, .string ⟨#[]⟩], .int .i64 7]) ∧ Below w.heap.size w w' := by
  obtain ⟨V, hV⟩ : ∃ V, Hid (V = w.alloc (.cells #[.int .i64 0, .string ⟨#[]⟩] 33)) := ⟨_, Lib.hid rfl⟩
  have hB : Below w.heap.size w V := by rw [hV.out]; exact grewAlloc (Below.refl _ _) _
  have hR : Whole V w.heap.size 33 [.int .i64 0, .string ⟨#[]⟩] := by rw [hV.out]; exact Whole.new w _ _
  obtain ⟨fb, hfb⟩ : ∃ q, Hid (w.heap.size = q) := ⟨_, Lib.hid rfl⟩
  rw [hfb.out] at hR
  have hfw : w.heap.size ≤ fb := by have := hfb.out; omega
  have r0 : V.cell? ⟨fb, 0, none⟩ = some (.int .i64 0) := hR.cell 0
  have r1 : V.cell? ⟨fb, 1, none⟩ = some (.string ⟨#[]⟩) := hR.cell 1
  have f0 := hR.frozen 0
  have f1 := hR.frozen 1
  have hend : Hid (Whole (V.setCells fb 0 [.int .i64 0, .string ⟨#[]⟩]) fb 33 [.int .i64 0, .string ⟨#[]⟩]) := Lib.hid (whole_all hR rfl)
  have hB9 : Hid (Below w.heap.size w (V.setCells fb 0 [.int .i64 0, .string ⟨#[]⟩])) := Lib.hid (below_store hB hfw (Nat.le_refl _) 0 [.int .i64 0, .string ⟨#[]⟩])
  clear hR hB
  go_enter Try.func28, Try.ntmps28
  go_upto_region 1 with fail
  rw [← show V = _ from hV.out, hfb.out]
  clear hV hfb
  go_wp2_with fail
  exact bodyPost_ret (result_cell_tmp Try.results28 rfl rfl hend.out.range Try.underlying33 rfl sizeFr25) rfl ⟨rfl, hB9.out⟩
theorem apply25_nil (kd : Int) (p : ByteArray) (w : World) : Calls Try.prog 29 #[.pointer none, .agg #[.int .i64 kd, .string p]] w fun e w' => e = .returned (.int .i64 7) ∧ Below w.heap.size w w' := by
  have hb := Lib.hid (grewAlloc (Below.refl w.heap.size w) (.cells #[.int .i64 kd, .string p] 33))
  go_enter Try.func29, Try.ntmps29
  go_wp2_with fail
  go_ret
  exact ⟨rfl, hb.out⟩
theorem pending25_nil (w : World) : Calls Try.prog 30 #[.pointer none] w fun e w' => e = .returned (.slice none 0 0) ∧ w = w' := by
  go_enter Try.func30, Try.ntmps30
  go_wp2_with fail
  go_ret
  exact ⟨rfl, rfl⟩
theorem last25_nil (w : World) : Calls Try.prog 31 #[.pointer none] w fun e w' => e = .returned (.int .i64 0) ∧ w = w' := by
  go_enter Try.func31, Try.ntmps31
  go_wp2_with fail
  go_ret
  exact ⟨rfl, rfl⟩
theorem done25_nil (w : World) : Calls Try.prog 32 #[.pointer none] w fun e w' => e = .returned (.int .i64 0) ∧ w = w' := by
  go_enter Try.func32, Try.ntmps32
  go_wp2_with fail
  go_ret
  exact ⟨rfl, rfl⟩
theorem snap25_nil (w : World) : Calls Try.prog 33 #[.pointer none] w fun e w' => e = .returned (.slice none 0 0) ∧ w = w' := by
  go_enter Try.func33, Try.ntmps33
  go_wp2_with fail
  go_ret
  exact ⟨rfl, rfl⟩
def longB (st tt k v : ByteArray) : Bool := decide (100 < st.size ∨ 100 < tt.size ∨ 300 < k.size ∨ 300 < v.size)
set_option maxRecDepth 100000 in
set_option maxHeartbeats 4000000 in
theorem long25_any (num rule label : Int) (st : ByteArray) (sp off : Int) (tt : ByteArray) (tp : Int) (k v : ByteArray) (g : Bool) (w : World) :
    Calls Try.prog 26 #[.agg #[.int .i64 num, .int .i64 rule, .int .i64 label, .string st, .int .i64 sp, .int .i64 off, .string tt, .int .i64 tp, .string k, .string v, .bool g]] w fun e w' => e = .returned (.bool (longB st tt k v)) ∧ Below w.heap.size w w' := by
  have hb := Lib.hid (grewAlloc (Below.refl w.heap.size w) (.cells #[.int .i64 num, .int .i64 rule, .int .i64 label, .string st, .int .i64 sp, .int .i64 off, .string tt, .int .i64 tp, .string k, .string v, .bool g] 67))
  unfold longB
  by_cases h0 : 100 < st.size
  · rw [decide_eq_true (.inl h0)]
    have e0 : (100 : Int) < (st.size : Int) := by omega
    go_enter Try.func26, Try.ntmps26
    go_wp2_with fail
    go_ret
    exact ⟨rfl, hb.out⟩
  have e0 : ¬ (100 : Int) < (st.size : Int) := by omega
  by_cases h1 : 100 < tt.size
  · rw [decide_eq_true (.inr (.inl h1))]
    have e1 : (100 : Int) < (tt.size : Int) := by omega
    go_enter Try.func26, Try.ntmps26
    go_wp2_with fail
    go_ret
    exact ⟨rfl, hb.out⟩
  have e1 : ¬ (100 : Int) < (tt.size : Int) := by omega
  by_cases h2 : 300 < k.size
  · rw [decide_eq_true (.inr (.inr (.inl h2)))]
    have e2 : (300 : Int) < (k.size : Int) := by omega
    go_enter Try.func26, Try.ntmps26
    go_wp2_with fail
    go_ret
    exact ⟨rfl, hb.out⟩
  have e2 : ¬ (300 : Int) < (k.size : Int) := by omega
  by_cases h3 : 300 < v.size
  · rw [decide_eq_true (.inr (.inr (.inr h3)))]
    have e3 : (300 : Int) < (v.size : Int) := by omega
    go_enter Try.func26, Try.ntmps26
    go_wp2_with fail
    go_ret
    exact ⟨rfl, hb.out⟩
  have e3 : ¬ (300 : Int) < (v.size : Int) := by omega
  rw [decide_eq_false (fun h => by rcases h with h | h | h | h; exact h0 h; exact h1 h; exact h2 h; exact h3 h)]
  go_enter Try.func26, Try.ntmps26
  go_wp2_with fail
  go_ret
  exact ⟨rfl, hb.out⟩
end Go.Proofs.Ytgogackkeodciaa.W
