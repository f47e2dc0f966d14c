/- Package part: the library's search with a function; below: how many records stand below an offset. -/
import Derived.Test.YtahljbjgenepaaaPtB
import Derived.Laws.EntriesVeiled
import Derived.Deep.QuietTactic
import Derived.BigQuiet
namespace Go.Proofs.Ytahljbjgenepaaa.W
open Go.RowKit Go.Sort
open Go.Proofs.Ytahljbjgenepaaa.M Go.Proofs.Ytahljbjgenepaaa.D Go.Proofs.Ytahljbjgenepaaa.Z
set_option linter.unusedVariables false
set_option linter.unusedSimpArgs false

section
variable (g : Nat) (eg : ∀ args w, (callFunc g args).run Try.prog w = .ok (.enter g args) w)
include eg
set_option maxRecDepth 100000 in
set_option maxHeartbeats 4000000 in
theorem search_any (x y : Value) (n k : Nat) (w : World) (hn : n ≤ 100000) (hk : k ≤ n)
    (hf : ∀ (i : Nat), i < n → ∀ W, Below w.heap.size w W → Calls Try.prog g #[.int .i64 (i : Int), x, y] W fun e w' => e = .returned (.bool (decide (k ≤ i))) ∧ Below W.heap.size W w') :
    Calls Try.prog 48 #[.int .i64 (n : Int), .func (.func g) #[] #[x, y]] w fun e w' => e = .returned (.int .i64 (k : Int)) ∧ Below w.heap.size w w' := by
  replace hf := Lib.hid hf
  go_enter Try.func48, Try.ntmps48
  go_wp2_with fail
  go_loopg [5, 6] n (fun ga f t wr => ∃ (lo hi : Nat), lo ≤ k ∧ k ≤ hi ∧ hi ≤ n ∧ hi ≤ lo + ga ∧ f = .int .i64 (lo : Int) ∧ t = .int .i64 (hi : Int) ∧ Hid (Below w.heap.size w wr))
  case atStart => exact ⟨0, n, by omega, by omega, by omega, by omega, rfl, rfl, Lib.hid (Below.refl _ _)⟩
  case round =>
    obtain ⟨lo, hi, k1, k2, k3, k4, rfl, rfl, hb⟩ := hrel
    generalize wr = wo at *
    by_cases hlt : lo < hi
    · obtain ⟨md, hmd⟩ : ∃ md, Hid ((lo + hi) / 2 = md) := ⟨_, Lib.hid rfl⟩
      have hm1 : lo ≤ md ∧ md < hi := by have := hmd.out; omega
      have hw1 : IntKind.i64.wrap ((lo : Int) + (hi : Int)) = ((lo + hi : Nat) : Int) := by rw [IntWalk.i64_in _ (by omega)]; omega
      have hq3 : ((lo : Int) + (hi : Int)) / 2 = (md : Int) := by have := hmd.out; omega
      have hq4 : ((lo + hi : Nat) : Int) / 2 = (md : Int) := by have := hmd.out; omega
      have hc := hf.out md (by omega) wo hb.out
      have hw5 : IntKind.i64.wrap ((md : Int) + 1) = ((md + 1 : Nat) : Int) := by rw [IntWalk.i64_in _ (by omega)]; omega
      by_cases hc1 : k ≤ md
      · rw [decide_eq_true hc1] at hc
        replace hc := Lib.hid hc
        go_wp2_with fail
        refine hc.out.mono ?_
        rintro _ w1 ⟨rfl, hb1⟩
        have hB1 := Lib.hid (grew hb.out hb1)
        clear hb1 hc
        go_wp2_with fail
        go_roundg (gk - 1)
        case measure => omega
        case rel => exact ⟨lo, md, by omega, by omega, by omega, by omega, rfl, (by go_num), hB1⟩
      · rw [decide_eq_false hc1] at hc
        replace hc := Lib.hid hc
        go_wp2_with fail
        refine hc.out.mono ?_
        rintro _ w1 ⟨rfl, hb1⟩
        have hB1 := Lib.hid (grew hb.out hb1)
        clear hb1 hc
        go_wp2_with fail
        go_roundg (gk - 1)
        case measure => omega
        case rel => exact ⟨md + 1, hi, by omega, by omega, by omega, by omega, (by go_num), rfl, hB1⟩
    · obtain rfl : k = lo := by omega
      go_wp2_with fail
      go_ret
      exact ⟨rfl, hb.out⟩
end

/-- A partition as it lies. -/
structure PtAt (W : World) (pb : Nat) (st nx mk : Int) (rs : List Rc) (va : Option Addr) (c : Nat) : Prop where
  obj : Whole W pb 59 [.int .i64 st, .int .i64 nx, .int .i64 mk, .slice va rs.length c]
  row : RowO W va c rs
section
variable {W W' : World} {pb : Nat} {st nx mk : Int} {rs : List Rc} {va : Option Addr} {c : Nat}
theorem PtAt.below (h : PtAt W pb st nx mk rs va c) (hb : Below W.heap.size W W') : PtAt W' pb st nx mk rs va c := ⟨h.obj.below hb h.obj.lt, h.row.below hb⟩
theorem PtAt.ne (h : PtAt W pb st nx mk rs va c) {q : Nat} (hq : ownB va q) : pb ≠ q := by
  obtain ⟨o, e⟩ := hq
  rcases h.row with ⟨e2, _⟩ | ⟨g, o', cur, e2, hW, _⟩
  · rw [e] at e2; cases e2
  · rw [e] at e2; cases e2
    exact h.obj.ne hW (by decide)
end
/-- How many records stand below an offset. -/
def cutN (off : Int) (rs : List Rc) : Nat := (rs.takeWhile (fun r => decide (r.off < off))).length
/-- Rising offsets. -/
def risL : List Rc → Prop
  | [] => True
  | r :: t => (∀ x ∈ t, r.off < x.off) ∧ risL t
theorem cutN_le (off : Int) (rs : List Rc) : cutN off rs ≤ rs.length := by unfold cutN; exact (List.takeWhile_sublist _).length_le
theorem cutN_at {off : Int} : ∀ {rs : List Rc} {i : Nat} {r : Rc}, risL rs → rs[i]? = some r → (cutN off rs ≤ i ↔ off ≤ r.off)
  | [], i, r, _, h => by simp at h
  | x :: t, 0, r, hr, h => by
    obtain rfl : x = r := by simpa using h
    unfold cutN
    rw [List.takeWhile_cons]
    by_cases e : x.off < off
    · simp [e]
    · simp [e]; omega
  | x :: t, i + 1, r, hr, h => by
    have h2 : t[i]? = some r := by simpa using h
    have ih := cutN_at (off := off) hr.2 h2
    have hx := hr.1 r (List.mem_of_getElem? h2)
    unfold cutN at ih ⊢
    rw [List.takeWhile_cons]
    by_cases e : x.off < off
    · simp only [e, decide_true, if_true, List.length_cons]; omega
    · simp only [e, decide_false, Bool.false_eq_true, if_false, List.length_nil]; omega

set_option maxRecDepth 100000 in
theorem notBelow_any (pbx obx pb n c b o i : Nat) (off x : Int) (W : World) (hp : W.cell? ⟨pbx, 0, none⟩ = some (.pointer (some ⟨pb, 0, none⟩))) (ho : W.cell? ⟨obx, 0, none⟩ = some (.int .i64 off))
    (h3 : W.cell? ⟨pb, 3, none⟩ = some (.slice (some ⟨b, o, none⟩) n c)) (hi : i < n) (hr : W.cell? ⟨b, o + i * 8, none⟩ = some (.int .i64 x)) :
    Calls Try.prog 47 #[.int .i64 (i : Int), .pointer (some ⟨pbx, 0, none⟩), .pointer (some ⟨obx, 0, none⟩)] W fun e w' => e = .returned (.bool (decide (off ≤ x))) ∧ Below W.heap.size W w' := by
  have hin : (i : Int) < (n : Int) := by omega
  have hi0 : (0 : Int) ≤ (i : Int) := by omega
  go_enter Try.func47, Try.ntmps47
  go_wp2_with fail
  go_quiet (fail)
  go_wp2_with fail
  go_ret
  exact ⟨rfl, ⟨rfl, rfl, rfl, Nat.le_refl _, fun _ _ => rfl⟩⟩

theorem cloB (args : Array Value) (W : World) : (callFunc 47 args).run Try.prog W = .ok (.enter 47 args) W := by kernel_rfl
set_option maxRecDepth 100000 in
set_option maxHeartbeats 4000000 in
theorem pbelow_any {pb : Nat} {st nx mk : Int} {rs : List Rc} {va : Option Addr} {c : Nat} (off : Int) (w : World) (h : PtAt w pb st nx mk rs va c) (hn : rs.length ≤ 100000) (hr : risL rs) :
    Calls Try.prog 36 #[.pointer (some ⟨pb, 0, none⟩), .int .i64 off] w fun e w' => e = .returned (.int .i64 (cutN off rs : Int)) ∧ Below w.heap.size w w' := by
  obtain ⟨V, hV⟩ : ∃ V, Hid (V = (w.alloc (.cells #[.pointer (some ⟨pb, 0, none⟩)] 25)).alloc (.cells #[.int .i64 off] 3)) := ⟨_, Lib.hid rfl⟩
  have hb0 : Below w.heap.size w V := by rw [hV.out]; exact grewAlloc (grewAlloc (Below.refl _ _) _) _
  have hP0 : Whole V w.heap.size 25 [.pointer (some ⟨pb, 0, none⟩)] := by rw [hV.out]; exact (Whole.new w _ [.pointer (some ⟨pb, 0, none⟩)]).alloc _
  have hO0 : Whole V (w.heap.size + 1) 3 [.int .i64 off] := by
    rw [hV.out]
    have := Whole.new (w.alloc (.cells #[.pointer (some ⟨pb, 0, none⟩)] 25)) 3 [.int .i64 off]
    rwa [show (w.alloc (.cells #[.pointer (some ⟨pb, 0, none⟩)] 25)).heap.size = w.heap.size + 1 from by simp] at this
  obtain ⟨q, hq⟩ : ∃ q, Hid (w.heap.size = q) := ⟨_, Lib.hid rfl⟩
  rw [hq.out] at hP0 hO0
  have h0 := h.below hb0
  have p0 : V.cell? ⟨q, 0, none⟩ = some (.pointer (some ⟨pb, 0, none⟩)) := hP0.cell 0
  have o0 : V.cell? ⟨q + 1, 0, none⟩ = some (.int .i64 off) := hO0.cell 0
  have c3 : V.cell? ⟨pb, 3, none⟩ = some (.slice va rs.length c) := h0.obj.cell 3
  have hf : ∀ (i : Nat), i < rs.length → ∀ W, Below V.heap.size V W → Calls Try.prog 47 #[.int .i64 (i : Int), .pointer (some ⟨q, 0, none⟩), .pointer (some ⟨q + 1, 0, none⟩)] W fun e w' => e = .returned (.bool (decide (cutN off rs ≤ i))) ∧ Below W.heap.size W w' := fun i hi W hb => by
    obtain ⟨r, hr1⟩ : ∃ r, rs[i]? = some r := ⟨_, List.getElem?_eq_getElem hi⟩
    obtain ⟨b, o, e, d0, _⟩ := (h0.below hb).row.at_.get hr1
    have c3' := keepZ hb c3
    rw [e] at c3'
    have := notBelow_any q (q + 1) pb rs.length c b o i off r.off W (keepZ hb p0) (keepZ hb o0) c3' hi d0
    rwa [show decide (off ≤ r.off) = decide (cutN off rs ≤ i) from decide_eq_decide.2 (cutN_at hr hr1).symm] at this
  have hse := search_any 47 cloB (.pointer (some ⟨q, 0, none⟩)) (.pointer (some ⟨q + 1, 0, none⟩)) rs.length (cutN off rs) V hn (cutN_le off rs) hf
  obtain ⟨N, hN⟩ : ∃ N, Hid (rs.length = N) := ⟨_, Lib.hid rfl⟩
  rw [hN.out] at hse c3
  replace hse := Lib.hid hse
  replace hb0 := Lib.hid hb0
  clear hf h0 hP0 hO0 h o0
  go_enter Try.func36, Try.ntmps36
  go_upto_region 1 with fail
  rw [← show V = _ from hV.out, hq.out]
  clear hV hq
  go_wp2_with fail
  refine hse.out.mono ?_
  rintro _ w1 ⟨rfl, hb1⟩
  have hB1 := Lib.hid (grew hb0.out hb1)
  clear hb1 hse
  go_wp2_with fail
  go_ret
  exact ⟨rfl, hB1.out⟩
end Go.Proofs.Ytahljbjgenepaaa.W
