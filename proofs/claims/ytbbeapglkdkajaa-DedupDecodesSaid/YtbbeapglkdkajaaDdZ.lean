/- The definition's number and Decode (18.3), whatever the bytes. -/
import Derived.Test.YtbbeapglkdkajaaDdY
import Derived.Test.YtbbeapglkdkajaaDdW
namespace Go.Proofs.Ytbbeapglkdkajaa.W
open Go.RowKit Go.Sort
open Go.Proofs.Ytbbeapglkdkajaa.M Go.Proofs.Ytbbeapglkdkajaa.D Go.Proofs.Ytbbeapglkdkajaa.Z
set_option linter.unusedVariables false
set_option linter.unusedSimpArgs false

set_option maxRecDepth 100000 in
set_option maxHeartbeats 2000000 in
theorem rnum_none (x : ByteArray) (l : List UInt8) (p : Nat) (w : World) (hx : x.data.toList = l.drop p) (hs : x.size ≤ 100000) (h : numR l p = none) :
    Calls Try.prog 44 #[.string x] w fun e w' => e = .returned (.tuple #[.int .i64 0, .int .i64 (-1)]) ∧ Below w.heap.size w w' := by
  have hu := fun W => runchain_any x W (by omega)
  rw [hx] at hu
  obtain ⟨⟨v, m, e⟩, hU⟩ : ∃ u, unch (l.drop p) = u := ⟨_, rfl⟩
  rw [hU] at hu
  dsimp only at hu
  have hbad : e ≠ 0 ∨ (e = 0 ∧ 1099511627776 < v) := by
    unfold numR chAt at h
    rw [hU] at h
    dsimp only at h
    by_cases he : e = 0
    · rw [if_pos he] at h
      dsimp only at h
      by_cases hv : v ≤ 1099511627776
      · rw [if_pos hv] at h; cases h
      · exact .inr ⟨he, by omega⟩
    · exact .inl he
  obtain ⟨W2, hW2⟩ : ∃ W2, Hid (W2 = (w.alloc (.cells #[.int .u64 v, .int .i64 m, .int .i64 e] 111)).alloc (.cells #[.int .u64 v, .int .i64 m, .int .i64 e] 111)) := ⟨_, Lib.hid rfl⟩
  have hB : Below w.heap.size w W2 := by rw [hW2.out]; exact grewAlloc (grewAlloc (Below.refl _ _) _) _
  have hgot : Whole W2 (w.heap.size + 1) 111 [.int .u64 v, .int .i64 m, .int .i64 e] := by
    rw [hW2.out]
    have h := Whole.new (w.alloc (.cells #[.int .u64 v, .int .i64 m, .int .i64 e] 111)) 111 [.int .u64 v, .int .i64 m, .int .i64 e]
    simpa using h
  obtain ⟨rb, hrb⟩ : ∃ rb, Hid (w.heap.size + 1 = rb) := ⟨_, Lib.hid rfl⟩
  rw [hrb.out] at hgot
  have q0 := hgot.cell 0
  have q1 := hgot.cell 1
  have q2 := hgot.cell 2
  simp only [List.getElem?_cons_zero, List.getElem?_cons_succ] at q0 q1 q2
  replace hu := Lib.hid hu
  replace hB := Lib.hid hB
  clear h hU hx hs hgot
  rcases hbad with he | ⟨he, hv⟩
  · have he2 : (e != 0) = true := by simpa using he
    have he3 : (e == 0) = false := by simpa using he
    replace he := Lib.hid he
    go_enter Try.func44, Try.ntmps44
    go_wp2_with fail
    refine (hu.out _).mono ?_
    rintro e w1 ⟨rfl, rfl⟩
    go_upto_region 2 with fail
    rw [← show W2 = _ from hW2.out, hrb.out]
    clear hW2 hrb
    go_wp2_with fail
    go_ret2
    exact ⟨rfl, hB.out⟩
  · subst he
    go_enter Try.func44, Try.ntmps44
    go_wp2_with fail
    refine (hu.out _).mono ?_
    rintro e w1 ⟨rfl, rfl⟩
    go_upto_region 2 with fail
    rw [← show W2 = _ from hW2.out, hrb.out]
    clear hW2 hrb
    go_wp2_with fail
    go_ret2
    exact ⟨rfl, hB.out⟩
set_option maxRecDepth 100000 in
set_option maxHeartbeats 2000000 in
theorem rnum_some (x : ByteArray) (l : List UInt8) (p n : Nat) (v : Int) (w : World) (hx : x.data.toList = l.drop p) (hs : x.size ≤ 100000) (hp : p ≤ l.length) (h : numR l p = some (v, p + n)) :
    Calls Try.prog 44 #[.string x] w fun e w' => e = .returned (.tuple #[.int .i64 v, .int .i64 (n : Int)]) ∧ Below w.heap.size w w' := by
  have hu := fun W => runchain_any x W (by omega)
  rw [hx] at hu
  obtain ⟨_, _, _, h0, hm, _⟩ := numD_in h hp
  have hU : unch (l.drop p) = (v, (n : Int), 0) := by
    obtain ⟨hc, _⟩ := numR_some h
    unfold chAt at hc
    obtain ⟨f0, f1, hf⟩ := unch_facts (l.drop p)
    obtain ⟨v', m, e, hU⟩ : ∃ v n x, unch (l.drop p) = (v, n, x) := ⟨_, _, _, rfl⟩
    rw [hU] at hc hf ⊢
    dsimp only at hc hf
    by_cases he : e = 0
    · subst he
      rw [if_pos rfl] at hc
      simp only [Option.some.injEq, Prod.mk.injEq] at hc
      obtain ⟨rfl, hq⟩ := hc
      rcases hf with ⟨_, hn1, _⟩ | ⟨hx, _⟩
      · have : m = (n : Int) := by omega
        rw [this]
      · exact absurd rfl hx
    · rw [if_neg he] at hc; cases hc
  rw [hU] at hu
  dsimp only at hu
  have hv2 : ¬ 1099511627776 < v := by omega
  have hwv : IntKind.i64.wrap v = v := IntWalk.i64_in _ (by omega)
  have hwv2 : wrap64 v = v := by unfold wrap64; omega
  obtain ⟨W2, hW2⟩ : ∃ W2, Hid (W2 = (w.alloc (.cells #[.int .u64 v, .int .i64 (n : Int), .int .i64 0] 111)).alloc (.cells #[.int .u64 v, .int .i64 (n : Int), .int .i64 0] 111)) := ⟨_, Lib.hid rfl⟩
  have hB : Below w.heap.size w W2 := by rw [hW2.out]; exact grewAlloc (grewAlloc (Below.refl _ _) _) _
  have hgot : Whole W2 (w.heap.size + 1) 111 [.int .u64 v, .int .i64 (n : Int), .int .i64 0] := by
    rw [hW2.out]
    have h := Whole.new (w.alloc (.cells #[.int .u64 v, .int .i64 (n : Int), .int .i64 0] 111)) 111 [.int .u64 v, .int .i64 (n : Int), .int .i64 0]
    simpa using h
  obtain ⟨rb, hrb⟩ : ∃ rb, Hid (w.heap.size + 1 = rb) := ⟨_, Lib.hid rfl⟩
  rw [hrb.out] at hgot
  have q0 := hgot.cell 0
  have q1 := hgot.cell 1
  have q2 := hgot.cell 2
  simp only [List.getElem?_cons_zero, List.getElem?_cons_succ] at q0 q1 q2
  replace hu := Lib.hid hu
  replace hB := Lib.hid hB
  have hbz : Below w.heap.size w W2 ∧ ∀ k, Below w.heap.size w (W2.drewN k) := ⟨hB.out, fun k => hB.out.trans ((((Kept.refl (fun _ => False) W2).drewN k).below (Nat.le_refl _) (fun _ h => h.elim)).mono hB.out.size)⟩
  replace hbz := Lib.hid hbz
  clear h hU hx hs hgot hp hB
  · go_enter Try.func44, Try.ntmps44
    go_wp2_with fail
    refine (hu.out _).mono ?_
    rintro e w1 ⟨rfl, rfl⟩
    go_upto_region 2 with fail
    rw [← show W2 = _ from hW2.out, hrb.out]
    clear hW2 hrb
    go_wp2_with fail
    go_quiet (fail)
    go_wp2_with fail
    go_ret2
    exact ⟨rfl, hbz.out.2 _⟩
end Go.Proofs.Ytbbeapglkdkajaa.W
