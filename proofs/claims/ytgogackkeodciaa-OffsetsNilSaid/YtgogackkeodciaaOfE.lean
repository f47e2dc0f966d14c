/- Package offsets: the iterator over the keys of a table of one key. -/
import Derived.Test.YtgogackkeodciaaOfC
import Derived.RangeFuncGives
import Derived.RangeFuncSeq
import Derived.Sort.MapsRangeIn
import Derived.Maps.AppendAt
import Derived.Maps.OwnIn
import Derived.Shelf.Abstract
import Derived.WalkKit
import Derived.OwnWalkIn
import Derived.TacticsInMore
import Derived.RegionIn
import Derived.LoopNIn
import Derived.LoopIn
namespace Go.Proofs.Ytgogackkeodciaa.W
open Go.RowKit Go.Maps Go.Sort Go.Shelf
open Go.Proofs.Ytgogackkeodciaa.M Go.Proofs.Ytgogackkeodciaa.D Go.Proofs.Ytgogackkeodciaa.Z
set_option linter.unusedVariables false
set_option linter.unusedSimpArgs false

theorem sameKey24 {a b : Lit} (ha : WideAt.IsKeyLit a) (h : a.sameKey b = true) : a = b := by
  cases a <;> cases b <;> simp_all [Lit.sameKey, WideAt.IsKeyLit]
set_option maxRecDepth 100000 in
set_option maxHeartbeats 4000000 in
theorem ky1_in (F : Fence) (n : Nat) (hf : F.fn 83) (hro : F.round = none) (hn : 1 ≤ n) (l Bm b nn : Nat) (g t : ByteArray) (p : Int) (d : DataW Unit) (hg : g.size ≤ maxLen) (ht : t.size ≤ maxLen) (hp : (Lit.int .i64 p).wf = true) (J : List Unit → World → Prop)
    (hY : ∀ pre W, J pre W → pre.length < 1 → YieldAt F (n - 1) Try.prog l #[.agg #[.string g, .string t, .int .i64 p]] W fun e W' => e = .returned (.bool true) ∧ J (pre ++ [()]) W' ∧ KeepsWalks W W')
    (W : World) (hJ : AbidesFrom W.heap.size J) (hm : W.cell? ⟨Bm, 0, none⟩ = some (.map (some b))) (hown : offM W b nn (.map [(kyK g t p, d)])) (h0 : J [] W) :
    CallsIn F n Try.prog 83 #[.func (.yield l) #[] #[], .pointer (some ⟨Bm, 0, none⟩)] W fun e W' => (∃ v, e = .returned v) ∧ ∃ ss : List Unit, ss = [()] ∧ J ss W' := by
  refine callsIn_of_wp Try.func83 rfl hf ?_ hro
  simp only [Try.ntmps83, List.size_toArray, List.length_cons, List.length_nil, Nat.reduceAdd, Nat.reduceSub, Array.replicate_succ, Array.replicate_zero, List.push_toArray, List.append_toArray, List.nil_append, List.cons_append]
  gi_wp2_with (first
    | (gi_at_range; refine wpListIn_range_own _ rfl _ 77 rfl 26 3 kyLaw Try.underlying77 _ b nn _ rfl hown ?_; intro w0 hrg0 hg0 hs0)
    | gi_in)
  go_frame
  gi_loopw [3] (fun _ wr => ∃ (left : Lit → Bool) (cnt : Nat) (ss : List Unit), wr.ranges Try.prog 26 (Go.plainElem Try.prog 3) b W.heap.size nn (.map [(kyK g t p, d)]) left cnt ∧ J ss wr ∧ ((ss = [] ∧ ∀ kl, left kl = Maps.has (.map [(kyK g t p, d)] : DataW Unit) kl) ∨ (ss = [()] ∧ ∀ kl, left kl = false)))
    (fun _ wr => wr.rangeLeft b W.heap.size)
  case atStart =>
    exact ⟨_, _, [], hrg0, hJ [] W w0 none h0 hg0 (fun r e => by cases e), .inl ⟨rfl, fun kl => rfl⟩⟩
  case round =>
    obtain ⟨left, cnt, ss, hrg, hJs, hC⟩ := hrel
    gi_wp2_with (first
      | (gi_at_next; refine wpListIn_next_ranges _ rfl _ rfl 26 kyLaw (Go.plainElem Try.prog 3) (fun v : Value => v) (Value.int .i64) (fun key kl hk => ⟨key, rfl⟩) (fun v y hv => by obtain ⟨c, rfl, _⟩ := plainElem_int_inv Try.underlying3 hv; exact ⟨c, rfl⟩) b W.heap.size nn _ _ _ rfl hrg ?_ ?_)
      | gi_in)
    · intro hc0 hl0
      have hss : ss = [()] := by
        rcases hC with ⟨_, h2⟩ | ⟨h1, _⟩
        · exfalso
          have := hl0 (kyK g t p)
          rw [h2] at this
          revert this
          simp [Maps.has, kyK, Lit.sameKey]
        · exact h1
      gi_wp2
      go_end0
      exact ⟨⟨_, rfl⟩, ss, hss, hJs⟩
    · intro x c kl yd yp w2 cnt2 hkey hlk hv hat hrg2 hlt hg2 hs2 hen
      rcases hC with ⟨rfl, hl⟩ | ⟨_, h2⟩
      · have hk : kyK g t p = kl := by
          rw [hl] at hlk
          exact sameKey24 (by unfold kyK; trivial) (by simpa [Maps.has] using hlk)
        subst hk
        obtain rfl : x = .agg #[.string g, .string t, .int .i64 p] := kyLaw.inj hkey (kyK_of hg ht hp)
        have hJ2 : J [] w2 := hJ [] wr w2 (some W.heap.size) hJs hg2 (fun r e => by cases e; exact ⟨Nat.le_refl _, hrg.iter_walk⟩)
        have hJ3 : J [] (w2.alloc (.cells #[.string g, .string t, .int .i64 p] 26)) := hJ [] w2 _ none hJ2 (World.grownBy_alloc w2 _ none) (fun r e => by cases e)
        obtain ⟨fn, tmps, assign, body, hy, hR⟩ := hY [] _ hJ3 (by decide)
        clear hs2
        gi_wp2
        refine hR.mono ?_
        rintro e W3 ⟨rfl, hJ4, hk3⟩
        gi_wp2
        have hrg3 := hrg2.of_walks ((KeepsWalks.alloc _ _).trans hk3)
        go_roundw
        case rel => exact ⟨_, cnt2, [()], hrg3, hJ4, .inr ⟨rfl, fun z => by
          cases hz : left z with
          | false => rfl
          | true =>
            rw [hl] at hz
            have e : kyK g t p = z := sameKey24 (by unfold kyK; trivial) (by simpa [Maps.has] using hz)
            subst e
            simp [kyK, Lit.sameKey]⟩⟩
        case measure => rw [hrg3.left_eq, hrg.left_eq]; exact hlt
      · rw [h2] at hlk; cases hlk
end Go.Proofs.Ytgogackkeodciaa.W
