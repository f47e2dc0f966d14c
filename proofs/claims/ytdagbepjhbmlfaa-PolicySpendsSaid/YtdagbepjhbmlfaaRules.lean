/- Rows of rules that come in, and their copies. -/
import Derived.Test.YtdagbepjhbmlfaaProg
import Derived.Test.YtdagbepjhbmlfaaLedger
import Derived.Deep.AppendLies
import Derived.Laws.AppendOwnNone
import Derived.OpenShut
import Derived.Deep.Slices
import Derived.ChangeSame
import Derived.WideShapes
namespace Go.Proofs.Ytdagbepjhbmlfaa.Q
open Go.RowKit
open Go.Proofs.Ytdagbepjhbmlfaa.Z
open Go.Proofs.Ytdagbepjhbmlfaa.D (Whole splice_row Kept Even flat_len)
set_option linter.unusedVariables false

/-- What is known of a []Rule that came in. -/
structure Rls (w : World) (a : Option Addr) (n cap : Nat) (r : Nat → Rule1) : Prop where
  le : n ≤ cap
  max : cap ≤ maxLen
  nil : a = none → n = 0
  cell : ∀ k, k < n → ∃ b o, a = some ⟨b, o, none⟩ ∧ w.cell? ⟨b, o + k * 3, none⟩ = some (.int .i64 (r k).from_) ∧ w.cell? ⟨b, o + k * 3 + 1, none⟩ = some (.int .i64 (r k).to) ∧ w.cell? ⟨b, o + k * 3 + 2, none⟩ = some (.int .i64 (r k).bud)
theorem Rls.below {w w' : World} {a : Option Addr} {n cap : Nat} {r : Nat → Rule1} (h : Rls w a n cap r) (hb : Below w.heap.size w w') : Rls w' a n cap r :=
  ⟨h.le, h.max, h.nil, fun k hk => let ⟨b, o, e, h1, h2, h3⟩ := h.cell k hk; ⟨b, o, e, keepC hb h1, keepC hb h2, keepC hb h3⟩⟩
def rrow (r : Rule1) : List Value := [.int .i64 r.from_, .int .i64 r.to, .int .i64 r.bud]
def rrows (r : Nat → Rule1) (n : Nat) : List (List Value) := (List.range n).map fun k => rrow (r k)
theorem rrows_even (r : Nat → Rule1) (n : Nat) : Even 3 (rrows r n) := fun x hx => by
  obtain ⟨k, _, rfl⟩ := List.mem_map.1 hx
  rfl
theorem rrows_len (r : Nat → Rule1) (n : Nat) : (rrows r n).length = n := by simp [rrows]
theorem rrows_at (r : Nat → Rule1) (n : Nat) (k : Nat) (hk : k < n) : (rrows r n)[k]? = some (rrow (r k)) := by
  unfold rrows
  rw [List.getElem?_map, List.getElem?_range hk]; rfl
theorem infoRule : (Try.prog.info? 69).map (fun i => (i.zero, i.size, i.bytes)) = some (some (.agg #[.int .i64 0, .int .i64 0, .int .i64 0]), 3, 24) := by kernel_rfl
theorem zAppend' {P : Program} {w : World} {ops : Array Oper} {rest : List Oper} {o : Oper} {a : Go.Act} {Q : Exit → Go.Act → World → Prop} (x y : Operand) (t : TypeId) (ho : o.op = .call { callee := .builtin .append, args := #[x, y], argTypes := #[t, t] }) (h : Hid (wpList P ops Q (o :: rest) a w)) : wpList P ops Q (o :: rest) a w := h
theorem eql_nil (w : World) (a : Option Addr) (n c : Nat) : (binOp .eql 54 (.slice a n c) (.slice none 0 0)).run Try.prog w = .ok (.bool a.isNone) w := by
  simp only [binOp]
  simp [Op.equal, Op.maxDepth, Lib.run_equalIn_slice_nil w 9999 54 69 a n c 0 0 Try.underlying54]
/-- A copy of the rules: below w's blocks nothing is new. -/
def Copied (w : World) (n : Nat) (r : Nat → Rule1) (e : Ending) (w' : World) : Prop :=
  ∃ va c, e = .returned (.slice va n c) ∧ Below w.heap.size w w' ∧ n ≤ c ∧ c ≤ maxLen ∧ ∀ k, k < n → ∃ b, va = some ⟨b, 0, none⟩ ∧ w.heap.size ≤ b ∧ b < w'.heap.size ∧ w'.cell? ⟨b, k * 3, none⟩ = some (.int .i64 (r k).from_) ∧ w'.cell? ⟨b, k * 3 + 1, none⟩ = some (.int .i64 (r k).to) ∧ w'.cell? ⟨b, k * 3 + 2, none⟩ = some (.int .i64 (r k).bud)
set_option maxRecDepth 100000 in
theorem clone_any (a : Option Addr) (n cap : Nat) (r : Nat → Rule1) (w : World) (h : Rls w a n cap r) (h16 : n ≤ 16) :
    Calls Try.prog 76 #[.slice a n cap] w (Copied w n r) := by
  obtain ⟨i0, hi0, hz0, hz1, hz2⟩ := info_parts infoRule
  have hl := h.le
  have hm := h.max
  unfold maxLen at hm
  by_cases hn : n = 0
  · subst hn
    cases a with
    | none =>
      clear h
      have hnil : ∀ W, (binOp .eql 54 (.slice none 0 cap) (.slice none 0 0)).run Try.prog W = .ok (.bool true) W := fun W => eql_nil W _ _ _
      go_enter Try.func76, Try.ntmps76
      go_wp2_with fail
      go_ret
      exact ⟨none, 0, rfl, Below.refl _ _, Nat.le_refl _, by decide, fun k hk => absurd hk (Nat.not_lt_zero k)⟩
    | some x =>
      clear h
      have hnil : ∀ W, (binOp .eql 54 (.slice (some x) 0 cap) (.slice none 0 0)).run Try.prog W = .ok (.bool false) W := fun W => eql_nil W _ _ _
      go_enter Try.func76, Try.ntmps76
      go_wp2_with fail
      go_ret
      exact ⟨some ⟨w.heap.size, 0, none⟩, 0, rfl, allocB _ _, Nat.le_refl _, by decide, fun k hk => absurd hk (Nat.not_lt_zero k)⟩
  · obtain ⟨b, o, rfl, _⟩ := h.cell 0 (by omega)
    have hnews : ∀ j u, (rrows r n).flatten[j]? = some u → w.cell? ((⟨b, o, none⟩ : Addr).add j) = some u := fun j u hu => by
      have hj : j < n * 3 := by
        have := (List.getElem?_eq_some_iff.1 hu).1
        rw [flat_len (rrows_even r n), rrows_len] at this
        exact this
      have e : j = (j / 3) * 3 + j % 3 := by omega
      have hk : j / 3 < n := by omega
      rw [e, Go.Proofs.Ytdagbepjhbmlfaa.D.flat_at (rrows_even r n) (j / 3) (j % 3) (Nat.mod_lt _ (by omega)), rrows_at r n _ hk] at hu
      obtain ⟨b', o', e', c0, c1, c2⟩ := h.cell (j / 3) hk
      cases e'
      rw [Addr.add_mid, show o + j = o + j / 3 * 3 + j % 3 by omega]
      rcases (by omega : j % 3 = 0 ∨ j % 3 = 1 ∨ j % 3 = 2) with h0 | h0 | h0 <;> rw [h0] at hu ⊢
      · simp only [rrow] at hu
        rw [← hu]; exact c0
      · simp only [rrow] at hu
        rw [← hu]; exact c1
      · simp only [rrow] at hu
        rw [← hu]; exact c2
    have hn0 : 0 < n := by omega
    replace hnews := Lib.hid hnews
    clear h hn
    have hnil : ∀ W, (binOp .eql 54 (.slice (some ⟨b, o, none⟩) n cap) (.slice none 0 0)).run Try.prog W = .ok (.bool false) W := fun W => eql_nil W _ _ _
    go_enter Try.func76, Try.ntmps76
    go_wp2_with (with_reducible refine zAppend' _ _ _ rfl ?_)
    refine Lib.hid ?_
    refine wpList_append_lies _ rfl _ _ 54 rfl w.heap.size 69 i0 _ 3 24 Try.underlying54 hi0 hz0 hz1 hz2 rfl (by omega) (.slice (some ⟨w.heap.size, 0, none⟩) 0 0) 0 [] rfl ⟨rfl, .inr ⟨w.heap.size, 0, #[], rfl, Nat.le_refl _, heap_alloc_new _ _, Nat.le_refl _, by decide, rfl, rfl⟩⟩ ⟨b, o, none⟩ n cap (rrows r n).flatten rfl (by rw [flat_len (rrows_even r n), rrows_len]) ?c1 ?c2 hn0 (by unfold maxLen; omega) (by omega) (by simp) (w.heap.size + 1) (by simp) ?_
    case c1 => exact fun j u hu => keepC (allocB w _) (hnews.out j u hu)
    case c2 =>
      intro u hu
      obtain ⟨l, hl1, hl2⟩ := List.mem_flatten.1 hu
      obtain ⟨k, _, rfl⟩ := List.mem_map.1 hl1
      simp only [rrow, List.mem_cons, List.mem_nil_iff, or_false] at hl2
      rcases hl2 with rfl | rfl | rfl <;> rfl
    intro gg cap2 w5 hown5 hgrow5 hat5 hlt5
    have hb5 : Below w.heap.size w w5 := (((Kept.of_below (own := fun b => w.heap.size ≤ b) (allocB w (.cells #[] 69))).grown hgrow5 (fun k hk => .inl (by simp [Value.ownBlock] at hk; omega)))).below (Nat.le_refl _) (fun _ h => h)
    rw [Nat.zero_add, List.nil_append] at hown5
    obtain ⟨g2, c2, e2, h1, h2, h3, h4, h5⟩ := ownRows hn0 (rrows_even r n) (rrows_len r n) hown5
    simp only [Value.slice.injEq, Option.some.injEq, Addr.mk.injEq, and_true, true_and] at e2
    obtain ⟨rfl, rfl⟩ := e2
    unfold maxLen at h2
    have hfin : Hid (∀ k, k < n → ∃ b, (some ⟨gg, 0, none⟩ : Option Addr) = some ⟨b, 0, none⟩ ∧ w.heap.size ≤ b ∧ b < w5.heap.size ∧ w5.cell? ⟨b, k * 3, none⟩ = some (.int .i64 (r k).from_) ∧ w5.cell? ⟨b, k * 3 + 1, none⟩ = some (.int .i64 (r k).to) ∧ w5.cell? ⟨b, k * 3 + 2, none⟩ = some (.int .i64 (r k).bud)) := Lib.hid (fun k hk => by
      have hr := h5 k _ (rrows_at r n k hk)
      exact ⟨gg, rfl, h3, h4, hr 0 _ rfl, hr 1 _ rfl, hr 2 _ rfl⟩)
    clear hown5 hgrow5 hat5 h5 hnews
    rw [Nat.zero_add]
    go_wp2_with fail
    go_ret
    exact ⟨_, cap2, rfl, hb5, h1, h2, hfin.out⟩
end Go.Proofs.Ytdagbepjhbmlfaa.Q
