/- Package release: its small calls: within, joined, chain, mark, Digest; a release as data, and its entry's bytes. -/
import Derived.Test.YtgogackkeodciaaTpD
import Derived.Test.YtgogackkeodciaaBtB
import Derived.Test.YtgogackkeodciaaUntexts
import Derived.Test.YtgogackkeodciaaFixed
import Derived.Test.YtgogackkeodciaaSums
import Derived.Test.YtgogackkeodciaaShelf
namespace Go.Proofs.Ytgogackkeodciaa.W
open Go.RowKit Go.Sort
open Go.Proofs.Ytgogackkeodciaa.M Go.Proofs.Ytgogackkeodciaa.D Go.Proofs.Ytgogackkeodciaa.Z
set_option linter.unusedVariables false
set_option linter.unusedSimpArgs false

/-- A release. -/
structure Re where
  num : Int
  rule : Int
  label : Int
  st : ByteArray
  sp : Int
  off : Int
  tt : ByteArray
  tp : Int
  k : ByteArray
  v : ByteArray
  g : Bool
abbrev reL (r : Re) : List Value := [.int .i64 r.num, .int .i64 r.rule, .int .i64 r.label, .string r.st, .int .i64 r.sp, .int .i64 r.off, .string r.tt, .int .i64 r.tp, .string r.k, .string r.v, .bool r.g]
def gB (g : Bool) : List UInt8 := if g then [1] else [0]
def digL (k v : ByteArray) (g : Bool) : List UInt8 := textL k.data.toList ++ textL v.data.toList ++ gB g
def relE (r : Re) : List UInt8 :=
  (chain r.num ++ chain r.rule ++ chain r.label) ++ ((textL r.st.data.toList ++ chain r.sp) ++ chain r.off ++ (textL r.tt.data.toList ++ chain r.tp)) ++ (fx (dig (digL r.k r.v r.g) : Nat) 8 ++ gB r.g ++ textL r.k.data.toList ++ textL r.v.data.toList)
theorem join_empty (xs : List (List UInt8)) : Lib.join xs [] = xs.flatten := by
  cases xs with
  | nil => rfl
  | cons x r =>
    rw [Lib.join_cons]
    unfold Lib.joinTail
    simp
theorem prAt_whole25 {W : World} {q : Nat} {t : TypeId} {ps : List Pr} (h : Whole W q t (prRows ps)) : PrAt W (some ⟨q, 0, none⟩) ps := fun i p hi =>
  ⟨q, 0, rfl, h.lt, fun j v hj => by rw [Nat.zero_add, h.cell]; exact prRows_at ps i p hi j v hj⟩
theorem keepNew25 {V0 w : World} (h : Below V0.heap.size V0 w) (o : Obj) : Below V0.heap.size V0 (w.alloc o) := grewAlloc h o
theorem textB_small {s : ByteArray} {n : Nat} (h : s.size ≤ n) : (B (textL s.data.toList)).size ≤ n + 10 := by
  rw [B_size]
  have := textL_most s.data.toList
  have h2 : s.data.toList.length = s.size := rfl
  omega
theorem chain25_len (v : Int) : (chain v).length ≤ 10 := (chF_length 9 v).2
theorem chainB_small (v : Int) : (B (chain v)).size ≤ 10 := by rw [B_size]; exact chain25_len v
theorem gB_small (g : Bool) : (B (gB g)).size ≤ 1 := by rw [B_size]; cases g <;> decide
theorem within25_any (n a b : Int) (w : World) : Calls Try.prog 63 #[.int .i64 n, .int .i64 a, .int .i64 b] w fun e w' => e = .returned (.bool (decide (a ≤ n ∧ n ≤ b))) ∧ w = w' := by
  by_cases h0 : a ≤ n
  · by_cases h1 : n ≤ b
    · rw [decide_eq_true (show a ≤ n ∧ n ≤ b from ⟨h0, h1⟩)]
      go_enter Try.func63, Try.ntmps63
      go_wp2_with fail
      go_ret
      exact ⟨rfl, rfl⟩
    · rw [decide_eq_false (show ¬ (a ≤ n ∧ n ≤ b) from fun h => h1 h.2)]
      have h2 : b < n := by omega
      go_enter Try.func63, Try.ntmps63
      go_wp2_with fail
      go_ret
      exact ⟨rfl, rfl⟩
  · rw [decide_eq_false (show ¬ (a ≤ n ∧ n ≤ b) from fun h => h0 h.1)]
    have h2 : n < a := by omega
    go_enter Try.func63, Try.ntmps63
    go_wp2_with fail
    go_ret
    exact ⟨rfl, rfl⟩
theorem chain25_any (a : Int) (w : World) (h0 : 0 ≤ a) (h1 : a ≤ 9223372036854775807) : Calls Try.prog 92 #[.int .i64 a] w fun e w' => e = .returned (.string (B (chain a))) ∧ Below w.heap.size w w' := by
  have hc := Lib.hid (chain_any a w h0 (by omega))
  go_enter Try.func92, Try.ntmps92
  go_wp2_with fail
  refine hc.out.mono ?_
  rintro _ w1 ⟨rfl, b1⟩
  replace b1 := Lib.hid b1
  go_wp2_with fail
  go_ret
  exact ⟨rfl, b1.out⟩
theorem mark25_any (k v : ByteArray) (g : Bool) (w : World) : Calls Try.prog 57 #[.agg #[.string k, .string v, .bool g]] w fun e w' => e = .returned (.string (B (gB g))) ∧ Below w.heap.size w w' := by
  have hb := Lib.hid (grewAlloc (Below.refl w.heap.size w) (.cells #[.string k, .string v, .bool g] 62))
  cases g with
  | false =>
    go_enter Try.func57, Try.ntmps57
    go_wp2_with fail
    go_ret
    exact ⟨rfl, hb.out⟩
  | true =>
    go_enter Try.func57, Try.ntmps57
    go_wp2_with fail
    go_ret
    exact ⟨rfl, hb.out⟩
theorem joined_any (bk c : Nat) (xs : List ByteArray) (w : World) (hc : ∀ j x, xs[j]? = some x → w.cell? ⟨bk, j, none⟩ = some (.string x)) (hb : bk < w.heap.size) (hn : xs.length ≤ 100) (hcap : xs.length ≤ c) (hl : (xs.map (·.data.toList)).flatten.length ≤ 100000) :
    Calls Try.prog 56 #[.slice (some ⟨bk, 0, none⟩) xs.length c] w fun e w' => e = .returned (.string (B (xs.map (·.data.toList)).flatten)) ∧ Below w.heap.size w w' := by
  have hj := Try.strings_Join bk 0 c xs ⟨#[]⟩ w (fun j x h => by rw [Nat.zero_add]; exact hc j x h) hb (by omega) hcap (by rw [show (⟨#[]⟩ : ByteArray).data.toList = [] from rfl, join_empty]; omega)
  rw [show (⟨#[]⟩ : ByteArray).data.toList = [] from rfl, join_empty] at hj
  replace hj := Lib.hid hj
  clear hc hl
  go_enter Try.func56, Try.ntmps56
  go_wp2_with fail
  refine hj.out.mono ?_
  rintro _ w1 ⟨rfl, b1⟩
  replace b1 := Lib.hid b1
  go_wp2_with fail
  go_ret
  exact ⟨rfl, b1.out⟩
theorem cellAt_new2 (W : World) (t : TypeId) (a b : ByteArray) : ∀ j x, [a, b][j]? = some x → (W.alloc (.cells #[.string a, .string b] t)).cell? ⟨W.heap.size, j, none⟩ = some (.string x) := fun j x h => by
  rw [(Whole.new W t [.string a, .string b]).cell j]
  match j, h with
  | 0, h => cases h; rfl
  | 1, h => cases h; rfl
theorem cellAt_new3 (W : World) (t : TypeId) (a b c : ByteArray) : ∀ j x, [a, b, c][j]? = some x → (W.alloc (.cells #[.string a, .string b, .string c] t)).cell? ⟨W.heap.size, j, none⟩ = some (.string x) := fun j x h => by
  rw [(Whole.new W t [.string a, .string b, .string c]).cell j]
  match j, h with
  | 0, h => cases h; rfl
  | 1, h => cases h; rfl
  | 2, h => cases h; rfl
theorem cellAt_new4 (W : World) (t : TypeId) (a b c d : ByteArray) : ∀ j x, [a, b, c, d][j]? = some x → (W.alloc (.cells #[.string a, .string b, .string c, .string d] t)).cell? ⟨W.heap.size, j, none⟩ = some (.string x) := fun j x h => by
  rw [(Whole.new W t [.string a, .string b, .string c, .string d]).cell j]
  match j, h with
  | 0, h => cases h; rfl
  | 1, h => cases h; rfl
  | 2, h => cases h; rfl
  | 3, h => cases h; rfl
theorem sz25 (s : ByteArray) : s.data.toList.length = s.size := rfl
theorem joined2_new (a b : ByteArray) (W : World) (t : TypeId) (hl : a.size + b.size ≤ 100000) :
    Calls Try.prog 56 #[.slice (some ⟨W.heap.size, 0, none⟩) 2 2] (W.alloc (.cells #[.string a, .string b] t)) fun e w' => e = .returned (.string (B (a.data.toList ++ b.data.toList))) ∧ Below W.heap.size W w' := by
  refine (joined_any W.heap.size 2 [a, b] _ (cellAt_new2 W t a b) (by simp) (by simp) (by simp) (by simp [sz25]; omega)).mono ?_
  rintro e w' ⟨rfl, hb⟩
  exact ⟨by simp, grew (grewAlloc (Below.refl _ _) _) hb⟩
theorem joined3_new (a b c : ByteArray) (W : World) (t : TypeId) (hl : a.size + b.size + c.size ≤ 100000) :
    Calls Try.prog 56 #[.slice (some ⟨W.heap.size, 0, none⟩) 3 3] (W.alloc (.cells #[.string a, .string b, .string c] t)) fun e w' => e = .returned (.string (B (a.data.toList ++ b.data.toList ++ c.data.toList))) ∧ Below W.heap.size W w' := by
  refine (joined_any W.heap.size 3 [a, b, c] _ (cellAt_new3 W t a b c) (by simp) (by simp) (by simp) (by simp [sz25]; omega)).mono ?_
  rintro e w' ⟨rfl, hb⟩
  exact ⟨by simp, grew (grewAlloc (Below.refl _ _) _) hb⟩
theorem joined4_new (a b c d : ByteArray) (W : World) (t : TypeId) (hl : a.size + b.size + c.size + d.size ≤ 100000) :
    Calls Try.prog 56 #[.slice (some ⟨W.heap.size, 0, none⟩) 4 4] (W.alloc (.cells #[.string a, .string b, .string c, .string d] t)) fun e w' => e = .returned (.string (B (a.data.toList ++ b.data.toList ++ c.data.toList ++ d.data.toList))) ∧ Below W.heap.size W w' := by
  refine (joined_any W.heap.size 4 [a, b, c, d] _ (cellAt_new4 W t a b c d) (by simp) (by simp) (by simp) (by simp [sz25]; omega)).mono ?_
  rintro e w' ⟨rfl, hb⟩
  exact ⟨by simp, grew (grewAlloc (Below.refl _ _) _) hb⟩
end Go.Proofs.Ytgogackkeodciaa.W
