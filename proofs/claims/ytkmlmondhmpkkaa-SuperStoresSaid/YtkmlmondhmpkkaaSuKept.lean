/- What lies in a view's two sectors when the power has gone in a Store of a super: for the law SuperStores. -/
import Derived.Test.YtkmlmondhmpkkaaProg
import Derived.Test.YtkmlmondhmpkkaaSuStore
import Derived.Test.YtkmlmondhmpkkaaSuThree
namespace Go.Proofs.Ytkmlmondhmpkkaa.W
open Go.RowKit
open Go.Proofs.Ytkmlmondhmpkkaa.M Go.Proofs.Ytkmlmondhmpkkaa.D Go.Proofs.Ytkmlmondhmpkkaa.Z
set_option linter.unusedVariables false

/-- A sector that stays in part, ahead of bytes 0. -/
def mix (U : List UInt8) (k : Nat) : List UInt8 := U.take k ++ (List.replicate 64 (0 : UInt8)).drop k
theorem mix_len (U : List UInt8) (hU : U.length = 64) (k : Nat) (hk : k ≤ 64) : (mix U k).length = 64 := by
  unfold mix
  simp only [List.length_append, List.length_take, List.length_drop, List.length_replicate]
  omega
theorem mix_more (U : List UInt8) (hU : U.length = 64) (k c : Nat) (hk : k ≤ 64) (hc : c ≤ 64) : U.take c ++ (mix U k).drop c = mix U (max c k) := by
  have hl : (U.take k).length = k := by rw [List.length_take]; omega
  unfold mix
  rw [List.drop_append, hl]
  by_cases h : k ≤ c
  · rw [List.drop_eq_nil_of_le (by omega), List.nil_append, List.drop_drop, Nat.max_eq_left h, show k + (c - k) = c from by omega]
  · rw [show c - k = 0 from by omega, List.drop_zero, ← List.append_assoc, Nat.max_eq_right (by omega)]
    congr 1
    have e : U.take c = (U.take k).take c := by rw [List.take_take, Nat.min_eq_left (by omega)]
    rw [e, List.take_append_drop]
theorem kept_mix (U : List UInt8) (hU : U.length = 64) (p : Nat) (L : List (List UInt8)) (hp : p < L.length) (kl : List (Int × Int)) :
    ∀ k, k ≤ 64 → ∃ j, j ≤ 64 ∧ kepts [(p, U)] (L.set p (mix U k)) kl = L.set p (mix U j) := by
  induction kl with
  | nil => exact fun k hk => ⟨k, hk, rfl⟩
  | cons q kl ih =>
    intro k hk
    have hs : kstep [(p, U)] (L.set p (mix U k)) q = L.set p (mix U k) ∨ kstep [(p, U)] (L.set p (mix U k)) q = L.set p (mix U (max (cut q.2) k)) := by
      unfold kstep
      split
      · exact .inl rfl
      · rename_i r hr
        have hr2 : r = (p, U) := by
          split at hr
          · cases hr
          · have := List.mem_of_getElem? hr
            simpa using this
        subst hr2
        refine .inr ?_
        rw [List.getElem?_set_self (by simpa using hp), Option.getD_some, List.set_set, mix_more U hU k _ hk (cut_le _)]
    show ∃ j, j ≤ 64 ∧ kepts [(p, U)] (kstep [(p, U)] (L.set p (mix U k)) q) kl = L.set p (mix U j)
    rcases hs with h | h
    · rw [h]; exact ih k hk
    · rw [h]; exact ih _ (by have := cut_le q.2; omega)
theorem keptOfNone (L : List (List UInt8)) (kl : List (Int × Int)) : kepts [] L kl = L := by
  induction kl with
  | nil => rfl
  | cons q kl ih =>
    show kepts [] (kstep [] L q) kl = L
    have h : kstep [] L q = L := by
      unfold kstep
      split
      · rfl
      · rename_i r hr
        split at hr
        · cases hr
        · simp at hr
    rw [h, ih]
theorem span_one (k : Nat) (U : List UInt8) (hk : k < 2) : [(2 + k, U)].filter (spanB 2 3) = [(2 + k, U)] ∧ [(2 + k, U)].filter (keepB 2 3) = [] := by
  have h : spanB 2 3 (2 + k, U) = true := by unfold spanB; simp; omega
  refine ⟨?_, ?_⟩
  · rw [List.filter_cons, if_pos h]; rfl
  · rw [List.filter_cons, if_neg (by unfold keepB; rw [h]; decide)]; rfl
theorem Keeps.held {w W : World} {kv : Value} {kl : List (Int × Int)} (h : Keeps w kv kl) (hb : Below w.heap.size w W) : Keeps W kv kl := by
  obtain ⟨ka, cap, e1, e2, e3, e4⟩ := h.form
  refine ⟨⟨ka, cap, e1, e2, e3, fun j q hq => ?_⟩⟩
  obtain ⟨b, o, r1, r2, r3, r4⟩ := e4 j q hq
  exact ⟨b, o, r1, Nat.lt_of_lt_of_le r2 hb.size, (hb.cell r2).trans r3, (hb.cell r2).trans r4⟩
section
variable {w w0 W : World} {vb d g : Nat} {lie : List (List UInt8)} {ws : List (Nat × List UInt8)} {from_ n : Nat} {fuse steps : Int} {gone : Bool}
theorem sv_crash (kv : Value) (kl : List (Int × Int)) (h : SV w0 vb d g lie ws from_ n fuse steps gone W) (hb : Below w.heap.size w w0) (hk : Keeps w kv kl) (hw : ws.length ≤ 100000) (hks : kl.length ≤ 100000) :
    Calls Try.prog 29 #[.pointer (some ⟨vb, 0, none⟩), kv] W fun e w' => e = .returned (.int .i64 0) ∧ SV w0 vb d g (kepts (ws.filter (spanB from_ n)) lie kl) (ws.filter (keepB from_ n)) from_ n (-1) 0 false w' := by
  obtain ⟨v, k1, k2, k3⟩ := h
  refine (vcrash_in kv kl k1 hw (Keeps.held hk (grew hb k3)) (fun k hne ho hm => ?_) hks).mono fun e w' h => ⟨h.1, SV.turn k2 k3 h.2⟩
  obtain ⟨ka, cap, e1, e2, e3, e4⟩ := hk.form
  have hl : 0 < kl.length := List.length_pos_iff.2 hne
  obtain ⟨b, o, r1, r2, r3, r4⟩ := e4 0 _ (List.getElem?_eq_getElem hl)
  rw [e1, r1] at ho
  have e : b = k := by simpa [Value.ownBlock] using ho
  have := k2 k hm
  have := hb.size
  omega
end
theorem pick_value (a b c e f : Nat) (l0 : a < 4294967296) (l1 : b < 4294967296) (l2 : c < 4294967296) (l3 : e < 4294967296) (l4 : f < 4294967296) :
    pickV (some (B (superU a b c e f))) = .tuple #[.agg #[.int .u32 a, .int .u32 b, .int .u32 c, .int .u32 e, .int .u32 f], .int .i64 0] := by
  obtain ⟨n0, n1, n2, n3, n4⟩ := nums_super a b c e f l0 l1 l2 l3 l4
  simp only [pickV, u5]
  rw [n0, n1, n2, n3, n4]
section
variable {w0 W : World} {vb d g : Nat} (a b c e f t b2 c2 e2 f2 : Nat) (l0 : a < 4294967296) (l1 : b < 4294967296) (l2 : c < 4294967296) (l3 : e < 4294967296) (l4 : f < 4294967296) (r0 : t < 4294967296) (r1 : b2 < 4294967296) (r2 : c2 < 4294967296) (r3 : e2 < 4294967296) (r4 : f2 < 4294967296) (ht : a + 1 = t)
include l0 l1 l2 l3 l4 ht
theorem load_last (X : List UInt8) (hX : X.length = 64) (hno : ¬ isU (B X)) (h : SV w0 vb d g (((zeros 6).set (2 + a % 2) (superU a b c e f)).set (2 + t % 2) X) [] 2 3 (-1) 0 false W) :
    Calls Try.prog 30 #[.pointer (some ⟨vb, 0, none⟩)] W fun r w' => r = .returned (.tuple #[.agg #[.int .u32 a, .int .u32 b, .int .u32 c, .int .u32 e, .int .u32 f], .int .i64 0]) ∧ Below W.heap.size W w' := by
  have hU := isU_super a b c e f l0 l1 l2 l3 l4
  have n0 := (nums_super a b c e f l0 l1 l2 l3 l4).1
  rw [← pick_value a b c e f l0 l1 l2 l3 l4]
  rcases Nat.mod_two_eq_zero_or_one a with h0 | h0
  · rw [h0, show t % 2 = 1 from by omega] at h
    exact sv_load (superU a b c e f) X h (by decide) rfl rfl (by decide) _ (.inl ⟨rfl, ⟨hU, by show numU ((B (superU a b c e f)).extract 6 58) 0 % 2 = 0; rw [n0, h0]⟩, fun k => absurd k.1 hno⟩) (superU_len _ _ _ _ _) hX
  · rw [h0, show t % 2 = 0 from by omega] at h
    exact sv_load X (superU a b c e f) h (by decide) rfl rfl (by decide) _ (.inr ⟨rfl, ⟨hU, by show numU ((B (superU a b c e f)).extract 6 58) 0 % 2 = 1; rw [n0, h0]⟩, fun k => absurd k.1 hno⟩) hX (superU_len _ _ _ _ _)
include r0 r1 r2 r3 r4
theorem load_next (h : SV w0 vb d g (((zeros 6).set (2 + a % 2) (superU a b c e f)).set (2 + t % 2) (superU t b2 c2 e2 f2)) [] 2 3 (-1) 0 false W) :
    Calls Try.prog 30 #[.pointer (some ⟨vb, 0, none⟩)] W fun r w' => r = .returned (.tuple #[.agg #[.int .u32 t, .int .u32 b2, .int .u32 c2, .int .u32 e2, .int .u32 f2], .int .i64 0]) ∧ Below W.heap.size W w' := by
  have hU := isU_super t b2 c2 e2 f2 r0 r1 r2 r3 r4
  have n0 := (nums_super a b c e f l0 l1 l2 l3 l4).1
  have n1 := (nums_super t b2 c2 e2 f2 r0 r1 r2 r3 r4).1
  rw [← pick_value t b2 c2 e2 f2 r0 r1 r2 r3 r4]
  have hlt : numU ((B (superU a b c e f)).extract 6 58) 0 < numU ((B (superU t b2 c2 e2 f2)).extract 6 58) 0 := by rw [n0, n1]; omega
  rcases Nat.mod_two_eq_zero_or_one a with h0 | h0
  · have h1 : t % 2 = 1 := by omega
    rw [h0, h1] at h
    exact sv_load (superU a b c e f) (superU t b2 c2 e2 f2) h (by decide) rfl rfl (by decide) _ (.inr ⟨rfl, ⟨hU, by show numU ((B (superU t b2 c2 e2 f2)).extract 6 58) 0 % 2 = 1; rw [n1, h1]⟩, fun _ => hlt⟩) (superU_len _ _ _ _ _) (superU_len _ _ _ _ _)
  · have h1 : t % 2 = 0 := by omega
    rw [h0, h1] at h
    exact sv_load (superU t b2 c2 e2 f2) (superU a b c e f) h (by decide) rfl rfl (by decide) _ (.inl ⟨rfl, ⟨hU, by show numU ((B (superU t b2 c2 e2 f2)).extract 6 58) 0 % 2 = 0; rw [n1, h1]⟩, fun _ => hlt⟩) (superU_len _ _ _ _ _) (superU_len _ _ _ _ _)
end
end Go.Proofs.Ytkmlmondhmpkkaa.W
