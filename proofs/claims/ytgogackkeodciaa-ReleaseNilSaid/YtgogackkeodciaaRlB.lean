/- Package release: Digest, and its definition; an entry's bytes. -/
import Derived.Test.YtgogackkeodciaaRlA
import Derived.Deep.Cut
import Derived.Deep.RegionHeld3
namespace Go.Proofs.Ytgogackkeodciaa.W
open Go.RowKit Go.Sort
open Go.Proofs.Ytgogackkeodciaa.M Go.Proofs.Ytgogackkeodciaa.D Go.Proofs.Ytgogackkeodciaa.Z
set_option linter.unusedVariables false
set_option linter.unusedSimpArgs false

set_option maxRecDepth 100000 in
set_option maxHeartbeats 4000000 in
theorem digest25_any (k v : ByteArray) (g : Bool) (w : World) (hk : k.size ≤ 10000) (hv : v.size ≤ 10000) :
    Calls Try.prog 24 #[.agg #[.string k, .string v, .bool g]] w fun e w' => e = .returned (.int .u64 (dig (digL k v g) : Nat)) ∧ Below w.heap.size w w' := by
  obtain ⟨V, hV⟩ : ∃ V, Hid (V = w.alloc (.cells #[.string k, .string v, .bool g] 62)) := ⟨_, Lib.hid rfl⟩
  have hB : Below w.heap.size w V := by rw [hV.out]; exact grewAlloc (Below.refl _ _) _
  have hP : Whole V w.heap.size 62 [.string k, .string v, .bool g] := by rw [hV.out]; exact Whole.new w _ _
  obtain ⟨pb, hpb⟩ : ∃ q, Hid (w.heap.size = q) := ⟨_, Lib.hid rfl⟩
  rw [hpb.out] at hP
  have z1 := textB_small hk
  have z2 := textB_small hv
  have z3 := gB_small g
  obtain ⟨A, hA⟩ : ∃ A, Hid (B (textL k.data.toList) = A) := ⟨_, Lib.hid rfl⟩
  obtain ⟨C, hC⟩ : ∃ C, Hid (B (textL v.data.toList) = C) := ⟨_, Lib.hid rfl⟩
  obtain ⟨G, hG⟩ : ∃ G, Hid (B (gB g) = G) := ⟨_, Lib.hid rfl⟩
  have h1 : Hid (∀ W, Calls Try.prog 53 #[.string k] W fun e w' => e = .returned (.string A) ∧ Below W.heap.size W w') := Lib.hid (fun W => by rw [← hA.out]; exact text_any k W (by omega))
  have h2 : Hid (∀ W, Calls Try.prog 53 #[.string v] W fun e w' => e = .returned (.string C) ∧ Below W.heap.size W w') := Lib.hid (fun W => by rw [← hC.out]; exact text_any v W (by omega))
  have h3 : Hid (∀ W, Calls Try.prog 57 #[.agg #[.string k, .string v, .bool g]] W fun e w' => e = .returned (.string G) ∧ Below W.heap.size W w') := Lib.hid (fun W => by rw [← hG.out]; exact mark25_any k v g W)
  rw [hA.out] at z1
  rw [hC.out] at z2
  rw [hG.out] at z3
  have hj := Lib.hid (fun W => joined3_new A C G W 9 (by omega))
  have hdl : A.data.toList ++ C.data.toList ++ G.data.toList = digL k v g := by rw [← hA.out, ← hC.out, ← hG.out]; rfl
  rw [hdl] at hj
  have hsz : (B (digL k v g)).size ≤ 100000 := by rw [B_size, ← hdl]; simp [sz25]; omega
  obtain ⟨L, hL⟩ : ∃ L, Hid (B (digL k v g) = L) := ⟨_, Lib.hid rfl⟩
  obtain ⟨D, hD⟩ : ∃ D : Nat, Hid (dig (digL k v g) = D) := ⟨_, Lib.hid rfl⟩
  have h4 : Hid (∀ W, Calls Try.prog 55 #[.string L] W fun e w' => e = .returned (.int .u64 (D : Nat)) ∧ W = w') := Lib.hid (fun W => by
    have := dig_any (B (digL k v g)) W (by omega)
    rw [show (B (digL k v g)).data.toList = digL k v g from rfl, hD.out, hL.out] at this
    exact this)
  rw [hL.out] at hj
  rw [hD.out]
  have x0 : ∀ W, Below V.heap.size V W → W.cell? ⟨pb, 0, none⟩ = some (.string k) := fun W hb => (hP.below hb hP.lt).cell 0
  have x1 : ∀ W, Below V.heap.size V W → W.cell? ⟨pb, 1, none⟩ = some (.string v) := fun W hb => (hP.below hb hP.lt).cell 1
  have x2 : ∀ W, Below V.heap.size V W → W.cell? ⟨pb, 2, none⟩ = some (.bool g) := fun W hb => (hP.below hb hP.lt).cell 2
  have s10 : Below V.heap.size V V := Below.refl _ _
  have s10d : Below V.heap.size V V.drew := (Below.refl _ _).drew
  have hB4 := Lib.hid hB
  clear hA hC hG hL hD hP hB z1 z2 z3 hdl hsz hk hv
  go_enter Try.func24, Try.ntmps24
  go_upto_region 1 with fail
  rw [← show V = _ from hV.out, hpb.out]
  clear hV hpb
  go_region_held3 (fun w' => Below V.heap.size V w') (with_reducible first | assumption | exact keepNew25 (by assumption) _) (first
    | (go_at_call 55; (with_reducible refine (h4.out _).mono ?_); rintro _ y4 ⟨rfl, rfl⟩; have hfin : Hid (Below w.heap.size w _) := Lib.hid (grew hB4.out (by assumption)))
    | (go_at_call 56; (with_reducible refine (hj.out _).mono ?_); rintro _ y5 ⟨rfl, b5⟩; have s15 : Below V.heap.size V y5 := grew (by assumption) b5)
    | (go_at_call 53; (with_reducible refine (h1.out _).mono ?_); rintro _ y1 ⟨rfl, b1⟩; have s11 : Below V.heap.size V y1 := grew (by assumption) b1)
    | (go_at_call 53; (with_reducible refine (h2.out _).mono ?_); rintro _ y2 ⟨rfl, b2⟩; have s12 : Below V.heap.size V y2 := grew (by assumption) b2)
    | (go_at_call 57; (with_reducible refine (h3.out _).mono ?_); rintro _ y3 ⟨rfl, b3⟩; have s13 : Below V.heap.size V y3 := grew (by assumption) b3))
  all_goals
    clear x0 x1 x2 h1 h2 h3 h4 hj
    go_wp2_with fail
    go_ret
    exact ⟨rfl, hfin.out⟩
set_option maxRecDepth 100000 in
set_option maxHeartbeats 4000000 in
theorem layPlace25_any (s : ByteArray) (p : Int) (w : World) (hs : s.size ≤ 10000) (h0 : 0 ≤ p) (h9 : p ≤ 9223372036854775807) :
    Calls Try.prog 93 #[.agg #[.string s, .int .i64 p]] w fun e w' => e = .returned (.string (B (textL s.data.toList ++ chain p))) ∧ Below w.heap.size w w' := by
  obtain ⟨V, hV⟩ : ∃ V, Hid (V = w.alloc (.cells #[.string s, .int .i64 p] 24)) := ⟨_, Lib.hid rfl⟩
  have hB : Below w.heap.size w V := by rw [hV.out]; exact grewAlloc (Below.refl _ _) _
  have hP : Whole V w.heap.size 24 [.string s, .int .i64 p] := by rw [hV.out]; exact Whole.new w _ _
  obtain ⟨pb, hpb⟩ : ∃ q, Hid (w.heap.size = q) := ⟨_, Lib.hid rfl⟩
  rw [hpb.out] at hP
  have z1 := textB_small hs
  have z2 := chainB_small p
  obtain ⟨A, hA⟩ : ∃ A, Hid (B (textL s.data.toList) = A) := ⟨_, Lib.hid rfl⟩
  obtain ⟨C, hC⟩ : ∃ C, Hid (B (chain p) = C) := ⟨_, Lib.hid rfl⟩
  have h1 : Hid (∀ W, Calls Try.prog 53 #[.string s] W fun e w' => e = .returned (.string A) ∧ Below W.heap.size W w') := Lib.hid (fun W => by rw [← hA.out]; exact text_any s W (by omega))
  have h2 : Hid (∀ W, Calls Try.prog 92 #[.int .i64 p] W fun e w' => e = .returned (.string C) ∧ Below W.heap.size W w') := Lib.hid (fun W => by rw [← hC.out]; exact chain25_any p W h0 h9)
  rw [hA.out] at z1
  rw [hC.out] at z2
  have hj := Lib.hid (fun W => joined2_new A C W 9 (by omega))
  have hdl : A.data.toList ++ C.data.toList = textL s.data.toList ++ chain p := by rw [← hA.out, ← hC.out]; rfl
  rw [hdl] at hj
  obtain ⟨L, hL⟩ : ∃ L, Hid (B (textL s.data.toList ++ chain p) = L) := ⟨_, Lib.hid rfl⟩
  rw [hL.out] at hj ⊢
  have x0 : ∀ W, Below V.heap.size V W → W.cell? ⟨pb, 0, none⟩ = some (.string s) := fun W hb => (hP.below hb hP.lt).cell 0
  have x1 : ∀ W, Below V.heap.size V W → W.cell? ⟨pb, 1, none⟩ = some (.int .i64 p) := fun W hb => (hP.below hb hP.lt).cell 1
  have s10 : Below V.heap.size V V := Below.refl _ _
  have s10d : Below V.heap.size V V.drew := (Below.refl _ _).drew
  have hB4 := Lib.hid hB
  clear hA hC hL hP hB z1 z2 hdl hs
  go_enter Try.func93, Try.ntmps93
  go_upto_region 1 with fail
  rw [← show V = _ from hV.out, hpb.out]
  clear hV hpb
  go_region_held3 (fun w' => Below V.heap.size V w') (with_reducible first | assumption | exact keepNew25 (by assumption) _) (first
    | (go_at_call 56; (with_reducible refine (hj.out _).mono ?_); rintro _ y5 ⟨rfl, b5⟩; have s15 : Below V.heap.size V y5 := grew (by assumption) b5; have hfin : Hid (Below w.heap.size w _) := Lib.hid (grew hB4.out s15))
    | (go_at_call 53; (with_reducible refine (h1.out _).mono ?_); rintro _ y1 ⟨rfl, b1⟩; have s11 : Below V.heap.size V y1 := grew (by assumption) b1)
    | (go_at_call 92; (with_reducible refine (h2.out _).mono ?_); rintro _ y2 ⟨rfl, b2⟩; have s12 : Below V.heap.size V y2 := grew (by assumption) b2))
  all_goals
    clear x0 x1 h1 h2 hj
    go_wp2_with fail
    go_ret
    exact ⟨rfl, hfin.out⟩
set_option maxRecDepth 100000 in
set_option maxHeartbeats 4000000 in
theorem layPair25_any (k v : ByteArray) (g : Bool) (w : World) (hk : k.size ≤ 10000) (hv : v.size ≤ 10000) (hd : dig (digL k v g) < 18446744073709551616) :
    Calls Try.prog 94 #[.agg #[.string k, .string v, .bool g]] w fun e w' => e = .returned (.string (B (fx (dig (digL k v g) : Nat) 8 ++ gB g ++ textL k.data.toList ++ textL v.data.toList))) ∧ Below w.heap.size w w' := by
  obtain ⟨V, hV⟩ : ∃ V, Hid (V = w.alloc (.cells #[.string k, .string v, .bool g] 62)) := ⟨_, Lib.hid rfl⟩
  have hB : Below w.heap.size w V := by rw [hV.out]; exact grewAlloc (Below.refl _ _) _
  have hP : Whole V w.heap.size 62 [.string k, .string v, .bool g] := by rw [hV.out]; exact Whole.new w _ _
  obtain ⟨pb, hpb⟩ : ∃ q, Hid (w.heap.size = q) := ⟨_, Lib.hid rfl⟩
  rw [hpb.out] at hP
  have z1 := textB_small hk
  have z2 := textB_small hv
  have z3 := gB_small g
  obtain ⟨D, hD⟩ : ∃ D : Nat, Hid (dig (digL k v g) = D) := ⟨_, Lib.hid rfl⟩
  have z4 : (B (fx (D : Nat) 8)).size ≤ 8 := by rw [B_size, fx_length]; omega
  obtain ⟨A, hA⟩ : ∃ A, Hid (B (textL k.data.toList) = A) := ⟨_, Lib.hid rfl⟩
  obtain ⟨C, hC⟩ : ∃ C, Hid (B (textL v.data.toList) = C) := ⟨_, Lib.hid rfl⟩
  obtain ⟨G, hG⟩ : ∃ G, Hid (B (gB g) = G) := ⟨_, Lib.hid rfl⟩
  obtain ⟨E, hE⟩ : ∃ E, Hid (B (fx (D : Nat) 8) = E) := ⟨_, Lib.hid rfl⟩
  have hdg := Lib.hid (digest25_any k v g V hk hv)
  rw [hD.out] at hdg hd
  have hfb : fitsB ((D : Nat) : Int) 8 = true := by
    unfold fitsB
    apply decide_eq_true
    refine ⟨by omega, by omega, Int.ediv_eq_zero_of_lt (by omega) ?_⟩
    show ((D : Nat) : Int) < 256 ^ 8
    omega
  have hfx := Lib.hid (fun W => fixed_yes ((D : Nat) : Int) 8 W (by omega) (by omega) hfb)
  rw [show (8 : Int).toNat = 8 from rfl, hE.out] at hfx
  have h1 : Hid (∀ W, Calls Try.prog 53 #[.string k] W fun e w' => e = .returned (.string A) ∧ Below W.heap.size W w') := Lib.hid (fun W => by rw [← hA.out]; exact text_any k W (by omega))
  have h2 : Hid (∀ W, Calls Try.prog 53 #[.string v] W fun e w' => e = .returned (.string C) ∧ Below W.heap.size W w') := Lib.hid (fun W => by rw [← hC.out]; exact text_any v W (by omega))
  have h3 : Hid (∀ W, Calls Try.prog 57 #[.agg #[.string k, .string v, .bool g]] W fun e w' => e = .returned (.string G) ∧ Below W.heap.size W w') := Lib.hid (fun W => by rw [← hG.out]; exact mark25_any k v g W)
  rw [hA.out] at z1
  rw [hC.out] at z2
  rw [hG.out] at z3
  rw [hE.out] at z4
  have hj := Lib.hid (fun W => joined4_new E G A C W 9 (by omega))
  have hdl : E.data.toList ++ G.data.toList ++ A.data.toList ++ C.data.toList = fx (D : Nat) 8 ++ gB g ++ textL k.data.toList ++ textL v.data.toList := by rw [← hA.out, ← hC.out, ← hG.out, ← hE.out]; rfl
  rw [hdl] at hj
  rw [hD.out]
  obtain ⟨L, hL⟩ : ∃ L, Hid (B (fx (D : Nat) 8 ++ gB g ++ textL k.data.toList ++ textL v.data.toList) = L) := ⟨_, Lib.hid rfl⟩
  rw [hL.out] at hj ⊢
  have x0 : ∀ W, Below V.heap.size V W → W.cell? ⟨pb, 0, none⟩ = some (.string k) := fun W hb => (hP.below hb hP.lt).cell 0
  have x1 : ∀ W, Below V.heap.size V W → W.cell? ⟨pb, 1, none⟩ = some (.string v) := fun W hb => (hP.below hb hP.lt).cell 1
  have x2 : ∀ W, Below V.heap.size V W → W.cell? ⟨pb, 2, none⟩ = some (.bool g) := fun W hb => (hP.below hb hP.lt).cell 2
  have p0 : V.cell? ⟨pb, 0, none⟩ = some (.string k) := hP.cell 0
  have p1 : V.cell? ⟨pb, 1, none⟩ = some (.string v) := hP.cell 1
  have p2 : V.cell? ⟨pb, 2, none⟩ = some (.bool g) := hP.cell 2
  have hB4 := Lib.hid hB
  clear hA hC hG hL hD hP hB hE z1 z2 z3 z4 hdl hk hv hfb hd
  go_enter Try.func94, Try.ntmps94
  go_upto_region 1 with fail
  rw [← show V = _ from hV.out, hpb.out]
  clear hV hpb
  go_wp2_with fail
  refine hdg.out.mono ?_
  rintro _ w1 ⟨rfl, b1⟩
  clear p0 p1 p2 hdg
  replace b1 := Lib.hid b1
  go_wp2_with fail
  refine (hfx.out _).mono ?_
  rintro _ w2 ⟨rfl, b2⟩
  have s10 : Below V.heap.size V w2 := grew b1.out b2
  have s10d : Below V.heap.size V w2.drew := s10.drew
  clear b1 b2 hfx
  go_upto_region 2 with fail
  go_region_held3 (fun w' => Below V.heap.size V w') (with_reducible first | assumption | exact keepNew25 (by assumption) _) (first
    | (go_at_call 56; (with_reducible refine (hj.out _).mono ?_); rintro _ y5 ⟨rfl, b5⟩; have s15 : Below V.heap.size V y5 := grew (by assumption) b5; have hfin : Hid (Below w.heap.size w _) := Lib.hid (grew hB4.out s15))
    | (go_at_call 53; (with_reducible refine (h1.out _).mono ?_); rintro _ y1 ⟨rfl, b1⟩; have s11 : Below V.heap.size V y1 := grew (by assumption) b1)
    | (go_at_call 53; (with_reducible refine (h2.out _).mono ?_); rintro _ y2 ⟨rfl, b2⟩; have s12 : Below V.heap.size V y2 := grew (by assumption) b2)
    | (go_at_call 57; (with_reducible refine (h3.out _).mono ?_); rintro _ y3 ⟨rfl, b3⟩; have s13 : Below V.heap.size V y3 := grew (by assumption) b3))
  all_goals
    clear x0 x1 x2 h1 h2 h3 hj
    go_wp2_with fail
    go_ret
    exact ⟨rfl, hfin.out⟩
end Go.Proofs.Ytgogackkeodciaa.W
