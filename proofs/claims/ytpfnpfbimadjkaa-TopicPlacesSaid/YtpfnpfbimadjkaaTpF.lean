/- Layer 22: Decode. -/
import Derived.Test.YtpfnpfbimadjkaaTpE
namespace Go.Proofs.Ytpfnpfbimadjkaa.W
open Go.RowKit Go.Sort
open Go.Proofs.Ytpfnpfbimadjkaa.M Go.Proofs.Ytpfnpfbimadjkaa.D Go.Proofs.Ytpfnpfbimadjkaa.Z
set_option linter.unusedVariables false
set_option linter.unusedSimpArgs false

theorem wrap64_lo {v : Int} (h0 : 0 ≤ v) (h1 : v < 18446744073709551616) : (wrap64 v = v ∧ v < 9223372036854775808) ∨ (wrap64 v < 0 ∧ 9223372036854775808 ≤ v) := by unfold wrap64; omega
theorem may_wrap {nm : ByteArray} {v1 v2 v3 : Int} {c : Bool} (h1 : 0 ≤ v1 ∧ v1 < 18446744073709551616) (h2 : 0 ≤ v2 ∧ v2 < 18446744073709551616) (h3 : 0 ≤ v3 ∧ v3 < 18446744073709551616) :
    Sp.may ⟨nm, wrap64 v1, wrap64 v2, wrap64 v3, c⟩ = Sp.may ⟨nm, v1, v2, v3, c⟩ ∧ (Sp.may ⟨nm, v1, v2, v3, c⟩ = true → wrap64 v1 = v1 ∧ wrap64 v2 = v2 ∧ wrap64 v3 = v3) := by
  have a1 := wrap64_lo h1.1 h1.2
  have a2 := wrap64_lo h2.1 h2.2
  have a3 := wrap64_lo h3.1 h3.2
  constructor
  · rw [Bool.eq_iff_iff]
    unfold Sp.may
    rw [decide_eq_true_iff, decide_eq_true_iff]
    unfold Sp.ok
    dsimp only
    constructor
    · rintro ⟨b0, b1, b2, b3⟩
      exact ⟨b0, by omega, by omega, by omega⟩
    · rintro ⟨b0, b1, b2, b3⟩
      exact ⟨b0, by omega, by omega, by omega⟩
  · intro h
    obtain ⟨_, b1, b2, b3⟩ : Sp.ok ⟨nm, v1, v2, v3, c⟩ := of_decide_eq_true h
    dsimp only at b1 b2 b3
    omega
/-- What read comes to. -/
def ReadOut (tb fb : Nat) (s : ByteArray) (w : World) : Prop :=
  (decT s = none ∧ Calls Try.prog 39 #[.string s, .slice (some ⟨fb, 0, none⟩) 5 5] w fun r w' => (∃ er : Int, er ≠ 0 ∧ r = .returned (.tuple #[.int .i64 0, .int .i64 er])) ∧ Kept (fun q => q = tb) w w') ∨
  (∃ (nm : ByteArray) (v1 v2 v3 : Int) (fl p : Nat), (0 ≤ v1 ∧ v1 < 18446744073709551616) ∧ (0 ≤ v2 ∧ v2 < 18446744073709551616) ∧ (0 ≤ v3 ∧ v3 < 18446744073709551616) ∧
    decT s = (if Sp.may ⟨nm, v1, v2, v3, decide (fl = 1)⟩ then some (⟨nm, v1, v2, v3, decide (fl = 1)⟩, p + 1) else none) ∧
    Calls Try.prog 39 #[.string s, .slice (some ⟨fb, 0, none⟩) 5 5] w fun r w' => (r = .returned (.tuple #[.int .i64 ((p + 1 : Nat) : Int), .int .i64 0]) ∧ Whole w' tb 34 [.string nm, .int .i64 (wrap64 v1), .int .i64 (wrap64 v2), .int .i64 (wrap64 v3), .bool (decide (fl = 1))]) ∧ Kept (fun q => q = tb) w w')
theorem read_out (tb fb b1 b2 b3 b4 b5 : Nat) (s : ByteArray) (w : World) (h : RdS w tb fb b1 b2 b3 b4 b5 [.string ⟨#[]⟩, .int .i64 0, .int .i64 0, .int .i64 0, .bool false]) (hs : s.size ≤ 100000) : ReadOut tb fb s w := by
  have hsl : s.data.toList.length = s.size := by simp
  unfold ReadOut
  cases h0 : txAt s 0 with
  | none => exact .inl ⟨by unfold decT; rw [h0]; rfl, read_0 tb fb b1 b2 b3 b4 b5 s w h hs h0⟩
  | some a =>
    obtain ⟨nm, p0⟩ := a
    have hp0 := (txAt_yes h0).2
    cases h1 : chAt s.data.toList p0 with
    | none => exact .inl ⟨by unfold decT; simp only [h0, h1, Option.bind_some, Option.bind_none], read_1 tb fb b1 b2 b3 b4 b5 s w h hs nm p0 h0 h1⟩
    | some a =>
      obtain ⟨v1, p1⟩ := a
      obtain ⟨_, _, _, hp1, x1, y1⟩ := chAt_yes h1 (by omega)
      cases h2 : chAt s.data.toList p1 with
      | none => exact .inl ⟨by unfold decT; simp only [h0, h1, h2, Option.bind_some, Option.bind_none], read_2 tb fb b1 b2 b3 b4 b5 s w h hs nm p0 v1 p1 h0 h1 h2⟩
      | some a =>
        obtain ⟨v2, p2⟩ := a
        obtain ⟨_, _, _, hp2, x2, y2⟩ := chAt_yes h2 (by omega)
        cases h3 : chAt s.data.toList p2 with
        | none => exact .inl ⟨by unfold decT; simp only [h0, h1, h2, h3, Option.bind_some, Option.bind_none], read_3 tb fb b1 b2 b3 b4 b5 s w h hs nm p0 v1 p1 v2 p2 h0 h1 h2 h3⟩
        | some a =>
          obtain ⟨v3, p3⟩ := a
          obtain ⟨_, _, _, hp3, x3, y3⟩ := chAt_yes h3 (by omega)
          cases h4 : flagAt s.data.toList p3 with
          | none => exact .inl ⟨by unfold decT; simp only [h0, h1, h2, h3, h4, Option.bind_some, Option.bind_none], read_4 tb fb b1 b2 b3 b4 b5 s w h hs nm p0 v1 p1 v2 p2 v3 p3 h0 h1 h2 h3 h4⟩
          | some fl =>
            exact .inr ⟨nm, v1, v2, v3, fl, p3, ⟨x1, y1⟩, ⟨x2, y2⟩, ⟨x3, y3⟩, by unfold decT; simp only [h0, h1, h2, h3, h4, Option.bind_some], read_5 tb fb b1 b2 b3 b4 b5 s w h hs nm p0 v1 p1 v2 p2 v3 p3 fl h0 h1 h2 h3 h4⟩
theorem nameC_any (q k : Nat) (w : World) : Calls Try.prog 40 #[.pointer (some ⟨q, k, none⟩)] w fun e w' => e = .returned (.func (.func 52) #[] #[.pointer (some ⟨w.heap.size, 0, none⟩)]) ∧ w' = w.alloc (.cells #[.pointer (some ⟨q, k, none⟩)] 71) := by
  go_enter Try.func40, Try.ntmps40
  go_wp2_with fail
  go_ret
  exact ⟨rfl, rfl⟩
theorem numberC_any (q k : Nat) (w : World) : Calls Try.prog 41 #[.pointer (some ⟨q, k, none⟩)] w fun e w' => e = .returned (.func (.func 54) #[] #[.pointer (some ⟨w.heap.size, 0, none⟩)]) ∧ w' = w.alloc (.cells #[.pointer (some ⟨q, k, none⟩)] 73) := by
  go_enter Try.func41, Try.ntmps41
  go_wp2_with fail
  go_ret
  exact ⟨rfl, rfl⟩
theorem flagC_any (q k : Nat) (w : World) : Calls Try.prog 42 #[.pointer (some ⟨q, k, none⟩)] w fun e w' => e = .returned (.func (.func 56) #[] #[.pointer (some ⟨w.heap.size, 0, none⟩)]) ∧ w' = w.alloc (.cells #[.pointer (some ⟨q, k, none⟩)] 75) := by
  go_enter Try.func42, Try.ntmps42
  go_wp2_with fail
  go_ret
  exact ⟨rfl, rfl⟩
theorem sizeSp : (Try.prog.info? 34).map (·.size) = some 5 := by kernel_rfl
theorem result_cell_tmp2 {P : Program} {fn : Func} {tmps : Array Value} {w : World} {r b s u : Nat} {t : TypeId} {v x : Value} {cs : List Value} {d : TypeDesc} (hr : fn.results = #[.cell r t, .tmp s, .tmp u]) (hp : tmps.getD r undef = .pointer (some ⟨b, 0, none⟩)) (hv : tmps.getD s undef = v) (hx : tmps.getD u undef = x)
    (hc : w.rangeAt b 0 cs) (hu : P.underlying t = some d) (hd : d.isRow = true) (hi : (P.info? t).map (·.size) = some cs.length) : (results fn tmps).run P w = .ok (.tuple #[.agg cs.toArray, v, x]) w := by
  have h1 := run_loadVar_mid (P := P) w b 0 t cs d hc hu hd hi
  have hp' : tmps[r]?.getD undef = .pointer (some ⟨b, 0, none⟩) := by simpa using hp
  have hv' : tmps[s]?.getD undef = v := by simpa using hv
  have hx' : tmps[u]?.getD undef = x := by simpa using hx
  simp [results, hr, hp', hv', hx', asAddr, h1]
/-- The blocks that Decode makes. -/
structure DecW (w V2 V3 V4 V5 V6 V7 V8 : World) (rb tb b1 b2 b3 b4 b5 fb : Nat) : Prop where
  e2 : V2 = (w.alloc (.cells #[.string ⟨#[]⟩, .int .i64 0, .int .i64 0, .int .i64 0, .bool false] 34)).alloc (.cells #[.string ⟨#[]⟩, .int .i64 0, .int .i64 0, .int .i64 0, .bool false] 34)
  e3 : V3 = V2.alloc (.cells #[.pointer (some ⟨tb, 0, none⟩)] 71)
  e4 : V4 = V3.alloc (.cells #[.pointer (some ⟨tb, 1, none⟩)] 73)
  e5 : V5 = V4.alloc (.cells #[.pointer (some ⟨tb, 2, none⟩)] 73)
  e6 : V6 = V5.alloc (.cells #[.pointer (some ⟨tb, 3, none⟩)] 73)
  e7 : V7 = V6.alloc (.cells #[.pointer (some ⟨tb, 4, none⟩)] 75)
  e8 : V8 = V7.alloc (.cells #[(.func (.func 52) #[] #[.pointer (some ⟨b1, 0, none⟩)]), (.func (.func 54) #[] #[.pointer (some ⟨b2, 0, none⟩)]), (.func (.func 54) #[] #[.pointer (some ⟨b3, 0, none⟩)]), (.func (.func 54) #[] #[.pointer (some ⟨b4, 0, none⟩)]), (.func (.func 56) #[] #[.pointer (some ⟨b5, 0, none⟩)])] 69)
  rb : w.heap.size = rb
  tb : w.heap.size + 1 = tb
  b1 : V2.heap.size = b1
  b2 : V3.heap.size = b2
  b3 : V4.heap.size = b3
  b4 : V5.heap.size = b4
  b5 : V6.heap.size = b5
  fb : V7.heap.size = fb
theorem decW (w : World) : ∃ V2 V3 V4 V5 V6 V7 V8 rb tb b1 b2 b3 b4 b5 fb, DecW w V2 V3 V4 V5 V6 V7 V8 rb tb b1 b2 b3 b4 b5 fb :=
  ⟨_, _, _, _, _, _, _, _, _, _, _, _, _, _, _, rfl, rfl, rfl, rfl, rfl, rfl, rfl, rfl, rfl, rfl, rfl, rfl, rfl, rfl, rfl⟩
theorem DecW.made {w V2 V3 V4 V5 V6 V7 V8 : World} {rb tb b1 b2 b3 b4 b5 fb : Nat} (h : DecW w V2 V3 V4 V5 V6 V7 V8 rb tb b1 b2 b3 b4 b5 fb) :
    RdS V8 tb fb b1 b2 b3 b4 b5 [.string ⟨#[]⟩, .int .i64 0, .int .i64 0, .int .i64 0, .bool false] ∧ Whole V8 rb 34 [.string ⟨#[]⟩, .int .i64 0, .int .i64 0, .int .i64 0, .bool false] ∧ rb ≠ tb ∧ Below w.heap.size w V8 ∧ w.heap.size ≤ tb ∧ w.heap.size ≤ rb := by
  obtain ⟨e2, e3, e4, e5, e6, e7, e8, rfl, rfl, rfl, rfl, rfl, rfl, rfl, rfl⟩ := h
  obtain ⟨V1, e1⟩ : ∃ V, V = w.alloc (.cells #[.string ⟨#[]⟩, .int .i64 0, .int .i64 0, .int .i64 0, .bool false] 34) := ⟨_, rfl⟩
  rw [← e1] at e2
  have s1 : V1.heap.size = w.heap.size + 1 := by rw [e1]; simp
  have s2 : V2.heap.size = w.heap.size + 2 := by rw [e2]; simp; omega
  have s3 : V3.heap.size = w.heap.size + 3 := by rw [e3]; simp; omega
  have s4 : V4.heap.size = w.heap.size + 4 := by rw [e4]; simp; omega
  have s5 : V5.heap.size = w.heap.size + 5 := by rw [e5]; simp; omega
  have s6 : V6.heap.size = w.heap.size + 6 := by rw [e6]; simp; omega
  have s7 : V7.heap.size = w.heap.size + 7 := by rw [e7]; simp; omega
  have s8 : V8.heap.size = w.heap.size + 8 := by rw [e8]; simp; omega
  have r1 : Whole V1 w.heap.size 34 [.string ⟨#[]⟩, .int .i64 0, .int .i64 0, .int .i64 0, .bool false] := by rw [e1]; exact Whole.new w _ _
  have t2 : Whole V2 (w.heap.size + 1) 34 [.string ⟨#[]⟩, .int .i64 0, .int .i64 0, .int .i64 0, .bool false] := by rw [← s1, e2]; exact Whole.new V1 _ _
  have r2 : Whole V2 w.heap.size 34 [.string ⟨#[]⟩, .int .i64 0, .int .i64 0, .int .i64 0, .bool false] := by rw [e2]; exact r1.alloc _
  have p1_3 : Whole V3 V2.heap.size 71 [.pointer (some ⟨w.heap.size + 1, 0, none⟩)] := by rw [e3]; exact Whole.new V2 _ _
  have p2_4 : Whole V4 V3.heap.size 73 [.pointer (some ⟨w.heap.size + 1, 1, none⟩)] := by rw [e4]; exact Whole.new V3 _ _
  have p3_5 : Whole V5 V4.heap.size 73 [.pointer (some ⟨w.heap.size + 1, 2, none⟩)] := by rw [e5]; exact Whole.new V4 _ _
  have p4_6 : Whole V6 V5.heap.size 73 [.pointer (some ⟨w.heap.size + 1, 3, none⟩)] := by rw [e6]; exact Whole.new V5 _ _
  have p5_7 : Whole V7 V6.heap.size 75 [.pointer (some ⟨w.heap.size + 1, 4, none⟩)] := by rw [e7]; exact Whole.new V6 _ _
  have f8 : Whole V8 V7.heap.size 69 [(.func (.func 52) #[] #[.pointer (some ⟨V2.heap.size, 0, none⟩)]), (.func (.func 54) #[] #[.pointer (some ⟨V3.heap.size, 0, none⟩)]), (.func (.func 54) #[] #[.pointer (some ⟨V4.heap.size, 0, none⟩)]), (.func (.func 54) #[] #[.pointer (some ⟨V5.heap.size, 0, none⟩)]), (.func (.func 56) #[] #[.pointer (some ⟨V6.heap.size, 0, none⟩)])] := by rw [e8]; exact Whole.new V7 _ _
  have b8 : Below w.heap.size w V8 := by
    rw [e8, e7, e6, e5, e4, e3, e2, e1]
    exact grewAlloc (grewAlloc (grewAlloc (grewAlloc (grewAlloc (grewAlloc (grewAlloc (grewAlloc (Below.refl _ _) _) _) _) _) _) _) _) _
  have t8 : Whole V8 (w.heap.size + 1) 34 [.string ⟨#[]⟩, .int .i64 0, .int .i64 0, .int .i64 0, .bool false] := (by rw [e8]; exact ((show Whole V7 _ _ _ from by rw [e7]; exact ((show Whole V6 _ _ _ from by rw [e6]; exact ((show Whole V5 _ _ _ from by rw [e5]; exact ((show Whole V4 _ _ _ from by rw [e4]; exact ((show Whole V3 _ _ _ from by rw [e3]; exact (t2).alloc _)).alloc _)).alloc _)).alloc _)).alloc _)).alloc _)
  have r8 : Whole V8 w.heap.size 34 [.string ⟨#[]⟩, .int .i64 0, .int .i64 0, .int .i64 0, .bool false] := (by rw [e8]; exact ((show Whole V7 _ _ _ from by rw [e7]; exact ((show Whole V6 _ _ _ from by rw [e6]; exact ((show Whole V5 _ _ _ from by rw [e5]; exact ((show Whole V4 _ _ _ from by rw [e4]; exact ((show Whole V3 _ _ _ from by rw [e3]; exact (r2).alloc _)).alloc _)).alloc _)).alloc _)).alloc _)).alloc _)
  have p1_8 : Whole V8 V2.heap.size 71 [.pointer (some ⟨w.heap.size + 1, 0, none⟩)] := (by rw [e8]; exact ((show Whole V7 _ _ _ from by rw [e7]; exact ((show Whole V6 _ _ _ from by rw [e6]; exact ((show Whole V5 _ _ _ from by rw [e5]; exact ((show Whole V4 _ _ _ from by rw [e4]; exact (p1_3).alloc _)).alloc _)).alloc _)).alloc _)).alloc _)
  have p2_8 : Whole V8 V3.heap.size 73 [.pointer (some ⟨w.heap.size + 1, 1, none⟩)] := (by rw [e8]; exact ((show Whole V7 _ _ _ from by rw [e7]; exact ((show Whole V6 _ _ _ from by rw [e6]; exact ((show Whole V5 _ _ _ from by rw [e5]; exact (p2_4).alloc _)).alloc _)).alloc _)).alloc _)
  have p3_8 : Whole V8 V4.heap.size 73 [.pointer (some ⟨w.heap.size + 1, 2, none⟩)] := (by rw [e8]; exact ((show Whole V7 _ _ _ from by rw [e7]; exact ((show Whole V6 _ _ _ from by rw [e6]; exact (p3_5).alloc _)).alloc _)).alloc _)
  have p4_8 : Whole V8 V5.heap.size 73 [.pointer (some ⟨w.heap.size + 1, 3, none⟩)] := (by rw [e8]; exact ((show Whole V7 _ _ _ from by rw [e7]; exact (p4_6).alloc _)).alloc _)
  have p5_8 : Whole V8 V6.heap.size 75 [.pointer (some ⟨w.heap.size + 1, 4, none⟩)] := (by rw [e8]; exact (p5_7).alloc _)
  exact ⟨⟨t8, f8, p1_8, p2_8, p3_8, p4_8, p5_8, by omega, by omega, by omega, by omega, by omega, by omega⟩, r8, by omega, b8, by omega, by omega⟩
set_option maxRecDepth 100000 in
set_option maxHeartbeats 4000000 in
theorem decode_any (s : ByteArray) (w : World) (hs : s.size ≤ 100000) :
    Calls Try.prog 24 #[.string s] w fun e w' => e = .returned (match decT s with | some (x, n) => .tuple #[spV x, .int .i64 (n : Int), .int .i64 0] | none => .tuple #[.agg #[.string ⟨#[]⟩, .int .i64 0, .int .i64 0, .int .i64 0, .bool false], .int .i64 0, .int .i64 4]) ∧ Below w.heap.size w w' := by
  obtain ⟨V2, V3, V4, V5, V6, V7, V8, rb, tb, b1, b2, b3, b4, b5, fb, hD⟩ := decW w
  obtain ⟨hS, hR, hne, hB, htb, hrb⟩ := hD.made
  have ho := read_out tb fb b1 b2 b3 b4 b5 s V8 hS hs
  replace hD := Lib.hid hD
  have m1 : Hid (Calls Try.prog 40 #[.pointer (some ⟨tb, 0, none⟩)] V2 fun e w' => e = .returned (.func (.func 52) #[] #[.pointer (some ⟨b1, 0, none⟩)]) ∧ w' = V3) := Lib.hid (by
    have := nameC_any tb 0 V2
    rw [hD.out.b1, ← hD.out.e3] at this
    exact this)
  have m2 : Hid (Calls Try.prog 41 #[.pointer (some ⟨tb, 1, none⟩)] V3 fun e w' => e = .returned (.func (.func 54) #[] #[.pointer (some ⟨b2, 0, none⟩)]) ∧ w' = V4) := Lib.hid (by
    have := numberC_any tb 1 V3
    rw [hD.out.b2, ← hD.out.e4] at this
    exact this)
  have m3 : Hid (Calls Try.prog 41 #[.pointer (some ⟨tb, 2, none⟩)] V4 fun e w' => e = .returned (.func (.func 54) #[] #[.pointer (some ⟨b3, 0, none⟩)]) ∧ w' = V5) := Lib.hid (by
    have := numberC_any tb 2 V4
    rw [hD.out.b3, ← hD.out.e5] at this
    exact this)
  have m4 : Hid (Calls Try.prog 41 #[.pointer (some ⟨tb, 3, none⟩)] V5 fun e w' => e = .returned (.func (.func 54) #[] #[.pointer (some ⟨b4, 0, none⟩)]) ∧ w' = V6) := Lib.hid (by
    have := numberC_any tb 3 V5
    rw [hD.out.b4, ← hD.out.e6] at this
    exact this)
  have m5 : Hid (Calls Try.prog 42 #[.pointer (some ⟨tb, 4, none⟩)] V6 fun e w' => e = .returned (.func (.func 56) #[] #[.pointer (some ⟨b5, 0, none⟩)]) ∧ w' = V7) := Lib.hid (by
    have := flagC_any tb 4 V6
    rw [hD.out.b5, ← hD.out.e7] at this
    exact this)
  replace hR := Lib.hid hR
  replace hB := Lib.hid hB
  replace hrb := Lib.hid hrb
  replace htb := Lib.hid htb
  replace hne := Lib.hid hne
  clear hS
  have hkb : Hid (∀ W, Kept (fun q => q = tb) V8 W → Whole W rb 34 [.string ⟨#[]⟩, .int .i64 0, .int .i64 0, .int .i64 0, .bool false] ∧ Below w.heap.size w W) := Lib.hid (fun W hk => ⟨hR.out.of_kept hk hne.out, hB.out.trans (hk.below hB.out.size (fun q e => by rw [e]; exact htb.out))⟩)
  rcases ho with ⟨hdec, hrd⟩ | ⟨nm, v1, v2, v3, fl, p, i1, i2, i3, hdec, hrd⟩
  · rw [hdec]
    replace hrd := Lib.hid hrd
    clear hdec
    dsimp only
    go_enter Try.func24, Try.ntmps24
    go_upto_region 2 with fail
    rw [← show V2 = _ from hD.out.e2]
    rw [hD.out.tb, hD.out.rb]
    go_wp2_with fail
    refine (m1.out).mono ?_
    rintro _ _ ⟨rfl, rfl⟩
    go_wp2_with fail
    refine (m2.out).mono ?_
    rintro _ _ ⟨rfl, rfl⟩
    go_wp2_with fail
    refine (m3.out).mono ?_
    rintro _ _ ⟨rfl, rfl⟩
    go_wp2_with fail
    refine (m4.out).mono ?_
    rintro _ _ ⟨rfl, rfl⟩
    go_wp2_with fail
    refine (m5.out).mono ?_
    rintro _ _ ⟨rfl, rfl⟩
    go_wp2_with fail
    rw [← show V8 = _ from hD.out.e8]
    simp only [hD.out.fb]
    clear m1 m2 m3 m4 m5
    refine hrd.out.mono ?_
    rintro _ w1 ⟨⟨er, her, rfl⟩, hk⟩
    obtain ⟨hR1, hB1⟩ := hkb.out w1 hk
    have her2 : (er != 0) = true := by simpa using her
    replace hR1 := Lib.hid hR1
    replace hB1 := Lib.hid hB1
    replace her := Lib.hid her
    clear hk hkb hrd hR hB
    go_wp2_with (with_reducible refine zStore 34 _ _ rfl ?_)
    refine Lib.hid ?_
    refine wpList_store_mid rfl 34 _ _ rfl rb 0 #[.string ⟨#[]⟩, .int .i64 0, .int .i64 0, .int .i64 0, .bool false] rfl rfl (hR1.out.there 0 5 (by simp)) sizeSp (by simp [Value.oneCell']) ?_
    go_wp2_with fail
    have hfin := whole_all hR1.out (vs := [.string ⟨#[]⟩, .int .i64 0, .int .i64 0, .int .i64 0, .bool false]) rfl
    exact bodyPost_ret (result_cell_tmp2 Try.results24 rfl rfl rfl hfin.range Try.underlying34 rfl sizeSp) rfl ⟨rfl, below_store hB1.out hrb.out (Nat.le_refl _) 0 _⟩
  · obtain ⟨g1, g2⟩ := may_wrap (nm := nm) (c := decide (fl = 1)) i1 i2 i3
    have hri := fun W => right22_any nm (wrap64 v1) (wrap64 v2) (wrap64 v3) (decide (fl = 1)) W
    rw [g1] at hri
    obtain ⟨C, hC⟩ : ∃ C, Hid (decide (fl = 1) = C) := ⟨_, Lib.hid rfl⟩
    rw [hC.out] at hri hdec hrd g1 g2
    obtain ⟨u1, hu1⟩ : ∃ u, Hid (wrap64 v1 = u) := ⟨_, Lib.hid rfl⟩
    obtain ⟨u2, hu2⟩ : ∃ u, Hid (wrap64 v2 = u) := ⟨_, Lib.hid rfl⟩
    obtain ⟨u3, hu3⟩ : ∃ u, Hid (wrap64 v3 = u) := ⟨_, Lib.hid rfl⟩
    rw [hu1.out, hu2.out, hu3.out] at hri hrd g2
    obtain ⟨P, hP⟩ : ∃ P : Int, Hid (((p + 1 : Nat) : Int) = P) := ⟨_, Lib.hid rfl⟩
    rw [hP.out] at hrd
    replace hrd := Lib.hid hrd
    cases hmay : Sp.may ⟨nm, v1, v2, v3, C⟩ with
    | false =>
      rw [hmay] at hri hdec
      rw [hdec, if_neg (by decide)]
      dsimp only
      replace hri := Lib.hid hri
      clear hdec g1 g2 i1 i2 i3 hmay
      go_enter Try.func24, Try.ntmps24
      go_upto_region 2 with fail
      rw [← show V2 = _ from hD.out.e2]
      rw [hD.out.tb, hD.out.rb]
      go_wp2_with fail
      refine (m1.out).mono ?_
      rintro _ _ ⟨rfl, rfl⟩
      go_wp2_with fail
      refine (m2.out).mono ?_
      rintro _ _ ⟨rfl, rfl⟩
      go_wp2_with fail
      refine (m3.out).mono ?_
      rintro _ _ ⟨rfl, rfl⟩
      go_wp2_with fail
      refine (m4.out).mono ?_
      rintro _ _ ⟨rfl, rfl⟩
      go_wp2_with fail
      refine (m5.out).mono ?_
      rintro _ _ ⟨rfl, rfl⟩
      go_wp2_with fail
      rw [← show V8 = _ from hD.out.e8]
      simp only [hD.out.fb]
      clear m1 m2 m3 m4 m5
      refine hrd.out.mono ?_
      rintro _ w1 ⟨⟨rfl, ht⟩, hk⟩
      obtain ⟨hR1, hB1⟩ := hkb.out w1 hk
      have y0 : w1.cell? ⟨tb, 0, none⟩ = some (.string nm) := ht.cell 0
      have y1 : w1.cell? ⟨tb, 1, none⟩ = some (.int .i64 u1) := ht.cell 1
      have y2 : w1.cell? ⟨tb, 2, none⟩ = some (.int .i64 u2) := ht.cell 2
      have y3 : w1.cell? ⟨tb, 3, none⟩ = some (.int .i64 u3) := ht.cell 3
      have y4 : w1.cell? ⟨tb, 4, none⟩ = some (.bool C) := ht.cell 4
      replace hR1 := Lib.hid hR1
      replace hB1 := Lib.hid hB1
      clear hk hkb hrd hR hB ht
      go_wp2_with fail
      refine (hri.out _).mono ?_
      rintro _ w2 ⟨rfl, hb2⟩
      have hR2 := Lib.hid (hR1.out.below hb2 hR1.out.lt)
      have hB2 := Lib.hid (grew hB1.out hb2)
      clear y0 y1 y2 y3 y4 hb2 hR1 hB1
      go_wp2_with (with_reducible refine zStore 34 _ _ rfl ?_)
      refine Lib.hid ?_
      refine wpList_store_mid rfl 34 _ _ rfl rb 0 #[.string ⟨#[]⟩, .int .i64 0, .int .i64 0, .int .i64 0, .bool false] rfl rfl (hR2.out.there 0 5 (by simp)) sizeSp (by simp [Value.oneCell']) ?_
      go_wp2_with fail
      have hfin := whole_all hR2.out (vs := [.string ⟨#[]⟩, .int .i64 0, .int .i64 0, .int .i64 0, .bool false]) rfl
      exact bodyPost_ret (result_cell_tmp2 Try.results24 rfl rfl rfl hfin.range Try.underlying34 rfl sizeSp) rfl ⟨rfl, below_store hB2.out hrb.out (Nat.le_refl _) 0 _⟩
    | true =>
      obtain ⟨q1, q2, q3⟩ := g2 hmay
      subst q1 q2 q3
      rw [hmay] at hri hdec
      rw [hdec, if_pos rfl]
      dsimp only
      rw [hP.out]
      replace hri := Lib.hid hri
      clear hdec g1 g2 i1 i2 i3 hmay hu1 hu2 hu3
      go_enter Try.func24, Try.ntmps24
      go_upto_region 2 with fail
      rw [← show V2 = _ from hD.out.e2]
      rw [hD.out.tb, hD.out.rb]
      go_wp2_with fail
      refine (m1.out).mono ?_
      rintro _ _ ⟨rfl, rfl⟩
      go_wp2_with fail
      refine (m2.out).mono ?_
      rintro _ _ ⟨rfl, rfl⟩
      go_wp2_with fail
      refine (m3.out).mono ?_
      rintro _ _ ⟨rfl, rfl⟩
      go_wp2_with fail
      refine (m4.out).mono ?_
      rintro _ _ ⟨rfl, rfl⟩
      go_wp2_with fail
      refine (m5.out).mono ?_
      rintro _ _ ⟨rfl, rfl⟩
      go_wp2_with fail
      rw [← show V8 = _ from hD.out.e8]
      simp only [hD.out.fb]
      clear m1 m2 m3 m4 m5
      refine hrd.out.mono ?_
      rintro _ w1 ⟨⟨rfl, ht⟩, hk⟩
      obtain ⟨hR1, hB1⟩ := hkb.out w1 hk
      have y0 : w1.cell? ⟨tb, 0, none⟩ = some (.string nm) := ht.cell 0
      have y1 : w1.cell? ⟨tb, 1, none⟩ = some (.int .i64 u1) := ht.cell 1
      have y2 : w1.cell? ⟨tb, 2, none⟩ = some (.int .i64 u2) := ht.cell 2
      have y3 : w1.cell? ⟨tb, 3, none⟩ = some (.int .i64 u3) := ht.cell 3
      have y4 : w1.cell? ⟨tb, 4, none⟩ = some (.bool C) := ht.cell 4
      replace hR1 := Lib.hid hR1
      replace hB1 := Lib.hid hB1
      replace ht := Lib.hid ht
      clear hk hkb hrd hR hB
      go_wp2_with fail
      refine (hri.out _).mono ?_
      rintro _ w2 ⟨rfl, hb2⟩
      have hR2 := Lib.hid (hR1.out.below hb2 hR1.out.lt)
      have hB2 := Lib.hid (grew hB1.out hb2)
      have ht2 := ht.out.below hb2 ht.out.lt
      clear y0 y1 y2 y3 y4 hb2 hR1 hB1 ht
      have y0 : w2.cell? ⟨tb, 0, none⟩ = some (.string nm) := ht2.cell 0
      have y1 : w2.cell? ⟨tb, 1, none⟩ = some (.int .i64 u1) := ht2.cell 1
      have y2 : w2.cell? ⟨tb, 2, none⟩ = some (.int .i64 u2) := ht2.cell 2
      have y3 : w2.cell? ⟨tb, 3, none⟩ = some (.int .i64 u3) := ht2.cell 3
      have y4 : w2.cell? ⟨tb, 4, none⟩ = some (.bool C) := ht2.cell 4
      clear ht2
      go_wp2_with (with_reducible refine zStore 34 _ _ rfl ?_)
      refine Lib.hid ?_
      refine wpList_store_mid rfl 34 _ _ rfl rb 0 #[.string nm, .int .i64 u1, .int .i64 u2, .int .i64 u3, .bool C] rfl rfl (hR2.out.there 0 5 (by simp)) sizeSp (by simp [Value.oneCell']) ?_
      go_wp2_with fail
      have hfin := whole_all hR2.out (vs := [.string nm, .int .i64 u1, .int .i64 u2, .int .i64 u3, .bool C]) rfl
      exact bodyPost_ret (result_cell_tmp2 Try.results24 rfl rfl rfl hfin.range Try.underlying34 rfl sizeSp) rfl ⟨rfl, below_store hB2.out hrb.out (Nat.le_refl _) 0 _⟩
end Go.Proofs.Ytpfnpfbimadjkaa.W
