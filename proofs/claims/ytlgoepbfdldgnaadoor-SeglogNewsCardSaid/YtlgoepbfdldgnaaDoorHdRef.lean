/- The walk of the definition of headers: Encode. The walks of the definition of headers: Decode. -/
import Derived.Test.YtlgoepbfdldgnaaDoorHdA
import Derived.Test.YtlgoepbfdldgnaaDoorZeros
import Derived.Test.YtlgoepbfdldgnaaDoorCrc
import Derived.Test.YtlgoepbfdldgnaaDoorQuietB
import Derived.Deep.RegionHeld3
import Derived.Test.YtlgoepbfdldgnaaDoorFixed
import Derived.Test.YtlgoepbfdldgnaaDoorStops
section
namespace Go.Proofs.YtlgoepbfdldgnaaDoor.W
open Go.RowKit Go.Sort
open Go.Proofs.YtlgoepbfdldgnaaDoor.M Go.Proofs.YtlgoepbfdldgnaaDoor.D Go.Proofs.YtlgoepbfdldgnaaDoor.Z
set_option linter.unusedVariables false

def cvOpH : Oper := { dst := some 25, op := .convert 108 9 (.tmp 24), type := 9, pos := "ref.go:23", after := #[{ on := 20, ground := .data }], guard := none }
theorem cvOpH_eq : ({ dst := some 25, op := .convert 108 9 (.tmp 24), type := 9, pos := "ref.go:23", after := #[{ on := 20, ground := .data }], guard := none } : Oper) = cvOpH := rfl
attribute [local go_sem] cvOpH
theorem keepH {w w' : World} (h : Below w.heap.size w w') {a : Addr} {v : Value} (hc : w.cell? a = some v) : w'.cell? a = some v := keepZ h hc
theorem keepHA {w w' : World} {o : Obj} (h : Below (w.alloc o).heap.size (w.alloc o) w') {a : Addr} {v : Value} (hc : w.cell? a = some v) : w'.cell? a = some v :=
  keepZ h (by rw [World.cell?_alloc_lt _ _ _ (cell_lt hc)]; exact hc)
theorem undrewH {W w' : World} (h : Below W.drew.heap.size W.drew w') : Below W.heap.size W w' := ⟨h.os, h.tape, h.output, h.size, h.block⟩
theorem grewHA {w W w' : World} {o : Obj} (h : Below w.heap.size w W) (hb : Below (W.alloc o).heap.size (W.alloc o) w') : Below w.heap.size w w' := grew (grewAlloc h o) hb
theorem whole_string {w : World} {b n : Nat} {cs : Array Value} (hcs : cs.toList = List.replicate n (.int .u8 0)) (h : Whole w b 5 cs.toList) :
    (convert 108 9 (.slice (some ⟨b, 0, none⟩) n n)).run Tryd.prog w = .ok (.string (zerosB n)) w := by
  have hz : cs.toList = bytesV (List.replicate n (0 : UInt8)) := by rw [hcs]; unfold bytesV; rw [List.map_replicate]; rfl
  rw [hz] at h
  exact (rowOf h).back (P := Tryd.prog) 108 9 5 n n (by simp) Tryd.underlying108 Tryd.underlying5 Tryd.underlying9
set_option maxRecDepth 100000 in
set_option maxHeartbeats 8000000 in
theorem rencH_any (a g s b : Nat) (w : World) (ha : a < 65536) (hg : g < 4294967296) (hs : s < 4294967296) (hb : b ≤ 1099511627776) :
    Calls Tryd.prog 55 #[.agg #[.int .i64 (a : Int), .int .u32 (g : Int), .int .u32 (s : Int), .int .i64 (b : Int)]] w fun x w' => x = .returned (.string (B (headerL a g s b))) ∧ Below w.heap.size w w' := by
  have hf1 : ∀ W : World, Calls Tryd.prog 96 #[.int .u64 (a : Int), .int .i64 2] W fun e w' => e = .returned (.string (B (fx (a : Int) 2))) ∧ Below W.heap.size W w' := fun W => rfixed_any _ 2 W (by omega) (by omega) (by omega) (by omega)
  have hf2 : ∀ W : World, Calls Tryd.prog 96 #[.int .u64 (g : Int), .int .i64 4] W fun e w' => e = .returned (.string (B (fx (g : Int) 4))) ∧ Below W.heap.size W w' := fun W => rfixed_any _ 4 W (by omega) (by omega) (by omega) (by omega)
  have hf3 : ∀ W : World, Calls Tryd.prog 96 #[.int .u64 (s : Int), .int .i64 4] W fun e w' => e = .returned (.string (B (fx (s : Int) 4))) ∧ Below W.heap.size W w' := fun W => rfixed_any _ 4 W (by omega) (by omega) (by omega) (by omega)
  have hf4 : ∀ W : World, Calls Tryd.prog 96 #[.int .u64 (b : Int), .int .i64 8] W fun e w' => e = .returned (.string (B (fx (b : Int) 8))) ∧ Below W.heap.size W w' := fun W => rfixed_any _ 8 W (by omega) (by omega) (by omega) (by omega)
  have hcat : ⟨#[87, 83]⟩ ++ B (fx (a : Int) 2) ++ B (fx (g : Int) 4) ++ B (fx (s : Int) 4) ++ B (fx (b : Int) 8) ++ zerosB 8 = B (headH a g s b) := by
    unfold zerosB headH
    simp only [← B_append]
    rfl
  have hhl : (B (headH a g s b)).size = 28 := by rw [B_size, headH_len]
  have hcr := fun W => rcrc_any 0 (B (headH a g s b)) W (by omega) (by omega)
  rw [B_data] at hcr
  have hcl := crc_lt 0 (headH a g s b)
  have hend : B (headH a g s b) ++ B (fx (crc 0 (headH a g s b) : Nat) 4) = B (headerL a g s b) := by rw [B_append]; rfl
  obtain ⟨C, hC⟩ : ∃ C : Nat, Hid (crc 0 (headH a g s b) = C) := ⟨_, Lib.hid rfl⟩
  rw [hC.out] at hcr hcl hend
  have hf5 : Hid (∀ W : World, Calls Tryd.prog 96 #[.int .u64 (C : Int), .int .i64 4] W fun e w' => e = .returned (.string (B (fx (C : Int) 4))) ∧ Below W.heap.size W w') := Lib.hid (fun W => rfixed_any _ 4 W (by omega) (by omega) (by omega) (by omega))
  obtain ⟨T, hTT⟩ : ∃ T, Hid (B (headerL a g s b) = T) := ⟨_, Lib.hid rfl⟩
  rw [hTT.out] at hend ⊢
  obtain ⟨H, hH⟩ : ∃ H, Hid (B (headH a g s b) = H) := ⟨_, Lib.hid rfl⟩
  rw [hH.out] at hcat hcr hend hhl
  obtain ⟨F1, e1⟩ : ∃ F, Hid (B (fx (a : Int) 2) = F) := ⟨_, Lib.hid rfl⟩
  obtain ⟨F2, e2⟩ : ∃ F, Hid (B (fx (g : Int) 4) = F) := ⟨_, Lib.hid rfl⟩
  obtain ⟨F3, e3⟩ : ∃ F, Hid (B (fx (s : Int) 4) = F) := ⟨_, Lib.hid rfl⟩
  obtain ⟨F4, e4⟩ : ∃ F, Hid (B (fx (b : Int) 8) = F) := ⟨_, Lib.hid rfl⟩
  obtain ⟨F5, e5⟩ : ∃ F, Hid (B (fx (C : Int) 4) = F) := ⟨_, Lib.hid rfl⟩
  have z1 : F1.size = 2 := by rw [← e1.out, fx_size]
  have z2 : F2.size = 4 := by rw [← e2.out, fx_size]
  have z3 : F3.size = 4 := by rw [← e3.out, fx_size]
  have z4 : F4.size = 8 := by rw [← e4.out, fx_size]
  have z5 : F5.size = 4 := by rw [← e5.out, fx_size]
  rw [e1.out, e2.out, e3.out, e4.out] at hcat
  rw [e1.out] at hf1
  rw [e2.out] at hf2
  rw [e3.out] at hf3
  rw [e4.out] at hf4
  rw [e5.out] at hf5 hend
  obtain ⟨c8, hc8, hm8⟩ := make_bytes 8 (by omega)
  replace hm8 : ∀ W : World, (Instr.makeSlice 108 (.int .i64 8) (.int .i64 8)).run Tryd.prog W = .ok (.slice (some ⟨W.heap.size, 0, none⟩) 8 8) (W.alloc (.cells c8 5)) := fun W => hm8 W
  have hs8 : ∀ W : World, (convert 108 9 (.slice (some ⟨W.heap.size, 0, none⟩) 8 8)).run Tryd.prog (W.alloc (.cells c8 5)) = .ok (.string (zerosB 8)) (W.alloc (.cells c8 5)) := fun W => zero_string 8 c8 hc8 W
  have hs8d : ∀ W : World, (convert 108 9 (.slice (some ⟨W.heap.size, 0, none⟩) 8 8)).run Tryd.prog (W.alloc (.cells c8 5)).drew = .ok (.string (zerosB 8)) (W.alloc (.cells c8 5)).drew := fun W => zero_string 8 c8 hc8 W.drew
  have hs8k : ∀ (W : World) (nb : Nat), Whole W nb 5 c8.toList → (convert 108 9 (.slice (some ⟨nb, 0, none⟩) 8 8)).run Tryd.prog W = .ok (.string (zerosB 8)) W := fun W nb h => whole_string hc8 h
  have hZz := zerosB_size 8
  obtain ⟨Z, hZ⟩ : ∃ Z, Hid (zerosB 8 = Z) := ⟨_, Lib.hid rfl⟩
  rw [hZ.out] at hs8 hs8d hs8k hZz hcat
  have hnew : Hid (∀ W : World, Whole (W.alloc (.cells c8 5)) W.heap.size 5 c8.toList) := Lib.hid (fun W => Whole.new W 5 c8.toList)
  have hu1 : IntKind.u64.wrap (a : Int) = a := IntWalk.u64_in _ (by omega)
  have hu2 : IntKind.u64.wrap (g : Int) = g := IntWalk.u64_in _ (by omega)
  have hu3 : IntKind.u64.wrap (s : Int) = s := IntWalk.u64_in _ (by omega)
  have hu4 : IntKind.u64.wrap (b : Int) = b := IntWalk.u64_in _ (by omega)
  replace hcr : ∀ W : World, Calls Tryd.prog 97 #[.int .u32 0, .string H] W fun e w' => e = .returned (.int .u32 (C : Nat)) ∧ W = w' := fun W => hcr W
  replace hcr := Lib.hid hcr
  replace hf1 := Lib.hid hf1
  replace hf2 := Lib.hid hf2
  replace hf3 := Lib.hid hf3
  replace hf4 := Lib.hid hf4
  replace hcat := Lib.hid hcat
  replace hend := Lib.hid hend
  clear hc8
  have u0 := (Whole.new w 35 [.int .i64 (a : Int), .int .u32 (g : Int), .int .u32 (s : Int), .int .i64 (b : Int)]).cell 0
  have u1 := (Whole.new w 35 [.int .i64 (a : Int), .int .u32 (g : Int), .int .u32 (s : Int), .int .i64 (b : Int)]).cell 1
  have u2 := (Whole.new w 35 [.int .i64 (a : Int), .int .u32 (g : Int), .int .u32 (s : Int), .int .i64 (b : Int)]).cell 2
  have u3 := (Whole.new w 35 [.int .i64 (a : Int), .int .u32 (g : Int), .int .u32 (s : Int), .int .i64 (b : Int)]).cell 3
  have g0 := Lib.hid (grewAlloc (Below.refl _ w) (.cells [.int .i64 (a : Int), .int .u32 (g : Int), .int .u32 (s : Int), .int .i64 (b : Int)].toArray 35))
  obtain ⟨V, hV⟩ : ∃ V, Hid (V = w.alloc (.cells #[.int .i64 (a : Int), .int .u32 (g : Int), .int .u32 (s : Int), .int .i64 (b : Int)] 35)) := ⟨_, Lib.hid rfl⟩
  replace u0 : V.cell? ⟨w.heap.size, 0, none⟩ = some (.int .i64 (a : Int)) := by rw [hV.out]; exact u0
  replace u1 : V.cell? ⟨w.heap.size, 1, none⟩ = some (.int .u32 (g : Int)) := by rw [hV.out]; exact u1
  replace u2 : V.cell? ⟨w.heap.size, 2, none⟩ = some (.int .u32 (s : Int)) := by rw [hV.out]; exact u2
  replace u3 : V.cell? ⟨w.heap.size, 3, none⟩ = some (.int .i64 (b : Int)) := by rw [hV.out]; exact u3
  replace g0 : Hid (Below w.heap.size w V) := by rw [hV.out]; exact g0
  have d0 : V.drew.cell? ⟨w.heap.size, 0, none⟩ = some (.int .i64 (a : Int)) := u0
  have d1 : V.drew.cell? ⟨w.heap.size, 1, none⟩ = some (.int .u32 (g : Int)) := u1
  have d2 : V.drew.cell? ⟨w.heap.size, 2, none⟩ = some (.int .u32 (s : Int)) := u2
  have d3 : V.drew.cell? ⟨w.heap.size, 3, none⟩ = some (.int .i64 (b : Int)) := u3
  go_enter Tryd.func55, Tryd.ntmps55
  go_wp2_with fail
  rw [← hV.out]
  rw [cvOpH_eq]
  go_region_held3 (fun w' => w'.cell? ⟨w.heap.size, 0, none⟩ = some (.int .i64 (a : Int)) ∧ w'.cell? ⟨w.heap.size, 1, none⟩ = some (.int .u32 (g : Int)) ∧ w'.cell? ⟨w.heap.size, 2, none⟩ = some (.int .u32 (s : Int)) ∧ w'.cell? ⟨w.heap.size, 3, none⟩ = some (.int .i64 (b : Int))) (go_keep) (first
    | (go_at_call 96; (with_reducible refine (hf1.out _).mono ?_); rintro e w5 ⟨rfl, hb5⟩; replace hb5 := undrewH hb5; first | (have y0 := keepH hb5 u0; have y1 := keepH hb5 u1; have y2 := keepH hb5 u2; have y3 := keepH hb5 u3; have g1 := Lib.hid (grew g0.out hb5)) | (have y0 := keepHA hb5 u0; have y1 := keepHA hb5 u1; have y2 := keepHA hb5 u2; have y3 := keepHA hb5 u3; have g1 := Lib.hid (grewHA g0.out hb5); have k1 := (hnew.out _).below hb5 (hnew.out _).lt))
    | (go_at_call 96; (with_reducible refine (hf2.out _).mono ?_); rintro e w6 ⟨rfl, hb6⟩; first | (have v0 := keepH hb6 y0; have v1 := keepH hb6 y1; have v2 := keepH hb6 y2; have v3 := keepH hb6 y3; have g2 := Lib.hid (grew g1.out hb6); try (have k2 := k1.below hb6 k1.lt)) | (have v0 := keepHA hb6 y0; have v1 := keepHA hb6 y1; have v2 := keepHA hb6 y2; have v3 := keepHA hb6 y3; have g2 := Lib.hid (grewHA g1.out hb6); have k2 := (hnew.out _).below hb6 (hnew.out _).lt))
    | (go_at_call 96; (with_reducible refine (hf3.out _).mono ?_); rintro e w7 ⟨rfl, hb7⟩; first | (have x0 := keepH hb7 v0; have x1 := keepH hb7 v1; have x2 := keepH hb7 v2; have x3 := keepH hb7 v3; have g3 := Lib.hid (grew g2.out hb7); try (have k3 := k2.below hb7 k2.lt)) | (have x0 := keepHA hb7 v0; have x1 := keepHA hb7 v1; have x2 := keepHA hb7 v2; have x3 := keepHA hb7 v3; have g3 := Lib.hid (grewHA g2.out hb7); have k3 := (hnew.out _).below hb7 (hnew.out _).lt))
    | (go_at_call 96; (with_reducible refine (hf4.out _).mono ?_); rintro e w8 ⟨rfl, hb8⟩; first | (have z0 := keepH hb8 x0; have z1 := keepH hb8 x1; have z2 := keepH hb8 x2; have z3 := keepH hb8 x3; have g4 := Lib.hid (grew g3.out hb8); try (have k4 := k3.below hb8 k3.lt)) | (have z0 := keepHA hb8 x0; have z1 := keepHA hb8 x1; have z2 := keepHA hb8 x2; have z3 := keepHA hb8 x3; have g4 := Lib.hid (grewHA g3.out hb8); have k4 := (hnew.out _).below hb8 (hnew.out _).lt)))
  all_goals rw [hcat.out]
  all_goals (go_wp2_with fail; (refine (hcr.out _).mono ?_); rintro ee wa ⟨rfl, rfl⟩; go_wp2_with fail; (refine (hf5.out _).mono ?_); rintro ee wb ⟨rfl, hb9⟩; go_wp2_with fail; go_ret; first | exact ⟨ret_str hend.out, grew g4.out hb9⟩ | exact ⟨ret_str hend.out, grew (grewAlloc g4.out _) hb9⟩)
end Go.Proofs.YtlgoepbfdldgnaaDoor.W
end
section
namespace Go.Proofs.YtlgoepbfdldgnaaDoor.W
open Go.RowKit Go.Sort
open Go.Proofs.YtlgoepbfdldgnaaDoor.M Go.Proofs.YtlgoepbfdldgnaaDoor.D Go.Proofs.YtlgoepbfdldgnaaDoor.Z
set_option linter.unusedVariables false

theorem sizeG5 : (Tryd.prog.info? 127).map (·.size) = some 5 := by kernel_rfl
theorem sizeR4 : (Tryd.prog.info? 35).map (·.size) = some 4 := by kernel_rfl
set_option maxRecDepth 100000 in
set_option maxHeartbeats 4000000 in
theorem rdecH_short (s : ByteArray) (w : World) (hs : s.size < 32) :
    Calls Tryd.prog 70 #[.string s] w fun x w' => x = .returned (.agg #[.int .i64 0, .int .u32 0, .int .u32 0, .int .i64 0, .int .i64 3]) ∧ Below w.heap.size w w' := by
  have hz : (s.size : Int) < 32 := by omega
  have hB := Lib.hid ((Below.refl w.heap.size w).alloc (Nat.le_refl _) (.cells #[.int .i64 0, .int .u32 0, .int .u32 0, .int .i64 0, .int .i64 3] 127))
  go_enter Tryd.func70, Tryd.ntmps70
  go_wp2_with fail
  exact bodyPost_ret (v := .agg #[.int .i64 0, .int .u32 0, .int .u32 0, .int .i64 0, .int .i64 3]) (by simp [results, Tryd.results70, go_sem]) rfl ⟨rfl, hB.out⟩
set_option maxRecDepth 100000 in
set_option maxHeartbeats 4000000 in
theorem rdecH_big (s : ByteArray) (w : World) (hs : 32 ≤ s.size) (hsz : s.size ≤ 1000000) (hb : ¬ baseH s ≤ 1099511627776) :
    Calls Tryd.prog 70 #[.string s] w fun x w' => x = .returned (.agg #[.int .i64 0, .int .u32 0, .int .u32 0, .int .i64 0, .int .i64 4]) ∧ Below w.heap.size w w' := by
  have hr3 : ∀ W : World, Calls Tryd.prog 88 #[.string (s.extract 12 20)] W fun e w' => e = .returned (.int .u64 (baseH s : Nat)) ∧ W = w' := fun W => rread_any _ W (by simp; omega)
  have l3 := baseH_lt s
  obtain ⟨d, e3⟩ : ∃ a, Hid (baseH s = a) := ⟨_, Lib.hid rfl⟩
  rw [e3.out] at hr3 hb l3
  replace hr3 := Lib.hid hr3
  have i1 : (32 : Int) ≤ (s.size : Int) := by omega
  have i2 : (20 : Int) ≤ (s.size : Int) := by omega
  have i3 : (12 : Int) ≤ (s.size : Int) := by omega
  have hnb : (1099511627776 : Int) < (d : Int) := by omega
  have hB := Lib.hid ((Below.refl w.heap.size w).alloc (Nat.le_refl _) (.cells #[.int .i64 0, .int .u32 0, .int .u32 0, .int .i64 0, .int .i64 4] 127))
  go_enter Tryd.func70, Tryd.ntmps70
  go_wp2_with fail
  refine (hr3.out _).mono ?_
  rintro ee w1 ⟨rfl, rfl⟩
  go_wp2_with fail
  exact bodyPost_ret (v := .agg #[.int .i64 0, .int .u32 0, .int .u32 0, .int .i64 0, .int .i64 4]) (by simp [results, Tryd.results70, go_sem]) rfl ⟨rfl, hB.out⟩
set_option maxRecDepth 100000 in
set_option maxHeartbeats 8000000 in
theorem rdecH_yes (s : ByteArray) (w : World) (hs : 32 ≤ s.size) (hsz : s.size ≤ 1000000) (h0 : 1 ≤ logH s) (hb : baseH s ≤ 1099511627776) (h1 : B (headerL (logH s) (genH s) (stH s) (baseH s)) = s.extract 0 32) :
    Calls Tryd.prog 70 #[.string s] w fun x w' => x = .returned (.agg #[.int .i64 (logH s : Nat), .int .u32 (genH s : Nat), .int .u32 (stH s : Nat), .int .i64 (baseH s : Nat), .int .i64 0]) ∧ Below w.heap.size w w' := by
  have l0 := logH_lt s
  have l1 := genH_lt s
  have l2 := stH_lt s
  have hr0 : ∀ W : World, Calls Tryd.prog 88 #[.string (s.extract 2 4)] W fun e w' => e = .returned (.int .u64 (logH s : Nat)) ∧ W = w' := fun W => rread_any _ W (by simp; omega)
  have hr1 : ∀ W : World, Calls Tryd.prog 88 #[.string (s.extract 4 8)] W fun e w' => e = .returned (.int .u64 (genH s : Nat)) ∧ W = w' := fun W => rread_any _ W (by simp; omega)
  have hr2 : ∀ W : World, Calls Tryd.prog 88 #[.string (s.extract 8 12)] W fun e w' => e = .returned (.int .u64 (stH s : Nat)) ∧ W = w' := fun W => rread_any _ W (by simp; omega)
  have hr3 : ∀ W : World, Calls Tryd.prog 88 #[.string (s.extract 12 20)] W fun e w' => e = .returned (.int .u64 (baseH s : Nat)) ∧ W = w' := fun W => rread_any _ W (by simp; omega)
  have hen := fun W => rencH_any (logH s) (genH s) (stH s) (baseH s) W l0 l1 l2 hb
  obtain ⟨U, hU⟩ : ∃ U, Hid (B (headerL (logH s) (genH s) (stH s) (baseH s)) = U) := ⟨_, Lib.hid rfl⟩
  rw [hU.out] at hen h1
  obtain ⟨a, e0⟩ : ∃ a, Hid (logH s = a) := ⟨_, Lib.hid rfl⟩
  obtain ⟨b, e1⟩ : ∃ a, Hid (genH s = a) := ⟨_, Lib.hid rfl⟩
  obtain ⟨c, e2⟩ : ∃ a, Hid (stH s = a) := ⟨_, Lib.hid rfl⟩
  obtain ⟨d, e3⟩ : ∃ a, Hid (baseH s = a) := ⟨_, Lib.hid rfl⟩
  rw [e0.out] at hr0 l0 h0 hen ⊢
  rw [e1.out] at hr1 l1 hen ⊢
  rw [e2.out] at hr2 l2 hen ⊢
  rw [e3.out] at hr3 hb hen ⊢
  have hma : ∀ W : World, Calls Tryd.prog 13 #[.agg #[.int .i64 (a : Int), .int .u32 (b : Int), .int .u32 (c : Int), .int .i64 (d : Int)]] W fun x w' => x = .returned (.bool true) ∧ Below W.heap.size W w' := fun W => by
    have h := rmayH_any a b c d W
    rw [show okH (a : Int) (d : Int) = true from by unfold okH; simp; omega] at h
    exact h
  have hus := bytes_eq h1
  have i1 : (32 : Int) ≤ (s.size : Int) := by omega
  have i2 : (20 : Int) ≤ (s.size : Int) := by omega
  have i3 : (12 : Int) ≤ (s.size : Int) := by omega
  have i4 : (8 : Int) ≤ (s.size : Int) := by omega
  have i5 : (4 : Int) ≤ (s.size : Int) := by omega
  have hc0 : IntKind.i64.wrap (a : Int) = a := IntWalk.i64_in _ (by omega)
  have hc1 : IntKind.u32.wrap (b : Int) = b := IntWalk.u32_in _ (by omega)
  have hc2 : IntKind.u32.wrap (c : Int) = c := IntWalk.u32_in _ (by omega)
  have hc3 : IntKind.i64.wrap (d : Int) = d := IntWalk.i64_in _ (by omega)
  have hnb : (d : Int) ≤ 1099511627776 := by omega
  replace hr0 := Lib.hid hr0
  replace hr1 := Lib.hid hr1
  replace hr2 := Lib.hid hr2
  replace hr3 := Lib.hid hr3
  replace hma := Lib.hid hma
  replace hen := Lib.hid hen
  clear e0 e1 e2 e3 h0 h1 hU
  have hR := Whole.new w 127 [.int .i64 0, .int .u32 0, .int .u32 0, .int .i64 0, .int .i64 0]
  have hB := (Below.refl w.heap.size w).alloc (Nat.le_refl _) (.cells #[.int .i64 0, .int .u32 0, .int .u32 0, .int .i64 0, .int .i64 0] 127)
  obtain ⟨W, hW⟩ : ∃ W, Hid (W = w.alloc (.cells #[.int .i64 0, .int .u32 0, .int .u32 0, .int .i64 0, .int .i64 0] 127)) := ⟨_, Lib.hid rfl⟩
  replace hR : Hid (Whole W w.heap.size 127 [.int .i64 0, .int .u32 0, .int .u32 0, .int .i64 0, .int .i64 0]) := Lib.hid (by rw [hW.out]; exact hR)
  replace hB : Hid (Below w.heap.size w W) := Lib.hid (by rw [hW.out]; exact hB)
  go_enter Tryd.func70, Tryd.ntmps70
  go_wp2_with fail
  refine (hr3.out _).mono ?_
  rintro ee w1 ⟨rfl, rfl⟩
  go_wp2_with fail
  rw [← hW.out]
  clear hW
  have hN := (Whole.new W 35 [.int .i64 (a : Int), .int .u32 (b : Int), .int .u32 (c : Int), .int .i64 (d : Int)]).drewN 1
  replace hR := (hR.out.alloc (.cells [.int .i64 (a : Int), .int .u32 (b : Int), .int .u32 (c : Int), .int .i64 (d : Int)].toArray 35)).drewN 1
  replace hB := drewS (grewAlloc hB.out (.cells [.int .i64 (a : Int), .int .u32 (b : Int), .int .u32 (c : Int), .int .i64 (d : Int)].toArray 35)) 1
  obtain ⟨V, hV⟩ : ∃ V, Hid (V = (W.alloc (.cells #[.int .i64 (a : Int), .int .u32 (b : Int), .int .u32 (c : Int), .int .i64 (d : Int)] 35)).drew) := ⟨_, Lib.hid rfl⟩
  replace hN : Whole V W.heap.size 35 [.int .i64 (a : Int), .int .u32 (b : Int), .int .u32 (c : Int), .int .i64 (d : Int)] := by rw [hV.out]; exact hN
  replace hR : Whole V w.heap.size 127 [.int .i64 0, .int .u32 0, .int .u32 0, .int .i64 0, .int .i64 0] := by rw [hV.out]; exact hR
  replace hB : Below w.heap.size w V := by rw [hV.out]; exact hB
  have hrn : Hid (∀ w', (∃ p : Regrown, w' = grow (redrawn V p.d) p.os) → w'.rangeAt W.heap.size 0 [.int .i64 (a : Int), .int .u32 (b : Int), .int .u32 (c : Int), .int .i64 (d : Int)]) := Lib.hid (by rintro _ ⟨p, rfl⟩; exact (hN.below (below_regrown V p.d p.os) hN.lt).range)
  have hi0 : Hid ((Tryd.prog.info? 35).map (·.size) = some ([.int .i64 (a : Int), .int .u32 (b : Int), .int .u32 (c : Int), .int .i64 (d : Int)] : List Value).length) := Lib.hid sizeR4
  have cm := Lib.hid (regrown_any hma.out V)
  have ce := Lib.hid (regrown_any hen.out V)
  replace hN := Lib.hid hN
  replace hR := Lib.hid hR
  replace hB := Lib.hid hB
  go_region_held3 (fun w' => True) (trivial) (first
    | (go_at_call 88; (with_reducible refine (hr0.out _).mono ?_); rintro ee w2 ⟨rfl, rfl⟩)
    | (go_at_call 88; (with_reducible refine (hr1.out _).mono ?_); rintro ee w2 ⟨rfl, rfl⟩)
    | (go_at_call 88; (with_reducible refine (hr2.out _).mono ?_); rintro ee w2 ⟨rfl, rfl⟩))
  · rw [← hV.out]
    clear hV
    go_wp2_with fail
    generalize W.heap.size = nb at *
    refine wp_region_quiet_below (by kernel_rfl) (by kernel_rfl) ?_
    repeat (first
      | ((with_reducible refine quiet_load 35 _ nb [.int .i64 (a : Int), .int .u32 (b : Int), .int .u32 (c : Int), .int .i64 (d : Int)] ?_ hrn.out Tryd.underlying35 ?_ hi0.out ?_ ?_); (· rfl); (· rfl); (· rfl); simp only [Act.put, List.setIfInBounds_toArray, List.set_cons_zero, List.set_cons_succ])
      | go_big_quiet_step (first | exact cm.out _ _ | exact ce.out _ _))
    refine wpQuiet_nil ?_
    intro _ hw'
    obtain ⟨⟨dq, osq⟩, hw''⟩ := hw'
    subst hw''
    have hR5 := Lib.hid (hR.out.below (below_regrown V dq osq) hR.out.lt)
    have hN5 := Lib.hid (hN.out.below (below_regrown V dq osq) hN.out.lt)
    have hB5 := Lib.hid (grew hB.out (below_regrown V dq osq))
    clear hrn hi0 cm ce hR hN hB
    generalize grow (redrawn V dq) osq = w7 at *
    go_wp2_with (with_reducible refine zLoad 35 _ rfl ?_)
    refine Lib.hid ?_
    refine wpList_load_mid rfl 35 _ rfl nb 0 rfl [.int .i64 (a : Int), .int .u32 (b : Int), .int .u32 (c : Int), .int .i64 (d : Int)] _ hN5.out.range Tryd.underlying35 rfl sizeR4 ?_
    go_wp2_with (with_reducible refine zStore 127 _ _ rfl ?_)
    refine Lib.hid ?_
    refine wpList_store_mid rfl 127 _ _ rfl w.heap.size 0 #[.int .i64 (a : Int), .int .u32 (b : Int), .int .u32 (c : Int), .int .i64 (d : Int), .int .i64 0] rfl rfl (hR5.out.there 0 5 (by simp)) sizeG5 (by simp [Value.oneCell']) ?_
    go_wp2_with fail
    have hfin := whole_all hR5.out (vs := [.int .i64 (a : Int), .int .u32 (b : Int), .int .u32 (c : Int), .int .i64 (d : Int), .int .i64 0]) rfl
    exact bodyPost_ret (result_cell Tryd.results70 rfl hfin.range Tryd.underlying127 rfl sizeG5) rfl ⟨rfl, below_store hB5.out (Nat.le_refl _) (Nat.le_refl _) 0 _⟩
  · rw [← hV.out]
    clear hV
    go_wp2_with fail
    generalize W.heap.size = nb at *
    refine wp_region_quiet_below (by kernel_rfl) (by kernel_rfl) ?_
    repeat (first
      | ((with_reducible refine quiet_load 35 _ nb [.int .i64 (a : Int), .int .u32 (b : Int), .int .u32 (c : Int), .int .i64 (d : Int)] ?_ hrn.out Tryd.underlying35 ?_ hi0.out ?_ ?_); (· rfl); (· rfl); (· rfl); simp only [Act.put, List.setIfInBounds_toArray, List.set_cons_zero, List.set_cons_succ])
      | go_big_quiet_step (first | exact cm.out _ _ | exact ce.out _ _))
    refine wpQuiet_nil ?_
    intro _ hw'
    obtain ⟨⟨dq, osq⟩, hw''⟩ := hw'
    subst hw''
    have hR5 := Lib.hid (hR.out.below (below_regrown V dq osq) hR.out.lt)
    have hN5 := Lib.hid (hN.out.below (below_regrown V dq osq) hN.out.lt)
    have hB5 := Lib.hid (grew hB.out (below_regrown V dq osq))
    clear hrn hi0 cm ce hR hN hB
    generalize grow (redrawn V dq) osq = w7 at *
    go_wp2_with (with_reducible refine zLoad 35 _ rfl ?_)
    refine Lib.hid ?_
    refine wpList_load_mid rfl 35 _ rfl nb 0 rfl [.int .i64 (a : Int), .int .u32 (b : Int), .int .u32 (c : Int), .int .i64 (d : Int)] _ hN5.out.range Tryd.underlying35 rfl sizeR4 ?_
    go_wp2_with (with_reducible refine zStore 127 _ _ rfl ?_)
    refine Lib.hid ?_
    refine wpList_store_mid rfl 127 _ _ rfl w.heap.size 0 #[.int .i64 (a : Int), .int .u32 (b : Int), .int .u32 (c : Int), .int .i64 (d : Int), .int .i64 0] rfl rfl (hR5.out.there 0 5 (by simp)) sizeG5 (by simp [Value.oneCell']) ?_
    go_wp2_with fail
    have hfin := whole_all hR5.out (vs := [.int .i64 (a : Int), .int .u32 (b : Int), .int .u32 (c : Int), .int .i64 (d : Int), .int .i64 0]) rfl
    exact bodyPost_ret (result_cell Tryd.results70 rfl hfin.range Tryd.underlying127 rfl sizeG5) rfl ⟨rfl, below_store hB5.out (Nat.le_refl _) (Nat.le_refl _) 0 _⟩
  · rw [← hV.out]
    clear hV
    go_wp2_with fail
    generalize W.heap.size = nb at *
    refine wp_region_quiet_below (by kernel_rfl) (by kernel_rfl) ?_
    repeat (first
      | ((with_reducible refine quiet_load 35 _ nb [.int .i64 (a : Int), .int .u32 (b : Int), .int .u32 (c : Int), .int .i64 (d : Int)] ?_ hrn.out Tryd.underlying35 ?_ hi0.out ?_ ?_); (· rfl); (· rfl); (· rfl); simp only [Act.put, List.setIfInBounds_toArray, List.set_cons_zero, List.set_cons_succ])
      | go_big_quiet_step (first | exact cm.out _ _ | exact ce.out _ _))
    refine wpQuiet_nil ?_
    intro _ hw'
    obtain ⟨⟨dq, osq⟩, hw''⟩ := hw'
    subst hw''
    have hR5 := Lib.hid (hR.out.below (below_regrown V dq osq) hR.out.lt)
    have hN5 := Lib.hid (hN.out.below (below_regrown V dq osq) hN.out.lt)
    have hB5 := Lib.hid (grew hB.out (below_regrown V dq osq))
    clear hrn hi0 cm ce hR hN hB
    generalize grow (redrawn V dq) osq = w7 at *
    go_wp2_with (with_reducible refine zLoad 35 _ rfl ?_)
    refine Lib.hid ?_
    refine wpList_load_mid rfl 35 _ rfl nb 0 rfl [.int .i64 (a : Int), .int .u32 (b : Int), .int .u32 (c : Int), .int .i64 (d : Int)] _ hN5.out.range Tryd.underlying35 rfl sizeR4 ?_
    go_wp2_with (with_reducible refine zStore 127 _ _ rfl ?_)
    refine Lib.hid ?_
    refine wpList_store_mid rfl 127 _ _ rfl w.heap.size 0 #[.int .i64 (a : Int), .int .u32 (b : Int), .int .u32 (c : Int), .int .i64 (d : Int), .int .i64 0] rfl rfl (hR5.out.there 0 5 (by simp)) sizeG5 (by simp [Value.oneCell']) ?_
    go_wp2_with fail
    have hfin := whole_all hR5.out (vs := [.int .i64 (a : Int), .int .u32 (b : Int), .int .u32 (c : Int), .int .i64 (d : Int), .int .i64 0]) rfl
    exact bodyPost_ret (result_cell Tryd.results70 rfl hfin.range Tryd.underlying127 rfl sizeG5) rfl ⟨rfl, below_store hB5.out (Nat.le_refl _) (Nat.le_refl _) 0 _⟩
  · rw [← hV.out]
    clear hV
    go_wp2_with fail
    generalize W.heap.size = nb at *
    refine wp_region_quiet_below (by kernel_rfl) (by kernel_rfl) ?_
    repeat (first
      | ((with_reducible refine quiet_load 35 _ nb [.int .i64 (a : Int), .int .u32 (b : Int), .int .u32 (c : Int), .int .i64 (d : Int)] ?_ hrn.out Tryd.underlying35 ?_ hi0.out ?_ ?_); (· rfl); (· rfl); (· rfl); simp only [Act.put, List.setIfInBounds_toArray, List.set_cons_zero, List.set_cons_succ])
      | go_big_quiet_step (first | exact cm.out _ _ | exact ce.out _ _))
    refine wpQuiet_nil ?_
    intro _ hw'
    obtain ⟨⟨dq, osq⟩, hw''⟩ := hw'
    subst hw''
    have hR5 := Lib.hid (hR.out.below (below_regrown V dq osq) hR.out.lt)
    have hN5 := Lib.hid (hN.out.below (below_regrown V dq osq) hN.out.lt)
    have hB5 := Lib.hid (grew hB.out (below_regrown V dq osq))
    clear hrn hi0 cm ce hR hN hB
    generalize grow (redrawn V dq) osq = w7 at *
    go_wp2_with (with_reducible refine zLoad 35 _ rfl ?_)
    refine Lib.hid ?_
    refine wpList_load_mid rfl 35 _ rfl nb 0 rfl [.int .i64 (a : Int), .int .u32 (b : Int), .int .u32 (c : Int), .int .i64 (d : Int)] _ hN5.out.range Tryd.underlying35 rfl sizeR4 ?_
    go_wp2_with (with_reducible refine zStore 127 _ _ rfl ?_)
    refine Lib.hid ?_
    refine wpList_store_mid rfl 127 _ _ rfl w.heap.size 0 #[.int .i64 (a : Int), .int .u32 (b : Int), .int .u32 (c : Int), .int .i64 (d : Int), .int .i64 0] rfl rfl (hR5.out.there 0 5 (by simp)) sizeG5 (by simp [Value.oneCell']) ?_
    go_wp2_with fail
    have hfin := whole_all hR5.out (vs := [.int .i64 (a : Int), .int .u32 (b : Int), .int .u32 (c : Int), .int .i64 (d : Int), .int .i64 0]) rfl
    exact bodyPost_ret (result_cell Tryd.results70 rfl hfin.range Tryd.underlying127 rfl sizeG5) rfl ⟨rfl, below_store hB5.out (Nat.le_refl _) (Nat.le_refl _) 0 _⟩
set_option maxRecDepth 100000 in
set_option maxHeartbeats 8000000 in
theorem rdecH_data (s : ByteArray) (w : World) (hs : 32 ≤ s.size) (hsz : s.size ≤ 1000000) (h0 : 1 ≤ logH s) (hb : baseH s ≤ 1099511627776) (h1 : ¬ B (headerL (logH s) (genH s) (stH s) (baseH s)) = s.extract 0 32) :
    Calls Tryd.prog 70 #[.string s] w fun x w' => x = .returned (.agg #[.int .i64 0, .int .u32 0, .int .u32 0, .int .i64 0, .int .i64 4]) ∧ Below w.heap.size w w' := by
  have l0 := logH_lt s
  have l1 := genH_lt s
  have l2 := stH_lt s
  have hr0 : ∀ W : World, Calls Tryd.prog 88 #[.string (s.extract 2 4)] W fun e w' => e = .returned (.int .u64 (logH s : Nat)) ∧ W = w' := fun W => rread_any _ W (by simp; omega)
  have hr1 : ∀ W : World, Calls Tryd.prog 88 #[.string (s.extract 4 8)] W fun e w' => e = .returned (.int .u64 (genH s : Nat)) ∧ W = w' := fun W => rread_any _ W (by simp; omega)
  have hr2 : ∀ W : World, Calls Tryd.prog 88 #[.string (s.extract 8 12)] W fun e w' => e = .returned (.int .u64 (stH s : Nat)) ∧ W = w' := fun W => rread_any _ W (by simp; omega)
  have hr3 : ∀ W : World, Calls Tryd.prog 88 #[.string (s.extract 12 20)] W fun e w' => e = .returned (.int .u64 (baseH s : Nat)) ∧ W = w' := fun W => rread_any _ W (by simp; omega)
  have hen := fun W => rencH_any (logH s) (genH s) (stH s) (baseH s) W l0 l1 l2 hb
  obtain ⟨U, hU⟩ : ∃ U, Hid (B (headerL (logH s) (genH s) (stH s) (baseH s)) = U) := ⟨_, Lib.hid rfl⟩
  rw [hU.out] at hen h1
  obtain ⟨a, e0⟩ : ∃ a, Hid (logH s = a) := ⟨_, Lib.hid rfl⟩
  obtain ⟨b, e1⟩ : ∃ a, Hid (genH s = a) := ⟨_, Lib.hid rfl⟩
  obtain ⟨c, e2⟩ : ∃ a, Hid (stH s = a) := ⟨_, Lib.hid rfl⟩
  obtain ⟨d, e3⟩ : ∃ a, Hid (baseH s = a) := ⟨_, Lib.hid rfl⟩
  rw [e0.out] at hr0 l0 h0 hen
  rw [e1.out] at hr1 l1 hen
  rw [e2.out] at hr2 l2 hen
  rw [e3.out] at hr3 hb hen
  have hma : ∀ W : World, Calls Tryd.prog 13 #[.agg #[.int .i64 (a : Int), .int .u32 (b : Int), .int .u32 (c : Int), .int .i64 (d : Int)]] W fun x w' => x = .returned (.bool true) ∧ Below W.heap.size W w' := fun W => by
    have h := rmayH_any a b c d W
    rw [show okH (a : Int) (d : Int) = true from by unfold okH; simp; omega] at h
    exact h
  have hus := bytes_ne h1
  have i1 : (32 : Int) ≤ (s.size : Int) := by omega
  have i2 : (20 : Int) ≤ (s.size : Int) := by omega
  have i3 : (12 : Int) ≤ (s.size : Int) := by omega
  have i4 : (8 : Int) ≤ (s.size : Int) := by omega
  have i5 : (4 : Int) ≤ (s.size : Int) := by omega
  have hc0 : IntKind.i64.wrap (a : Int) = a := IntWalk.i64_in _ (by omega)
  have hc1 : IntKind.u32.wrap (b : Int) = b := IntWalk.u32_in _ (by omega)
  have hc2 : IntKind.u32.wrap (c : Int) = c := IntWalk.u32_in _ (by omega)
  have hc3 : IntKind.i64.wrap (d : Int) = d := IntWalk.i64_in _ (by omega)
  have hnb : (d : Int) ≤ 1099511627776 := by omega
  replace hr0 := Lib.hid hr0
  replace hr1 := Lib.hid hr1
  replace hr2 := Lib.hid hr2
  replace hr3 := Lib.hid hr3
  replace hma := Lib.hid hma
  replace hen := Lib.hid hen
  clear e0 e1 e2 e3 h0 h1 hU
  have hR := Whole.new w 127 [.int .i64 0, .int .u32 0, .int .u32 0, .int .i64 0, .int .i64 0]
  have hB := (Below.refl w.heap.size w).alloc (Nat.le_refl _) (.cells #[.int .i64 0, .int .u32 0, .int .u32 0, .int .i64 0, .int .i64 0] 127)
  obtain ⟨W, hW⟩ : ∃ W, Hid (W = w.alloc (.cells #[.int .i64 0, .int .u32 0, .int .u32 0, .int .i64 0, .int .i64 0] 127)) := ⟨_, Lib.hid rfl⟩
  replace hR : Hid (Whole W w.heap.size 127 [.int .i64 0, .int .u32 0, .int .u32 0, .int .i64 0, .int .i64 0]) := Lib.hid (by rw [hW.out]; exact hR)
  replace hB : Hid (Below w.heap.size w W) := Lib.hid (by rw [hW.out]; exact hB)
  go_enter Tryd.func70, Tryd.ntmps70
  go_wp2_with fail
  refine (hr3.out _).mono ?_
  rintro ee w1 ⟨rfl, rfl⟩
  go_wp2_with fail
  rw [← hW.out]
  clear hW
  have hN := (Whole.new W 35 [.int .i64 (a : Int), .int .u32 (b : Int), .int .u32 (c : Int), .int .i64 (d : Int)]).drewN 1
  replace hR := (hR.out.alloc (.cells [.int .i64 (a : Int), .int .u32 (b : Int), .int .u32 (c : Int), .int .i64 (d : Int)].toArray 35)).drewN 1
  replace hB := drewS (grewAlloc hB.out (.cells [.int .i64 (a : Int), .int .u32 (b : Int), .int .u32 (c : Int), .int .i64 (d : Int)].toArray 35)) 1
  obtain ⟨V, hV⟩ : ∃ V, Hid (V = (W.alloc (.cells #[.int .i64 (a : Int), .int .u32 (b : Int), .int .u32 (c : Int), .int .i64 (d : Int)] 35)).drew) := ⟨_, Lib.hid rfl⟩
  replace hN : Whole V W.heap.size 35 [.int .i64 (a : Int), .int .u32 (b : Int), .int .u32 (c : Int), .int .i64 (d : Int)] := by rw [hV.out]; exact hN
  replace hR : Whole V w.heap.size 127 [.int .i64 0, .int .u32 0, .int .u32 0, .int .i64 0, .int .i64 0] := by rw [hV.out]; exact hR
  replace hB : Below w.heap.size w V := by rw [hV.out]; exact hB
  have hrn : Hid (∀ w', (∃ p : Regrown, w' = grow (redrawn V p.d) p.os) → w'.rangeAt W.heap.size 0 [.int .i64 (a : Int), .int .u32 (b : Int), .int .u32 (c : Int), .int .i64 (d : Int)]) := Lib.hid (by rintro _ ⟨p, rfl⟩; exact (hN.below (below_regrown V p.d p.os) hN.lt).range)
  have hi0 : Hid ((Tryd.prog.info? 35).map (·.size) = some ([.int .i64 (a : Int), .int .u32 (b : Int), .int .u32 (c : Int), .int .i64 (d : Int)] : List Value).length) := Lib.hid sizeR4
  have cm := Lib.hid (regrown_any hma.out V)
  have ce := Lib.hid (regrown_any hen.out V)
  replace hN := Lib.hid hN
  replace hR := Lib.hid hR
  replace hB := Lib.hid hB
  go_region_held3 (fun w' => True) (trivial) (first
    | (go_at_call 88; (with_reducible refine (hr0.out _).mono ?_); rintro ee w2 ⟨rfl, rfl⟩)
    | (go_at_call 88; (with_reducible refine (hr1.out _).mono ?_); rintro ee w2 ⟨rfl, rfl⟩)
    | (go_at_call 88; (with_reducible refine (hr2.out _).mono ?_); rintro ee w2 ⟨rfl, rfl⟩))
  · rw [← hV.out]
    clear hV
    go_wp2_with fail
    generalize W.heap.size = nb at *
    refine wp_region_quiet_below (by kernel_rfl) (by kernel_rfl) ?_
    repeat (first
      | ((with_reducible refine quiet_load 35 _ nb [.int .i64 (a : Int), .int .u32 (b : Int), .int .u32 (c : Int), .int .i64 (d : Int)] ?_ hrn.out Tryd.underlying35 ?_ hi0.out ?_ ?_); (· rfl); (· rfl); (· rfl); simp only [Act.put, List.setIfInBounds_toArray, List.set_cons_zero, List.set_cons_succ])
      | go_big_quiet_step (first | exact cm.out _ _ | exact ce.out _ _))
    refine wpQuiet_nil ?_
    intro _ hw'
    obtain ⟨⟨dq, osq⟩, hw''⟩ := hw'
    subst hw''
    have hR5 := Lib.hid (hR.out.below (below_regrown V dq osq) hR.out.lt)
    have hN5 := Lib.hid (hN.out.below (below_regrown V dq osq) hN.out.lt)
    have hB5 := Lib.hid (grew hB.out (below_regrown V dq osq))
    clear hrn hi0 cm ce hR hN hB
    generalize grow (redrawn V dq) osq = w7 at *
    go_wp2_with (with_reducible refine zStore 127 _ _ rfl ?_)
    refine Lib.hid ?_
    refine wpList_store_mid rfl 127 _ _ rfl w.heap.size 0 #[.int .i64 0, .int .u32 0, .int .u32 0, .int .i64 0, .int .i64 4] rfl rfl (hR5.out.there 0 5 (by simp)) sizeG5 (by simp [Value.oneCell']) ?_
    go_wp2_with fail
    have hfin := whole_all hR5.out (vs := [.int .i64 0, .int .u32 0, .int .u32 0, .int .i64 0, .int .i64 4]) rfl
    exact bodyPost_ret (result_cell Tryd.results70 rfl hfin.range Tryd.underlying127 rfl sizeG5) rfl ⟨rfl, below_store hB5.out (Nat.le_refl _) (Nat.le_refl _) 0 _⟩
  · rw [← hV.out]
    clear hV
    go_wp2_with fail
    generalize W.heap.size = nb at *
    refine wp_region_quiet_below (by kernel_rfl) (by kernel_rfl) ?_
    repeat (first
      | ((with_reducible refine quiet_load 35 _ nb [.int .i64 (a : Int), .int .u32 (b : Int), .int .u32 (c : Int), .int .i64 (d : Int)] ?_ hrn.out Tryd.underlying35 ?_ hi0.out ?_ ?_); (· rfl); (· rfl); (· rfl); simp only [Act.put, List.setIfInBounds_toArray, List.set_cons_zero, List.set_cons_succ])
      | go_big_quiet_step (first | exact cm.out _ _ | exact ce.out _ _))
    refine wpQuiet_nil ?_
    intro _ hw'
    obtain ⟨⟨dq, osq⟩, hw''⟩ := hw'
    subst hw''
    have hR5 := Lib.hid (hR.out.below (below_regrown V dq osq) hR.out.lt)
    have hN5 := Lib.hid (hN.out.below (below_regrown V dq osq) hN.out.lt)
    have hB5 := Lib.hid (grew hB.out (below_regrown V dq osq))
    clear hrn hi0 cm ce hR hN hB
    generalize grow (redrawn V dq) osq = w7 at *
    go_wp2_with (with_reducible refine zStore 127 _ _ rfl ?_)
    refine Lib.hid ?_
    refine wpList_store_mid rfl 127 _ _ rfl w.heap.size 0 #[.int .i64 0, .int .u32 0, .int .u32 0, .int .i64 0, .int .i64 4] rfl rfl (hR5.out.there 0 5 (by simp)) sizeG5 (by simp [Value.oneCell']) ?_
    go_wp2_with fail
    have hfin := whole_all hR5.out (vs := [.int .i64 0, .int .u32 0, .int .u32 0, .int .i64 0, .int .i64 4]) rfl
    exact bodyPost_ret (result_cell Tryd.results70 rfl hfin.range Tryd.underlying127 rfl sizeG5) rfl ⟨rfl, below_store hB5.out (Nat.le_refl _) (Nat.le_refl _) 0 _⟩
  · rw [← hV.out]
    clear hV
    go_wp2_with fail
    generalize W.heap.size = nb at *
    refine wp_region_quiet_below (by kernel_rfl) (by kernel_rfl) ?_
    repeat (first
      | ((with_reducible refine quiet_load 35 _ nb [.int .i64 (a : Int), .int .u32 (b : Int), .int .u32 (c : Int), .int .i64 (d : Int)] ?_ hrn.out Tryd.underlying35 ?_ hi0.out ?_ ?_); (· rfl); (· rfl); (· rfl); simp only [Act.put, List.setIfInBounds_toArray, List.set_cons_zero, List.set_cons_succ])
      | go_big_quiet_step (first | exact cm.out _ _ | exact ce.out _ _))
    refine wpQuiet_nil ?_
    intro _ hw'
    obtain ⟨⟨dq, osq⟩, hw''⟩ := hw'
    subst hw''
    have hR5 := Lib.hid (hR.out.below (below_regrown V dq osq) hR.out.lt)
    have hN5 := Lib.hid (hN.out.below (below_regrown V dq osq) hN.out.lt)
    have hB5 := Lib.hid (grew hB.out (below_regrown V dq osq))
    clear hrn hi0 cm ce hR hN hB
    generalize grow (redrawn V dq) osq = w7 at *
    go_wp2_with (with_reducible refine zStore 127 _ _ rfl ?_)
    refine Lib.hid ?_
    refine wpList_store_mid rfl 127 _ _ rfl w.heap.size 0 #[.int .i64 0, .int .u32 0, .int .u32 0, .int .i64 0, .int .i64 4] rfl rfl (hR5.out.there 0 5 (by simp)) sizeG5 (by simp [Value.oneCell']) ?_
    go_wp2_with fail
    have hfin := whole_all hR5.out (vs := [.int .i64 0, .int .u32 0, .int .u32 0, .int .i64 0, .int .i64 4]) rfl
    exact bodyPost_ret (result_cell Tryd.results70 rfl hfin.range Tryd.underlying127 rfl sizeG5) rfl ⟨rfl, below_store hB5.out (Nat.le_refl _) (Nat.le_refl _) 0 _⟩
  · rw [← hV.out]
    clear hV
    go_wp2_with fail
    generalize W.heap.size = nb at *
    refine wp_region_quiet_below (by kernel_rfl) (by kernel_rfl) ?_
    repeat (first
      | ((with_reducible refine quiet_load 35 _ nb [.int .i64 (a : Int), .int .u32 (b : Int), .int .u32 (c : Int), .int .i64 (d : Int)] ?_ hrn.out Tryd.underlying35 ?_ hi0.out ?_ ?_); (· rfl); (· rfl); (· rfl); simp only [Act.put, List.setIfInBounds_toArray, List.set_cons_zero, List.set_cons_succ])
      | go_big_quiet_step (first | exact cm.out _ _ | exact ce.out _ _))
    refine wpQuiet_nil ?_
    intro _ hw'
    obtain ⟨⟨dq, osq⟩, hw''⟩ := hw'
    subst hw''
    have hR5 := Lib.hid (hR.out.below (below_regrown V dq osq) hR.out.lt)
    have hN5 := Lib.hid (hN.out.below (below_regrown V dq osq) hN.out.lt)
    have hB5 := Lib.hid (grew hB.out (below_regrown V dq osq))
    clear hrn hi0 cm ce hR hN hB
    generalize grow (redrawn V dq) osq = w7 at *
    go_wp2_with (with_reducible refine zStore 127 _ _ rfl ?_)
    refine Lib.hid ?_
    refine wpList_store_mid rfl 127 _ _ rfl w.heap.size 0 #[.int .i64 0, .int .u32 0, .int .u32 0, .int .i64 0, .int .i64 4] rfl rfl (hR5.out.there 0 5 (by simp)) sizeG5 (by simp [Value.oneCell']) ?_
    go_wp2_with fail
    have hfin := whole_all hR5.out (vs := [.int .i64 0, .int .u32 0, .int .u32 0, .int .i64 0, .int .i64 4]) rfl
    exact bodyPost_ret (result_cell Tryd.results70 rfl hfin.range Tryd.underlying127 rfl sizeG5) rfl ⟨rfl, below_store hB5.out (Nat.le_refl _) (Nat.le_refl _) 0 _⟩
set_option maxRecDepth 100000 in
set_option maxHeartbeats 8000000 in
theorem rdecH_may (s : ByteArray) (w : World) (hs : 32 ≤ s.size) (hsz : s.size ≤ 1000000) (h0 : ¬ 1 ≤ logH s) (hb : baseH s ≤ 1099511627776) :
    Calls Tryd.prog 70 #[.string s] w fun x w' => x = .returned (.agg #[.int .i64 0, .int .u32 0, .int .u32 0, .int .i64 0, .int .i64 4]) ∧ Below w.heap.size w w' := by
  have l0 := logH_lt s
  have l1 := genH_lt s
  have l2 := stH_lt s
  have hr0 : ∀ W : World, Calls Tryd.prog 88 #[.string (s.extract 2 4)] W fun e w' => e = .returned (.int .u64 (logH s : Nat)) ∧ W = w' := fun W => rread_any _ W (by simp; omega)
  have hr1 : ∀ W : World, Calls Tryd.prog 88 #[.string (s.extract 4 8)] W fun e w' => e = .returned (.int .u64 (genH s : Nat)) ∧ W = w' := fun W => rread_any _ W (by simp; omega)
  have hr2 : ∀ W : World, Calls Tryd.prog 88 #[.string (s.extract 8 12)] W fun e w' => e = .returned (.int .u64 (stH s : Nat)) ∧ W = w' := fun W => rread_any _ W (by simp; omega)
  have hr3 : ∀ W : World, Calls Tryd.prog 88 #[.string (s.extract 12 20)] W fun e w' => e = .returned (.int .u64 (baseH s : Nat)) ∧ W = w' := fun W => rread_any _ W (by simp; omega)
  obtain ⟨a, e0⟩ : ∃ a, Hid (logH s = a) := ⟨_, Lib.hid rfl⟩
  obtain ⟨b, e1⟩ : ∃ a, Hid (genH s = a) := ⟨_, Lib.hid rfl⟩
  obtain ⟨c, e2⟩ : ∃ a, Hid (stH s = a) := ⟨_, Lib.hid rfl⟩
  obtain ⟨d, e3⟩ : ∃ a, Hid (baseH s = a) := ⟨_, Lib.hid rfl⟩
  rw [e0.out] at hr0 l0 h0
  rw [e1.out] at hr1 l1
  rw [e2.out] at hr2 l2
  rw [e3.out] at hr3 hb
  have hma : ∀ W : World, Calls Tryd.prog 13 #[.agg #[.int .i64 (a : Int), .int .u32 (b : Int), .int .u32 (c : Int), .int .i64 (d : Int)]] W fun x w' => x = .returned (.bool false) ∧ Below W.heap.size W w' := fun W => by
    have h := rmayH_any a b c d W
    rw [show okH (a : Int) (d : Int) = false from by unfold okH; simp; omega] at h
    exact h
  have i1 : (32 : Int) ≤ (s.size : Int) := by omega
  have i2 : (20 : Int) ≤ (s.size : Int) := by omega
  have i3 : (12 : Int) ≤ (s.size : Int) := by omega
  have i4 : (8 : Int) ≤ (s.size : Int) := by omega
  have i5 : (4 : Int) ≤ (s.size : Int) := by omega
  have hc0 : IntKind.i64.wrap (a : Int) = a := IntWalk.i64_in _ (by omega)
  have hc1 : IntKind.u32.wrap (b : Int) = b := IntWalk.u32_in _ (by omega)
  have hc2 : IntKind.u32.wrap (c : Int) = c := IntWalk.u32_in _ (by omega)
  have hc3 : IntKind.i64.wrap (d : Int) = d := IntWalk.i64_in _ (by omega)
  have hnb : (d : Int) ≤ 1099511627776 := by omega
  replace hr0 := Lib.hid hr0
  replace hr1 := Lib.hid hr1
  replace hr2 := Lib.hid hr2
  replace hr3 := Lib.hid hr3
  replace hma := Lib.hid hma
  clear e0 e1 e2 e3 h0
  have hR := Whole.new w 127 [.int .i64 0, .int .u32 0, .int .u32 0, .int .i64 0, .int .i64 0]
  have hB := (Below.refl w.heap.size w).alloc (Nat.le_refl _) (.cells #[.int .i64 0, .int .u32 0, .int .u32 0, .int .i64 0, .int .i64 0] 127)
  obtain ⟨W, hW⟩ : ∃ W, Hid (W = w.alloc (.cells #[.int .i64 0, .int .u32 0, .int .u32 0, .int .i64 0, .int .i64 0] 127)) := ⟨_, Lib.hid rfl⟩
  replace hR : Hid (Whole W w.heap.size 127 [.int .i64 0, .int .u32 0, .int .u32 0, .int .i64 0, .int .i64 0]) := Lib.hid (by rw [hW.out]; exact hR)
  replace hB : Hid (Below w.heap.size w W) := Lib.hid (by rw [hW.out]; exact hB)
  go_enter Tryd.func70, Tryd.ntmps70
  go_wp2_with fail
  refine (hr3.out _).mono ?_
  rintro ee w1 ⟨rfl, rfl⟩
  go_wp2_with fail
  rw [← hW.out]
  clear hW
  have hN := (Whole.new W 35 [.int .i64 (a : Int), .int .u32 (b : Int), .int .u32 (c : Int), .int .i64 (d : Int)]).drewN 1
  replace hR := (hR.out.alloc (.cells [.int .i64 (a : Int), .int .u32 (b : Int), .int .u32 (c : Int), .int .i64 (d : Int)].toArray 35)).drewN 1
  replace hB := drewS (grewAlloc hB.out (.cells [.int .i64 (a : Int), .int .u32 (b : Int), .int .u32 (c : Int), .int .i64 (d : Int)].toArray 35)) 1
  obtain ⟨V, hV⟩ : ∃ V, Hid (V = (W.alloc (.cells #[.int .i64 (a : Int), .int .u32 (b : Int), .int .u32 (c : Int), .int .i64 (d : Int)] 35)).drew) := ⟨_, Lib.hid rfl⟩
  replace hN : Whole V W.heap.size 35 [.int .i64 (a : Int), .int .u32 (b : Int), .int .u32 (c : Int), .int .i64 (d : Int)] := by rw [hV.out]; exact hN
  replace hR : Whole V w.heap.size 127 [.int .i64 0, .int .u32 0, .int .u32 0, .int .i64 0, .int .i64 0] := by rw [hV.out]; exact hR
  replace hB : Below w.heap.size w V := by rw [hV.out]; exact hB
  have hrn : Hid (∀ w', (∃ p : Regrown, w' = grow (redrawn V p.d) p.os) → w'.rangeAt W.heap.size 0 [.int .i64 (a : Int), .int .u32 (b : Int), .int .u32 (c : Int), .int .i64 (d : Int)]) := Lib.hid (by rintro _ ⟨p, rfl⟩; exact (hN.below (below_regrown V p.d p.os) hN.lt).range)
  have hi0 : Hid ((Tryd.prog.info? 35).map (·.size) = some ([.int .i64 (a : Int), .int .u32 (b : Int), .int .u32 (c : Int), .int .i64 (d : Int)] : List Value).length) := Lib.hid sizeR4
  have cm := Lib.hid (regrown_any hma.out V)
  replace hN := Lib.hid hN
  replace hR := Lib.hid hR
  replace hB := Lib.hid hB
  go_region_held3 (fun w' => True) (trivial) (first
    | (go_at_call 88; (with_reducible refine (hr0.out _).mono ?_); rintro ee w2 ⟨rfl, rfl⟩)
    | (go_at_call 88; (with_reducible refine (hr1.out _).mono ?_); rintro ee w2 ⟨rfl, rfl⟩)
    | (go_at_call 88; (with_reducible refine (hr2.out _).mono ?_); rintro ee w2 ⟨rfl, rfl⟩))
  · rw [← hV.out]
    clear hV
    go_wp2_with fail
    generalize W.heap.size = nb at *
    refine wp_region_quiet_below (by kernel_rfl) (by kernel_rfl) ?_
    repeat (first
      | ((with_reducible refine quiet_load 35 _ nb [.int .i64 (a : Int), .int .u32 (b : Int), .int .u32 (c : Int), .int .i64 (d : Int)] ?_ hrn.out Tryd.underlying35 ?_ hi0.out ?_ ?_); (· rfl); (· rfl); (· rfl); simp only [Act.put, List.setIfInBounds_toArray, List.set_cons_zero, List.set_cons_succ])
      | go_big_quiet_step (first | exact cm.out _ _))
    refine wpQuiet_nil ?_
    intro _ hw'
    obtain ⟨⟨dq, osq⟩, hw''⟩ := hw'
    subst hw''
    have hR5 := Lib.hid (hR.out.below (below_regrown V dq osq) hR.out.lt)
    have hN5 := Lib.hid (hN.out.below (below_regrown V dq osq) hN.out.lt)
    have hB5 := Lib.hid (grew hB.out (below_regrown V dq osq))
    clear hrn hi0 cm hR hN hB
    generalize grow (redrawn V dq) osq = w7 at *
    go_wp2_with (with_reducible refine zStore 127 _ _ rfl ?_)
    refine Lib.hid ?_
    refine wpList_store_mid rfl 127 _ _ rfl w.heap.size 0 #[.int .i64 0, .int .u32 0, .int .u32 0, .int .i64 0, .int .i64 4] rfl rfl (hR5.out.there 0 5 (by simp)) sizeG5 (by simp [Value.oneCell']) ?_
    go_wp2_with fail
    have hfin := whole_all hR5.out (vs := [.int .i64 0, .int .u32 0, .int .u32 0, .int .i64 0, .int .i64 4]) rfl
    exact bodyPost_ret (result_cell Tryd.results70 rfl hfin.range Tryd.underlying127 rfl sizeG5) rfl ⟨rfl, below_store hB5.out (Nat.le_refl _) (Nat.le_refl _) 0 _⟩
  · rw [← hV.out]
    clear hV
    go_wp2_with fail
    generalize W.heap.size = nb at *
    refine wp_region_quiet_below (by kernel_rfl) (by kernel_rfl) ?_
    repeat (first
      | ((with_reducible refine quiet_load 35 _ nb [.int .i64 (a : Int), .int .u32 (b : Int), .int .u32 (c : Int), .int .i64 (d : Int)] ?_ hrn.out Tryd.underlying35 ?_ hi0.out ?_ ?_); (· rfl); (· rfl); (· rfl); simp only [Act.put, List.setIfInBounds_toArray, List.set_cons_zero, List.set_cons_succ])
      | go_big_quiet_step (first | exact cm.out _ _))
    refine wpQuiet_nil ?_
    intro _ hw'
    obtain ⟨⟨dq, osq⟩, hw''⟩ := hw'
    subst hw''
    have hR5 := Lib.hid (hR.out.below (below_regrown V dq osq) hR.out.lt)
    have hN5 := Lib.hid (hN.out.below (below_regrown V dq osq) hN.out.lt)
    have hB5 := Lib.hid (grew hB.out (below_regrown V dq osq))
    clear hrn hi0 cm hR hN hB
    generalize grow (redrawn V dq) osq = w7 at *
    go_wp2_with (with_reducible refine zStore 127 _ _ rfl ?_)
    refine Lib.hid ?_
    refine wpList_store_mid rfl 127 _ _ rfl w.heap.size 0 #[.int .i64 0, .int .u32 0, .int .u32 0, .int .i64 0, .int .i64 4] rfl rfl (hR5.out.there 0 5 (by simp)) sizeG5 (by simp [Value.oneCell']) ?_
    go_wp2_with fail
    have hfin := whole_all hR5.out (vs := [.int .i64 0, .int .u32 0, .int .u32 0, .int .i64 0, .int .i64 4]) rfl
    exact bodyPost_ret (result_cell Tryd.results70 rfl hfin.range Tryd.underlying127 rfl sizeG5) rfl ⟨rfl, below_store hB5.out (Nat.le_refl _) (Nat.le_refl _) 0 _⟩
  · rw [← hV.out]
    clear hV
    go_wp2_with fail
    generalize W.heap.size = nb at *
    refine wp_region_quiet_below (by kernel_rfl) (by kernel_rfl) ?_
    repeat (first
      | ((with_reducible refine quiet_load 35 _ nb [.int .i64 (a : Int), .int .u32 (b : Int), .int .u32 (c : Int), .int .i64 (d : Int)] ?_ hrn.out Tryd.underlying35 ?_ hi0.out ?_ ?_); (· rfl); (· rfl); (· rfl); simp only [Act.put, List.setIfInBounds_toArray, List.set_cons_zero, List.set_cons_succ])
      | go_big_quiet_step (first | exact cm.out _ _))
    refine wpQuiet_nil ?_
    intro _ hw'
    obtain ⟨⟨dq, osq⟩, hw''⟩ := hw'
    subst hw''
    have hR5 := Lib.hid (hR.out.below (below_regrown V dq osq) hR.out.lt)
    have hN5 := Lib.hid (hN.out.below (below_regrown V dq osq) hN.out.lt)
    have hB5 := Lib.hid (grew hB.out (below_regrown V dq osq))
    clear hrn hi0 cm hR hN hB
    generalize grow (redrawn V dq) osq = w7 at *
    go_wp2_with (with_reducible refine zStore 127 _ _ rfl ?_)
    refine Lib.hid ?_
    refine wpList_store_mid rfl 127 _ _ rfl w.heap.size 0 #[.int .i64 0, .int .u32 0, .int .u32 0, .int .i64 0, .int .i64 4] rfl rfl (hR5.out.there 0 5 (by simp)) sizeG5 (by simp [Value.oneCell']) ?_
    go_wp2_with fail
    have hfin := whole_all hR5.out (vs := [.int .i64 0, .int .u32 0, .int .u32 0, .int .i64 0, .int .i64 4]) rfl
    exact bodyPost_ret (result_cell Tryd.results70 rfl hfin.range Tryd.underlying127 rfl sizeG5) rfl ⟨rfl, below_store hB5.out (Nat.le_refl _) (Nat.le_refl _) 0 _⟩
  · rw [← hV.out]
    clear hV
    go_wp2_with fail
    generalize W.heap.size = nb at *
    refine wp_region_quiet_below (by kernel_rfl) (by kernel_rfl) ?_
    repeat (first
      | ((with_reducible refine quiet_load 35 _ nb [.int .i64 (a : Int), .int .u32 (b : Int), .int .u32 (c : Int), .int .i64 (d : Int)] ?_ hrn.out Tryd.underlying35 ?_ hi0.out ?_ ?_); (· rfl); (· rfl); (· rfl); simp only [Act.put, List.setIfInBounds_toArray, List.set_cons_zero, List.set_cons_succ])
      | go_big_quiet_step (first | exact cm.out _ _))
    refine wpQuiet_nil ?_
    intro _ hw'
    obtain ⟨⟨dq, osq⟩, hw''⟩ := hw'
    subst hw''
    have hR5 := Lib.hid (hR.out.below (below_regrown V dq osq) hR.out.lt)
    have hN5 := Lib.hid (hN.out.below (below_regrown V dq osq) hN.out.lt)
    have hB5 := Lib.hid (grew hB.out (below_regrown V dq osq))
    clear hrn hi0 cm hR hN hB
    generalize grow (redrawn V dq) osq = w7 at *
    go_wp2_with (with_reducible refine zStore 127 _ _ rfl ?_)
    refine Lib.hid ?_
    refine wpList_store_mid rfl 127 _ _ rfl w.heap.size 0 #[.int .i64 0, .int .u32 0, .int .u32 0, .int .i64 0, .int .i64 4] rfl rfl (hR5.out.there 0 5 (by simp)) sizeG5 (by simp [Value.oneCell']) ?_
    go_wp2_with fail
    have hfin := whole_all hR5.out (vs := [.int .i64 0, .int .u32 0, .int .u32 0, .int .i64 0, .int .i64 4]) rfl
    exact bodyPost_ret (result_cell Tryd.results70 rfl hfin.range Tryd.underlying127 rfl sizeG5) rfl ⟨rfl, below_store hB5.out (Nat.le_refl _) (Nat.le_refl _) 0 _⟩
end Go.Proofs.YtlgoepbfdldgnaaDoor.W
end
