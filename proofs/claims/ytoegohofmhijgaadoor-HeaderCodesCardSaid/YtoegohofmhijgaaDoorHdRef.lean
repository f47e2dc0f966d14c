/- The walk of the definition of headers: Encode. -/
import Derived.Test.YtoegohofmhijgaaDoorHdA
import Derived.Test.YtoegohofmhijgaaDoorZeros
import Derived.Test.YtoegohofmhijgaaDoorCrc
import Derived.Test.YtoegohofmhijgaaDoorQuietB
import Derived.Deep.RegionHeld3
namespace Go.Proofs.YtoegohofmhijgaaDoor.W
open Go.RowKit Go.Sort
open Go.Proofs.YtoegohofmhijgaaDoor.M Go.Proofs.YtoegohofmhijgaaDoor.D Go.Proofs.YtoegohofmhijgaaDoor.Z
set_option linter.unusedVariables false

def cvOpH : Oper := { dst := some 25, op := .convert 48 9 (.tmp 24), type := 9, pos := "ref.go:23", after := #[{ on := 20, ground := .data }], guard := none }
theorem cvOpH_eq : ({ dst := some 25, op := .convert 48 9 (.tmp 24), type := 9, pos := "ref.go:23", after := #[{ on := 20, ground := .data }], guard := none } : Oper) = cvOpH := rfl
attribute [local go_sem] cvOpH
theorem keepH {w w' : World} (h : Below w.heap.size w w') {a : Addr} {v : Value} (hc : w.cell? a = some v) : w'.cell? a = some v := keepZ h hc
theorem keepHA {w w' : World} {o : Obj} (h : Below (w.alloc o).heap.size (w.alloc o) w') {a : Addr} {v : Value} (hc : w.cell? a = some v) : w'.cell? a = some v :=
  keepZ h (by rw [World.cell?_alloc_lt _ _ _ (cell_lt hc)]; exact hc)
theorem undrewH {W w' : World} (h : Below W.drew.heap.size W.drew w') : Below W.heap.size W w' := ⟨h.os, h.tape, h.output, h.size, h.block⟩
theorem grewHA {w W w' : World} {o : Obj} (h : Below w.heap.size w W) (hb : Below (W.alloc o).heap.size (W.alloc o) w') : Below w.heap.size w w' := grew (grewAlloc h o) hb
theorem whole_string {w : World} {b n : Nat} {cs : Array Value} (hcs : cs.toList = List.replicate n (.int .u8 0)) (h : Whole w b 5 cs.toList) :
    (convert 48 9 (.slice (some ⟨b, 0, none⟩) n n)).run Tryd.prog w = .ok (.string (zerosB n)) w := by
  have hz : cs.toList = bytesV (List.replicate n (0 : UInt8)) := by rw [hcs]; unfold bytesV; rw [List.map_replicate]; rfl
  rw [hz] at h
  exact (rowOf h).back (P := Tryd.prog) 48 9 5 n n (by simp) Tryd.underlying48 Tryd.underlying5 Tryd.underlying9
set_option maxRecDepth 100000 in
set_option maxHeartbeats 8000000 in
theorem rencH_any (a g s b : Nat) (w : World) (ha : a < 65536) (hg : g < 4294967296) (hs : s < 4294967296) (hb : b ≤ 1099511627776) :
    Calls Tryd.prog 13 #[.agg #[.int .i64 (a : Int), .int .u32 (g : Int), .int .u32 (s : Int), .int .i64 (b : Int)]] w fun x w' => x = .returned (.string (B (headerL a g s b))) ∧ Below w.heap.size w w' := by
  have hf1 : ∀ W : World, Calls Tryd.prog 23 #[.int .u64 (a : Int), .int .i64 2] W fun e w' => e = .returned (.string (B (fx (a : Int) 2))) ∧ Below W.heap.size W w' := fun W => rfixed_any _ 2 W (by omega) (by omega) (by omega) (by omega)
  have hf2 : ∀ W : World, Calls Tryd.prog 23 #[.int .u64 (g : Int), .int .i64 4] W fun e w' => e = .returned (.string (B (fx (g : Int) 4))) ∧ Below W.heap.size W w' := fun W => rfixed_any _ 4 W (by omega) (by omega) (by omega) (by omega)
  have hf3 : ∀ W : World, Calls Tryd.prog 23 #[.int .u64 (s : Int), .int .i64 4] W fun e w' => e = .returned (.string (B (fx (s : Int) 4))) ∧ Below W.heap.size W w' := fun W => rfixed_any _ 4 W (by omega) (by omega) (by omega) (by omega)
  have hf4 : ∀ W : World, Calls Tryd.prog 23 #[.int .u64 (b : Int), .int .i64 8] W fun e w' => e = .returned (.string (B (fx (b : Int) 8))) ∧ Below W.heap.size W w' := fun W => rfixed_any _ 8 W (by omega) (by omega) (by omega) (by omega)
  have hcat : ⟨#[87, 83]⟩ ++ B (fx (a : Int) 2) ++ B (fx (g : Int) 4) ++ B (fx (s : Int) 4) ++ B (fx (b : Int) 8) ++ zerosB 8 = B (headH a g s b) := by
    unfold zerosB headH
    simp only [← B_append]
    rfl
  have hhl : (B (headH a g s b)).size = 28 := by rw [B_size, headH_len]
  have hcr := fun W => rcrc_any 0 (B (headH a g s b)) W (by omega) (by omega)
  rw [B_data] at hcr
  have hcl := crc_lt 0 (headH a g s b)
  have hend : B (headH a g s b) ++ B (fx (crc 0 (headH a g s b) : Nat) 4) = B (headerL a g s b) := by rw [B_append]; rfl
  obtain ⟨C, hC⟩ : ∃ C : Nat, Hid (crc 0 (headH a g s b) = C) := ⟨_, Lib.hid rfl⟩
  rw [hC.out] at hcr hcl hend
  have hf5 : Hid (∀ W : World, Calls Tryd.prog 23 #[.int .u64 (C : Int), .int .i64 4] W fun e w' => e = .returned (.string (B (fx (C : Int) 4))) ∧ Below W.heap.size W w') := Lib.hid (fun W => rfixed_any _ 4 W (by omega) (by omega) (by omega) (by omega))
  obtain ⟨T, hTT⟩ : ∃ T, Hid (B (headerL a g s b) = T) := ⟨_, Lib.hid rfl⟩
  rw [hTT.out] at hend ⊢
  obtain ⟨H, hH⟩ : ∃ H, Hid (B (headH a g s b) = H) := ⟨_, Lib.hid rfl⟩
  rw [hH.out] at hcat hcr hend hhl
  obtain ⟨F1, e1⟩ : ∃ F, Hid (B (fx (a : Int) 2) = F) := ⟨_, Lib.hid rfl⟩
  obtain ⟨F2, e2⟩ : ∃ F, Hid (B (fx (g : Int) 4) = F) := ⟨_, Lib.hid rfl⟩
  obtain ⟨F3, e3⟩ : ∃ F, Hid (B (fx (s : Int) 4) = F) := ⟨_, Lib.hid rfl⟩
  obtain ⟨F4, e4⟩ : ∃ F, Hid (B (fx (b : Int) 8) = F) := ⟨_, Lib.hid rfl⟩
  obtain ⟨F5, e5⟩ : ∃ F, Hid (B (fx (C : Int) 4) = F) := ⟨_, Lib.hid rfl⟩
  have z1 : F1.size = 2 := by rw [← e1.out, fx_size]
  have z2 : F2.size = 4 := by rw [← e2.out, fx_size]
  have z3 : F3.size = 4 := by rw [← e3.out, fx_size]
  have z4 : F4.size = 8 := by rw [← e4.out, fx_size]
  have z5 : F5.size = 4 := by rw [← e5.out, fx_size]
  rw [e1.out, e2.out, e3.out, e4.out] at hcat
  rw [e1.out] at hf1
  rw [e2.out] at hf2
  rw [e3.out] at hf3
  rw [e4.out] at hf4
  rw [e5.out] at hf5 hend
  obtain ⟨c8, hc8, hm8⟩ := make_bytes 8 (by omega)
  replace hm8 : ∀ W : World, (Instr.makeSlice 48 (.int .i64 8) (.int .i64 8)).run Tryd.prog W = .ok (.slice (some ⟨W.heap.size, 0, none⟩) 8 8) (W.alloc (.cells c8 5)) := fun W => hm8 W
  have hs8 : ∀ W : World, (convert 48 9 (.slice (some ⟨W.heap.size, 0, none⟩) 8 8)).run Tryd.prog (W.alloc (.cells c8 5)) = .ok (.string (zerosB 8)) (W.alloc (.cells c8 5)) := fun W => zero_string 8 c8 hc8 W
  have hs8d : ∀ W : World, (convert 48 9 (.slice (some ⟨W.heap.size, 0, none⟩) 8 8)).run Tryd.prog (W.alloc (.cells c8 5)).drew = .ok (.string (zerosB 8)) (W.alloc (.cells c8 5)).drew := fun W => zero_string 8 c8 hc8 W.drew
  have hs8k : ∀ (W : World) (nb : Nat), Whole W nb 5 c8.toList → (convert 48 9 (.slice (some ⟨nb, 0, none⟩) 8 8)).run Tryd.prog W = .ok (.string (zerosB 8)) W := fun W nb h => whole_string hc8 h
  have hZz := zerosB_size 8
  obtain ⟨Z, hZ⟩ : ∃ Z, Hid (zerosB 8 = Z) := ⟨_, Lib.hid rfl⟩
  rw [hZ.out] at hs8 hs8d hs8k hZz hcat
  have hnew : Hid (∀ W : World, Whole (W.alloc (.cells c8 5)) W.heap.size 5 c8.toList) := Lib.hid (fun W => Whole.new W 5 c8.toList)
  have hu1 : IntKind.u64.wrap (a : Int) = a := IntWalk.u64_in _ (by omega)
  have hu2 : IntKind.u64.wrap (g : Int) = g := IntWalk.u64_in _ (by omega)
  have hu3 : IntKind.u64.wrap (s : Int) = s := IntWalk.u64_in _ (by omega)
  have hu4 : IntKind.u64.wrap (b : Int) = b := IntWalk.u64_in _ (by omega)
  replace hcr : ∀ W : World, Calls Tryd.prog 24 #[.int .u32 0, .string H] W fun e w' => e = .returned (.int .u32 (C : Nat)) ∧ W = w' := fun W => hcr W
  replace hcr := Lib.hid hcr
  replace hf1 := Lib.hid hf1
  replace hf2 := Lib.hid hf2
  replace hf3 := Lib.hid hf3
  replace hf4 := Lib.hid hf4
  replace hcat := Lib.hid hcat
  replace hend := Lib.hid hend
  clear hc8
  have u0 := (Whole.new w 29 [.int .i64 (a : Int), .int .u32 (g : Int), .int .u32 (s : Int), .int .i64 (b : Int)]).cell 0
  have u1 := (Whole.new w 29 [.int .i64 (a : Int), .int .u32 (g : Int), .int .u32 (s : Int), .int .i64 (b : Int)]).cell 1
  have u2 := (Whole.new w 29 [.int .i64 (a : Int), .int .u32 (g : Int), .int .u32 (s : Int), .int .i64 (b : Int)]).cell 2
  have u3 := (Whole.new w 29 [.int .i64 (a : Int), .int .u32 (g : Int), .int .u32 (s : Int), .int .i64 (b : Int)]).cell 3
  have g0 := Lib.hid (grewAlloc (Below.refl _ w) (.cells [.int .i64 (a : Int), .int .u32 (g : Int), .int .u32 (s : Int), .int .i64 (b : Int)].toArray 29))
  obtain ⟨V, hV⟩ : ∃ V, Hid (V = w.alloc (.cells #[.int .i64 (a : Int), .int .u32 (g : Int), .int .u32 (s : Int), .int .i64 (b : Int)] 29)) := ⟨_, Lib.hid rfl⟩
  replace u0 : V.cell? ⟨w.heap.size, 0, none⟩ = some (.int .i64 (a : Int)) := by rw [hV.out]; exact u0
  replace u1 : V.cell? ⟨w.heap.size, 1, none⟩ = some (.int .u32 (g : Int)) := by rw [hV.out]; exact u1
  replace u2 : V.cell? ⟨w.heap.size, 2, none⟩ = some (.int .u32 (s : Int)) := by rw [hV.out]; exact u2
  replace u3 : V.cell? ⟨w.heap.size, 3, none⟩ = some (.int .i64 (b : Int)) := by rw [hV.out]; exact u3
  replace g0 : Hid (Below w.heap.size w V) := by rw [hV.out]; exact g0
  have d0 : V.drew.cell? ⟨w.heap.size, 0, none⟩ = some (.int .i64 (a : Int)) := u0
  have d1 : V.drew.cell? ⟨w.heap.size, 1, none⟩ = some (.int .u32 (g : Int)) := u1
  have d2 : V.drew.cell? ⟨w.heap.size, 2, none⟩ = some (.int .u32 (s : Int)) := u2
  have d3 : V.drew.cell? ⟨w.heap.size, 3, none⟩ = some (.int .i64 (b : Int)) := u3
  go_enter Tryd.func13, Tryd.ntmps13
  go_wp2_with fail
  rw [← hV.out]
  rw [cvOpH_eq]
  go_region_held3 (fun w' => w'.cell? ⟨w.heap.size, 0, none⟩ = some (.int .i64 (a : Int)) ∧ w'.cell? ⟨w.heap.size, 1, none⟩ = some (.int .u32 (g : Int)) ∧ w'.cell? ⟨w.heap.size, 2, none⟩ = some (.int .u32 (s : Int)) ∧ w'.cell? ⟨w.heap.size, 3, none⟩ = some (.int .i64 (b : Int))) (go_keep) (first
    | (go_at_call 23; (with_reducible refine (hf1.out _).mono ?_); rintro e w5 ⟨rfl, hb5⟩; replace hb5 := undrewH hb5; first | (have y0 := keepH hb5 u0; have y1 := keepH hb5 u1; have y2 := keepH hb5 u2; have y3 := keepH hb5 u3; have g1 := Lib.hid (grew g0.out hb5)) | (have y0 := keepHA hb5 u0; have y1 := keepHA hb5 u1; have y2 := keepHA hb5 u2; have y3 := keepHA hb5 u3; have g1 := Lib.hid (grewHA g0.out hb5); have k1 := (hnew.out _).below hb5 (hnew.out _).lt))
    | (go_at_call 23; (with_reducible refine (hf2.out _).mono ?_); rintro e w6 ⟨rfl, hb6⟩; first | (have v0 := keepH hb6 y0; have v1 := keepH hb6 y1; have v2 := keepH hb6 y2; have v3 := keepH hb6 y3; have g2 := Lib.hid (grew g1.out hb6); try (have k2 := k1.below hb6 k1.lt)) | (have v0 := keepHA hb6 y0; have v1 := keepHA hb6 y1; have v2 := keepHA hb6 y2; have v3 := keepHA hb6 y3; have g2 := Lib.hid (grewHA g1.out hb6); have k2 := (hnew.out _).below hb6 (hnew.out _).lt))
    | (go_at_call 23; (with_reducible refine (hf3.out _).mono ?_); rintro e w7 ⟨rfl, hb7⟩; first | (have x0 := keepH hb7 v0; have x1 := keepH hb7 v1; have x2 := keepH hb7 v2; have x3 := keepH hb7 v3; have g3 := Lib.hid (grew g2.out hb7); try (have k3 := k2.below hb7 k2.lt)) | (have x0 := keepHA hb7 v0; have x1 := keepHA hb7 v1; have x2 := keepHA hb7 v2; have x3 := keepHA hb7 v3; have g3 := Lib.hid (grewHA g2.out hb7); have k3 := (hnew.out _).below hb7 (hnew.out _).lt))
    | (go_at_call 23; (with_reducible refine (hf4.out _).mono ?_); rintro e w8 ⟨rfl, hb8⟩; first | (have z0 := keepH hb8 x0; have z1 := keepH hb8 x1; have z2 := keepH hb8 x2; have z3 := keepH hb8 x3; have g4 := Lib.hid (grew g3.out hb8); try (have k4 := k3.below hb8 k3.lt)) | (have z0 := keepHA hb8 x0; have z1 := keepHA hb8 x1; have z2 := keepHA hb8 x2; have z3 := keepHA hb8 x3; have g4 := Lib.hid (grewHA g3.out hb8); have k4 := (hnew.out _).below hb8 (hnew.out _).lt)))
  all_goals rw [hcat.out]
  all_goals (go_wp2_with fail; (refine (hcr.out _).mono ?_); rintro ee wa ⟨rfl, rfl⟩; go_wp2_with fail; (refine (hf5.out _).mono ?_); rintro ee wb ⟨rfl, hb9⟩; go_wp2_with fail; go_ret; first | exact ⟨ret_str hend.out, grew g4.out hb9⟩ | exact ⟨ret_str hend.out, grew (grewAlloc g4.out _) hb9⟩)
end Go.Proofs.YtoegohofmhijgaaDoor.W
