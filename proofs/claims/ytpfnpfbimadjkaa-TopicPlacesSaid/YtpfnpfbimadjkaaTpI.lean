/- Layer 22: topics and places that come in; the law's log. -/
import Derived.Test.YtpfnpfbimadjkaaTpH
import Derived.Test.YtpfnpfbimadjkaaOpenRc
namespace Go.Proofs.Ytpfnpfbimadjkaa.W
open Go.ChangeShapes Go.WideShapes Go.ChangeAt Go.RowKit Go.Sort
open Go.Proofs.Ytpfnpfbimadjkaa.M Go.Proofs.Ytpfnpfbimadjkaa.D Go.Proofs.Ytpfnpfbimadjkaa.Z
set_option linter.unusedVariables false
set_option linter.unusedSimpArgs false

section
variable {H : Type} {enc : TypeId × Value → H} {w : World} {base : Nat} {held : Bool}
set_option maxRecDepth 100000 in
theorem open_sp {b0 : Nat} {v : Value} {d : DataW H} {p : List MemPlace} (hval : Value.okWide Try.prog w .any b0 34 v) (h : DataW.Trod enc Try.prog w base (fun _ => true) held 34 v d p) :
    ∃ (nm : ByteArray) (pa ag sz : Int) (cp : Bool), v = .agg #[.string nm, .int .i64 pa, .int .i64 ag, .int .i64 sz, .bool cp] ∧ nm.size ≤ maxLen ∧ (Lit.int .i64 pa).wf = true ∧ (Lit.int .i64 ag).wf = true ∧ (Lit.int .i64 sz).wf = true := by
  obtain ⟨cs, rfl, hsz⟩ := okWide_struct Try.underlying34 hval
  obtain ⟨l⟩ := cs
  rw [cellsSp] at hsz
  obtain ⟨fuel, hf⟩ := h
  match l, (show l.length = 5 by simpa using hsz) with
  | [c0, c1, c2, c3, c4], _ =>
    obtain ⟨xs, n, _, _, _, hlen, hg⟩ := DataW.trod_struct Try.underlying34 (show DataW.trod enc Try.prog w base (fun _ => true) held fuel 34 [c0, c1, c2, c3, c4] = some _ from hf)
    match xs, hlen with
    | [y0, y1, y2, y3, y4], _ =>
      have h0 : DataW.trod enc Try.prog w base (fun _ => true) held n 9 ((([c0, c1, c2, c3, c4] : List Value).drop 0).take (Try.prog.cellsOf 9)) = some y0 := hg 0 _ rfl
      have h1 : DataW.trod enc Try.prog w base (fun _ => true) held n 3 ((([c0, c1, c2, c3, c4] : List Value).drop 1).take (Try.prog.cellsOf 3)) = some y1 := hg 1 _ rfl
      have h2 : DataW.trod enc Try.prog w base (fun _ => true) held n 3 ((([c0, c1, c2, c3, c4] : List Value).drop 2).take (Try.prog.cellsOf 3)) = some y2 := hg 2 _ rfl
      have h3 : DataW.trod enc Try.prog w base (fun _ => true) held n 3 ((([c0, c1, c2, c3, c4] : List Value).drop 3).take (Try.prog.cellsOf 3)) = some y3 := hg 3 _ rfl
      have h4 : DataW.trod enc Try.prog w base (fun _ => true) held n 4 ((([c0, c1, c2, c3, c4] : List Value).drop 4).take (Try.prog.cellsOf 4)) = some y4 := hg 4 _ rfl
      rw [cellsRs] at h0
      rw [cellsRi] at h1 h2 h3
      rw [cellsRb] at h4
      obtain ⟨x0, e0, _, w0⟩ := DataW.trod_string Try.underlying9 (show DataW.trod enc Try.prog w base (fun _ => true) held n 9 [c0] = some y0 from h0)
      obtain ⟨x1, e1, _, w1⟩ := DataW.trod_int Try.underlying3 (show DataW.trod enc Try.prog w base (fun _ => true) held n 3 [c1] = some y1 from h1)
      obtain ⟨x2, e2, _, w2⟩ := DataW.trod_int Try.underlying3 (show DataW.trod enc Try.prog w base (fun _ => true) held n 3 [c2] = some y2 from h2)
      obtain ⟨x3, e3, _, w3⟩ := DataW.trod_int Try.underlying3 (show DataW.trod enc Try.prog w base (fun _ => true) held n 3 [c3] = some y3 from h3)
      obtain ⟨x4, e4, _⟩ := DataW.trod_bool Try.underlying4 (show DataW.trod enc Try.prog w base (fun _ => true) held n 4 [c4] = some y4 from h4)
      simp only [List.cons.injEq, and_true] at e0 e1 e2 e3 e4
      subst e0 e1 e2 e3 e4
      exact ⟨x0, x1, x2, x3, x4, rfl, w0, w1, w2, w3⟩
set_option maxRecDepth 100000 in
theorem open_pl {b0 : Nat} {v : Value} {d : DataW H} {p : List MemPlace} (hval : Value.okWide Try.prog w .any b0 50 v) (h : DataW.Trod enc Try.prog w base (fun _ => true) held 50 v d p) :
    ∃ (t : ByteArray) (q : Int), v = .agg #[.string t, .int .i64 q] ∧ t.size ≤ maxLen ∧ (Lit.int .i64 q).wf = true := by
  obtain ⟨cs, rfl, hsz⟩ := okWide_struct Try.underlying50 hval
  obtain ⟨l⟩ := cs
  rw [cellsPl] at hsz
  obtain ⟨fuel, hf⟩ := h
  match l, (show l.length = 2 by simpa using hsz) with
  | [c0, c1], _ =>
    obtain ⟨xs, n, _, _, _, hlen, hg⟩ := DataW.trod_struct Try.underlying50 (show DataW.trod enc Try.prog w base (fun _ => true) held fuel 50 [c0, c1] = some _ from hf)
    match xs, hlen with
    | [y0, y1], _ =>
      have h0 : DataW.trod enc Try.prog w base (fun _ => true) held n 9 ((([c0, c1] : List Value).drop 0).take (Try.prog.cellsOf 9)) = some y0 := hg 0 _ rfl
      have h1 : DataW.trod enc Try.prog w base (fun _ => true) held n 3 ((([c0, c1] : List Value).drop 1).take (Try.prog.cellsOf 3)) = some y1 := hg 1 _ rfl
      rw [cellsRs] at h0
      rw [cellsRi] at h1
      obtain ⟨x0, e0, _, w0⟩ := DataW.trod_string Try.underlying9 (show DataW.trod enc Try.prog w base (fun _ => true) held n 9 [c0] = some y0 from h0)
      obtain ⟨x1, e1, _, w1⟩ := DataW.trod_int Try.underlying3 (show DataW.trod enc Try.prog w base (fun _ => true) held n 3 [c1] = some y1 from h1)
      simp only [List.cons.injEq, and_true] at e0 e1
      subst e0 e1
      exact ⟨x0, x1, rfl, w0, w1⟩
end
abbrev logN : ByteArray := ⟨#[108, 111, 103, 45, 49]⟩
abbrev logX : Sp := ⟨logN, 2, 0, 300, true⟩
theorem log_may : logX.may = true := by decide +kernel
theorem log_enc : encT logX = [5, 108, 111, 103, 45, 49, 2, 0, 172, 2, 1] := by decide +kernel
theorem log_name : nameB ⟨#[76, 111, 103]⟩ = false := by decide +kernel
theorem log_dec : decT (B (encT logX) ++ ⟨#[122]⟩) = some (logX, 11) := by
  have h := dec_enc log_may (s := B (encT logX) ++ ⟨#[122]⟩) (t := [122]) (by rw [show (⟨#[122]⟩ : ByteArray) = B [122] from rfl, B_append]; rfl)
  rw [h, log_enc]
  rfl
theorem litEq (S : ByteArray) (l : List UInt8) (h : S = B l) (W : World) : (binOp BinOp.eql 9 (.string S) (.string ⟨l.toArray⟩)).run Try.prog W = .ok (.bool true) W := by
  subst h
  simp only [binOp, Op.stringOp]
  simp [B]
set_option maxRecDepth 100000 in
set_option maxHeartbeats 4000000 in
theorem log_any (w : World) :
    Calls Try.prog 17 #[] w fun e w' => e = .returned (.bool true) ∧ Below w.heap.size w w' := by
  obtain ⟨V, hV⟩ : ∃ V, Hid (V = w.alloc (.cells #[.string ⟨#[108, 111, 103, 45, 49]⟩, .int .i64 2, .int .i64 0, .int .i64 300, .bool true] 34)) := ⟨_, Lib.hid rfl⟩
  have hb0 : Below w.heap.size w V := by rw [hV.out]; exact grewAlloc (Below.refl _ _) _
  have hX : Whole V w.heap.size 34 [.string ⟨#[108, 111, 103, 45, 49]⟩, .int .i64 2, .int .i64 0, .int .i64 300, .bool true] := by rw [hV.out]; exact Whole.new w _ _
  obtain ⟨q, hq⟩ : ∃ q, Hid (w.heap.size = q) := ⟨_, Lib.hid rfl⟩
  rw [hq.out] at hX
  have he := Lib.hid (fun W => encode_true logN 2 0 300 W log_may)
  obtain ⟨S, hS⟩ : ∃ S, Hid (B (encT logX) = S) := ⟨_, Lib.hid rfl⟩
  have hd := fun W => decode_any (S ++ ⟨#[122]⟩) W (by rw [← hS.out, log_enc]; decide)
  rw [hS.out] at he
  have hdd := log_dec
  rw [hS.out] at hdd
  rw [hdd] at hd
  dsimp only at hd
  have hr := Lib.hid (fun W => right22_any logN 2 0 300 true W)
  rw [show Sp.may ⟨logN, 2, 0, 300, true⟩ = true from log_may] at hr
  have hn := Lib.hid (fun W => name22_any ⟨#[76, 111, 103]⟩ W)
  rw [log_name] at hn
  have hp := Lib.hid (fun W => places_yes logN 2 0 300 true W log_may)
  rw [show (2 : Int).toNat = 2 from rfl] at hp
  have hsz : S.size = 11 := by rw [← hS.out, log_enc]; rfl
  have hz2 : (⟨#[122]⟩ : ByteArray).size = 1 := rfl
  have hlit := fun W => litEq S [5, 108, 111, 103, 45, 49, 2, 0, 172, 2, 1] (by rw [← hS.out, log_enc]) W
  have hst : S.toList = [5, 108, 111, 103, 45, 49, 2, 0, 172, 2, 1] := by rw [← hS.out, log_enc, Lib.toList_data]; rfl
  have heq := eq_sp ⟨#[108, 111, 103, 45, 49]⟩ 2 0 300 true (by decide) (by decide) (by decide) (by decide)
  have x0 : V.cell? ⟨q, 0, none⟩ = some (.string ⟨#[108, 111, 103, 45, 49]⟩) := hX.cell 0
  have x1 : V.cell? ⟨q, 1, none⟩ = some (.int .i64 2) := hX.cell 1
  have x2 : V.cell? ⟨q, 2, none⟩ = some (.int .i64 0) := hX.cell 2
  have x3 : V.cell? ⟨q, 3, none⟩ = some (.int .i64 300) := hX.cell 3
  have x4 : V.cell? ⟨q, 4, none⟩ = some (.bool true) := hX.cell 4
  replace hd := Lib.hid hd
  replace hX := Lib.hid hX
  replace hb0 := Lib.hid hb0
  clear hdd
  go_enter Try.func17, Try.ntmps17
  go_upto_region 2 with fail
  rw [← show V = _ from hV.out, hq.out]
  clear hV hq
  go_wp2_with fail
  refine (he.out _).mono ?_
  rintro _ w1 ⟨rfl, hb1⟩
  have hB1 := Lib.hid (grew hb0.out hb1)
  have hX1 := Lib.hid (hX.out.below hb1 hX.out.lt)
  clear x0 x1 x2 x3 x4 hb1 hb0 hX
  go_wp2_with fail
  refine (hd.out _).mono ?_
  rintro _ w2 ⟨rfl, hb2⟩
  obtain ⟨W3, hW3⟩ : ∃ W, Hid (W = w2.alloc (.cells #[.string ⟨#[108, 111, 103, 45, 49]⟩, .int .i64 2, .int .i64 0, .int .i64 300, .bool true] 34)) := ⟨_, Lib.hid rfl⟩
  have hb3 : Below w2.heap.size w2 W3 := by rw [hW3.out]; exact grewAlloc (Below.refl _ _) _
  have hY : Whole W3 w2.heap.size 34 [.string ⟨#[108, 111, 103, 45, 49]⟩, .int .i64 2, .int .i64 0, .int .i64 300, .bool true] := by rw [hW3.out]; exact Whole.new w2 _ _
  obtain ⟨r, hr0⟩ : ∃ q, Hid (w2.heap.size = q) := ⟨_, Lib.hid rfl⟩
  rw [hr0.out] at hY
  have hX3 := (hX1.out.below hb2 hX1.out.lt).below hb3 (hX1.out.below hb2 hX1.out.lt).lt
  have hB3 := Lib.hid (grew (grew hB1.out hb2) hb3)
  have x0 : W3.cell? ⟨q, 0, none⟩ = some (.string ⟨#[108, 111, 103, 45, 49]⟩) := hX3.cell 0
  have x1 : W3.cell? ⟨q, 1, none⟩ = some (.int .i64 2) := hX3.cell 1
  have x2 : W3.cell? ⟨q, 2, none⟩ = some (.int .i64 0) := hX3.cell 2
  have x3 : W3.cell? ⟨q, 3, none⟩ = some (.int .i64 300) := hX3.cell 3
  have x4 : W3.cell? ⟨q, 4, none⟩ = some (.bool true) := hX3.cell 4
  have y0 : W3.cell? ⟨r, 0, none⟩ = some (.string ⟨#[108, 111, 103, 45, 49]⟩) := hY.cell 0
  have y1 : W3.cell? ⟨r, 1, none⟩ = some (.int .i64 2) := hY.cell 1
  have y2 : W3.cell? ⟨r, 2, none⟩ = some (.int .i64 0) := hY.cell 2
  have y3 : W3.cell? ⟨r, 3, none⟩ = some (.int .i64 300) := hY.cell 3
  have y4 : W3.cell? ⟨r, 4, none⟩ = some (.bool true) := hY.cell 4
  replace hX3 := Lib.hid hX3
  clear hY hX1 hB1 hb2 hb3
  go_upto_region 4 with fail
  rw [← show W3 = _ from hW3.out, hr0.out]
  clear hW3 hr0
  go_wp2_with fail
  refine (hr.out _).mono ?_
  rintro _ w4 ⟨rfl, hb4⟩
  have hB4 := Lib.hid (grew hB3.out hb4)
  have hX4 := hX3.out.below hb4 hX3.out.lt
  clear x0 x1 x2 x3 x4 y0 y1 y2 y3 y4 hb4 hB3 hX3
  have x0 : w4.cell? ⟨q, 0, none⟩ = some (.string ⟨#[108, 111, 103, 45, 49]⟩) := hX4.cell 0
  have x1 : w4.cell? ⟨q, 1, none⟩ = some (.int .i64 2) := hX4.cell 1
  have x2 : w4.cell? ⟨q, 2, none⟩ = some (.int .i64 0) := hX4.cell 2
  have x3 : w4.cell? ⟨q, 3, none⟩ = some (.int .i64 300) := hX4.cell 3
  have x4 : w4.cell? ⟨q, 4, none⟩ = some (.bool true) := hX4.cell 4
  clear hX4
  go_wp2_with fail
  refine (hn.out _).mono ?_
  rintro _ w5 ⟨rfl, rfl⟩
  go_wp2_with fail
  refine (hp.out _).mono ?_
  rintro _ w6 ⟨b6, rfl, _, hb6⟩
  have hB6 := Lib.hid (grew hB4.out hb6)
  clear x0 x1 x2 x3 x4 hb6 hB4
  go_wp2_with fail
  go_ret
  exact ⟨rfl, hB6.out⟩
end Go.Proofs.Ytpfnpfbimadjkaa.W
