/- The definition's records: Same, Pack. -/
import Derived.Test.YtgfamaddghajlaaRcP
namespace Go.Proofs.Ytgfamaddghajlaa.W
open Go.RowKit Go.Sort
open Go.Proofs.Ytgfamaddghajlaa.M Go.Proofs.Ytgfamaddghajlaa.D Go.Proofs.Ytgfamaddghajlaa.Z
set_option linter.unusedVariables false
set_option linter.unusedSimpArgs false

theorem rwrong_is (va : Option Addr) (c : Nat) (rs : List Rc) (w : World) (h : RcAt w va rs) (hn : rs.length ≤ 1000) :
    ∃ x : Int, ((x = 1 ∧ ¬ fair rs) ∨ (fair rs ∧ x = if 8 < rs.length ∨ 773 < (packL rs).length then 2 else 0)) ∧
      Calls Try.prog 18 #[.slice va rs.length c] w fun e w' => e = .returned (.int .i64 x) ∧ Below w.heap.size w w' := by
  by_cases hbad : ∃ i, i < rs.length ∧ ¬ fineAt rs i
  · obtain ⟨k, h1, h2, h3⟩ := first_not (fineAt rs) rs.length hbad
    have h0 : rs ≠ [] := fun e => by rw [e] at h1; simp at h1
    refine ⟨1, .inl ⟨rfl, fun hf => h2 ((fair_fine h0).1 hf k h1)⟩, ?_⟩
    exact rwrong_at va c rs w h hn k (by omega) h3 (fun _ => h2) 1 (by rw [if_pos (.inl h1)])
  · have hall : ∀ i, i < rs.length → fineAt rs i := fun i hi => Classical.byContradiction fun e => hbad ⟨i, hi, e⟩
    by_cases h0 : rs = []
    · refine ⟨1, .inl ⟨rfl, fun hf => hf.1 h0⟩, ?_⟩
      exact rwrong_at va c rs w h hn rs.length (Nat.le_refl _) hall (fun e => absurd e (Nat.lt_irrefl _)) 1 (by rw [if_pos (.inr (by rw [h0]; rfl))])
    · have hz : rs.length ≠ 0 := fun e => h0 (List.length_eq_zero_iff.1 e)
      have hx : (if 8 < rs.length ∨ 773 < (packL rs).length then (2 : Int) else 0) = if rs.length < rs.length ∨ rs.length = 0 then 1 else if 8 < rs.length ∨ 773 < (packL rs).length then 2 else 0 := (if_neg (by omega)).symm
      exact ⟨_, .inr ⟨(fair_fine h0).2 hall, rfl⟩, rwrong_at va c rs w h hn rs.length (Nat.le_refl _) hall (fun e => absurd e (Nat.lt_irrefl _)) _ hx⟩

/-- What a record's cells may be, as data that came in. -/
def wfR (r : Rc) : Prop := (Lit.int .i64 r.off).wf = true ∧ (Lit.int .i64 r.tick).wf = true ∧ r.key.size ≤ maxLen ∧ r.val.size ≤ maxLen ∧ (Lit.int .i64 r.prod).wf = true ∧ (Lit.int .i64 r.seq).wf = true ∧ (Lit.int .i64 r.frm).wf = true
theorem wf_of {n : Int} (h0 : 0 ≤ n) (h1 : n ≤ 1099511627776) : (Lit.int .i64 n).wf = true := by
  simp [Lit.wf, IntKind.min, IntKind.max, IntKind.signed, IntKind.bits]; omega
theorem ok_wf {r : Rc} (h : r.ok) : wfR r := by
  obtain ⟨⟨o0, o1⟩, ⟨t0, t1⟩, ⟨p0, p1⟩, ⟨q0, q1⟩, ⟨f0, f1⟩, _, hk, hv, _⟩ := h
  exact ⟨wf_of o0 (by omega), wf_of t0 t1, by unfold maxLen; omega, by unfold maxLen; omega, wf_of p0 p1, wf_of q0 q1, wf_of f0 f1⟩
theorem key_rc : Try.prog.keyTypeAt 3 23 = true := by kernel_rfl
theorem cellsRi : Try.prog.cellsOf 3 = 1 := by kernel_rfl
theorem cellsRs : Try.prog.cellsOf 9 = 1 := by kernel_rfl
theorem cellsRb : Try.prog.cellsOf 4 = 1 := by kernel_rfl
theorem cellsRc : Try.prog.cellsOf 23 = 8 := by kernel_rfl
theorem litRi (a : Int) (h : (Lit.int .i64 a).wf = true) (d : Nat) : Try.prog.keyLits (d + 1) 3 [.int .i64 a] = some [.int .i64 a] := by
  unfold Program.keyLits
  rw [Try.underlying3]
  simp [h]
theorem litRs (s : ByteArray) (h : s.size ≤ maxLen) (d : Nat) : Try.prog.keyLits (d + 1) 9 [.string s] = some [.string s.data.toList] := by
  unfold Program.keyLits
  rw [Try.underlying9]
  simp [h]
theorem litRb (b : Bool) (d : Nat) : Try.prog.keyLits (d + 1) 4 [.bool b] = some [.bool b] := by
  unfold Program.keyLits
  rw [Try.underlying4]
theorem lits_rc (r : Rc) (h : wfR r) : Try.prog.keyLits 3 23 (rcL r) = some [.int .i64 r.off, .int .i64 r.tick, .string r.key.data.toList, .string r.val.data.toList, .bool r.gone, .int .i64 r.prod, .int .i64 r.seq, .int .i64 r.frm] := by
  obtain ⟨h0, h1, h2, h3, h4, h5, h6⟩ := h
  unfold Program.keyLits
  rw [Try.underlying23]
  simp [cellsRc, cellsRi, cellsRs, cellsRb, litRi r.off h0 1, litRi r.tick h1 1, litRs r.key h2 1, litRs r.val h3 1, litRb r.gone 1, litRi r.prod h4 1, litRi r.seq h5 1, litRi r.frm h6 1]
theorem same_rc (r : Rc) (h : wfR r) (w : World) :
    (Op.equalIn 10000 23 (.agg #[.int .i64 r.off, .int .i64 r.tick, .string r.key, .string r.val, .bool r.gone, .int .i64 r.prod, .int .i64 r.seq, .int .i64 r.frm]) (.agg #[.int .i64 r.off, .int .i64 r.tick, .string r.key, .string r.val, .bool r.gone, .int .i64 r.prod, .int .i64 r.seq, .int .i64 r.frm])).run Try.prog w = .ok true w := by
  obtain ⟨q, h1, h2⟩ := run_equalIn_deep 9997 3 23 key_rc w 3 3 (rcV r) (rcV r) _ _ (by kernel_rfl) (by kernel_rfl) (lits_rc r h) (lits_rc r h)
  rw [h1, h2.2 rfl]

set_option maxRecDepth 100000 in
set_option maxHeartbeats 4000000 in
theorem same_recs (va vb : Option Addr) (n ca cb : Nat) (rs : List Rc) (w : World) (ha : RcAt w va rs) (hb : RcAt w vb rs) (hn : rs.length = n) (hn2 : n ≤ 100000) (hok : ∀ r ∈ rs, wfR r) :
    Calls Try.prog 21 #[.slice va n ca, .slice vb n cb] w fun e w' => e = .returned (.bool true) ∧ Below w.heap.size w w' := by
  replace ha := Lib.hid ha
  replace hb := Lib.hid hb
  replace hok := Lib.hid hok
  go_enter Try.func21, Try.ntmps21
  go_wp2_with fail
  go_loopg [14] n (fun ga i wr => ∃ k : Nat, k ≤ n ∧ n ≤ k + ga ∧ i = .int .i64 k ∧ Hid (Below w.heap.size w wr))
  case atStart => exact ⟨0, by omega, by omega, rfl, Lib.hid (Below.refl _ _)⟩
  case round =>
    obtain ⟨k, hk, hg, rfl, hbl⟩ := hrel
    generalize wr = wo at *
    by_cases hlt : k < n
    · obtain ⟨r, hf⟩ : ∃ f, rs[k]? = some f := ⟨_, List.getElem?_eq_getElem (by omega)⟩
      obtain ⟨b1, o1, rfl, c0, c1, c2, c3, c4, c5, c6, c7⟩ := (ha.out.below hbl.out).get hf
      obtain ⟨b2, o2, rfl, e0, e1, e2, e3, e4, e5, e6, e7⟩ := (hb.out.below hbl.out).get hf
      have hwf := hok.out _ (List.mem_of_getElem? hf)
      have hsm := fun W => same_rc r hwf W
      obtain ⟨W, hW⟩ : ∃ W, Hid (W = wo.alloc (.cells #[.int .i64 r.off, .int .i64 r.tick, .string r.key, .string r.val, .bool r.gone, .int .i64 r.prod, .int .i64 r.seq, .int .i64 r.frm] 23)) := ⟨_, Lib.hid rfl⟩
      have hbW : Below wo.heap.size wo W := by rw [hW.out]; exact (Below.refl _ _).alloc (Nat.le_refl _) _
      have hX : Whole W wo.heap.size 23 (rcL r) := by rw [hW.out]; exact Whole.new wo _ _
      obtain ⟨q0, q1, q2, q3, q4, q5, q6, q7⟩ := recCells hX
      have g0 := keepZ hbW e0
      have g1 := keepZ hbW e1
      have g2 := keepZ hbW e2
      have g3 := keepZ hbW e3
      have g4 := keepZ hbW e4
      have g5 := keepZ hbW e5
      have g6 := keepZ hbW e6
      have g7 := keepZ hbW e7
      have hend : Hid (Below w.heap.size w W.drew) := Lib.hid (grew hbl.out hbW).drew
      have hk0 : (0 : Int) ≤ (k : Int) := by omega
      have hkn : (k : Int) < (n : Int) := by omega
      clear hX hbW hf hwf e0 e1 e2 e3 e4 e5 e6 e7
      go_upto_region 6 with fail
      rw [← show W = _ from hW.out]
      clear hW c0 c1 c2 c3 c4 c5 c6 c7
      go_region
      all_goals go_wp2_with fail
      all_goals go_roundg (gk - 1)
      all_goals first
        | omega
        | exact ⟨k + 1, by omega, by omega, by go_num, hend⟩
    · obtain rfl : k = n := by omega
      go_wp2_with fail
      go_ret
      exact ⟨rfl, hbl.out⟩

set_option maxRecDepth 100000 in
set_option maxHeartbeats 4000000 in
theorem rpack_any (va : Option Addr) (c : Nat) (rs : List Rc) (w : World) (h : RcAt w va rs) (hn : rs.length ≤ 100) (hok : ∀ r ∈ rs, r.ok) :
    Calls Try.prog 20 #[.slice va rs.length c] w fun e w' => e = .returned (.string (B (packL rs))) ∧ Below w.heap.size w w' := by
  obtain ⟨N, hN⟩ : ∃ N, Hid (rs.length = N) := ⟨_, Lib.hid rfl⟩
  rw [hN.out] at hn ⊢
  have he := Lib.hid (fun (r : Rc) (hr : r.ok) W => renc_yes r.off r.tick r.key r.val r.gone r.prod r.seq r.frm W hr)
  obtain ⟨P, hP⟩ : ∃ P, Hid (packL rs = P) := ⟨_, Lib.hid rfl⟩
  rw [hP.out]
  replace hok := Lib.hid hok
  replace h := Lib.hid h
  go_enter Try.func20, Try.ntmps20
  go_wp2_with fail
  go_loopg [3, 8] N (fun ga sv i wr => ∃ (k : Nat) (s : ByteArray), k ≤ N ∧ N ≤ k + ga ∧ i = .int .i64 k ∧ sv = .string s ∧ Hid (s = B (packL (rs.take k)) ∧ s.size ≤ 300 * k ∧ Below w.heap.size w wr))
  case atStart => exact ⟨0, ⟨#[]⟩, by omega, by omega, rfl, rfl, Lib.hid ⟨by simp [packL]; rfl, by show (0 : Nat) ≤ _; omega, Below.refl _ _⟩⟩
  case round =>
    obtain ⟨k, s, hk, hg, rfl, rfl, hrel⟩ := hrel
    obtain ⟨hs, hs3, hb⟩ := hrel.out
    clear hrel
    generalize wr = wo at *
    by_cases hlt : k < N
    · obtain ⟨r, hr⟩ : ∃ r, rs[k]? = some r := ⟨_, List.getElem?_eq_getElem (by have := hN.out; omega)⟩
      have hro := hok.out r (List.mem_of_getElem? hr)
      have her := Lib.hid (he.out r hro)
      obtain ⟨b, o, rfl, c0, c1, c2, c3, c4, c5, c6, c7⟩ := (h.out.below hb).get hr
      have hl : (B (recL r)).size ≤ 300 := by
        have h1 := recL_bounds hro
        obtain ⟨_, _, _, _, _, _, hk, hv, _⟩ := hro
        rw [B_size]; omega
      have hst : s ++ B (recL r) = B (packL (rs.take (k + 1))) := by
        rw [hs, List.take_add_one, hr]
        show _ = B (packL (rs.take k ++ [r]))
        rw [packL_snoc, B_append]
      obtain ⟨S8, hS8⟩ : ∃ S, Hid (B (recL r) = S) := ⟨_, Lib.hid rfl⟩
      rw [show (Rc.mk r.off r.tick r.key r.val r.gone r.prod r.seq r.frm) = r from rfl, hS8.out] at her
      rw [hS8.out] at hl hst
      have hz : (s ++ S8).size ≤ 300 * (k + 1) := by rw [ByteArray.size_append]; omega
      have hB1 := Lib.hid (grewAlloc hb (.cells #[.int .i64 r.off, .int .i64 r.tick, .string r.key, .string r.val, .bool r.gone, .int .i64 r.prod, .int .i64 r.seq, .int .i64 r.frm] 23))
      replace hst := Lib.hid hst
      clear hs hb hro hr
      go_wp2_with fail
      refine (her.out _).mono ?_
      rintro e w8 ⟨rfl, hb8⟩
      have hfin := Lib.hid (And.intro hst.out (And.intro hz (grew hB1.out hb8)))
      clear hb8 hB1 c0 c1 c2 c3 c4 c5 c6 c7
      go_wp2_with fail
      go_roundg (gk - 1)
      case measure => omega
      case rel => exact ⟨k + 1, s ++ S8, by omega, by omega, by go_num, rfl, hfin⟩
    · obtain rfl : k = N := by omega
      rw [List.take_of_length_le (by have := hN.out; omega), hP.out] at hs
      subst hs
      replace hb := Lib.hid hb
      go_wp2_with fail
      go_ret
      exact ⟨rfl, hb.out⟩
end Go.Proofs.Ytgfamaddghajlaa.W
