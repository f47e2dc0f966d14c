/- The definition's records: Same, Pack. -/
import Derived.Test.YtpfnpfbimadjkaaRcP
namespace Go.Proofs.Ytpfnpfbimadjkaa.W
open Go.RowKit Go.Sort
open Go.Proofs.Ytpfnpfbimadjkaa.M Go.Proofs.Ytpfnpfbimadjkaa.D Go.Proofs.Ytpfnpfbimadjkaa.Z
set_option linter.unusedVariables false
set_option linter.unusedSimpArgs false

/-- What a record's cells may be, as data that came in. -/
def wfR (r : Rc) : Prop := (Lit.int .i64 r.off).wf = true ∧ (Lit.int .i64 r.tick).wf = true ∧ r.key.size ≤ maxLen ∧ r.val.size ≤ maxLen ∧ (Lit.int .i64 r.prod).wf = true ∧ (Lit.int .i64 r.seq).wf = true ∧ (Lit.int .i64 r.frm).wf = true
theorem wf_of {n : Int} (h0 : 0 ≤ n) (h1 : n ≤ 1099511627776) : (Lit.int .i64 n).wf = true := by
  simp [Lit.wf, IntKind.min, IntKind.max, IntKind.signed, IntKind.bits]; omega
theorem ok_wf {r : Rc} (h : r.ok) : wfR r := by
  obtain ⟨⟨o0, o1⟩, ⟨t0, t1⟩, ⟨p0, p1⟩, ⟨q0, q1⟩, ⟨f0, f1⟩, _, hk, hv, _⟩ := h
  exact ⟨wf_of o0 (by omega), wf_of t0 t1, by unfold maxLen; omega, by unfold maxLen; omega, wf_of p0 p1, wf_of q0 q1, wf_of f0 f1⟩
theorem key_rc : Try.prog.keyTypeAt 3 32 = true := by kernel_rfl
theorem cellsRi : Try.prog.cellsOf 3 = 1 := by kernel_rfl
theorem cellsRs : Try.prog.cellsOf 9 = 1 := by kernel_rfl
theorem cellsRb : Try.prog.cellsOf 4 = 1 := by kernel_rfl
theorem cellsRc : Try.prog.cellsOf 32 = 8 := by kernel_rfl
theorem litRi (a : Int) (h : (Lit.int .i64 a).wf = true) (d : Nat) : Try.prog.keyLits (d + 1) 3 [.int .i64 a] = some [.int .i64 a] := by
  unfold Program.keyLits
  rw [Try.underlying3]
  simp [h]
theorem litRs (s : ByteArray) (h : s.size ≤ maxLen) (d : Nat) : Try.prog.keyLits (d + 1) 9 [.string s] = some [.string s.data.toList] := by
  unfold Program.keyLits
  rw [Try.underlying9]
  simp [h]
theorem litRb (b : Bool) (d : Nat) : Try.prog.keyLits (d + 1) 4 [.bool b] = some [.bool b] := by
  unfold Program.keyLits
  rw [Try.underlying4]
theorem lits_rc (r : Rc) (h : wfR r) : Try.prog.keyLits 3 32 (rcL r) = some [.int .i64 r.off, .int .i64 r.tick, .string r.key.data.toList, .string r.val.data.toList, .bool r.gone, .int .i64 r.prod, .int .i64 r.seq, .int .i64 r.frm] := by
  obtain ⟨h0, h1, h2, h3, h4, h5, h6⟩ := h
  unfold Program.keyLits
  rw [Try.underlying32]
  simp [cellsRc, cellsRi, cellsRs, cellsRb, litRi r.off h0 1, litRi r.tick h1 1, litRs r.key h2 1, litRs r.val h3 1, litRb r.gone 1, litRi r.prod h4 1, litRi r.seq h5 1, litRi r.frm h6 1]
theorem same_rc (r : Rc) (h : wfR r) (w : World) :
    (Op.equalIn 10000 32 (.agg #[.int .i64 r.off, .int .i64 r.tick, .string r.key, .string r.val, .bool r.gone, .int .i64 r.prod, .int .i64 r.seq, .int .i64 r.frm]) (.agg #[.int .i64 r.off, .int .i64 r.tick, .string r.key, .string r.val, .bool r.gone, .int .i64 r.prod, .int .i64 r.seq, .int .i64 r.frm])).run Try.prog w = .ok true w := by
  obtain ⟨q, h1, h2⟩ := run_equalIn_deep 9997 3 32 key_rc w 3 3 (rcV r) (rcV r) _ _ (by kernel_rfl) (by kernel_rfl) (lits_rc r h) (lits_rc r h)
  rw [h1, h2.2 rfl]

set_option maxRecDepth 100000 in
set_option maxHeartbeats 4000000 in
theorem same_recs (va vb : Option Addr) (n ca cb : Nat) (rs : List Rc) (w : World) (ha : RcAt w va rs) (hb : RcAt w vb rs) (hn : rs.length = n) (hn2 : n ≤ 100000) (hok : ∀ r ∈ rs, wfR r) :
    Calls Try.prog 12 #[.slice va n ca, .slice vb n cb] w fun e w' => e = .returned (.bool true) ∧ Below w.heap.size w w' := by
  replace ha := Lib.hid ha
  replace hb := Lib.hid hb
  replace hok := Lib.hid hok
  go_enter Try.func12, Try.ntmps12
  go_wp2_with fail
  go_loopg [14] n (fun ga i wr => ∃ k : Nat, k ≤ n ∧ n ≤ k + ga ∧ i = .int .i64 k ∧ Hid (Below w.heap.size w wr))
  case atStart => exact ⟨0, by omega, by omega, rfl, Lib.hid (Below.refl _ _)⟩
  case round =>
    obtain ⟨k, hk, hg, rfl, hbl⟩ := hrel
    generalize wr = wo at *
    by_cases hlt : k < n
    · obtain ⟨r, hf⟩ : ∃ f, rs[k]? = some f := ⟨_, List.getElem?_eq_getElem (by omega)⟩
      obtain ⟨b1, o1, rfl, c0, c1, c2, c3, c4, c5, c6, c7⟩ := (ha.out.below hbl.out).get hf
      obtain ⟨b2, o2, rfl, e0, e1, e2, e3, e4, e5, e6, e7⟩ := (hb.out.below hbl.out).get hf
      have hwf := hok.out _ (List.mem_of_getElem? hf)
      have hsm := fun W => same_rc r hwf W
      obtain ⟨W, hW⟩ : ∃ W, Hid (W = wo.alloc (.cells #[.int .i64 r.off, .int .i64 r.tick, .string r.key, .string r.val, .bool r.gone, .int .i64 r.prod, .int .i64 r.seq, .int .i64 r.frm] 32)) := ⟨_, Lib.hid rfl⟩
      have hbW : Below wo.heap.size wo W := by rw [hW.out]; exact (Below.refl _ _).alloc (Nat.le_refl _) _
      have hX : Whole W wo.heap.size 32 (rcL r) := by rw [hW.out]; exact Whole.new wo _ _
      obtain ⟨q0, q1, q2, q3, q4, q5, q6, q7⟩ := recCells hX
      have g0 := keepZ hbW e0
      have g1 := keepZ hbW e1
      have g2 := keepZ hbW e2
      have g3 := keepZ hbW e3
      have g4 := keepZ hbW e4
      have g5 := keepZ hbW e5
      have g6 := keepZ hbW e6
      have g7 := keepZ hbW e7
      have hend : Hid (Below w.heap.size w W.drew) := Lib.hid (grew hbl.out hbW).drew
      have hk0 : (0 : Int) ≤ (k : Int) := by omega
      have hkn : (k : Int) < (n : Int) := by omega
      clear hX hbW hf hwf e0 e1 e2 e3 e4 e5 e6 e7
      go_upto_region 6 with fail
      rw [← show W = _ from hW.out]
      clear hW c0 c1 c2 c3 c4 c5 c6 c7
      go_region
      all_goals go_wp2_with fail
      all_goals go_roundg (gk - 1)
      all_goals first
        | omega
        | exact ⟨k + 1, by omega, by omega, by go_num, hend⟩
    · obtain rfl : k = n := by omega
      go_wp2_with fail
      go_ret
      exact ⟨rfl, hbl.out⟩

end Go.Proofs.Ytpfnpfbimadjkaa.W
