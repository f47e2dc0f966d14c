/- For every stamp, frame and pair of ints the law FrameBit returns true: of a frame one bit of whose kind, payload or CRC is turned Decode answers ErrForm. No condition. -/
import Derived.Test.YtgomhnclmacleaaRows
import Derived.Test.YtgomhnclmacleaaBare
import Derived.Test.YtgomhnclmacleaaFrRef
import Derived.Test.YtgomhnclmacleaaFrameT
import Derived.Test.YtgomhnclmacleaaOpenFr
import Derived.Test.YtgomhnclmacleaaOpen
import Derived.Test.YtgomhnclmacleaaBytes
import Derived.BigRegion
import Derived.ChangeOld
import Derived.ShutString
namespace Go.Proofs.Ytgomhnclmacleaa.frameBit
open Go.ChangeShapes Go.WideShapes Go.ChangeAt Go.RowKit
open Go.ChangeMaps (open_string shut_string)
open Go.Proofs.Ytgomhnclmacleaa.M Go.Proofs.Ytgomhnclmacleaa.W Go.Proofs.Ytgomhnclmacleaa.D
set_option linter.unusedVariables false

set_option maxRecDepth 100000 in
set_option maxHeartbeats 4000000 in
theorem walk (st k : Int) (p : ByteArray) (pl bit : Int) (w : World) (w0 : (Lit.int .u32 st).wf = true) (w1 : (Lit.int .i64 k).wf = true) (w2 : p.size ≤ maxLen) (w3 : (Lit.int .i64 pl).wf = true) (w4 : (Lit.int .i64 bit).wf = true) :
    Calls Try.prog 12 #[.int .u32 st, .agg #[.int .i64 k, .string p], .agg #[.int .i64 pl, .int .i64 bit]] w fun e w' => e = .returned (.bool true) ∧ Below w.heap.size w w' := by
  obtain ⟨l0, l1⟩ := bounds_u32 w0
  obtain ⟨m0, m1⟩ := bounds_i64 w4
  unfold maxLen at w2
  have hrw := fun W => rwrong_any pl k p W (by omega)
  by_cases hw : wrongF pl k p.size = 0
  · have hc : ¬ (k < 1 ∨ 255 < k ∨ ¬ (1 ≤ pl ∧ pl < 16)) := fun h => by rw [wrongF_arg h] at hw; omega
    have hp : p.size ≤ 773 := by
      rcases Nat.lt_or_ge 773 p.size with h | h
      · rw [wrongF_long hc h] at hw; omega
      · exact h
    rw [hw] at hrw
    replace hrw := Lib.hid hrw
    have hcase : bit < 16 ∨ (16 ≤ bit ∧ 8 * (7 + (p.size : Int)) ≤ bit) ∨ (16 ≤ bit ∧ bit < 8 * (7 + (p.size : Int))) := by omega
    rcases hcase with h1 | ⟨h1, h2⟩ | ⟨h1, h2⟩
    · clear hw hc
      go_enter Try.func12, Try.ntmps12
      go_wp2_with fail
      refine (hrw.out _).mono ?_
      rintro e w5 ⟨rfl, hb5⟩
      go_wp2_with fail
      refine (bare_any _).mono ?_
      rintro e w1 ⟨rfl, hb⟩
      go_wp2_with fail
      go_ret
      exact ⟨rfl, grew (grew (grewAlloc (grewAlloc (Below.refl _ w) _) _) hb5) hb⟩
    · clear hc hw
      go_enter Try.func12, Try.ntmps12
      go_wp2_with fail
      refine (hrw.out _).mono ?_
      rintro e w5 ⟨rfl, hb5⟩
      have hF : Whole w5 w.heap.size 72 [.int .i64 k, .string p] := ((Whole.new w 72 [.int .i64 k, .string p]).alloc (.cells #[.int .i64 pl, .int .i64 bit] 88)).below hb5 (by simp; omega)
      have g5 := Lib.hid (grew (grewAlloc (grewAlloc (Below.refl _ w) (.cells #[.int .i64 k, .string p] 72)) (.cells #[.int .i64 pl, .int .i64 bit] 88)) hb5)
      have c0 := hF.cell 0
      have c1 := hF.cell 1
      simp only [List.getElem?_cons_zero, List.getElem?_cons_succ] at c0 c1
      clear hF hb5
      go_wp2_with fail
      refine (bare_any _).mono ?_
      rintro e w6 ⟨rfl, hb⟩
      go_wp2_with fail
      go_ret
      exact ⟨rfl, grew g5.out hb⟩
    · have hrenc := fun W => rencode_any st pl k p W l0 (by omega) (by omega) (by omega) (by omega) (by omega)
      have hEz : (B (encF st pl k p.data.toList)).size = 7 + p.size := by rw [B_size, encF_len]; simp
      obtain ⟨n, rfl⟩ := Int.eq_ofNat_of_zero_le (show 0 ≤ bit by omega)
      have hturn := fun d hd hne => dec_turned st pl k p (n / 8) d (by omega) (by omega) (by omega) hp (by omega) (by omega) hd hne
      have hdec : ∀ (l : List UInt8) (W : World), l.length = 7 + p.size → Calls Try.prog 44 #[.int .u32 st, .int .i64 pl, .string (B l)] W fun e w' => e = .returned (decV st pl (B l)) ∧ Below W.heap.size W w' := fun l W hl => decode_any st pl (B l) W l0 (by omega) (by rw [B_size]; omega)
      have hEd : (B (encF st pl k p.data.toList)).data.toList = encF st pl k p.data.toList := rfl
      obtain ⟨E, hE⟩ : ∃ E, Hid (B (encF st pl k p.data.toList) = E) := ⟨_, Lib.hid rfl⟩
      rw [hE.out] at hrenc hEz hEd
      rw [← hEd] at hturn
      clear hEd hw hc
      replace hrenc := Lib.hid hrenc
      replace hdec := Lib.hid hdec
      replace hturn := Lib.hid hturn
      have hEs : E.size ≤ 1000 := by omega
      have hjE : n / 8 < E.size := by omega
      replace hEz := Lib.hid hEz
      have kb := fun wx : World => run_bytes_of_string (P := Try.prog) wx 9 89 5 E Try.underlying9 Try.underlying89 Try.underlying5
      go_enter Try.func12, Try.ntmps12
      go_wp2_with fail
      refine (hrw.out _).mono ?_
      rintro e w5 ⟨rfl, hb5⟩
      have hF : Whole w5 w.heap.size 72 [.int .i64 k, .string p] := ((Whole.new w 72 [.int .i64 k, .string p]).alloc (.cells #[.int .i64 pl, .int .i64 (n : Int)] 88)).below hb5 (by simp; omega)
      have g5 := Lib.hid (grew (grewAlloc (grewAlloc (Below.refl _ w) (.cells #[.int .i64 k, .string p] 72)) (.cells #[.int .i64 pl, .int .i64 (n : Int)] 88)) hb5)
      have c0 := hF.cell 0
      have c1 := hF.cell 1
      simp only [List.getElem?_cons_zero, List.getElem?_cons_succ] at c0 c1
      clear hF hb5
      go_wp2_with fail
      refine (hrenc.out _).mono ?_
      rintro e w6 ⟨rfl, hb6⟩
      replace g5 := Lib.hid (grew g5.out hb6)
      clear c0 c1 hb6
      go_wp2_with fail
      clear kb
      have hrow : ByteRow (w6.alloc (.cells (bytesRow E (grownCap w6 E.size 0 5)) 5 ((bytesRow E (grownCap w6 E.size 0 5)).size, (bytesRow E (grownCap w6 E.size 0 5)).size + 1))).drew w6.heap.size E.data.toList := ByteRow.made w6 E (grownCap w6 E.size 0 5) 5
      have hbel : Below w6.heap.size w6 (w6.alloc (.cells (bytesRow E (grownCap w6 E.size 0 5)) 5 ((bytesRow E (grownCap w6 E.size 0 5)).size, (bytesRow E (grownCap w6 E.size 0 5)).size + 1))).drew := ((Below.refl _ w6).alloc (Nat.le_refl _) _).drew
      generalize (w6.alloc (.cells (bytesRow E (grownCap w6 E.size 0 5)) 5 ((bytesRow E (grownCap w6 E.size 0 5)).size, (bytesRow E (grownCap w6 E.size 0 5)).size + 1))).drew = w1 at hrow hbel ⊢
      generalize grownCap w6 E.size 0 5 = cap
      have hlen : E.data.toList.length = E.size := by simp
      have hj := hjE
      obtain ⟨hc, hf⟩ := hrow (n / 8) (by rw [hlen]; exact hj)
      have hbt := bt_lt E.data.toList (n / 8)
      have hp2 : (2 : Nat) ^ (n % 8) < 256 := by
        have := Nat.pow_le_pow_right (n := 2) (by omega) (show n % 8 ≤ 7 from by omega)
        omega
      have hp1 : 1 ≤ (2 : Nat) ^ (n % 8) := Nat.one_le_two_pow
      have hX : bits BinOp.xor IntKind.u8 ((bt E.data.toList (n / 8) : Nat) : Int) (2 ^ (n % 8) % 256) = ((bt E.data.toList (n / 8) ^^^ 2 ^ (n % 8) : Nat) : Int) := by
        rw [← two_pow_cast, show ((2 ^ (n % 8) : Nat) : Int) % 256 = ((2 ^ (n % 8) : Nat) : Int) from by omega]
        exact u8_xor_nat _ _ hbt hp2
      have hd : bt E.data.toList (n / 8) ^^^ 2 ^ (n % 8) < 256 := Nat.xor_lt_two_pow (n := 8) hbt hp2
      have hne := hturn.out (bt E.data.toList (n / 8) ^^^ 2 ^ (n % 8)) hd (by
        intro he
        have h2 : bt E.data.toList (n / 8) ^^^ (bt E.data.toList (n / 8) ^^^ 2 ^ (n % 8)) = 0 := by rw [he, Nat.xor_self]
        rw [← Nat.xor_assoc, Nat.xor_self, Nat.zero_xor] at h2
        omega)
      generalize bt E.data.toList (n / 8) ^^^ 2 ^ (n % 8) = dd at hX hd hne
      replace hlen := Lib.hid hlen
      replace hrow := Lib.hid hrow
      replace hne := Lib.hid hne
      clear hp1 hp2 hturn
      have hj2 : ((n / 8 : Nat) : Int) < (E.size : Int) := by omega
      go_region
      have hrow2 := (hrow.out.set (n / 8) (by rw [hlen.out]; exact hj) (dd : Int) (by omega) (by omega)).drew
      have hbel2 := (hbel.setCell (p := ⟨w6.heap.size, n / 8, none⟩) (Nat.le_refl _) (.int .u8 (dd : Int))).drew
      rw [Int.toNat_natCast] at hrow2
      clear hX hc hf
      generalize (w1.setCell ⟨w6.heap.size, n / 8, none⟩ (.int .u8 (dd : Int))).drew = w8 at hrow2 hbel2 ⊢
      have hcv := hrow2.back (P := Try.prog) 89 9 5 cap E.size (by rw [List.length_set, hlen.out]) Try.underlying89 Try.underlying5 Try.underlying9
      replace hrow2 := Lib.hid hrow2
      replace g5 := Lib.hid (grew g5.out hbel2)
      have hdec2 := hdec.out (E.data.toList.set (n / 8) (UInt8.ofNat dd))
      rw [decV_no hne.out (by decide)] at hdec2
      replace hdec2 := Lib.hid hdec2
      clear hbel hbel2
      go_wp2_with fail
      refine (hdec2.out _ (by rw [List.length_set, hlen.out, hEz.out])).mono ?_
      rintro e w9 ⟨rfl, hb9⟩
      go_wp2_with fail
      refine (bare_any _).mono ?_
      rintro e w10 ⟨rfl, hb10⟩
      go_wp2_with fail
      go_ret
      exact ⟨rfl, grew (grewAlloc (grew g5.out hb9) _) hb10⟩
  · obtain ⟨x, hx⟩ : ∃ x, Hid (wrongF pl k p.size = x) := ⟨_, Lib.hid rfl⟩
    rw [hx.out] at hrw hw
    have hxb : (x != 0) = true := by simpa using hw
    replace hrw := Lib.hid hrw
    replace hw := Lib.hid hw
    go_enter Try.func12, Try.ntmps12
    go_wp2_with fail
    refine (hrw.out _).mono ?_
    rintro e w5 ⟨rfl, hb5⟩
    go_wp2_with fail
    refine (bare_any _).mono ?_
    rintro e w1 ⟨rfl, hb⟩
    go_wp2_with fail
    go_ret
    exact ⟨rfl, grew (grew (grewAlloc (grewAlloc (Below.refl _ w) _) _) hb5) hb⟩


theorem own : ownKnob Try.prog.godebug = none := by kernel_rfl
theorem laidOut : laidOutB Try.prog = true := by kernel_rfl

set_option maxRecDepth 100000 in
theorem lifted (os : Os) (started : os.Started) (H : Type) (enc : TypeId × Value → H) :
    ReturnsInHanded {} Try.checked os 12 .any (Rows.frameBitSpec.pre6 enc Try.prog Try.f12 Rows.frameBitRow.domain false) (Rows.frameBitSpec.post enc Try.prog Try.f12 false true false false) := by
  refine returnsInHanded_of_change (C := Try.checked) own started (by kernel_rfl) Try.func12
    (ChangeSpec.witness6 (enc := enc) (C := Try.checked) false ⟨#[], #[.int .u32 0, .agg #[.int .i64 0, .string ByteArray.empty], .agg #[.int .i64 0, .int .i64 0]], []⟩ 8 (by kernel_rfl) (by kernel_rfl) (by kernel_rfl) (by kernel_rfl)) ?_
  intro W base args ds gs before hval0 hW hcnd _
  have hval : ∀ (j : Nat) t v, Try.f12.params[j]? = some t → args[j]? = some v → Value.okWide Try.prog W .any base t v := hval0
  have hW' := hW
  obtain ⟨p, q, hA0, hV, rfl, hfz, hnd⟩ := hW
  have hA : DataW.TrodAll enc Try.prog W 0 (fun _ => true) true Try.f12.params.toList args.toList ds p := hA0
  rw [Try.params12] at hA hval
  obtain ⟨v0, vs0, d0, ds0, p0, q0, hargs, rfl, rfl, h0, r0⟩ := trodAll_cons hA
  obtain ⟨v1, vs1, d1, ds1, p1, q1, rfl, rfl, rfl, h1, r1⟩ := trodAll_cons r0
  obtain ⟨v2, vs2, d2, ds2, p2, q2, rfl, rfl, rfl, h2, r2⟩ := trodAll_cons r1
  obtain ⟨rfl, rfl, rfl⟩ := trodAll_nil r2
  obtain rfl : args = #[v0, v1, v2] := by cases args; simp_all
  obtain ⟨rfl, rfl⟩ := trodVars_none hV
  obtain ⟨a0, rfl, rfl, rfl, w0⟩ := open_int Try.underlying68 (hval 0 68 v0 rfl rfl) h0
  have k1 := h1
  have lt1 : ∀ x ∈ p1, x.block < W.heap.size := by obtain ⟨m, hm⟩ := k1; exact DataW.trod_lt m _ _ _ hm
  obtain ⟨sa1, sb1, rfl, wa1, wb1⟩ := M.open_frame (hval 1 72 v1 rfl rfl) h1
  have k2 := h2
  have lt2 : ∀ x ∈ p2, x.block < W.heap.size := by obtain ⟨m, hm⟩ := k2; exact DataW.trod_lt m _ _ _ hm
  obtain ⟨x2_0, x2_1, rfl, w2_0, w2_1⟩ := open_arr2 Try.underlying88 Try.underlying3 (by kernel_rfl) (by kernel_rfl) (hval 2 88 v2 rfl rfl) h2
  clear hA0 hval0
  refine (walk a0 sa1 sb1 x2_0 x2_1 W w0 wa1 wb1 w2_0 w2_1).mono fun e W' ⟨he, bel⟩ => ?_
  subst he
  exact ⟨_, rfl, _, _, _, [], _, [], hW', trodAll_mk1 (shut_bool Try.underlying4 _), (trodAll_cons_mk (shut_int Try.underlying68 w0) (trodAll_cons_mk (Below.trod laidOut (by kernel_rfl) (of_decide_eq_true (by kernel_rfl)) k1 bel lt1) (trodAll_cons_mk (Below.trod laidOut (by kernel_rfl) (of_decide_eq_true (by kernel_rfl)) k2 bel lt2) trodAll_mk0))), rfl, bel.frame _, fun h => by cases h⟩

theorem over : Rows.frameBitRow.holds Try.pinned (OpenSpec.ofChange Rows.frameBitSpec) :=
  OpenClaim.holds_of_wide 12 Try.f12 rfl rfl rfl rfl rfl rfl rfl ⟨rfl, rfl, rfl, rfl, rfl⟩ rfl rfl rfl rfl rfl (by kernel_rfl) Try.func12 (by kernel_rfl)
    (of_decide_eq_true (by kernel_rfl)) (by unfold Func.isWrapper; first | (rw [if_pos (by decide +kernel)]; kernel_rfl) | (rw [if_neg (by decide +kernel)]; exact ⟨rfl, rfl⟩))
    (fun os started H enc _ => lifted os started H enc)

/-- The statement. -/
theorem proved : Rows.FrameBitSaid := over
#print axioms proved

end Go.Proofs.Ytgomhnclmacleaa.frameBit
