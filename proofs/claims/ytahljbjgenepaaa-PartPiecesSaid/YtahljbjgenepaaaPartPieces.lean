/- For all records and cuts the law PartPieces returns true: records that are put in two pieces leave what they leave put at a time. No condition. -/
import Derived.Test.YtahljbjgenepaaaRows
import Derived.Test.YtahljbjgenepaaaPtI
import Derived.Test.YtahljbjgenepaaaOpenA19
import Derived.ChangeOld
import Derived.ShutString
import Derived.Deep.Cut
namespace Go.Proofs.Ytahljbjgenepaaa.partPieces
open Go.ChangeShapes Go.WideShapes Go.ChangeAt Go.RowKit Go.Sort
open Go.ChangeMaps (open_string shut_string)
open Go.Proofs.Ytahljbjgenepaaa.M Go.Proofs.Ytahljbjgenepaaa.W Go.Proofs.Ytahljbjgenepaaa.D Go.Proofs.Ytahljbjgenepaaa.Z
set_option linter.unusedVariables false
set_option linter.unusedSimpArgs false

set_option maxRecDepth 100000 in
set_option maxHeartbeats 4000000 in
theorem wayA (rs : List Rc) (X Y : Int) (w : World) (hn : Hid (rs.length = 0)) (k4 : ((0 : Nat) : Int) ≤ 30) (hok : Hid (∀ r ∈ rs, r.ok))
    (hap1 : Hid (∀ W pa va c', PS w pa ⟨0, 0, 0, []⟩ va c' W → Calls Try.prog 19 #[.pointer (some ⟨pa, 0, none⟩), .slice none 0 0] W fun e w' => e = .returned (.int .i64 0) ∧ LeftP W pa va ⟨0, X, 0, rs⟩ w'))
    (hap2 : Hid (∀ W pa va c', PS w pa ⟨0, 0, 0, []⟩ va c' W → Calls Try.prog 19 #[.pointer (some ⟨pa, 0, none⟩), .slice none 0 0] W fun e w' => e = .returned (.int .i64 0) ∧ LeftP W pa va ⟨0, Y, 0, rs.take 0⟩ w'))
    (hap3 : Hid (∀ W pa va c', PS w pa ⟨0, Y, 0, rs.take 0⟩ va c' W → Calls Try.prog 19 #[.pointer (some ⟨pa, 0, none⟩), .slice none 0 0] W fun e w' => e = .returned (.int .i64 0) ∧ LeftP W pa va ⟨0, X, 0, rs⟩ w')) :
    Calls Try.prog 6 #[.slice none 0 0, .int .i64 ((0 : Nat) : Int)] w fun e w' => e = .returned (.bool true) ∧ Below w.heap.size w w' := by
  have hnw := Lib.hid (fun W => pnew_any W)
  have hlen : rs.length ≤ 100000 := by rw [hn.out]; omega
  have hsm := Lib.hid (fun (va vb : Option Addr) (ca cb : Nat) W (h1 : RcAt W va rs) (h2 : RcAt W vb rs) => same_recs va vb 0 ca cb rs W h1 h2 hn.out (by omega) (fun r hr => ok_wf (hok.out r hr)))
  replace hlen := Lib.hid hlen
  go_enter Try.func6, Try.ntmps6
  go_wp2_with fail
  refine (hnw.out _).mono ?_
  rintro _ w1 ⟨pa, rfl, hp1, hlo1, hb1⟩
  have s1 : PS w pa ⟨0, 0, 0, []⟩ none 0 w1 := ⟨hp1, hlo1, (fun q ⟨o, e⟩ => by cases e), hb1⟩
  replace s1 := Lib.hid s1
  clear hp1 hlo1 hb1
  go_wp2_with fail
  refine (hnw.out _).mono ?_
  rintro _ w2 ⟨pb, rfl, hp2, hlo2, hb2⟩
  have t2 : PT w pa ⟨0, 0, 0, []⟩ none 0 pb ⟨0, 0, 0, []⟩ none 0 w2 := ⟨s1.out.below hb2, ⟨hp2, Nat.le_trans s1.out.since.size hlo2, (fun q ⟨o, e⟩ => by cases e), grew s1.out.since hb2⟩, fun q h1 h2 => by
    rcases h1 with rfl | ⟨o, e⟩
    · rcases h2 with e | ⟨o, e⟩
      · have := s1.out.at_.obj.lt; omega
      · cases e
    · cases e⟩
  have ap1 := Lib.hid (hap1.out w2 pa none 0 t2.a)
  replace t2 := Lib.hid t2
  clear hp2 hlo2 hb2 s1 hnw hap1
  go_wp2_with fail
  refine ap1.out.mono ?_
  rintro _ w3 ⟨rfl, hl3⟩
  obtain ⟨va3, ca3, t3⟩ := t2.out.left hl3
  have ap2 := Lib.hid (hap2.out w3 pb none 0 t3.b)
  replace t3 := Lib.hid t3
  clear hl3 t2 ap1 hap2
  go_wp2_with fail
  refine ap2.out.mono ?_
  rintro _ w4 ⟨rfl, hl4⟩
  obtain ⟨vb4, cb4, t4⟩ := t3.out.flip.left hl4
  have ap3 := Lib.hid (hap3.out w4 pb vb4 cb4 t4.a)
  replace t4 := Lib.hid t4
  clear hl4 t3 ap2 hap3
  go_wp2_with fail
  refine ap3.out.mono ?_
  rintro _ w5 ⟨rfl, hl5⟩
  obtain ⟨vb5, cb5, t5⟩ := t4.out.left hl5
  have mk1 := Lib.hid (pmark_any t5.b.at_)
  replace t5 := Lib.hid t5
  clear hl5 t4 ap3
  go_wp2_with fail
  refine mk1.out.mono ?_
  rintro _ w6 ⟨rfl, hl6⟩
  obtain ⟨va6, ca6, t6⟩ := t5.out.flip.left hl6
  have mk2 := Lib.hid (pmark_any t6.b.at_)
  replace t6 := Lib.hid t6
  clear hl6 t5 mk1
  go_wp2_with fail
  refine mk2.out.mono ?_
  rintro _ w7 ⟨rfl, hl7⟩
  obtain ⟨vb7, cb7, t7⟩ := t6.out.flip.left hl7
  have al1 := pall_any2 t7.b.at_ hlen.out
  rw [show (Pd.mark ⟨0, X, 0, rs⟩).rs.length = 0 from hn.out] at al1
  replace al1 := Lib.hid al1
  replace t7 := Lib.hid t7
  clear hl7 t6 mk2
  go_wp2_with fail
  refine al1.out.mono ?_
  rintro _ w8 ⟨A8, c8, rfl, hr8, hb8⟩
  have t8 := t7.out.below hb8
  have al2 := pall_any2 t8.a.at_ hlen.out
  rw [show (Pd.mark ⟨0, X, 0, rs⟩).rs.length = 0 from hn.out] at al2
  replace al2 := Lib.hid al2
  replace t8 := Lib.hid t8
  replace hr8 := Lib.hid hr8
  clear hb8 t7 al1
  go_wp2_with fail
  refine al2.out.mono ?_
  rintro _ w9 ⟨A9, c9, rfl, hr9, hb9⟩
  have sm := Lib.hid (hsm.out A8 A9 c8 c9 w9 (hr8.out.below hb9).at_ hr9.at_)
  have t9 := Lib.hid (t8.out.below hb9)
  clear hb9 t8 al2 hr8 hr9 hsm
  go_wp2_with fail
  refine sm.out.mono ?_
  rintro _ w10 ⟨rfl, hb10⟩
  have t10 := t9.out.below hb10
  obtain ⟨a0', a1', a2', a3'⟩ := t10.b.at_.cells
  obtain ⟨b0', b1', b2', b3'⟩ := t10.a.at_.cells
  have n1 := Lib.hid (pnext_any w10 _ a1')
  have n2 := Lib.hid (pnext_any w10 _ b1')
  have m1 := Lib.hid (pseen_any w10 _ a2')
  have m2 := Lib.hid (pseen_any w10 _ b2')
  have by1 := Lib.hid (pbytes_any t10.b.at_ hlen.out hok.out)
  have by2 := Lib.hid (fun W (hb : Below w10.heap.size w10 W) => pbytes_any (t10.a.at_.below hb) hlen.out hok.out)
  replace t10 := Lib.hid t10
  clear hb10 t9 sm a0' a1' a2' a3' b0' b1' b2' b3'
  have ex : (X == X) = true := by simp
  obtain ⟨P, hP⟩ : ∃ P, Hid ((packL rs).length = P) := ⟨_, Lib.hid rfl⟩
  have ep : (P == P) = true := by simp
  have by1' : Hid (Calls Try.prog 25 #[.pointer (some ⟨pa, 0, none⟩)] w10 fun e w' => e = .returned (.int .i64 (P : Int)) ∧ Below w10.heap.size w10 w') := Lib.hid (by rw [← hP.out]; exact by1.out)
  have by2' : Hid (∀ W (hb : Below w10.heap.size w10 W), Calls Try.prog 25 #[.pointer (some ⟨pb, 0, none⟩)] W fun e w' => e = .returned (.int .i64 (P : Int)) ∧ Below W.heap.size W w') := Lib.hid (by rw [← hP.out]; exact by2.out)
  clear by1 by2
  go_wp2_with fail
  refine n1.out.mono ?_
  rintro _ w11 ⟨rfl, rfl⟩
  go_wp2_with fail
  refine n2.out.mono ?_
  rintro _ w11 ⟨rfl, rfl⟩
  go_wp2_with fail
  refine m1.out.mono ?_
  rintro _ w11 ⟨rfl, rfl⟩
  go_wp2_with fail
  refine m2.out.mono ?_
  rintro _ w11 ⟨rfl, rfl⟩
  go_wp2_with fail
  refine by1'.out.mono ?_
  rintro _ w11 ⟨rfl, hb11⟩
  have by3 := Lib.hid (by2'.out w11 hb11)
  have hb12 := Lib.hid (grew t10.out.a.since hb11)
  clear by1' by2' hb11 t10 n1 n2 m1 m2
  go_wp2_with fail
  refine by3.out.mono ?_
  rintro _ w12 ⟨rfl, hb13⟩
  have hb14 := Lib.hid (grew hb12.out hb13)
  clear by3 hb12 hb13
  go_wp2_with fail
  refine (gap_any _).mono ?_
  rintro _ w13 ⟨rfl, hb15⟩
  have hfin := Lib.hid (grew hb14.out hb15)
  clear hb14 hb15
  go_wp2_with fail
  go_ret
  exact ⟨rfl, hfin.out⟩
set_option maxRecDepth 100000 in
set_option maxHeartbeats 4000000 in
theorem wayB (ad : Addr) (rs : List Rc) (X Y : Int) (w : World) (hn : Hid (rs.length = 0)) (k4 : ((0 : Nat) : Int) ≤ 30) (hok : Hid (∀ r ∈ rs, r.ok))
    (hap1 : Hid (∀ W pa va c', PS w pa ⟨0, 0, 0, []⟩ va c' W → Calls Try.prog 19 #[.pointer (some ⟨pa, 0, none⟩), .slice (some ad) 0 0] W fun e w' => e = .returned (.int .i64 0) ∧ LeftP W pa va ⟨0, X, 0, rs⟩ w'))
    (hap2 : Hid (∀ W pa va c', PS w pa ⟨0, 0, 0, []⟩ va c' W → Calls Try.prog 19 #[.pointer (some ⟨pa, 0, none⟩), .slice (some ad) 0 0] W fun e w' => e = .returned (.int .i64 0) ∧ LeftP W pa va ⟨0, Y, 0, rs.take 0⟩ w'))
    (hap3 : Hid (∀ W pa va c', PS w pa ⟨0, Y, 0, rs.take 0⟩ va c' W → Calls Try.prog 19 #[.pointer (some ⟨pa, 0, none⟩), .slice (some ad) 0 0] W fun e w' => e = .returned (.int .i64 0) ∧ LeftP W pa va ⟨0, X, 0, rs⟩ w')) :
    Calls Try.prog 6 #[.slice (some ad) 0 0, .int .i64 ((0 : Nat) : Int)] w fun e w' => e = .returned (.bool true) ∧ Below w.heap.size w w' := by
  have hnw := Lib.hid (fun W => pnew_any W)
  have hlen : rs.length ≤ 100000 := by rw [hn.out]; omega
  have hsm := Lib.hid (fun (va vb : Option Addr) (ca cb : Nat) W (h1 : RcAt W va rs) (h2 : RcAt W vb rs) => same_recs va vb 0 ca cb rs W h1 h2 hn.out (by omega) (fun r hr => ok_wf (hok.out r hr)))
  replace hlen := Lib.hid hlen
  go_enter Try.func6, Try.ntmps6
  go_wp2_with fail
  refine (hnw.out _).mono ?_
  rintro _ w1 ⟨pa, rfl, hp1, hlo1, hb1⟩
  have s1 : PS w pa ⟨0, 0, 0, []⟩ none 0 w1 := ⟨hp1, hlo1, (fun q ⟨o, e⟩ => by cases e), hb1⟩
  replace s1 := Lib.hid s1
  clear hp1 hlo1 hb1
  go_wp2_with fail
  refine (hnw.out _).mono ?_
  rintro _ w2 ⟨pb, rfl, hp2, hlo2, hb2⟩
  have t2 : PT w pa ⟨0, 0, 0, []⟩ none 0 pb ⟨0, 0, 0, []⟩ none 0 w2 := ⟨s1.out.below hb2, ⟨hp2, Nat.le_trans s1.out.since.size hlo2, (fun q ⟨o, e⟩ => by cases e), grew s1.out.since hb2⟩, fun q h1 h2 => by
    rcases h1 with rfl | ⟨o, e⟩
    · rcases h2 with e | ⟨o, e⟩
      · have := s1.out.at_.obj.lt; omega
      · cases e
    · cases e⟩
  have ap1 := Lib.hid (hap1.out w2 pa none 0 t2.a)
  replace t2 := Lib.hid t2
  clear hp2 hlo2 hb2 s1 hnw hap1
  go_wp2_with fail
  refine ap1.out.mono ?_
  rintro _ w3 ⟨rfl, hl3⟩
  obtain ⟨va3, ca3, t3⟩ := t2.out.left hl3
  have ap2 := Lib.hid (hap2.out w3 pb none 0 t3.b)
  replace t3 := Lib.hid t3
  clear hl3 t2 ap1 hap2
  go_wp2_with fail
  refine ap2.out.mono ?_
  rintro _ w4 ⟨rfl, hl4⟩
  obtain ⟨vb4, cb4, t4⟩ := t3.out.flip.left hl4
  have ap3 := Lib.hid (hap3.out w4 pb vb4 cb4 t4.a)
  replace t4 := Lib.hid t4
  clear hl4 t3 ap2 hap3
  go_wp2_with fail
  refine ap3.out.mono ?_
  rintro _ w5 ⟨rfl, hl5⟩
  obtain ⟨vb5, cb5, t5⟩ := t4.out.left hl5
  have mk1 := Lib.hid (pmark_any t5.b.at_)
  replace t5 := Lib.hid t5
  clear hl5 t4 ap3
  go_wp2_with fail
  refine mk1.out.mono ?_
  rintro _ w6 ⟨rfl, hl6⟩
  obtain ⟨va6, ca6, t6⟩ := t5.out.flip.left hl6
  have mk2 := Lib.hid (pmark_any t6.b.at_)
  replace t6 := Lib.hid t6
  clear hl6 t5 mk1
  go_wp2_with fail
  refine mk2.out.mono ?_
  rintro _ w7 ⟨rfl, hl7⟩
  obtain ⟨vb7, cb7, t7⟩ := t6.out.flip.left hl7
  have al1 := pall_any2 t7.b.at_ hlen.out
  rw [show (Pd.mark ⟨0, X, 0, rs⟩).rs.length = 0 from hn.out] at al1
  replace al1 := Lib.hid al1
  replace t7 := Lib.hid t7
  clear hl7 t6 mk2
  go_wp2_with fail
  refine al1.out.mono ?_
  rintro _ w8 ⟨A8, c8, rfl, hr8, hb8⟩
  have t8 := t7.out.below hb8
  have al2 := pall_any2 t8.a.at_ hlen.out
  rw [show (Pd.mark ⟨0, X, 0, rs⟩).rs.length = 0 from hn.out] at al2
  replace al2 := Lib.hid al2
  replace t8 := Lib.hid t8
  replace hr8 := Lib.hid hr8
  clear hb8 t7 al1
  go_wp2_with fail
  refine al2.out.mono ?_
  rintro _ w9 ⟨A9, c9, rfl, hr9, hb9⟩
  have sm := Lib.hid (hsm.out A8 A9 c8 c9 w9 (hr8.out.below hb9).at_ hr9.at_)
  have t9 := Lib.hid (t8.out.below hb9)
  clear hb9 t8 al2 hr8 hr9 hsm
  go_wp2_with fail
  refine sm.out.mono ?_
  rintro _ w10 ⟨rfl, hb10⟩
  have t10 := t9.out.below hb10
  obtain ⟨a0', a1', a2', a3'⟩ := t10.b.at_.cells
  obtain ⟨b0', b1', b2', b3'⟩ := t10.a.at_.cells
  have n1 := Lib.hid (pnext_any w10 _ a1')
  have n2 := Lib.hid (pnext_any w10 _ b1')
  have m1 := Lib.hid (pseen_any w10 _ a2')
  have m2 := Lib.hid (pseen_any w10 _ b2')
  have by1 := Lib.hid (pbytes_any t10.b.at_ hlen.out hok.out)
  have by2 := Lib.hid (fun W (hb : Below w10.heap.size w10 W) => pbytes_any (t10.a.at_.below hb) hlen.out hok.out)
  replace t10 := Lib.hid t10
  clear hb10 t9 sm a0' a1' a2' a3' b0' b1' b2' b3'
  have ex : (X == X) = true := by simp
  obtain ⟨P, hP⟩ : ∃ P, Hid ((packL rs).length = P) := ⟨_, Lib.hid rfl⟩
  have ep : (P == P) = true := by simp
  have by1' : Hid (Calls Try.prog 25 #[.pointer (some ⟨pa, 0, none⟩)] w10 fun e w' => e = .returned (.int .i64 (P : Int)) ∧ Below w10.heap.size w10 w') := Lib.hid (by rw [← hP.out]; exact by1.out)
  have by2' : Hid (∀ W (hb : Below w10.heap.size w10 W), Calls Try.prog 25 #[.pointer (some ⟨pb, 0, none⟩)] W fun e w' => e = .returned (.int .i64 (P : Int)) ∧ Below W.heap.size W w') := Lib.hid (by rw [← hP.out]; exact by2.out)
  clear by1 by2
  go_wp2_with fail
  refine n1.out.mono ?_
  rintro _ w11 ⟨rfl, rfl⟩
  go_wp2_with fail
  refine n2.out.mono ?_
  rintro _ w11 ⟨rfl, rfl⟩
  go_wp2_with fail
  refine m1.out.mono ?_
  rintro _ w11 ⟨rfl, rfl⟩
  go_wp2_with fail
  refine m2.out.mono ?_
  rintro _ w11 ⟨rfl, rfl⟩
  go_wp2_with fail
  refine by1'.out.mono ?_
  rintro _ w11 ⟨rfl, hb11⟩
  have by3 := Lib.hid (by2'.out w11 hb11)
  have hb12 := Lib.hid (grew t10.out.a.since hb11)
  clear by1' by2' hb11 t10 n1 n2 m1 m2
  go_wp2_with fail
  refine by3.out.mono ?_
  rintro _ w12 ⟨rfl, hb13⟩
  have hb14 := Lib.hid (grew hb12.out hb13)
  clear by3 hb12 hb13
  go_wp2_with fail
  refine (gap_any _).mono ?_
  rintro _ w13 ⟨rfl, hb15⟩
  have hfin := Lib.hid (grew hb14.out hb15)
  clear hb14 hb15
  go_wp2_with fail
  go_ret
  exact ⟨rfl, hfin.out⟩
set_option maxRecDepth 100000 in
set_option maxHeartbeats 4000000 in
theorem wayC (b o k : Nat) (rs : List Rc) (X Y : Int) (w : World) (hk0 : 0 < k) (hcm : k ≤ maxLen) (hwn : IntKind.i64.wrap ((k : Int) - (k : Int)) = ((k - k : Nat) : Int)) (hn : Hid (rs.length = k)) (k4 : ((k : Nat) : Int) ≤ 30) (hok : Hid (∀ r ∈ rs, r.ok))
    (hap1 : Hid (∀ W pa va c', PS w pa ⟨0, 0, 0, []⟩ va c' W → Calls Try.prog 19 #[.pointer (some ⟨pa, 0, none⟩), .slice (some ⟨b, o, none⟩) k k] W fun e w' => e = .returned (.int .i64 0) ∧ LeftP W pa va ⟨0, X, 0, rs⟩ w'))
    (hap2 : Hid (∀ W pa va c', PS w pa ⟨0, 0, 0, []⟩ va c' W → Calls Try.prog 19 #[.pointer (some ⟨pa, 0, none⟩), .slice (some ⟨b, o, none⟩) k k] W fun e w' => e = .returned (.int .i64 0) ∧ LeftP W pa va ⟨0, Y, 0, rs.take k⟩ w'))
    (hap3 : Hid (∀ W pa va c', PS w pa ⟨0, Y, 0, rs.take k⟩ va c' W → Calls Try.prog 19 #[.pointer (some ⟨pa, 0, none⟩), .slice (some ⟨b, o, none⟩) 0 0] W fun e w' => e = .returned (.int .i64 0) ∧ LeftP W pa va ⟨0, X, 0, rs⟩ w')) :
    Calls Try.prog 6 #[.slice (some ⟨b, o, none⟩) k k, .int .i64 ((k : Nat) : Int)] w fun e w' => e = .returned (.bool true) ∧ Below w.heap.size w w' := by
  have hnw := Lib.hid (fun W => pnew_any W)
  have hlen : rs.length ≤ 100000 := by rw [hn.out]; omega
  have hsm := Lib.hid (fun (va vb : Option Addr) (ca cb : Nat) W (h1 : RcAt W va rs) (h2 : RcAt W vb rs) => same_recs va vb k ca cb rs W h1 h2 hn.out (by omega) (fun r hr => ok_wf (hok.out r hr)))
  replace hlen := Lib.hid hlen
  go_enter Try.func6, Try.ntmps6
  go_wp2_with fail
  refine (hnw.out _).mono ?_
  rintro _ w1 ⟨pa, rfl, hp1, hlo1, hb1⟩
  have s1 : PS w pa ⟨0, 0, 0, []⟩ none 0 w1 := ⟨hp1, hlo1, (fun q ⟨o, e⟩ => by cases e), hb1⟩
  replace s1 := Lib.hid s1
  clear hp1 hlo1 hb1
  go_wp2_with fail
  refine (hnw.out _).mono ?_
  rintro _ w2 ⟨pb, rfl, hp2, hlo2, hb2⟩
  have t2 : PT w pa ⟨0, 0, 0, []⟩ none 0 pb ⟨0, 0, 0, []⟩ none 0 w2 := ⟨s1.out.below hb2, ⟨hp2, Nat.le_trans s1.out.since.size hlo2, (fun q ⟨o, e⟩ => by cases e), grew s1.out.since hb2⟩, fun q h1 h2 => by
    rcases h1 with rfl | ⟨o, e⟩
    · rcases h2 with e | ⟨o, e⟩
      · have := s1.out.at_.obj.lt; omega
      · cases e
    · cases e⟩
  have ap1 := Lib.hid (hap1.out w2 pa none 0 t2.a)
  replace t2 := Lib.hid t2
  clear hp2 hlo2 hb2 s1 hnw hap1
  go_wp2_with fail
  refine ap1.out.mono ?_
  rintro _ w3 ⟨rfl, hl3⟩
  obtain ⟨va3, ca3, t3⟩ := t2.out.left hl3
  have ap2 := Lib.hid (hap2.out w3 pb none 0 t3.b)
  replace t3 := Lib.hid t3
  clear hl3 t2 ap1 hap2
  go_wp2_with fail
  refine ap2.out.mono ?_
  rintro _ w4 ⟨rfl, hl4⟩
  obtain ⟨vb4, cb4, t4⟩ := t3.out.flip.left hl4
  have ap3 := Lib.hid (hap3.out w4 pb vb4 cb4 t4.a)
  replace t4 := Lib.hid t4
  clear hl4 t3 ap2 hap3
  go_wp2_with fail
  refine ap3.out.mono ?_
  rintro _ w5 ⟨rfl, hl5⟩
  obtain ⟨vb5, cb5, t5⟩ := t4.out.left hl5
  have mk1 := Lib.hid (pmark_any t5.b.at_)
  replace t5 := Lib.hid t5
  clear hl5 t4 ap3
  go_wp2_with fail
  refine mk1.out.mono ?_
  rintro _ w6 ⟨rfl, hl6⟩
  obtain ⟨va6, ca6, t6⟩ := t5.out.flip.left hl6
  have mk2 := Lib.hid (pmark_any t6.b.at_)
  replace t6 := Lib.hid t6
  clear hl6 t5 mk1
  go_wp2_with fail
  refine mk2.out.mono ?_
  rintro _ w7 ⟨rfl, hl7⟩
  obtain ⟨vb7, cb7, t7⟩ := t6.out.flip.left hl7
  have al1 := pall_any2 t7.b.at_ hlen.out
  rw [show (Pd.mark ⟨0, X, 0, rs⟩).rs.length = k from hn.out] at al1
  replace al1 := Lib.hid al1
  replace t7 := Lib.hid t7
  clear hl7 t6 mk2
  go_wp2_with fail
  refine al1.out.mono ?_
  rintro _ w8 ⟨A8, c8, rfl, hr8, hb8⟩
  have t8 := t7.out.below hb8
  have al2 := pall_any2 t8.a.at_ hlen.out
  rw [show (Pd.mark ⟨0, X, 0, rs⟩).rs.length = k from hn.out] at al2
  replace al2 := Lib.hid al2
  replace t8 := Lib.hid t8
  replace hr8 := Lib.hid hr8
  clear hb8 t7 al1
  go_wp2_with fail
  refine al2.out.mono ?_
  rintro _ w9 ⟨A9, c9, rfl, hr9, hb9⟩
  have sm := Lib.hid (hsm.out A8 A9 c8 c9 w9 (hr8.out.below hb9).at_ hr9.at_)
  have t9 := Lib.hid (t8.out.below hb9)
  clear hb9 t8 al2 hr8 hr9 hsm
  go_wp2_with fail
  refine sm.out.mono ?_
  rintro _ w10 ⟨rfl, hb10⟩
  have t10 := t9.out.below hb10
  obtain ⟨a0', a1', a2', a3'⟩ := t10.b.at_.cells
  obtain ⟨b0', b1', b2', b3'⟩ := t10.a.at_.cells
  have n1 := Lib.hid (pnext_any w10 _ a1')
  have n2 := Lib.hid (pnext_any w10 _ b1')
  have m1 := Lib.hid (pseen_any w10 _ a2')
  have m2 := Lib.hid (pseen_any w10 _ b2')
  have by1 := Lib.hid (pbytes_any t10.b.at_ hlen.out hok.out)
  have by2 := Lib.hid (fun W (hb : Below w10.heap.size w10 W) => pbytes_any (t10.a.at_.below hb) hlen.out hok.out)
  replace t10 := Lib.hid t10
  clear hb10 t9 sm a0' a1' a2' a3' b0' b1' b2' b3'
  have ex : (X == X) = true := by simp
  obtain ⟨P, hP⟩ : ∃ P, Hid ((packL rs).length = P) := ⟨_, Lib.hid rfl⟩
  have ep : (P == P) = true := by simp
  have by1' : Hid (Calls Try.prog 25 #[.pointer (some ⟨pa, 0, none⟩)] w10 fun e w' => e = .returned (.int .i64 (P : Int)) ∧ Below w10.heap.size w10 w') := Lib.hid (by rw [← hP.out]; exact by1.out)
  have by2' : Hid (∀ W (hb : Below w10.heap.size w10 W), Calls Try.prog 25 #[.pointer (some ⟨pb, 0, none⟩)] W fun e w' => e = .returned (.int .i64 (P : Int)) ∧ Below W.heap.size W w') := Lib.hid (by rw [← hP.out]; exact by2.out)
  clear by1 by2
  go_wp2_with fail
  refine n1.out.mono ?_
  rintro _ w11 ⟨rfl, rfl⟩
  go_wp2_with fail
  refine n2.out.mono ?_
  rintro _ w11 ⟨rfl, rfl⟩
  go_wp2_with fail
  refine m1.out.mono ?_
  rintro _ w11 ⟨rfl, rfl⟩
  go_wp2_with fail
  refine m2.out.mono ?_
  rintro _ w11 ⟨rfl, rfl⟩
  go_wp2_with fail
  refine by1'.out.mono ?_
  rintro _ w11 ⟨rfl, hb11⟩
  have by3 := Lib.hid (by2'.out w11 hb11)
  have hb12 := Lib.hid (grew t10.out.a.since hb11)
  clear by1' by2' hb11 t10 n1 n2 m1 m2
  go_wp2_with fail
  refine by3.out.mono ?_
  rintro _ w12 ⟨rfl, hb13⟩
  have hb14 := Lib.hid (grew hb12.out hb13)
  clear by3 hb12 hb13
  go_wp2_with fail
  refine (gap_any _).mono ?_
  rintro _ w13 ⟨rfl, hb15⟩
  have hfin := Lib.hid (grew hb14.out hb15)
  clear hb14 hb15
  go_wp2_with fail
  go_ret
  exact ⟨rfl, hfin.out⟩
set_option maxRecDepth 100000 in
set_option maxHeartbeats 4000000 in
theorem wayD (b o n k c : Nat) (rs : List Rc) (X Y : Int) (w : World) (hkc1 : k < c) (hkc2 : ¬ c = k) (hnc : n ≤ c) (hcm : c ≤ maxLen) (hkn : k ≤ n) (k5 : (k : Int) ≤ (n : Int)) (k6 : (0 : Int) ≤ (k : Int)) (k7 : (k : Int) ≤ (c : Int)) (hwn : IntKind.i64.wrap ((n : Int) - (k : Int)) = ((n - k : Nat) : Int)) (hn : Hid (rs.length = n)) (k4 : ((n : Nat) : Int) ≤ 30) (hok : Hid (∀ r ∈ rs, r.ok))
    (hap1 : Hid (∀ W pa va c', PS w pa ⟨0, 0, 0, []⟩ va c' W → Calls Try.prog 19 #[.pointer (some ⟨pa, 0, none⟩), .slice (some ⟨b, o, none⟩) n c] W fun e w' => e = .returned (.int .i64 0) ∧ LeftP W pa va ⟨0, X, 0, rs⟩ w'))
    (hap2 : Hid (∀ W pa va c', PS w pa ⟨0, 0, 0, []⟩ va c' W → Calls Try.prog 19 #[.pointer (some ⟨pa, 0, none⟩), .slice (some ⟨b, o, none⟩) k c] W fun e w' => e = .returned (.int .i64 0) ∧ LeftP W pa va ⟨0, Y, 0, rs.take k⟩ w'))
    (hap3 : Hid (∀ W pa va c', PS w pa ⟨0, Y, 0, rs.take k⟩ va c' W → Calls Try.prog 19 #[.pointer (some ⟨pa, 0, none⟩), .slice (some ⟨b, o + k * 8, none⟩) (n - k) (c - k)] W fun e w' => e = .returned (.int .i64 0) ∧ LeftP W pa va ⟨0, X, 0, rs⟩ w')) :
    Calls Try.prog 6 #[.slice (some ⟨b, o, none⟩) n c, .int .i64 ((k : Nat) : Int)] w fun e w' => e = .returned (.bool true) ∧ Below w.heap.size w w' := by
  have hnw := Lib.hid (fun W => pnew_any W)
  have hlen : rs.length ≤ 100000 := by rw [hn.out]; omega
  have hsm := Lib.hid (fun (va vb : Option Addr) (ca cb : Nat) W (h1 : RcAt W va rs) (h2 : RcAt W vb rs) => same_recs va vb n ca cb rs W h1 h2 hn.out (by omega) (fun r hr => ok_wf (hok.out r hr)))
  replace hlen := Lib.hid hlen
  go_enter Try.func6, Try.ntmps6
  go_wp2_with fail
  refine (hnw.out _).mono ?_
  rintro _ w1 ⟨pa, rfl, hp1, hlo1, hb1⟩
  have s1 : PS w pa ⟨0, 0, 0, []⟩ none 0 w1 := ⟨hp1, hlo1, (fun q ⟨o, e⟩ => by cases e), hb1⟩
  replace s1 := Lib.hid s1
  clear hp1 hlo1 hb1
  go_wp2_with fail
  refine (hnw.out _).mono ?_
  rintro _ w2 ⟨pb, rfl, hp2, hlo2, hb2⟩
  have t2 : PT w pa ⟨0, 0, 0, []⟩ none 0 pb ⟨0, 0, 0, []⟩ none 0 w2 := ⟨s1.out.below hb2, ⟨hp2, Nat.le_trans s1.out.since.size hlo2, (fun q ⟨o, e⟩ => by cases e), grew s1.out.since hb2⟩, fun q h1 h2 => by
    rcases h1 with rfl | ⟨o, e⟩
    · rcases h2 with e | ⟨o, e⟩
      · have := s1.out.at_.obj.lt; omega
      · cases e
    · cases e⟩
  have ap1 := Lib.hid (hap1.out w2 pa none 0 t2.a)
  replace t2 := Lib.hid t2
  clear hp2 hlo2 hb2 s1 hnw hap1
  go_wp2_with fail
  refine ap1.out.mono ?_
  rintro _ w3 ⟨rfl, hl3⟩
  obtain ⟨va3, ca3, t3⟩ := t2.out.left hl3
  have ap2 := Lib.hid (hap2.out w3 pb none 0 t3.b)
  replace t3 := Lib.hid t3
  clear hl3 t2 ap1 hap2
  go_wp2_with fail
  refine ap2.out.mono ?_
  rintro _ w4 ⟨rfl, hl4⟩
  obtain ⟨vb4, cb4, t4⟩ := t3.out.flip.left hl4
  have ap3 := Lib.hid (hap3.out w4 pb vb4 cb4 t4.a)
  replace t4 := Lib.hid t4
  clear hl4 t3 ap2 hap3
  go_wp2_with fail
  refine ap3.out.mono ?_
  rintro _ w5 ⟨rfl, hl5⟩
  obtain ⟨vb5, cb5, t5⟩ := t4.out.left hl5
  have mk1 := Lib.hid (pmark_any t5.b.at_)
  replace t5 := Lib.hid t5
  clear hl5 t4 ap3
  go_wp2_with fail
  refine mk1.out.mono ?_
  rintro _ w6 ⟨rfl, hl6⟩
  obtain ⟨va6, ca6, t6⟩ := t5.out.flip.left hl6
  have mk2 := Lib.hid (pmark_any t6.b.at_)
  replace t6 := Lib.hid t6
  clear hl6 t5 mk1
  go_wp2_with fail
  refine mk2.out.mono ?_
  rintro _ w7 ⟨rfl, hl7⟩
  obtain ⟨vb7, cb7, t7⟩ := t6.out.flip.left hl7
  have al1 := pall_any2 t7.b.at_ hlen.out
  rw [show (Pd.mark ⟨0, X, 0, rs⟩).rs.length = n from hn.out] at al1
  replace al1 := Lib.hid al1
  replace t7 := Lib.hid t7
  clear hl7 t6 mk2
  go_wp2_with fail
  refine al1.out.mono ?_
  rintro _ w8 ⟨A8, c8, rfl, hr8, hb8⟩
  have t8 := t7.out.below hb8
  have al2 := pall_any2 t8.a.at_ hlen.out
  rw [show (Pd.mark ⟨0, X, 0, rs⟩).rs.length = n from hn.out] at al2
  replace al2 := Lib.hid al2
  replace t8 := Lib.hid t8
  replace hr8 := Lib.hid hr8
  clear hb8 t7 al1
  go_wp2_with fail
  refine al2.out.mono ?_
  rintro _ w9 ⟨A9, c9, rfl, hr9, hb9⟩
  have sm := Lib.hid (hsm.out A8 A9 c8 c9 w9 (hr8.out.below hb9).at_ hr9.at_)
  have t9 := Lib.hid (t8.out.below hb9)
  clear hb9 t8 al2 hr8 hr9 hsm
  go_wp2_with fail
  refine sm.out.mono ?_
  rintro _ w10 ⟨rfl, hb10⟩
  have t10 := t9.out.below hb10
  obtain ⟨a0', a1', a2', a3'⟩ := t10.b.at_.cells
  obtain ⟨b0', b1', b2', b3'⟩ := t10.a.at_.cells
  have n1 := Lib.hid (pnext_any w10 _ a1')
  have n2 := Lib.hid (pnext_any w10 _ b1')
  have m1 := Lib.hid (pseen_any w10 _ a2')
  have m2 := Lib.hid (pseen_any w10 _ b2')
  have by1 := Lib.hid (pbytes_any t10.b.at_ hlen.out hok.out)
  have by2 := Lib.hid (fun W (hb : Below w10.heap.size w10 W) => pbytes_any (t10.a.at_.below hb) hlen.out hok.out)
  replace t10 := Lib.hid t10
  clear hb10 t9 sm a0' a1' a2' a3' b0' b1' b2' b3'
  have ex : (X == X) = true := by simp
  obtain ⟨P, hP⟩ : ∃ P, Hid ((packL rs).length = P) := ⟨_, Lib.hid rfl⟩
  have ep : (P == P) = true := by simp
  have by1' : Hid (Calls Try.prog 25 #[.pointer (some ⟨pa, 0, none⟩)] w10 fun e w' => e = .returned (.int .i64 (P : Int)) ∧ Below w10.heap.size w10 w') := Lib.hid (by rw [← hP.out]; exact by1.out)
  have by2' : Hid (∀ W (hb : Below w10.heap.size w10 W), Calls Try.prog 25 #[.pointer (some ⟨pb, 0, none⟩)] W fun e w' => e = .returned (.int .i64 (P : Int)) ∧ Below W.heap.size W w') := Lib.hid (by rw [← hP.out]; exact by2.out)
  clear by1 by2
  go_wp2_with fail
  refine n1.out.mono ?_
  rintro _ w11 ⟨rfl, rfl⟩
  go_wp2_with fail
  refine n2.out.mono ?_
  rintro _ w11 ⟨rfl, rfl⟩
  go_wp2_with fail
  refine m1.out.mono ?_
  rintro _ w11 ⟨rfl, rfl⟩
  go_wp2_with fail
  refine m2.out.mono ?_
  rintro _ w11 ⟨rfl, rfl⟩
  go_wp2_with fail
  refine by1'.out.mono ?_
  rintro _ w11 ⟨rfl, hb11⟩
  have by3 := Lib.hid (by2'.out w11 hb11)
  have hb12 := Lib.hid (grew t10.out.a.since hb11)
  clear by1' by2' hb11 t10 n1 n2 m1 m2
  go_wp2_with fail
  refine by3.out.mono ?_
  rintro _ w12 ⟨rfl, hb13⟩
  have hb14 := Lib.hid (grew hb12.out hb13)
  clear by3 hb12 hb13
  go_wp2_with fail
  refine (gap_any _).mono ?_
  rintro _ w13 ⟨rfl, hb15⟩
  have hfin := Lib.hid (grew hb14.out hb15)
  clear hb14 hb15
  go_wp2_with fail
  go_ret
  exact ⟨rfl, hfin.out⟩
set_option maxRecDepth 100000 in
set_option maxHeartbeats 4000000 in
theorem walk (a0 : Option Addr) (n c : Nat) (rs : List Rc) (cut : Int) (w : World) (w0 : RcInC w a0 n c rs) (_ : (Lit.int .i64 cut).wf = true) :
    Calls Try.prog 6 #[.slice a0 n c, .int .i64 cut] w fun e w' => e = .returned (.bool true) ∧ Below w.heap.size w w' := by
  obtain ⟨⟨hn, hat, hwf⟩, hnc, hcm, hno, hsp⟩ := w0
  by_cases hl : 30 < n ∨ cut < 0 ∨ (n : Int) < cut
  · clear hat
    rcases (show 30 < n ∨ (n ≤ 30 ∧ cut < 0) ∨ (n ≤ 30 ∧ 0 ≤ cut ∧ (n : Int) < cut) by omega) with k1 | ⟨k1, k2⟩ | ⟨k1, k2, k3⟩
    all_goals first | (have k4 : (30 : Int) < (n : Int) := by omega) | (have k4 : (n : Int) ≤ 30 := by omega)
    all_goals
      clear hl
      go_enter Try.func6, Try.ntmps6
      go_wp2_with fail
      refine (gap_any _).mono ?_
      rintro e w1 ⟨rfl, hb⟩
      replace hb := Lib.hid hb
      go_wp2_with fail
      go_ret
      exact ⟨rfl, hb.out⟩
  · obtain ⟨k, hk⟩ : ∃ k : Nat, cut = (k : Int) := ⟨cut.toNat, by omega⟩
    subst hk
    have hkn : k ≤ n := by omega
    have k4 : (n : Int) ≤ 30 := by omega
    have k5 : (k : Int) ≤ (n : Int) := by omega
    have k6 : (0 : Int) ≤ (k : Int) := by omega
    have k7 : (k : Int) ≤ (c : Int) := by omega
    have hnw := Lib.hid (fun W => pnew_any W)
    clear hl
    by_cases hck : checkP 0 1048577 rs = 0
    · have hparts := check_parts (a := rs.take k) (b := rs.drop k) (by rw [List.take_append_drop]; exact hck)
      have hok := Lib.hid (check_ok hck)
      obtain ⟨X, hX⟩ : ∃ X, Hid (lastN 0 rs = X) := ⟨_, Lib.hid rfl⟩
      obtain ⟨Y, hY⟩ : ∃ Y, Hid (lastN 0 (rs.take k) = Y) := ⟨_, Lib.hid rfl⟩
      have hXY : lastN Y (rs.drop k) = X := by rw [← hY.out, ← lastN_append, List.take_append_drop]; exact hX.out
      rw [hY.out] at hparts
      have hap1 := Lib.hid (fun W pa va c' hp => append_in hat c n hn (by omega) 0 X [] rs hck hX.out rfl (by simp) W pa va c' hp)
      have hap2 := Lib.hid (fun W pa va c' hp => append_in (rcAt_take hat k) c k (by rw [List.length_take]; omega) (by omega) 0 Y [] (rs.take k) hparts.1 hY.out rfl (by simp) W pa va c' hp)
      have hap3' := fun A C (hA : RcAt w A (rs.drop k)) => fun W pa va c' hp => append_in hA C (n - k) (by rw [List.length_drop]; omega) (by omega) Y X (rs.take k) rs hparts.2 hXY (List.take_append_drop _ _) (by rw [List.length_take]; omega) W pa va c' hp
      have hwn : IntKind.i64.wrap ((n : Int) - (k : Int)) = ((n - k : Nat) : Int) := by rw [IntWalk.i64_in _ (by omega)]; omega
      replace hn := Lib.hid hn
      clear hXY hparts hwf
      by_cases hc0 : c = 0
      · subst hc0
        obtain rfl : n = 0 := by omega
        obtain rfl : k = 0 := by omega
        have hap3 := Lib.hid (hap3' a0 0 (by rw [List.drop_zero]; exact hat))
        rcases a0 with _ | ad
        · exact wayA rs X Y w hn k4 hok hap1 hap2 hap3
        · exact wayB ad rs X Y w hn k4 hok hap1 hap2 hap3
      · rcases a0 with _ | ⟨b, o, spot⟩
        · exact absurd (hno rfl) hc0
        · obtain rfl : spot = none := hsp (by omega) _ rfl
          by_cases hkc : k = c
          · obtain rfl : n = k := by omega
            subst hkc
            have hap3 := Lib.hid (hap3' (some ⟨b, o, none⟩) 0 (fun i r hi => by rw [List.drop_eq_nil_of_le (by rw [hn.out]; exact Nat.le_refl _)] at hi; simp at hi))
            rw [Nat.sub_self] at hap3
            exact wayC b o n rs X Y w (by omega) hcm hwn hn k4 hok hap1 hap2 hap3
          · have hap3 := Lib.hid (hap3' (some ⟨b, o + k * 8, none⟩) (c - k) (rcAt_drop hat k))
            exact wayD b o n k c rs X Y w (by omega) (by omega) hnc hcm hkn k5 k6 k7 hwn hn k4 hok hap1 hap2 hap3
    · have hR := hck
      obtain ⟨R, hRR⟩ : ∃ R, Hid (checkP 0 1048577 rs = R) := ⟨_, Lib.hid rfl⟩
      rw [hRR.out] at hR
      have hap : Hid (∀ W pa, PS w pa ⟨0, 0, 0, []⟩ none 0 W → Calls Try.prog 19 #[.pointer (some ⟨pa, 0, none⟩), .slice a0 n c] W fun e w' => e = .returned (.int .i64 R) ∧ Below w.heap.size w w') := Lib.hid (fun W pa hp => by
        have h1 := pappend_any hp.at_ a0 c rs (hat.below hp.since) (by omega) (fun hne q hq hm => by
          have := hp.mine q hm
          obtain ⟨o, e⟩ := hq
          obtain ⟨r, hr⟩ : ∃ r, rs[0]? = some r := ⟨_, List.getElem?_eq_getElem (List.length_pos_iff.2 hne)⟩
          obtain ⟨b, o2, e2, h2, _⟩ := hat 0 r hr
          rw [e] at e2
          cases e2
          omega) (by simp)
        rw [app_no (d := ⟨0, 0, 0, []⟩) hck, hRR.out, hn] at h1
        exact h1.mono fun e w' ⟨r1, r2⟩ => by
          obtain ⟨va', c', h3, _, _⟩ := hp.left r2
          exact ⟨r1, h3.since⟩)
      have k8 : (R != 0) = true := by simp [hR]
      replace hck := Lib.hid hck
      replace hR := Lib.hid hR
      clear hat
      go_enter Try.func6, Try.ntmps6
      go_wp2_with fail
      refine (hnw.out _).mono ?_
      rintro _ w1 ⟨pa, rfl, hp1, hlo1, hb1⟩
      have s1 : PS w pa ⟨0, 0, 0, []⟩ none 0 w1 := ⟨hp1, hlo1, (fun q ⟨o, e⟩ => by cases e), hb1⟩
      replace s1 := Lib.hid s1
      clear hp1 hlo1 hb1
      go_wp2_with fail
      refine (hnw.out _).mono ?_
      rintro _ w2 ⟨pb, rfl, hp2, hlo2, hb2⟩
      have s2 := Lib.hid (s1.out.below hb2)
      clear hp2 hlo2 hb2 s1 hnw
      have hap2 := Lib.hid (hap.out w2 pa s2.out)
      go_wp2_with fail
      refine hap2.out.mono ?_
      rintro _ w3 ⟨rfl, hb3⟩
      replace hb3 := Lib.hid hb3
      clear hap hap2 s2
      go_wp2_with fail
      refine (gap_any _).mono ?_
      rintro e w4 ⟨rfl, hb4⟩
      have hB4 := Lib.hid (grew hb3.out hb4)
      clear hb3 hb4
      go_wp2_with fail
      go_ret
      exact ⟨rfl, hB4.out⟩

theorem own : ownKnob Try.prog.godebug = none := by kernel_rfl
theorem laidOut : laidOutB Try.prog = true := by kernel_rfl

set_option maxRecDepth 100000 in
theorem lifted (os : Os) (started : os.Started) (H : Type) (enc : TypeId × Value → H) :
    ReturnsInHanded {} Try.checked os 6 .any (Rows.partPiecesSpec.pre6 enc Try.prog Try.f6 Rows.partPiecesRow.domain false) (Rows.partPiecesSpec.post enc Try.prog Try.f6 false true false false) := by
  refine returnsInHanded_of_change (C := Try.checked) own started (by kernel_rfl) Try.func6
    (ChangeSpec.witness6 (enc := enc) (C := Try.checked) false ⟨#[], #[.slice none 0 0, .int .i64 0], []⟩ 8 (by kernel_rfl) (by kernel_rfl) (by kernel_rfl) (by kernel_rfl)) ?_
  intro W base args ds gs before hval0 hW hcnd _
  have hval : ∀ (j : Nat) t v, Try.f6.params[j]? = some t → args[j]? = some v → Value.okWide Try.prog W .any base t v := hval0
  have hW' := hW
  obtain ⟨p, q, hA0, hV, rfl, hfz, hnd⟩ := hW
  have hA : DataW.TrodAll enc Try.prog W 0 (fun _ => true) true Try.f6.params.toList args.toList ds p := hA0
  rw [Try.params6] at hA hval
  obtain ⟨v0, vs0, d0, ds0, p0, q0, hargs, rfl, rfl, h0, r0⟩ := trodAll_cons hA
  obtain ⟨v1, vs1, d1, ds1, p1, q1, rfl, rfl, rfl, h1, r1⟩ := trodAll_cons r0
  obtain ⟨rfl, rfl, rfl⟩ := trodAll_nil r1
  obtain rfl : args = #[v0, v1] := by cases args; simp_all
  obtain ⟨rfl, rfl⟩ := trodVars_none hV
  obtain ⟨a0, len0, cap0, rfl⟩ := okWide_slice Try.underlying27 (hval 0 27 v0 rfl rfl)
  have k0 := h0
  have lt0 : ∀ x ∈ p0, x.block < W.heap.size := by obtain ⟨m, hm⟩ := k0; exact DataW.trod_lt m _ _ _ hm
  obtain ⟨fu0, hf0⟩ := h0
  obtain ⟨z0, w0⟩ := Go.Proofs.Ytahljbjgenepaaa.W.open_recsc (show DataW.trod enc Try.prog W 0 (fun _ => true) true fu0 27 [.slice a0 len0 cap0] = some _ from hf0)
  obtain ⟨a1, rfl, rfl, rfl, w1⟩ := open_int Try.underlying3 (hval 1 3 v1 rfl rfl) h1
  clear hA0 hval0
  refine (walk a0 len0 cap0 z0 a1 W w0 w1).mono fun e W' ⟨he, bel⟩ => ?_
  subst he
  exact ⟨_, rfl, _, _, _, [], _, [], hW', trodAll_mk1 (shut_bool Try.underlying4 _), (trodAll_cons_mk (Below.trod laidOut (by kernel_rfl) (of_decide_eq_true (by kernel_rfl)) k0 bel lt0) (trodAll_cons_mk (shut_int Try.underlying3 w1) trodAll_mk0)), rfl, bel.frame _, fun h => by cases h⟩

theorem over : Rows.partPiecesRow.holds Try.pinned (OpenSpec.ofChange Rows.partPiecesSpec) :=
  OpenClaim.holds_of_wide 6 Try.f6 rfl rfl rfl rfl rfl rfl rfl ⟨rfl, rfl, rfl, rfl, rfl⟩ rfl rfl rfl rfl rfl (by kernel_rfl) Try.func6 (by kernel_rfl)
    (of_decide_eq_true (by kernel_rfl)) (by unfold Func.isWrapper; first | (rw [if_pos (by decide +kernel)]; kernel_rfl) | (rw [if_neg (by decide +kernel)]; exact ⟨rfl, rfl⟩))
    (fun os started H enc _ => lifted os started H enc)

/-- The statement. -/
theorem proved : Rows.PartPiecesSaid := over
#print axioms proved

end Go.Proofs.Ytahljbjgenepaaa.partPieces
