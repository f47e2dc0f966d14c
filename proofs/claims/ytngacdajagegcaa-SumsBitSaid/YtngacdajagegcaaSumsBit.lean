/- For every beginning, every string and every int the law SumsBit returns true: of two texts that differ in one bit alone the CRCs are unlike. No condition. -/
import Derived.Test.YtngacdajagegcaaRows
import Derived.Test.YtngacdajagegcaaSums
import Derived.Test.YtngacdajagegcaaOpen
import Derived.Test.YtngacdajagegcaaBytes
import Derived.BigRegion
import Derived.ChangeOld
import Derived.ShutString
namespace Go.Proofs.Ytngacdajagegcaa.sumsBit
open Go.ChangeShapes Go.WideShapes Go.ChangeAt Go.RowKit
open Go.ChangeMaps (open_string shut_string)
open Go.Proofs.Ytngacdajagegcaa.M Go.Proofs.Ytngacdajagegcaa.W
set_option linter.unusedVariables false

theorem crc_ne (b : Nat) (x y : List UInt8) (hb : b < 4294967296) (h : reg (ones - b) x ≠ reg (ones - b) y) : crc b x ≠ crc b y := by
  have h1 := reg_lt x (ones - b) (by unfold ones; omega)
  have h2 := reg_lt y (ones - b) (by unfold ones; omega)
  unfold crc ones at *; omega
theorem crc_set_ne (b : Nat) (hb : b < 4294967296) (l : List UInt8) (j : Nat) (hj : j < l.length) (d : Nat) (hd : d < 256) (hne : d ≠ bt l j) :
    crc b (l.set j (UInt8.ofNat d)) ≠ crc b l := by
  apply crc_ne b _ _ hb
  have e1 : l = l.take j ++ l[j] :: l.drop (j + 1) := by
    rw [← List.drop_eq_getElem_cons hj, List.take_append_drop]
  have e2 : l.set j (UInt8.ofNat d) = l.take j ++ UInt8.ofNat d :: l.drop (j + 1) := List.set_eq_take_append_cons_drop ▸ (by rw [if_pos hj])
  have hbt : bt l j = l[j].toNat := by unfold bt; rw [List.getD, List.getElem?_eq_getElem hj]; rfl
  have hr := reg_lt (l.take j) (ones - b) (by unfold ones; omega)
  intro h
  rw [e2, reg_append] at h
  have h' : reg (ones - b) l = reg (reg (ones - b) (l.take j)) (l[j] :: l.drop (j + 1)) := by rw [← reg_append, ← e1]
  rw [h'] at h
  generalize reg (ones - b) (l.take j) = R at *
  generalize l.drop (j + 1) = post at *
  have hc : (UInt8.ofNat d).toNat = d := by rw [UInt8.toNat_ofNat']; omega
  have s1 : reg R (UInt8.ofNat d :: post) = reg (its 8 (R ^^^ d)) post := by show reg (its 8 (R ^^^ (UInt8.ofNat d).toNat)) post = _; rw [hc]
  have s2 : reg R (l[j] :: post) = reg (its 8 (R ^^^ bt l j)) post := by rw [hbt]; rfl
  rw [s1, s2] at h
  have hx : R ^^^ d = (R ^^^ bt l j) ^^^ (bt l j ^^^ d) := by
    rw [Nat.xor_assoc, ← Nat.xor_assoc (bt l j), Nat.xor_self, Nat.zero_xor]
  rw [hx, its_xor, reg_xor] at h
  have hbl := bt_lt l j
  have hq : bt l j ^^^ d < 4294967296 := xor_lt32 _ _ (by omega) (by omega)
  have hq0 : bt l j ^^^ d ≠ 0 := by
    intro h0
    apply hne
    have : bt l j ^^^ (bt l j ^^^ d) = bt l j := by rw [h0, Nat.xor_zero]
    rw [← Nat.xor_assoc, Nat.xor_self, Nat.zero_xor] at this
    exact this
  have hg := goOn_ne post.length _ (its_lt 8 _ hq) (its_ne 8 _ hq hq0)
  generalize goOn post.length (its 8 (bt l j ^^^ d)) = g at *
  generalize reg (its 8 (R ^^^ bt l j)) post = r at *
  apply hg
  have : r ^^^ (r ^^^ g) = 0 := by rw [h, Nat.xor_self]
  rw [← Nat.xor_assoc, Nat.xor_self, Nat.zero_xor] at this
  exact this

set_option maxRecDepth 100000 in
set_option maxHeartbeats 1000000 in
theorem walk (a0 : Int) (a1 : ByteArray) (a2 : Int) (w : World) (w0 : (Lit.int .u32 a0).wf = true) (v1 : a1.size ≤ maxLen) (w2 : (Lit.int .i64 a2).wf = true) :
    Calls Try.prog 11 #[.int .u32 a0, .string a1, .int .i64 a2] w fun e w' => e = .returned (.bool true) ∧ Below w.heap.size w w' := by
  obtain ⟨l0, l1⟩ := bounds_u32 w0
  obtain ⟨m0, m1⟩ := bounds_i64 w2
  obtain ⟨b, rfl⟩ := Int.eq_ofNat_of_zero_le l0
  unfold maxLen at v1
  have hb : b < 4294967296 := by omega
  have hcase : (1000 < a1.size ∨ a2 < 0 ∨ 8 * (a1.size : Int) ≤ a2) ∨ (a1.size ≤ 1000 ∧ 0 ≤ a2 ∧ a2 < 8 * (a1.size : Int)) := by omega
  rcases hcase with hc | ⟨h3, h0, h8⟩
  · rcases hc with hc | hc | hc
    all_goals
      go_enter Try.func11, Try.ntmps11
      go_wp2_with (go_at_call 37; refine (nine_any _).mono ?_; rintro e w1 ⟨rfl, rfl⟩)
      all_goals go_ret
      all_goals exact ⟨rfl, Below.refl _ _⟩
  · have kb := fun wx : World => run_bytes_of_string (P := Try.prog) wx 9 62 5 a1 Try.underlying9 Try.underlying62 Try.underlying5
    go_enter Try.func11, Try.ntmps11
    go_wp2_with fail
    clear kb
    have hrow : ByteRow (w.alloc (.cells (bytesRow a1 (grownCap w a1.size 0 5)) 5 ((bytesRow a1 (grownCap w a1.size 0 5)).size, (bytesRow a1 (grownCap w a1.size 0 5)).size + 1))).drew w.heap.size a1.data.toList := ByteRow.made w a1 (grownCap w a1.size 0 5) 5
    have hbel : Below w.heap.size w (w.alloc (.cells (bytesRow a1 (grownCap w a1.size 0 5)) 5 ((bytesRow a1 (grownCap w a1.size 0 5)).size, (bytesRow a1 (grownCap w a1.size 0 5)).size + 1))).drew := ((Below.refl _ w).alloc (Nat.le_refl _) _).drew
    generalize (w.alloc (.cells (bytesRow a1 (grownCap w a1.size 0 5)) 5 ((bytesRow a1 (grownCap w a1.size 0 5)).size, (bytesRow a1 (grownCap w a1.size 0 5)).size + 1))).drew = w1 at hrow hbel ⊢
    generalize grownCap w a1.size 0 5 = cap
    obtain ⟨n, rfl⟩ := Int.eq_ofNat_of_zero_le h0
    have hlen : a1.data.toList.length = a1.size := by simp
    have hj : n / 8 < a1.size := by omega
    obtain ⟨hc, hf⟩ := hrow (n / 8) (by rw [hlen]; exact hj)
    have hbt := bt_lt a1.data.toList (n / 8)
    have hp : (2 : Nat) ^ (n % 8) < 256 := by
      have := Nat.pow_le_pow_right (n := 2) (by omega) (show n % 8 ≤ 7 from by omega)
      omega
    have hp1 : 1 ≤ (2 : Nat) ^ (n % 8) := Nat.one_le_two_pow
    have hX : bits BinOp.xor IntKind.u8 ((bt a1.data.toList (n / 8) : Nat) : Int) (2 ^ (n % 8) % 256) = ((bt a1.data.toList (n / 8) ^^^ 2 ^ (n % 8) : Nat) : Int) := by
      rw [← two_pow_cast, show ((2 ^ (n % 8) : Nat) : Int) % 256 = ((2 ^ (n % 8) : Nat) : Int) from by omega]
      exact u8_xor_nat _ _ hbt hp
    have hd : bt a1.data.toList (n / 8) ^^^ 2 ^ (n % 8) < 256 := Nat.xor_lt_two_pow (n := 8) hbt hp
    have hne := Lib.hid (crc_set_ne b hb a1.data.toList (n / 8) (by rw [hlen]; exact hj) (bt a1.data.toList (n / 8) ^^^ 2 ^ (n % 8)) hd (by
      intro he
      have h2 : bt a1.data.toList (n / 8) ^^^ (bt a1.data.toList (n / 8) ^^^ 2 ^ (n % 8)) = 0 := by rw [he, Nat.xor_self]
      rw [← Nat.xor_assoc, Nat.xor_self, Nat.zero_xor] at h2
      omega))
    generalize bt a1.data.toList (n / 8) ^^^ 2 ^ (n % 8) = dd at hX hd hne
    replace hlen := Lib.hid hlen
    replace hrow := Lib.hid hrow
    clear hp hp1
    go_region
    have hrow2 := (hrow.out.set (n / 8) (by rw [hlen.out]; exact hj) (dd : Int) (by omega) (by omega)).drew
    have hbel2 := (hbel.setCell (p := ⟨w.heap.size, n / 8, none⟩) (Nat.le_refl _) (.int .u8 (dd : Int))).drew
    rw [Int.toNat_natCast] at hrow2
    clear hX hc hf
    generalize (w1.setCell ⟨w.heap.size, n / 8, none⟩ (.int .u8 (dd : Int))).drew = w3 at hrow2 hbel2 ⊢
    have hcv := hrow2.back (P := Try.prog) 62 9 5 cap a1.size (by rw [List.length_set, hlen.out]) Try.underlying62 Try.underlying5 Try.underlying9
    have hz : (B (a1.data.toList.set (n / 8) (UInt8.ofNat dd))).size ≤ 1000 := by rw [B_size, List.length_set, hlen.out]; exact h3
    replace hrow2 := Lib.hid hrow2
    have hnb : (((crc b (a1.data.toList.set (n / 8) (UInt8.ofNat dd)) : Nat) : Int) != ((crc b a1.data.toList : Nat) : Int)) = true := by
      have := hne.out
      rw [bne_iff_ne]; omega
    go_wp2_with fail
    refine (crc_any b _ _ hb (by omega)).mono ?_
    rintro e w4 ⟨rfl, rfl⟩
    rw [B_data]
    go_wp2_with fail
    refine (crc_any b a1 _ hb (by omega)).mono ?_
    rintro e w4 ⟨rfl, rfl⟩
    go_wp2_with fail
    refine (nine_any _).mono ?_
    rintro e w4 ⟨rfl, rfl⟩
    go_wp2_with fail
    go_ret
    exact ⟨rfl, hbel2⟩

theorem own : ownKnob Try.prog.godebug = none := by kernel_rfl
theorem laidOut : laidOutB Try.prog = true := by kernel_rfl

set_option maxRecDepth 100000 in
theorem lifted (os : Os) (started : os.Started) (H : Type) (enc : TypeId × Value → H) :
    ReturnsInHanded {} Try.checked os 11 .any (Rows.sumsBitSpec.pre6 enc Try.prog Try.f11 Rows.sumsBitRow.domain false) (Rows.sumsBitSpec.post enc Try.prog Try.f11 false true false false) := by
  refine returnsInHanded_of_change (C := Try.checked) own started (by kernel_rfl) Try.func11
    (ChangeSpec.witness6 (enc := enc) (C := Try.checked) false ⟨#[], #[.int .u32 0, .string ByteArray.empty, .int .i64 0], []⟩ 8 (by kernel_rfl) (by kernel_rfl) (by kernel_rfl) (by kernel_rfl)) ?_
  intro W base args ds gs before hval0 hW hcnd _
  have hval : ∀ (j : Nat) t v, Try.f11.params[j]? = some t → args[j]? = some v → Value.okWide Try.prog W .any base t v := hval0
  have hW' := hW
  obtain ⟨p, q, hA0, hV, rfl, hfz, hnd⟩ := hW
  have hA : DataW.TrodAll enc Try.prog W 0 (fun _ => true) true Try.f11.params.toList args.toList ds p := hA0
  rw [Try.params11] at hA hval
  obtain ⟨v0, vs0, d0, ds0, p0, q0, hargs, rfl, rfl, h0, r0⟩ := trodAll_cons hA
  obtain ⟨v1, vs1, d1, ds1, p1, q1, rfl, rfl, rfl, h1, r1⟩ := trodAll_cons r0
  obtain ⟨v2, vs2, d2, ds2, p2, q2, rfl, rfl, rfl, h2, r2⟩ := trodAll_cons r1
  obtain ⟨rfl, rfl, rfl⟩ := trodAll_nil r2
  obtain rfl : args = #[v0, v1, v2] := by cases args; simp_all
  obtain ⟨rfl, rfl⟩ := trodVars_none hV
  obtain ⟨a0, rfl, rfl, rfl, w0⟩ := open_int Try.underlying53 (hval 0 53 v0 rfl rfl) h0
  obtain ⟨a1, rfl, rfl, rfl, w1⟩ := open_string Try.underlying9 (hval 1 9 v1 rfl rfl) h1
  obtain ⟨a2, rfl, rfl, rfl, w2⟩ := open_int Try.underlying3 (hval 2 3 v2 rfl rfl) h2
  clear hA0 hval0
  refine (walk a0 a1 a2 W w0 w1 w2).mono fun e W' ⟨he, bel⟩ => ?_
  subst he
  exact ⟨_, rfl, _, _, _, [], [], [], hW', trodAll_mk1 (shut_bool Try.underlying4 _), (trodAll_cons_mk (shut_int Try.underlying53 w0) (trodAll_cons_mk (shut_string Try.underlying9 w1) (trodAll_cons_mk (shut_int Try.underlying3 w2) trodAll_mk0))), rfl, bel.frame _, fun h => by cases h⟩

theorem over : Rows.sumsBitRow.holds Try.pinned (OpenSpec.ofChange Rows.sumsBitSpec) :=
  OpenClaim.holds_of_wide 11 Try.f11 rfl rfl rfl rfl rfl rfl rfl ⟨rfl, rfl, rfl, rfl, rfl⟩ rfl rfl rfl rfl rfl (by kernel_rfl) Try.func11 (by kernel_rfl)
    (of_decide_eq_true (by kernel_rfl)) (by unfold Func.isWrapper; first | (rw [if_pos (by decide +kernel)]; kernel_rfl) | (rw [if_neg (by decide +kernel)]; exact ⟨rfl, rfl⟩))
    (fun os started H enc _ => lifted os started H enc)

/-- The statement. -/
theorem proved : Rows.SumsBitSaid := over
#print axioms proved

end Go.Proofs.Ytngacdajagegcaa.sumsBit
