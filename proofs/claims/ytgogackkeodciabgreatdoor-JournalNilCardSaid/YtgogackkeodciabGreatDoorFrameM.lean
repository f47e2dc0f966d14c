/- Frames as bytes; nothing of the program. Frames as bytes: what their definition tells; nothing of the program. Decode of Encode is the frame; nothing of the program. -/
import Derived.WalkKit
import Derived.Test.YtgogackkeodciabGreatDoorSum
section
namespace Go.Proofs.YtgogackkeodciabGreatDoor.M
open Go.RowKit
set_option linter.unusedVariables false

/-- What a frame's CRC sums. -/
def sumB (stamp pl : Int) (cnt body : List UInt8) : List UInt8 := fx stamp 4 ++ fx pl 2 ++ cnt ++ body
/-- Its CRC as bytes. -/
def sumF (stamp pl : Int) (cnt body : List UInt8) : List UInt8 := fx (crc 0 (sumB stamp pl cnt body) : Nat) 4
def bodyF (k : Int) (p : List UInt8) : List UInt8 := fx k 1 ++ p
def cntF (p : List UInt8) : List UInt8 := fx ((p.length + 1 : Nat) : Int) 2
def encF (stamp pl k : Int) (p : List UInt8) : List UInt8 := cntF p ++ sumF stamp pl (cntF p) (bodyF k p) ++ bodyF k p

theorem bodyF_len (k : Int) (p : List UInt8) : (bodyF k p).length = 1 + p.length := by simp [bodyF, fx_length]
theorem cntF_len (p : List UInt8) : (cntF p).length = 2 := fx_length _ _
theorem sumF_len (stamp pl : Int) (c b : List UInt8) : (sumF stamp pl c b).length = 4 := fx_length _ _
theorem encF_len (stamp pl k : Int) (p : List UInt8) : (encF stamp pl k p).length = 7 + p.length := by
  unfold encF
  rw [List.length_append, List.length_append, bodyF_len, cntF_len, sumF_len]; omega

/-- The bytes of the first k strings. -/
def cats (ss : List ByteArray) : Nat → List UInt8
  | 0 => []
  | k + 1 => cats ss k ++ (ss.getD k ByteArray.empty).data.toList
theorem fits_small (a n : Int) (h : a / 256 ^ n.toNat = 0) (h1 : 1 ≤ n) (h2 : n ≤ 8) : fitsB a n = true := by unfold fitsB; simp; exact ⟨h1, h2, h⟩

/-- Why a frame is none. -/
def wrongF (pl k : Int) (n : Nat) : Int := if k < 1 ∨ 255 < k ∨ ¬ (1 ≤ pl ∧ pl < 16) then 1 else if 773 < n then 2 else 0
theorem wrongF_arg {pl k : Int} {n : Nat} (h : k < 1 ∨ 255 < k ∨ ¬ (1 ≤ pl ∧ pl < 16)) : wrongF pl k n = 1 := by unfold wrongF; rw [if_pos h]
theorem wrongF_long {pl k : Int} {n : Nat} (h : ¬ (k < 1 ∨ 255 < k ∨ ¬ (1 ≤ pl ∧ pl < 16))) (h2 : 773 < n) : wrongF pl k n = 2 := by unfold wrongF; rw [if_neg h, if_pos h2]
theorem wrongF_no {pl k : Int} {n : Nat} (h : ¬ (k < 1 ∨ 255 < k ∨ ¬ (1 ≤ pl ∧ pl < 16))) (h2 : ¬ 773 < n) : wrongF pl k n = 0 := by unfold wrongF; rw [if_neg h, if_neg h2]
theorem place_no {pl : Int} (h : ¬ (1 ≤ pl ∧ pl < 16)) : (decide (1 ≤ pl) && decide (pl < 16)) = false := by simp; omega
theorem place_yes {pl : Int} (h : 1 ≤ pl ∧ pl < 16) : (decide (1 ≤ pl) && decide (pl < 16)) = true := by simp; omega

/-- What the first two bytes tell. -/
def toldF (s : ByteArray) : Nat := rd (s.extract 0 2).data.toList
/-- The body, of what they tell. -/
def bodyS (s : ByteArray) : ByteArray := s.extract 6 (6 + toldF s)
/-- Why bytes begin with no frame. -/
def decWhy (st pl : Int) (s : ByteArray) : Int :=
  if ¬ (1 ≤ pl ∧ pl < 16) then 1 else if s.size < 2 then 3 else if toldF s = 0 then 6 else if 774 < toldF s then 2 else if s.size < 6 + toldF s then 3
  else if bt s.data.toList 6 = 0 ∨ s.extract 2 6 ≠ B (sumF st pl (s.extract 0 2).data.toList (bodyS s).data.toList) then 4 else 0
/-- The frame, how many bytes, the error. -/
def decK (st pl : Int) (s : ByteArray) : Int := if decWhy st pl s = 0 then (bt s.data.toList 6 : Nat) else 0
def decP (st pl : Int) (s : ByteArray) : ByteArray := if decWhy st pl s = 0 then s.extract 7 (6 + toldF s) else ⟨#[]⟩
def decN (st pl : Int) (s : ByteArray) : Int := if decWhy st pl s = 0 then ((6 + toldF s : Nat) : Int) else 0
theorem decNo {st pl : Int} {s : ByteArray} {x : Int} (h : decWhy st pl s = x) (hx : x ≠ 0) : decK st pl s = 0 ∧ decP st pl s = ⟨#[]⟩ ∧ decN st pl s = 0 := by
  unfold decK decP decN
  rw [h, if_neg hx, if_neg hx, if_neg hx]; exact ⟨rfl, rfl, rfl⟩
theorem decYes {st pl : Int} {s : ByteArray} (h : decWhy st pl s = 0) : decK st pl s = (bt s.data.toList 6 : Nat) ∧ decP st pl s = s.extract 7 (6 + toldF s) ∧ decN st pl s = ((6 + toldF s : Nat) : Int) := by
  unfold decK decP decN
  rw [if_pos h, if_pos h, if_pos h]; exact ⟨rfl, rfl, rfl⟩
theorem toldF_lt (s : ByteArray) : toldF s < 65536 := by
  have h := rd_lt (s.extract 0 2).data.toList
  have h2 : (s.extract 0 2).data.toList.length ≤ 2 := by simp; omega
  unfold toldF
  exact Nat.lt_of_lt_of_le h (Nat.pow_le_pow_right (n := 256) (by omega) h2)
theorem bt_extract (s : ByteArray) (a b i : Nat) (h1 : a + i < b) (h2 : b ≤ s.size) : bt (s.extract a b).data.toList i = bt s.data.toList (a + i) := by
  rw [← bt_of _ i (by simp; omega), ← bt_of _ (a + i) (by omega)]
  simp [ByteArray.getElem_extract]
theorem bytes_ne {a b : ByteArray} (h : a ≠ b) : (a.toList == b.toList) = false := by
  rw [beq_eq_false_iff_ne]
  intro e
  rw [ByteArray.toList_eq, ByteArray.toList_eq] at e
  exact h (ByteArray.ext (Array.toList_inj.1 e))
theorem bytes_eq {a b : ByteArray} (h : a = b) : (a.toList == b.toList) = true := by rw [h, beq_iff_eq]
theorem fx_one (k : Int) (h0 : 0 ≤ k) (h1 : k ≤ 255) : fx k 1 = [UInt8.ofNat k.toNat] := by
  have e : k / 256 ^ 0 % 256 = k := by simp; omega
  show [UInt8.ofNat (k / 256 ^ 0 % 256).toNat] = _
  rw [e]
theorem cntF_of (p : ByteArray) : cntF p.data.toList = fx ((p.size : Int) + 1) 2 := by
  unfold cntF
  rw [show p.data.toList.length = p.size from by simp]; rfl
theorem sum_cat (st pl k : Int) (p : ByteArray) (h0 : 0 ≤ k) (h1 : k ≤ 255) :
    B (fx st 4) ++ B (fx pl 2) ++ B (fx ((p.size : Int) + 1) 2) ++ B [UInt8.ofNat k.toNat] ++ p = B (sumB st pl (cntF p.data.toList) (bodyF k p.data.toList)) := by
  rw [cntF_of]
  generalize hc : fx ((p.size : Int) + 1) 2 = c
  unfold sumB bodyF
  rw [fx_one k h0 h1]
  conv => lhs; rw [← B_of p]
  rw [B_append, B_append, B_append, B_append]
  simp
theorem enc_cat (st pl k : Int) (p : ByteArray) (h0 : 0 ≤ k) (h1 : k ≤ 255) :
    B (fx ((p.size : Int) + 1) 2) ++ B (fx (crc 0 (sumB st pl (cntF p.data.toList) (bodyF k p.data.toList)) : Nat) 4) ++ B [UInt8.ofNat k.toNat] ++ p = B (encF st pl k p.data.toList) := by
  unfold encF sumF
  rw [cntF_of]
  generalize hc : fx ((p.size : Int) + 1) 2 = c
  generalize hq : fx (crc 0 (sumB st pl c (bodyF k p.data.toList)) : Nat) 4 = q
  unfold bodyF
  rw [fx_one k h0 h1]
  conv => lhs; rw [← B_of p]
  rw [B_append, B_append, B_append]
  simp
end Go.Proofs.YtgogackkeodciabGreatDoor.M
end
section
namespace Go.Proofs.YtgogackkeodciabGreatDoor.M
open Go.RowKit
set_option linter.unusedVariables false

theorem two_of {l : List UInt8} (h : l.length = 2) : ∃ a b, l = [a, b] := by
  match l, h with
  | [a, b], _ => exact ⟨a, b, rfl⟩
theorem ext_list (s : ByteArray) (a b : Nat) : (s.extract a b).data.toList = (s.data.toList.drop a).take (b - a) := by
  rw [ByteArray.data_extract, Array.toList_extract, List.extract_eq_drop_take']
  rw [List.drop_take]
theorem fx_two (a b : UInt8) : fx ((256 * a.toNat + b.toNat : Nat) : Int) 2 = [a, b] := by
  have ha := a.toNat_lt
  have hb := b.toNat_lt
  show [UInt8.ofNat (((256 * a.toNat + b.toNat : Nat) : Int) / 256 ^ 1 % 256).toNat, UInt8.ofNat (((256 * a.toNat + b.toNat : Nat) : Int) / 256 ^ 0 % 256).toNat] = _
  have e1 : (((256 * a.toNat + b.toNat : Nat) : Int) / 256 ^ 1 % 256).toNat = a.toNat := by
    rw [show (256 : Int) ^ 1 = 256 from rfl]; omega
  have e2 : (((256 * a.toNat + b.toNat : Nat) : Int) / 256 ^ 0 % 256).toNat = b.toNat := by
    rw [show (256 : Int) ^ 0 = 1 from rfl]; omega
  rw [e1, e2, UInt8.ofNat_toNat, UInt8.ofNat_toNat]
theorem rd_two (a b : UInt8) : rd [a, b] = 256 * a.toNat + b.toNat := by simp [rd]
theorem told_two (s : ByteArray) (h : 2 ≤ s.size) : toldF s = 256 * bt s.data.toList 0 + bt s.data.toList 1 ∧ fx (toldF s : Nat) 2 = (s.extract 0 2).data.toList := by
  have hl : s.data.toList.length = s.size := by simp
  obtain ⟨a, b, hab⟩ := two_of (l := (s.extract 0 2).data.toList) (by simp; omega)
  have e := hab
  rw [ext_list, List.drop_zero] at e
  unfold toldF
  rw [hab, rd_two]
  obtain ⟨x, y, t, hxy⟩ : ∃ x y t, s.data.toList = x :: y :: t := by
    match hs : s.data.toList with
    | [] => rw [hs] at hl; simp at hl; omega
    | [x] => rw [hs] at hl; simp at hl; omega
    | x :: y :: t => exact ⟨x, y, t, rfl⟩
  rw [hxy] at e ⊢
  simp at e
  obtain ⟨rfl, rfl⟩ := e
  exact ⟨by simp [bt], fx_two _ _⟩
/-- What is encoded is what stands there just if the CRC is. -/
theorem enc_same (st pl : Int) (s : ByteArray) (h1 : 1 ≤ toldF s) (h2 : 6 + toldF s ≤ s.size) :
    B (encF st pl (bt s.data.toList 6 : Nat) (s.extract 7 (6 + toldF s)).data.toList) = s.extract 0 (6 + toldF s) ↔ s.extract 2 6 = B (sumF st pl (s.extract 0 2).data.toList (bodyS s).data.toList) := by
  have ht := (told_two s (by omega)).2
  have hlen : s.data.toList.length = s.size := by simp
  have hb6 : bodyF (bt s.data.toList 6 : Nat) (s.extract 7 (6 + toldF s)).data.toList = (bodyS s).data.toList := by
    unfold bodyF bodyS
    rw [fx_one _ (by omega) (by have := bt_lt s.data.toList 6; omega), ext_list, ext_list]
    rw [show 6 + toldF s - 6 = (toldF s - 1) + 1 from by omega, show 6 + toldF s - 7 = toldF s - 1 from by omega]
    rw [List.drop_eq_getElem_cons (i := 6) (by rw [hlen]; omega), List.take_succ_cons]
    have : bt s.data.toList 6 = (s.data.toList[6]'(by rw [hlen]; omega)).toNat := by unfold bt; rw [List.getD, List.getElem?_eq_getElem (by rw [hlen]; omega)]; rfl
    rw [this]
    simp
  have hcnt : cntF (s.extract 7 (6 + toldF s)).data.toList = (s.extract 0 2).data.toList := by
    rw [← ht]
    unfold cntF
    rw [show (s.extract 7 (6 + toldF s)).data.toList.length + 1 = toldF s from by simp; omega]
  unfold encF
  rw [hb6, hcnt]
  generalize hq : sumF st pl (s.extract 0 2).data.toList (bodyS s).data.toList = q
  have hql : q.length = 4 := by rw [← hq]; exact sumF_len _ _ _ _
  have e3 : s.extract 0 (6 + toldF s) = B ((s.extract 0 2).data.toList ++ (s.extract 2 6).data.toList ++ (bodyS s).data.toList) := by
    rw [← B_of (s.extract 0 (6 + toldF s))]
    unfold bodyS
    rw [ext_list, ext_list, ext_list, ext_list, List.drop_zero]
    rw [show 6 + toldF s - 0 = 6 + toldF s from rfl, show 6 + toldF s - 6 = toldF s from by omega, show 2 - 0 = 2 from rfl, show 6 - 2 = 4 from rfl]
    generalize s.data.toList = l
    rw [show 6 + toldF s = 2 + (4 + toldF s) from by omega, List.take_add, List.take_add, List.drop_drop]
    simp
  rw [e3]
  constructor
  · intro h
    have h' : (s.extract 0 2).data.toList ++ q ++ (bodyS s).data.toList = (s.extract 0 2).data.toList ++ (s.extract 2 6).data.toList ++ (bodyS s).data.toList := by
      have := congrArg (fun b : ByteArray => b.data.toList) h
      simpa [B_data] using this
    rw [List.append_cancel_right_eq, List.append_cancel_left_eq] at h'
    rw [h', B_of]
  · intro h
    have h' : (s.extract 2 6).data.toList = q := by rw [h, B_data]
    rw [h']
end Go.Proofs.YtgogackkeodciabGreatDoor.M
end
section
namespace Go.Proofs.YtgogackkeodciabGreatDoor.M
open Go.RowKit
set_option linter.unusedVariables false

theorem ext_at (a b c m : List UInt8) (i j : Nat) (hi : i = a.length) (hj : j = a.length + b.length) (s : ByteArray) (hs : s = B (a ++ b ++ c ++ m)) : s.extract i j = B b := by
  rw [← B_of (s.extract i j), ext_list, hs, B_data, hi, hj]
  simp
theorem rd_cnt (p : List UInt8) (h : p.length < 65535) : rd (cntF p) = p.length + 1 := by
  unfold cntF
  generalize hn : p.length + 1 = n
  have hn2 : n < 65536 := by omega
  have e : (n : Int) = ((256 * (UInt8.ofNat (n / 256)).toNat + (UInt8.ofNat (n % 256)).toNat : Nat) : Int) := by
    rw [UInt8.toNat_ofNat', UInt8.toNat_ofNat']; omega
  rw [e, fx_two, rd_two, UInt8.toNat_ofNat', UInt8.toNat_ofNat']; omega
theorem dec_enc (st pl k : Int) (p m : ByteArray) (k1 : 1 ≤ k) (k2 : k ≤ 255) (h3 : 1 ≤ pl ∧ pl < 16) (hp : p.size ≤ 773) :
    decWhy st pl (B (encF st pl k p.data.toList) ++ m) = 0 ∧ decK st pl (B (encF st pl k p.data.toList) ++ m) = k ∧ decP st pl (B (encF st pl k p.data.toList) ++ m) = p ∧ decN st pl (B (encF st pl k p.data.toList) ++ m) = ((7 + p.size : Nat) : Int) := by
  have hlen : p.data.toList.length = p.size := by simp
  obtain ⟨s, hs⟩ : ∃ s, B (encF st pl k p.data.toList) ++ m = s := ⟨_, rfl⟩
  rw [hs]
  have hc := cntF_len p.data.toList
  have hq := sumF_len st pl (cntF p.data.toList) (bodyF k p.data.toList)
  have hb := bodyF_len k p.data.toList
  have hsl : s = B (encF st pl k p.data.toList ++ m.data.toList) := by rw [← hs, ← B_append, B_of]
  have hz : s.size = 7 + p.size + m.size := by rw [hsl, B_size, List.length_append, encF_len, hlen]; simp
  have hs1 : s = B (cntF p.data.toList ++ sumF st pl (cntF p.data.toList) (bodyF k p.data.toList) ++ bodyF k p.data.toList ++ m.data.toList) := hsl
  have e02 : s.extract 0 2 = B (cntF p.data.toList) :=
    ext_at [] (cntF p.data.toList) (sumF st pl (cntF p.data.toList) (bodyF k p.data.toList) ++ bodyF k p.data.toList) m.data.toList 0 2 rfl (by simp [hc]) s (by rw [hs1]; simp)
  have e26 : s.extract 2 6 = B (sumF st pl (cntF p.data.toList) (bodyF k p.data.toList)) :=
    ext_at (cntF p.data.toList) _ (bodyF k p.data.toList) m.data.toList 2 6 (by rw [hc]) (by rw [hc, hq]) s hs1
  have ht : toldF s = p.size + 1 := by unfold toldF; rw [e02, B_data, rd_cnt _ (by omega), hlen]
  have e6 : s.extract 6 (6 + toldF s) = B (bodyF k p.data.toList) :=
    ext_at (cntF p.data.toList ++ sumF st pl (cntF p.data.toList) (bodyF k p.data.toList)) _ [] m.data.toList 6 _ (by rw [List.length_append, hc, hq]) (by rw [List.length_append, hc, hq, hb, ht, hlen]; omega) s (by rw [hs1]; simp)
  have hbf : bodyF k p.data.toList = [UInt8.ofNat k.toNat] ++ p.data.toList := by unfold bodyF; rw [fx_one k (by omega) k2]
  have e7 : s.extract 7 (6 + toldF s) = B p.data.toList :=
    ext_at (cntF p.data.toList ++ sumF st pl (cntF p.data.toList) (bodyF k p.data.toList) ++ [UInt8.ofNat k.toNat]) _ [] m.data.toList 7 _ (by rw [List.length_append, List.length_append, hc, hq]; rfl) (by rw [List.length_append, List.length_append, hc, hq, ht, hlen]; simp; omega) s (by rw [hs1, hbf]; simp)
  have hk6 : bt s.data.toList 6 = k.toNat := by
    have h1 := bt_extract s 6 (6 + toldF s) 0 (by omega) (by omega)
    rw [← h1, e6, B_data, hbf]
    simp [bt]; omega
  have hw : decWhy st pl s = 0 := by
    unfold decWhy bodyS
    rw [if_neg (by omega), if_neg (by omega), if_neg (by omega), if_neg (by omega), if_neg (by omega), e02, e26, e6, B_data, B_data, if_neg]
    rintro (h | h)
    · omega
    · exact h rfl
  obtain ⟨d1, d2, d3⟩ := decYes hw
  refine ⟨hw, ?_, ?_, ?_⟩
  · rw [d1, hk6]; omega
  · rw [d2, e7, B_of]
  · rw [d3, ht]; omega
end Go.Proofs.YtgogackkeodciabGreatDoor.M
end
