/- Sealed sectors as bytes; nothing of the program. Seals as numbers, sealed sectors as cells; nothing of the program. -/
import Derived.WalkKit
import Derived.Test.YtgogackkeodciabGreatDoorFrameM
import Derived.Test.YtgogackkeodciabGreatDoorSum
import Derived.Test.YtgogackkeodciabGreatDoorFlat
section
namespace Go.Proofs.YtgogackkeodciabGreatDoor.M
open Go.RowKit
set_option linter.unusedVariables false

theorem rd_go (l : List UInt8) : ∀ v : Nat, l.foldl (fun v b => 256 * v + b.toNat) v = v * 256 ^ l.length + rd l := by
  induction l with
  | nil => intro v; simp [rd]
  | cons b l ih =>
    intro v
    have h0 := ih (256 * 0 + b.toNat)
    unfold rd
    rw [List.foldl_cons, List.foldl_cons, ih, h0, List.length_cons, Nat.pow_succ]
    rw [Nat.add_mul, Nat.mul_zero, Nat.zero_add, Nat.mul_comm 256 v, Nat.mul_assoc, Nat.mul_comm 256, Nat.add_assoc]
theorem rd_cons (b : UInt8) (l : List UInt8) : rd (b :: l) = b.toNat * 256 ^ l.length + rd l := by
  have := rd_go l (256 * 0 + b.toNat)
  unfold rd
  rw [List.foldl_cons, this]
  simp [rd]
theorem div_part (b r n i : Nat) (h : i < n) : (b * 256 ^ n + r) / 256 ^ i % 256 = r / 256 ^ i % 256 := by
  have hp : 0 < 256 ^ i := Nat.pow_pos (by decide)
  have e : b * 256 ^ n = 256 ^ i * (256 * (b * 256 ^ (n - i - 1))) := by
    have : 256 ^ n = 256 ^ i * (256 * 256 ^ (n - i - 1)) := by
      rw [← Nat.pow_succ', ← Nat.pow_add]
      congr 1; omega
    rw [this, Nat.mul_left_comm, Nat.mul_left_comm b]
  rw [e, Nat.mul_add_div hp, Nat.mul_add_mod]
theorem fx_add (b r n : Nat) : fx ((b * 256 ^ n + r : Nat) : Int) n = fx (r : Int) n := by
  apply List.ext_getElem?
  intro j
  by_cases h : j < n
  · rw [fx_get _ _ _ h, fx_get _ _ _ h]
    have e : ∀ x : Nat, (((x : Nat) : Int) / 256 ^ (n - 1 - j) % 256).toNat = x / 256 ^ (n - 1 - j) % 256 := fun x => by
      have hc : ((256 ^ (n - 1 - j) : Nat) : Int) = (256 : Int) ^ (n - 1 - j) := Int.natCast_pow 256 _
      rw [← hc, ← Int.natCast_ediv]
      omega
    rw [e, e, div_part _ _ _ _ (by omega)]
  · rw [List.getElem?_eq_none (by rw [fx_length]; omega), List.getElem?_eq_none (by rw [fx_length]; omega)]
/-- The bytes of the number of bytes. -/
theorem fx_rd (l : List UInt8) : fx (rd l : Nat) l.length = l := by
  induction l with
  | nil => rfl
  | cons b l ih =>
    have hl := rd_lt l
    have hp : 0 < 256 ^ l.length := Nat.pow_pos (by decide)
    have hb := b.toNat_lt
    rw [rd_cons, List.length_cons]
    show UInt8.ofNat (((b.toNat * 256 ^ l.length + rd l : Nat) : Int) / 256 ^ l.length % 256).toNat :: fx ((b.toNat * 256 ^ l.length + rd l : Nat) : Int) l.length = b :: l
    rw [fx_add, ih]
    have hc : ((256 ^ l.length : Nat) : Int) = (256 : Int) ^ l.length := Int.natCast_pow 256 _
    have e : (((b.toNat * 256 ^ l.length + rd l : Nat) : Int) / 256 ^ l.length % 256).toNat = b.toNat := by
      rw [← hc, ← Int.natCast_ediv, Nat.mul_comm, Nat.mul_add_div hp, Nat.div_eq_of_lt hl]
      omega
    rw [e, UInt8.ofNat_toNat]
theorem rd_fx_nat (a n : Nat) (h : a < 256 ^ n) : rd (fx (a : Int) n) = a := by
  have h1 := rd_fx (a : Int) n (by omega)
  have hc : ((256 ^ n : Nat) : Int) = (256 : Int) ^ n := Int.natCast_pow 256 n
  rw [← hc, Int.emod_eq_of_lt (by omega) (Int.ofNat_lt.2 h)] at h1
  omega

/-- A seal, and a sealed sector. -/
def sealB (st c : Nat) : List UInt8 := fx (st : Int) 4 ++ fx (c : Int) 2
def sealL (st c : Nat) (data : List UInt8) : List UInt8 := sealB st c ++ data ++ sealB st c
theorem sealB_len (st c : Nat) : (sealB st c).length = 6 := by simp [sealB, fx_length]
theorem sealL_len (st c : Nat) (data : List UInt8) : (sealL st c data).length = 12 + data.length := by
  unfold sealL; rw [List.length_append, List.length_append, sealB_len]; omega
theorem sealB_inj {st c st' c' : Nat} (h1 : st < 4294967296) (h2 : c < 65536) (h3 : st' < 4294967296) (h4 : c' < 65536) (h : sealB st c = sealB st' c') : st = st' ∧ c = c' := by
  unfold sealB at h
  have h5 := List.append_inj h (by rw [fx_length, fx_length])
  exact ⟨fx_inj 4 h1 h3 h5.1, fx_inj 2 h2 h4 h5.2⟩
/-- What bytes tell: the stamp, the count. -/
def stampS (s : ByteArray) : Nat := rd (s.extract 0 4).data.toList
def countS (s : ByteArray) : Nat := rd (s.extract 4 6).data.toList
/-- Do they open? -/
def opensS (s : ByteArray) : Prop := s.size = 64 ∧ countS s ≠ 0 ∧ s.extract 58 64 = s.extract 0 6
theorem stampS_lt (s : ByteArray) : stampS s < 4294967296 := by
  have h := rd_lt (s.extract 0 4).data.toList
  have h2 : (s.extract 0 4).data.toList.length ≤ 4 := by simp; omega
  exact Nat.lt_of_lt_of_le h (Nat.pow_le_pow_right (n := 256) (by omega) h2)
theorem countS_lt (s : ByteArray) : countS s < 65536 := by
  have h := rd_lt (s.extract 4 6).data.toList
  have h2 : (s.extract 4 6).data.toList.length ≤ 2 := by simp; omega
  exact Nat.lt_of_lt_of_le h (Nat.pow_le_pow_right (n := 256) (by omega) h2)
theorem first_six (s : ByteArray) (h : 6 ≤ s.size) : sealB (stampS s) (countS s) = (s.extract 0 6).data.toList := by
  have e1 := fx_rd (s.extract 0 4).data.toList
  have e2 := fx_rd (s.extract 4 6).data.toList
  rw [show (s.extract 0 4).data.toList.length = 4 from by simp; omega] at e1
  rw [show (s.extract 4 6).data.toList.length = 2 from by simp; omega] at e2
  unfold sealB stampS countS
  rw [e1, e2, ext_list, ext_list, ext_list, List.drop_zero]
  rw [show 6 - 0 = 4 + 2 from rfl, show 4 - 0 = 4 from rfl, show 6 - 4 = 2 from rfl, List.take_add]
/-- Bytes in three pieces. -/
theorem three_parts (s : ByteArray) (h : s.size = 64) : s = B ((s.extract 0 6).data.toList ++ (s.extract 6 58).data.toList ++ (s.extract 58 64).data.toList) := by
  have hl : s.data.toList.length = 64 := by simpa using h
  rw [ext_list, ext_list, ext_list, List.drop_zero]
  conv => lhs; rw [← B_of s]
  congr 1
  have e1 := List.take_append_drop 58 s.data.toList
  have e2 : (s.data.toList.drop 58).take (64 - 58) = s.data.toList.drop 58 := List.take_of_length_le (by simp; omega)
  have e3 : s.data.toList.take (6 - 0) ++ (s.data.toList.drop 6).take (58 - 6) = s.data.toList.take 58 := (List.take_add (l := s.data.toList) (i := 6) (j := 52)).symm
  rw [e2, e3, e1]
/-- What its definition tells: it opens just if it is what is sealed by what it tells. -/
theorem seal_same (s : ByteArray) (h : s.size = 64) : B (sealL (stampS s) (countS s) (s.extract 6 58).data.toList) = s ↔ s.extract 58 64 = s.extract 0 6 := by
  unfold sealL
  rw [first_six s (by omega)]
  constructor
  · intro e
    have e2 := three_parts s h
    rw [← e] at e2
    conv at e2 => rhs; rw [e]
    have e3 : (s.extract 0 6).data.toList ++ (s.extract 6 58).data.toList ++ (s.extract 0 6).data.toList = (s.extract 0 6).data.toList ++ (s.extract 6 58).data.toList ++ (s.extract 58 64).data.toList := by
      have := congrArg (fun b : ByteArray => b.data.toList) e2
      simpa [B_data] using this
    have e4 := List.append_cancel_left e3
    rw [← B_of (s.extract 58 64), ← e4, B_of]
  · intro e
    conv => rhs; rw [three_parts s h]
    rw [e]
/-- Open of Seal tells what was sealed. -/
theorem open_seal (st c : Nat) (data : List UInt8) (h1 : st < 4294967296) (h2 : 1 ≤ c) (h3 : c < 65536) (hd : data.length = 52) :
    opensS (B (sealL st c data)) ∧ stampS (B (sealL st c data)) = st ∧ countS (B (sealL st c data)) = c ∧ (B (sealL st c data)).extract 6 58 = B data := by
  obtain ⟨s, hs⟩ : ∃ s, B (sealL st c data) = s := ⟨_, rfl⟩
  rw [hs]
  have hb := sealB_len st c
  have hz : s.size = 64 := by rw [← hs, B_size, sealL_len, hd]
  have e04 : s.extract 0 4 = B (fx (st : Int) 4) := by
    rw [← B_of (s.extract 0 4), ext_list, ← hs, B_data]
    unfold sealL sealB
    simp [fx_length]
  have e46 : s.extract 4 6 = B (fx (c : Int) 2) := by
    rw [← B_of (s.extract 4 6), ext_list, ← hs, B_data]
    unfold sealL sealB
    simp [fx_length]
  have e06 : s.extract 0 6 = B (sealB st c) := by
    rw [← B_of (s.extract 0 6), ext_list, ← hs, B_data]
    unfold sealL
    simp [hb]
  have e58 : s.extract 58 64 = B (sealB st c) := by
    rw [← B_of (s.extract 58 64), ext_list, ← hs, B_data]
    unfold sealL
    rw [List.drop_append_of_le_length (by simp [hb, hd]), List.drop_of_length_le (by simp [hb, hd]), List.nil_append, List.take_of_length_le (by simp [hb])]
  have e65 : s.extract 6 58 = B data := by
    rw [← B_of (s.extract 6 58), ext_list, ← hs, B_data]
    unfold sealL
    simp [hb, hd]
  have hc : countS s = c := by unfold countS; rw [e46, B_data]; exact rd_fx_nat c 2 h3
  refine ⟨⟨hz, by rw [hc]; omega, by rw [e58, e06]⟩, ?_, hc, e65⟩
  unfold stampS; rw [e04, B_data]; exact rd_fx_nat st 4 h1
/-- The pieces of a torn sector. -/
theorem torn_low (a b : List UInt8) (k : Nat) (ha : a.length = 64) (hb : b.length = 64) (h : k ≤ 6) : (a.take k ++ b.drop k).drop 6 = b.drop 6 := by
  rw [List.drop_append, List.length_take, List.drop_of_length_le (by simp; omega), List.nil_append, List.drop_drop]
  congr 1; omega
theorem torn_high (a b : List UInt8) (k : Nat) (ha : a.length = 64) (hb : b.length = 64) (h : 58 ≤ k) : (a.take k ++ b.drop k).take 58 = a.take 58 := by
  rw [List.take_append, List.length_take, List.take_take, Nat.min_eq_left h]
  rw [show 58 - min k a.length = 0 from by omega, List.take_zero, List.append_nil]
theorem torn_first (a b : List UInt8) (k : Nat) (ha : a.length = 64) (h : 6 ≤ k) : (a.take k ++ b.drop k).take 6 = a.take 6 := by
  rw [List.take_append, List.length_take, List.take_take, Nat.min_eq_left h]
  rw [show 6 - min k a.length = 0 from by omega, List.take_zero, List.append_nil]
theorem torn_last (a b : List UInt8) (k : Nat) (ha : a.length = 64) (hb : b.length = 64) (h : k ≤ 58) : (a.take k ++ b.drop k).drop 58 = b.drop 58 := by
  rw [List.drop_append, List.length_take, List.drop_of_length_le (by simp; omega), List.nil_append, List.drop_drop]
  congr 1; omega
/-- Torn sectors whose ends would be alike are one of the two whole. -/
theorem torn_whole (a b : List UInt8) (k : Nat) (ha : a.length = 64) (hb : b.length = 64)
    (h1 : a.drop 58 = a.take 6) (h2 : b.drop 58 = b.take 6) (h3 : a.take 6 ≠ b.take 6)
    (h : (a.take k ++ b.drop k).drop 58 = (a.take k ++ b.drop k).take 6) : a.take k ++ b.drop k = a ∨ a.take k ++ b.drop k = b := by
  by_cases hk : k ≤ 6
  · right
    have e1 := torn_last a b k ha hb (by omega)
    have e2 := torn_low a b k ha hb hk
    rw [← List.take_append_drop 6 (a.take k ++ b.drop k), ← h, e1, e2, h2, List.take_append_drop]
  · by_cases hk2 : 58 ≤ k
    · left
      have e1 := torn_first a b k ha (by omega)
      have e2 := torn_high a b k ha hb hk2
      rw [← List.take_append_drop 58 (a.take k ++ b.drop k), h, e1, e2, ← h1, List.take_append_drop]
    · exfalso
      have e1 := torn_first a b k ha (by omega)
      have e2 := torn_last a b k ha hb (by omega)
      rw [e1, e2, h2] at h
      exact h3 h.symm
theorem sealL_take (st c : Nat) (data : List UInt8) : (sealL st c data).take 6 = sealB st c := by
  unfold sealL
  rw [List.append_assoc, List.take_append_of_le_length (by simp [sealB_len]), List.take_of_length_le (by simp [sealB_len])]
theorem sealL_drop (st c : Nat) (data : List UInt8) (hd : data.length = 52) : (sealL st c data).drop 58 = sealB st c := by
  unfold sealL
  have hb := sealB_len st c
  rw [List.drop_append_of_le_length (by simp [hb, hd]), List.drop_of_length_le (by simp [hb, hd]), List.nil_append]
theorem opens_ends (s : ByteArray) (h : opensS s) : s.data.toList.drop 58 = s.data.toList.take 6 := by
  have hl := h.1
  have e := congrArg (fun b : ByteArray => b.data.toList) h.2.2
  simp only [ext_list, List.drop_zero] at e
  rw [List.take_of_length_le (l := s.data.toList.drop 58) (by simp; omega)] at e
  exact e
/-- Two sealed sectors by other seals. -/
theorem torn_two (st c st' c' : Nat) (d d' : List UInt8) (k : Nat) (h1 : st < 4294967296) (h2 : c < 65536) (h3 : st' < 4294967296) (h4 : c' < 65536)
    (hd : d.length = 52) (hd' : d'.length = 52) (hn : ¬(st = st' ∧ c = c'))
    (h : opensS (B ((sealL st c d).take k ++ (sealL st' c' d').drop k))) :
    B ((sealL st c d).take k ++ (sealL st' c' d').drop k) = B (sealL st c d) ∨ B ((sealL st c d).take k ++ (sealL st' c' d').drop k) = B (sealL st' c' d') := by
  have e := opens_ends _ h
  rw [B_data] at e
  have hw := torn_whole (sealL st c d) (sealL st' c' d') k (by rw [sealL_len, hd]) (by rw [sealL_len, hd'])
    (by rw [sealL_drop _ _ _ hd, sealL_take]) (by rw [sealL_drop _ _ _ hd', sealL_take])
    (by rw [sealL_take, sealL_take]; exact fun e => hn (sealB_inj h1 h2 h3 h4 e)) e
  rcases hw with hw | hw
  · exact Or.inl (by rw [hw])
  · exact Or.inr (by rw [hw])
/-- A sealed sector ahead of bytes 0. -/
theorem count_take (s : ByteArray) : countS s = rd ((s.data.toList.take 6).drop 4) := by
  unfold countS
  rw [ext_list, List.drop_take]
theorem torn_zero (st c : Nat) (d : List UInt8) (k : Nat) (h1 : st < 4294967296) (h2 : 1 ≤ c) (h3 : c < 65536) (hd : d.length = 52)
    (h : opensS (B ((sealL st c d).take k ++ (List.replicate 64 (0 : UInt8)).drop k))) :
    B ((sealL st c d).take k ++ (List.replicate 64 (0 : UInt8)).drop k) = B (sealL st c d) := by
  have e := opens_ends _ h
  rw [B_data] at e
  have hz : sealB st c ≠ List.replicate 6 (0 : UInt8) := by
    intro e0
    have e1 : sealB st c = sealB 0 0 := e0.trans (by decide)
    have := (sealB_inj h1 h3 (by decide) (by decide) e1).2
    omega
  have hw := torn_whole (sealL st c d) (List.replicate 64 (0 : UInt8)) k (by rw [sealL_len, hd]) (by simp)
    (by rw [sealL_drop _ _ _ hd, sealL_take]) (by decide)
    (by rw [sealL_take]; exact hz) e
  rcases hw with hw | hw
  · rw [hw]
  · exfalso
    have hc := h.2.1
    rw [hw, count_take, B_data] at hc
    exact hc (by decide)
end Go.Proofs.YtgogackkeodciabGreatDoor.M
end
section
namespace Go.Proofs.YtgogackkeodciabGreatDoor.M
open Go.RowKit
open Go.Proofs.YtgogackkeodciabGreatDoor.D
set_option linter.unusedVariables false

theorem rd_append (a b : List UInt8) : rd (a ++ b) = rd a * 256 ^ b.length + rd b := by
  have := rd_go b (rd a)
  unfold rd at this ⊢
  rw [List.foldl_append]; exact this
theorem rd_seal (st c : Nat) (h1 : st < 4294967296) (h2 : c < 65536) : rd (sealB st c) = st * 65536 + c := by
  unfold sealB
  rw [rd_append, rd_fx_nat st 4 h1, rd_fx_nat c 2 h2, fx_length]
theorem seal_num (st c : Nat) (h1 : st < 4294967296) (h2 : c < 65536) : fx ((st * 65536 + c : Nat) : Int) 6 = sealB st c := by
  have h := fx_rd (sealB st c)
  rw [rd_seal st c h1 h2, sealB_len] at h
  exact h
theorem told_num (s : ByteArray) (h : 6 ≤ s.size) : rd (s.extract 0 6).data.toList = stampS s * 65536 + countS s := by
  rw [← first_six s h]
  exact rd_seal _ _ (stampS_lt s) (countS_lt s)
theorem seal_or (st c : Nat) (h1 : st < 4294967296) (h2 : c < 65536) : bits .or .u64 ((st : Int) * 65536) (c : Int) = ((st * 65536 + c : Nat) : Int) := by
  rw [show (st : Int) * 65536 = ((st * 65536 : Nat) : Int) from by omega, u64_or_nat _ _ (by omega) (by omega), nat_join 16 _ _ (by omega) (by omega)]
/-- A sector that is laid in three pieces. -/
theorem three_splices (a d : List UInt8) (ha : a.length = 6) (hd : d.length = 52) :
    splice (splice (splice (List.replicate 64 (Value.int .u8 0)) 0 (bytesV a)) 6 (bytesV d)) 58 (bytesV a) = bytesV (a ++ d ++ a) := by
  have l1 := bytesV_len a
  have l2 := bytesV_len d
  rw [ha] at l1
  rw [hd] at l2
  have e1 : splice (List.replicate 64 (Value.int .u8 0)) 0 (bytesV a) = bytesV a ++ List.replicate 58 (Value.int .u8 0) := by
    unfold splice
    rw [List.take_zero, List.nil_append, l1, List.drop_replicate]
  have e2 : splice (bytesV a ++ List.replicate 58 (Value.int .u8 0)) 6 (bytesV d) = (bytesV a ++ bytesV d) ++ List.replicate 6 (Value.int .u8 0) := by
    unfold splice
    rw [List.take_append_of_le_length (by omega), List.take_of_length_le (by omega), l2, List.drop_append, List.drop_of_length_le (by omega), List.nil_append, l1, List.drop_replicate, List.append_assoc]
  have e3 : splice ((bytesV a ++ bytesV d) ++ List.replicate 6 (Value.int .u8 0)) 58 (bytesV a) = (bytesV a ++ bytesV d) ++ bytesV a := by
    have l3 : (bytesV a ++ bytesV d).length = 58 := by rw [List.length_append, l1, l2]
    unfold splice
    rw [List.take_append_of_le_length (by omega), List.take_of_length_le (by omega), l1, List.drop_append, List.drop_of_length_le (by omega), List.nil_append, l3, List.drop_replicate]
    simp
  rw [e1, e2, e3]
  unfold bytesV
  rw [List.map_append, List.map_append]
end Go.Proofs.YtgogackkeodciabGreatDoor.M
end
