/- Decode of Encode is the frame; nothing of the program. -/
import Derived.WalkKit
import Derived.Test.YtkmlmondhmpkkaaFrameN
namespace Go.Proofs.Ytkmlmondhmpkkaa.M
open Go.RowKit
set_option linter.unusedVariables false

theorem ext_at (a b c m : List UInt8) (i j : Nat) (hi : i = a.length) (hj : j = a.length + b.length) (s : ByteArray) (hs : s = B (a ++ b ++ c ++ m)) : s.extract i j = B b := by
  rw [← B_of (s.extract i j), ext_list, hs, B_data, hi, hj]
  simp
theorem rd_cnt (p : List UInt8) (h : p.length < 65535) : rd (cntF p) = p.length + 1 := by
  unfold cntF
  generalize hn : p.length + 1 = n
  have hn2 : n < 65536 := by omega
  have e : (n : Int) = ((256 * (UInt8.ofNat (n / 256)).toNat + (UInt8.ofNat (n % 256)).toNat : Nat) : Int) := by
    rw [UInt8.toNat_ofNat', UInt8.toNat_ofNat']; omega
  rw [e, fx_two, rd_two, UInt8.toNat_ofNat', UInt8.toNat_ofNat']; omega
theorem dec_enc (st pl k : Int) (p m : ByteArray) (k1 : 1 ≤ k) (k2 : k ≤ 255) (h3 : 1 ≤ pl ∧ pl < 16) (hp : p.size ≤ 773) :
    decWhy st pl (B (encF st pl k p.data.toList) ++ m) = 0 ∧ decK st pl (B (encF st pl k p.data.toList) ++ m) = k ∧ decP st pl (B (encF st pl k p.data.toList) ++ m) = p ∧ decN st pl (B (encF st pl k p.data.toList) ++ m) = ((7 + p.size : Nat) : Int) := by
  have hlen : p.data.toList.length = p.size := by simp
  obtain ⟨s, hs⟩ : ∃ s, B (encF st pl k p.data.toList) ++ m = s := ⟨_, rfl⟩
  rw [hs]
  have hc := cntF_len p.data.toList
  have hq := sumF_len st pl (cntF p.data.toList) (bodyF k p.data.toList)
  have hb := bodyF_len k p.data.toList
  have hsl : s = B (encF st pl k p.data.toList ++ m.data.toList) := by rw [← hs, ← B_append, B_of]
  have hz : s.size = 7 + p.size + m.size := by rw [hsl, B_size, List.length_append, encF_len, hlen]; simp
  have hs1 : s = B (cntF p.data.toList ++ sumF st pl (cntF p.data.toList) (bodyF k p.data.toList) ++ bodyF k p.data.toList ++ m.data.toList) := hsl
  have e02 : s.extract 0 2 = B (cntF p.data.toList) :=
    ext_at [] (cntF p.data.toList) (sumF st pl (cntF p.data.toList) (bodyF k p.data.toList) ++ bodyF k p.data.toList) m.data.toList 0 2 rfl (by simp [hc]) s (by rw [hs1]; simp)
  have e26 : s.extract 2 6 = B (sumF st pl (cntF p.data.toList) (bodyF k p.data.toList)) :=
    ext_at (cntF p.data.toList) _ (bodyF k p.data.toList) m.data.toList 2 6 (by rw [hc]) (by rw [hc, hq]) s hs1
  have ht : toldF s = p.size + 1 := by unfold toldF; rw [e02, B_data, rd_cnt _ (by omega), hlen]
  have e6 : s.extract 6 (6 + toldF s) = B (bodyF k p.data.toList) :=
    ext_at (cntF p.data.toList ++ sumF st pl (cntF p.data.toList) (bodyF k p.data.toList)) _ [] m.data.toList 6 _ (by rw [List.length_append, hc, hq]) (by rw [List.length_append, hc, hq, hb, ht, hlen]; omega) s (by rw [hs1]; simp)
  have hbf : bodyF k p.data.toList = [UInt8.ofNat k.toNat] ++ p.data.toList := by unfold bodyF; rw [fx_one k (by omega) k2]
  have e7 : s.extract 7 (6 + toldF s) = B p.data.toList :=
    ext_at (cntF p.data.toList ++ sumF st pl (cntF p.data.toList) (bodyF k p.data.toList) ++ [UInt8.ofNat k.toNat]) _ [] m.data.toList 7 _ (by rw [List.length_append, List.length_append, hc, hq]; rfl) (by rw [List.length_append, List.length_append, hc, hq, ht, hlen]; simp; omega) s (by rw [hs1, hbf]; simp)
  have hk6 : bt s.data.toList 6 = k.toNat := by
    have h1 := bt_extract s 6 (6 + toldF s) 0 (by omega) (by omega)
    rw [← h1, e6, B_data, hbf]
    simp [bt]; omega
  have hw : decWhy st pl s = 0 := by
    unfold decWhy bodyS
    rw [if_neg (by omega), if_neg (by omega), if_neg (by omega), if_neg (by omega), if_neg (by omega), e02, e26, e6, B_data, B_data, if_neg]
    rintro (h | h)
    · omega
    · exact h rfl
  obtain ⟨d1, d2, d3⟩ := decYes hw
  refine ⟨hw, ?_, ?_, ?_⟩
  · rw [d1, hk6]; omega
  · rw [d2, e7, B_of]
  · rw [d3, ht]; omega
end Go.Proofs.Ytkmlmondhmpkkaa.M
