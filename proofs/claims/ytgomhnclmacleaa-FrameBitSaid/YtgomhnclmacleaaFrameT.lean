/- A frame one byte of which is another one; nothing of the program. -/
import Derived.WalkKit
import Derived.Test.YtgomhnclmacleaaFrameB
import Derived.Test.YtgomhnclmacleaaCrcSet
namespace Go.Proofs.Ytgomhnclmacleaa.M
open Go.RowKit
set_option linter.unusedVariables false

theorem bt_app2 (a b : List UInt8) (i : Nat) : bt (a ++ b) (a.length + i) = bt b i := by
  unfold bt
  rw [List.getD_eq_getElem?_getD, List.getD_eq_getElem?_getD, List.getElem?_append_right (by omega), Nat.add_sub_cancel_left]
theorem bt_app1 (a b : List UInt8) (i : Nat) (h : i < a.length) : bt (a ++ b) i = bt a i := by
  unfold bt
  rw [List.getD_eq_getElem?_getD, List.getD_eq_getElem?_getD, List.getElem?_append_left h]
theorem set_ne (l : List UInt8) (j d : Nat) (hj : j < l.length) (hd : d < 256) (hne : d ≠ bt l j) : l.set j (UInt8.ofNat d) ≠ l := by
  intro h
  have e : bt (l.set j (UInt8.ofNat d)) j = bt l j := by rw [h]
  rw [show bt (l.set j (UInt8.ofNat d)) j = (UInt8.ofNat d).toNat from by unfold bt; rw [List.getD_eq_getElem?_getD, List.getElem?_set_self hj]; rfl, UInt8.toNat_ofNat'] at e
  omega
/-- Decode of a frame of which a byte behind the first two is another one. -/
theorem dec_turned (st pl k : Int) (p : ByteArray) (j d : Nat) (k1 : 1 ≤ k) (k2 : k ≤ 255) (h3 : 1 ≤ pl ∧ pl < 16) (hp : p.size ≤ 773) (j1 : 2 ≤ j) (j2 : j < 7 + p.size) (hd : d < 256) (hne : d ≠ bt (encF st pl k p.data.toList) j) :
    decWhy st pl (B ((encF st pl k p.data.toList).set j (UInt8.ofNat d))) = 4 := by
  have hlen : p.data.toList.length = p.size := by simp
  have hc := cntF_len p.data.toList
  have hq := sumF_len st pl (cntF p.data.toList) (bodyF k p.data.toList)
  have hb := bodyF_len k p.data.toList
  have hrd := rd_cnt p.data.toList (by omega)
  rw [hlen] at hrd hb
  generalize hcc : cntF p.data.toList = c at *
  generalize hbb : bodyF k p.data.toList = b at *
  generalize hqq : sumF st pl c b = q at *
  have he : encF st pl k p.data.toList = c ++ q ++ b := by unfold encF; rw [hcc, hbb, hqq]
  rw [he] at hne ⊢
  obtain ⟨q', b', hs, hql, hbl, hcase⟩ : ∃ q' b' : List UInt8, (c ++ q ++ b).set j (UInt8.ofNat d) = c ++ q' ++ b' ∧ q'.length = 4 ∧ b'.length = 1 + p.size ∧ ((b' = b ∧ q' ≠ q) ∨ (q' = q ∧ ∃ i, i < b.length ∧ d ≠ bt b i ∧ b' = b.set i (UInt8.ofNat d))) := by
    by_cases h6 : j < 6
    · refine ⟨q.set (j - 2) (UInt8.ofNat d), b, ?_, by simp [hq], hb, .inl ⟨rfl, ?_⟩⟩
      · rw [List.set_append, if_pos (by rw [List.length_append, hc, hq]; omega), List.set_append, if_neg (by omega), hc]
      · apply set_ne _ _ _ (by omega) hd
        have : bt (c ++ q ++ b) j = bt q (j - 2) := by
          have e := bt_app2 c q (j - 2)
          rw [hc, show 2 + (j - 2) = j from by omega] at e
          rw [bt_app1 _ _ _ (by rw [List.length_append, hc, hq]; omega), e]
        rwa [this] at hne
    · refine ⟨q, b.set (j - 6) (UInt8.ofNat d), ?_, hq, by simp [hb], .inr ⟨rfl, j - 6, by omega, ?_, rfl⟩⟩
      · rw [List.set_append, if_neg (by rw [List.length_append, hc, hq]; omega), List.length_append, hc, hq]
      · have : bt (c ++ q ++ b) j = bt b (j - 6) := by
          have e := bt_app2 (c ++ q) b (j - 6)
          rw [List.length_append, hc, hq, show 2 + 4 + (j - 6) = j from by omega] at e
          exact e
        rwa [this] at hne
  rw [hs]
  obtain ⟨s, hs1⟩ : ∃ s, B (c ++ q' ++ b') = s := ⟨_, rfl⟩
  rw [hs1]
  have hz : s.size = 7 + p.size := by rw [← hs1, B_size, List.length_append, List.length_append, hc, hql, hbl]; omega
  have e02 : s.extract 0 2 = B c := ext_at [] c (q' ++ b') [] 0 2 rfl (by simp [hc]) s (by rw [← hs1]; simp)
  have e26 : s.extract 2 6 = B q' := ext_at c q' b' [] 2 6 (by rw [hc]) (by rw [hc, hql]) s (by rw [← hs1]; simp)
  have ht : toldF s = p.size + 1 := by unfold toldF; rw [e02, B_data, hrd]
  have e6 : s.extract 6 (6 + toldF s) = B b' := ext_at (c ++ q') b' [] [] 6 _ (by rw [List.length_append, hc, hql]) (by rw [List.length_append, hc, hql, hbl, ht]; omega) s (by rw [← hs1]; simp)
  unfold decWhy bodyS
  rw [if_neg (by omega), if_neg (by omega), if_neg (by omega), if_neg (by omega), if_neg (by omega), e02, e26, e6, B_data, B_data, if_pos]
  refine .inr ?_
  intro h
  have h' : q' = sumF st pl c b' := by
    have := congrArg (fun b : ByteArray => b.data.toList) h
    simpa [B_data] using this
  rcases hcase with ⟨rfl, hn⟩ | ⟨rfl, i, hi, hdi, rfl⟩
  · exact hn (h'.trans hqq)
  · rw [← hqq] at h'
    unfold sumF at h'
    have hcr := fx_inj 4 (Nat.lt_of_lt_of_le (crc_lt 0 _) (by decide)) (Nat.lt_of_lt_of_le (crc_lt 0 _) (by decide)) h'
    have hpre : sumB st pl c (b.set i (UInt8.ofNat d)) = (sumB st pl c b).set ((fx st 4 ++ fx pl 2 ++ c).length + i) (UInt8.ofNat d) := by
      unfold sumB
      rw [List.set_append, if_neg (by omega), Nat.add_sub_cancel_left]
    rw [hpre] at hcr
    refine crc_set_ne 0 (by omega) (sumB st pl c b) _ ?_ d hd ?_ hcr.symm
    · unfold sumB; rw [List.length_append (as := fx st 4 ++ fx pl 2 ++ c) (bs := b)]; omega
    · unfold sumB; rw [bt_app2]; exact hdi
end Go.Proofs.Ytgomhnclmacleaa.M
