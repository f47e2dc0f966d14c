/- Frames as bytes: what their definition tells; nothing of the program. -/
import Derived.WalkKit
import Derived.Test.YtkmlmondhmpkkaaFrameM
namespace Go.Proofs.Ytkmlmondhmpkkaa.M
open Go.RowKit
set_option linter.unusedVariables false

theorem two_of {l : List UInt8} (h : l.length = 2) : ∃ a b, l = [a, b] := by
  match l, h with
  | [a, b], _ => exact ⟨a, b, rfl⟩
theorem ext_list (s : ByteArray) (a b : Nat) : (s.extract a b).data.toList = (s.data.toList.drop a).take (b - a) := by
  rw [ByteArray.data_extract, Array.toList_extract, List.extract_eq_drop_take']
  rw [List.drop_take]
theorem fx_two (a b : UInt8) : fx ((256 * a.toNat + b.toNat : Nat) : Int) 2 = [a, b] := by
  have ha := a.toNat_lt
  have hb := b.toNat_lt
  show [UInt8.ofNat (((256 * a.toNat + b.toNat : Nat) : Int) / 256 ^ 1 % 256).toNat, UInt8.ofNat (((256 * a.toNat + b.toNat : Nat) : Int) / 256 ^ 0 % 256).toNat] = _
  have e1 : (((256 * a.toNat + b.toNat : Nat) : Int) / 256 ^ 1 % 256).toNat = a.toNat := by
    rw [show (256 : Int) ^ 1 = 256 from rfl]; omega
  have e2 : (((256 * a.toNat + b.toNat : Nat) : Int) / 256 ^ 0 % 256).toNat = b.toNat := by
    rw [show (256 : Int) ^ 0 = 1 from rfl]; omega
  rw [e1, e2, UInt8.ofNat_toNat, UInt8.ofNat_toNat]
theorem rd_two (a b : UInt8) : rd [a, b] = 256 * a.toNat + b.toNat := by simp [rd]
theorem told_two (s : ByteArray) (h : 2 ≤ s.size) : toldF s = 256 * bt s.data.toList 0 + bt s.data.toList 1 ∧ fx (toldF s : Nat) 2 = (s.extract 0 2).data.toList := by
  have hl : s.data.toList.length = s.size := by simp
  obtain ⟨a, b, hab⟩ := two_of (l := (s.extract 0 2).data.toList) (by simp; omega)
  have e := hab
  rw [ext_list, List.drop_zero] at e
  unfold toldF
  rw [hab, rd_two]
  obtain ⟨x, y, t, hxy⟩ : ∃ x y t, s.data.toList = x :: y :: t := by
    match hs : s.data.toList with
    | [] => rw [hs] at hl; simp at hl; omega
    | [x] => rw [hs] at hl; simp at hl; omega
    | x :: y :: t => exact ⟨x, y, t, rfl⟩
  rw [hxy] at e ⊢
  simp at e
  obtain ⟨rfl, rfl⟩ := e
  exact ⟨by simp [bt], fx_two _ _⟩
/-- What is encoded is what stands there just if the CRC is. -/
theorem enc_same (st pl : Int) (s : ByteArray) (h1 : 1 ≤ toldF s) (h2 : 6 + toldF s ≤ s.size) :
    B (encF st pl (bt s.data.toList 6 : Nat) (s.extract 7 (6 + toldF s)).data.toList) = s.extract 0 (6 + toldF s) ↔ s.extract 2 6 = B (sumF st pl (s.extract 0 2).data.toList (bodyS s).data.toList) := by
  have ht := (told_two s (by omega)).2
  have hlen : s.data.toList.length = s.size := by simp
  have hb6 : bodyF (bt s.data.toList 6 : Nat) (s.extract 7 (6 + toldF s)).data.toList = (bodyS s).data.toList := by
    unfold bodyF bodyS
    rw [fx_one _ (by omega) (by have := bt_lt s.data.toList 6; omega), ext_list, ext_list]
    rw [show 6 + toldF s - 6 = (toldF s - 1) + 1 from by omega, show 6 + toldF s - 7 = toldF s - 1 from by omega]
    rw [List.drop_eq_getElem_cons (i := 6) (by rw [hlen]; omega), List.take_succ_cons]
    have : bt s.data.toList 6 = (s.data.toList[6]'(by rw [hlen]; omega)).toNat := by unfold bt; rw [List.getD, List.getElem?_eq_getElem (by rw [hlen]; omega)]; rfl
    rw [this]
    simp
  have hcnt : cntF (s.extract 7 (6 + toldF s)).data.toList = (s.extract 0 2).data.toList := by
    rw [← ht]
    unfold cntF
    rw [show (s.extract 7 (6 + toldF s)).data.toList.length + 1 = toldF s from by simp; omega]
  unfold encF
  rw [hb6, hcnt]
  generalize hq : sumF st pl (s.extract 0 2).data.toList (bodyS s).data.toList = q
  have hql : q.length = 4 := by rw [← hq]; exact sumF_len _ _ _ _
  have e3 : s.extract 0 (6 + toldF s) = B ((s.extract 0 2).data.toList ++ (s.extract 2 6).data.toList ++ (bodyS s).data.toList) := by
    rw [← B_of (s.extract 0 (6 + toldF s))]
    unfold bodyS
    rw [ext_list, ext_list, ext_list, ext_list, List.drop_zero]
    rw [show 6 + toldF s - 0 = 6 + toldF s from rfl, show 6 + toldF s - 6 = toldF s from by omega, show 2 - 0 = 2 from rfl, show 6 - 2 = 4 from rfl]
    generalize s.data.toList = l
    rw [show 6 + toldF s = 2 + (4 + toldF s) from by omega, List.take_add, List.take_add, List.drop_drop]
    simp
  rw [e3]
  constructor
  · intro h
    have h' : (s.extract 0 2).data.toList ++ q ++ (bodyS s).data.toList = (s.extract 0 2).data.toList ++ (s.extract 2 6).data.toList ++ (bodyS s).data.toList := by
      have := congrArg (fun b : ByteArray => b.data.toList) h
      simpa [B_data] using this
    rw [List.append_cancel_right_eq, List.append_cancel_left_eq] at h'
    rw [h', B_of]
  · intro h
    have h' : (s.extract 2 6).data.toList = q := by rw [h, B_data]
    rw [h']
end Go.Proofs.Ytkmlmondhmpkkaa.M
