/- Layer 28: the definition: Of, Wrong; the law's large. -/
import Derived.Test.YtnekiiahgidkoaaAsG
namespace Go.Proofs.Ytnekiiahgidkoaa.W
open Go.RowKit Go.Sort
open Go.Proofs.Ytnekiiahgidkoaa.M Go.Proofs.Ytnekiiahgidkoaa.D Go.Proofs.Ytnekiiahgidkoaa.Z
set_option linter.unusedVariables false
set_option linter.unusedSimpArgs false

theorem own_in {w : World} {Bs : Nat} {v : Value} {xs : List Nat} (h : w.ownsRow Bs 3 1 v xs.length (xs.map fun x : Nat => Value.int .i64 x)) : ∃ A c, v = .slice A xs.length c ∧ InAt w A xs := by
  rcases h.2 with ⟨e, h0⟩ | ⟨g, cap, cur, e, _⟩
  · subst e
    exact ⟨none, 0, by rw [h0], by rw [List.eq_nil_of_length_eq_zero h0]; exact InAt.nil _ _⟩
  · subst e
    exact ⟨_, _, rfl, InAt.own h⟩
theorem ownFar28 {w : World} {Bs e sz k : Nat} {v : Value} {xs : List Value} (h : w.ownsRow Bs e sz v k xs) : ∀ j, v.ownBlock = some j → Bs ≤ j := fun j hj => (h.lt j hj).1
set_option maxRecDepth 100000 in
set_option maxHeartbeats 8000000 in
theorem rof28_any (A : Option Addr) (c : Nat) (N : List Nm) (p : Nat) (m : Nm) (w : World) (hN : N.length ≤ 1000) (hrow : SrAt w A N) (hp : p ≤ 4) (hm : ranK N m < N.length) :
    Calls Try.prog 14 #[.slice A N.length c, .int .i64 p, .string (B m)] w fun e w' => ∃ A1 c1, e = .returned (.slice A1 (iv p N.length (ranK N m)).length c1) ∧ InAt w' A1 (iv p N.length (ranK N m)) ∧ Below w.heap.size w w' := by
  have hrk := rank_any A c N m w (by omega) hrow
  obtain ⟨R, hR⟩ : ∃ R, Hid (ranK N m = R) := ⟨_, Lib.hid rfl⟩
  obtain ⟨n, hn⟩ : ∃ n, Hid (N.length = n) := ⟨_, Lib.hid rfl⟩
  rw [hR.out, hn.out] at hrk hm
  rw [hR.out, hn.out]
  rw [hn.out] at hN
  obtain ⟨x, hx⟩ : ∃ x, Hid (B m = x) := ⟨_, Lib.hid rfl⟩
  rw [hx.out] at hrk ⊢
  clear hrow hR hn hx
  obtain ⟨q, hq⟩ : ∃ q, Hid (p / n = q) := ⟨_, Lib.hid rfl⟩
  obtain ⟨r, hr⟩ : ∃ r, Hid (p % n = r) := ⟨_, Lib.hid rfl⟩
  have hquo : Int.tdiv (p : Int) (n : Int) = (q : Int) := by rw [← hq.out]; rfl
  have hrem : Int.tmod (p : Int) (n : Int) = (r : Int) := by rw [← hr.out]; rfl
  have hq2 : q ≤ p := by rw [← hq.out]; exact Nat.div_le_self _ _
  have hn0 : ¬ ((n : Int) = 0) := by omega
  have hsh : Hid (∀ k, shr p n k = q + if k < r then 1 else 0) := Lib.hid (fun k => by rw [← hq.out, ← hr.out]; rfl)
  have hfr : Hid (∀ k, k ≤ n → frm p n k ≤ p) := Lib.hid (fun k hk => by
    have := frm_mono p n hk
    rwa [frm_all (by omega)] at this)
  have hshp : shr p n R ≤ p := shr_le hm
  replace hrk := Lib.hid hrk
  clear hq hr
  go_enter Try.func14, Try.ntmps14
  go_wp2_with fail
  refine hrk.out.mono ?_
  rintro _ w1 ⟨rfl, e⟩
  obtain rfl : w = w1 := e.symm
  clear hrk
  go_wp2_with fail
  go_loopg [19, 8, 9] n (fun ga i fv sv wr => ∃ k F Z : Nat, k ≤ n ∧ n ≤ k + ga ∧ i = .int .i64 (k : Int) ∧ fv = .int .i64 (F : Int) ∧ sv = .int .i64 (Z : Int) ∧ F ≤ p ∧ Hid (F = frm p n (min k R) ∧ Z = if R < k then shr p n R else 0) ∧ wr = w)
  case atStart => exact ⟨0, 0, 0, by omega, by omega, rfl, rfl, rfl, by omega, Lib.hid ⟨by rw [Nat.zero_min, frm_zero], by rw [if_neg (by omega)]⟩, rfl⟩
  case round =>
    obtain ⟨k, F, Z, hk, hg, rfl, rfl, rfl, hFp, hrel, hwe⟩ := hrel
    obtain rfl : w = wr := hwe.symm
    by_cases hlt : k < n
    · have hs := hsh.out k
      obtain ⟨hF, hZ⟩ := hrel.out
      have hfn := frm_succ p n k
      have hfl := hfr.out (k + 1) (by omega)
      clear hrel
      obtain ⟨t, ht⟩ : ∃ t, Hid (shr p n k = t) := ⟨_, Lib.hid rfl⟩
      rw [ht.out] at hs hfn
      by_cases hkr : k < r
      · rw [if_pos hkr] at hs
        subst hs
        rcases Nat.lt_trichotomy k R with h | h | h
        · have hF2 : F = frm p n k := by rw [hF, Nat.min_eq_left (by omega)]
          have hnx : Hid (F + (q + 1) = frm p n (min (k + 1) R) ∧ Z = if R < k + 1 then shr p n R else 0) := Lib.hid ⟨by rw [Nat.min_eq_left (by omega), hfn, hF2], by rw [if_neg (by omega)]; rw [if_neg (by omega)] at hZ; exact hZ⟩
          have hFn : F + (q + 1) ≤ p := by omega
          have hne : ¬ ((k : Int) = (R : Int)) := by omega
          clear hF hZ hF2 hfn hfl ht
          go_wp2_with fail
          go_roundg (gk - 1)
          case measure => omega
          case rel => exact ⟨k + 1, F + (q + 1), Z, by omega, by omega, by go_num, by go_num, rfl, hFn, hnx, rfl⟩
        · have hnx : Hid (F = frm p n (min (k + 1) R) ∧ q + 1 = if R < k + 1 then shr p n R else 0) := Lib.hid ⟨by rw [hF, Nat.min_eq_right (by omega), Nat.min_eq_right (by omega)], by rw [if_pos (by omega), ← h, ht.out]⟩
          have he : ((k : Int) = (R : Int)) := by omega
          have hnl : ¬ ((k : Int) < (R : Int)) := by omega
          subst h
          clear hF hZ hfn hfl ht he
          go_wp2_with fail
          go_roundg (gk - 1)
          case measure => omega
          case rel => exact ⟨k + 1, F, q + 1, by omega, by omega, by go_num, rfl, by go_num, hFp, hnx, rfl⟩
        · have hnx : Hid (F = frm p n (min (k + 1) R) ∧ Z = if R < k + 1 then shr p n R else 0) := Lib.hid ⟨by rw [hF, Nat.min_eq_right (by omega), Nat.min_eq_right (by omega)], by rw [if_pos (by omega)]; rw [if_pos h] at hZ; exact hZ⟩
          have hne : ¬ ((k : Int) = (R : Int)) := by omega
          have hnl : ¬ ((k : Int) < (R : Int)) := by omega
          clear hF hZ hfn hfl ht
          go_wp2_with fail
          go_roundg (gk - 1)
          case measure => omega
          case rel => exact ⟨k + 1, F, Z, by omega, by omega, by go_num, rfl, rfl, hFp, hnx, rfl⟩
      · rw [if_neg hkr, Nat.add_zero] at hs
        obtain rfl : q = t := hs.symm
        rcases Nat.lt_trichotomy k R with h | h | h
        · have hF2 : F = frm p n k := by rw [hF, Nat.min_eq_left (by omega)]
          have hnx : Hid (F + q = frm p n (min (k + 1) R) ∧ Z = if R < k + 1 then shr p n R else 0) := Lib.hid ⟨by rw [Nat.min_eq_left (by omega), hfn, hF2], by rw [if_neg (by omega)]; rw [if_neg (by omega)] at hZ; exact hZ⟩
          have hFn : F + q ≤ p := by have := ht.out; omega
          have hne : ¬ ((k : Int) = (R : Int)) := by omega
          clear hF hZ hF2 hfn hfl ht
          go_wp2_with fail
          go_roundg (gk - 1)
          case measure => omega
          case rel => exact ⟨k + 1, F + q, Z, by omega, by omega, by go_num, by go_num, rfl, hFn, hnx, rfl⟩
        · have hnx : Hid (F = frm p n (min (k + 1) R) ∧ q = if R < k + 1 then shr p n R else 0) := Lib.hid ⟨by rw [hF, Nat.min_eq_right (by omega), Nat.min_eq_right (by omega)], by rw [if_pos (by omega), ← h, ht.out]⟩
          have hnl : ¬ ((k : Int) < (R : Int)) := by omega
          subst h
          clear hF hZ hfn hfl ht
          go_wp2_with fail
          go_roundg (gk - 1)
          case measure => omega
          case rel => exact ⟨k + 1, F, q, by omega, by omega, by go_num, rfl, rfl, hFp, hnx, rfl⟩
        · have hnx : Hid (F = frm p n (min (k + 1) R) ∧ Z = if R < k + 1 then shr p n R else 0) := Lib.hid ⟨by rw [hF, Nat.min_eq_right (by omega), Nat.min_eq_right (by omega)], by rw [if_pos (by omega)]; rw [if_pos h] at hZ; exact hZ⟩
          have hne : ¬ ((k : Int) = (R : Int)) := by omega
          have hnl : ¬ ((k : Int) < (R : Int)) := by omega
          clear hF hZ hfn hfl ht
          go_wp2_with fail
          go_roundg (gk - 1)
          case measure => omega
          case rel => exact ⟨k + 1, F, Z, by omega, by omega, by go_num, rfl, rfl, hFp, hnx, rfl⟩
    · obtain rfl : k = n := by omega
      obtain ⟨hF, hZ⟩ := hrel.out
      rw [Nat.min_eq_right (by omega)] at hF
      rw [if_pos hm] at hZ
      have hiv : Hid (∀ j, j < Z → (iv p k R)[j]? = some (F + j)) := Lib.hid (fun j hj => by rw [hF]; exact iv_get (by omega))
      have hil : (iv p k R).length = Z := by rw [iv_len, hZ]
      have hZp : Z ≤ p := by omega
      obtain ⟨I, hI⟩ : ∃ I, Hid (iv p k R = I) := ⟨_, Lib.hid rfl⟩
      rw [hI.out] at hiv hil
      obtain ⟨is, his, hs0, hs1, hs2⟩ := info_parts infoI28
      replace hil := Lib.hid hil
      clear hF hZ hrel hsh hfr hshp hquo hrem
      go_wp2_with fail
      generalize gk = gout at *
      go_loopg [46, 12] Z (fun ga i ov wr => ∃ j : Nat, j ≤ Z ∧ Z ≤ j + ga ∧ i = .int .i64 (j : Int) ∧ Hid (Below w.heap.size w wr) ∧ Hid (wr.ownsRow w.heap.size 3 1 ov (I.take j).length ((I.take j).map fun x : Nat => Value.int .i64 x)))
      case atStart => exact ⟨0, by omega, by omega, rfl, Lib.hid (Below.refl _ _), Lib.hid (World.ownsRow_nil _ _ _ _)⟩
      case round =>
        obtain ⟨j, hj, hg2, rfl, hb, how⟩ := hrel
        generalize wr = wq at *
        by_cases hlt2 : j < Z
        · have hv := hiv.out j hlt2
          have hnx : I.take (j + 1) = I.take j ++ [F + j] := by rw [List.take_add_one, hv]; rfl
          have htl : (I.take j).length = j := by rw [List.length_take]; have := hil.out; omega
          obtain ⟨T, hT⟩ : ∃ T, Hid (I.take j = T) := ⟨_, Lib.hid rfl⟩
          rw [hT.out] at hnx how htl
          replace hnx := Lib.hid hnx
          have hsq := hb.out.size
          have hl2 : (j : Int) < (Z : Int) := by omega
          clear hv hT
          go_wp2_with (with_reducible refine zAppend _ _ _ rfl ?_)
          refine Lib.hid ?_
          refine wpList_append_lies _ rfl _ _ 29 rfl w.heap.size 3 is _ 1 8 Try.underlying29 his hs0 hs1 hs2 rfl (by omega) _ _ _ rfl (how.out.alloc _) _ 1 1 [.int .i64 ((F : Int) + (j : Int))] rfl rfl (World.news_of_block (heap_alloc_new _ _)) (by simp [Value.oneCell']) (by omega) (by unfold maxLen; omega) (by omega) (by simp; omega) (wq.heap.size + 1) (by simp) ?_
          intro gg cap2 w5 hown5 hgrow5 hat5 hlt5
          have hb5 : Hid (Below w.heap.size w w5) := Lib.hid ((hb.out.alloc hb.out.size _).grown hgrow5 (by have := hb.out.size; simp; omega) (fun k hk => ownFar28 how.out k hk))
          have hown6 : Hid (w5.ownsRow w.heap.size 3 1 (.slice (some ⟨gg, 0, none⟩) (j + 1) cap2) (I.take (j + 1)).length ((I.take (j + 1)).map fun x : Nat => Value.int .i64 x)) := by
            rw [hnx.out, List.map_append, List.length_append, htl]
            rw [htl] at hown5
            exact Lib.hid hown5
          clear hown5 hgrow5 hat5 how hb hlt5
          go_wp2_with fail
          go_roundg (gk - 1)
          case measure => omega
          case rel => exact ⟨j + 1, by omega, by omega, by go_num, hb5, hown6⟩
        · obtain rfl : j = Z := by omega
          rw [List.take_of_length_le (by have := hil.out; omega)] at how
          obtain ⟨A1, c1, hv, hIn⟩ := own_in how.out
          generalize u12 = v12 at *
          subst hv
          have hfin := Lib.hid (And.intro hIn hb.out)
          clear how hb hIn
          go_wp2_with fail
          go_ret
          rw [hI.out]
          exact ⟨A1, c1, rfl, hfin.out⟩

/-- Few members, with short names. -/
def smallN (N : List Nm) : Prop := N.length ≤ 20 ∧ ∀ s ∈ N, s.length ≤ 100
set_option maxRecDepth 100000 in
set_option maxHeartbeats 4000000 in
theorem large28_any (A : Option Addr) (c : Nat) (N : List Nm) (w : World) (hN : N.length ≤ maxLen) (hrow : SrAt w A N) (hsz : ∀ s ∈ N, s.length ≤ maxLen) :
    Calls Try.prog 6 #[.slice A N.length c] w fun e w' => ∃ b : Bool, e = .returned (.bool b) ∧ (b = false ↔ smallN N) ∧ w' = w := by
  unfold maxLen at hN hsz
  have hfin : Hid ((∀ (i : Nat) s, i < N.length → N[i]? = some s → s.length ≤ 100) → ∀ s ∈ N, s.length ≤ 100) := Lib.hid (fun h s hs => by
    obtain ⟨i, hi⟩ := List.getElem?_of_mem hs
    exact h i s (List.getElem?_eq_some_iff.1 hi).1 hi)
  have hbigN : Hid (∀ (i : Nat) s, N[i]? = some s → 100 < s.length → ¬ smallN N) := Lib.hid (fun i s hi hl h => by have := h.2 s (List.mem_of_getElem? hi); omega)
  have hlong : Hid (20 < N.length → ¬ smallN N) := Lib.hid (fun h k => by have := k.1; omega)
  have hsmall : Hid (N.length ≤ 20 → (∀ s ∈ N, s.length ≤ 100) → smallN N) := Lib.hid (fun h k => ⟨h, k⟩)
  have hsz2 : Hid (∀ (i : Nat) s, N[i]? = some s → (B s).size = s.length ∧ s.length ≤ 9223372036854775807) := Lib.hid (fun i s hi => ⟨B_size s, by have := hsz s (List.mem_of_getElem? hi); omega⟩)
  obtain ⟨len, hlen⟩ : ∃ len, Hid (N.length = len) := ⟨_, Lib.hid rfl⟩
  replace hrow := Lib.hid hrow
  rw [hlen.out] at hN hfin hlong hsmall ⊢
  clear hsz
  by_cases h20 : 20 < len
  · have hno := Lib.hid (hlong.out h20)
    clear hlong hbigN hsmall hfin
    go_enter Try.func6, Try.ntmps6
    go_wp2_with fail
    go_ret
    exact ⟨true, rfl, ⟨fun e => (by cases e), fun h => absurd h hno.out⟩, rfl⟩
  · go_enter Try.func6, Try.ntmps6
    go_wp2_with fail
    go_loopg [10] len (fun ga i wr => ∃ j : Nat, j ≤ len ∧ len ≤ j + ga ∧ i = .int .i64 (j : Int) ∧ Hid (∀ (i : Nat) s, i < j → N[i]? = some s → s.length ≤ 100) ∧ wr = w)
    case atStart => exact ⟨0, by omega, by omega, rfl, Lib.hid (fun i y hi => by omega), rfl⟩
    case round =>
      obtain ⟨j, hj, hg, rfl, hno, rfl⟩ := hrel
      by_cases hlt : j < len
      · obtain ⟨s, hs⟩ : ∃ s, N[j]? = some s := ⟨_, List.getElem?_eq_getElem (by have := hlen.out; omega)⟩
        obtain ⟨b, o, rfl, hb1, hc1⟩ := hrow.out j s hs
        rw [encStr_B] at hc1
        obtain ⟨h1, h2⟩ := hsz2.out j s hs
        have hno2 : Hid (s.length ≤ 100 → ∀ (i : Nat) s, i < j + 1 → N[i]? = some s → s.length ≤ 100) := Lib.hid (fun hl i y hi hy => by
          rcases Nat.lt_or_ge i j with c | c
          · exact hno.out i y c hy
          · obtain rfl : i = j := by omega
            rw [hs] at hy; cases hy; exact hl)
        have hbn := Lib.hid (hbigN.out j s hs)
        obtain ⟨x, hx⟩ : ∃ x, Hid (B s = x) := ⟨_, Lib.hid rfl⟩
        rw [hx.out] at hc1 h1
        by_cases hbig : 100 < x.size
        · have hns := Lib.hid (hbn.out (by omega))
          clear hno hs h1 hbn
          go_wp2_with fail
          go_ret
          exact ⟨true, rfl, ⟨fun e => (by cases e), fun h => absurd h hns.out⟩, rfl⟩
        · have hno3 := Lib.hid (hno2.out (by omega))
          clear hno hs h1 hno2
          go_wp2_with fail
          go_roundg (gk - 1)
          case measure => omega
          case rel => exact ⟨j + 1, by omega, by omega, by go_num, hno3, rfl⟩
      · obtain rfl : j = len := by omega
        have hf := Lib.hid (hfin.out hno.out)
        clear hno
        go_wp2_with fail
        go_ret
        exact ⟨false, rfl, ⟨fun _ => hsmall.out (by omega) hf.out, fun _ => rfl⟩, rfl⟩

theorem take_nodup {N : List Nm} {k : Nat} {s : Nm} (h : (N.take k).Nodup) (hs : N[k]? = some s) (hn : ∀ (i : Nat) t, i < k → N[i]? = some t → t ≠ s) : (N.take (k + 1)).Nodup := by
  rw [← take_step hs, List.nodup_append]
  refine ⟨h, by simp, fun a ha b hb => ?_⟩
  obtain rfl := List.mem_singleton.1 hb
  obtain ⟨i, hi⟩ := List.getElem?_of_mem ha
  rw [List.getElem?_take] at hi
  split at hi
  · rename_i hik; exact hn i a hik hi
  · cases hi
theorem twin_not {N : List Nm} {i k : Nat} {s : Nm} (hik : i < k) (hi : N[i]? = some s) (hk : N[k]? = some s) : ¬ N.Nodup := fun h => by
  obtain ⟨h1, h2⟩ := List.getElem?_eq_some_iff.1 hi
  obtain ⟨h3, h4⟩ := List.getElem?_eq_some_iff.1 hk
  exact (List.pairwise_iff_getElem.1 h i k h1 h3 hik) (h2.trans h4.symm)
theorem eql_nm (s t : Nm) : ((B s).toList == (B t).toList) = decide (s = t) := by
  rw [Lib.toList_data, Lib.toList_data]
  show (s == t) = _
  rw [Bool.eq_iff_iff]; simp
set_option maxRecDepth 100000 in
set_option maxHeartbeats 8000000 in
theorem wrong28_any (A : Option Addr) (c : Nat) (N : List Nm) (w : World) (hN : N.length ≤ 1000) (hNc : N.length ≤ c) (hcm : c ≤ maxLen) (hrow : SrAt w A N) (hsz : ∀ s ∈ N, s.length ≤ 100000) :
    Calls Try.prog 11 #[.slice A N.length c] w fun e w' => e = .returned (.int .i64 (why28 N)) ∧ w' = w := by
  unfold maxLen at hcm
  have hw1 : Hid (okN N = false → why28 N = 1) := Lib.hid (fun h => by unfold why28; rw [h]; rfl)
  have hw8 : Hid (okN N = true → ¬ N.Nodup → why28 N = 8) := Lib.hid (fun h h2 => by unfold why28; rw [if_pos h, if_neg h2])
  have hw0 : Hid (okN N = true → N.Nodup → why28 N = 0) := Lib.hid (fun h h2 => by unfold why28; rw [if_pos h, if_pos h2])
  have hnm : Hid (∀ (i : Nat) s W, N[i]? = some s → Calls Try.prog 25 #[.string (B s)] W fun e w' => e = .returned (.bool (nameB (B s))) ∧ W = w') := Lib.hid (fun i s W hi => rname_any (B s) W (by rw [B_size]; exact hsz s (List.mem_of_getElem? hi)))
  have miss : Hid ((∀ (i : Nat) s, N[i]? = some s → nameB (B s) = true) → okN N = true) := Lib.hid (fun h => by
    unfold okN; rw [List.all_eq_true]; intro s hs; obtain ⟨i, hi⟩ := List.getElem?_of_mem hs; exact h i s hi)
  have hit : Hid (∀ (i : Nat) s, N[i]? = some s → nameB (B s) = false → okN N = false) := Lib.hid (fun i s hi hs => by
    refine Bool.eq_false_iff.2 fun h => ?_
    unfold okN at h; rw [List.all_eq_true] at h
    have := h s (List.mem_of_getElem? hi)
    rw [hs] at this; cases this)
  obtain ⟨E, hE⟩ : ∃ E, Hid (why28 N = E) := ⟨_, Lib.hid rfl⟩
  rw [hE.out] at hw0 hw1 hw8 ⊢
  obtain ⟨len, hlen⟩ : ∃ len, Hid (N.length = len) := ⟨_, Lib.hid rfl⟩
  replace hrow := Lib.hid hrow
  rw [hlen.out] at hN hNc ⊢
  clear hsz
  go_enter Try.func11, Try.ntmps11
  go_wp2_with fail
  go_loopg [11] len (fun ga i wr => ∃ j : Nat, j ≤ len ∧ len ≤ j + ga ∧ i = .int .i64 (j : Int) ∧ Hid (∀ (i : Nat) s, i < j → N[i]? = some s → nameB (B s) = true) ∧ wr = w)
  case atStart => exact ⟨0, by omega, by omega, rfl, Lib.hid (fun i y hi => by omega), rfl⟩
  case round =>
    obtain ⟨j, hj, hg, rfl, hno, hwe⟩ := hrel
    obtain rfl : w = wr := hwe.symm
    by_cases hlt : j < len
    · obtain ⟨s, hs⟩ : ∃ s, N[j]? = some s := ⟨_, List.getElem?_eq_getElem (by have := hlen.out; omega)⟩
      obtain ⟨b, o, rfl, hb1, hc1⟩ := hrow.out j s hs
      rw [encStr_B] at hc1
      have hfx := hnm.out j s w hs
      cases hB : nameB (B s)
      · have hE1 := hw1.out (hit.out j s hs hB)
        subst hE1
        rw [hB] at hfx
        obtain ⟨x, hx⟩ : ∃ x, Hid (B s = x) := ⟨_, Lib.hid rfl⟩
        rw [hx.out] at hfx hc1
        replace hfx := Lib.hid hfx
        clear hno hs hB hw0 hw8 hw1 hnm hit miss
        go_wp2_with fail
        refine hfx.out.mono ?_
        rintro _ w1 ⟨rfl, hwe⟩
        obtain rfl : w = w1 := hwe
        clear hfx
        go_wp2_with fail
        go_ret
        exact ⟨rfl, rfl⟩
      · have hno2 : Hid (∀ (i : Nat) s, i < j + 1 → N[i]? = some s → nameB (B s) = true) := Lib.hid (fun i y hi hy => by
          rcases Nat.lt_or_ge i j with c | c
          · exact hno.out i y c hy
          · obtain rfl : i = j := by omega
            rw [hs] at hy; cases hy; exact hB)
        rw [hB] at hfx
        obtain ⟨x, hx⟩ : ∃ x, Hid (B s = x) := ⟨_, Lib.hid rfl⟩
        rw [hx.out] at hfx hc1
        replace hfx := Lib.hid hfx
        clear hno hs hB
        go_wp2_with fail
        refine hfx.out.mono ?_
        rintro _ w1 ⟨rfl, hwe⟩
        obtain rfl : w = w1 := hwe
        clear hfx
        go_wp2_with fail
        go_roundg (gk - 1)
        case measure => omega
        case rel => exact ⟨j + 1, by omega, by omega, by go_num, hno2, rfl⟩
    · obtain rfl : j = len := by omega
      have hok := miss.out (fun i s hi => hno.out i s (by have := (List.getElem?_eq_some_iff.1 hi).1; have := hlen.out; omega) hi)
      have hw8' := Lib.hid (hw8.out hok)
      have hw0' := Lib.hid (hw0.out hok)
      clear hno hok hw0 hw8 hw1 hnm hit miss
      go_wp2_with fail
      generalize gk = g0 at *
      go_loopg [21] j (fun ga i wr => ∃ k : Nat, k ≤ j ∧ j ≤ k + ga ∧ i = .int .i64 (k : Int) ∧ Hid ((N.take k).Nodup) ∧ wr = w)
      case atStart => exact ⟨0, by omega, by omega, rfl, Lib.hid (by rw [List.take_zero]; exact List.nodup_nil), rfl⟩
      case round =>
        obtain ⟨k, hk, hg2, rfl, hnd, hwe⟩ := hrel
        obtain rfl : w = wr := hwe.symm
        generalize gk = gout at *
        by_cases hlt : k < j
        · obtain ⟨s, hs⟩ : ∃ s, N[k]? = some s := ⟨_, List.getElem?_eq_getElem (by have := hlen.out; omega)⟩
          obtain ⟨b, o, rfl, hb1, hc1⟩ := hrow.out k s hs
          rw [encStr_B] at hc1
          have hk0 : (0 : Int) ≤ (k : Int) := by omega
          have hkc : (k : Int) ≤ (c : Int) := by omega
          have heq := Lib.hid (fun t => eql_nm s t)
          have hstep : Hid ((∀ (i : Nat) t, i < k → N[i]? = some t → t ≠ s) → (N.take (k + 1)).Nodup) := Lib.hid (fun h => take_nodup hnd.out hs h)
          have htw : Hid (∀ (i : Nat), i < k → N[i]? = some s → E = 8) := Lib.hid (fun i hi h => hw8'.out (twin_not hi h hs))
          obtain ⟨x, hx⟩ : ∃ x, Hid (B s = x) := ⟨_, Lib.hid rfl⟩
          rw [hx.out] at hc1 heq
          clear hs hx hnd
          go_wp2_with fail
          go_loopg [30] k (fun ga i wr => ∃ q : Nat, q ≤ k ∧ k ≤ q + ga ∧ i = .int .i64 (q : Int) ∧ Hid (∀ (i : Nat) t, i < q → N[i]? = some t → t ≠ s) ∧ wr = w)
          case atStart => exact ⟨0, by omega, by omega, rfl, Lib.hid (fun i t hi => by omega), rfl⟩
          case round =>
            obtain ⟨q, hq, hg3, rfl, hno, hwe⟩ := hrel
            obtain rfl : w = wr := hwe.symm
            by_cases hlt2 : q < k
            · obtain ⟨t, ht⟩ : ∃ t, N[q]? = some t := ⟨_, List.getElem?_eq_getElem (by have := hlen.out; omega)⟩
              obtain ⟨b2, o2, e2, _, hc2⟩ := hrow.out q t ht
              injection e2 with e2; injection e2 with e3 e4
              subst e3 e4
              rw [encStr_B] at hc2
              have hst := heq.out t
              by_cases hh : s = t
              · have hE8 := htw.out q hlt2 (by rw [hh]; exact ht)
                subst hE8
                rw [decide_eq_true hh] at hst
                obtain ⟨y, hy⟩ : ∃ y, Hid (B t = y) := ⟨_, Lib.hid rfl⟩
                rw [hy.out] at hst hc2
                clear hno ht hh hy hw0' hw8' hstep htw heq
                go_wp2_with fail
                go_ret
                exact ⟨rfl, rfl⟩
              · rw [decide_eq_false hh] at hst
                have hno2 : Hid (∀ (i : Nat) u, i < q + 1 → N[i]? = some u → u ≠ s) := Lib.hid (fun i u hi hu => by
                  rcases Nat.lt_or_ge i q with c | c
                  · exact hno.out i u c hu
                  · obtain rfl : i = q := by omega
                    rw [ht] at hu; cases hu; exact fun e => hh e.symm)
                obtain ⟨y, hy⟩ : ∃ y, Hid (B t = y) := ⟨_, Lib.hid rfl⟩
                rw [hy.out] at hst hc2
                clear hno ht hh hy
                go_wp2_with fail
                go_roundg (gk - 1)
                case measure => omega
                case rel => exact ⟨q + 1, by omega, by omega, by go_num, hno2, rfl⟩
            · obtain rfl : q = k := by omega
              have hnd2 := Lib.hid (hstep.out hno.out)
              clear hno hstep htw heq
              go_wp2_with fail
              go_roundg (gout - 1)
              case measure => omega
              case rel => exact ⟨q + 1, by omega, by omega, by go_num, hnd2, rfl⟩
        · obtain rfl : k = j := by omega
          rw [List.take_of_length_le (by have := hlen.out; omega)] at hnd
          have hE0 := hw0'.out hnd.out
          subst hE0
          clear hnd hw0' hw8'
          go_wp2_with fail
          go_ret
          exact ⟨rfl, rfl⟩
end Go.Proofs.Ytnekiiahgidkoaa.W
