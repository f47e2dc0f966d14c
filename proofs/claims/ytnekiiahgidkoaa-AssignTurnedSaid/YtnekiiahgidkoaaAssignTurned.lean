/- For all members, any number of partitions and any turn the law AssignTurned returns true: in which order members are told changes nothing. No condition. -/
import Derived.Test.YtnekiiahgidkoaaRows
import Derived.Test.YtnekiiahgidkoaaAsP
import Derived.ChangeOld
import Derived.ShutString
import Derived.Deep.AppendSrc
import Derived.Deep.Upon
import Derived.Deep.RegionHeld3
namespace Go.Proofs.Ytnekiiahgidkoaa.assignTurned
open Go.ChangeShapes Go.WideShapes Go.ChangeAt Go.RowKit
open Go.ChangeMaps (open_string shut_string)
open Go.Sort
open Go.Proofs.Ytnekiiahgidkoaa.M Go.Proofs.Ytnekiiahgidkoaa.D Go.Proofs.Ytnekiiahgidkoaa.Z Go.Proofs.Ytnekiiahgidkoaa.W
set_option linter.unusedVariables false
set_option linter.unusedSimpArgs false

theorem ok_perm {N M : List Nm} (h : N.Perm M) : okN N = okN M := by
  rw [Bool.eq_iff_iff]; unfold okN
  rw [List.all_eq_true, List.all_eq_true]
  exact ⟨fun k x hx => k x (h.mem_iff.2 hx), fun k x hx => k x (h.mem_iff.1 hx)⟩
theorem why_perm {N M : List Nm} (h : N.Perm M) : why28 N = why28 M := by
  unfold why28; rw [ok_perm h]
  by_cases a : N.Nodup
  · rw [if_pos a, if_pos (h.nodup_iff.1 a)]
  · rw [if_neg a, if_neg (fun c => a (h.nodup_iff.2 c))]
theorem whyR_perm {N M : List Nm} (h : N.Perm M) (p : Int) : whyR N p = whyR M p := by unfold whyR; rw [why_perm h]
/-- What Of tells of a member. -/
def ofX (N : List Nm) (p : Int) (m : Nm) : List Nat := if whyR N p = 0 then iv p.toNat N.length (ranK N m) else []
theorem ofX_perm {N M : List Nm} (h : N.Perm M) (p : Int) (m : Nm) : ofX N p m = ofX M p m := by unfold ofX; rw [whyR_perm h, h.length_eq, ranK_perm h]
def soX (N : List Nm) : List Nm := if why28 N = 0 then srt N else []
theorem soX_perm {N M : List Nm} (h : N.Perm M) : soX N = soX M := by unfold soX; rw [why_perm h, srt_same h]
theorem of_two (A : Option Addr) (c : Nat) (N : List Nm) (p : Int) (m : Nm) (w : World) (hN : N.length ≤ 1000) (hrow : SrAt w A N) (hm : m ∈ N) :
    Calls Try.prog 9 #[.slice A N.length c, .int .i64 p, .string (B m)] w fun e w' => ∃ A1 c1, e = .returned (.tuple #[.slice A1 (ofX N p m).length c1, .int .i64 (whyR N p)]) ∧ InAt w' A1 (ofX N p m) ∧ Below w.heap.size w w' := by
  by_cases h : whyR N p = 0
  · obtain ⟨h1, h2, h3⟩ := whyR_zero h
    obtain ⟨q, rfl⟩ := Int.eq_ofNat_of_zero_le h2
    refine (of28_ok A c N q m w hN hrow h1 (by omega) hm).mono ?_
    rintro _ w1 ⟨A1, c1, rfl, k1, _, k2⟩
    have e : ofX N (q : Int) m = iv q N.length (ranK N m) := by unfold ofX; rw [if_pos h]; rfl
    rw [e, h]
    exact ⟨A1, c1, rfl, k1, k2⟩
  · refine (of28_no A c N p (B m) w (by omega) hrow h).mono ?_
    rintro _ w1 ⟨rfl, k⟩
    have e : ofX N p m = [] := by unfold ofX; rw [if_neg h]
    rw [e]
    exact ⟨none, 0, rfl, InAt.nil _ _, k⟩
theorem sorted_two (A : Option Addr) (c : Nat) (N : List Nm) (w : World) (hN : N.length ≤ 1000) (hrow : SrAt w A N) :
    Calls Try.prog 10 #[.slice A N.length c] w fun e w' => ∃ A1 c1, e = .returned (.tuple #[.slice A1 (soX N).length c1, .int .i64 (why28 N)]) ∧ SrAt w' A1 (soX N) ∧ Below w.heap.size w w' := by
  by_cases h : why28 N = 0
  · refine (sorted28_ok A c N w (by omega) hrow h).mono ?_
    rintro _ w1 ⟨A1, c1, rfl, k⟩
    have e : soX N = srt N := by unfold soX; rw [if_pos h]
    rw [e, h, srt_len]
    exact ⟨A1, c1, rfl, SrAt.own (Bs := w.heap.size) (n := N.length) (c := c1) (by rw [srt_len]; exact k.own), k.below⟩
  · refine (sorted28_no A c N w (by omega) hrow h).mono ?_
    rintro _ w1 ⟨rfl, k⟩
    have e : soX N = [] := by unfold soX; rw [if_neg h]
    rw [e]
    exact ⟨none, 0, rfl, fun _ _ h => by simp at h, k⟩
theorem wpList_append_by28 {P : Program} {w w' : World} {ops : Array Oper} {rest : List Oper} {o : Oper} {a : Go.Act} {Q : Exit → Go.Act → World → Prop} (hgd : o.guard = none) (s x : Operand) (t : TypeId)
    (ho : o.op = .call { callee := .builtin .append, args := #[s, x], argTypes := #[t, t] }) (vs vx v : Value) (hs : a.eval s = vs) (hx : a.eval x = vx)
    (hr : (Builtin.append_ #[t, t] o.type #[vs, vx]).run P w = .ok v w') (h : wpList P ops Q rest (a.put o.dst v) w') : wpList P ops Q (o :: rest) a w :=
  wpList_plain hgd fun _ hK => by
    unfold Oper.wp execOp
    simp only [ho, resolve, invoke, builtin, Sem.run_bind, Sem.run_pure, Result.andThen_ok, List.map_toArray, List.map_cons, List.map_nil, hs, hx, hr]
    exact hK _ _ h
theorem own_len28 {w : World} {B e sz n m : Nat} {A : Option Addr} {c : Nat} {xs : List Value} (h : w.ownsRow B e sz (.slice A n c) m xs) : n = m := by
  rcases h.2 with ⟨e, h0⟩ | ⟨g, cap, cur, e, _⟩
  · injection e with e1 e2 e3; omega
  · injection e with e1 e2 e3
/-- Strings behind a row of the call's own. -/
theorem app28 {W : World} {Bs : Nat} {A : Option Addr} {c : Nat} {T U : List Nm} (how : W.ownsRow Bs 9 1 (.slice A T.length c) T.length (T.map encStr)) (b o c2 : Nat) (hU : SrAt W (some ⟨b, o, none⟩) U) (hB : Bs ≤ W.heap.size) (hn : T.length + U.length ≤ 100000) (h0 : 0 < T.length + U.length) (ty : TypeId) :
    ∃ A' c' W', (Builtin.append_ #[22, 22] ty #[.slice A T.length c, .slice (some ⟨b, o, none⟩) U.length c2]).run Try.prog W = .ok (.slice A' (T.length + U.length) c') W' ∧
      W'.ownsRow Bs 9 1 (.slice A' (T ++ U).length c') (T ++ U).length ((T ++ U).map encStr) ∧ Below Bs W W' := by
  obtain ⟨i0, hi, hz0, hz1, hz2⟩ := info_parts infoStrS
  obtain ⟨v', W', hr, h2, h3, _⟩ := run_append_own_at (P := Try.prog) W Bs 22 ty 9 i0 (.string ⟨#[]⟩) 1 16 Try.underlying22 hi hz0 hz1 hz2 rfl (by decide) _ T.length _ how ⟨b, o, none⟩ U.length c2 (U.map encStr) (by simp) (fun j u hj => by
    rw [List.getElem?_map] at hj
    obtain ⟨s, hs, rfl⟩ := Option.map_eq_some_iff.1 hj
    obtain ⟨b', o', e, _, hc⟩ := hU j s hs
    injection e with e; injection e with e1 e2
    subst e1 e2
    rw [show (⟨b, o, none⟩ : Addr).add j = ⟨b, o + j, none⟩ from by simp [Addr.add]]
    exact hc) (fun u hu => by obtain ⟨s, _, rfl⟩ := List.mem_map.1 hu; rfl) (by unfold maxLen; omega) (by omega) hB
  obtain ⟨g, cap, rfl, _, _⟩ := h2.form (by omega)
  refine ⟨_, _, W', hr, ?_, (Below.refl Bs W).grown h3 hB (fun k hk => (how.lt k hk).1)⟩
  rw [List.map_append, List.length_append]
  exact h2
set_option maxRecDepth 100000 in
set_option maxHeartbeats 8000000 in
theorem main_yes (a : Option Addr) (cap : Nat) (N : List Nm) (pa : Int) (t : Nat) (w : World) (hN : N.length ≤ 20) (h0 : 0 < N.length) (hNc : N.length ≤ cap) (hcm : cap ≤ maxLen) (ht : t ≤ 9223372036854775807) (hrow : SrAt w a N)
    (hlg : Calls Try.prog 6 #[.slice a N.length cap] w fun e w' => e = .returned (.bool false) ∧ w' = w) :
    Calls Try.prog 5 #[.slice a N.length cap, .int .i64 pa, .int .i64 t] w fun e w' => e = .returned (.bool true) ∧ Below w.heap.size w w' := by
  have c3 := Lib.hid (fun W => three28_any W)
  obtain ⟨s0, hs0⟩ : ∃ s, N[0]? = some s := ⟨_, List.getElem?_eq_getElem h0⟩
  obtain ⟨b, o, rfl, hb0, _⟩ := hrow 0 s0 hs0
  obtain ⟨r, hr⟩ : ∃ r, Hid (t % N.length = r) := ⟨_, Lib.hid rfl⟩
  have hrn : r < N.length := by rw [← hr.out]; exact Nat.mod_lt _ h0
  have hdl : (N.drop r).length = N.length - r := List.length_drop
  have htl : (N.take r).length = r := by rw [List.length_take]; omega
  have hsd : SrAt w (some ⟨b, o + r, none⟩) (N.drop r) := fun k s hk => by
    rw [List.getElem?_drop] at hk
    obtain ⟨b', o', e, h1, h2⟩ := hrow _ s hk
    injection e with e; injection e with e1 e2
    subst e1 e2
    exact ⟨b, o + r, rfl, h1, by rw [Nat.add_assoc]; exact h2⟩
  have hst : SrAt w (some ⟨b, o, none⟩) (N.take r) := fun k s hk => by
    rw [List.getElem?_take] at hk
    split at hk
    · exact hrow k s hk
    · cases hk
  obtain ⟨A1, c1, w1, hr1, how1, hb1⟩ := app28 (T := []) (A := none) (c := 0) (World.ownsRow_nil w w.heap.size 9 1) b (o + r) (cap - r) hsd (Nat.le_refl _) (by simp; omega) (by rw [hdl]; simp; omega) 22
  rw [List.nil_append] at how1
  obtain ⟨A2, c2, w2, hr2, how2, hb2⟩ := app28 how1 b o cap (hst.below (Nat.le_refl _) hb1) hb1.size (by rw [hdl, htl]; omega) (by rw [hdl, htl]; omega) 22
  have hperm : (N.drop r ++ N.take r).Perm N := List.perm_append_comm.trans (by rw [List.take_append_drop])
  have hMl : (N.drop r ++ N.take r).length = N.length := hperm.length_eq
  have hM : SrAt w2 A2 (N.drop r ++ N.take r) := SrAt.own how2
  have hB2 : Below w.heap.size w w2 := hb1.trans hb2
  rw [hdl, htl, show N.length - r + r = N.length from by omega] at hr2
  rw [hdl, show ([] : List Nm).length + (N.length - r) = N.length - r from by simp] at hr1
  replace hr1 : (Builtin.append_ #[22, 22] 22 #[.slice none 0 0, .slice (some ⟨b, o + r, none⟩) (N.length - r) (cap - r)]).run Try.prog w = .ok (.slice A1 (N.length - r) c1) w1 := hr1
  obtain ⟨M, hMM⟩ : ∃ M, Hid (N.drop r ++ N.take r = M) := ⟨_, Lib.hid rfl⟩
  rw [hMM.out] at hperm hMl hM
  have cA := fun W s (hb : Below w2.heap.size w2 W) (hs : s ∈ N) => of_two (some ⟨b, o, none⟩) cap N pa s W (by omega) (hrow.below (Nat.le_refl _) (hB2.trans (hb.mono hB2.size))) hs
  have cB := fun W s (hb : Below w2.heap.size w2 W) (hs : s ∈ N) => of_two A2 c2 M pa s W (by omega) (hM.below (Nat.le_refl _) hb) (hperm.mem_iff.2 hs)
  have cS := fun W (hb : Below w2.heap.size w2 W) => sorted_two (some ⟨b, o, none⟩) cap N W (by omega) (hrow.below (Nat.le_refl _) (hB2.trans (hb.mono hB2.size)))
  have cT := fun W (hb : Below w2.heap.size w2 W) => sorted_two A2 c2 M W (by omega) (hM.below (Nat.le_refl _) hb)
  have hox := Lib.hid (fun s => ofX_perm hperm pa s)
  have hol : Hid (∀ s, (ofX N pa s).length ≤ 100000) := Lib.hid (fun s => by
    unfold ofX
    split
    · rename_i h
      obtain ⟨_, h2, h3⟩ := whyR_zero h
      rw [iv_len]; have := shr_near pa.toNat N.length (ranK N s)
      have := Nat.div_le_self pa.toNat N.length
      omega
    · simp)
  have hsl : Hid ((soX N).length ≤ 100000) := Lib.hid (by
    unfold soX
    split
    · rw [srt_len]; omega
    · exact Nat.zero_le _)
  rw [whyR_perm hperm] at cB
  rw [soX_perm hperm, why_perm hperm] at cT
  rw [hMl] at cB cT
  obtain ⟨n, hn⟩ : ∃ n, Hid (N.length = n) := ⟨_, Lib.hid rfl⟩
  rw [hn.out] at hlg hN h0 hNc hrn hr1 hr2 cA cB cS cT ⊢
  obtain ⟨E, hE⟩ : ∃ E, Hid (whyR N pa = E) := ⟨_, Lib.hid rfl⟩
  obtain ⟨G, hG⟩ : ∃ G, Hid (why28 N = G) := ⟨_, Lib.hid rfl⟩
  obtain ⟨X, hX⟩ : ∃ X, Hid (soX N = X) := ⟨_, Lib.hid rfl⟩
  rw [hE.out] at cA cB
  rw [hG.out, hX.out] at cS cT
  rw [hX.out] at hsl
  obtain ⟨xl, hxl⟩ : ∃ xl, Hid (X.length = xl) := ⟨_, Lib.hid rfl⟩
  have k4 := Lib.hid (fun W B1 B2 d1 d2 (h1 : SrAt W B1 X) (h2 : SrAt W B2 X) => texts28_any B1 B2 d1 d2 X W h1 h2 hsl.out)
  rw [hxl.out] at cS cT k4
  have hEE : (E == E) = true := by simp
  have hGG : (G == G) = true := by simp
  replace cA := Lib.hid cA
  replace cB := Lib.hid cB
  replace cS := Lib.hid cS
  replace cT := Lib.hid cT
  replace hlg := Lib.hid hlg
  have hn0 : ((n : Int) == 0) = false := by simp; omega
  have ht0 : decide ((t : Int) < 0) = false := decide_eq_false (by omega)
  have hrem : Int.tmod (t : Int) (n : Int) = (r : Int) := by rw [← hr.out, ← hn.out]; rfl
  have hr0 : (0 : Int) ≤ (r : Int) := by omega
  have hrn2 : (r : Int) ≤ (n : Int) := by omega
  have hrc : r < cap := by omega
  have hrow2 := Lib.hid (hrow.below (Nat.le_refl _) hB2)
  have hnz : ¬ ((n : Int) = 0) := by omega
  unfold maxLen at hcm
  replace hr1 := Lib.hid hr1
  replace hr2 := Lib.hid hr2
  replace hB2 := Lib.hid hB2
  clear hs0 hb0 hrow hsd hst how1 hb1 how2 hb2 hM hMM hperm hMl hdl htl hE hG hX hxl
  go_enter Try.func5, Try.ntmps5
  go_wp2_with fail
  refine hlg.out.mono ?_
  rintro _ wx ⟨rfl, e⟩
  obtain rfl : w = wx := e.symm
  clear hlg
  go_wp2_with (with_reducible refine zAppend _ _ _ rfl ?_)
  refine Lib.hid ?_
  refine wpList_append_by28 rfl _ _ 22 rfl _ _ _ rfl rfl hr1.out ?_
  go_frame
  clear hr1
  go_wp2_with (with_reducible refine zAppend _ _ _ rfl ?_)
  refine Lib.hid ?_
  refine wpList_append_by28 rfl _ _ 22 rfl _ _ _ rfl rfl hr2.out ?_
  go_frame
  clear hr2
  go_wp2_with fail
  go_loopg [47] n (fun ga i wr => ∃ k : Nat, k ≤ n ∧ n ≤ k + ga ∧ i = .int .i64 (k : Int) ∧ Hid (Below w2.heap.size w2 wr))
  case atStart => exact ⟨0, by omega, by omega, rfl, Lib.hid (Below.refl _ _)⟩
  case round =>
    obtain ⟨k, hk, hg, rfl, hb⟩ := hrel
    generalize wr = wo at *
    by_cases hlt : k < n
    · obtain ⟨s, hs⟩ : ∃ s, N[k]? = some s := ⟨_, List.getElem?_eq_getElem (by have := hn.out; omega)⟩
      have hsN := List.mem_of_getElem? hs
      obtain ⟨b', o', e, _, hc1⟩ := (hrow2.out.below (Nat.le_refl _) hb.out) k s hs
      injection e with e; injection e with e1 e2
      subst e1 e2
      rw [encStr_B] at hc1
      have k1 := cA.out wo s hb.out hsN
      have k2 := fun W (h : Below w2.heap.size w2 W) => cB.out W s h hsN
      rw [hox.out s] at k2
      have k3 := fun W B1 B2 d1 d2 (h1 : InAt W B1 (ofX N pa s)) (h2 : InAt W B2 (ofX N pa s)) => ints28_any B1 B2 d1 d2 (ofX N pa s) W h1 h2 (hol.out s)
      obtain ⟨x, hx⟩ : ∃ x, Hid (B s = x) := ⟨_, Lib.hid rfl⟩
      obtain ⟨I, hI⟩ : ∃ I, Hid (ofX N pa s = I) := ⟨_, Lib.hid rfl⟩
      obtain ⟨il, hil⟩ : ∃ il, Hid (I.length = il) := ⟨_, Lib.hid rfl⟩
      rw [hx.out] at k1 k2 hc1
      rw [hI.out, hil.out] at k1 k2 k3
      replace k1 := Lib.hid k1
      replace k2 := Lib.hid k2
      replace k3 := Lib.hid k3
      have hk0 : (0 : Int) ≤ (k : Int) := by omega
      have hkn : (k : Int) < (n : Int) := by omega
      clear hs hsN hx hI hil
      go_wp2_with fail
      refine k1.out.mono ?_
      rintro _ w3 ⟨A3, c3', rfl, hI3, hb3⟩
      have hB3 := grew hb.out hb3
      replace hI3 := Lib.hid hI3
      clear k1 hb3 hc1
      go_wp2_with fail
      refine (k2.out w3 hB3).mono ?_
      rintro _ w4 ⟨A4, c4, rfl, hI4, hb4⟩
      have k5 := Lib.hid (k3.out w4 A3 A4 c3' c4 (hI3.out.below (Nat.le_refl _) hb4) hI4)
      have hB4 := Lib.hid (grew hB3 hb4)
      clear k2 k3 hI3 hI4 hb4 hB3
      go_wp2_with fail
      refine k5.out.mono ?_
      rintro _ w5 ⟨rfl, hb5⟩
      have hB5 := Lib.hid (grew hB4.out hb5)
      clear hb5 k5 hB4 hb
      go_wp2_with fail
      go_roundg (gk - 1)
      case measure => omega
      case rel => exact ⟨k + 1, by omega, by omega, by go_num, hB5⟩
    · obtain rfl : k = n := by omega
      clear cA cB hox hol
      go_wp2_with fail
      refine (cS.out wo hb.out).mono ?_
      rintro _ w3 ⟨A3, c3', rfl, hI3, hb3⟩
      have hB3 := grew hb.out hb3
      replace hI3 := Lib.hid hI3
      clear cS hb3
      go_wp2_with fail
      refine (cT.out w3 hB3).mono ?_
      rintro _ w4 ⟨A4, c4, rfl, hI4, hb4⟩
      have k5 := Lib.hid (k4.out w4 A3 A4 c3' c4 (hI3.out.below (Nat.le_refl _) hb4) hI4)
      have hB4 := Lib.hid (grew hB3 hb4)
      clear cT k4 hI3 hI4 hb4 hB3
      go_wp2_with fail
      refine k5.out.mono ?_
      rintro _ w5 ⟨rfl, hb5⟩
      have hB5 := Lib.hid (grew hB4.out hb5)
      clear hb5 k5 hB4 hb
      go_wp2_with fail
      refine (c3.out _).mono ?_
      rintro _ w6 ⟨rfl, hb6⟩
      have hB6 := Lib.hid (hB2.out.trans ((grew hB5.out hb6).mono hB2.out.size))
      clear hb6
      go_wp2_with fail
      go_ret
      exact ⟨rfl, hB6.out⟩
set_option maxRecDepth 100000 in
set_option maxHeartbeats 8000000 in
theorem walk (a : Option Addr) (len cap : Nat) (ss : List ByteArray) (pa t : Int) (w : World) (w1 : IsStrs w a len cap ss) (wp : (Lit.int .i64 pa).wf = true) (wt : (Lit.int .i64 t).wf = true) :
    Calls Try.prog 5 #[.slice a len cap, .int .i64 pa, .int .i64 t] w fun e w' => e = .returned (.bool true) ∧ Below w.heap.size w w' := by
  obtain ⟨hl, hrow, hlc, hcm, hsz⟩ := strs_in w1
  generalize inN len ss = N at *
  subst hl
  clear w1
  obtain ⟨t0, t1⟩ := bounds_i64 wt
  have hlg := Lib.hid (large28_any a cap N w (by omega) hrow hsz)
  by_cases hsm : smallN N
  · have hlf : Calls Try.prog 6 #[.slice a N.length cap] w fun e w' => e = .returned (.bool false) ∧ w' = w := hlg.out.mono (by
      rintro _ w1 ⟨b, rfl, hb, rfl⟩
      exact ⟨by rw [hb.2 hsm], rfl⟩)
    by_cases h0 : N.length = 0
    · have c3 := Lib.hid (fun W => three28_any W)
      rw [h0] at hlf ⊢
      replace hlf := Lib.hid hlf
      clear hrow hsz hlc hlg hsm wp wt hcm t0 t1 h0
      go_enter Try.func5, Try.ntmps5
      go_wp2_with fail
      refine hlf.out.mono ?_
      rintro _ w1 ⟨rfl, e⟩
      obtain rfl : w = w1 := e.symm
      clear hlf
      go_wp2_with fail
      refine (c3.out _).mono ?_
      rintro _ w1 ⟨rfl, hb1⟩
      replace hb1 := Lib.hid hb1
      go_wp2_with fail
      go_ret
      exact ⟨rfl, hb1.out⟩
    · by_cases ht : t < 0
      · have c3 := Lib.hid (fun W => three28_any W)
        obtain ⟨n, hn⟩ : ∃ n, Hid (N.length = n) := ⟨_, Lib.hid rfl⟩
        rw [hn.out] at hlf h0 ⊢
        replace hlf := Lib.hid hlf
        have hn0 : ((n : Int) == 0) = false := by simp; omega
        have ht0 : decide (t < 0) = true := decide_eq_true ht
        clear hrow hsz hlc hlg hsm wp wt hcm t0 t1 h0 ht
        go_enter Try.func5, Try.ntmps5
        go_wp2_with fail
        refine hlf.out.mono ?_
        rintro _ w1 ⟨rfl, e⟩
        obtain rfl : w = w1 := e.symm
        clear hlf
        go_wp2_with fail
        refine (c3.out _).mono ?_
        rintro _ w1 ⟨rfl, hb1⟩
        replace hb1 := Lib.hid hb1
        go_wp2_with fail
        go_ret
        exact ⟨rfl, hb1.out⟩
      · obtain ⟨q, rfl⟩ := Int.eq_ofNat_of_zero_le (show 0 ≤ t by omega)
        exact main_yes a cap N pa q w hsm.1 (by omega) hlc hcm (by omega) hrow hlf
  · have hlt : Hid (Calls Try.prog 6 #[.slice a N.length cap] w fun e w' => e = .returned (.bool true) ∧ w' = w) := Lib.hid (hlg.out.mono (by
      rintro _ w1 ⟨b, rfl, hb, rfl⟩
      refine ⟨?_, rfl⟩
      cases b
      · exact absurd (hb.1 rfl) hsm
      · rfl))
    have c3 := Lib.hid (fun W => three28_any W)
    obtain ⟨n, hn⟩ : ∃ n, Hid (N.length = n) := ⟨_, Lib.hid rfl⟩
    rw [hn.out] at hlt ⊢
    clear hrow hsz hlc hlg hsm wp wt hcm t0 t1
    go_enter Try.func5, Try.ntmps5
    go_wp2_with fail
    refine hlt.out.mono ?_
    rintro _ w1 ⟨rfl, e⟩
    obtain rfl : w = w1 := e.symm
    clear hlt
    go_wp2_with fail
    refine (c3.out _).mono ?_
    rintro _ w1 ⟨rfl, hb1⟩
    replace hb1 := Lib.hid hb1
    go_wp2_with fail
    go_ret
    exact ⟨rfl, hb1.out⟩

theorem own : ownKnob Try.prog.godebug = none := by kernel_rfl
theorem laidOut : laidOutB Try.prog = true := by kernel_rfl

set_option maxRecDepth 100000 in
theorem lifted (os : Os) (started : os.Started) (H : Type) (enc : TypeId × Value → H) :
    ReturnsInHanded {} Try.checked os 5 .any (Rows.assignTurnedSpec.pre6 enc Try.prog Try.f5 Rows.assignTurnedRow.domain false) (Rows.assignTurnedSpec.post enc Try.prog Try.f5 false true false false) := by
  refine returnsInHanded_of_change (C := Try.checked) own started (by kernel_rfl) Try.func5
    (ChangeSpec.witness6 (enc := enc) (C := Try.checked) false ⟨#[], #[.slice none 0 0, .int .i64 0, .int .i64 0], []⟩ 8 (by kernel_rfl) (by kernel_rfl) (by kernel_rfl) (by kernel_rfl)) ?_
  intro W base args ds gs before hval0 hW hcnd _
  have hval : ∀ (j : Nat) t v, Try.f5.params[j]? = some t → args[j]? = some v → Value.okWide Try.prog W .any base t v := hval0
  have hW' := hW
  obtain ⟨p, q, hA0, hV, rfl, hfz, hnd⟩ := hW
  have hA : DataW.TrodAll enc Try.prog W 0 (fun _ => true) true Try.f5.params.toList args.toList ds p := hA0
  rw [Try.params5] at hA hval
  obtain ⟨v0, vs0, d0, ds0, p0, q0, hargs, rfl, rfl, h0, r0⟩ := trodAll_cons hA
  obtain ⟨v1, vs1, d1, ds1, p1, q1, rfl, rfl, rfl, h1, r1⟩ := trodAll_cons r0
  obtain ⟨v2, vs2, d2, ds2, p2, q2, rfl, rfl, rfl, h2, r2⟩ := trodAll_cons r1
  obtain ⟨rfl, rfl, rfl⟩ := trodAll_nil r2
  obtain rfl : args = #[v0, v1, v2] := by cases args; simp_all
  obtain ⟨rfl, rfl⟩ := trodVars_none hV
  obtain ⟨a0, len0, cap0, rfl⟩ := okWide_slice Try.underlying22 (hval 0 22 v0 rfl rfl)
  have k0 := h0
  have lt0 : ∀ x ∈ p0, x.block < W.heap.size := by obtain ⟨m, hm⟩ := k0; exact DataW.trod_lt m _ _ _ hm
  obtain ⟨z0, w0⟩ := open_strs Try.underlying22 Try.underlying9 (by kernel_rfl) h0
  obtain ⟨a1, rfl, rfl, rfl, w1⟩ := open_int Try.underlying3 (hval 1 3 v1 rfl rfl) h1
  obtain ⟨a2, rfl, rfl, rfl, w2⟩ := open_int Try.underlying3 (hval 2 3 v2 rfl rfl) h2
  clear hA0 hval0
  refine (walk a0 len0 cap0 z0 a1 a2 W w0 w1 w2).mono fun e W' ⟨he, bel⟩ => ?_
  subst he
  exact ⟨_, rfl, _, _, _, [], _, [], hW', trodAll_mk1 (shut_bool Try.underlying4 _), (trodAll_cons_mk (Below.trod laidOut (by kernel_rfl) (of_decide_eq_true (by kernel_rfl)) k0 bel lt0) (trodAll_cons_mk (shut_int Try.underlying3 w1) (trodAll_cons_mk (shut_int Try.underlying3 w2) trodAll_mk0))), rfl, bel.frame _, fun h => by cases h⟩

theorem over : Rows.assignTurnedRow.holds Try.pinned (OpenSpec.ofChange Rows.assignTurnedSpec) :=
  OpenClaim.holds_of_wide 5 Try.f5 rfl rfl rfl rfl rfl rfl rfl ⟨rfl, rfl, rfl, rfl, rfl⟩ rfl rfl rfl rfl rfl (by kernel_rfl) Try.func5 (by kernel_rfl)
    (of_decide_eq_true (by kernel_rfl)) (by unfold Func.isWrapper; first | (rw [if_pos (by decide +kernel)]; kernel_rfl) | (rw [if_neg (by decide +kernel)]; exact ⟨rfl, rfl⟩))
    (fun os started H enc _ => lifted os started H enc)

/-- The statement. -/
theorem proved : Rows.AssignTurnedSaid := over
#print axioms proved

end Go.Proofs.Ytnekiiahgidkoaa.assignTurned
