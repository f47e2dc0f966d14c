/- For all records the law RecordPacks returns true: their payload is that of the definition, or why there is none; and what is unpacked of it are the records. No condition. -/
import Derived.Test.YtgfamaddghajlaaRows
import Derived.Test.YtgfamaddghajlaaRcOne
import Derived.Test.YtgfamaddghajlaaOpenRc
import Derived.ChangeOld
import Derived.ShutString
import Derived.Deep.Cut
import Derived.Deep.LoopGhost
namespace Go.Proofs.Ytgfamaddghajlaa.recordPacks
open Go.ChangeShapes Go.WideShapes Go.ChangeAt Go.RowKit Go.Sort
open Go.ChangeMaps (open_string shut_string)
open Go.Proofs.Ytgfamaddghajlaa.M Go.Proofs.Ytgfamaddghajlaa.W Go.Proofs.Ytgfamaddghajlaa.D Go.Proofs.Ytgfamaddghajlaa.Z
set_option linter.unusedVariables false
set_option linter.unusedSimpArgs false

/-- What Pack and Wrong come to. -/
theorem packed (va : Option Addr) (c : Nat) (rs : List Rc) (hn : rs.length ≤ 1000) :
    (good rs ∧ (∀ W, RcAt W va rs → Calls Try.prog 17 #[.slice va rs.length c] W fun e w' => e = .returned (.tuple #[.string (B (packL rs)), .int .i64 0]) ∧ Below W.heap.size W w') ∧
      (∀ W, RcAt W va rs → Calls Try.prog 18 #[.slice va rs.length c] W fun e w' => e = .returned (.int .i64 0) ∧ Below W.heap.size W w')) ∨
    ∃ x : Int, (x = 1 ∨ x = 2) ∧ (∀ W, RcAt W va rs → Calls Try.prog 17 #[.slice va rs.length c] W fun e w' => e = .returned (.tuple #[.string ⟨#[]⟩, .int .i64 x]) ∧ Below W.heap.size W w') ∧
      (∀ W, RcAt W va rs → Calls Try.prog 18 #[.slice va rs.length c] W fun e w' => e = .returned (.int .i64 x) ∧ Below W.heap.size W w') := by
  by_cases hf : fair rs
  · have hwr : ∀ W, RcAt W va rs → Calls Try.prog 18 #[.slice va rs.length c] W fun e w' => e = .returned (.int .i64 (if 8 < rs.length ∨ 773 < (packL rs).length then 2 else 0)) ∧ Below W.heap.size W w' := fun W hW => by
      obtain ⟨x, hx, h⟩ := rwrong_is va c rs W hW hn
      rcases hx with ⟨_, hnf⟩ | ⟨_, rfl⟩
      · exact absurd hf hnf
      · exact h
    by_cases h8 : 8 < rs.length
    · refine .inr ⟨2, .inr rfl, fun W hW => pack_refused va c rs 2 (.inr rfl) W (by have := check_fair va c rs W hW hn hf; rwa [if_pos h8] at this), fun W hW => by have := hwr W hW; rwa [if_pos (.inl h8)] at this⟩
    · by_cases h7 : 773 < (packL rs).length
      · refine .inr ⟨2, .inr rfl, fun W hW => by have := pack_few va c rs W hW hf (by omega); rwa [if_pos h7] at this, fun W hW => by have := hwr W hW; rwa [if_pos (.inr h7)] at this⟩
      · refine .inl ⟨⟨hf, by omega, by omega⟩, fun W hW => by have := pack_few va c rs W hW hf (by omega); rwa [if_neg h7] at this, fun W hW => by have := hwr W hW; rwa [if_neg (by omega)] at this⟩
  · refine .inr ⟨1, .inl rfl, fun W hW => pack_refused va c rs 1 (.inl rfl) W (check_not va c rs W hW hn hf), fun W hW => ?_⟩
    obtain ⟨x, hx, h⟩ := rwrong_is va c rs W hW hn
    rcases hx with ⟨rfl, _⟩ | ⟨hf2, _⟩
    · exact h
    · exact absurd hf2 hf

set_option maxRecDepth 100000 in
set_option maxHeartbeats 4000000 in
theorem walk (a0 : Option Addr) (n c : Nat) (rs : List Rc) (w : World) (w0 : RcIn w a0 n rs) :
    Calls Try.prog 5 #[.slice a0 n c] w fun e w' => e = .returned (.bool true) ∧ Below w.heap.size w w' := by
  obtain ⟨hn, hat, hwf⟩ := w0
  by_cases hl : 40 < n
  · have hli : (40 : Int) < (n : Int) := by omega
    clear hat hwf
    go_enter Try.func5, Try.ntmps5
    go_wp2_with fail
    refine (rone_any _).mono ?_
    rintro e w1 ⟨rfl, hb⟩
    replace hb := Lib.hid hb
    go_wp2_with fail
    go_ret
    exact ⟨rfl, hb.out⟩
  have hli : (n : Int) ≤ 40 := by omega
  have hpk := packed a0 c rs (by omega)
  rw [hn] at hpk
  have hlg := Lib.hid (fun (r : Rc) W => rlarge_any r W)
  replace hat := Lib.hid hat
  replace hwf := Lib.hid hwf
  go_enter Try.func5, Try.ntmps5
  replace hpk := Lib.hid hpk
  go_wp2_with fail
  go_loopg [16] n (fun ga i wr => ∃ k : Nat, k ≤ n ∧ n ≤ k + ga ∧ i = .int .i64 k ∧ Hid (Below w.heap.size w wr))
  case atStart => exact ⟨0, by omega, by omega, rfl, Lib.hid (Below.refl _ _)⟩
  case round =>
    obtain ⟨k, hk, hg, rfl, hb⟩ := hrel
    generalize wr = wo at *
    by_cases hlt : k < n
    · obtain ⟨r, hr⟩ : ∃ r, rs[k]? = some r := ⟨_, List.getElem?_eq_getElem (by omega)⟩
      obtain ⟨b, o, rfl, c0, c1, c2, c3, c4, c5, c6, c7⟩ := (hat.out.below hb.out).get hr
      have hlr := hlg.out r
      have hB1 := Lib.hid (grewAlloc hb.out (.cells #[.int .i64 r.off, .int .i64 r.tick, .string r.key, .string r.val, .bool r.gone, .int .i64 r.prod, .int .i64 r.seq, .int .i64 r.frm] 23))
      replace hr := Lib.hid hr
      by_cases hbig : bigR r = true
      · rw [hbig] at hlr
        replace hlr := Lib.hid hlr
        clear hbig
        go_wp2_with fail
        refine (hlr.out _).mono ?_
        rintro e w1 ⟨rfl, hb1⟩
        have hB2 := Lib.hid (grew hB1.out hb1)
        clear c0 c1 c2 c3 c4 c5 c6 c7 hb1 hB1
        go_wp2_with fail
        refine (rone_any _).mono ?_
        rintro e w2 ⟨rfl, hb2⟩
        have hB3 := Lib.hid (grew hB2.out hb2)
        clear hb2
        go_wp2_with fail
        go_ret
        exact ⟨rfl, hB3.out⟩
      · rw [show bigR r = false by simpa using hbig] at hlr
        replace hlr := Lib.hid hlr
        clear hbig
        go_wp2_with fail
        refine (hlr.out _).mono ?_
        rintro e w1 ⟨rfl, hb1⟩
        have hB2 := Lib.hid (grew hB1.out hb1)
        clear c0 c1 c2 c3 c4 c5 c6 c7 hb1 hB1
        go_wp2_with fail
        go_roundg (gk - 1)
        case measure => omega
        case rel => exact ⟨k + 1, by omega, by omega, by go_num, hB2⟩
    · obtain rfl : k = n := by omega
      have hat1 := Lib.hid (hat.out.below hb.out)
      rcases hpk.out with ⟨hgd, hp, hw⟩ | ⟨x, hx, hp, hw⟩
      · have hps : (packL rs).length ≤ 773 := hgd.2.2
        have hu : ∀ W, Calls Try.prog 19 #[.string (M.B (packL rs))] W fun e w' => ∃ A cc, e = .returned (.tuple #[.slice A k cc, .int .i64 0]) ∧ RcAt w' A rs ∧ Below W.heap.size W w' := fun W =>
          (unpack_any (M.B (packL rs)) W (by rw [B_size]; omega)).mono fun e w' h => by
            rcases h with ⟨rs', A, cc, h1, h2, h3, h4, h5⟩ | ⟨h1, _⟩
            · have : rs' = rs := packL_inj hgd.1.2.1 h1.1.2.1 (h2.trans rfl)
              subst this
              exact ⟨A, cc, by rw [← hn]; exact h3, rcAt_own h4 rfl, h5⟩
            · exact absurd rfl (h1 rs hgd)
        have hrp : ∀ W, RcAt W a0 rs → Calls Try.prog 20 #[.slice a0 k c] W fun e w' => e = .returned (.string (M.B (packL rs))) ∧ Below W.heap.size W w' := fun W hW => by
          have := rpack_any a0 c rs W hW (by omega) hgd.1.2.1
          rwa [hn] at this
        have hsa : ∀ A cc W, RcAt W a0 rs → RcAt W A rs → Calls Try.prog 21 #[.slice a0 k c, .slice A k cc] W fun e w' => e = .returned (.bool true) ∧ Below W.heap.size W w' := fun A cc W h1 h2 => same_recs a0 A k c cc rs W h1 h2 hn (by omega) hwf.out
        obtain ⟨S, hS⟩ : ∃ S, Hid (M.B (packL rs) = S) := ⟨_, Lib.hid rfl⟩
        rw [hS.out] at hp hu hrp
        have hse : (S.toList == S.toList) = true := by simp
        replace hp := Lib.hid hp
        replace hw := Lib.hid hw
        replace hu := Lib.hid hu
        replace hrp := Lib.hid hrp
        replace hsa := Lib.hid hsa
        clear hpk hgd hat hwf hlg hps
        go_wp2_with fail
        refine (hp.out _ hat1.out).mono ?_
        rintro e w1 ⟨rfl, hb1⟩
        have hat2 := Lib.hid (hat1.out.below hb1)
        have hB1 := Lib.hid (grew hb.out hb1)
        clear hat1 hb hb1
        go_wp2_with fail
        refine (hw.out _ hat2.out).mono ?_
        rintro e w2 ⟨rfl, hb2⟩
        have hat3 := Lib.hid (hat2.out.below hb2)
        have hB2 := Lib.hid (grew hB1.out hb2)
        clear hat2 hB1 hb2
        go_wp2_with fail
        refine (hu.out _).mono ?_
        rintro e w3 ⟨A, cc, rfl, hm3, hb3⟩
        have hat4 := Lib.hid (hat3.out.below hb3)
        have hB3 := Lib.hid (grew hB2.out hb3)
        replace hm3 := Lib.hid hm3
        clear hat3 hB2 hb3
        go_wp2_with fail
        refine (hrp.out _ hat4.out).mono ?_
        rintro e w4 ⟨rfl, hb4⟩
        have hat5 := Lib.hid (hat4.out.below hb4)
        have hm4 := Lib.hid (hm3.out.below hb4)
        have hB4 := Lib.hid (grew hB3.out hb4)
        clear hat4 hm3 hB3 hb4
        go_wp2_with fail
        refine (hsa.out _ _ _ hat5.out hm4.out).mono ?_
        rintro e w5 ⟨rfl, hb5⟩
        have hB5 := Lib.hid (grew hB4.out hb5)
        clear hat5 hm4 hB4 hb5
        go_wp2_with fail
        refine (rone_any _).mono ?_
        rintro e w6 ⟨rfl, hb6⟩
        have hB6 := Lib.hid (grew hB5.out hb6)
        clear hB5 hb6
        go_wp2_with fail
        go_ret
        exact ⟨rfl, hB6.out⟩
      · replace hp := Lib.hid hp
        replace hw := Lib.hid hw
        clear hpk hat hwf hlg
        rcases hx with rfl | rfl
        all_goals
          go_wp2_with fail
          refine (hp.out _ hat1.out).mono ?_
          rintro e w1 ⟨rfl, hb1⟩
          have hat2 := Lib.hid (hat1.out.below hb1)
          have hB1 := Lib.hid (grew hb.out hb1)
          clear hat1 hb hb1
          go_wp2_with fail
          refine (hw.out _ hat2.out).mono ?_
          rintro e w2 ⟨rfl, hb2⟩
          have hB2 := Lib.hid (grew hB1.out hb2)
          clear hat2 hB1 hb2
          go_wp2_with fail
          refine (rone_any _).mono ?_
          rintro e w6 ⟨rfl, hb6⟩
          have hB6 := Lib.hid (grew hB2.out hb6)
          clear hB2 hb6
          go_wp2_with fail
          go_ret
          exact ⟨rfl, hB6.out⟩


theorem own : ownKnob Try.prog.godebug = none := by kernel_rfl
theorem laidOut : laidOutB Try.prog = true := by kernel_rfl

set_option maxRecDepth 100000 in
theorem lifted (os : Os) (started : os.Started) (H : Type) (enc : TypeId × Value → H) :
    ReturnsInHanded {} Try.checked os 5 .any (Rows.recordPacksSpec.pre6 enc Try.prog Try.f5 Rows.recordPacksRow.domain false) (Rows.recordPacksSpec.post enc Try.prog Try.f5 false true false false) := by
  refine returnsInHanded_of_change (C := Try.checked) own started (by kernel_rfl) Try.func5
    (ChangeSpec.witness6 (enc := enc) (C := Try.checked) false ⟨#[], #[.slice none 0 0], []⟩ 8 (by kernel_rfl) (by kernel_rfl) (by kernel_rfl) (by kernel_rfl)) ?_
  intro W base args ds gs before hval0 hW hcnd _
  have hval : ∀ (j : Nat) t v, Try.f5.params[j]? = some t → args[j]? = some v → Value.okWide Try.prog W .any base t v := hval0
  have hW' := hW
  obtain ⟨p, q, hA0, hV, rfl, hfz, hnd⟩ := hW
  have hA : DataW.TrodAll enc Try.prog W 0 (fun _ => true) true Try.f5.params.toList args.toList ds p := hA0
  rw [Try.params5] at hA hval
  obtain ⟨v0, vs0, d0, ds0, p0, q0, hargs, rfl, rfl, h0, r0⟩ := trodAll_cons hA
  obtain ⟨rfl, rfl, rfl⟩ := trodAll_nil r0
  obtain rfl : args = #[v0] := by cases args; simp_all
  obtain ⟨rfl, rfl⟩ := trodVars_none hV
  obtain ⟨a0, len0, cap0, rfl⟩ := okWide_slice Try.underlying38 (hval 0 38 v0 rfl rfl)
  have k0 := h0
  have lt0 : ∀ x ∈ p0, x.block < W.heap.size := by obtain ⟨m, hm⟩ := k0; exact DataW.trod_lt m _ _ _ hm
  obtain ⟨fu0, hf0⟩ := h0
  obtain ⟨z0, w0⟩ := Go.Proofs.Ytgfamaddghajlaa.W.open_recs (show DataW.trod enc Try.prog W 0 (fun _ => true) true fu0 38 [.slice a0 len0 cap0] = some _ from hf0)
  clear hA0 hval0
  refine (walk a0 len0 cap0 z0 W w0).mono fun e W' ⟨he, bel⟩ => ?_
  subst he
  exact ⟨_, rfl, _, _, _, [], _, [], hW', trodAll_mk1 (shut_bool Try.underlying4 _), (trodAll_cons_mk (Below.trod laidOut (by kernel_rfl) (of_decide_eq_true (by kernel_rfl)) k0 bel lt0) trodAll_mk0), rfl, bel.frame _, fun h => by cases h⟩

theorem over : Rows.recordPacksRow.holds Try.pinned (OpenSpec.ofChange Rows.recordPacksSpec) :=
  OpenClaim.holds_of_wide 5 Try.f5 rfl rfl rfl rfl rfl rfl rfl ⟨rfl, rfl, rfl, rfl, rfl⟩ rfl rfl rfl rfl rfl (by kernel_rfl) Try.func5 (by kernel_rfl)
    (of_decide_eq_true (by kernel_rfl)) (by unfold Func.isWrapper; first | (rw [if_pos (by decide +kernel)]; kernel_rfl) | (rw [if_neg (by decide +kernel)]; exact ⟨rfl, rfl⟩))
    (fun os started H enc _ => lifted os started H enc)

/-- The statement. -/
theorem proved : Rows.RecordPacksSaid := over
#print axioms proved

end Go.Proofs.Ytgfamaddghajlaa.recordPacks
