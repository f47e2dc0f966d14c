/- Layer 21's definition: View; the law's large, four. -/
import Derived.Test.YtpfnpfbimadjkaaCpE
import Derived.Deep.RegionHeld3
namespace Go.Proofs.Ytpfnpfbimadjkaa.W
open Go.RowKit Go.Sort
open Go.Proofs.Ytpfnpfbimadjkaa.M Go.Proofs.Ytpfnpfbimadjkaa.D Go.Proofs.Ytpfnpfbimadjkaa.Z
set_option linter.unusedVariables false
set_option linter.unusedSimpArgs false

theorem liveF_at {rs : List Rc} {a : Nat} {r : Rc} (h : rs[a]? = some r) : liveF (rs.drop a) = if liveB r (rs.drop (a + 1)) then r :: liveF (rs.drop (a + 1)) else liveF (rs.drop (a + 1)) := by rw [drop_of h]; rfl
theorem insF_len (x : Rc) (l : List Rc) : (insF x l).length = l.length + 1 := by rw [(insF_perm x l).length_eq]; rfl
/-- What the live ones make of a view. -/
def foldV (v l : List Rc) : List Rc := l.foldl (fun v x => insF x v) v
set_option maxRecDepth 100000 in
set_option maxHeartbeats 4000000 in
theorem rview_any (va : Option Addr) (c : Nat) (rs : List Rc) (w : World) (h : RcAt w va rs) (hn : rs.length ≤ 1000) (hc : rs.length ≤ c) :
    Calls Try.prog 15 #[.slice va rs.length c] w fun e w' => ∃ A cc, e = .returned (.slice A (viewF rs).length cc) ∧ RcAt w' A (viewF rs) ∧ Below w.heap.size w w' := by
  have hla := Lib.hid (fun a r W (hW : RcAt W va rs) (hr : rs[a]? = some r) => rlast_any va c rs a r W hW hn hc hr)
  obtain ⟨N, hN⟩ : ∃ N, Hid (rs.length = N) := ⟨_, Lib.hid rfl⟩
  have hall : rs.drop N = [] := by rw [← hN.out, List.drop_length]
  rw [hN.out] at hn hla ⊢
  obtain ⟨R, hR⟩ : ∃ R, Hid (viewF rs = R) := ⟨_, Lib.hid rfl⟩
  rw [hR.out]
  have hst : Hid (foldV [] (liveF (rs.drop 0)) = R) := Lib.hid (by rw [List.drop_zero]; exact hR.out)
  have hput := Lib.hid (fun (A : Option Addr) (cc : Nat) (v : List Rc) (x : Rc) W (hW : RcAt W A v) (hv : v.length ≤ 1000) => rput_any A cc v x W hW hv)
  replace h := Lib.hid h
  replace hall := Lib.hid hall
  clear hc
  go_enter Try.func15, Try.ntmps15
  go_wp2_with fail
  go_loopg [3, 8] N (fun ga v i wr => ∃ (a m cc : Nat) (A : Option Addr), a ≤ N ∧ N ≤ a + ga ∧ i = .int .i64 (a : Int) ∧ v = .slice A m cc ∧ m ≤ a ∧ Hid (∃ K : List Rc, K.length = m ∧ foldV K (liveF (rs.drop a)) = R ∧ RcAt wr A K ∧ Below w.heap.size w wr))
  case atStart => exact ⟨0, 0, 0, none, by omega, by omega, rfl, rfl, by omega, Lib.hid ⟨[], rfl, hst.out, fun i r hi => by simp at hi, Below.refl _ _⟩⟩
  case round =>
    clear hst
    obtain ⟨a, m, cc, A, ha, hg, rfl, rfl, hma, hrel⟩ := hrel
    generalize wr = wo at *
    obtain ⟨K, hKl, hK, how, hbl⟩ := hrel.out
    clear hrel
    by_cases hlt : a < N
    · obtain ⟨r, hr⟩ : ∃ r, rs[a]? = some r := ⟨_, List.getElem?_eq_getElem (by have := hN.out; omega)⟩
      have hl1 := fun W hW => hla.out a r W hW hr
      obtain ⟨b, o, e, c0, c1, c2, c3, c4, c5, c6, c7⟩ := (h.out.below hbl).get hr
      obtain ⟨W1, hW1⟩ : ∃ W1, Hid (W1 = wo.alloc (.cells #[.int .i64 r.off, .int .i64 r.tick, .string r.key, .string r.val, .bool r.gone, .int .i64 r.prod, .int .i64 r.seq, .int .i64 r.frm] 32)) := ⟨_, Lib.hid rfl⟩
      have hb2 : Below wo.heap.size wo W1 := by rw [hW1.out]; exact grewAlloc (Below.refl _ _) _
      have hX1 : Whole W1 wo.heap.size 32 (rcL r) := by rw [hW1.out]; exact Whole.new wo _ _
      have how1 := Lib.hid (how.below hb2)
      have hB1 := Lib.hid (grew hbl hb2)
      have hl2 := hl1 W1 (h.out.below hB1.out)
      have hkf := liveF_at hr
      have hyes : Hid (liveB r (rs.drop (a + 1)) = true → foldV (insF r K) (liveF (rs.drop (a + 1))) = R) := Lib.hid (fun e => by rw [← hK, hkf, if_pos e]; rfl)
      have hno : Hid (liveB r (rs.drop (a + 1)) = false → foldV K (liveF (rs.drop (a + 1))) = R) := Lib.hid (fun e => by rw [← hK, hkf, if_neg (by simp [e])])
      obtain ⟨xb, hxb⟩ : ∃ xb, Hid (wo.heap.size = xb) := ⟨_, Lib.hid rfl⟩
      rw [hxb.out] at hX1
      obtain ⟨x0, x1, x2, x3, x4, x5, x6, x7⟩ := recCells hX1
      replace hX1 := Lib.hid hX1
      have hki : (a : Int) < (N : Int) := by omega
      have hbv : liveB r (rs.drop (a + 1)) = (!decide (kb r = []) && !laterL (kb r) (rs.drop (a + 1)) && !r.gone) := rfl
      rw [hbv] at hyes hno
      have hil := Lib.hid (insF_len r K)
      clear how hbl hb2 hkf hK hbv hl1
      subst e
      by_cases hk : kb r = []
      · have hk2 : r.key.toList.isEmpty = true := by rw [kb_nil.1 hk]; rfl
        have hk3 : r.key.toList = [] := kb_nil.1 hk
        have hfin : Hid (∃ K : List Rc, K.length = m ∧ foldV K (liveF (rs.drop (a + 1))) = R ∧ RcAt W1 A K ∧ Below w.heap.size w W1) := Lib.hid ⟨K, hKl, hno.out (by simp [hk]), how1.out, hB1.out⟩
        replace hr := Lib.hid hr
        clear hl2 hno hyes hk how1 hB1 hX1
        go_upto_region 5 with fail
        rw [← show W1 = _ from hW1.out, hxb.out]
        clear hW1 hxb c0 c1 c2 c3 c4 c5 c6 c7
        go_wp2_with fail
        go_roundg (gk - 1)
        case measure => omega
        case rel => exact ⟨a + 1, m, cc, A, by omega, by omega, by go_num, rfl, by omega, hfin⟩
      · have hk2 : r.key.toList.isEmpty = false := by simpa using fun e => hk (kb_nil.2 e)
        have hk3 : ¬ r.key.toList = [] := fun e => hk (kb_nil.2 e)
        cases hl0 : laterL (kb r) (rs.drop (a + 1)) with
        | true =>
          rw [hl0] at hno hl2
          replace hno := Lib.hid (hno.out (by simp [hk]))
          replace hr := Lib.hid hr
          replace hl2 := Lib.hid hl2
          clear hyes hk hl0
          go_upto_region 5 with fail
          rw [← show W1 = _ from hW1.out, hxb.out]
          clear hW1 hxb c0 c1 c2 c3 c4 c5 c6 c7 hX1
          go_wp2_with fail
          refine hl2.out.mono ?_
          rintro _ w2 ⟨rfl, hb3⟩
          have hfin : Hid (∃ K : List Rc, K.length = m ∧ foldV K (liveF (rs.drop (a + 1))) = R ∧ RcAt w2 A K ∧ Below w.heap.size w w2) := Lib.hid ⟨K, hKl, hno.out, how1.out.below hb3, grew hB1.out hb3⟩
          clear how1 hB1 hno hb3
          go_wp2_with fail
          go_roundg (gk - 1)
          case measure => omega
          case rel => exact ⟨a + 1, m, cc, A, by omega, by omega, by go_num, rfl, by omega, hfin⟩
        | false =>
          rw [hl0] at hno hyes hl2
          replace hl2 := Lib.hid hl2
          cases hgo : r.gone with
          | true =>
            replace hno := Lib.hid (hno.out (by simp [hk, hgo]))
            replace hr := Lib.hid hr
            clear hyes hk hl0
            obtain ⟨fo, ft, fk, fv, fg, fp, fs, ff⟩ := r
            dsimp only at hgo
            subst hgo
            go_upto_region 5 with fail
            rw [← show W1 = _ from hW1.out, hxb.out]
            clear hW1 hxb c0 c1 c2 c3 c4 c5 c6 c7
            go_wp2_with fail
            refine hl2.out.mono ?_
            rintro _ w2 ⟨rfl, hb3⟩
            have hX2 := hX1.out.below hb3 hX1.out.lt
            have hfin : Hid (∃ K : List Rc, K.length = m ∧ foldV K (liveF (rs.drop (a + 1))) = R ∧ RcAt w2 A K ∧ Below w.heap.size w w2) := Lib.hid ⟨K, hKl, hno.out, how1.out.below hb3, grew hB1.out hb3⟩
            clear x0 x1 x2 x3 x4 x5 x6 x7 how1 hB1 hb3 hX1 hno
            obtain ⟨x0, x1, x2, x3, x4, x5, x6, x7⟩ := recCells hX2
            clear hX2
            go_wp2_with fail
            go_roundg (gk - 1)
            case measure => omega
            case rel => exact ⟨a + 1, m, cc, A, by omega, by omega, by go_num, rfl, by omega, hfin⟩
          | false =>
            replace hyes := Lib.hid (hyes.out (by simp [hk, hgo]))
            replace hr := Lib.hid hr
            clear hno hk hl0
            obtain ⟨fo, ft, fk, fv, fg, fp, fs, ff⟩ := r
            dsimp only at hgo
            subst hgo
            have hpt := fun W (hW : RcAt W A K) => hput.out A cc K ⟨fo, ft, fk, fv, false, fp, fs, ff⟩ W hW (by omega)
            rw [hil.out, hKl] at hpt
            replace hpt := Lib.hid hpt
            go_upto_region 5 with fail
            rw [← show W1 = _ from hW1.out, hxb.out]
            clear hW1 hxb c0 c1 c2 c3 c4 c5 c6 c7
            go_wp2_with fail
            refine hl2.out.mono ?_
            rintro _ w2 ⟨rfl, hb3⟩
            have hX2 := hX1.out.below hb3 hX1.out.lt
            have hB2 := Lib.hid (grew hB1.out hb3)
            have hp2 := Lib.hid (hpt.out w2 (how1.out.below hb3))
            clear x0 x1 x2 x3 x4 x5 x6 x7 how1 hB1 hb3 hX1
            obtain ⟨x0, x1, x2, x3, x4, x5, x6, x7⟩ := recCells hX2
            clear hX2
            go_wp2_with fail
            refine hp2.out.mono ?_
            rintro _ w3 ⟨A3, cc3, rfl, h3, hb4⟩
            have hfin : Hid (∃ K : List Rc, K.length = m + 1 ∧ foldV K (liveF (rs.drop (a + 1))) = R ∧ RcAt w3 A3 K ∧ Below w.heap.size w w3) := Lib.hid ⟨_, by rw [hil.out, hKl], hyes.out, h3, grew hB2.out hb4⟩
            clear x0 x1 x2 x3 x4 x5 x6 x7 h3 hb4 hB2 hyes hpt
            go_wp2_with fail
            go_roundg (gk - 1)
            case measure => omega
            case rel => exact ⟨a + 1, m + 1, cc3, A3, by omega, by omega, by go_num, rfl, by omega, hfin⟩
    · obtain rfl : a = N := by omega
      rw [hall.out] at hK
      have hfin : Hid (R.length = m ∧ RcAt wo A R ∧ Below w.heap.size w wo) := Lib.hid (by
        have e : K = R := hK
        rw [← e]
        exact ⟨hKl, how, hbl⟩)
      clear how hbl hKl hK
      go_wp2_with fail
      go_ret
      exact ⟨A, cc, by rw [hfin.out.1]; rfl, hfin.out.2⟩

/-- Are records more than are gone through here? -/
def bigB (r : Rc) : Bool := decide (300 < r.key.size) || decide (300 < r.val.size)
def bigL (rs : List Rc) : Bool := decide (40 < rs.length) || rs.any bigB
set_option maxRecDepth 100000 in
set_option maxHeartbeats 4000000 in
theorem large21_any (va : Option Addr) (n c : Nat) (rs : List Rc) (w : World) (h : RcAt w va rs) (hn : rs.length = n) :
    Calls Try.prog 9 #[.slice va n c] w fun e w' => e = .returned (.bool (bigL rs)) ∧ Below w.heap.size w w' := by
  obtain ⟨B, hB⟩ : ∃ B, Hid (bigL rs = B) := ⟨_, Lib.hid rfl⟩
  rw [hB.out]
  by_cases hbig : 40 < n
  · have hBt : B = true := by rw [← hB.out]; unfold bigL; rw [hn, decide_eq_true hbig]; rfl
    subst hBt
    have hbi : (40 : Int) < (n : Int) := by omega
    clear h hB hn
    go_enter Try.func9, Try.ntmps9
    go_wp2_with fail
    go_ret
    exact ⟨rfl, Below.refl _ _⟩
  · have hbi : (n : Int) ≤ 40 := by omega
    have hB2 : Hid (rs.any bigB = B) := Lib.hid (by rw [← hB.out]; unfold bigL; rw [hn, decide_eq_false hbig]; rfl)
    have hat : Hid (∀ a r, rs[a]? = some r → (rs.drop a).any bigB = (bigB r || (rs.drop (a + 1)).any bigB)) := Lib.hid (fun a r hr => by rw [drop_of hr]; rfl)
    have hall : Hid (rs.drop n = []) := Lib.hid (by rw [← hn, List.drop_length])
    replace h := Lib.hid h
    replace hn := Lib.hid hn
    clear hB
    go_enter Try.func9, Try.ntmps9
    go_wp2_with fail
    go_loopg [10] n (fun ga i wr => ∃ a : Nat, a ≤ n ∧ n ≤ a + ga ∧ i = .int .i64 (a : Int) ∧ Hid ((rs.drop a).any bigB = B ∧ Below w.heap.size w wr))
    case atStart => exact ⟨0, by omega, by omega, rfl, Lib.hid ⟨by rw [List.drop_zero]; exact hB2.out, Below.refl _ _⟩⟩
    case round =>
      clear hB2
      obtain ⟨a, ha, hg, rfl, hrel⟩ := hrel
      generalize wr = wo at *
      obtain ⟨e1, hbl⟩ := hrel.out
      clear hrel
      by_cases hlt : a < n
      · obtain ⟨r, hr⟩ : ∃ r, rs[a]? = some r := ⟨_, List.getElem?_eq_getElem (by have := hn.out; omega)⟩
        obtain ⟨b, o, rfl, c0, c1, c2, c3, c4, c5, c6, c7⟩ := (h.out.below hbl).get hr
        have hB1 := Lib.hid (grewAlloc hbl (.cells #[.int .i64 r.off, .int .i64 r.tick, .string r.key, .string r.val, .bool r.gone, .int .i64 r.prod, .int .i64 r.seq, .int .i64 r.frm] 32))
        have hki : (a : Int) < (n : Int) := by omega
        rw [hat.out a r hr] at e1
        replace hr := Lib.hid hr
        clear hbl
        by_cases h1 : 300 < r.key.size
        · have hBt : B = true := by rw [← e1]; unfold bigB; rw [decide_eq_true h1]; rfl
          have h1i : (300 : Int) < (r.key.size : Int) := by omega
          subst hBt
          clear e1
          go_wp2_with fail
          go_ret
          exact ⟨rfl, hB1.out⟩
        · have h1i : (r.key.size : Int) ≤ 300 := by omega
          by_cases h2 : 300 < r.val.size
          · have hBt : B = true := by rw [← e1]; unfold bigB; rw [decide_eq_true h2]; simp
            have h2i : (300 : Int) < (r.val.size : Int) := by omega
            subst hBt
            clear e1
            go_wp2_with fail
            go_ret
            exact ⟨rfl, hB1.out⟩
          · have h2i : (r.val.size : Int) ≤ 300 := by omega
            have hfin : Hid ((rs.drop (a + 1)).any bigB = B ∧ Below w.heap.size w (wo.alloc (.cells #[.int .i64 r.off, .int .i64 r.tick, .string r.key, .string r.val, .bool r.gone, .int .i64 r.prod, .int .i64 r.seq, .int .i64 r.frm] 32))) := Lib.hid ⟨by rw [← e1]; unfold bigB; rw [decide_eq_false h1, decide_eq_false h2]; rfl, hB1.out⟩
            clear e1 hB1
            go_wp2_with fail
            go_roundg (gk - 1)
            case measure => omega
            case rel => exact ⟨a + 1, by omega, by omega, by go_num, hfin⟩
      · obtain rfl : a = n := by omega
        rw [hall.out] at e1
        have hBf : B = false := by rw [← e1]; rfl
        subst hBf
        replace hbl := Lib.hid hbl
        go_wp2_with fail
        go_ret
        exact ⟨rfl, hbl.out⟩
end Go.Proofs.Ytpfnpfbimadjkaa.W
