/- Package compact: Keep, Garbage. -/
import Derived.Test.YtpfnpfbimadjkaaCpA
import Derived.Test.YtpfnpfbimadjkaaRcQ
namespace Go.Proofs.Ytpfnpfbimadjkaa.W
open Go.RowKit Go.Sort
open Go.Proofs.Ytpfnpfbimadjkaa.M Go.Proofs.Ytpfnpfbimadjkaa.D Go.Proofs.Ytpfnpfbimadjkaa.Z
set_option linter.unusedVariables false
set_option linter.unusedSimpArgs false

theorem infoRk : (Try.prog.info? 32).map (fun i => (i.zero, i.size, i.bytes)) = some (some (.agg #[.int .i64 0, .int .i64 0, .string ⟨#[]⟩, .string ⟨#[]⟩, .bool false, .int .i64 0, .int .i64 0, .int .i64 0]), 8, 80) := by kernel_rfl
theorem own_nilK {W : World} {B : Nat} {e : TypeId} {sz : Nat} : W.ownsRow B e sz (.slice none 0 0) 0 [] := ⟨by simp, .inl ⟨rfl, rfl⟩⟩
theorem keepF_at {dead : Int} {rs : List Rc} {a : Nat} {r : Rc} (h : rs[a]? = some r) : keepF dead (rs.drop a) = if keptB dead r (rs.drop (a + 1)) then r :: keepF dead (rs.drop (a + 1)) else keepF dead (rs.drop (a + 1)) := by rw [drop_of h]; rfl
theorem own_below {W W' : World} {B n : Nat} {e : TypeId} {sz : Nat} {v : Value} {l : List Value} (h : W.ownsRow B e sz v n l) (hb : Below W.heap.size W W') : W'.ownsRow B e sz v n l :=
  own_of_kept (own := fun _ => False) h (Kept.of_below hb) (fun _ _ e => e)
theorem own_cap {W : World} {B n c : Nat} {a : Option Addr} {e : TypeId} {sz : Nat} {l : List Value} (h : W.ownsRow B e sz (.slice a n c) n l) : n ≤ c := by
  rcases h.2 with ⟨hv, h0⟩ | ⟨g, cap, cur, hv, _, _, h1, _⟩
  · omega
  · injection hv with e1 e2 e3
    omega
set_option maxRecDepth 100000 in
set_option maxHeartbeats 4000000 in
theorem keep_all (va : Option Addr) (c : Nat) (rs : List Rc) (dead : Int) (w : World) (h : RcAt w va rs) (hn : rs.length ≤ 1000) (hsz : ∀ r ∈ rs, r.key.size ≤ 100000) :
    Calls Try.prog 11 #[.slice va rs.length c, .int .i64 dead] w fun e w' => ∃ A cc, e = .returned (.slice A (keepF dead rs).length cc) ∧ RcAt w' A (keepF dead rs) ∧ Below w.heap.size w w' ∧ (keepF dead rs).length ≤ cc := by
  have hla := lasts_any va c rs w h hn hsz
  obtain ⟨N, hN⟩ : ∃ N, Hid (rs.length = N) := ⟨_, Lib.hid rfl⟩
  have hall : rs.drop N = [] := by rw [← hN.out, List.drop_length]
  rw [hN.out] at hn hla ⊢
  obtain ⟨i0, hi0, hz0, hz1, hz2⟩ := info_parts infoRk
  have hdd := Lib.hid (fun (r : Rc) W => isDead_any r dead W)
  replace h := Lib.hid h
  replace hall := Lib.hid hall
  replace hla := Lib.hid hla
  replace hsz := Lib.hid hsz
  go_enter Try.func11, Try.ntmps11
  go_wp2_with fail
  refine hla.out.mono ?_
  rintro e w1 ⟨mb, D, rfl, hM, hL, hmw, hb1⟩
  replace hM := Lib.hid hM
  replace hL := Lib.hid hL
  replace hb1 := Lib.hid hb1
  have h1 := Lib.hid (h.out.below hb1.out)
  clear hla h
  go_wp2_with fail
  go_loopg [6, 13] N (fun ga v i wr => ∃ (a n cc : Nat) (A : Option Addr), a ≤ N ∧ N ≤ a + ga ∧ i = .int .i64 (a : Int) ∧ v = .slice A n cc ∧ n ≤ a ∧ Hid (∃ K : List Rc, K.length = n ∧ K ++ keepF dead (rs.drop a) = keepF dead rs ∧ wr.ownsRow w1.heap.size 32 8 (.slice A n cc) n (rcRows K) ∧ Below w1.heap.size w1 wr))
  case atStart => exact ⟨0, 0, 0, none, by omega, by omega, rfl, rfl, by omega, Lib.hid ⟨[], rfl, by simp, own_nilK, Below.refl _ _⟩⟩
  case round =>
    obtain ⟨a, n, cc, A, ha, hg, rfl, rfl, hna, hrel⟩ := hrel
    generalize wr = wo at *
    obtain ⟨K, hKl, hK, how, hbl⟩ := hrel.out
    clear hrel
    by_cases hlt : a < N
    · obtain ⟨r, hr⟩ : ∃ r, rs[a]? = some r := ⟨_, List.getElem?_eq_getElem (by have := hN.out; omega)⟩
      obtain ⟨b, o, rfl, c0, c1, c2, c3, c4, c5, c6, c7⟩ := (h1.out.below hbl).get hr
      have hsr := hsz.out r (List.mem_of_getElem? hr)
      obtain ⟨W1, hW1⟩ : ∃ W1, Hid (W1 = wo.alloc (.cells #[.int .i64 r.off, .int .i64 r.tick, .string r.key, .string r.val, .bool r.gone, .int .i64 r.prod, .int .i64 r.seq, .int .i64 r.frm] 32)) := ⟨_, Lib.hid rfl⟩
      have hb2 : Below wo.heap.size wo W1 := by rw [hW1.out]; exact grewAlloc (Below.refl _ _) _
      have hX1 : Whole W1 wo.heap.size 32 (rcL r) := by rw [hW1.out]; exact Whole.new wo _ _
      have how1 := Lib.hid (own_below how hb2)
      have hB1 := Lib.hid (grew hbl hb2)
      have hM1 := lastMap_below hM.out hB1.out
      have hkf := keepF_at (dead := dead) hr
      have hyes : Hid (keptB dead r (rs.drop (a + 1)) = true → K ++ ([r] ++ keepF dead (rs.drop (a + 1))) = keepF dead rs) := Lib.hid (fun e => by rw [← hK, hkf, if_pos e]; rfl)
      have hno : Hid (keptB dead r (rs.drop (a + 1)) = false → K ++ keepF dead (rs.drop (a + 1)) = keepF dead rs) := Lib.hid (fun e => by rw [← hK, hkf, if_neg (by simp [e])])
      obtain ⟨xb, hxb⟩ : ∃ xb, Hid (wo.heap.size = xb) := ⟨_, Lib.hid rfl⟩
      rw [hxb.out] at hX1
      obtain ⟨x0, x1, x2, x3, x4, x5, x6, x7⟩ := recCells hX1
      replace hX1 := Lib.hid hX1
      have hki : (a : Int) < (N : Int) := by omega
      have hbv : keptB dead r (rs.drop (a + 1)) = (decide (kb r = []) || (!laterL (kb r) (rs.drop (a + 1)) && !deadR dead r)) := rfl
      rw [hbv] at hyes hno
      clear how hbl hb2 hkf hK hbv
      by_cases hk : kb r = []
      · have hk2 : r.key.toList.isEmpty = true := by rw [kb_nil.1 hk]; rfl
        have hk3 : r.key.toList = [] := kb_nil.1 hk
        replace hyes := Lib.hid (hyes.out (by simp [hk]))
        replace hr := Lib.hid hr
        clear hM1 hno hk
        go_upto_region 6 with fail
        rw [← show W1 = _ from hW1.out, hxb.out]
        clear hW1 hxb c0 c1 c2 c3 c4 c5 c6 c7
        go_wp2_with (with_reducible refine zAppend _ _ _ rfl ?_)
        refine Lib.hid ?_
        refine wpList_append_lies _ rfl _ _ 22 rfl w1.heap.size 32 i0 _ 8 80 Try.underlying22 hi0 hz0 hz1 hz2 rfl (by omega) _ _ _ rfl (how1.out.alloc _) _ 1 1 (rcL r) rfl rfl (World.news_of_block (heap_alloc_new _ _)) (by simp [Value.oneCell']) (by omega) (by unfold maxLen; omega) (by omega) (by have := hB1.out.size; simp; omega) (W1.heap.size + 1) (by simp) ?_
        intro gg cap2 w5 hown5 hgrow5 hat5 hlt5
        have hb5 : Below w1.heap.size w1 w5 := below_grow (hB1.out.alloc hB1.out.size _) hgrow5 (by have := hB1.out.size; simp; omega) (fun k hk => ownFar how1.out k hk)
        have hfin : Hid (∃ K : List Rc, K.length = n + 1 ∧ K ++ keepF dead (rs.drop (a + 1)) = keepF dead rs ∧ w5.ownsRow w1.heap.size 32 8 (.slice (some ⟨gg, 0, none⟩) (n + 1) cap2) (n + 1) (rcRows K) ∧ Below w1.heap.size w1 w5) := Lib.hid ⟨K ++ [r], by rw [List.length_append, hKl]; rfl, by rw [List.append_assoc]; exact hyes.out, by
          rw [rcRows_append, show rcRows [r] = rcL r from by simp [rcRows]]
          exact hown5, hb5⟩
        clear hown5 hgrow5 hat5 hb5 how1 hB1 x0 x1 x2 x3 x4 x5 x6 x7 hyes
        go_wp2_with fail
        go_roundg (gk - 1)
        case measure => omega
        case rel => exact ⟨a + 1, n + 1, cap2, some ⟨gg, 0, none⟩, by omega, by omega, by go_num, rfl, by omega, hfin⟩
      · have hk2 : r.key.toList.isEmpty = false := by simpa using fun e => hk (kb_nil.2 e)
        have hk3 : ¬ r.key.toList = [] := fun e => hk (kb_nil.2 e)
        obtain ⟨j, hjl, hjat, hja⟩ := hL.out.tell hr hk
        obtain ⟨cv, hrun, hcv, _⟩ := hM1.lookup_int (t := 52) (key := .string r.key) keyedS Try.underlying52 Try.underlying3 (zeroNum W1) (Go.WideMaps.keyOf_string_mk Try.underlying9 (by unfold maxLen; omega))
        have hcj : cv = (j : Int) := by
          have := hcv.symm.trans (hjat _)
          injection this with e1
          injection e1
        subst hcj
        clear hcv hjat hM1
        by_cases hj : j = a
        · have hl0 := hja.1 hj
          rw [hl0] at hyes hno
          have hj2 : ((j : Int) == (a : Int)) = true := by simp [hj]
          have hj3 : (j : Int) = (a : Int) := by omega
          have hdr := fun W => hdd.out r W
          cases hde : deadR dead r with
          | false =>
            rw [hde] at hyes hdr
            replace hyes := Lib.hid (hyes.out (by simp))
            replace hr := Lib.hid hr
            replace hdr := Lib.hid hdr
            subst hj
            clear hno hk hde hl0 hja hjl hj3
            go_upto_region 6 with fail
            rw [← show W1 = _ from hW1.out, hxb.out]
            clear hW1 hxb c0 c1 c2 c3 c4 c5 c6 c7
            go_wp2_with fail
            refine (hdr.out _).mono ?_
            rintro _ w2 ⟨rfl, hb3⟩
            have hB2 := Lib.hid (grew hB1.out hb3)
            have how2 := Lib.hid (own_below how1.out hb3)
            have hX2 := hX1.out.below hb3 hX1.out.lt
            clear x0 x1 x2 x3 x4 x5 x6 x7 how1 hB1 hb3 hX1
            obtain ⟨x0, x1, x2, x3, x4, x5, x6, x7⟩ := recCells hX2
            clear hX2
            go_wp2_with (with_reducible refine zAppend _ _ _ rfl ?_)
            refine Lib.hid ?_
            refine wpList_append_lies _ rfl _ _ 22 rfl w1.heap.size 32 i0 _ 8 80 Try.underlying22 hi0 hz0 hz1 hz2 rfl (by omega) _ _ _ rfl (how2.out.alloc _) _ 1 1 (rcL r) rfl rfl (World.news_of_block (heap_alloc_new _ _)) (by simp [Value.oneCell']) (by omega) (by unfold maxLen; omega) (by omega) (by have := hB2.out.size; simp; omega) (w2.heap.size + 1) (by simp) ?_
            intro gg cap2 w5 hown5 hgrow5 hat5 hlt5
            have hb5 : Below w1.heap.size w1 w5 := below_grow (hB2.out.alloc hB2.out.size _) hgrow5 (by have := hB2.out.size; simp; omega) (fun k hk => ownFar how2.out k hk)
            have hfin : Hid (∃ K : List Rc, K.length = n + 1 ∧ K ++ keepF dead (rs.drop (j + 1)) = keepF dead rs ∧ w5.ownsRow w1.heap.size 32 8 (.slice (some ⟨gg, 0, none⟩) (n + 1) cap2) (n + 1) (rcRows K) ∧ Below w1.heap.size w1 w5) := Lib.hid ⟨K ++ [r], by rw [List.length_append, hKl]; rfl, by rw [List.append_assoc]; exact hyes.out, by
              rw [rcRows_append, show rcRows [r] = rcL r from by simp [rcRows]]
              exact hown5, hb5⟩
            clear hown5 hgrow5 hat5 hb5 how2 hB2 x0 x1 x2 x3 x4 x5 x6 x7 hyes
            go_wp2_with fail
            go_roundg (gk - 1)
            case measure => omega
            case rel => exact ⟨j + 1, n + 1, cap2, some ⟨gg, 0, none⟩, by omega, by omega, by go_num, rfl, by omega, hfin⟩
          | true =>
            rw [hde] at hno hdr
            replace hno := Lib.hid (hno.out (by simp [hk]))
            replace hr := Lib.hid hr
            replace hdr := Lib.hid hdr
            subst hj
            clear hyes hk hde hl0 hja hjl hj3
            go_upto_region 6 with fail
            rw [← show W1 = _ from hW1.out, hxb.out]
            clear hW1 hxb c0 c1 c2 c3 c4 c5 c6 c7
            go_wp2_with fail
            refine (hdr.out _).mono ?_
            rintro _ w2 ⟨rfl, hb3⟩
            have hB2 := Lib.hid (grew hB1.out hb3)
            have how2 := Lib.hid (own_below how1.out hb3)
            clear how1 hB1 hb3 hX1
            have hfin : Hid (∃ K : List Rc, K.length = n ∧ K ++ keepF dead (rs.drop (j + 1)) = keepF dead rs ∧ w2.ownsRow w1.heap.size 32 8 (.slice A n cc) n (rcRows K) ∧ Below w1.heap.size w1 w2) := Lib.hid ⟨K, hKl, hno.out, how2.out, hB2.out⟩
            clear how2 hB2 hno
            go_wp2_with fail
            go_roundg (gk - 1)
            case measure => omega
            case rel => exact ⟨j + 1, n, cc, A, by omega, by omega, by go_num, rfl, by omega, hfin⟩
        · have hl0 : laterL (kb r) (rs.drop (a + 1)) = true := by
            cases hl : laterL (kb r) (rs.drop (a + 1)) with
            | true => rfl
            | false => exact absurd (hja.2 hl) hj
          have hj2 : ((j : Int) == (a : Int)) = false := by simp; omega
          have hj3 : ¬ (j : Int) = (a : Int) := by omega
          replace hno := Lib.hid (hno.out (by simp [hk, hl0]))
          replace hr := Lib.hid hr
          clear hyes hk hl0 hja
          go_upto_region 6 with fail
          rw [← show W1 = _ from hW1.out, hxb.out]
          clear hW1 hxb c0 c1 c2 c3 c4 c5 c6 c7 hX1
          have hfin : Hid (∃ K : List Rc, K.length = n ∧ K ++ keepF dead (rs.drop (a + 1)) = keepF dead rs ∧ W1.ownsRow w1.heap.size 32 8 (.slice A n cc) n (rcRows K) ∧ Below w1.heap.size w1 W1) := Lib.hid ⟨K, hKl, hno.out, how1.out, hB1.out⟩
          clear how1 hB1 hno
          go_wp2_with fail
          go_roundg (gk - 1)
          case measure => omega
          case rel => exact ⟨a + 1, n, cc, A, by omega, by omega, by go_num, rfl, by omega, hfin⟩
    · obtain rfl : a = N := by omega
      rw [hall.out, show keepF dead [] = [] from rfl, List.append_nil] at hK
      subst hK
      have hfin : Hid ((keepF dead rs).length = n ∧ RcAt wo A (keepF dead rs) ∧ Below w.heap.size w wo ∧ (keepF dead rs).length ≤ cc) := Lib.hid ⟨hKl, rcAt_own how hKl, grew hb1.out hbl, by rw [hKl]; exact own_cap how⟩
      clear how hbl hKl
      go_wp2_with fail
      go_ret
      exact ⟨A, cc, by rw [hfin.out.1]; rfl, hfin.out.2⟩

theorem keep_any (va : Option Addr) (c : Nat) (rs : List Rc) (dead : Int) (w : World) (h : RcAt w va rs) (hn : rs.length ≤ 1000) (hsz : ∀ r ∈ rs, r.key.size ≤ 100000) :
    Calls Try.prog 11 #[.slice va rs.length c, .int .i64 dead] w fun e w' => ∃ A cc, e = .returned (.slice A (keepF dead rs).length cc) ∧ RcAt w' A (keepF dead rs) ∧ Below w.heap.size w w' :=
  (keep_all va c rs dead w h hn hsz).mono fun e w' ⟨A, cc, h1, h2, h3, _⟩ => ⟨A, cc, h1, h2, h3⟩
set_option maxRecDepth 100000 in
theorem garbage_any (va : Option Addr) (c : Nat) (rs : List Rc) (dead : Int) (w : World) (h : RcAt w va rs) (hn : rs.length ≤ 1000) (hsz : ∀ r ∈ rs, r.key.size ≤ 100000) :
    Calls Try.prog 16 #[.slice va rs.length c, .int .i64 dead] w fun e w' => e = .returned (.int .i64 ((rs.length : Int) - ((keepF dead rs).length : Int))) ∧ Below w.heap.size w w' := by
  have hk := Lib.hid (keep_any va c rs dead w h hn hsz)
  have hle := keepF_len dead rs
  obtain ⟨N, hN⟩ : ∃ N, Hid (rs.length = N) := ⟨_, Lib.hid rfl⟩
  obtain ⟨M, hM⟩ : ∃ M, Hid ((keepF dead rs).length = M) := ⟨_, Lib.hid rfl⟩
  rw [hN.out, hM.out] at hk hle
  rw [hN.out, hM.out]
  rw [hN.out] at hn
  have hw1 : IntKind.i64.wrap ((N : Int) - (M : Int)) = (N : Int) - (M : Int) := IntWalk.i64_in _ (by omega)
  clear h hsz
  go_enter Try.func16, Try.ntmps16
  go_wp2_with fail
  refine hk.out.mono ?_
  rintro _ w1 ⟨A, cc, rfl, hr, hb⟩
  replace hb := Lib.hid hb
  clear hr
  go_wp2_with fail
  go_ret
  exact ⟨rfl, hb.out⟩
end Go.Proofs.Ytpfnpfbimadjkaa.W
