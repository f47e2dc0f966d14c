/- The definition's records: Decode by what lies there, Unpack. -/
import Derived.Test.YtgfamaddghajlaaRcQ
import Derived.Test.YtgfamaddghajlaaRcH
namespace Go.Proofs.Ytgfamaddghajlaa.W
open Go.RowKit Go.Sort
open Go.Proofs.Ytgfamaddghajlaa.M Go.Proofs.Ytgfamaddghajlaa.D Go.Proofs.Ytgfamaddghajlaa.Z
set_option linter.unusedVariables false
set_option linter.unusedSimpArgs false

theorem gone_beq (g : Bool) : (goneI g == 1) = g := by cases g <;> decide
theorem rdec_some (s : ByteArray) (r : Rc) (q : Nat) (w : World) (hs : s.size ≤ 100000) (hr : recAt s 0 = some (r, q)) :
    Calls Try.prog 16 #[.string s] w fun e w' => e = .returned (.agg #[.int .i64 r.off, .int .i64 r.tick, .string r.key, .string r.val, .bool r.gone, .int .i64 r.prod, .int .i64 r.seq, .int .i64 r.frm, .int .i64 (q : Int), .bool true]) ∧ Below w.heap.size w w' := by
  obtain ⟨p1, p2, p3, p4, p5, p6, p7, e1, e2, e3, e4, e5, e6, e7, e8, hok⟩ := recAt_parts hr (Nat.zero_le _)
  have hok' := hok
  obtain ⟨⟨_, a1⟩, ⟨_, a2⟩, ⟨_, a3⟩, ⟨_, a4⟩, ⟨_, a5⟩, _⟩ := hok
  have a6 : goneI r.gone ≤ 1 := by unfold goneI; split <;> omega
  have hc : chs 6 s.data.toList = some ([r.off, r.tick, r.prod, r.seq, r.frm, goneI r.gone], p6) := by
    simp only [chs, Option.bind_some, e1, e2, e3, e4, e5, e6]
    rw [if_neg (by omega)]
    simp only [Option.bind_some, e2]
    rw [if_neg (by omega)]
    simp only [Option.bind_some, e3]
    rw [if_neg (by omega)]
    simp only [Option.bind_some, e4]
    rw [if_neg (by omega)]
    simp only [Option.bind_some, e5]
    rw [if_neg (by omega)]
    simp only [Option.bind_some, e6]
    rw [if_neg (by omega)]
    rfl
  have := rdec_good s w hs r.off r.tick r.prod r.seq r.frm (goneI r.gone) p6 hc (by omega) r.key p7 e7 r.val q e8 (by rw [gone_beq]; exact hok')
  rwa [gone_beq] at this
theorem rdec_none (s : ByteArray) (w : World) (hs : s.size ≤ 100000) (hr : recAt s 0 = none) :
    Calls Try.prog 16 #[.string s] w fun e w' => e = .returned (.agg #[.int .i64 0, .int .i64 0, .string ⟨#[]⟩, .string ⟨#[]⟩, .bool false, .int .i64 0, .int .i64 0, .int .i64 0, .int .i64 0, .bool false]) ∧ Below w.heap.size w w' := by
  rcases hc : chs 6 s.data.toList with _ | ⟨vs, p⟩
  · exact rdec_num s w hs hc
  · obtain ⟨o, t, c, d, f, g, p1, p2, p3, p4, p5, rfl, e0, e1, e2, e3, e4, e5⟩ := chs_six hc
    by_cases hg : 1 < g
    · exact rdec_flag s w hs o t c d f g p hc hg
    · rcases hk : txAt s p with _ | ⟨k, q1⟩
      · exact rdec_key s w hs o t c d f g p hc hg hk
      · rcases hv : txAt s q1 with _ | ⟨v, q2⟩
        · exact rdec_val s w hs o t c d f g p hc hg k q1 hk hv
        · by_cases hok : (Rc.mk o t k v (g == 1) c d f).ok
          · exfalso
            have : recAt s 0 = some (Rc.mk o t k v (decide (g = 1)) c d f, q2) := by
              unfold recAt
              simp only [e0, Option.bind_some, e1, e2, e3, e4, e5]
              rw [if_neg hg]
              simp only [hk, Option.bind_some, hv]
              rw [if_pos (show (Rc.mk o t k v (decide (g = 1)) c d f).ok from hok)]
            rw [hr] at this; cases this
          · exact rdec_bad s w hs o t c d f g p hc hg k q1 hk v q2 hv hok

abbrev gotL (r : Rc) (q : Nat) (b : Bool) : List Value := [.int .i64 r.off, .int .i64 r.tick, .string r.key, .string r.val, .bool r.gone, .int .i64 r.prod, .int .i64 r.seq, .int .i64 r.frm, .int .i64 (q : Int), .bool b]
/-- What Unpack comes to. -/
def RUn (w : World) (s : ByteArray) (e : Ending) (w' : World) : Prop :=
  (∃ rs A c, good rs ∧ packL rs = s.data.toList ∧ e = .returned (.agg #[.slice A rs.length c, .bool true]) ∧ RcAt w' A rs ∧ Below w.heap.size w w') ∨
  ((∀ rs, good rs → packL rs ≠ s.data.toList) ∧ e = .returned (.agg #[.slice none 0 0, .bool false]) ∧ Below w.heap.size w w')

set_option maxRecDepth 100000 in
set_option maxHeartbeats 8000000 in
theorem runpack_any (s : ByteArray) (w : World) (hs : s.size ≤ 100000) :
    Calls Try.prog 22 #[.string s] w fun e w' => RUn w s e w' := by
  have hlen : s.data.toList.length = s.size := by simp
  obtain ⟨i0, hi0, hz0, hz1, hz2⟩ := info_parts infoRec
  obtain ⟨n, hn⟩ : ∃ n, Hid (w.heap.size = n) := ⟨_, Lib.hid rfl⟩
  have hR0 := Whole.new w 47 [.slice none 0 0, .bool false]
  have hB0 := (Below.refl w.heap.size w).alloc (Nat.le_refl _) (.cells #[.slice none 0 0, .bool false] 47)
  have hs0 : n + 1 ≤ (w.alloc (.cells #[.slice none 0 0, .bool false] 47)).heap.size := by rw [← hn.out]; simp
  rw [hn.out] at hR0 hB0
  replace hR0 := Lib.hid hR0
  replace hB0 := Lib.hid hB0
  go_enter Try.func22, Try.ntmps22
  go_wp2_with fail
  rw [hn.out]
  go_loopg [3, 4, 7] 100 (fun ga ov rv i wr => ∃ (k cc : Nat) (A : Option Addr) (acc : List Rc) (rest : ByteArray), k ≤ 100 ∧ 100 ≤ k + ga ∧ i = .int .i64 k ∧ ov = .slice A k cc ∧ rv = .string rest ∧
    Hid (acc.length = k ∧ (∀ r ∈ acc, r.ok) ∧ s.data.toList = packL acc ++ rest.data.toList ∧ rest.size ≤ 100000 ∧ wr.ownsRow (n + 1) 23 8 (.slice A k cc) k (rcRows acc) ∧ Whole wr n 47 [.slice none 0 0, .bool false] ∧ Below n w wr ∧ n + 1 ≤ wr.heap.size))
  case atStart => exact ⟨0, 0, none, [], s, by omega, by omega, rfl, rfl, rfl, Lib.hid ⟨rfl, by simp, by simp [packL], hs, own_nilR, hR0.out, hB0.out, hs0⟩⟩
  case round =>
    clear hR0 hB0 hs0
    obtain ⟨k, cc, A, acc, rest, hk, hga, rfl, rfl, rfl, hrel⟩ := hrel
    obtain ⟨hal, hall, hby, hrs, how, hR, hB, hsz⟩ := hrel.out
    clear hrel
    generalize wr = wo at *
    -- what is told where all has been read
    have hwr : rest.size = 0 → ∃ x : Int, Calls Try.prog 18 #[.slice A k cc] wo (fun e w' => e = .returned (.int .i64 x) ∧ Below wo.heap.size wo w') ∧ ((x = 0 ∧ good acc ∧ packL acc = s.data.toList) ∨ (x ≠ 0 ∧ ∀ rs, good rs → packL rs ≠ s.data.toList)) := fun h0 => by
      have hre : rest.data.toList = [] := List.eq_nil_of_length_eq_zero (by simpa using h0)
      have hpk : packL acc = s.data.toList := by rw [hby, hre, List.append_nil]
      obtain ⟨x, hx, hc⟩ := rwrong_is A cc acc wo (rcAt_own how hal) (by omega)
      rw [hal] at hc
      have hu : ∀ rs, good rs → packL rs = s.data.toList → rs = acc := fun rs hg he => packL_inj hall hg.1.2.1 (he.trans hpk.symm)
      refine ⟨x, hc, ?_⟩
      rcases hx with ⟨rfl, hnf⟩ | ⟨hf, hx⟩
      · exact .inr ⟨by decide, fun rs hg he => hnf (by rw [← hu rs hg he]; exact hg.1)⟩
      · by_cases hbad : 8 < acc.length ∨ 773 < (packL acc).length
        · rw [if_pos hbad] at hx
          exact .inr ⟨by rw [hx]; decide, fun rs hg he => by have h1 := hg.2; rw [hu rs hg he] at h1; omega⟩
        · rw [if_neg hbad] at hx
          exact .inl ⟨hx, ⟨hf, by omega, by omega⟩, hpk⟩
    by_cases hlt : k < 100
    · by_cases he : rest.size = 0
      · have hlt2 : (k : Int) < 100 := by omega
        obtain ⟨x, hwc, hx⟩ := hwr he
        replace hwc := Lib.hid hwc
        replace hR := Lib.hid hR
        replace hB := Lib.hid hB
        replace how := Lib.hid how
        have het := (toList_nil rest).2 he
        have het2 : rest.toList.isEmpty = true := by rw [het]; rfl
        rcases hx with ⟨rfl, hgp⟩ | ⟨hx, hno⟩
        · replace hgp := Lib.hid hgp
          clear hwr hall hby
          go_wp2_with fail
          refine hwc.out.mono ?_
          rintro e w2 ⟨rfl, hb2⟩
          have hR2 := hR.out.below hb2 hR.out.lt
          have hB2 := Lib.hid (hB.out.trans (hb2.mono (show n ≤ wo.heap.size by omega)))
          have how2 := Lib.hid (own_of_kept (own := fun _ => False) how.out (Kept.of_below hb2) (fun _ _ e => e))
          have hs2 : n + 1 ≤ w2.heap.size := Nat.le_trans hsz hb2.size
          have c0 : w2.cell? ⟨n, 0, none⟩ = some (.slice none 0 0) := hR2.cell 0
          have c1 : w2.cell? ⟨n, 1, none⟩ = some (.bool false) := hR2.cell 1
          have z0 := hR2.frozen 0
          have z1 := hR2.frozen 1
          replace hR2 := Lib.hid hR2
          clear hb2 hwc hR hB how
          go_wp2_with fail
          have hRf : Whole (w2.setCells n 0 [.slice A k cc, .bool true]) n 47 [.slice A k cc, .bool true] := hR2.out.store 0 [.slice A k cc, .bool true] (by simp)
          have f0 : (w2.setCells n 0 [.slice A k cc, .bool true]).cell? ⟨n, 0, none⟩ = some (.slice A k cc) := hRf.cell 0
          have f1 : (w2.setCells n 0 [.slice A k cc, .bool true]).cell? ⟨n, 1, none⟩ = some (.bool true) := hRf.cell 1
          have hkf : Kept (fun q => q = n) w2 (w2.setCells n 0 [.slice A k cc, .bool true]) := (Kept.refl (fun q => q = n) w2).setCells (c := n) (.inl rfl) 0 _
          have hfin : RUn w s (.returned (.agg #[.slice A k cc, .bool true])) (w2.setCells n 0 [.slice A k cc, .bool true]) :=
            .inl ⟨acc, A, cc, hgp.out.1, hgp.out.2, by rw [hal], rcAt_own (own_of_kept how2.out hkf (fun j hj e => by have := ownFar how2.out j hj; omega)) hal, by rw [hn.out]; exact hB2.out.trans (hkf.below (by omega) (fun k e => by omega))⟩
          simp only [World.setCells, Nat.zero_add, Nat.reduceAdd] at f0 f1
          exact bodyPost_ret (v := .agg #[.slice A k cc, .bool true]) (by simp [results, Try.results22, go_sem, f0, f1]) rfl hfin
        · have hx2 : (x != 0) = true := by simpa using hx
          replace hno := Lib.hid hno
          clear hwr hall hby hx how
          go_wp2_with fail
          refine hwc.out.mono ?_
          rintro e w2 ⟨rfl, hb2⟩
          have hR2 := hR.out.below hb2 hR.out.lt
          have hB2 := Lib.hid (hB.out.trans (hb2.mono (show n ≤ wo.heap.size by omega)))
          have hs2 : n + 1 ≤ w2.heap.size := Nat.le_trans hsz hb2.size
          clear hb2 hwc hR hB
          have c0 : w2.cell? ⟨n, 0, none⟩ = some (.slice none 0 0) := hR2.cell 0
          have c1 : w2.cell? ⟨n, 1, none⟩ = some (.bool false) := hR2.cell 1
          have z0 := hR2.frozen 0
          have z1 := hR2.frozen 1
          replace hR2 := Lib.hid hR2
          go_wp2_with fail
          have hRf : Whole (w2.setCells n 0 [.slice none 0 0, .bool false]) n 47 [.slice none 0 0, .bool false] := hR2.out.store 0 [.slice none 0 0, .bool false] (by simp)
          have f0 : (w2.setCells n 0 [.slice none 0 0, .bool false]).cell? ⟨n, 0, none⟩ = some (.slice none 0 0) := hRf.cell 0
          have f1 : (w2.setCells n 0 [.slice none 0 0, .bool false]).cell? ⟨n, 1, none⟩ = some (.bool false) := hRf.cell 1
          have hkf : Kept (fun q => q = n) w2 (w2.setCells n 0 [.slice none 0 0, .bool false]) := (Kept.refl (fun q => q = n) w2).setCells (c := n) (.inl rfl) 0 _
          have hfin : RUn w s (.returned (.agg #[.slice none 0 0, .bool false])) (w2.setCells n 0 [.slice none 0 0, .bool false]) :=
            .inr ⟨hno.out, rfl, by rw [hn.out]; exact hB2.out.trans (hkf.below (by omega) (fun k e => by omega))⟩
          simp only [World.setCells, Nat.zero_add, Nat.reduceAdd] at f0 f1
          exact bodyPost_ret (v := .agg #[.slice none 0 0, .bool false]) (by simp [results, Try.results22, go_sem, f0, f1]) rfl hfin
      · have het : ¬ rest.toList = [] := fun e => he ((toList_nil rest).1 e)
        have het2 : rest.toList.isEmpty = false := by cases hh : rest.toList with | nil => exact absurd hh het | cons a b => rfl
        have hltI : (k : Int) < 100 := by omega
        replace hR := Lib.hid hR
        replace hB := Lib.hid hB
        replace how := Lib.hid how
        clear hwr
        rcases hr : recAt rest 0 with _ | ⟨r, q⟩
        · have hdc := Lib.hid (fun W => rdec_none rest W hrs hr)
          have hno : Hid (∀ rs, good rs → packL rs ≠ s.data.toList) := Lib.hid (fun rs hg hp => by
            obtain ⟨c, rfl, hc⟩ := packL_prefix acc rs rest.data.toList hall hg.1.2.1 (hp.trans hby)
            cases c with
            | nil => exact he (by have := congrArg List.length hc; simpa [packL] using this.symm)
            | cons r c =>
              have := recAt_rec (s := rest) (p := 0) (t := packL c) (hg.1.2.1 r (by simp)) (by rw [List.drop_zero]; exact hc.symm)
              rw [hr] at this; cases this)
          clear hr hby hall
          go_wp2_with fail
          refine (hdc.out _).mono ?_
          rintro e w2 ⟨rfl, hb2⟩
          have hR2 := hR.out.below hb2 hR.out.lt
          have hB2 := hB.out.trans (hb2.mono (show n ≤ wo.heap.size by omega))
          have how2 := own_of_kept (own := fun _ => False) how.out (Kept.of_below hb2) (fun _ _ e => e)
          have hs2 : n + 1 ≤ w2.heap.size := Nat.le_trans hsz hb2.size
          obtain ⟨b3, hb3⟩ : ∃ b, Hid (w2.heap.size = b) := ⟨_, Lib.hid rfl⟩
          have hG0 := Whole.new w2 35 [.int .i64 0, .int .i64 0, .string ⟨#[]⟩, .string ⟨#[]⟩, .bool false, .int .i64 0, .int .i64 0, .int .i64 0, .int .i64 0, .bool false]
          rw [hb3.out] at hG0
          have hK3 : Kept (fun q => q = b3) w2 ((w2.alloc (.cells #[.int .i64 0, .int .i64 0, .string ⟨#[]⟩, .string ⟨#[]⟩, .bool false, .int .i64 0, .int .i64 0, .int .i64 0, .int .i64 0, .bool false] 35)).setCells b3 0 [.int .i64 0, .int .i64 0, .string ⟨#[]⟩, .string ⟨#[]⟩, .bool false, .int .i64 0, .int .i64 0, .int .i64 0, .int .i64 0, .bool false]) := ((Kept.refl (fun q => q = b3) w2).alloc _).setCells (c := b3) (.inl rfl) 0 _
          have hG3 := Z.whole_all hG0 (vs := [.int .i64 0, .int .i64 0, .string ⟨#[]⟩, .string ⟨#[]⟩, .bool false, .int .i64 0, .int .i64 0, .int .i64 0, .int .i64 0, .bool false]) rfl
          obtain ⟨W3, hW3⟩ : ∃ W, Hid (W = (w2.alloc (.cells #[.int .i64 0, .int .i64 0, .string ⟨#[]⟩, .string ⟨#[]⟩, .bool false, .int .i64 0, .int .i64 0, .int .i64 0, .int .i64 0, .bool false] 35)).setCells b3 0 [.int .i64 0, .int .i64 0, .string ⟨#[]⟩, .string ⟨#[]⟩, .bool false, .int .i64 0, .int .i64 0, .int .i64 0, .int .i64 0, .bool false]) := ⟨_, Lib.hid rfl⟩
          rw [← show W3 = _ from hW3.out] at hK3 hG3
          have hs3 : n + 1 ≤ W3.heap.size := Nat.le_trans hs2 hK3.size
          have hbn : n + 1 ≤ b3 := by have := hb3.out; omega
          have hbz : ∀ q, q < w2.heap.size → ¬ q = b3 := fun q hq e => by have := hb3.out; omega
          have hR3 := hR2.of_kept hK3 (by omega)
          have hB3 := hB2.trans (hK3.below (by omega) (fun k e => by omega))
          have how3 := own_of_kept how2 hK3 (fun j hj e => by
            rcases how2.2 with ⟨h1, _⟩ | ⟨g, cap, cur, h1, _, h3, _⟩
            · rw [h1] at hj; cases hj
            · rw [h1] at hj
              have e2 : g = j := by simpa [Value.ownBlock] using hj
              have := (Array.getElem?_eq_some_iff.1 h3).1
              have := hb3.out
              omega)
          have g0 : W3.cell? ⟨b3, 0, none⟩ = _ := hG3.cell 0
          have g1 : W3.cell? ⟨b3, 1, none⟩ = _ := hG3.cell 1
          have g2 : W3.cell? ⟨b3, 2, none⟩ = _ := hG3.cell 2
          have g3 : W3.cell? ⟨b3, 3, none⟩ = _ := hG3.cell 3
          have g4 : W3.cell? ⟨b3, 4, none⟩ = _ := hG3.cell 4
          have g5 : W3.cell? ⟨b3, 5, none⟩ = _ := hG3.cell 5
          have g6 : W3.cell? ⟨b3, 6, none⟩ = _ := hG3.cell 6
          have g7 : W3.cell? ⟨b3, 7, none⟩ = _ := hG3.cell 7
          have g8 : W3.cell? ⟨b3, 8, none⟩ = _ := hG3.cell 8
          have g9 : W3.cell? ⟨b3, 9, none⟩ = _ := hG3.cell 9
          simp only [List.getElem?_cons_zero, List.getElem?_cons_succ] at g0 g1 g2 g3 g4 g5 g6 g7 g8 g9
          replace hR3 := Lib.hid hR3
          replace hB3 := Lib.hid hB3
          replace how3 := Lib.hid how3
          replace hG0 := Lib.hid hG0
          clear hR hB how hb2 hR2 hB2 how2 hK3 hG3 hbz
          go_wp2_with (with_reducible refine zStore 35 _ _ rfl ?_)
          refine Lib.hid ?_
          rw [hb3.out]
          refine wpList_store_mid rfl 35 _ _ rfl b3 0 #[.int .i64 0, .int .i64 0, .string ⟨#[]⟩, .string ⟨#[]⟩, .bool false, .int .i64 0, .int .i64 0, .int .i64 0, .int .i64 0, .bool false] rfl rfl (hG0.out.there 0 10 (by simp)) sizeG10 (by simp [Value.oneCell']) ?_
          rw [← show W3 = _ from hW3.out]
          clear hW3 hG0
          have c0 : W3.cell? ⟨n, 0, none⟩ = some (.slice none 0 0) := hR3.out.cell 0
          have c1 : W3.cell? ⟨n, 1, none⟩ = some (.bool false) := hR3.out.cell 1
          have z0 := hR3.out.frozen 0
          have z1 := hR3.out.frozen 1
          replace hR3 := Lib.hid hR3.out
          go_wp2_with fail
          have hRf : Whole (W3.setCells n 0 [.slice none 0 0, .bool false]) n 47 [.slice none 0 0, .bool false] := hR3.out.store 0 [.slice none 0 0, .bool false] (by simp)
          have f0 : (W3.setCells n 0 [.slice none 0 0, .bool false]).cell? ⟨n, 0, none⟩ = some (.slice none 0 0) := hRf.cell 0
          have f1 : (W3.setCells n 0 [.slice none 0 0, .bool false]).cell? ⟨n, 1, none⟩ = some (.bool false) := hRf.cell 1
          have hkf : Kept (fun q => q = n) W3 (W3.setCells n 0 [.slice none 0 0, .bool false]) := (Kept.refl (fun q => q = n) W3).setCells (c := n) (.inl rfl) 0 _
          have hfin : RUn w s (.returned (.agg #[.slice none 0 0, .bool false])) (W3.setCells n 0 [.slice none 0 0, .bool false]) :=
            .inr ⟨hno.out, rfl, by rw [hn.out]; exact hB3.out.trans (hkf.below (by omega) (fun k e => by omega))⟩
          simp only [World.setCells, Nat.zero_add, Nat.reduceAdd] at f0 f1
          exact bodyPost_ret (v := .agg #[.slice none 0 0, .bool false]) (by simp [results, Try.results22, go_sem, f0, f1]) rfl hfin
        · have hdc := Lib.hid (fun W => rdec_some rest r q W hrs hr)
          obtain ⟨hro, hq0, hql, hdr⟩ := recAt_back hr (Nat.zero_le _)
          rw [List.drop_zero] at hdr
          have hby2 : s.data.toList = packL (acc ++ [r]) ++ (rest.extract q rest.size).data.toList := by
            rw [packL_snoc, ext_drop, List.append_assoc, ← hdr]; exact hby
          have hrs2 : (rest.extract q rest.size).size ≤ 100000 := by rw [ByteArray.size_extract]; omega
          have hall2 : ∀ x ∈ acc ++ [r], x.ok := fun x hx => by
            rcases List.mem_append.1 hx with hx | hx
            · exact hall x hx
            · obtain rfl : x = r := by simpa using hx
              exact hro
          have hsl := slice_from rest q hql
          have hkeep := Lib.hid (And.intro (show (acc ++ [r]).length = k + 1 by rw [List.length_append, hal]; rfl) (And.intro hall2 (And.intro hby2 hrs2)))
          clear hr hby hall hdr hby2 hall2 hro
          go_wp2_with fail
          refine (hdc.out _).mono ?_
          rintro e w2 ⟨rfl, hb2⟩
          have hR2 := hR.out.below hb2 hR.out.lt
          have hB2 := hB.out.trans (hb2.mono (show n ≤ wo.heap.size by omega))
          have how2 := own_of_kept (own := fun _ => False) how.out (Kept.of_below hb2) (fun _ _ e => e)
          have hs2 : n + 1 ≤ w2.heap.size := Nat.le_trans hsz hb2.size
          obtain ⟨b3, hb3⟩ : ∃ b, Hid (w2.heap.size = b) := ⟨_, Lib.hid rfl⟩
          have hG0 := Whole.new w2 35 [.int .i64 0, .int .i64 0, .string ⟨#[]⟩, .string ⟨#[]⟩, .bool false, .int .i64 0, .int .i64 0, .int .i64 0, .int .i64 0, .bool false]
          rw [hb3.out] at hG0
          have hK3 : Kept (fun q => q = b3) w2 ((w2.alloc (.cells #[.int .i64 0, .int .i64 0, .string ⟨#[]⟩, .string ⟨#[]⟩, .bool false, .int .i64 0, .int .i64 0, .int .i64 0, .int .i64 0, .bool false] 35)).setCells b3 0 [.int .i64 r.off, .int .i64 r.tick, .string r.key, .string r.val, .bool r.gone, .int .i64 r.prod, .int .i64 r.seq, .int .i64 r.frm, .int .i64 (q : Int), .bool true]) := ((Kept.refl (fun q => q = b3) w2).alloc _).setCells (c := b3) (.inl rfl) 0 _
          have hG3 := Z.whole_all hG0 (vs := [.int .i64 r.off, .int .i64 r.tick, .string r.key, .string r.val, .bool r.gone, .int .i64 r.prod, .int .i64 r.seq, .int .i64 r.frm, .int .i64 (q : Int), .bool true]) rfl
          obtain ⟨W3, hW3⟩ : ∃ W, Hid (W = (w2.alloc (.cells #[.int .i64 0, .int .i64 0, .string ⟨#[]⟩, .string ⟨#[]⟩, .bool false, .int .i64 0, .int .i64 0, .int .i64 0, .int .i64 0, .bool false] 35)).setCells b3 0 [.int .i64 r.off, .int .i64 r.tick, .string r.key, .string r.val, .bool r.gone, .int .i64 r.prod, .int .i64 r.seq, .int .i64 r.frm, .int .i64 (q : Int), .bool true]) := ⟨_, Lib.hid rfl⟩
          rw [← show W3 = _ from hW3.out] at hK3 hG3
          have hs3 : n + 1 ≤ W3.heap.size := Nat.le_trans hs2 hK3.size
          have hbn : n + 1 ≤ b3 := by have := hb3.out; omega
          have hbz : ∀ q, q < w2.heap.size → ¬ q = b3 := fun q hq e => by have := hb3.out; omega
          have hR3 := hR2.of_kept hK3 (by omega)
          have hB3 := hB2.trans (hK3.below (by omega) (fun k e => by omega))
          have how3 := own_of_kept how2 hK3 (fun j hj e => by
            rcases how2.2 with ⟨h1, _⟩ | ⟨g, cap, cur, h1, _, h3, _⟩
            · rw [h1] at hj; cases hj
            · rw [h1] at hj
              have e2 : g = j := by simpa [Value.ownBlock] using hj
              have := (Array.getElem?_eq_some_iff.1 h3).1
              have := hb3.out
              omega)
          have g0 : W3.cell? ⟨b3, 0, none⟩ = _ := hG3.cell 0
          have g1 : W3.cell? ⟨b3, 1, none⟩ = _ := hG3.cell 1
          have g2 : W3.cell? ⟨b3, 2, none⟩ = _ := hG3.cell 2
          have g3 : W3.cell? ⟨b3, 3, none⟩ = _ := hG3.cell 3
          have g4 : W3.cell? ⟨b3, 4, none⟩ = _ := hG3.cell 4
          have g5 : W3.cell? ⟨b3, 5, none⟩ = _ := hG3.cell 5
          have g6 : W3.cell? ⟨b3, 6, none⟩ = _ := hG3.cell 6
          have g7 : W3.cell? ⟨b3, 7, none⟩ = _ := hG3.cell 7
          have g8 : W3.cell? ⟨b3, 8, none⟩ = _ := hG3.cell 8
          have g9 : W3.cell? ⟨b3, 9, none⟩ = _ := hG3.cell 9
          simp only [List.getElem?_cons_zero, List.getElem?_cons_succ] at g0 g1 g2 g3 g4 g5 g6 g7 g8 g9
          replace hR3 := Lib.hid hR3
          replace hB3 := Lib.hid hB3
          replace how3 := Lib.hid how3
          have hgc := Lib.hid hG3
          replace hG0 := Lib.hid hG0
          clear hR hB how hb2 hR2 hB2 how2 hK3 hG3 hbz
          go_wp2_with (with_reducible refine zStore 35 _ _ rfl ?_)
          refine Lib.hid ?_
          rw [hb3.out]
          refine wpList_store_mid rfl 35 _ _ rfl b3 0 #[.int .i64 r.off, .int .i64 r.tick, .string r.key, .string r.val, .bool r.gone, .int .i64 r.prod, .int .i64 r.seq, .int .i64 r.frm, .int .i64 (q : Int), .bool true] rfl rfl (hG0.out.there 0 10 (by simp)) sizeG10 (by simp [Value.oneCell']) ?_
          rw [← show W3 = _ from hW3.out]
          clear hW3 hG0
          go_wp2_with (with_reducible refine zAppend _ _ _ rfl ?_)
          refine Lib.hid ?_
          refine wpList_append_lies _ rfl _ _ 38 rfl (n + 1) 23 i0 _ 8 80 Try.underlying38 hi0 hz0 hz1 hz2 rfl (by omega) _ _ _ rfl (how3.out.alloc _) _ 1 1 (rcL r) rfl rfl (World.news_of_block (heap_alloc_new _ _)) (by simp [Value.oneCell']) (by omega) (by unfold maxLen; omega) (by omega) (by simp; omega) (W3.heap.size + 1) (by simp) ?_
          intro gg cap2 w5 hown5 hgrow5 hat5 hlt5
          have hk5 : Kept (fun q => n + 1 ≤ q) W3 w5 := ((Kept.refl (fun q => n + 1 ≤ q) W3).alloc _).grown hgrow5 (fun k hk => .inl (ownFar how3.out k hk))
          have hk6 : Kept (fun q => (Value.slice A k cc).ownBlock = some q) W3 w5 := ((Kept.refl (fun q => (Value.slice A k cc).ownBlock = some q) W3).alloc _).grown hgrow5 (fun k hk => .inl hk)
          have hown6 : w5.ownsRow (n + 1) 23 8 (.slice (some ⟨gg, 0, none⟩) (k + 1) cap2) (k + 1) (rcRows (acc ++ [r])) := by
            rw [rcRows_append, show rcRows [r] = rcL r from by simp [rcRows]]
            exact hown5
          have hR5 := hR3.out.of_kept hk5 (by omega)
          have hB5 := hB3.out.trans (hk5.below (B := n) (by omega) (fun k e => by omega))
          have hnb : (Value.slice A k cc).ownBlock ≠ some b3 := fun e => by
            rcases how3.out.2 with ⟨h1, _⟩ | ⟨g, cap, cur, h1, _, h3, _⟩
            · rw [h1] at e; cases e
            · rw [h1] at e
              have e2 : g = b3 := by simpa [Value.ownBlock] using e
              subst e2
              have h4 := hgc.out
              unfold Whole at h4
              rw [h3] at h4
              injection h4 with h4
              injection h4 with _ h4 _
              exact absurd h4 (by decide)
          have hG5 := hgc.out.of_kept hk6 hnb
          have g8 : w5.cell? ⟨b3, 8, none⟩ = some (.int .i64 (q : Int)) := hG5.cell 8
          have hfin := Lib.hid (And.intro hkeep.out.1 (And.intro hkeep.out.2.1 (And.intro hkeep.out.2.2.1 (And.intro hkeep.out.2.2.2 (And.intro hown6 (And.intro hR5 (And.intro hB5 (Nat.le_trans hs3 hk5.size))))))))
          clear hown5 hgrow5 hat5 hown6 hR5 hB5 hk5 hk6 hnb hG5 how3 hR3 hB3 hgc g0 g1 g2 g3 g4 g5 g6 g7 g9
          go_wp2_with fail
          go_roundg (gk - 1)
          case measure => omega
          case rel => exact ⟨k + 1, cap2, some ⟨gg, 0, none⟩, acc ++ [r], rest.extract q rest.size, by omega, by omega, by go_num, rfl, rfl, hfin⟩
    · have hkN := Lib.hid (show k = 100 by omega)
      have hltI : ¬ (k : Int) < 100 := by omega
      by_cases he : rest.size = 0
      · obtain ⟨x, hwc, hx⟩ := hwr he
        replace hwc := Lib.hid hwc
        replace hR := Lib.hid hR
        replace hB := Lib.hid hB
        replace how := Lib.hid how
        have het := (toList_nil rest).2 he
        have het2 : rest.toList.isEmpty = true := by rw [het]; rfl
        rcases hx with ⟨rfl, hgp⟩ | ⟨hx, hno⟩
        · replace hgp := Lib.hid hgp
          clear hwr hall hby
          go_wp2_with fail
          refine hwc.out.mono ?_
          rintro e w2 ⟨rfl, hb2⟩
          have hR2 := hR.out.below hb2 hR.out.lt
          have hB2 := Lib.hid (hB.out.trans (hb2.mono (show n ≤ wo.heap.size by omega)))
          have how2 := Lib.hid (own_of_kept (own := fun _ => False) how.out (Kept.of_below hb2) (fun _ _ e => e))
          have hs2 : n + 1 ≤ w2.heap.size := Nat.le_trans hsz hb2.size
          have c0 : w2.cell? ⟨n, 0, none⟩ = some (.slice none 0 0) := hR2.cell 0
          have c1 : w2.cell? ⟨n, 1, none⟩ = some (.bool false) := hR2.cell 1
          have z0 := hR2.frozen 0
          have z1 := hR2.frozen 1
          replace hR2 := Lib.hid hR2
          clear hb2 hwc hR hB how
          go_wp2_with fail
          have hRf : Whole (w2.setCells n 0 [.slice A k cc, .bool true]) n 47 [.slice A k cc, .bool true] := hR2.out.store 0 [.slice A k cc, .bool true] (by simp)
          have f0 : (w2.setCells n 0 [.slice A k cc, .bool true]).cell? ⟨n, 0, none⟩ = some (.slice A k cc) := hRf.cell 0
          have f1 : (w2.setCells n 0 [.slice A k cc, .bool true]).cell? ⟨n, 1, none⟩ = some (.bool true) := hRf.cell 1
          have hkf : Kept (fun q => q = n) w2 (w2.setCells n 0 [.slice A k cc, .bool true]) := (Kept.refl (fun q => q = n) w2).setCells (c := n) (.inl rfl) 0 _
          have hfin : RUn w s (.returned (.agg #[.slice A k cc, .bool true])) (w2.setCells n 0 [.slice A k cc, .bool true]) :=
            .inl ⟨acc, A, cc, hgp.out.1, hgp.out.2, by rw [hal], rcAt_own (own_of_kept how2.out hkf (fun j hj e => by have := ownFar how2.out j hj; omega)) hal, by rw [hn.out]; exact hB2.out.trans (hkf.below (by omega) (fun k e => by omega))⟩
          simp only [World.setCells, Nat.zero_add, Nat.reduceAdd] at f0 f1
          exact bodyPost_ret (v := .agg #[.slice A k cc, .bool true]) (by simp [results, Try.results22, go_sem, f0, f1]) rfl hfin
        · have hx2 : (x != 0) = true := by simpa using hx
          replace hno := Lib.hid hno
          clear hwr hall hby hx how
          go_wp2_with fail
          refine hwc.out.mono ?_
          rintro e w2 ⟨rfl, hb2⟩
          have hR2 := hR.out.below hb2 hR.out.lt
          have hB2 := Lib.hid (hB.out.trans (hb2.mono (show n ≤ wo.heap.size by omega)))
          have hs2 : n + 1 ≤ w2.heap.size := Nat.le_trans hsz hb2.size
          clear hb2 hwc hR hB
          have c0 : w2.cell? ⟨n, 0, none⟩ = some (.slice none 0 0) := hR2.cell 0
          have c1 : w2.cell? ⟨n, 1, none⟩ = some (.bool false) := hR2.cell 1
          have z0 := hR2.frozen 0
          have z1 := hR2.frozen 1
          replace hR2 := Lib.hid hR2
          go_wp2_with fail
          have hRf : Whole (w2.setCells n 0 [.slice none 0 0, .bool false]) n 47 [.slice none 0 0, .bool false] := hR2.out.store 0 [.slice none 0 0, .bool false] (by simp)
          have f0 : (w2.setCells n 0 [.slice none 0 0, .bool false]).cell? ⟨n, 0, none⟩ = some (.slice none 0 0) := hRf.cell 0
          have f1 : (w2.setCells n 0 [.slice none 0 0, .bool false]).cell? ⟨n, 1, none⟩ = some (.bool false) := hRf.cell 1
          have hkf : Kept (fun q => q = n) w2 (w2.setCells n 0 [.slice none 0 0, .bool false]) := (Kept.refl (fun q => q = n) w2).setCells (c := n) (.inl rfl) 0 _
          have hfin : RUn w s (.returned (.agg #[.slice none 0 0, .bool false])) (w2.setCells n 0 [.slice none 0 0, .bool false]) :=
            .inr ⟨hno.out, rfl, by rw [hn.out]; exact hB2.out.trans (hkf.below (by omega) (fun k e => by omega))⟩
          simp only [World.setCells, Nat.zero_add, Nat.reduceAdd] at f0 f1
          exact bodyPost_ret (v := .agg #[.slice none 0 0, .bool false]) (by simp [results, Try.results22, go_sem, f0, f1]) rfl hfin
      · have het : ¬ rest.toList = [] := fun e => he ((toList_nil rest).1 e)
        have het2 : rest.toList.isEmpty = false := by cases hh : rest.toList with | nil => exact absurd hh het | cons a b => rfl
        have hno : Hid (∀ rs, good rs → packL rs ≠ s.data.toList) := Lib.hid (fun rs hg hp => by
          obtain ⟨c, rfl, _⟩ := packL_prefix acc rs rest.data.toList hall hg.1.2.1 (hp.trans hby)
          have := hg.2.1
          rw [List.length_append, hal, hkN.out] at this
          omega)
        replace hR := Lib.hid hR
        replace hB := Lib.hid hB
        clear hwr hall hby how
        have c0 : wo.cell? ⟨n, 0, none⟩ = some (.slice none 0 0) := hR.out.cell 0
        have c1 : wo.cell? ⟨n, 1, none⟩ = some (.bool false) := hR.out.cell 1
        have z0 := hR.out.frozen 0
        have z1 := hR.out.frozen 1
        replace hR := Lib.hid hR.out
        go_wp2_with fail
        have hRf : Whole (wo.setCells n 0 [.slice none 0 0, .bool false]) n 47 [.slice none 0 0, .bool false] := hR.out.store 0 [.slice none 0 0, .bool false] (by simp)
        have f0 : (wo.setCells n 0 [.slice none 0 0, .bool false]).cell? ⟨n, 0, none⟩ = some (.slice none 0 0) := hRf.cell 0
        have f1 : (wo.setCells n 0 [.slice none 0 0, .bool false]).cell? ⟨n, 1, none⟩ = some (.bool false) := hRf.cell 1
        have hkf : Kept (fun q => q = n) wo (wo.setCells n 0 [.slice none 0 0, .bool false]) := (Kept.refl (fun q => q = n) wo).setCells (c := n) (.inl rfl) 0 _
        have hfin : RUn w s (.returned (.agg #[.slice none 0 0, .bool false])) (wo.setCells n 0 [.slice none 0 0, .bool false]) :=
          .inr ⟨hno.out, rfl, by rw [hn.out]; exact hB.out.trans (hkf.below (by omega) (fun k e => by omega))⟩
        simp only [World.setCells, Nat.zero_add, Nat.reduceAdd] at f0 f1
        exact bodyPost_ret (v := .agg #[.slice none 0 0, .bool false]) (by simp [results, Try.results22, go_sem, f0, f1]) rfl hfin
end Go.Proofs.Ytgfamaddghajlaa.W
