/- What lies in the places of segments; segment.Load of a view beside blocks; package scan's load and All; the law's loaded. Package scan's load and All: the segments of a view. -/
import Derived.Test.YtbbhnbdekblghaaGreatDoorLgA
import Derived.Test.YtbbhnbdekblghaaGreatDoorSgT
section
namespace Go.Proofs.YtbbhnbdekblghaaGreatDoor.W
open Go.RowKit Go.Sort
open Go.Proofs.YtbbhnbdekblghaaGreatDoor.M Go.Proofs.YtbbhnbdekblghaaGreatDoor.D Go.Proofs.YtbbhnbdekblghaaGreatDoor.Z
set_option linter.unusedVariables false

/-- A segment as it lies: its header, its frames. -/
structure Hd where
  (a g s b : Nat)
  fs : List (Int × ByteArray)
structure Hd.Ok (x : Hd) : Prop where
  a1 : 1 ≤ x.a
  a2 : x.a < 65536
  g2 : x.g < 4294967296
  s2 : x.s < 4294967296
  b2 : x.b ≤ 1099511627776
/-- What lies in the place n. -/
def Lies (lie : List (List UInt8)) (ws : List (Nat × List UInt8)) (f n : Nat) : Option Hd → Prop
  | none => ∃ y, (secOf lie ws f n)[0]? = some y ∧ ¬ headS y
  | some x => x.Ok ∧ LayB (secOf lie ws f n) x.s x.fs ∧ (secOf lie ws f n)[0]? = some (sealP x.s 1 (B (pcL (headerL x.a x.g x.s x.b) 0)))
def Sr.hd (r : Sr) : Hd := ⟨r.a, r.g, r.s, r.b, r.fs⟩
section
variable {w0 W W' : World} {vb d g' from_ m n : Nat} {lie : List (List UInt8)} {ws : List (Nat × List UInt8)} {steps : Int} {K : List Bk}
theorem VB.load_no (h : VB w0 vb d g' lie ws from_ m steps K W) (hr : Room from_ m n) (hT : Wide w0) (hw : ws.length ≤ 90000) (hl : Lies lie ws from_ n none) :
    Calls Tryz.prog 59 #[.pointer (some ⟨vb, 0, none⟩), .int .i64 (n : Int)] W fun e w' => e = .returned (.tuple #[.pointer none, .int .i64 4]) ∧ VB w0 vb d g' lie ws from_ m steps K w' := by
  obtain ⟨y, h1, h2⟩ := hl
  refine (la_load_no y h.view hr (hT.below h.since) (by omega) h1 h2).mono ?_
  rintro e w' ⟨r1, r2⟩
  exact ⟨r1, h.below r2⟩
theorem VB.load_out {q : Nat} (i : Int) (h : VB w0 vb d g' lie ws from_ m steps K W) (hq : m = q + 2) (hq2 : q ≤ 1000) (hi : ¬ (0 ≤ i ∧ i < ((q / 16 : Nat) : Int))) :
    Calls Tryz.prog 59 #[.pointer (some ⟨vb, 0, none⟩), .int .i64 i] W fun e w' => e = .returned (.tuple #[.pointer none, .int .i64 20]) ∧ VB w0 vb d g' lie ws from_ m steps K w' := by
  obtain ⟨v, k1, k2, k3⟩ := id h.view
  refine (Go.Proofs.YtbbhnbdekblghaaGreatDoor.W.load_out i q k1 hq (by omega) hi).mono ?_
  rintro e w' ⟨r1, rfl⟩
  exact ⟨r1, h⟩
theorem VB.load_yes {x : Hd} (h : VB w0 vb d g' lie ws from_ m steps K W) (hr : Room from_ m n) (hT : Wide w0) (hw : ws.length ≤ 90000) (hl : Lies lie ws from_ n (some x)) :
    Calls Tryz.prog 59 #[.pointer (some ⟨vb, 0, none⟩), .int .i64 (n : Int)] W fun e w' => ∃ r : Sr, e = .returned (.tuple #[.pointer (some ⟨r.sb, 0, none⟩), .int .i64 0]) ∧ r.Ok ∧ r.hd = x ∧ r.n = n ∧ r.sl = true ∧ VB w0 vb d g' lie ws from_ m steps (r.K vb ++ K) w' := by
  obtain ⟨hx, h5, h6⟩ := hl
  obtain ⟨e1, e2, e3, e4, e5⟩ := head_put x.a x.g x.s x.b hx.a1 hx.a2 hx.g2 hx.s2 hx.b2
  have hl := la_load_yes _ h.view hr (hT.below h.since) (by omega) h6 e1
  rw [e2, e3, e4, e5, load_all h5.lay hx.s2] at hl
  refine hl.mono ?_
  rintro e w' ⟨sb, r1, hb, fa, fc, r2, r3⟩
  obtain ⟨rk, k1, k2⟩ : ∃ rk, RowB fa fc x.fs rk ∧ ∀ z ∈ rk, Whole w' z.1 z.2.1 z.2.2 ∧ plainT z.2.1 := by
    by_cases h0 : x.fs = []
    · have hn := r2.none_ h0
      have ho := r2.own
      subst hn
      rcases ho.2 with ⟨e, _⟩ | ⟨q, cap, cur, e, _⟩
      · injection e with _ _ e3
        exact ⟨[], .inl ⟨h0, rfl, e3, rfl⟩, fun z hz => by simp at hz⟩
      · injection e with e1
        cases e1
    · obtain ⟨rk, k1, k2⟩ := RowB.of_own (B := 0) (List.length_pos_iff.2 h0) r2.own
      exact ⟨rk, k1, fun z hz => ⟨(k2 z hz).1, (k2 z hz).2.2⟩⟩
  have hok : (⟨sb, n, x.a, x.g, x.s, x.b, x.fs, fa, fc, rk, true⟩ : Sr).Ok := ⟨k1, h5.ok, h5.fits⟩
  have hnew : ∀ z ∈ (⟨sb, n, x.a, x.g, x.s, x.b, x.fs, fa, fc, rk, true⟩ : Sr).K vb, W.heap.size ≤ z.1 := fun z hz => r3 z.1 ((Sr.of (vb := vb) hok).2 (List.mem_map_of_mem hz))
  have hle := h.size
  refine ⟨⟨sb, n, x.a, x.g, x.s, x.b, x.fs, fa, fc, rk, true⟩, r1, hok, rfl, rfl, rfl, h.view.below hb, fun z hz => ?_, ?_⟩
  · rcases List.mem_append.1 hz with h1 | h1
    · have h2 := hnew z h1
      rcases List.mem_cons.1 h1 with rfl | h3
      · exact ⟨r2.obj, by show plainT 160; decide, Nat.le_trans hle h2⟩
      · exact ⟨(k2 z h3).1, (k2 z h3).2, Nat.le_trans hle h2⟩
    · exact (h.blk.below hb).all z h1
  · rw [List.map_append, List.nodup_append]
    refine ⟨?_, h.blk.apart, ?_⟩
    · show (sb :: rk.map (·.1)).Nodup
      rw [List.nodup_cons]
      refine ⟨fun hm => ?_, ?_⟩
      · obtain ⟨z, hz, e⟩ := List.mem_map.1 hm
        have h2 := (k2 z hz).1
        rw [k1.types z hz, e] at h2
        exact r2.obj.ne h2 (by decide) rfl
      · rw [k1.slot]
        cases (Value.slice fa 0 0).ownBlock <;> simp
    · intro q hq y hy
      obtain ⟨z, hz, rfl⟩ := List.mem_map.1 hq
      obtain ⟨z2, hz2, rfl⟩ := List.mem_map.1 hy
      have h1 := hnew z hz
      have h2 := (h.got hz2).lt
      omega
end
end Go.Proofs.YtbbhnbdekblghaaGreatDoor.W
end
section
namespace Go.Proofs.YtbbhnbdekblghaaGreatDoor.W
open Go.RowKit Go.Sort
open Go.Proofs.YtbbhnbdekblghaaGreatDoor.M Go.Proofs.YtbbhnbdekblghaaGreatDoor.D Go.Proofs.YtbbhnbdekblghaaGreatDoor.Z
set_option linter.unusedVariables false
set_option linter.unusedSimpArgs false

section
variable {w0 W W' : World} {vb d g' from_ m n : Nat} {lie : List (List UInt8)} {ws : List (Nat × List UInt8)} {steps : Int} {K : List Bk}
theorem sload_yes {x : Hd} (h : VB w0 vb d g' lie ws from_ m steps K W) (hr : Room from_ m n) (hT : Wide w0) (hw : ws.length ≤ 90000) (hl : Lies lie ws from_ n (some x)) :
    Calls Tryz.prog 79 #[.pointer (some ⟨vb, 0, none⟩), .int .i64 (n : Int)] W fun e w' => ∃ r : Sr, e = .returned (.tuple #[.pointer (some ⟨r.sb, 0, none⟩), .int .i64 0]) ∧ r.Ok ∧ r.hd = x ∧ r.n = n ∧ r.sl = true ∧ VB w0 vb d g' lie ws from_ m steps (r.K vb ++ K) w' := by
  have hl2 := Lib.hid (h.load_yes hr hT hw hl)
  clear h hl hT
  go_enter Tryz.func79, Tryz.ntmps79
  go_wp2_with fail
  refine hl2.out.mono ?_
  rintro _ w2 ⟨r, rfl, r1⟩
  replace r1 := Lib.hid r1
  go_wp2_with fail
  go_ret2
  exact ⟨r, rfl, r1.out⟩
theorem sload_no (h : VB w0 vb d g' lie ws from_ m steps K W) (hr : Room from_ m n) (hT : Wide w0) (hw : ws.length ≤ 90000) (hl : Lies lie ws from_ n none) :
    Calls Tryz.prog 79 #[.pointer (some ⟨vb, 0, none⟩), .int .i64 (n : Int)] W fun e w' => e = .returned (.tuple #[.pointer none, .int .i64 0]) ∧ VB w0 vb d g' lie ws from_ m steps K w' := by
  have hl2 := Lib.hid (h.load_no hr hT hw hl)
  clear h hl hT
  go_enter Tryz.func79, Tryz.ntmps79
  go_wp2_with fail
  refine hl2.out.mono ?_
  rintro _ w2 ⟨rfl, r1⟩
  replace r1 := Lib.hid r1
  go_wp2_with fail
  go_ret2
  exact ⟨rfl, r1.out⟩
theorem sload_out {q : Nat} (i : Int) (h : VB w0 vb d g' lie ws from_ m steps K W) (hq : m = q + 2) (hq2 : q ≤ 1000) (hi : ¬ (0 ≤ i ∧ i < ((q / 16 : Nat) : Int))) :
    Calls Tryz.prog 79 #[.pointer (some ⟨vb, 0, none⟩), .int .i64 i] W fun e w' => e = .returned (.tuple #[.pointer none, .int .i64 20]) ∧ VB w0 vb d g' lie ws from_ m steps K w' := by
  have hl2 := Lib.hid (h.load_out i hq hq2 hi)
  clear h hi
  go_enter Tryz.func79, Tryz.ntmps79
  go_wp2_with fail
  refine hl2.out.mono ?_
  rintro _ w2 ⟨rfl, r1⟩
  replace r1 := Lib.hid r1
  go_wp2_with fail
  go_ret2
  exact ⟨rfl, r1.out⟩
end
/-- What lies in the first k places, with the places. -/
def found (os : List (Option Hd)) (k : Nat) : List (Nat × Hd) := (List.range k).filterMap fun i => (os.getD i none).map fun x => (i, x)
theorem found_yes {os : List (Option Hd)} {k : Nat} {x : Hd} (h : os[k]? = some (some x)) : found os (k + 1) = found os k ++ [(k, x)] := by
  unfold found
  rw [List.range_succ, List.filterMap_append]
  simp [h]
theorem found_no {os : List (Option Hd)} {k : Nat} (h : os[k]? = some none) : found os (k + 1) = found os k := by
  unfold found
  rw [List.range_succ, List.filterMap_append]
  simp [h]
theorem found_len (os : List (Option Hd)) (k : Nat) : (found os k).length ≤ k := by
  unfold found
  exact Nat.le_trans (List.length_filterMap_le _ _) (by simp)
/-- Segments that are loaded, of what lies. -/
def Got (rs : List Sr) (l : List (Nat × Hd)) : Prop := rs.map (fun r => (r.n, r.hd)) = l ∧ ∀ r ∈ rs, r.Ok ∧ r.sl = true
theorem Got.snoc {rs : List Sr} {l : List (Nat × Hd)} {r : Sr} {n : Nat} {x : Hd} (h : Got rs l) (h1 : r.Ok) (h2 : r.hd = x) (h3 : r.n = n) (h4 : r.sl = true) : Got (rs ++ [r]) (l ++ [(n, x)]) := by
  refine ⟨by rw [List.map_append, h.1]; simp [h2, h3], fun s hs => ?_⟩
  rcases List.mem_append.1 hs with h5 | h5
  · exact h.2 s h5
  · obtain rfl := List.mem_singleton.1 h5
    exact ⟨h1, h4⟩
theorem Got.len {rs : List Sr} {l : List (Nat × Hd)} (h : Got rs l) : rs.length = l.length := by rw [← h.1, List.length_map]
/-- What All comes to. -/
def AllPost (w0 : World) (vb d g' : Nat) (lie : List (List UInt8)) (ws : List (Nat × List UInt8)) (from_ m : Nat) (steps : Int) (K : List Bk) (os : List (Option Hd)) (N : Int) (e : Ending) (w' : World) : Prop :=
  (N ≤ (os.length : Int) ∧ ∃ (rs : List Sr) (A : Option Addr) (c : Nat) (pk : List Bk), e = .returned (.tuple #[.slice A rs.length c, .int .i64 0]) ∧ Got rs (found os N.toNat) ∧ RowPt A c (rs.map (·.sb)) pk ∧ VB w0 vb d g' lie ws from_ m steps (pk ++ (rs.flatMap (Sr.K vb) ++ K)) w') ∨
  ((os.length : Int) < N ∧ e = .returned (.tuple #[.slice none 0 0, .int .i64 20]) ∧ VB w0 vb d g' lie ws from_ m steps K w')
section
variable {w0 W W' : World} {vb d g' from_ m n : Nat} {lie : List (List UInt8)} {ws : List (Nat × List UInt8)} {steps : Int} {K : List Bk}
set_option maxRecDepth 100000 in
set_option maxHeartbeats 4000000 in
theorem all_any {q : Nat} (os : List (Option Hd)) (N : Int) (h : VB w0 vb d g' lie ws from_ m steps K W) (hq : m = q + 2) (hq2 : q ≤ 1000) (ho : os.length = q / 16) (hl : ∀ i x, os[i]? = some x → Lies lie ws from_ i x) (hT : Wide w0) (hw : ws.length ≤ 90000) :
    Calls Tryz.prog 33 #[.pointer (some ⟨vb, 0, none⟩), .int .i64 N] W (AllPost w0 vb d g' lie ws from_ m steps K os N) := by
  have hroom : ∀ k x, os[k]? = some x → Room from_ m k := fun k x hk => ⟨q, hq, hq2, by have := (List.getElem?_eq_some_iff.1 hk).1; omega⟩
  have hsy : Hid (∀ (k : Nat) (x : Hd) (K' : List Bk) (V : World), os[k]? = some (some x) → VB w0 vb d g' lie ws from_ m steps K' V → Calls Tryz.prog 79 #[.pointer (some ⟨vb, 0, none⟩), .int .i64 (k : Int)] V fun e w' => ∃ r : Sr, e = .returned (.tuple #[.pointer (some ⟨r.sb, 0, none⟩), .int .i64 0]) ∧ r.Ok ∧ r.hd = x ∧ r.n = k ∧ r.sl = true ∧ VB w0 vb d g' lie ws from_ m steps (r.K vb ++ K') w') := Lib.hid (fun k x K' V hk hv => sload_yes hv (hroom k _ hk) hT hw (hl k _ hk))
  have hsn : Hid (∀ (k : Nat) (K' : List Bk) (V : World), os[k]? = some none → VB w0 vb d g' lie ws from_ m steps K' V → Calls Tryz.prog 79 #[.pointer (some ⟨vb, 0, none⟩), .int .i64 (k : Int)] V fun e w' => e = .returned (.tuple #[.pointer none, .int .i64 0]) ∧ VB w0 vb d g' lie ws from_ m steps K' w') := Lib.hid (fun k K' V hk hv => sload_no hv (hroom k _ hk) hT hw (hl k _ hk))
  have hso : Hid (∀ (k : Nat) (K' : List Bk) (V : World), k = os.length → VB w0 vb d g' lie ws from_ m steps K' V → Calls Tryz.prog 79 #[.pointer (some ⟨vb, 0, none⟩), .int .i64 (k : Int)] V fun e w' => e = .returned (.tuple #[.pointer none, .int .i64 20]) ∧ VB w0 vb d g' lie ws from_ m steps K' w') := Lib.hid (fun k K' V hk hv => sload_out (k : Int) hv hq hq2 (by omega))
  obtain ⟨Q, hQ⟩ : ∃ Q, Hid (os.length = Q) := ⟨_, Lib.hid rfl⟩
  have hQ2 : Q ≤ 62 := by have := hQ.out; omega
  have h0 := Lib.hid h
  clear h hl hT hroom hq ho hw
  go_enter Tryz.func33, Tryz.ntmps33
  go_wp2_with fail
  go_loopg [6, 13] Q (fun ga lx ix wr => ∃ (k : Nat) (rs : List Sr) (sbs : List Nat) (A : Option Addr) (c : Nat) (pk : List Bk), k ≤ Q ∧ Q ≤ k + ga ∧ ix = .int .i64 k ∧ lx = .slice A sbs.length c ∧ Hid (sbs = rs.map (·.sb) ∧ (k : Int) ≤ max N 0 ∧ Got rs (found os k) ∧ RowPt A c sbs pk ∧ VB w0 vb d g' lie ws from_ m steps (pk ++ (rs.flatMap (Sr.K vb) ++ K)) wr))
  case atStart => exact ⟨0, [], [], none, 0, [], by omega, by omega, rfl, rfl, Lib.hid ⟨rfl, by omega, ⟨rfl, fun r hr => by simp at hr⟩, .inl ⟨rfl, rfl, rfl, rfl⟩, h0.out⟩⟩
  case round =>
    clear h0
    obtain ⟨k, rs, sbs, A, c, pk, hk, hgk, rfl, rfl, hrel⟩ := hrel
    generalize wr = wo at *
    by_cases hlt : (k : Int) < N
    · by_cases hkQ : k < Q
      · obtain ⟨o, ho⟩ : ∃ o, os[k]? = some o := ⟨_, List.getElem?_eq_getElem (by have := hQ.out; omega)⟩
        cases o with
        | none =>
          have hc := Lib.hid (hsn.out k _ wo ho hrel.out.2.2.2.2)
          have hfo := Lib.hid (found_no ho)
          clear ho
          go_wp2_with fail
          refine hc.out.mono ?_
          rintro _ w5 ⟨rfl, hv5⟩
          have hnew : Hid (sbs = rs.map (·.sb) ∧ ((k + 1 : Nat) : Int) ≤ max N 0 ∧ Got rs (found os (k + 1)) ∧ RowPt A c sbs pk ∧ VB w0 vb d g' lie ws from_ m steps (pk ++ (rs.flatMap (Sr.K vb) ++ K)) w5) := Lib.hid ⟨hrel.out.1, by omega, by rw [hfo.out]; exact hrel.out.2.2.1, hrel.out.2.2.2.1, hv5⟩
          clear hrel hv5 hc
          go_wp2_with fail
          go_roundg (gk - 1)
          case measure => omega
          case rel => exact ⟨k + 1, rs, sbs, A, c, pk, by omega, by omega, by go_num, rfl, hnew⟩
        | some x =>
          have hc := Lib.hid (hsy.out k x _ wo ho hrel.out.2.2.2.2)
          have hfo := Lib.hid (found_yes ho)
          have hns : sbs.length ≤ 100 := by
            have h1 := hrel.out.2.2.1.len
            have h2 := found_len os k
            rw [hrel.out.1, List.length_map]; omega
          clear ho
          go_wp2_with fail
          refine hc.out.mono ?_
          rintro _ w5 ⟨r, rfl, r1⟩
          replace r1 := Lib.hid r1
          obtain ⟨s1, s2, s3, s4, s5⟩ := id hrel.out
          have hv5 := Lib.hid (r1.out.2.2.2.2.perm (K' := pk ++ (r.K vb ++ (rs.flatMap (Sr.K vb) ++ K))) (perm_by fun a => by simp only [List.count_append]; omega))
          have hown5 := Lib.hid (s4.own (fun x hx => hv5.out.got (List.mem_append_left _ hx)))
          obtain ⟨i0, hi0, hz0, hz1, hz2⟩ := info_parts infoPt
          replace s1 := Lib.hid s1
          replace s3 := Lib.hid s3
          replace s4 := Lib.hid s4
          clear hrel hc s2 s5
          go_wp2_with (with_reducible refine zAppend _ _ _ rfl ?_)
          refine Lib.hid ?_
          refine wpList_append_lies _ rfl _ _ 58 rfl 0 118 i0 _ 1 8 Tryz.underlying58 hi0 hz0 hz1 hz2 rfl (by omega) (.slice A sbs.length c) sbs.length (sbs.map ptV) rfl (hown5.out.alloc _) _ 1 1 [ptV r.sb] rfl rfl (World.news_of_block (heap_alloc_new _ _)) (by simp [Value.oneCell']) (by omega) (by unfold maxLen; omega) (by omega) (Nat.zero_le _) (w5.heap.size + 1) (by simp) ?_
          intro gg cap w6 hown6 hgrow6 hat6 hlt6
          obtain ⟨pk', hrow6, hv6⟩ := hv5.out.appended s4.out hgrow6 hown6 hat6
          have hv7 := hv6.perm (K' := pk' ++ ((rs ++ [r]).flatMap (Sr.K vb) ++ K)) (perm_by fun a => by simp only [List.flatMap_append, List.flatMap_cons, List.flatMap_nil, List.append_nil, List.count_append]; omega)
          have hnew : Hid (sbs ++ [r.sb] = (rs ++ [r]).map (·.sb) ∧ ((k + 1 : Nat) : Int) ≤ max N 0 ∧ Got (rs ++ [r]) (found os (k + 1)) ∧ RowPt (some ⟨gg, 0, none⟩) cap (sbs ++ [r.sb]) pk' ∧ VB w0 vb d g' lie ws from_ m steps (pk' ++ ((rs ++ [r]).flatMap (Sr.K vb) ++ K)) w6) := Lib.hid ⟨by rw [s1.out, List.map_append]; rfl, by omega, by rw [hfo.out]; exact s3.out.snoc r1.out.1 r1.out.2.1 r1.out.2.2.1 r1.out.2.2.2.1, hrow6, hv7⟩
          clear hown5 hown6 hgrow6 hat6 hlt6 hv5 hv6 hv7 hrow6 r1 hi0 hz0 hz1 hz2
          go_wp2_with fail
          go_roundg (gk - 1)
          case measure => omega
          case rel => exact ⟨k + 1, rs ++ [r], sbs ++ [r.sb], some ⟨gg, 0, none⟩, cap, pk', by omega, by omega, by go_num, by rw [List.length_append]; rfl, hnew⟩
      · obtain rfl : k = Q := by omega
        have hc := Lib.hid (hso.out k _ wo hQ.out.symm hrel.out.2.2.2.2)
        go_wp2_with fail
        refine hc.out.mono ?_
        rintro _ w5 ⟨rfl, hv5⟩
        have hv6 : Hid (VB w0 vb d g' lie ws from_ m steps K w5) := Lib.hid (hv5.sub (List.Sublist.trans (List.sublist_append_right _ _) (List.sublist_append_right _ _)))
        clear hrel hv5 hc
        go_wp2_with fail
        go_ret2
        exact .inr ⟨by rw [hQ.out]; exact hlt, rfl, hv6.out⟩
    · go_wp2_with fail
      go_ret2
      obtain ⟨s1, s2, s3, s4, s5⟩ := hrel.out
      refine .inl ⟨by rw [hQ.out]; omega, rs, A, c, pk, by rw [s1, List.length_map]; rfl, ?_, by rw [← s1]; exact s4, s5⟩
      rw [show N.toNat = k from by omega]
      exact s3
end
end Go.Proofs.YtbbhnbdekblghaaGreatDoor.W
end
