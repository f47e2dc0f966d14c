/- Layer 28: Sorted. -/
import Derived.Test.YtnekiiahgidkoaaAsB
import Derived.Test.YtnekiiahgidkoaaTpD
import Derived.Test.YtnekiiahgidkoaaShelf
import Derived.Sort.OwnSorted
namespace Go.Proofs.Ytnekiiahgidkoaa.W
open Go.RowKit Go.Sort
open Go.Proofs.Ytnekiiahgidkoaa.M Go.Proofs.Ytnekiiahgidkoaa.D Go.Proofs.Ytnekiiahgidkoaa.Z
set_option linter.unusedVariables false
set_option linter.unusedSimpArgs false

/-- Are all names that may be? -/
def okN (N : List Nm) : Bool := N.all fun s => nameB (B s)
theorem mayNot_any (x : ByteArray) (w : World) : Calls Try.prog 18 #[.string x] w fun e w' => e = .returned (.bool (!nameB x)) ∧ w' = w := by
  have h := Lib.hid (name22_any x w)
  obtain ⟨R, hR⟩ : ∃ R, Hid (nameB x = R) := ⟨_, Lib.hid rfl⟩
  rw [hR.out] at h ⊢
  clear hR
  go_enter Try.func18, Try.ntmps18
  go_wp2_with fail
  refine h.out.mono ?_
  rintro _ w1 ⟨rfl, rfl⟩
  clear h
  go_wp2_with fail
  go_ret
  exact ⟨rfl, rfl⟩
set_option maxRecDepth 100000 in
set_option maxHeartbeats 4000000 in
theorem nindex_any (A : Option Addr) (c : Nat) (N : List Nm) (w : World) (hN : N.length ≤ 100000) (hrow : SrAt w A N) :
    Calls Try.prog 28 #[.slice A N.length c, .func (.func 18) #[] #[]] w fun e w' => ∃ r : Int, e = .returned (.int .i64 r) ∧ ((okN N = true ∧ r = -1) ∨ (okN N = false ∧ 0 ≤ r ∧ r ≤ 100000)) ∧ w' = w := by
  have miss : Hid ((∀ (i : Nat) s, N[i]? = some s → nameB (B s) = true) → okN N = true) := Lib.hid (fun h => by
    unfold okN; rw [List.all_eq_true]; intro s hs; obtain ⟨i, hi⟩ := List.getElem?_of_mem hs; exact h i s hi)
  have hit : Hid (∀ (i : Nat) s, N[i]? = some s → nameB (B s) = false → okN N = false) := Lib.hid (fun i s hi hs => by
    refine Bool.eq_false_iff.2 fun h => ?_
    unfold okN at h; rw [List.all_eq_true] at h
    have := h s (List.mem_of_getElem? hi)
    rw [hs] at this; cases this)
  obtain ⟨len, hlen⟩ : ∃ len, Hid (N.length = len) := ⟨_, Lib.hid rfl⟩
  replace hrow := Lib.hid hrow
  rw [hlen.out] at hN ⊢
  go_enter Try.func28, Try.ntmps28
  go_wp2_with fail
  go_loopg [8] len (fun ga i wr => ∃ j : Nat, j ≤ len ∧ len ≤ j + ga ∧ i = .int .i64 j ∧ Hid (∀ (i : Nat) s, i < j → N[i]? = some s → nameB (B s) = true) ∧ wr = w)
  case atStart => exact ⟨0, by omega, by omega, rfl, Lib.hid (fun i y hi => by omega), rfl⟩
  case round =>
    obtain ⟨j, hj, hg, rfl, hno, rfl⟩ := hrel
    by_cases hlt : j < len
    · obtain ⟨s, hs⟩ : ∃ s, N[j]? = some s := ⟨_, List.getElem?_eq_getElem (by have := hlen.out; omega)⟩
      obtain ⟨b, o, rfl, hb1, hc1⟩ := hrow.out j s hs
      rw [encStr_B] at hc1
      have hfx := mayNot_any (B s) wr
      have eg : ∀ args W, (callFunc 18 args).run Try.prog W = .ok (.enter 18 args) W := enters_of Try.func18 (by kernel_rfl) rfl
      cases hB : nameB (B s)
      · have hok := Lib.hid (hit.out j s hs hB)
        rw [hB] at hfx
        obtain ⟨x, hx⟩ : ∃ x, Hid (B s = x) := ⟨_, Lib.hid rfl⟩
        rw [hx.out] at hfx hc1
        replace hfx := Lib.hid hfx
        clear hno hs hB
        go_wp2_with fail
        refine hfx.out.mono ?_
        rintro _ w1 ⟨rfl, rfl⟩
        clear hfx
        go_wp2_with fail
        go_ret
        exact ⟨_, rfl, .inr ⟨hok.out, by omega, by omega⟩, rfl⟩
      · have hno2 : Hid (∀ (i : Nat) s, i < j + 1 → N[i]? = some s → nameB (B s) = true) := Lib.hid (fun i y hi hy => by
          rcases Nat.lt_or_ge i j with c | c
          · exact hno.out i y c hy
          · obtain rfl : i = j := by omega
            rw [hs] at hy; cases hy; exact hB)
        rw [hB] at hfx
        obtain ⟨x, hx⟩ : ∃ x, Hid (B s = x) := ⟨_, Lib.hid rfl⟩
        rw [hx.out] at hfx hc1
        replace hfx := Lib.hid hfx
        clear hno hs hB
        go_wp2_with fail
        refine hfx.out.mono ?_
        rintro _ w1 ⟨rfl, rfl⟩
        clear hfx
        go_wp2_with fail
        go_roundg (gk - 1)
        case measure => omega
        case rel => exact ⟨j + 1, by omega, by omega, by go_num, hno2, rfl⟩
    · obtain rfl : j = len := by omega
      have hok := Lib.hid (miss.out (fun i s hi => hno.out i s (by have := (List.getElem?_eq_some_iff.1 hi).1; have := hlen.out; omega) hi))
      clear hno
      go_wp2_with fail
      go_ret
      exact ⟨_, rfl, .inl ⟨hok.out, rfl⟩, rfl⟩
theorem containsS_any (A : Option Addr) (c : Nat) (N : List Nm) (w : World) (hN : N.length ≤ 100000) (hrow : SrAt w A N) :
    Calls Try.prog 20 #[.slice A N.length c, .func (.func 18) #[] #[]] w fun e w' => e = .returned (.bool (!okN N)) ∧ w' = w := by
  have h := Lib.hid (nindex_any A c N w hN hrow)
  obtain ⟨len, hlen⟩ : ∃ len, Hid (N.length = len) := ⟨_, Lib.hid rfl⟩
  rw [hlen.out] at h ⊢
  clear hrow hlen
  go_enter Try.func20, Try.ntmps20
  go_wp2_with fail
  refine h.out.mono ?_
  rintro _ w1 ⟨r, rfl, hr, rfl⟩
  clear h
  rcases hr with ⟨ho, rfl⟩ | ⟨ho, h0, h1⟩
  · replace ho := Lib.hid ho
    go_wp2_with fail
    go_ret
    exact ⟨by rw [ho.out]; rfl, rfl⟩
  · replace ho := Lib.hid ho
    go_wp2_with fail
    go_ret
    exact ⟨by rw [ho.out]; rfl, rfl⟩

theorem own_belowS {w w' : World} {base e sz k : Nat} {v : Value} {xs : List Value} (h : w.ownsRow base e sz v k xs) (hb : Below w.heap.size w w') : w'.ownsRow base e sz v k xs :=
  h.kept (row := none) ⟨hb.os, hb.tape, hb.output, hb.size, fun i hi _ => hb.block i hi⟩ (Classical.em _)
theorem SrAt.own {w : World} {Bs : Nat} {A : Option Addr} {n c : Nat} {N : List Nm} (h : w.ownsRow Bs 9 1 (.slice A n c) N.length (N.map encStr)) : SrAt w A N := fun k x hk => by
  rcases h.2 with ⟨e, h0⟩ | ⟨g, cap, cur, e, hbase, hb, h1, h2, h3, h4⟩
  · rw [List.eq_nil_of_length_eq_zero h0] at hk; simp at hk
  · injection e with e1 e2 e3
    subst e1
    have hk1 : k < N.length := (List.getElem?_eq_some_iff.1 hk).1
    refine ⟨g, 0, rfl, (Array.getElem?_eq_some_iff.1 hb).1, ?_⟩
    have h5 : cur.toList[k]? = some (encStr x) := by
      have := congrArg (fun l : List Value => l[k]?) h4
      simp only [List.getElem?_take, List.getElem?_map, hk] at this
      rw [if_pos (by omega)] at this
      exact this
    simp only [World.cell?, hb]
    rw [Array.getElem?_toList] at h5
    simpa using h5
theorem grown_put {w : World} {g n : Nat} (d : Array (List UInt8)) : w.grownBy (putRow encStr (Sort.ahead w n) g 0 d) (some g) := by
  have h := grownBy_sorted (w := w) (g := g) (n := n) (os := #[]) d
  rw [grow_empty] at h
  exact h
/-- A row that is sorted in its own block. -/
structure SoAt (w0 : World) (N : List Nm) (A : Option Addr) (c : Nat) (w' : World) : Prop where
  own : w'.ownsRow w0.heap.size 9 1 (.slice A N.length c) N.length ((srt N).map encStr)
  below : Below w0.heap.size w0 w'
set_option maxRecDepth 100000 in
set_option maxHeartbeats 4000000 in
theorem sortedS_any (Bm : Nat) (A : Option Addr) (cap : Nat) (N : List Nm) (hN : N.length ≤ 100000) (w : World)
    (hBm : Bm < w.heap.size) (hm : w.cell? ⟨Bm, 0, none⟩ = some (.slice A N.length cap)) (hrow0 : SrAt w A N) :
    Calls Try.prog 21 #[.func (.func 31) #[] #[.pointer (some ⟨Bm, 0, none⟩)]] w fun e w' => ∃ A' c', e = .returned (.slice A' N.length c') ∧ SoAt w N A' c' w' := by
  have hc := Lib.hid (collectS_any Bm A cap N hN w hBm hm hrow0)
  clear hm hrow0 hBm
  obtain ⟨len, hlen⟩ : ∃ len, Hid (N.length = len) := ⟨_, Lib.hid rfl⟩
  go_enter Try.func21, Try.ntmps21
  go_wp2_with fail
  refine hc.out.mono ?_
  rintro _ wo ⟨v, rfl, how, hB⟩
  clear hc
  have hl2 : (srt N).length = N.length := srt_len N
  rcases how.2 with ⟨hnil, hk0⟩ | ⟨g, c, cur, hv, hbase, hb, h1, h2, h3, h4⟩
  · subst hnil
    have hk1 : N = [] := List.eq_nil_of_length_eq_zero hk0
    have hfin : Hid (SoAt w N none 0 wo) := Lib.hid ⟨by subst hk1; simpa [srt] using how, hB⟩
    clear how hB hl2
    go_wp2_with fail
    refine (Try.slices_Sort_string_none none 0 _).mono ?_
    rintro e w' ⟨rfl, rfl⟩
    go_wp2_with fail
    go_ret
    exact ⟨none, 0, by rw [hk0]; rfl, hfin.out⟩
  · subst hv
    have hH : Holds encStr wo g 0 N.toArray := holds_of_block hb (by simpa using h4)
    have hgl : g < wo.heap.size := (Array.getElem?_eq_some_iff.1 hb).1
    have hsort := Lib.hid (Try.slices_Sort_string g 0 c N wo hH hgl (by omega))
    have hgr := fun (nn : Nat) (os : Array Obj) => grownBy_sorted (w := wo) (g := g) (n := nn) (os := os) (srt N).toArray
    have hro := fun (nn : Nat) (os : Array Obj) => ownsRow_sorted (n := nn) (os := os) (ts := srt N) hl2 hbase hb h1 h2 h3
    have hfin : Hid (∀ nn os w', w' = grow (putRow encStr (Sort.ahead wo nn) g 0 (srt N).toArray) os → SoAt w N (some ⟨g, 0, none⟩) c w') := Lib.hid (fun nn os w' e => by
      subst e
      exact ⟨hro nn os, hB.grown (hgr nn os) hB.size (fun k e => by cases e; exact hbase)⟩)
    rw [hlen.out] at hsort ⊢
    clear how hB hH hgr hro hl2 hb h1 h2 h3 h4 hgl
    go_wp2_with fail
    refine hsort.out.mono ?_
    rintro e w' ⟨rfl, nn, os, hw'⟩
    have hf2 := Lib.hid (hfin.out nn os w' hw')
    clear hw' hfin hsort
    go_wp2_with fail
    go_ret
    exact ⟨some ⟨g, 0, none⟩, c, by rw [hlen.out]; rfl, hf2.out⟩

/-- What Sorted comes to. -/
def SoQ (w : World) (N : List Nm) (e : Ending) (w' : World) : Prop :=
  (okN N = false ∧ e = .returned (.tuple #[.slice none 0 0, .int .i64 1]) ∧ Below w.heap.size w w') ∨
  (okN N = true ∧ ¬ N.Nodup ∧ e = .returned (.tuple #[.slice none 0 0, .int .i64 8]) ∧ Below w.heap.size w w') ∨
  (okN N = true ∧ N.Nodup ∧ ∃ A c, e = .returned (.tuple #[.slice A N.length c, .int .i64 0]) ∧ SoAt w N A c w')
set_option maxRecDepth 100000 in
set_option maxHeartbeats 4000000 in
theorem sorted28_bad (A : Option Addr) (c : Nat) (N : List Nm) (w : World) (hN : N.length ≤ 100000) (hrow : SrAt w A N) (hok : okN N = false) :
    Calls Try.prog 10 #[.slice A N.length c] w fun e w' => e = .returned (.tuple #[.slice none 0 0, .int .i64 1]) ∧ w' = w := by
  have hcon := containsS_any A c N w hN hrow
  obtain ⟨len, hlen⟩ : ∃ len, Hid (N.length = len) := ⟨_, Lib.hid rfl⟩
  rw [hlen.out, hok] at hcon
  rw [hlen.out]
  replace hcon := Lib.hid hcon
  clear hok hrow
  go_enter Try.func10, Try.ntmps10
  go_wp2_with fail
  refine hcon.out.mono ?_
  rintro _ w1 ⟨rfl, rfl⟩
  clear hcon
  go_wp2_with fail
  go_ret2
  exact ⟨rfl, rfl⟩
/-- Ahead of the clone: a row that is sorted; what Clone and Compact come to. -/
theorem rising28 {w wo : World} {N : List Nm} {A1 : Option Addr} {c1 : Nat} (hN : N.length ≤ 100000) (h : SoAt w N A1 c1 wo) :
    (N = [] ∧ A1 = none ∧ c1 = 0) ∨ ∃ g, A1 = some ⟨g, 0, none⟩ ∧
      Calls Try.prog 24 #[.slice (some ⟨g, 0, none⟩) N.length c1] wo fun e w2 => ∃ g2 c2, e = .returned (.slice (some ⟨g2, 0, none⟩) N.length c2) ∧
        Calls Try.prog 23 #[.slice (some ⟨g2, 0, none⟩) N.length c2] w2 fun e w3 => e = .returned (.slice (some ⟨g2, 0, none⟩) (Lib.compact (srt N)).length c2) ∧ SoAt w N A1 c1 w3 := by
  have hl2 : (srt N).length = N.length := srt_len N
  rcases h.own.2 with ⟨hnil, hk0⟩ | ⟨g, cap, cur, hv, hbase, hb, h1, h2, h3, h4⟩
  · injection hnil with e1 e2 e3
    exact .inl ⟨List.eq_nil_of_length_eq_zero hk0, e1, e3⟩
  · injection hv with e1 e2 e3
    subst e1 e3
    refine .inr ⟨g, rfl, ?_⟩
    have hsr : SrAt wo (some ⟨g, 0, none⟩) (srt N) := SrAt.own (Bs := w.heap.size) (n := N.length) (c := c1) (by rw [hl2]; exact h.own)
    have hc : ∀ j, j < ((srt N).map B).length → wo.cell? ⟨g, 0 + j, none⟩ = some (.string (((srt N).map B).getD j ByteArray.empty)) := fun j hj => by
      have hj2 : j < (srt N).length := by simpa using hj
      obtain ⟨b, o, e, _, hcc⟩ := hsr j _ (List.getElem?_eq_getElem hj2)
      injection e with e; injection e with e1 e2
      subst e1; subst e2
      rw [hcc, List.getD, List.getElem?_map, List.getElem?_eq_getElem hj2]; rfl
    refine (Try.slices_Clone_string g 0 N.length c1 ((srt N).map B) wo (by simp [hl2]) (by omega) hc).mono ?_
    rintro _ w2 ⟨v2, rfl, how2, hne2, hb2⟩
    rcases how2.2 with ⟨hnil, hk0⟩ | ⟨g2, cap2, cur2, hv2, hbase2, hbk2, q1, q2, q3, q4⟩
    · exact absurd (by rw [hnil]) hne2
    · subst hv2
      refine ⟨g2, cap2, rfl, ?_⟩
      have hH : Holds encStr w2 g2 0 (srt N).toArray := holds_of_block hbk2 (by
        rw [hl2]
        have e : (((srt N).map B).take N.length).map Value.string = (srt N).map encStr := by
          rw [List.take_of_length_le (by simp [hl2]), List.map_map]; rfl
        rw [← e]; simpa using q4)
      have hcm := Try.slices_Compact_string g2 0 cap2 (srt N) w2 hH (by omega) (by omega)
      rw [hl2] at hcm
      refine hcm.mono ?_
      rintro _ w3 ⟨rfl, q, rfl⟩
      have hb3 : Below wo.heap.size wo _ := hb2.grown (grown_put (n := q) (g := g2) (Lib.compact (srt N) ++ List.replicate (N.length - (Lib.compact (srt N)).length) []).toArray) hb2.size (fun k e => by cases e; exact hbase2)
      exact ⟨rfl, own_belowS h.own hb3, grew h.below hb3⟩
set_option maxRecDepth 100000 in
set_option maxHeartbeats 4000000 in
theorem sorted28_good (A : Option Addr) (c : Nat) (N : List Nm) (w : World) (hN : N.length ≤ 100000) (hrow : SrAt w A N) (hok : okN N = true) :
    Calls Try.prog 10 #[.slice A N.length c] w fun e w' => ∃ A1 c1 E, SoAt w N A1 c1 w' ∧ ((N.Nodup ∧ E = 0 ∧ e = .returned (.tuple #[.slice A1 N.length c1, .int .i64 0])) ∨ (¬ N.Nodup ∧ E = 8 ∧ e = .returned (.tuple #[.slice none 0 0, .int .i64 8]))) := by
  have hcon := containsS_any A c N w hN hrow
  obtain ⟨W, hW⟩ : ∃ W, Hid (W = w.alloc (.cells #[.slice A N.length c] 22)) := ⟨_, Lib.hid rfl⟩
  have hBW : Below w.heap.size w W := by rw [hW.out]; exact (Below.refl _ w).alloc (Nat.le_refl _) _
  have hsz : W.heap.size = w.heap.size + 1 := by rw [hW.out]; simp
  have hs := sortedS_any w.heap.size A c N hN W (by omega) (by rw [hW.out]; simp) (hrow.below (Nat.le_refl _) hBW)
  have hv := values_any A N.length c w
  rw [← hW.out] at hv
  have hrise : Hid (∀ A1 c1 wo, SoAt w N A1 c1 wo → _) := Lib.hid (fun A1 c1 wo h => rising28 (A1 := A1) (c1 := c1) (wo := wo) hN h)
  have hsame := Lib.hid (fun h : N.Nodup => (compact_same h).trans (srt_len N))
  have htwin := Lib.hid (fun h : ¬ N.Nodup => Nat.lt_of_lt_of_eq (compact_twins h) (srt_len N))
  obtain ⟨len, hlen⟩ : ∃ len, Hid (N.length = len) := ⟨_, Lib.hid rfl⟩
  rw [hlen.out] at hcon hs hv hrise hsame htwin
  have hup : Hid (∀ A1 c1 wo, SoAt W N A1 c1 wo → SoAt w N A1 c1 wo) := Lib.hid (fun A1 c1 wo hso => ⟨⟨hso.own.1, by
      rcases hso.own.2 with h | ⟨g, cap, cur, h1, h2, h3⟩
      · exact .inl h
      · exact .inr ⟨g, cap, cur, h1, by omega, h3⟩⟩, hBW.trans (hso.below.mono (by omega))⟩)
  have hzero : Hid (N = [] → len = 0 ∧ N.Nodup) := Lib.hid (fun e => by subst e; exact ⟨hlen.out.symm, List.nodup_nil⟩)
  clear hrow hW
  replace hs := Lib.hid hs
  replace hv := Lib.hid hv
  rw [hok] at hcon
  replace hcon := Lib.hid hcon
  clear hok hBW
  rw [hlen.out]
  go_enter Try.func10, Try.ntmps10
  go_wp2_with fail
  refine hcon.out.mono ?_
  rintro _ w1 ⟨rfl, e⟩
  obtain rfl : w = w1 := e.symm
  clear hcon
  go_wp2_with fail
  refine hv.out.mono ?_
  rintro _ w1 ⟨rfl, e⟩
  obtain rfl : W = w1 := e.symm
  clear hv
  go_wp2_with fail
  refine hs.out.mono ?_
  rintro _ wo ⟨A1, c1, rfl, hso⟩
  clear hs
  replace hso := hup.out A1 c1 wo hso
  rcases hrise.out A1 c1 wo hso with ⟨h0, rfl, rfl⟩ | ⟨g, rfl, hcl⟩
  · obtain ⟨hl0, hnd⟩ := hzero.out h0
    subst hl0
    replace hso := Lib.hid hso
    replace hnd := Lib.hid hnd
    clear hrise hsame htwin hup hzero h0
    go_wp2_with fail
    refine (Try.slices_Clone_string_nil 0 0 _).mono ?_
    rintro _ w1 ⟨rfl, e⟩
    obtain rfl : wo = w1 := e.symm
    go_wp2_with fail
    refine (Try.slices_Compact_string_empty none 0 _).mono ?_
    rintro _ w1 ⟨rfl, e⟩
    obtain rfl : wo = w1 := e.symm
    go_wp2_with fail
    go_ret2
    exact ⟨none, 0, 0, hso.out, .inl ⟨hnd.out, rfl, rfl⟩⟩
  · replace hcl := Lib.hid hcl
    clear hrise hup hzero hso
    go_wp2_with fail
    refine hcl.out.mono ?_
    rintro _ w2 ⟨g2, c2, rfl, hcm⟩
    replace hcm := Lib.hid hcm
    clear hcl
    go_wp2_with fail
    refine hcm.out.mono ?_
    rintro _ w3 ⟨rfl, hso⟩
    replace hso := Lib.hid hso
    clear hcm
    obtain ⟨K, hK⟩ : ∃ K, Hid ((Lib.compact (srt N)).length = K) := ⟨_, Lib.hid rfl⟩
    rw [hK.out] at hsame htwin
    rw [hK.out]
    by_cases hnd : N.Nodup
    · have hKl := hsame.out hnd
      subst hKl
      replace hnd := Lib.hid hnd
      clear hsame htwin hK
      go_wp2_with fail
      go_ret2
      exact ⟨_, _, 0, hso.out, .inl ⟨hnd.out, rfl, rfl⟩⟩
    · have hKl := htwin.out hnd
      replace hnd := Lib.hid hnd
      clear hsame htwin hK
      go_wp2_with fail
      go_ret2
      exact ⟨_, _, 8, hso.out, .inr ⟨hnd.out, rfl, rfl⟩⟩
theorem sorted28_any (A : Option Addr) (c : Nat) (N : List Nm) (w : World) (hN : N.length ≤ 100000) (hrow : SrAt w A N) :
    Calls Try.prog 10 #[.slice A N.length c] w (SoQ w N) := by
  cases hok : okN N
  · refine (sorted28_bad A c N w hN hrow hok).mono ?_
    rintro _ w1 ⟨rfl, rfl⟩
    exact .inl ⟨hok, rfl, Below.refl _ _⟩
  · refine (sorted28_good A c N w hN hrow hok).mono ?_
    rintro _ w1 ⟨A1, c1, E, hso, ⟨h1, _, rfl⟩ | ⟨h1, _, rfl⟩⟩
    · exact .inr (.inr ⟨hok, h1, A1, c1, rfl, hso⟩)
    · exact .inr (.inl ⟨hok, h1, rfl, hso.below⟩)
end Go.Proofs.Ytnekiiahgidkoaa.W
