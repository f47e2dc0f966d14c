/- The walks of package segment's reader: a frame. The walk of package segment's Load. The walks of package segment's Wipe, Frames and Header. -/
import Derived.Test.YtbbhnbdekblghaaGreatDoorSgE
import Derived.Test.YtbbhnbdekblghaaGreatDoorShelf
section
namespace Go.Proofs.YtbbhnbdekblghaaGreatDoor.W
open Go.RowKit
open Go.Proofs.YtbbhnbdekblghaaGreatDoor.M Go.Proofs.YtbbhnbdekblghaaGreatDoor.D Go.Proofs.YtbbhnbdekblghaaGreatDoor.Z
set_option linter.unusedVariables false

/-- Does a frame lie at a place? -/
def frameAt (x : List ByteArray) (st c E : Nat) : Prop := E < 16 ∧ decWhy (st : Int) (E : Int) (runS x st c E) = 0
theorem dat_at {x : List ByteArray} {k : Nat} {s : ByteArray} (h : x[k]? = some s) : datS x k = s.extract 6 58 := by
  unfold datS; rw [List.getD_eq_getElem?_getD, h]; rfl
theorem ok_at {x : List ByteArray} {k : Nat} {s : ByteArray} (h : x[k]? = some s) (st c : Nat) : okS x st c k ↔ (opensS s ∧ stampS s = st ∧ countS s = c) := by
  constructor
  · rintro ⟨s', h1, h2, h3, h4⟩
    rw [h] at h1; cases h1
    exact ⟨h2, h3, h4⟩
  · rintro ⟨h2, h3, h4⟩
    exact ⟨s, h, h2, h3, h4⟩
/-- What is so of the bytes of the first j sectors from a place on. -/
structure RdF (x : List ByteArray) (st c E j : Nat) (D : ByteArray) : Prop where
  size : D.size = 52 * j
  rest : D ++ runS x st c (E + j) = runS x st c E
  short : j = 0 ∨ decWhy (st : Int) (E : Int) D = 3
theorem RdF.zero (x : List ByteArray) (st c E : Nat) : RdF x st c E 0 ⟨#[]⟩ := ⟨rfl, by apply ByteArray.ext; simp, .inl rfl⟩
section
variable {x : List ByteArray} {st c E j : Nat} {D s : ByteArray}
/-- No sector more: no frame. -/
theorem RdF.stop (h : RdF x st c E j D) (hn : runS x st c (E + j) = ⟨#[]⟩) : ¬ frameAt x st c E := by
  rintro ⟨_, h2⟩
  rw [← h.rest, hn, bytes_nil] at h2
  rcases h.short with rfl | e
  · have e : D = ⟨#[]⟩ := by
      have hs := h.size
      apply ByteArray.ext
      exact Array.eq_empty_of_size_eq_zero (by simpa using hs)
    rw [e] at h2
    exact dec_nil _ _ h2
  · rw [e] at h2; cases h2
theorem RdF.more (h : RdF x st c E j D) (hk : E + j < 16) (ho : okS x st c (E + j)) : D ++ datS x (E + j) ++ runS x st c (E + (j + 1)) = runS x st c E := by
  rw [← h.rest, run_yes _ _ _ _ hk ho, bytes_assoc]; rfl
theorem dat_size (hs : x[j]? = some s) (ho : opensS s) : (datS x j).size = 52 := by
  rw [dat_at hs]; have := ho.1; simp; omega
theorem RdF.next (h : RdF x st c E j D) (hk : E + j < 16) (hs : x[E + j]? = some s) (ho : okS x st c (E + j)) (h3 : decWhy (st : Int) (E : Int) (D ++ datS x (E + j)) = 3) : RdF x st c E (j + 1) (D ++ datS x (E + j)) := by
  refine ⟨?_, h.more hk ho, .inr h3⟩
  rw [size_app, h.size, dat_size hs ((ok_at hs _ _).1 ho).1]
  omega
/-- No frame, though not too short. -/
theorem RdF.bad (h : RdF x st c E j D) (hk : E + j < 16) (hs : x[E + j]? = some s) (ho : okS x st c (E + j)) (h0 : decWhy (st : Int) (E : Int) (D ++ datS x (E + j)) ≠ 0) (h3 : decWhy (st : Int) (E : Int) (D ++ datS x (E + j)) ≠ 3) : ¬ frameAt x st c E := by
  rintro ⟨_, h2⟩
  have hz := dat_size hs ((ok_at hs _ _).1 ho).1
  rw [← h.more hk ho, dec_ext _ _ _ _ (by rw [size_app]; omega) h3] at h2
  exact h0 h2
/-- A frame. -/
theorem RdF.done (h : RdF x st c E j D) (hk : E + j < 16) (hs : x[E + j]? = some s) (ho : okS x st c (E + j)) (h0 : decWhy (st : Int) (E : Int) (D ++ datS x (E + j)) = 0) :
    frameAt x st c E ∧ frF (D ++ datS x (E + j)) = frF (runS x st c E) ∧ (6 + toldF (runS x st c E) + 51) / 52 = j + 1 := by
  have hz := dat_size hs ((ok_at hs _ _).1 ho).1
  have hd := dec_size _ _ _ h0
  have hm := h.more hk ho
  have hp := pieces_of _ _ _ _ j h.size hz h.short h0
  obtain ⟨F, hF⟩ : ∃ F, D ++ datS x (E + j) = F := ⟨_, rfl⟩
  rw [hF] at hd hm h0 hp ⊢
  have ht : toldF (runS x st c E) = toldF F := by rw [← hm, told_ext _ _ hd.1]
  refine ⟨⟨by omega, ?_⟩, ?_, ?_⟩
  · rw [← hm, dec_ext _ _ _ _ hd.1 (by rw [h0]; decide), h0]
  · unfold frF
    rw [ht, ← hm, bt_app F _ 6 (by omega), ext_app F _ _ _ hd.2.1]
  · rw [ht]; exact hp
end
section
variable {w : World} {sb vb n a g s b : Nat} {fa : Option Addr} {fc : Nat} {fs : List (Int × ByteArray)} {E : Nat} {sl : Bool}
/-- What reading a frame comes to. -/
def Framed (x : List ByteArray) (w : World) (sb vb n a g s b : Nat) (fa : Option Addr) (fs : List (Int × ByteArray)) (E : Nat) (sl : Bool) (c : Nat) (e : Ending) (w' : World) : Prop :=
  (¬ frameAt x s c E ∧ e = .returned (.int .i64 4) ∧ Below w.heap.size w w') ∨
  (frameAt x s c E ∧ e = .returned (.int .i64 0) ∧ ∃ fa' fc', Sg w' sb vb n a g s b fa' fc' (fs ++ [frF (runS x s c E)]) (E + (6 + toldF (runS x s c E) + 51) / 52) sl ∧ (∀ q, ofS sb fa' q → ofS sb fa q ∨ w.heap.size ≤ q) ∧ Kept (ofS sb fa) w w')
theorem decV_same (st pl : Int) (D : ByteArray) (h : decWhy st pl D = 0) : decV st pl D = .tuple #[.agg #[.int .i64 (frF D).1, .string (frF D).2], .int .i64 ((6 + toldF D : Nat) : Int), .int .i64 0] := by
  rw [decV_yes h]; rfl
set_option maxRecDepth 100000 in
set_option maxHeartbeats 8000000 in
theorem readFrame_any (x : List ByteArray) (hx : x.length = 16) (hxs : ∀ (k : Nat) (s : ByteArray), x[k]? = some s → s.size ≤ 1000000) (hn : n ≤ 1000) (hs : s < 4294967296) (hS : Sg w sb vb n a g s b fa fc fs E sl) (hfs : fs.length ≤ 100) (hE1 : 1 ≤ E) (hE : E ≤ 16)
    (hrd : ∀ k y, x[k]? = some y → ∀ W, Below w.heap.size w W → Calls Tryz.prog 165 #[.pointer (some ⟨vb, 0, none⟩), .int .i64 ((2 + 16 * n + k : Nat) : Int)] W fun e w' => e = .returned (.tuple #[.string y, .int .i64 0]) ∧ Below W.heap.size W w') :
    Calls Tryz.prog 107 #[.agg #[.pointer (some ⟨sb, 0, none⟩)]] w fun e w' => Framed x w sb vb n a g s b fa fs E sl (fs.length + 2) e w' := by
  obtain ⟨c, hc⟩ : ∃ c, Hid (fs.length + 2 = c) := ⟨_, Lib.hid rfl⟩
  have hc2 : c ≤ 200 := by have := hc.out; omega
  rw [hc.out]
  have hno : Hid (¬ frameAt x s c E → ∀ w', Below w.heap.size w w' → Framed x w sb vb n a g s b fa fs E sl c (.returned (.int .i64 4)) w') := Lib.hid (fun h w' hb => .inl ⟨h, rfl, hb⟩)
  obtain ⟨W, hW⟩ : ∃ W, Hid (W = w.alloc (.cells #[.pointer (some ⟨sb, 0, none⟩)] 163)) := ⟨_, Lib.hid rfl⟩
  have hbW : Below w.heap.size w W := by rw [hW.out]; exact allocBelow w _
  have hbox : Whole W w.heap.size 163 [.pointer (some ⟨sb, 0, none⟩)] := by rw [hW.out]; exact Whole.new w _ _
  have hSW := hS.below hbW
  have d0 : W.cell? ⟨w.heap.size, 0, none⟩ = some (.pointer (some ⟨sb, 0, none⟩)) := hbox.cell 0
  have e7 : W.cell? ⟨sb, 7, none⟩ = some (.int .i64 (E : Int)) := hSW.obj.cell 7
  have hst : Hid (∀ W', Below w.heap.size w W' → Whole W' sb 160 (sgL vb n a g s b (.slice fa fs.length fc) E sl)) := Lib.hid (fun W' hb => (hS.below hb).obj)
  have hSk : Hid (∀ W', Below w.heap.size w W' → Sg W' sb vb n a g s b fa fc fs E sl) := Lib.hid (fun W' hb => hS.below hb)
  have hrd2 := Lib.hid hrd
  have hbx : Hid (∀ W', Below W.heap.size W W' → Whole W' w.heap.size 163 [.pointer (some ⟨sb, 0, none⟩)]) := Lib.hid (fun W' hb => hbox.below hb hbox.lt)
  have hfar : Hid (∀ q, w.heap.size ≤ q → ¬ ofS sb fa q) := Lib.hid (fun q hq e => Nat.lt_irrefl _ (Nat.lt_of_lt_of_le (hS.lt _ e) hq))
  have hcnt : Hid (∀ W', Below w.heap.size w W' → Calls Tryz.prog 117 #[.pointer (some ⟨sb, 0, none⟩)] W' fun e w' => e = .returned (.int .i64 (c : Int)) ∧ W' = w') := Lib.hid (fun W' hb => by
    have h := count_any sb fa fs.length fc W' (by omega) ((hS.below hb).obj.cell 6)
    rw [hc.out] at h
    exact h)
  have h0 := Lib.hid (RdF.zero x s c E)
  replace hbW := Lib.hid hbW
  clear hbox hS hSW hrd hc
  go_enter Tryz.func107, Tryz.ntmps107
  go_upto_region 1 with fail
  rw [← show W = _ from hW.out]
  clear hW
  go_wp2_with fail
  go_loopg [3, 4] (16 - E) (fun ga v i wr => ∃ j : Nat, ∃ D : ByteArray, E + j ≤ 16 ∧ 16 ≤ E + j + ga ∧ i = .int .i64 ((E + j : Nat) : Int) ∧ v = .string D ∧ Hid (RdF x s c E j D ∧ Below W.heap.size W wr))
  case atStart => exact ⟨0, ⟨#[]⟩, by omega, by omega, rfl, rfl, Lib.hid ⟨h0.out, Below.refl _ _⟩⟩
  case round =>
    clear h0 d0 e7
    obtain ⟨j, D, hj, hg, rfl, rfl, hrow⟩ := hrel
    generalize wr = wo at *
    have hBo := Lib.hid (grew hbW.out hrow.out.2)
    obtain ⟨K, hK⟩ : ∃ K : Nat, Hid (E + j = K) := ⟨_, Lib.hid rfl⟩
    have hKe := hK.out
    by_cases hlt : E + j < 16
    · obtain ⟨y, hy⟩ : ∃ y, x[K]? = some y := ⟨_, List.getElem?_eq_getElem (by omega)⟩
      have hys := hxs K y hy
      have hle : (K : Int) ≤ 15 := by omega
      have hBd : Hid (Below w.heap.size w wo.drew) := Lib.hid (hBo.out.drew)
      have hbD : Hid (Below W.heap.size W wo.drew) := Lib.hid (hrow.out.2.drew)
      have q0 : wo.drew.cell? ⟨w.heap.size, 0, none⟩ = some (.pointer (some ⟨sb, 0, none⟩)) := (hbx.out _ hbD.out).cell 0
      have hopY : opensS y ∧ countS y = c → ∀ W', Below w.heap.size w W' → Calls Tryz.prog 141 #[.agg #[.pointer (some ⟨sb, 0, none⟩)], .int .i64 (K : Int), .int .i64 (c : Int)] W' fun e w' => e = .returned (.tuple #[.int .u32 (stampS y : Nat), .string (y.extract 6 58), .int .i64 0]) ∧ Below W'.heap.size W' w' := fun h W' hb =>
        openS_yes K (2 + 16 * n + K) y hn (by omega) rfl ((hst.out W' hb).cell 0) ((hst.out W' hb).cell 1) (fun W2 hb2 => hrd2.out K y hy W2 (grew hb hb2)) c h.1 h.2
      have hopN : ¬ (opensS y ∧ countS y = c) → ∀ W', Below w.heap.size w W' → Calls Tryz.prog 141 #[.agg #[.pointer (some ⟨sb, 0, none⟩)], .int .i64 (K : Int), .int .i64 (c : Int)] W' fun e w' => e = .returned (.tuple #[.int .u32 0, .string ⟨#[]⟩, .int .i64 4]) ∧ Below W'.heap.size W' w' := fun h W' hb =>
        openS_no K (2 + 16 * n + K) y hn (by omega) rfl ((hst.out W' hb).cell 0) ((hst.out W' hb).cell 1) (fun W2 hb2 => hrd2.out K y hy W2 (grew hb hb2)) c hys h
      have hRd := hrow.out.1
      have hdat := dat_at hy
      have hoky := ok_at hy s c
      rw [← hKe] at hy hdat hoky
      rw [hKe]
      by_cases hop : opensS y ∧ countS y = c
      · replace hopY := hopY hop
        clear hopN
        by_cases hsty : stampS y = s
        · have hok : okS x s c (E + j) := hoky.2 ⟨hop.1, hsty, hop.2⟩
          rw [hsty, ← hdat] at hopY
          replace hopY := Lib.hid hopY
          have hdz := dat_size hy hop.1
          obtain ⟨F, hF⟩ : ∃ F, Hid (datS x (E + j) = F) := ⟨_, Lib.hid rfl⟩
          have hnext := hRd.next hlt hy hok
          have hbad := hRd.bad hlt hy hok
          have hdone := hRd.done hlt hy hok
          have hDz := hRd.size
          rw [hF.out] at hopY hdz hnext hbad hdone
          have hDF : (D ++ F).size ≤ 900 := by rw [size_app]; omega
          have hcat : (D.size : Int) + (F.size : Int) ≤ 1000000 := by omega
          have hde := fun W => decode_any (s : Int) (E : Int) (D ++ F) W (by omega) (by omega) (by omega)
          obtain ⟨G, hG⟩ : ∃ G, Hid (D ++ F = G) := ⟨_, Lib.hid rfl⟩
          rw [hG.out] at hnext hbad hdone hde
          have hss : ((s : Int) != (s : Int)) = false := by simp
          replace hdz := Lib.hid hdz
          replace hDz := Lib.hid hDz
          replace hDF := Lib.hid hDF
          clear hop hoky hdat hRd hy hsty hok
          go_wp2_with fail
          go_region_held3 (fun w' => w'.cell? ⟨w.heap.size, 0, none⟩ = some (.pointer (some ⟨sb, 0, none⟩))) (go_keep) (first
            | (go_at_call 117; (with_reducible refine (hcnt.out _ hBd.out).mono ?_); rintro _ w5 ⟨rfl, rfl⟩)
            | (go_at_call 141; (with_reducible refine (hopY.out _ hBd.out).mono ?_); rintro _ w6 ⟨rfl, hb6⟩; have q6 := keepCell hb6 q0))
          have hB6 := Lib.hid (grew hBd.out hb6)
          have hbW6 := Lib.hid (grew hbD.out hb6)
          have s4 : w6.cell? ⟨sb, 4, none⟩ = some (.int .u32 (s : Int)) := (hst.out _ hB6.out).cell 4
          have s7 : w6.cell? ⟨sb, 7, none⟩ = some (.int .i64 (E : Int)) := (hst.out _ hB6.out).cell 7
          clear q0 hb6
          by_cases h3 : decWhy (s : Int) (E : Int) G = 3
          · rw [decV_no h3 (by decide)] at hde
            replace hde := Lib.hid hde
            have hrd3 := Lib.hid (hnext h3)
            clear hnext hbad hdone h3
            go_wp2_with fail
            rw [hG.out]
            refine (hde.out _).mono ?_
            rintro _ w7 ⟨rfl, hb7⟩
            have hbW7 := Lib.hid (grewAlloc (grew hbW6.out hb7) (.cells #[.int .i64 0, .string ⟨#[]⟩] 43))
            clear s4 s7 q6 hb7
            have hK1 : IntKind.i64.wrap ((K : Int) + 1) = ((K + 1 : Nat) : Int) := by rw [IntWalk.i64_in _ (by omega)]; omega
            go_wp2_with fail
            go_roundg (gk - 1)
            case measure => omega
            case rel => exact ⟨j + 1, G, by omega, by omega, by rw [← hK.out]; rfl, rfl, Lib.hid ⟨hrd3.out, hbW7.out⟩⟩
          · by_cases h0 : decWhy (s : Int) (E : Int) G = 0
            · rw [decV_same _ _ _ h0] at hde
              obtain ⟨hfr, hff, hpc⟩ := hdone h0
              obtain ⟨N, hN⟩ : ∃ N, Hid (((6 + toldF G : Nat) : Int) = N) := ⟨_, Lib.hid rfl⟩
              rw [hN.out] at hde
              obtain ⟨⟨fk, fp⟩, hfe⟩ : ∃ f, Hid (frF G = f) := ⟨_, Lib.hid rfl⟩
              rw [hfe.out] at hde hff
              replace hde := Lib.hid hde
              obtain ⟨jn, hjn⟩ : ∃ jn : Nat, Hid (j + 1 = jn) := ⟨_, Lib.hid rfl⟩
              have hjn2 := hjn.out
              rw [hjn.out] at hpc
              have hyes : Hid (∀ W1 w', Below w.heap.size w W1 → (∃ fa' fc', Sg w' sb vb n a g s b fa' fc' (fs ++ [(fk, fp)]) (E + jn) sl ∧ (∀ q, ofS sb fa' q → ofS sb fa q ∨ W1.heap.size ≤ q) ∧ Kept (ofS sb fa) W1 w') → Framed x w sb vb n a g s b fa fs E sl c (.returned (.int .i64 0)) w') := Lib.hid (fun W1 w' hb ⟨fa', fc', h1, h2, h3⟩ => .inr ⟨hfr, rfl, fa', fc', by rw [← hff, hpc]; exact h1, fun q hq => by
                rcases h2 q hq with e | e
                · exact .inl e
                · exact .inr (Nat.le_trans hb.size e), (Kept.of_below hb).trans h3⟩)
              clear hnext hbad hdone h3 h0 hff hpc hfr
              have hput : Hid (∀ W', Below w.heap.size w W' → Calls Tryz.prog 118 #[.pointer (some ⟨sb, 0, none⟩), .agg #[.int .i64 fk, .string fp], .int .i64 (jn : Int)] W' fun e w' => e = .returned (.tuple #[]) ∧
                  ∃ fa' fc', Sg w' sb vb n a g s b fa' fc' (fs ++ [(fk, fp)]) (E + jn) sl ∧ (∀ q, ofS sb fa' q → ofS sb fa q ∨ W'.heap.size ≤ q) ∧ Kept (ofS sb fa) W' w') := Lib.hid (fun W' hb => put_any jn fk fp (hSk.out W' hb) (by omega) (by omega))
              go_wp2_with fail
              rw [hG.out]
              refine (hde.out _).mono ?_
              rintro _ w7 ⟨rfl, hb7⟩
              obtain ⟨w8, hw8⟩ : ∃ w8, Hid (w8 = w7.alloc (.cells #[.int .i64 fk, .string fp] 43)) := ⟨_, Lib.hid rfl⟩
              have hB7 := grew hB6.out hb7
              have hb8 : Below w7.heap.size w7 w8 := by rw [hw8.out]; exact allocBelow w7 _
              have hB8 : Below w.heap.size w w8.drew := (grew hB7 hb8).drew
              have hbW8 := (grew (grew hbW6.out hb7) hb8)
              have hF8 : Whole w8 w7.heap.size 43 [.int .i64 fk, .string fp] := by rw [hw8.out]; exact Whole.new w7 _ _
              have q0 : w8.drew.cell? ⟨w.heap.size, 0, none⟩ = some (.pointer (some ⟨sb, 0, none⟩)) := (hbx.out _ hbW8).cell 0
              have p0 : w8.drew.cell? ⟨w7.heap.size, 0, none⟩ = some (.int .i64 fk) := hF8.cell 0
              have p1 : w8.drew.cell? ⟨w7.heap.size, 1, none⟩ = some (.string fp) := hF8.cell 1
              have p7 : w8.drew.cell? ⟨sb, 7, none⟩ = some (.int .i64 (E : Int)) := (hst.out _ hB8).cell 7
              have hK1 : IntKind.i64.wrap ((K : Int) + 1) = ((K + 1 : Nat) : Int) := by rw [IntWalk.i64_in _ (by omega)]; omega
              have hK2 : IntKind.i64.wrap ((K : Int) + 1 - (E : Int)) = (jn : Int) := by rw [IntWalk.i64_in _ (by omega)]; have := hjn.out; omega
              replace hB8 := Lib.hid hB8
              clear s4 s7 q6 hb7 hb8 hbW8 hF8 hB7
              go_upto_region 12 with fail
              rw [← show w8 = _ from hw8.out]
              clear hw8
              go_wp2_with fail
              go_region_law (go_simp; go_at_call 118; (with_reducible refine (hput.out _ hB8.out).mono ?_); rintro _ w9 ⟨rfl, hput9⟩)
              all_goals
                have hend := Lib.hid (hyes.out _ _ hB8.out hput9)
                go_wp2_with fail
                go_ret
                exact hend.out
            · have hnofr := hbad h0 h3
              obtain ⟨Y, hY⟩ : ∃ Y, Hid (decWhy (s : Int) (E : Int) G = Y) := ⟨_, Lib.hid rfl⟩
              rw [decV_no rfl h0, hY.out] at hde
              rw [hY.out] at h0 h3
              have hy3 : (Y == 3) = false := by simp [h3]
              have hy0 : (Y != 0) = true := by simp [h0]
              have hfin := Lib.hid (hno.out hnofr)
              replace hde := Lib.hid hde
              clear hnext hbad hdone h3 h0 hnofr
              go_wp2_with fail
              rw [hG.out]
              refine (hde.out _).mono ?_
              rintro _ w7 ⟨rfl, hb7⟩
              have hend := Lib.hid (hfin.out _ (grewAlloc (grew hB6.out hb7) (.cells #[.int .i64 0, .string ⟨#[]⟩] 43)))
              clear s4 s7 q6 hb7
              go_wp2_with fail
              go_ret
              exact hend.out
        · have hfin := Lib.hid (hno.out (hRd.stop (run_no _ _ _ _ hlt (fun h => hsty (hoky.1 h).2.1))))
          obtain ⟨sy, hsy⟩ : ∃ sy, Hid (stampS y = sy) := ⟨_, Lib.hid rfl⟩
          obtain ⟨F, hF⟩ : ∃ F, Hid (y.extract 6 58 = F) := ⟨_, Lib.hid rfl⟩
          rw [hsy.out, hF.out] at hopY
          rw [hsy.out] at hsty
          have hne : ((sy : Int) != (s : Int)) = true := by simp; omega
          replace hopY := Lib.hid hopY
          clear hop hoky hdat hRd hy hlt hj hKe hsy hF
          go_wp2_with fail
          go_region_held3 (fun w' => w'.cell? ⟨w.heap.size, 0, none⟩ = some (.pointer (some ⟨sb, 0, none⟩))) (go_keep) (first
            | (go_at_call 117; (with_reducible refine (hcnt.out _ hBd.out).mono ?_); rintro _ w5 ⟨rfl, rfl⟩)
            | (go_at_call 141; (with_reducible refine (hopY.out _ hBd.out).mono ?_); rintro _ w6 ⟨rfl, hb6⟩; have q6 := keepCell hb6 q0))
          have hB6 := grew hBd.out hb6
          have s4 : w6.cell? ⟨sb, 4, none⟩ = some (.int .u32 (s : Int)) := (hst.out _ hB6).cell 4
          have hend := Lib.hid (hfin.out w6 hB6)
          clear q0 hb6
          go_wp2_with fail
          go_ret
          exact hend.out
      · have hfin := Lib.hid (hno.out (hRd.stop (run_no _ _ _ _ hlt (fun h => hop ⟨(hoky.1 h).1, (hoky.1 h).2.2⟩))))
        replace hopN := Lib.hid (hopN hop)
        clear hopY hop hoky hdat hRd hy hlt hj hKe
        go_wp2_with fail
        go_region_held3 (fun w' => w'.cell? ⟨w.heap.size, 0, none⟩ = some (.pointer (some ⟨sb, 0, none⟩))) (go_keep) (first
          | (go_at_call 117; (with_reducible refine (hcnt.out _ hBd.out).mono ?_); rintro _ w5 ⟨rfl, rfl⟩)
          | (go_at_call 141; (with_reducible refine (hopN.out _ hBd.out).mono ?_); rintro _ w6 ⟨rfl, hb6⟩; have q6 := keepCell hb6 q0))
        have hend := Lib.hid (hfin.out w6 (grew hBd.out hb6))
        clear q0 q6 hb6
        go_wp2_with fail
        go_ret
        exact hend.out
    · have hfin := Lib.hid (hno.out (hrow.out.1.stop (run_past x s c (E + j) (by omega))) wo hBo.out)
      have hge : (15 : Int) < (K : Int) := by omega
      rw [hKe]
      clear hKe
      go_wp2_with fail
      go_ret
      exact hfin.out
end
end Go.Proofs.YtbbhnbdekblghaaGreatDoor.W
end
section
namespace Go.Proofs.YtbbhnbdekblghaaGreatDoor.W
open Go.RowKit
open Go.Proofs.YtbbhnbdekblghaaGreatDoor.M Go.Proofs.YtbbhnbdekblghaaGreatDoor.D Go.Proofs.YtbbhnbdekblghaaGreatDoor.Z
set_option linter.unusedVariables false

theorem Sg.ne {w : World} {sb vb n a g s b : Nat} {fa : Option Addr} {fc : Nat} {fs : List (Int × ByteArray)} {E : Nat} {sl : Bool} {q : Nat} {t : TypeId} {cs : List Value} (h : Sg w sb vb n a g s b fa fc fs E sl) (hb : Whole w q t cs) (t1 : t ≠ 160) (t2 : t ≠ 43) : ¬ ofS sb fa q := by
  intro hq
  obtain ⟨u, ds, hw, rfl | rfl⟩ := h.typed q hq
  · exact hb.ne hw t1 rfl
  · exact hb.ne hw t2 rfl
theorem run_size (x : List ByteArray) (st c k : Nat) : (runS x st c k).size ≤ 52 * (16 - k) := runF_size x st c (16 - k) k
theorem load_nil (n : Int) (w : World) : Calls Tryz.prog 59 #[.pointer none, .int .i64 n] w fun e w' => e = .returned (.tuple #[.pointer none, .int .i64 7]) ∧ w = w' := by
  go_enter Tryz.func59, Tryz.ntmps59
  go_wp2_with fail
  refine (find_nil n _).mono ?_
  rintro _ w1 ⟨rfl, rfl⟩
  go_wp2_with fail
  go_ret2
  exact ⟨rfl, rfl⟩
section
variable {w : World} {vb d g' : Nat} {v : Value} {lie : List (List UInt8)} {ws : List (Nat × List UInt8)} {from_ m : Nat} {fuse steps : Int} {gone : Bool}
theorem load_out (n : Int) (q : Nat) (h : Vw w vb d g' v lie ws from_ m fuse steps gone) (hm : m = q + 2) (hq : q ≤ 1000000) (hn : ¬ (0 ≤ n ∧ n < ((q / 16 : Nat) : Int))) :
    Calls Tryz.prog 59 #[.pointer (some ⟨vb, 0, none⟩), .int .i64 n] w fun e w' => e = .returned (.tuple #[.pointer none, .int .i64 20]) ∧ w = w' := by
  have hf := Lib.hid (find_out n q h hm hq hn)
  clear h
  go_enter Tryz.func59, Tryz.ntmps59
  go_wp2_with fail
  refine hf.out.mono ?_
  rintro _ w1 ⟨rfl, rfl⟩
  go_wp2_with fail
  go_ret2
  exact ⟨rfl, rfl⟩
/-- Do a view's Reads tell the sectors? -/
def Reads (w : World) (vb n : Nat) (x : List ByteArray) : Prop := ∀ k y, x[k]? = some y → ∀ W, Below w.heap.size w W → Calls Tryz.prog 165 #[.pointer (some ⟨vb, 0, none⟩), .int .i64 ((2 + 16 * n + k : Nat) : Int)] W fun e w' => e = .returned (.tuple #[.string y, .int .i64 0]) ∧ Below W.heap.size W w'
theorem Reads.below {n : Nat} {x : List ByteArray} {W : World} (h : Reads w vb n x) (hb : Below w.heap.size w W) : Reads W vb n x := fun k y hy W' hW => h k y hy W' (grew hb hW)
theorem Reads.since {n : Nat} {x : List ByteArray} {W : World} (h : Reads w vb n x) (hb : Below w.heap.size w W) : ∀ k y, x[k]? = some y → ∀ W', Below W.heap.size W W' → Calls Tryz.prog 165 #[.pointer (some ⟨vb, 0, none⟩), .int .i64 ((2 + 16 * n + k : Nat) : Int)] W' fun e w' => e = .returned (.tuple #[.string y, .int .i64 0]) ∧ Below W'.heap.size W' w' := h.below hb
set_option maxRecDepth 100000 in
set_option maxHeartbeats 4000000 in
theorem load_no (n q : Nat) (x : List ByteArray) (y : ByteArray) (h : Vw w vb d g' v lie ws from_ m fuse steps gone) (hm : m = q + 2) (hq : q ≤ 1000) (hn : n < q / 16) (hT : Wide w) (hx0 : x[0]? = some y) (hy : y.size ≤ 1000000) (hrd : Reads w vb n x) (hh : ¬ headS y) :
    Calls Tryz.prog 59 #[.pointer (some ⟨vb, 0, none⟩), .int .i64 (n : Int)] w fun e w' => e = .returned (.tuple #[.pointer none, .int .i64 4]) ∧ Below w.heap.size w w' := by
  have hf := Lib.hid (find_in n q h hm (by omega) hn)
  have hTw := Lib.hid (fun W' (hb : Below w.heap.size w W') => hT.below hb)
  have hrh := Lib.hid (fun (W : World) (hb : Below w.heap.size w W) (hS : Whole W w.heap.size 160 (sgL vb n 0 0 0 0 (.slice none 0 0) 1 false)) =>
    readHeader_no (2 + 16 * n + 0) y (sgL vb n 0 0 0 0 (.slice none 0 0) 1 false) (by omega) rfl hS rfl rfl (hT.below hb) hy (hrd.since hb 0 y hx0) hh)
  clear h hrd hT hh
  go_enter Tryz.func59, Tryz.ntmps59
  go_wp2_with fail
  refine hf.out.mono ?_
  rintro _ w1 ⟨rfl, hS1, hb1⟩
  have hB2 := Lib.hid (grewAlloc hb1 (.cells #[.pointer (some ⟨w.heap.size, 0, none⟩)] 163))
  have hS2 := Lib.hid (hS1.alloc (.cells #[.pointer (some ⟨w.heap.size, 0, none⟩)] 163))
  clear hS1 hb1
  go_wp2_with fail
  refine (hrh.out _ hB2.out hS2.out).mono ?_
  rintro _ w3 ⟨rfl, hb3⟩
  have hB3 := Lib.hid (grew hB2.out hb3)
  go_wp2_with fail
  go_ret2
  exact ⟨rfl, hB3.out⟩
/-- What Load has read: frames, or their end. -/
structure LdS (w : World) (rb sb vb n a g s b : Nat) (x : List ByteArray) (FL : List (Int × ByteArray) × Nat) (e : Int) (ga : Nat) (fa : Option Addr) (fc : Nat) (l : List (Int × ByteArray)) (E f : Nat) (W : World) : Prop where
  seg : Sg W sb vb n a g s b fa fc l E false
  box : Whole W rb 163 [.pointer (some ⟨sb, 0, none⟩)]
  below : Below w.heap.size w W
  new : ∀ q, ofS sb fa q → w.heap.size ≤ q
  few : l.length + 1 ≤ E
  most : E ≤ 16
  one : 1 ≤ E
  way : (e = 0 ∧ loadF x s f E l = FL ∧ 17 ≤ f + E ∧ 17 ≤ ga + E) ∨ (e = 4 ∧ FL = (l, E))
theorem LdS.next {rb sb n a g s b : Nat} {x : List ByteArray} {FL : List (Int × ByteArray) × Nat} {ga : Nat} {fa : Option Addr} {fc : Nat} {l : List (Int × ByteArray)} {E f : Nat} {W W' : World} {e' : Ending} (h : LdS w rb sb vb n a g s b x FL 0 (ga + 1) fa fc l E f W) (hf : Framed x W sb vb n a g s b fa l E false (l.length + 2) e' W') :
    ∃ e fa' fc' l' E' f', e' = .returned (.int .i64 e) ∧ LdS w rb sb vb n a g s b x FL e ga fa' fc' l' E' f' W' := by
  obtain ⟨_, hw, hf1, hf2⟩ := h.way.resolve_right (fun h => by cases h.1)
  rcases hf with ⟨hn, rfl, hb⟩ | ⟨hy, rfl, fa', fc', hS, hfa, hk⟩
  · refine ⟨4, fa, fc, l, E, f, rfl, h.seg.below hb, h.box.below hb h.box.lt, grew h.below hb, h.new, h.few, h.most, h.one, .inr ⟨rfl, ?_⟩⟩
    rw [← hw]
    exact loadF_no rfl hn
  · have hs := run_size x s (l.length + 2) E
    have hd := dec_size _ _ _ hy.2
    have h16 := hy.1
    obtain ⟨f', rfl⟩ : ∃ f', f = f' + 1 := ⟨f - 1, by omega⟩
    rw [loadF_yes rfl hy.1 hy.2] at hw
    refine ⟨0, fa', fc', _, _, f', rfl, hS, h.box.of_kept hk (h.seg.ne h.box (by decide) (by decide)), h.below.trans (hk.below h.below.size (fun q hq => h.new q hq)), ?_, ?_, ?_, ?_, .inl ⟨rfl, hw, ?_, ?_⟩⟩
    · intro q hq
      rcases hfa q hq with e | e
      · exact h.new q e
      · exact Nat.le_trans h.below.size e
    · rw [List.length_append, List.length_singleton]; have := h.few; omega
    · omega
    · omega
    · omega
    · omega
set_option maxRecDepth 100000 in
set_option maxHeartbeats 8000000 in
theorem load_yes (n q : Nat) (x : List ByteArray) (y : ByteArray) (h : Vw w vb d g' v lie ws from_ m fuse steps gone) (hm : m = q + 2) (hq : q ≤ 1000) (hn : n < q / 16) (hT : Wide w) (hx : x.length = 16) (hxs : ∀ (k : Nat) (s : ByteArray), x[k]? = some s → s.size ≤ 1000000) (hx0 : x[0]? = some y) (hrd : Reads w vb n x) (hh : headS y) :
    Calls Tryz.prog 59 #[.pointer (some ⟨vb, 0, none⟩), .int .i64 (n : Int)] w fun e w' => e = .returned (.tuple #[.pointer (some ⟨w.heap.size, 0, none⟩), .int .i64 0]) ∧
      ∃ fa fc, Sg w' w.heap.size vb n (logH (y.extract 6 58)) (genH (y.extract 6 58)) (stampS y) (baseH (y.extract 6 58)) fa fc (loadF x (stampS y) 16 1 []).1 (loadF x (stampS y) 16 1 []).2 true ∧ (∀ q, ofS w.heap.size fa q → w.heap.size ≤ q) ∧ Below w.heap.size w w' := by
  have hf := Lib.hid (find_in n q h hm (by omega) hn)
  have hst := stampS_lt y
  have hrh := fun (W : World) (hb : Below w.heap.size w W) (hS : Whole W w.heap.size 160 (sgL vb n 0 0 0 0 (.slice none 0 0) 1 false)) =>
    readHeader_yes (2 + 16 * n + 0) y 0 0 0 0 1 (.slice none 0 0) false (by omega) rfl hS (hT.below hb) (hrd.since hb 0 y hx0) hh
  obtain ⟨a, ha⟩ : ∃ a, Hid (logH (y.extract 6 58) = a) := ⟨_, Lib.hid rfl⟩
  obtain ⟨g, hg⟩ : ∃ a, Hid (genH (y.extract 6 58) = a) := ⟨_, Lib.hid rfl⟩
  obtain ⟨s, hs⟩ : ∃ a, Hid (stampS y = a) := ⟨_, Lib.hid rfl⟩
  obtain ⟨b, hb⟩ : ∃ a, Hid (baseH (y.extract 6 58) = a) := ⟨_, Lib.hid rfl⟩
  rw [ha.out, hg.out, hs.out, hb.out] at hrh ⊢
  rw [hs.out] at hst
  obtain ⟨FL, hFL⟩ : ∃ FL, Hid (loadF x s 16 1 [] = FL) := ⟨_, Lib.hid rfl⟩
  have hrf : Hid (∀ (rb e' ga : Nat) (fa : Option Addr) (fc : Nat) (l : List (Int × ByteArray)) (E f : Nat) (W : World), LdS w rb w.heap.size vb n a g s b x FL 0 (ga + 1) fa fc l E f W → Calls Tryz.prog 107 #[.agg #[.pointer (some ⟨w.heap.size, 0, none⟩)]] W fun e w' => ∃ e' fa' fc' l' E' f', e = .returned (.int .i64 e') ∧ LdS w rb w.heap.size vb n a g s b x FL e' ga fa' fc' l' E' f' w') := Lib.hid (fun rb e' ga fa fc l E f W hl => by
    refine (readFrame_any x hx hxs (by omega) hst hl.seg (by have := hl.few; have := hl.most; omega) hl.one hl.most (hrd.since hl.below)).mono ?_
    intro e w' hfr
    exact hl.next hfr)
  replace hrh := Lib.hid hrh
  rw [hFL.out]
  clear h hrd hT hh hxs ha hg hs hb
  go_enter Tryz.func59, Tryz.ntmps59
  go_wp2_with fail
  refine hf.out.mono ?_
  rintro _ w1 ⟨rfl, hS1, hb1⟩
  have hB2 := Lib.hid (grewAlloc hb1 (.cells #[.pointer (some ⟨w.heap.size, 0, none⟩)] 163))
  have hS2 := Lib.hid (hS1.alloc (.cells #[.pointer (some ⟨w.heap.size, 0, none⟩)] 163))
  have hX2 := Lib.hid (Whole.new w1 163 [.pointer (some ⟨w.heap.size, 0, none⟩)])
  obtain ⟨rb, hrb⟩ : ∃ rb, Hid (w1.heap.size = rb) := ⟨_, Lib.hid rfl⟩
  clear hS1 hb1
  go_wp2_with fail
  refine (hrh.out _ hB2.out hS2.out).mono ?_
  rintro _ w3 ⟨rfl, hS3, hk3⟩
  have hX3 := hX2.out.of_kept hk3 (fun e => hX2.out.ne hS2.out (by decide) e)
  rw [hrb.out] at hX3
  have hL3 : Hid (LdS w rb w.heap.size vb n a g s b x FL 0 17 none 0 [] 1 16 w3) := Lib.hid ⟨⟨hS3, own_nil, fun _ => rfl⟩, hX3, hB2.out.trans (hk3.below hB2.out.size (fun q e => by omega)), (by
    rintro q (e | e)
    · omega
    · cases e), by simp, by omega, by omega, .inl ⟨rfl, hFL.out, by omega, by omega⟩⟩
  have x0 : w3.cell? ⟨rb, 0, none⟩ = some (.pointer (some ⟨w.heap.size, 0, none⟩)) := hX3.cell 0
  rw [hrb.out]
  clear hS3 hk3 hX3 hB2 hS2 hX2 hrb x0
  go_wp2_with fail
  go_loopg [7] 17 (fun ga v wr => ∃ e fa fc l E f, v = .int .i64 e ∧ Hid (LdS w rb w.heap.size vb n a g s b x FL e ga fa fc l E f wr))
  case atStart => exact ⟨0, none, 0, [], 1, 16, rfl, hL3⟩
  case round =>
    clear hL3
    obtain ⟨e, fa, fc, l, E, f, rfl, hrow⟩ := hrel
    generalize wr = wo at *
    have x0 : wo.cell? ⟨rb, 0, none⟩ = some (.pointer (some ⟨w.heap.size, 0, none⟩)) := hrow.out.box.cell 0
    rcases hrow.out.way with ⟨rfl, _, _, hgk⟩ | ⟨rfl, hFLe⟩
    · have hgk2 := hrow.out.most
      obtain ⟨g1, rfl⟩ : ∃ g1, gk = g1 + 1 := ⟨gk - 1, by omega⟩
      go_wp2_with fail
      refine (hrf.out rb 0 g1 fa fc l E f _ hrow.out).mono ?_
      rintro _ w5 ⟨e', fa', fc', l', E', f', rfl, hl'⟩
      replace hl' := Lib.hid hl'
      clear hrow x0
      go_wp2_with fail
      go_roundg g1
      case measure => omega
      case rel => exact ⟨e', fa', fc', l', E', f', rfl, hl'⟩
    · have hse := Lib.hid (doSeal_any w.heap.size vb n a g s b E (.slice fa l.length fc) false wo hrow.out.seg.obj)
      go_wp2_with fail
      refine hse.out.mono ?_
      rintro _ w6 ⟨rfl, hS6, hk6⟩
      have hown6 := own_of_kept hrow.out.seg.own hk6 (own_ne hrow.out.seg.own hrow.out.seg.obj (by decide))
      have hX6 := hrow.out.box.of_kept hk6 (fun e => hrow.out.box.ne hrow.out.seg.obj (by decide) e)
      have x6 : w6.cell? ⟨rb, 0, none⟩ = some (.pointer (some ⟨w.heap.size, 0, none⟩)) := hX6.cell 0
      have hfin := Lib.hid (show ∃ fa fc, Sg w6 w.heap.size vb n a g s b fa fc FL.1 FL.2 true ∧ (∀ q, ofS w.heap.size fa q → w.heap.size ≤ q) ∧ Below w.heap.size w w6 from
        ⟨fa, fc, by rw [hFLe]; exact ⟨hS6, hown6, hrow.out.seg.none_⟩, hrow.out.new, hrow.out.below.trans (hk6.below hrow.out.below.size (fun q e => by omega))⟩)
      clear hrow x0 hS6 hk6 hown6 hX6 hse hFLe
      go_wp2_with fail
      go_ret2
      exact ⟨rfl, hfin.out⟩
end
end Go.Proofs.YtbbhnbdekblghaaGreatDoor.W
end
section
namespace Go.Proofs.YtbbhnbdekblghaaGreatDoor.W
open Go.RowKit
open Go.Proofs.YtbbhnbdekblghaaGreatDoor.M Go.Proofs.YtbbhnbdekblghaaGreatDoor.D Go.Proofs.YtbbhnbdekblghaaGreatDoor.Z
set_option linter.unusedVariables false

/-- Frames that lie in memory. -/
def FrAt (w : World) (va : Option Addr) (fs : List (Int × ByteArray)) : Prop := ∀ i f, fs[i]? = some f → ∃ b o, va = some ⟨b, o, none⟩ ∧ b < w.heap.size ∧ w.cell? ⟨b, o + i * 2, none⟩ = some (.int .i64 f.1) ∧ w.cell? ⟨b, o + i * 2 + 1, none⟩ = some (.string f.2)
theorem FrAt.below {w w' : World} {va : Option Addr} {fs : List (Int × ByteArray)} (h : FrAt w va fs) (hb : Below w.heap.size w w') : FrAt w' va fs := fun i f hi => by
  obtain ⟨b, o, h1, h2, h3, h4⟩ := h i f hi
  exact ⟨b, o, h1, Nat.lt_of_lt_of_le h2 hb.size, (World.cell?_of_block (hb.block b h2)).trans h3, (World.cell?_of_block (hb.block b h2)).trans h4⟩
theorem frRows_at (fs : List (Int × ByteArray)) : ∀ i f, fs[i]? = some f → (frRows fs)[i * 2]? = some (.int .i64 f.1) ∧ (frRows fs)[i * 2 + 1]? = some (.string f.2) := by
  induction fs with
  | nil => intro i f h; cases h
  | cons x fs ih =>
    intro i f h
    cases i with
    | zero =>
      obtain rfl : x = f := by simpa using h
      exact ⟨rfl, rfl⟩
    | succ i =>
      have h2 := ih i f (by simpa using h)
      rw [Nat.succ_mul]
      exact h2
theorem frAt_own {w : World} {B : Nat} {va : Option Addr} {n c : Nat} {fs : List (Int × ByteArray)} (h : w.ownsRow B 43 2 (.slice va n c) n (frRows fs)) (hn : fs.length = n) : FrAt w va fs := fun i f hi => by
  have hlt : i < fs.length := (List.getElem?_eq_some_iff.1 hi).1
  obtain ⟨gg, rfl, h1, h2, h3⟩ := own_news (by omega) (own_mono h (Nat.zero_le _))
  obtain ⟨e1, e2⟩ := frRows_at fs i f hi
  have a1 := h3 _ _ e1
  have a2 := h3 _ _ e2
  have hadd : ∀ j, (⟨gg, 0, none⟩ : Addr).add j = ⟨gg, j, none⟩ := fun j => by unfold Addr.add; split <;> simp_all
  rw [hadd] at a1 a2
  exact ⟨gg, 0, rfl, h2, by rw [Nat.zero_add]; exact a1, by rw [Nat.zero_add]; exact a2⟩
theorem eql_nilF (w : World) (a : Option Addr) (n c : Nat) : (binOp .eql 49 (.slice a n c) (.slice none 0 0)).run Tryz.prog w = .ok (.bool a.isNone) w := by
  simp only [binOp]
  simp [Op.equal, Op.maxDepth, Lib.run_equalIn_slice_nil w 9999 49 43 a n c 0 0 Tryz.underlying49]
set_option maxRecDepth 100000 in
set_option maxHeartbeats 4000000 in
theorem cloneF_any (va : Option Addr) (n c : Nat) (fs : List (Int × ByteArray)) (w : World) (h : w.ownsRow 0 43 2 (.slice va n c) n (frRows fs)) (hn : fs.length = n) (hz : fs = [] → va = none) (hl : n ≤ 1000) :
    Calls Tryz.prog 108 #[.slice va n c] w fun e w' => ∃ va' c', e = .returned (.slice va' n c') ∧ w'.ownsRow w.heap.size 43 2 (.slice va' n c') n (frRows fs) ∧ Below w.heap.size w w' := by
  have hnil := fun W => eql_nilF W va n c
  by_cases h0 : fs = []
  · obtain rfl := hz h0
    subst h0
    obtain rfl : n = 0 := by simpa using hn.symm
    rw [show (none : Option Addr).isNone = true from rfl] at hnil
    replace hnil := hnil
    go_enter Tryz.func108, Tryz.ntmps108
    go_wp2_with fail
    go_ret
    exact ⟨none, 0, rfl, own_nil, Below.refl _ _⟩
  · have hpos : 0 < n := by
      rw [← hn]
      exact List.length_pos_iff.2 h0
    obtain ⟨gg, rfl, hrl, hlt, hnews⟩ := own_news hpos h
    rw [show (some (⟨gg, 0, none⟩ : Addr)).isNone = false from rfl] at hnil
    obtain ⟨i0, hi0, hz0, hz1, hz2⟩ := info_parts infoFrame
    replace hnews := Lib.hid hnews
    clear h hz
    go_enter Tryz.func108, Tryz.ntmps108
    go_wp2_with (with_reducible refine zAppend _ _ _ rfl ?_)
    refine Lib.hid ?_
    refine wpList_append_lies _ rfl _ _ 49 rfl w.heap.size 43 i0 _ 2 24 Tryz.underlying49 hi0 hz0 hz1 hz2 rfl (by omega) (.slice (some ⟨w.heap.size, 0, none⟩) 0 0) 0 [] rfl (World.ownsRow_made w #[] 0 (Nat.le_refl _) (by unfold maxLen; omega) rfl) _ n c (frRows fs) rfl hrl (fun j u hu => by rw [World.cell?_of_block (Below.heap_alloc w _ _ (by have hadd : ((⟨gg, 0, none⟩ : Addr).add j).block = gg := (by unfold Addr.add; split <;> simp_all); rw [hadd]; exact hlt))]; exact hnews.out j u hu) (frRows_one fs) hpos (by unfold maxLen; omega) (by omega) (by simp) _ rfl ?_
    intro g cap w' hown hgrow hat hlt'
    rw [Nat.zero_add, List.nil_append] at hown
    rw [Nat.zero_add]
    have hb : Below w.heap.size w w' := ((Kept.of_below (own := fun q => w.heap.size ≤ q) (allocBelow w (.cells #[] 43))).grown hgrow (fun q hq => .inr (by have e : w.heap.size = q := (by simpa [Value.ownBlock] using hq); omega))).below (Nat.le_refl _) (fun q h => h)
    have hfin := Lib.hid (show ∃ va' c', (Value.slice (some ⟨g, 0, none⟩) n cap) = .slice va' n c' ∧ w'.ownsRow w.heap.size 43 2 (.slice va' n c') n (frRows fs) ∧ Below w.heap.size w w' from ⟨_, _, rfl, hown, hb⟩)
    clear hown hgrow hat hb
    go_wp2_with fail
    go_ret
    obtain ⟨va', c', h1, h2, h3⟩ := hfin.out
    exact ⟨va', c', by rw [← h1]; rfl, h2, h3⟩
theorem frames_any {w : World} {sb vb n a g s b : Nat} {fa : Option Addr} {fc : Nat} {fs : List (Int × ByteArray)} {E : Nat} {sl : Bool} (h : Sg w sb vb n a g s b fa fc fs E sl) (hl : fs.length ≤ 1000) :
    Calls Tryz.prog 63 #[.pointer (some ⟨sb, 0, none⟩)] w fun e w' => ∃ va' c', e = .returned (.slice va' fs.length c') ∧ w'.ownsRow w.heap.size 43 2 (.slice va' fs.length c') fs.length (frRows fs) ∧ Below w.heap.size w w' := by
  have c6 : w.cell? ⟨sb, 6, none⟩ = some (.slice fa fs.length fc) := h.obj.cell 6
  have hc := Lib.hid (cloneF_any fa fs.length fc fs w h.own rfl h.none_ hl)
  clear h
  go_enter Tryz.func63, Tryz.ntmps63
  go_wp2_with fail
  refine hc.out.mono ?_
  rintro _ w1 ⟨va', c', rfl, h1, h2⟩
  replace h1 := Lib.hid h1
  go_wp2_with fail
  go_ret
  exact ⟨va', c', rfl, h1.out, h2⟩
theorem frames_nil (w : World) : Calls Tryz.prog 63 #[.pointer none] w fun e w' => e = .returned (.slice none 0 0) ∧ w = w' := by
  go_enter Tryz.func63, Tryz.ntmps63
  go_wp2_with fail
  go_ret
  exact ⟨rfl, rfl⟩
theorem header_any {w : World} {sb vb n a g s b E : Nat} {fv : Value} {sl : Bool} (h : Whole w sb 160 (sgL vb n a g s b fv E sl)) :
    Calls Tryz.prog 54 #[.pointer (some ⟨sb, 0, none⟩)] w fun e w' => e = .returned (.agg #[.int .i64 (a : Int), .int .u32 (g : Int), .int .u32 (s : Int), .int .i64 (b : Int)]) ∧ Below w.heap.size w w' := by
  have hB := Lib.hid (allocBelow w (.cells (hdr a g s b).toArray 79))
  have hS := h.alloc (.cells #[.int .i64 0, .int .u32 0, .int .u32 0, .int .i64 0] 79)
  have s2 := hS.cell 2
  have s3 := hS.cell 3
  have s4 := hS.cell 4
  have s5 := hS.cell 5
  simp only [List.getElem?_cons_zero, List.getElem?_cons_succ] at s2 s3 s4 s5
  clear h hS
  go_enter Tryz.func54, Tryz.ntmps54
  go_wp2_with fail
  exact bodyPost_ret (v := .agg #[.int .i64 (a : Int), .int .u32 (g : Int), .int .u32 (s : Int), .int .i64 (b : Int)]) (by simp [results, Tryz.results54, go_sem]) rfl ⟨rfl, hB.out⟩
theorem header_nil (w : World) : Calls Tryz.prog 54 #[.pointer none] w fun e w' => e = .returned (.agg #[.int .i64 0, .int .u32 0, .int .u32 0, .int .i64 0]) ∧ Below w.heap.size w w' := by
  have hB := Lib.hid (allocBelow w (.cells (hdr 0 0 0 0).toArray 79))
  go_enter Tryz.func54, Tryz.ntmps54
  go_wp2_with fail
  exact bodyPost_ret (v := .agg #[.int .i64 0, .int .u32 0, .int .u32 0, .int .i64 0]) (by simp [results, Tryz.results54, go_sem]) rfl ⟨rfl, hB.out⟩
theorem wipe_nil (n : Int) (w : World) : Calls Tryz.prog 92 #[.pointer none, .int .i64 n] w fun e w' => e = .returned (.int .i64 7) ∧ w = w' := by
  go_enter Tryz.func92, Tryz.ntmps92
  go_wp2_with fail
  refine (find_nil n _).mono ?_
  rintro _ w1 ⟨rfl, rfl⟩
  go_wp2_with fail
  go_ret
  exact ⟨rfl, rfl⟩
theorem zeros_repeat : (⟨(Lib.repeatL (⟨#[0]⟩ : ByteArray).data.toList 64).toArray⟩ : ByteArray) = zerosB 64 := by decide
section
variable {w : World} {vb d g' : Nat} {v : Value} {lie : List (List UInt8)} {ws : List (Nat × List UInt8)} {from_ m : Nat} {fuse steps : Int} {gone : Bool}
theorem wipe_out (n : Int) (q : Nat) (h : Vw w vb d g' v lie ws from_ m fuse steps gone) (hm : m = q + 2) (hq : q ≤ 1000000) (hn : ¬ (0 ≤ n ∧ n < ((q / 16 : Nat) : Int))) :
    Calls Tryz.prog 92 #[.pointer (some ⟨vb, 0, none⟩), .int .i64 n] w fun e w' => e = .returned (.int .i64 20) ∧ w = w' := by
  have hf := Lib.hid (find_out n q h hm hq hn)
  clear h
  go_enter Tryz.func92, Tryz.ntmps92
  go_wp2_with fail
  refine hf.out.mono ?_
  rintro _ w1 ⟨rfl, rfl⟩
  go_wp2_with fail
  go_ret
  exact ⟨rfl, rfl⟩
set_option maxRecDepth 100000 in
theorem wipe_by (n q : Nat) (r : Int) (V : Nat → World → Prop) (h : Vw w vb d g' v lie ws from_ m fuse steps gone) (hm : m = q + 2) (hq : q ≤ 1000) (hn : n < q / 16)
    (hV0 : V 0 w) (hVb : ∀ j W W', V j W → Below W.heap.size W W' → V j W')
    (hWr : ∀ W, V 0 W → Calls Tryz.prog 125 #[.pointer (some ⟨vb, 0, none⟩), .int .i64 ((2 + 16 * n + 0 : Nat) : Int), .string (zerosB 64)] W fun e w' => e = .returned (.int .i64 r) ∧ V 1 w') :
    Calls Tryz.prog 92 #[.pointer (some ⟨vb, 0, none⟩), .int .i64 (n : Int)] w fun e w' => e = .returned (.int .i64 r) ∧ V 1 w' := by
  have hf := Lib.hid (find_in n q h hm (by omega) hn)
  have hrp := fun W => Tryz.strings_Repeat ⟨#[0]⟩ 64 W (by omega) (by decide)
  rw [zeros_repeat] at hrp
  obtain ⟨Z, hZ⟩ : ∃ Z, Hid (zerosB 64 = Z) := ⟨_, Lib.hid rfl⟩
  rw [hZ.out] at hrp hWr
  have hse : ∀ W, W.cell? ⟨w.heap.size, 1, none⟩ = some (.int .i64 (n : Int)) → Calls Tryz.prog 126 #[.pointer (some ⟨w.heap.size, 0, none⟩), .int .i64 0] W fun e w' => e = .returned (.int .i64 ((2 + 16 * n + 0 : Nat) : Int)) ∧ W = w' := fun W hc => sectorAt_any w.heap.size n 0 W (by omega) (by omega) hc
  obtain ⟨A, hA⟩ : ∃ A : Nat, Hid (2 + 16 * n + 0 = A) := ⟨_, Lib.hid rfl⟩
  rw [hA.out] at hse hWr
  replace hse := Lib.hid hse
  replace hWr := Lib.hid hWr
  have hrp2 : Hid (∀ W, Calls Tryz.prog 127 #[.string ⟨#[0]⟩, .int .i64 64] W fun e w' => e = .returned (.string Z) ∧ Below W.heap.size W w') := Lib.hid hrp
  replace hV0 := Lib.hid hV0
  replace hVb := Lib.hid hVb
  clear h hrp hZ
  go_enter Tryz.func92, Tryz.ntmps92
  go_wp2_with fail
  refine hf.out.mono ?_
  rintro _ w1 ⟨rfl, hS1, hb1⟩
  have hV1 := Lib.hid (hVb.out _ _ _ hV0.out hb1)
  have c1 : w1.cell? ⟨w.heap.size, 1, none⟩ = some (.int .i64 (n : Int)) := hS1.cell 1
  clear hS1 hb1
  go_wp2_with fail
  refine (hse.out _ c1).mono ?_
  rintro _ w2 ⟨rfl, rfl⟩
  go_wp2_with fail
  refine (hrp2.out _).mono ?_
  rintro _ w3 ⟨rfl, hb3⟩
  have hV3 := Lib.hid (hVb.out _ _ _ hV1.out hb3)
  clear c1 hb3
  go_wp2_with fail
  refine (hWr.out _ hV3.out).mono ?_
  rintro _ w4 ⟨rfl, hV4⟩
  replace hV4 := Lib.hid hV4
  go_wp2_with fail
  go_ret
  exact ⟨rfl, hV4.out⟩
end
end Go.Proofs.YtbbhnbdekblghaaGreatDoor.W
end
