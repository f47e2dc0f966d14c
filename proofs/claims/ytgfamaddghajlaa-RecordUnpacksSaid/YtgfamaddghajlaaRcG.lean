/- Package record's check, Pack. -/
import Derived.Test.YtgfamaddghajlaaRcF
import Derived.Test.YtgfamaddghajlaaStops
import Derived.Deep.AppendLies
namespace Go.Proofs.Ytgfamaddghajlaa.W
open Go.RowKit Go.Sort
open Go.Proofs.Ytgfamaddghajlaa.M Go.Proofs.Ytgfamaddghajlaa.D Go.Proofs.Ytgfamaddghajlaa.Z
set_option linter.unusedVariables false
set_option linter.unusedSimpArgs false

theorem rise_any (va : Option Addr) (c : Nat) (rs : List Rc) (w : World) (h : RcAt w va rs) (hn : rs.length ≤ 1000) (h0 : rs ≠ []) (B : Bool) (hB : B = true ↔ risesP rs) :
    Calls Try.prog 51 #[.slice va rs.length c] w fun e w' => e = .returned (.bool B) ∧ Below w.heap.size w w' := by
  have hpos : 1 ≤ rs.length := List.length_pos_iff.2 h0
  have hiff : risesP rs ↔ ∀ (i : Nat) (a b : Rc), i < rs.length - 1 → rs[i]? = some a → rs[i + 1]? = some b → a.off < b.off :=
    ⟨fun h i a b _ => h i a b, fun h i a b ha hb => h i a b (by have := (List.getElem?_eq_some_iff.1 hb).1; omega) ha hb⟩
  by_cases hall : risesP rs
  · obtain rfl := hB.2 hall
    have := rise_at va c rs w h hn h0 (rs.length - 1) (Nat.le_refl _) (fun i x y hi => hiff.1 hall i x y hi) (fun a b _ hb => by have := (List.getElem?_eq_some_iff.1 hb).1; omega)
    rwa [decide_eq_true rfl] at this
  · obtain rfl : B = false := by
      cases B with
      | false => rfl
      | true => exact absurd (hB.1 rfl) hall
    obtain ⟨k, a, b, h1, h2, h3, h4, h5⟩ := first_down rs (rs.length - 1) (fun e => hall (hiff.2 e))
    have := rise_at va c rs w h hn h0 k (by omega) h5 (fun x y hx hy => by rw [h2] at hx; rw [h3] at hy; cases hx; cases hy; exact h4)
    rwa [decide_eq_false (by omega)] at this

set_option maxRecDepth 100000 in
theorem check_not (va : Option Addr) (c : Nat) (rs : List Rc) (w : World) (h : RcAt w va rs) (hn : rs.length ≤ 1000) (hf : ¬ fair rs) :
    Calls Try.prog 33 #[.slice va rs.length c] w fun e w' => e = .returned (.int .i64 1) ∧ Below w.heap.size w w' := by
  by_cases h0 : rs = []
  · subst h0
    clear hf h
    go_enter Try.func33, Try.ntmps33
    go_wp2_with fail
    go_ret
    exact ⟨rfl, Below.refl _ _⟩
  have hpos : 1 ≤ rs.length := List.length_pos_iff.2 h0
  by_cases hall : ∀ r ∈ rs, r.ok
  · have hnr : ¬ risesP rs := fun e => hf ⟨h0, hall, e⟩
    have hc := Lib.hid (contains_any va c rs w h hn false ⟨fun e => (by cases e), fun e => absurd hall e⟩)
    have hr := Lib.hid (fun W (hW : RcAt W va rs) => rise_any va c rs W hW hn h0 false ⟨fun e => (by cases e), fun e => absurd e hnr⟩)
    replace h := Lib.hid h
    obtain ⟨N, hN⟩ : ∃ N, Hid (rs.length = N) := ⟨_, Lib.hid rfl⟩
    rw [hN.out] at hc hr hpos ⊢
    have hne : ((N : Int) == 0) = false := by simp; omega
    have hne2 : ¬ (N : Int) = 0 := by omega
    have hne3 : ¬ N = 0 := by omega
    clear hf h0 hall hnr hn
    go_enter Try.func33, Try.ntmps33
    go_wp2_with fail
    refine hc.out.mono ?_
    rintro e w1 ⟨rfl, hb⟩
    have h1 := h.out.below hb
    go_wp2_with fail
    refine (hr.out _ h1).mono ?_
    rintro e w2 ⟨rfl, hb2⟩
    have hB := Lib.hid (grew hb hb2)
    clear h1 hb hb2
    go_wp2_with fail
    go_ret
    exact ⟨rfl, hB.out⟩
  · have hc := Lib.hid (contains_any va c rs w h hn true ⟨fun _ => hall, fun e => rfl⟩)
    obtain ⟨N, hN⟩ : ∃ N, Hid (rs.length = N) := ⟨_, Lib.hid rfl⟩
    rw [hN.out] at hc hpos ⊢
    have hne : ((N : Int) == 0) = false := by simp; omega
    have hne2 : ¬ (N : Int) = 0 := by omega
    have hne3 : ¬ N = 0 := by omega
    clear hf h0 hall h hn
    go_enter Try.func33, Try.ntmps33
    go_wp2_with fail
    refine hc.out.mono ?_
    rintro e w1 ⟨rfl, hb⟩
    replace hb := Lib.hid hb
    go_wp2_with fail
    go_ret
    exact ⟨rfl, hb.out⟩

set_option maxRecDepth 100000 in
theorem check_fair (va : Option Addr) (c : Nat) (rs : List Rc) (w : World) (h : RcAt w va rs) (hn : rs.length ≤ 1000) (hf : fair rs) :
    Calls Try.prog 33 #[.slice va rs.length c] w fun e w' => e = .returned (.int .i64 (if 8 < rs.length then 2 else 0)) ∧ Below w.heap.size w w' := by
  obtain ⟨h0, hall, hri⟩ := hf
  have hpos : 1 ≤ rs.length := List.length_pos_iff.2 h0
  have hc := Lib.hid (contains_any va c rs w h hn false ⟨fun e => (by cases e), fun e => absurd hall e⟩)
  have hr := Lib.hid (fun W (hW : RcAt W va rs) => rise_any va c rs W hW hn h0 true ⟨fun e => hri, fun _ => rfl⟩)
  replace h := Lib.hid h
  obtain ⟨N, hN⟩ : ∃ N, Hid (rs.length = N) := ⟨_, Lib.hid rfl⟩
  rw [hN.out] at hc hr hpos ⊢
  have hne : ((N : Int) == 0) = false := by simp; omega
  have hne2 : ¬ (N : Int) = 0 := by omega
  have hne3 : ¬ N = 0 := by omega
  clear h0 hall hri hn
  by_cases h8 : 8 < N
  · rw [if_pos h8]
    have h8i : (8 : Int) < (N : Int) := by omega
    go_enter Try.func33, Try.ntmps33
    go_wp2_with fail
    refine hc.out.mono ?_
    rintro e w1 ⟨rfl, hb⟩
    have h1 := h.out.below hb
    go_wp2_with fail
    refine (hr.out _ h1).mono ?_
    rintro e w2 ⟨rfl, hb2⟩
    have hB := Lib.hid (grew hb hb2)
    clear h1 hb hb2
    go_wp2_with fail
    go_ret
    exact ⟨rfl, hB.out⟩
  · rw [if_neg h8]
    have h8i : (N : Int) ≤ 8 := by omega
    go_enter Try.func33, Try.ntmps33
    go_wp2_with fail
    refine hc.out.mono ?_
    rintro e w1 ⟨rfl, hb⟩
    have h1 := h.out.below hb
    go_wp2_with fail
    refine (hr.out _ h1).mono ?_
    rintro e w2 ⟨rfl, hb2⟩
    have hB := Lib.hid (grew hb hb2)
    clear h1 hb hb2
    go_wp2_with fail
    go_ret
    exact ⟨rfl, hB.out⟩

theorem pack_refused (va : Option Addr) (c : Nat) (rs : List Rc) (x : Int) (hx : x = 1 ∨ x = 2) (w : World)
    (hc : Calls Try.prog 33 #[.slice va rs.length c] w fun e w' => e = .returned (.int .i64 x) ∧ Below w.heap.size w w') :
    Calls Try.prog 17 #[.slice va rs.length c] w fun e w' => e = .returned (.tuple #[.string ⟨#[]⟩, .int .i64 x]) ∧ Below w.heap.size w w' := by
  obtain ⟨N, hN⟩ : ∃ N, Hid (rs.length = N) := ⟨_, Lib.hid rfl⟩
  rw [hN.out] at hc ⊢
  replace hc := Lib.hid hc
  rcases hx with rfl | rfl
  all_goals
    go_enter Try.func17, Try.ntmps17
    go_wp2_with fail
    refine hc.out.mono ?_
    rintro e w1 ⟨rfl, hb⟩
    replace hb := Lib.hid hb
    go_wp2_with fail
    go_ret2
    exact ⟨rfl, hb.out⟩

set_option maxRecDepth 100000 in
set_option maxHeartbeats 4000000 in
theorem pack_few (va : Option Addr) (c : Nat) (rs : List Rc) (w : World) (h : RcAt w va rs) (hf : fair rs) (h8 : rs.length ≤ 8) :
    Calls Try.prog 17 #[.slice va rs.length c] w fun e w' => e = .returned (if 773 < (packL rs).length then .tuple #[.string ⟨#[]⟩, .int .i64 2] else .tuple #[.string (B (packL rs)), .int .i64 0]) ∧ Below w.heap.size w w' := by
  have hc := check_fair va c rs w h (by omega) hf
  rw [if_neg (by omega)] at hc
  replace hc := Lib.hid hc
  have hok := Lib.hid hf.2.1
  have hlay := Lib.hid (fun (r : Rc) (hr : r.ok) W => lay_any r.off r.tick r.key r.val r.gone r.prod r.seq r.frm W hr)
  obtain ⟨N, hN⟩ : ∃ N, Hid (rs.length = N) := ⟨_, Lib.hid rfl⟩
  rw [hN.out] at hc h8 ⊢
  obtain ⟨V, hV⟩ : ∃ V, Hid ((if 773 < (packL rs).length then Value.tuple #[.string ⟨#[]⟩, .int .i64 2] else .tuple #[.string (B (packL rs)), .int .i64 0]) = V) := ⟨_, Lib.hid rfl⟩
  rw [hV.out]
  have hmany : Hid (∀ k, (packL (rs.take k)).length ≤ 2200) := Lib.hid (fun k => by
    have key : ∀ l : List Rc, (∀ r ∈ l, r.ok) → (packL l).length ≤ 263 * l.length := by
      intro l
      induction l with
      | nil => intro _; simp [packL]
      | cons r l ih =>
        intro hl
        have h1 := recL_bounds (hl r (by simp))
        obtain ⟨_, _, _, _, _, _, hk, hv, _⟩ := hl r (by simp)
        have h2 := ih (fun x hx => hl x (by simp [hx]))
        simp only [packL, List.length_append, List.length_cons]
        omega
    have := key (rs.take k) (fun r hr => hok.out r (List.mem_of_mem_take hr))
    have h2 : (rs.take k).length ≤ 8 := by rw [List.length_take]; have := hN.out; omega
    omega)
  have hpr : Hid (∀ r ∈ rs, (recL r).length ≤ 300) := Lib.hid (fun r hr => by
    have h1 := recL_bounds (hok.out r hr)
    obtain ⟨_, _, _, _, _, _, hk, hv, _⟩ := hok.out r hr
    omega)
  replace h := Lib.hid h
  clear hf
  go_enter Try.func17, Try.ntmps17
  go_wp2_with fail
  refine hc.out.mono ?_
  rintro e w0 ⟨rfl, hb0⟩
  have hD0 := Lib.hid (Bd.fresh w0)
  have hE0 := Lib.hid ((Below.refl w0.heap.size w0).alloc (Nat.le_refl _) (.cells #[.pointer none, .slice none 0 0] 67))
  have hs0 : w0.heap.size ≤ (w0.alloc (.cells #[.pointer none, .slice none 0 0] 67)).heap.size := by simp
  have h00 := Lib.hid (h.out.below hb0)
  replace hb0 := Lib.hid hb0
  go_wp2_with fail
  go_loopg [15] N (fun ga i wr => ∃ k : Nat, k ≤ N ∧ N ≤ k + ga ∧ i = .int .i64 k ∧ Hid (Bd w0.heap.size w0.heap.size (packL (rs.take k)) wr ∧ Below w0.heap.size w0 wr ∧ w0.heap.size ≤ wr.heap.size))
  case atStart => exact ⟨0, by omega, by omega, rfl, Lib.hid ⟨by simpa [packL] using hD0.out, hE0.out, hs0⟩⟩
  case round =>
    clear hD0 hE0 hs0
    obtain ⟨k, hk, hg, rfl, hrel⟩ := hrel
    obtain ⟨hD, hE, hs⟩ := hrel.out
    clear hrel
    generalize wr = wo at *
    by_cases hlt : k < N
    · obtain ⟨r, hr⟩ : ∃ r, rs[k]? = some r := ⟨_, List.getElem?_eq_getElem (by have := hN.out; omega)⟩
      have hro := hok.out r (List.mem_of_getElem? hr)
      have hlr := hpr.out r (List.mem_of_getElem? hr)
      have hst : packL (rs.take (k + 1)) = packL (rs.take k) ++ recL r := by
        have hkl := (List.getElem?_eq_some_iff.1 hr).1
        rw [List.take_add_one, hr]
        exact packL_snoc _ _
      obtain ⟨b, o, rfl, c0, c1, c2, c3, c4, c5, c6, c7⟩ := (h00.out.below (w' := wo) (by exact hE)).get hr
      have hly := Lib.hid (hlay.out r hro)
      have hm1 := hmany.out k
      replace hst := Lib.hid hst
      replace hr := Lib.hid hr
      replace hE := Lib.hid hE
      replace hD := Lib.hid hD
      go_wp2_with fail
      refine (hly.out _).mono ?_
      rintro e w1 ⟨rfl, hb1⟩
      have hD1 := (hD.out.alloc _).below hb1
      have hs1 : w0.heap.size ≤ w1.heap.size := Nat.le_trans hs (Nat.le_trans (by simp) hb1.size)
      have hE1 := Lib.hid ((hE.out.alloc hs _).trans (hb1.mono (by simp; omega)))
      replace hD1 := Lib.hid hD1
      clear c0 c1 c2 c3 c4 c5 c6 c7 hb1 hD hE
      go_wp2_with fail
      refine (hD1.out.write (recL r) (by omega) hs1).mono ?_
      rintro e w2 ⟨rfl, hD2, hb2⟩
      have hs2 := Nat.le_trans hs1 hb2.size
      rw [← hst.out] at hD2
      have hfin := Lib.hid (And.intro hD2 (And.intro (hE1.out.trans hb2) hs2))
      clear hD2 hb2 hE1 hD1
      go_wp2_with fail
      go_roundg (gk - 1)
      case measure => omega
      case rel => exact ⟨k + 1, by omega, by omega, by go_num, hfin⟩
    · obtain rfl : k = N := by omega
      rw [List.take_of_length_le (by have := hN.out; omega)] at hD
      have hle := hmany.out k
      rw [List.take_of_length_le (by have := hN.out; omega)] at hle
      obtain ⟨L, hL⟩ : ∃ L, Hid (packL rs = L) := ⟨_, Lib.hid rfl⟩
      rw [hL.out] at hD hV hle
      have hB := Lib.hid (hb0.out.trans (hE.mono hb0.out.size))
      replace hD := Lib.hid hD
      by_cases h7 : 773 < L.length
      · have h7i : (773 : Int) < (L.length : Int) := by omega
        have hVe : V = .tuple #[.string ⟨#[]⟩, .int .i64 2] := by rw [← hV.out, if_pos h7]
        subst hVe
        clear hV
        go_wp2_with fail
        refine hD.out.len.mono ?_
        rintro e w1 ⟨rfl, rfl⟩
        go_wp2_with fail
        go_ret2
        exact ⟨rfl, hB.out⟩
      · have h7i : (L.length : Int) ≤ 773 := by omega
        have hVe : V = .tuple #[.string (M.B L), .int .i64 0] := by rw [← hV.out, if_neg h7]
        subst hVe
        clear hV
        go_wp2_with fail
        refine hD.out.len.mono ?_
        rintro e w1 ⟨rfl, rfl⟩
        go_wp2_with fail
        refine (hD.out.string hs).mono ?_
        rintro e w2 ⟨rfl, _, hb2⟩
        have hB2 := Lib.hid (hB.out.trans (hb2.mono hb0.out.size))
        clear hb2
        go_wp2_with fail
        go_ret2
        exact ⟨rfl, hB2.out⟩
end Go.Proofs.Ytgfamaddghajlaa.W
