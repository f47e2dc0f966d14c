/- Layer 15: six places, into which segments are laid under stamps of their own. Layer 15: what the law's places come to; what is left behind Clean (plain). Segments that are made, that come in, opened. The law's two arrays: built and laid. The walk of ScanChains. -/
import Derived.Test.YtbbhnbdekblghaaGreatDoorScN
import Derived.Test.YtbbhnbdekblghaaGreatDoorCnA
import Derived.Deep.Slices
import Derived.Great.Walk
import Derived.Great.BuildSlice
import Derived.OwnWalk
import Derived.WalkKit
import Derived.ProofKit
import Derived.Deep.Quiet
import Derived.Deep.QuietTactic
section
namespace Go.Proofs.YtbbhnbdekblghaaGreatDoor.W
open Go.RowKit Go.Sort
open Go.Proofs.YtbbhnbdekblghaaGreatDoor.M Go.Proofs.YtbbhnbdekblghaaGreatDoor.D Go.Proofs.YtbbhnbdekblghaaGreatDoor.Z
set_option linter.unusedVariables false
set_option linter.unusedSimpArgs false

/-- A segment that is made, as the law has it. -/
structure Md where
  (n f log : Int)
  (gen stamp : Nat)
  (base : Int)
/-- Its row of cells. -/
abbrev Md.cells (m : Md) : List Value := [.int .i64 m.n, .int .i64 m.f, .int .i64 m.log, .int .u32 (m.gen : Int), .int .u32 (m.stamp : Int), .int .i64 m.base]
structure Md.Fair (m : Md) : Prop where
  n0 : 0 ≤ m.n
  n5 : m.n ≤ 5
  f0 : 0 ≤ m.f
  f9 : m.f ≤ 9
  a1 : 1 ≤ m.log
  a2 : m.log ≤ 65535
  b0 : 0 ≤ m.base
  b1 : m.base ≤ 1073741824
  g2 : m.gen < 4294967296
  s2 : m.stamp < 4294967296
def Md.hd (m : Md) : Hd := ⟨m.log.toNat, m.gen, m.stamp, m.base.toNat, frs m.f.toNat⟩
/-- What the six places hold: the last one that was laid there. -/
def lastM (l : List Md) : List (Option Md) := l.foldl (fun o m => o.set m.n.toNat (some m)) (List.replicate 6 none)
theorem lastM_snoc (l : List Md) (m : Md) : lastM (l ++ [m]) = (lastM l).set m.n.toNat (some m) := by unfold lastM; rw [List.foldl_append]; rfl
theorem lastM_len (l : List Md) : (lastM l).length = 6 := by
  unfold lastM
  have h : ∀ (l : List Md) (o : List (Option Md)), (l.foldl (fun o m => o.set m.n.toNat (some m)) o).length = o.length := by
    intro l
    induction l with
    | nil => intro o; rfl
    | cons m l ih => intro o; rw [List.foldl_cons, ih, List.length_set]
  rw [h, List.length_replicate]
theorem lastM_mem (l : List Md) : ∀ (i : Nat) (m : Md), (lastM l)[i]? = some (some m) → m ∈ l ∧ m.n.toNat = i := by
  have h : ∀ (r : List Md) (o : List (Option Md)), (∀ (i : Nat) (m : Md), o[i]? = some (some m) → m ∈ l ∧ m.n.toNat = i) → (∀ m ∈ r, m ∈ l) → ∀ (i : Nat) (m : Md), (r.foldl (fun o m => o.set m.n.toNat (some m)) o)[i]? = some (some m) → m ∈ l ∧ m.n.toNat = i := by
    intro r
    induction r with
    | nil => intro o ho _; exact ho
    | cons x r ih =>
      intro o ho hr
      rw [List.foldl_cons]
      refine ih _ (fun i m hi => ?_) (fun m hm => hr m (List.mem_cons_of_mem _ hm))
      rw [List.getElem?_set] at hi
      split at hi
      · rename_i e
        split at hi
        · obtain rfl := Option.some.inj (Option.some.inj hi)
          exact ⟨hr _ (List.mem_cons_self ..), e⟩
        · cases hi
      · exact ho i m hi
  refine h l _ (fun i m hi => ?_) (fun m hm => hm)
  rw [List.getElem?_replicate] at hi
  split at hi <;> cases hi
/-- The places, and under which stamps something lies there. -/
structure Six (ws : List (Nat × List UInt8)) (l : List Md) : Prop where
  lies : ∀ i x, ((lastM l).map (Option.map Md.hd))[i]? = some x → Lies (zeros 98) ws 0 i x
  free : ∀ i : Nat, i < 6 → ∀ s : Nat, (∀ m ∈ l, ¬ (m.n = (i : Int) ∧ m.stamp = s)) → ∀ k c, 1 ≤ k → k < 16 → ¬ okS (secOf (zeros 98) ws 0 i) s c k
theorem six_fresh : Six [] [] := by
  refine ⟨fun i x hx => ?_, fun i hi s _ => by rw [sec_zero98 i hi]; exact blank_no s⟩
  refine lies_fresh i x ?_
  rw [show (lastM []).map (Option.map Md.hd) = List.replicate 6 none from rfl] at hx
  exact hx
section
variable {w0 V : World} {vb d g' : Nat} {ws : List (Nat × List UInt8)} {st : Int} {K : List Bk} {l : List Md}
/-- The law's laid, of a segment that has a stamp of its own in its place. -/
theorem laid_six (hT : Wide w0) (m : Md) (hm : m.Fair) (hV : VB w0 vb d g' (zeros 98) ws 0 98 st K V) (h6 : Six ws l) (h0 : 0 ≤ st ∧ st ≤ 1000) (hw : ws.length ≤ 1000) (hno : ∀ o ∈ l, ¬ (o.n = m.n ∧ o.stamp = m.stamp)) :
    Calls Tryz.prog 32 #[.pointer (some ⟨vb, 0, none⟩), .int .i64 m.n, .agg #[.int .i64 m.log, .int .u32 (m.gen : Int), .int .u32 (m.stamp : Int), .int .i64 m.base], .int .i64 m.f] V fun e w' => e = .returned (.bool true) ∧ ∃ wsk, VB w0 vb d g' (zeros 98) wsk 0 98 (st + 1 + m.f) K w' ∧ Six wsk (l ++ [m]) ∧ (wsk.length : Int) = ws.length + 1 + m.f := by
  obtain ⟨n, f, a, g, s, b⟩ := m
  obtain ⟨n0, n5, f0, f9, a1, a2, b0, b1, g2, s2⟩ := hm
  dsimp only at n0 n5 f0 f9 a1 a2 b0 b1 g2 s2 hno ⊢
  obtain ⟨n, rfl⟩ := Int.eq_ofNat_of_zero_le n0
  obtain ⟨f, rfl⟩ := Int.eq_ofNat_of_zero_le f0
  obtain ⟨a, rfl⟩ := Int.eq_ofNat_of_zero_le (show 0 ≤ a by omega)
  obtain ⟨b, rfl⟩ := Int.eq_ofNat_of_zero_le b0
  have hn6 : n < 6 := by omega
  refine (laid_any hV (room15 n hn6) hT (by omega) (by omega) g2 s2 (by omega) (by omega) h0.1 (by omega) (by omega) (h6.free n hn6 s hno)).mono ?_
  rintro e w' ⟨rfl, sb, r, wsk, _, _, _, _, _, _, q7, q8, q9, q10, q11, q12⟩
  refine ⟨rfl, wsk, q7.sub (List.sublist_append_right _ _), ⟨fun i x hx => ?_, fun i hi t ht k c hk hk2 hok => ?_⟩, by rw [q11]; omega⟩
  · rw [lastM_snoc, List.map_set, List.getElem?_set] at hx
    split at hx
    · rename_i e
      split at hx
      · obtain rfl := Option.some.inj hx
        have e2 : n = i := e
        subst e2
        exact ⟨⟨by show 1 ≤ a; omega, by show a < 65536; omega, g2, s2, by show b ≤ 1099511627776; omega⟩, q8, q9⟩
      · cases hx
    · rename_i e
      have e2 : i ≠ n := fun h => e h.symm
      have hl := h6.lies i x hx
      exact hl.of_sec (q10 i e2)
  · by_cases e : i = n
    · subst e
      by_cases e2 : t = s
      · exact ht ⟨(i : Int), f, a, g, s, b⟩ (List.mem_append_right _ (List.mem_singleton.2 rfl)) ⟨rfl, e2.symm⟩
      · exact h6.free i hi t (fun m hm => ht m (List.mem_append_left _ hm)) k c hk hk2 (q12 t c k e2 hok)
    · rw [q10 i e] at hok
      exact h6.free i hi t (fun m hm => ht m (List.mem_append_left _ hm)) k c hk hk2 hok
end
end Go.Proofs.YtbbhnbdekblghaaGreatDoor.W
end
section
namespace Go.Proofs.YtbbhnbdekblghaaGreatDoor.W
open Go.RowKit Go.Sort
open Go.Proofs.YtbbhnbdekblghaaGreatDoor.M Go.Proofs.YtbbhnbdekblghaaGreatDoor.D Go.Proofs.YtbbhnbdekblghaaGreatDoor.Z
set_option linter.unusedVariables false
set_option linter.unusedSimpArgs false

/-- The law's segments of the first k places, with the places. -/
def foundM (ms : List (Option Md)) (k : Nat) : List (Nat × Md) := (List.range k).filterMap fun i => (ms.getD i none).map fun x => (i, x)
theorem foundM_yes {ms : List (Option Md)} {k : Nat} {x : Md} (h : ms[k]? = some (some x)) : foundM ms (k + 1) = foundM ms k ++ [(k, x)] := by
  unfold foundM
  rw [List.range_succ, List.filterMap_append]
  simp [h]
theorem foundM_no {ms : List (Option Md)} {k : Nat} (h : ms[k]? = some none) : foundM ms (k + 1) = foundM ms k := by
  unfold foundM
  rw [List.range_succ, List.filterMap_append]
  simp [h]
theorem foundM_len (ms : List (Option Md)) (k : Nat) : (foundM ms k).length ≤ k := by
  unfold foundM
  exact Nat.le_trans (List.length_filterMap_le _ _) (by simp)
theorem found_map (ms : List (Option Md)) (k : Nat) : found (ms.map (Option.map Md.hd)) k = (foundM ms k).map fun p => (p.1, p.2.hd) := by
  unfold found foundM
  rw [List.map_filterMap]
  congr 1
  funext i
  rw [List.getD_eq_getElem?_getD, List.getD_eq_getElem?_getD, List.getElem?_map]
  rcases ms[i]? with _ | (_ | x) <;> rfl
/-- A made segment, as the definition looks at it. -/
def sgM (m : Md) : Sg5 := ⟨m.log, m.gen, m.base, m.f, m.stamp⟩
def segsM (l : List Md) (k : Nat) : List Sg5 := (foundM (lastM l) k).map fun p => sgM p.2
def numsM (l : List Md) (k : Nat) : List Int := (foundM (lastM l) k).map fun p => (p.1 : Int)
theorem foundM_mem {l : List Md} {k : Nat} {p : Nat × Md} (h : p ∈ foundM (lastM l) k) : p.2 ∈ l := by
  obtain ⟨i, _, h2⟩ := List.mem_filterMap.1 h
  rw [List.getD_eq_getElem?_getD] at h2
  cases h3 : (lastM l)[i]? with
  | none => rw [h3] at h2; cases h2
  | some o =>
    cases o with
    | none => rw [h3] at h2; cases h2
    | some m =>
      rw [h3] at h2
      have e : (i, m) = p := Option.some.inj h2
      subst e
      exact (lastM_mem l i m h3).1
/-- What is loaded is what was made. -/
theorem got_made {rs : List Sr} {l : List Md} (hf : ∀ m ∈ l, m.Fair) (h : Got rs (found ((lastM l).map (Option.map Md.hd)) 6)) : rs.map sg5 = segsM l 6 ∧ numL rs = numsM l 6 ∧ ∀ r ∈ rs, r.b ≤ 1073741824 := by
  have h1 := h.1
  rw [found_map] at h1
  have e1 : rs.map sg5 = (rs.map fun r => (r.n, r.hd)).map fun p => (⟨p.2.a, p.2.g, p.2.b, p.2.fs.length, p.2.s⟩ : Sg5) := by rw [List.map_map]; rfl
  have e2 : numL rs = (rs.map fun r => (r.n, r.hd)).map fun p => (p.1 : Int) := by rw [List.map_map]; rfl
  refine ⟨?_, ?_, fun r hr => ?_⟩
  · rw [e1, h1, List.map_map]
    unfold segsM
    refine List.map_congr_left fun p hp => ?_
    have hm := hf _ (foundM_mem hp)
    obtain ⟨i, n, f, a, g, s, b⟩ := p
    obtain ⟨n0, n5, f0, f9, a1, a2, b0, b1, g2, s2⟩ := hm
    dsimp only at n0 n5 f0 f9 a1 a2 b0 b1 g2 s2
    show (⟨((a.toNat : Nat) : Int), (g : Int), ((b.toNat : Nat) : Int), (((frs f.toNat).length : Nat) : Int), (s : Int)⟩ : Sg5) = ⟨a, g, b, f, s⟩
    rw [frs_len, Int.toNat_of_nonneg (by omega), Int.toNat_of_nonneg b0, Int.toNat_of_nonneg f0]
  · rw [e2, h1, List.map_map]
    rfl
  · have hx : (r.n, r.hd) ∈ rs.map fun r => (r.n, r.hd) := List.mem_map_of_mem hr
    rw [h1] at hx
    obtain ⟨p, hp, e⟩ := List.mem_map.1 hx
    have hm := hf _ (foundM_mem hp)
    have hb : p.2.base.toNat = r.b := congrArg (fun q : Nat × Hd => q.2.b) e
    have := hm.b1
    omega
theorem walk_lo (rs : List Sr) (id gen fr : Int) : ∀ (f : Nat) (o : Option Sr) (n : Nat), (∀ s, o = some s → n ≤ s.b) → ∀ t ∈ walkC rs id gen fr f o, n ≤ t.b
  | 0, none, n, h, t, ht => by simp [walkC] at ht
  | 0, some s, n, h, t, ht => by simp [walkC] at ht
  | f + 1, none, n, h, t, ht => by simp [walkC] at ht
  | f + 1, some s, n, h, t, ht => by
    have e : walkC rs id gen fr (f + 1) (some s) = s :: walkC rs id gen fr f (firstF (P3 id gen fr ((s.b + s.fs.length : Nat) : Int)) rs rs.length) := rfl
    rw [e] at ht
    rcases List.mem_cons.1 ht with rfl | ht
    · exact h _ rfl
    · refine walk_lo rs id gen fr f _ n (fun s2 h2 => ?_) t ht
      have h3 := (first_mem _ h2).2
      unfold P3 at h3
      simp only [Bool.and_eq_true, decide_eq_true_eq] at h3
      have := h s rfl
      omega
theorem walk_pair (rs : List Sr) (id gen fr : Int) : ∀ (f : Nat) (o : Option Sr), (∀ s, o = some s → 0 < s.fs.length) → (walkC rs id gen fr f o).Pairwise fun a b => a.b < b.b
  | 0, none, h => List.Pairwise.nil
  | 0, some s, h => List.Pairwise.nil
  | f + 1, none, h => List.Pairwise.nil
  | f + 1, some s, h => by
    have e : walkC rs id gen fr (f + 1) (some s) = s :: walkC rs id gen fr f (firstF (P3 id gen fr ((s.b + s.fs.length : Nat) : Int)) rs rs.length) := rfl
    rw [e]
    refine List.Pairwise.cons (fun t ht => ?_) (walk_pair rs id gen fr f _ (fun s2 h2 => ?_))
    · have h1 := walk_lo rs id gen fr f _ (s.b + s.fs.length) (fun s2 h2 => by
        have h3 := (first_mem _ h2).2
        unfold P3 at h3
        simp only [Bool.and_eq_true, decide_eq_true_eq] at h3
        omega) t ht
      have := h s rfl
      omega
    · have h3 := (first_mem _ h2).2
      unfold P3 at h3
      simp only [Bool.and_eq_true] at h3
      exact isL_len h3.1
theorem walk_mem (rs : List Sr) (id gen fr : Int) : ∀ (f : Nat) (o : Option Sr), (∀ s, o = some s → s ∈ rs) → ∀ t ∈ walkC rs id gen fr f o, t ∈ rs
  | 0, none, h, t, ht => by simp [walkC] at ht
  | 0, some s, h, t, ht => by simp [walkC] at ht
  | f + 1, none, h, t, ht => by simp [walkC] at ht
  | f + 1, some s, h, t, ht => by
    have e : walkC rs id gen fr (f + 1) (some s) = s :: walkC rs id gen fr f (firstF (P3 id gen fr ((s.b + s.fs.length : Nat) : Int)) rs rs.length) := rfl
    rw [e] at ht
    rcases List.mem_cons.1 ht with rfl | ht
    · exact h _ rfl
    · exact walk_mem rs id gen fr f _ (fun s2 h2 => (first_mem _ h2).1) t ht
theorem chain_mem (rs : List Sr) (id gen fr : Int) : ∀ t ∈ chainR rs id gen fr, t ∈ rs := walk_mem rs id gen fr _ _ (fun s h => (first_mem _ h).1)
theorem chain_pair (rs : List Sr) (id gen fr : Int) : (chainR rs id gen fr).Pairwise fun a b => a.b < b.b := walk_pair rs id gen fr _ _ (fun s h => by
  have h3 := (first_mem _ h).2
  unfold P2 at h3
  simp only [Bool.and_eq_true] at h3
  exact isL_len h3.1)
theorem walk_len (rs : List Sr) (id gen fr : Int) : ∀ (f : Nat) (o : Option Sr), (walkC rs id gen fr f o).length ≤ f
  | 0, none => by simp [walkC]
  | 0, some s => by simp [walkC]
  | f + 1, none => by simp [walkC]
  | f + 1, some s => by
    have e : walkC rs id gen fr (f + 1) (some s) = s :: walkC rs id gen fr f (firstF (P3 id gen fr ((s.b + s.fs.length : Nat) : Int)) rs rs.length) := rfl
    rw [e, List.length_cons]
    have := walk_len rs id gen fr f (firstF (P3 id gen fr ((s.b + s.fs.length : Nat) : Int)) rs rs.length)
    omega
theorem chain_len (rs : List Sr) (id gen fr : Int) : (chainR rs id gen fr).length ≤ rs.length := walk_len rs id gen fr _ _
/-- The place at a number, and the segment there. -/
theorem place_at {rs ch : List Sr} {js : List Nat} (h : js.map (fun j => rs[j]?) = ch.map some) {q j : Nat} (hq : js[q]? = some j) : ∃ r, rs[j]? = some r ∧ ch[q]? = some r := by
  have h1 := congrArg (fun l : List (Option Sr) => l[q]?) h
  simp only [List.getElem?_map, hq, Option.map_some] at h1
  cases h2 : ch[q]? with
  | none => rw [h2] at h1; cases h1
  | some r => rw [h2] at h1; exact ⟨r, Option.some.inj h1, rfl⟩
/-- Places come in order. -/
theorem found_inc (os : List (Option Hd)) (k : Nat) : ((found os k).map (·.1)).Pairwise (· < ·) := by
  induction k with
  | zero => exact List.Pairwise.nil
  | succ k ih =>
    have hlt : ∀ a ∈ (found os k).map (·.1), a < k := fun a ha => by
      obtain ⟨p, hp, rfl⟩ := List.mem_map.1 ha
      obtain ⟨i, hi, h2⟩ := List.mem_filterMap.1 hp
      have hi2 := List.mem_range.1 hi
      cases h3 : os.getD i none with
      | none => rw [h3] at h2; cases h2
      | some x =>
        rw [h3] at h2
        have e : (i, x) = p := Option.some.inj h2
        subst e
        exact hi2
    unfold found at ih hlt ⊢
    rw [List.range_succ, List.filterMap_append, List.map_append]
    refine List.pairwise_append.2 ⟨ih, ?_, fun a ha b hb => ?_⟩
    · cases h3 : os.getD k none <;> rw [List.filterMap_cons, h3] <;> simp
    · have h4 := hlt a ha
      cases h3 : os.getD k none with
      | none => rw [List.filterMap_cons, h3] at hb; simp at hb
      | some x => rw [List.filterMap_cons, h3] at hb; simp at hb; omega
theorem got_inc {rs : List Sr} {os : List (Option Hd)} {k : Nat} (h : Got rs (found os k)) : (rs.map (·.n)).Pairwise (· < ·) := by
  have e : rs.map (·.n) = (rs.map fun r => (r.n, r.hd)).map (·.1) := by rw [List.map_map]; rfl
  rw [e, h.1]
  exact found_inc os k
theorem got_lt {rs : List Sr} {os : List (Option Hd)} {k : Nat} (h : Got rs (found os k)) : ∀ r ∈ rs, r.n < k := fun r hr => by
  have hx : (r.n, r.hd) ∈ rs.map fun r => (r.n, r.hd) := List.mem_map_of_mem hr
  rw [h.1] at hx
  obtain ⟨i, hi, h2⟩ := List.mem_filterMap.1 hx
  have hi2 := List.mem_range.1 hi
  cases h3 : os.getD i none with
  | none => rw [h3] at h2; cases h2
  | some x =>
    rw [h3] at h2
    have e : (i, x) = (r.n, r.hd) := Option.some.inj h2
    have e2 : i = r.n := congrArg Prod.fst e
    omega
theorem got_nums {rs : List Sr} {os : List (Option Hd)} {k : Nat} (h : Got rs (found os k)) : numL rs = (found os k).map fun p => (p.1 : Int) := by
  have e : numL rs = (rs.map fun r => (r.n, r.hd)).map fun p => (p.1 : Int) := by rw [List.map_map]; rfl
  rw [e, h.1]
/-- What lies behind Clean. -/
def osLeft (os : List (Option Hd)) (g : List Int) : List (Option Hd) := (List.range os.length).map fun i : Nat => if (i : Int) ∈ g then none else os.getD i none
theorem osLeft_len (os : List (Option Hd)) (g : List Int) : (osLeft os g).length = os.length := by simp [osLeft]
theorem osLeft_lies {os : List (Option Hd)} {g : List Int} {lie : List (List UInt8)} {ws : List (Nat × List UInt8)} {f : Nat} (h : ∀ i x, os[i]? = some x → Lies lie ws f i (if (i : Int) ∈ g then none else x)) : ∀ i x, (osLeft os g)[i]? = some x → Lies lie ws f i x := fun i x hx => by
  unfold osLeft at hx
  rw [List.getElem?_map] at hx
  by_cases hi : i < os.length
  · rw [List.getElem?_range hi] at hx
    have hx2 : (if (i : Int) ∈ g then none else os.getD i none) = x := Option.some.inj hx
    have ho := List.getElem?_eq_getElem hi
    have := h i _ ho
    rw [← hx2, List.getD_eq_getElem?_getD, ho]
    exact this
  · rw [List.getElem?_eq_none (by simpa using hi)] at hx
    cases hx
theorem fm_congr {A B : Type} {f g : A → Option B} : ∀ {l : List A}, (∀ x ∈ l, f x = g x) → l.filterMap f = l.filterMap g
  | [], _ => rfl
  | x :: l, h => by
    rw [List.filterMap_cons, List.filterMap_cons, h x (List.mem_cons_self ..), fm_congr (fun y hy => h y (List.mem_cons_of_mem _ hy))]
theorem found_left (os : List (Option Hd)) (g : List Int) : found (osLeft os g) os.length = (found os os.length).filter fun p => !(g.contains (p.1 : Int)) := by
  unfold found
  rw [List.filter_filterMap]
  refine fm_congr fun i hi => ?_
  have hi2 := List.mem_range.1 hi
  have e : (osLeft os g).getD i none = if (i : Int) ∈ g then none else os.getD i none := by
    rw [List.getD_eq_getElem?_getD]
    unfold osLeft
    rw [List.getElem?_map, List.getElem?_range hi2]
    rfl
  rw [e]
  by_cases hg : (i : Int) ∈ g
  · rw [if_pos hg]
    cases os.getD i none <;> simp [hg, Option.filter]
  · rw [if_neg hg]
    cases os.getD i none <;> simp [hg, Option.filter]
theorem inc_nodup {l : List Nat} (h : l.Pairwise (· < ·)) : l.Nodup := h.imp (fun h => by omega)
theorem inc_inj {rs : List Sr} (h : (rs.map (·.n)).Pairwise (· < ·)) : ∀ a ∈ rs, ∀ b ∈ rs, a.n = b.n → a = b := by
  intro a ha b hb e
  obtain ⟨i, hi, rfl⟩ := List.getElem_of_mem ha
  obtain ⟨j, hj, rfl⟩ := List.getElem_of_mem hb
  have hp := List.pairwise_iff_getElem.1 h
  rcases Nat.lt_trichotomy i j with h1 | h1 | h1
  · have := hp i j (by simpa using hi) (by simpa using hj) h1
    simp only [List.getElem_map] at this
    omega
  · subst h1; rfl
  · have := hp j i (by simpa using hj) (by simpa using hi) h1
    simp only [List.getElem_map] at this
    omega
/-- What is left behind Clean, loaded again. -/
theorem left_chain {rs rs2 ch : List Sr} {os : List (Option Hd)} (h : Got rs (found os os.length)) (hsub : ∀ t ∈ ch, t ∈ rs) (hinc : ch.Pairwise fun a b => a.b < b.b) (h2 : Got rs2 (found (osLeft os (goneL rs ch)) os.length)) : rs2.length = ch.length ∧ goneL rs2 ch = [] := by
  have hn1 := inc_nodup (got_inc h)
  have hinj := inc_inj (got_inc h)
  have hz : ∀ x ∈ numL rs, (x ∈ goneL rs ch ↔ x ∉ numL ch) := fun x hx => by
    unfold goneL
    rw [List.mem_filter]
    simp [hx]
  have hN : numL rs2 = (numL rs).filter fun x => (numL ch).contains x := by
    rw [got_nums h2, got_nums h, found_left, List.filter_map]
    refine congrArg _ (List.filter_congr fun p hp => ?_)
    have hx : (p.1 : Int) ∈ numL rs := by rw [got_nums h]; exact List.mem_map_of_mem hp
    have h3 := hz _ hx
    by_cases hc : (p.1 : Int) ∈ numL ch
    · have h4 : (p.1 : Int) ∉ goneL rs ch := fun h5 => (h3.1 h5) hc
      simp [hc, h4]
    · have h4 : (p.1 : Int) ∈ goneL rs ch := h3.2 hc
      simp [hc, h4]
  have hndR : (numL rs).Nodup := by
    have e : numL rs = (rs.map (·.n)).map fun n : Nat => (n : Int) := by unfold numL; rw [List.map_map]; rfl
    rw [e]
    exact List.Pairwise.map _ (fun a b hab e => hab (by omega)) hn1
  have hndC : (numL ch).Nodup := by
    unfold numL
    refine List.pairwise_map.2 ?_
    refine List.Pairwise.imp_of_mem (fun {a b} ha hb hab e => ?_) hinc
    have e2 : a = b := hinj a (hsub a ha) b (hsub b hb) (by omega)
    rw [e2] at hab
    omega
  refine ⟨?_, ?_⟩
  · have hp : (numL rs2).Perm (numL ch) := by
      rw [hN]
      refine (List.perm_ext_iff_of_nodup (hndR.filter _) hndC).2 fun x => ?_
      rw [List.mem_filter]
      constructor
      · rintro ⟨_, h3⟩
        simpa using h3
      · intro h3
        refine ⟨?_, by simpa using h3⟩
        obtain ⟨t, ht, rfl⟩ := List.mem_map.1 h3
        exact List.mem_map_of_mem (hsub t ht)
    have := hp.length_eq
    simpa [numL] using this
  · unfold goneL
    rw [hN, List.filter_filter]
    refine List.filter_eq_nil_iff.2 fun x hx => ?_
    simp
end Go.Proofs.YtbbhnbdekblghaaGreatDoor.W
end
section
namespace Go.Proofs.YtbbhnbdekblghaaGreatDoor.W
open Go.ChangeShapes Go.WideShapes Go.ChangeAt Go.RowKit Go.Sort
open Go.Proofs.YtbbhnbdekblghaaGreatDoor.M Go.Proofs.YtbbhnbdekblghaaGreatDoor.D Go.Proofs.YtbbhnbdekblghaaGreatDoor.Z
set_option linter.unusedVariables false
set_option linter.unusedSimpArgs false

abbrev mdL (m : Md) : List Value := m.cells
def Md.wf (x : Md) : Prop := x.gen < 4294967296 ∧ x.stamp < 4294967296 ∧ (Lit.int .i64 x.n).wf = true ∧ (Lit.int .i64 x.f).wf = true ∧ (Lit.int .i64 x.log).wf = true ∧ (Lit.int .i64 x.base).wf = true
theorem cellsMd : Tryz.prog.cellsOf 82 = 6 := by kernel_rfl
theorem cellsMH : Tryz.prog.cellsOf 79 = 4 := by kernel_rfl
theorem cellsMI : Tryz.prog.cellsOf 3 = 1 := by kernel_rfl
theorem cellsMU : Tryz.prog.cellsOf 55 = 1 := by kernel_rfl
theorem nat_u32 {x : Int} (h : (Lit.int .u32 x).wf = true) : ∃ n : Nat, x = (n : Int) ∧ n < 4294967296 := by
  have hb : IntKind.u32.min ≤ x ∧ x ≤ IntKind.u32.max := by simpa [Lit.wf] using h
  have h1 : (0 : Int) ≤ x := hb.1
  have h2 : x ≤ 4294967295 := hb.2
  exact ⟨x.toNat, by omega, by omega⟩
section
variable {H : Type} {enc : TypeId × Value → H} {w : World} {base : Nat} {held : Bool}
set_option maxRecDepth 100000 in
theorem md_of {fuel : Nat} {cs : List Value} {x : DataW H × List MemPlace} (hl : cs.length = 6) (hf : DataW.trod enc Tryz.prog w base (fun _ => true) held fuel 82 cs = some x) : ∃ r : Md, cs = mdL r ∧ r.wf := by
  match cs, hl with
  | [c0, c1, c2, c3, c4, c5], _ =>
    obtain ⟨xs, n, _, _, _, hlen, hg⟩ := DataW.trod_struct Tryz.underlying82 hf
    match xs, hlen with
    | [y0, y1, y2], _ =>
      have h0 : DataW.trod enc Tryz.prog w base (fun _ => true) held n 3 ((([c0, c1, c2, c3, c4, c5] : List Value).drop 0).take (Tryz.prog.cellsOf 3)) = some y0 := hg 0 _ rfl
      have h1 : DataW.trod enc Tryz.prog w base (fun _ => true) held n 3 ((([c0, c1, c2, c3, c4, c5] : List Value).drop 1).take (Tryz.prog.cellsOf 3)) = some y1 := hg 1 _ rfl
      have hh : DataW.trod enc Tryz.prog w base (fun _ => true) held n 79 ((([c0, c1, c2, c3, c4, c5] : List Value).drop 2).take (Tryz.prog.cellsOf 79)) = some y2 := hg 2 _ rfl
      rw [cellsMH] at hh
      obtain ⟨zs, n2, _, _, _, hlen2, hg2⟩ := DataW.trod_struct Tryz.underlying79 (show DataW.trod enc Tryz.prog w base (fun _ => true) held n 79 [c2, c3, c4, c5] = some y2 from hh)
      match zs, hlen2 with
      | [y2, y3, y4, y5], _ =>
        have h2 : DataW.trod enc Tryz.prog w base (fun _ => true) held n2 3 ((([c2, c3, c4, c5] : List Value).drop 0).take (Tryz.prog.cellsOf 3)) = some y2 := hg2 0 _ rfl
        have h3 : DataW.trod enc Tryz.prog w base (fun _ => true) held n2 55 ((([c2, c3, c4, c5] : List Value).drop 1).take (Tryz.prog.cellsOf 55)) = some y3 := hg2 1 _ rfl
        have h4 : DataW.trod enc Tryz.prog w base (fun _ => true) held n2 55 ((([c2, c3, c4, c5] : List Value).drop 2).take (Tryz.prog.cellsOf 55)) = some y4 := hg2 2 _ rfl
        have h5 : DataW.trod enc Tryz.prog w base (fun _ => true) held n2 3 ((([c2, c3, c4, c5] : List Value).drop 3).take (Tryz.prog.cellsOf 3)) = some y5 := hg2 3 _ rfl
        rw [cellsMI] at h0 h1 h2 h5
        rw [cellsMU] at h3 h4
        obtain ⟨x0, e0, _, w0⟩ := DataW.trod_int Tryz.underlying3 (show DataW.trod enc Tryz.prog w base (fun _ => true) held n 3 [c0] = some y0 from h0)
        obtain ⟨x1, e1, _, w1⟩ := DataW.trod_int Tryz.underlying3 (show DataW.trod enc Tryz.prog w base (fun _ => true) held n 3 [c1] = some y1 from h1)
        obtain ⟨x2, e2, _, w2⟩ := DataW.trod_int Tryz.underlying3 (show DataW.trod enc Tryz.prog w base (fun _ => true) held n2 3 [c2] = some y2 from h2)
        obtain ⟨x3, e3, _, w3⟩ := DataW.trod_int Tryz.underlying55 (show DataW.trod enc Tryz.prog w base (fun _ => true) held n2 55 [c3] = some y3 from h3)
        obtain ⟨x4, e4, _, w4⟩ := DataW.trod_int Tryz.underlying55 (show DataW.trod enc Tryz.prog w base (fun _ => true) held n2 55 [c4] = some y4 from h4)
        obtain ⟨x5, e5, _, w5⟩ := DataW.trod_int Tryz.underlying3 (show DataW.trod enc Tryz.prog w base (fun _ => true) held n2 3 [c5] = some y5 from h5)
        simp only [List.cons.injEq, and_true] at e0 e1 e2 e3 e4 e5
        subst e0 e1 e2 e3 e4 e5
        obtain ⟨g, rfl, hgl⟩ := nat_u32 w3
        obtain ⟨s, rfl, hsl⟩ := nat_u32 w4
        exact ⟨⟨x0, x1, x2, g, s, x5⟩, rfl, hgl, hsl, w0, w1, w2, w5⟩
/-- Segments that are made, in a row. -/
def MdAt (w : World) (a : Option Addr) (xs : List Md) : Prop := ∀ i r, xs[i]? = some r → ∃ b o, a = some ⟨b, o, none⟩ ∧ b < w.heap.size ∧ ∀ j v, (mdL r)[j]? = some v → w.cell? ⟨b, o + i * 6 + j, none⟩ = some v
structure MdIn (w : World) (a : Option Addr) (len : Nat) (xs : List Md) : Prop where
  len : xs.length = len
  at_ : MdAt w a xs
  wf : ∀ r ∈ xs, r.wf
theorem MdAt.below {W W' : World} {va : Option Addr} {l : List Md} (h : MdAt W va l) (hb : Below W.heap.size W W') : MdAt W' va l := fun i s hi => by
  obtain ⟨b, o, e, h1, h2⟩ := h i s hi
  exact ⟨b, o, e, Nat.lt_of_lt_of_le h1 hb.size, fun j v hj => (World.cell?_of_block (a := ⟨b, o + i * 6 + j, none⟩) (hb.block b h1)).trans (h2 j v hj)⟩
theorem MdAt.get {W : World} {va : Option Addr} {l : List Md} {i : Nat} {m : Md} (h : MdAt W va l) (hi : l[i]? = some m) : ∃ b o, va = some ⟨b, o, none⟩ ∧ W.cell? ⟨b, o + i * 6, none⟩ = some (.int .i64 m.n) ∧ W.cell? ⟨b, o + i * 6 + 1, none⟩ = some (.int .i64 m.f) ∧ W.cell? ⟨b, o + i * 6 + 2, none⟩ = some (.int .i64 m.log) ∧ W.cell? ⟨b, o + i * 6 + 3, none⟩ = some (.int .u32 (m.gen : Int)) ∧ W.cell? ⟨b, o + i * 6 + 4, none⟩ = some (.int .u32 (m.stamp : Int)) ∧ W.cell? ⟨b, o + i * 6 + 5, none⟩ = some (.int .i64 m.base) := by
  obtain ⟨b, o, e, _, h2⟩ := h i m hi
  exact ⟨b, o, e, h2 0 _ rfl, h2 1 _ rfl, h2 2 _ rfl, h2 3 _ rfl, h2 4 _ rfl, h2 5 _ rfl⟩
theorem spotMd {w : World} {a : Addr} {u v : Value} {j : Nat} (h0 : w.cell? (a.add 0) = some u) (h : w.cell? (a.add j) = some v) : ∃ b o, a = ⟨b, o, none⟩ ∧ w.cell? ⟨b, o + j, none⟩ = some v := by
  obtain ⟨b, o, spot⟩ := a
  have hspot := World.cell?_spot h0
  simp [Addr.add] at hspot
  subst hspot
  exact ⟨b, o, rfl, by rwa [show (⟨b, o, none⟩ : Addr).add j = ⟨b, o + j, none⟩ from by unfold Addr.add; split <;> simp_all] at h⟩
set_option maxRecDepth 100000 in
theorem open_made {fuel : Nat} {a : Option Addr} {len cap : Nat} {x : DataW H × List MemPlace} (h : DataW.trod enc Tryz.prog w base (fun _ => true) held fuel 77 [.slice a len cap] = some x) : ∃ xs, MdIn w a len xs := by
  rcases Deep.open_slice Tryz.underlying77 h with ⟨hcs, _⟩ | ⟨a', len', cap', m, n, D, Pl, hcs, _, hl, hm, hmm, _, hi⟩
  · have hkv : Value.slice a len cap = .slice none 0 0 := by simpa using hcs
    injection hkv with e1 e2 e3
    subst e1 e2
    exact ⟨[], rfl, fun i f hf => by simp at hf, fun f hf => by simp at hf⟩
  · have hkv : Value.slice a len cap = .slice (some a') len' cap' := by simpa using hcs
    injection hkv with e1 e2 e3
    subst e1 e2
    have hq : ∀ i, ∃ r : Md, i < len → (∀ j v, (mdL r)[j]? = some v → w.cell? (a'.add (i * 6 + j)) = some v) ∧ r.wf := fun i => by
      by_cases hlt : i < len
      · obtain ⟨cs', hc, ht'⟩ := hi i (by rw [hmm]; simp; omega)
        rw [cellsMd] at hc
        obtain ⟨_, hcl, hat⟩ := World.cells?_some hc
        obtain ⟨r, hr, hw⟩ := md_of hcl ht'
        refine ⟨r, fun _ => ⟨fun j v hj => ?_, hw⟩⟩
        have hj8 : j < 6 := by have := (List.getElem?_eq_some_iff.1 hj).1; simpa using this
        have a0 := hat j hj8
        rw [Deep.add_add, hr] at a0
        exact a0.trans hj
      · exact ⟨⟨0, 0, 0, 0, 0, 0⟩, fun h => absurd h hlt⟩
    refine ⟨(List.range len).map fun i => Classical.choose (hq i), by simp, fun j r hjr => ?_, fun r hr => ?_⟩
    · have hj : j < len := by
        have := (List.getElem?_eq_some_iff.1 hjr).1
        simpa using this
      have hs := Classical.choose_spec (hq j) hj
      rw [List.getElem?_map, List.getElem?_range hj] at hjr
      have e : Classical.choose (hq j) = r := by simpa using hjr
      rw [e] at hs
      obtain ⟨u0, h00⟩ : ∃ u, w.cell? (a'.add 0) = some u := ⟨_, (Classical.choose_spec (hq 0) (by omega)).1 0 _ rfl⟩
      obtain ⟨b, o, rfl, c0⟩ := spotMd h00 (hs.1 0 _ rfl)
      refine ⟨b, o, rfl, World.block_lt_of_cell? w _ c0, fun i v hv => ?_⟩
      obtain ⟨b', o', e', c1⟩ := spotMd h00 (hs.1 i v hv)
      cases e'
      rw [Nat.add_assoc]
      exact c1
    · obtain ⟨i, hi, rfl⟩ := List.mem_map.1 hr
      exact (Classical.choose_spec (hq i) (List.mem_range.1 hi)).2
/-- .. with their capacity. -/
structure MdInC (w : World) (a : Option Addr) (len cap : Nat) (xs : List Md) : Prop where
  inn : MdIn w a len xs
  le : len ≤ cap
theorem open_madec {fuel : Nat} {a : Option Addr} {len cap : Nat} {x : DataW H × List MemPlace} (h : DataW.trod enc Tryz.prog w base (fun _ => true) held fuel 77 [.slice a len cap] = some x) : ∃ xs, MdInC w a len cap xs := by
  obtain ⟨xs, h1⟩ := open_made h
  rcases Deep.open_slice Tryz.underlying77 h with ⟨hcs, _⟩ | ⟨a', len', cap', m, n, D, Pl, hcs, _, hl, hm, hmm, _, hi⟩
  · have hkv : Value.slice a len cap = .slice none 0 0 := by simpa using hcs
    injection hkv with e1 e2 e3
    subst e1 e2 e3
    exact ⟨xs, h1, Nat.le_refl _⟩
  · have hkv : Value.slice a len cap = .slice (some a') len' cap' := by simpa using hcs
    injection hkv with e1 e2 e3
    subst e1 e2 e3
    exact ⟨xs, h1, hl⟩
end
end Go.Proofs.YtbbhnbdekblghaaGreatDoor.W
end
section
namespace Go.Proofs.YtbbhnbdekblghaaGreatDoor.W
open Go.RowKit Go.Sort Go.Great
open Go.Proofs.YtbbhnbdekblghaaGreatDoor.M Go.Proofs.YtbbhnbdekblghaaGreatDoor.D Go.Proofs.YtbbhnbdekblghaaGreatDoor.Z
set_option linter.unusedVariables false
set_option linter.unusedSimpArgs false

def mdZ : List Value := [.int .i64 0, .int .i64 0, .int .i64 0, .int .u32 0, .int .u32 0, .int .i64 0]
def lieZ : List Value := mdZ ++ (mdZ ++ (mdZ ++ (mdZ ++ (mdZ ++ mdZ))))
theorem lieZ_one : ∀ v ∈ lieZ, v.oneCell' = true := by
  intro v hv
  simp only [lieZ, mdZ, List.cons_append, List.nil_append, List.mem_cons, List.not_mem_nil, or_false] at hv
  rcases hv with rfl | rfl | rfl | rfl | rfl | rfl | rfl | rfl | rfl | rfl | rfl | rfl | rfl | rfl | rfl | rfl | rfl | rfl | rfl | rfl | rfl | rfl | rfl | rfl | rfl | rfl | rfl | rfl | rfl | rfl | rfl | rfl | rfl | rfl | rfl | rfl <;> rfl
set_option maxRecDepth 100000 in
theorem infoLie : (Tryz.prog.info? 83).map (fun i => (i.zero, i.size, i.bytes)) = some (some (.agg lieZ.toArray), 36, 240) := by kernel_rfl
set_option maxRecDepth 100000 in
theorem builtLie : Tryz.prog.built 83 [] = some lieZ.toArray := by kernel_rfl
section
variable {P : Program} {w : World} {ops : Array Oper} {rest : List Oper} {o : Oper} {a : Act} {Q : Exit → Act → World → Prop}
theorem zBuild0 (t : TypeId) (ho : o.op = .build t #[]) (h : Hid (wpList P ops Q (o :: rest) a w)) : wpList P ops Q (o :: rest) a w := h
theorem zAlloc (t : TypeId) (ho : o.op = .alloc t) (h : Hid (wpList P ops Q (o :: rest) a w)) : wpList P ops Q (o :: rest) a w := h
theorem wpList_alloc_of {t : TypeId} {i : TypeInfo} {z : Value} (hg : o.guard = none) (ho : o.op = .alloc t) (hi : P.info? t = some i) (hz : i.zero = some z)
    (h : wpList P ops Q rest (a.put o.dst (.pointer (some ⟨w.heap.size, 0, none⟩))) (w.alloc (.cells z.cells t))) : wpList P ops Q (o :: rest) a w := by
  refine wpList_allocTo hg o.dst rfl _ _ ?_ h
  have hz0 : (zeroValue t).run P w = .ok z w := by
    unfold zeroValue
    simp [typeInfo, go_sem, hi, hz]
  unfold execOp
  simp [ho, go_sem, hz0]
end
theorem sizeMd15 : (Tryz.prog.info? 82).map (·.size) = some 6 := by kernel_rfl
def rowM : Option Md → List Value
  | none => mdZ
  | some m => m.cells
def lieC (ms : List (Option Md)) : List Value := (ms.map rowM).flatten
def thC (ms : List (Option Md)) : List Value := ms.map fun o => .bool o.isSome
theorem even_lie (ms : List (Option Md)) : Even 6 (ms.map rowM) := fun r hr => by
  obtain ⟨o, _, rfl⟩ := List.mem_map.1 hr
  cases o <;> rfl
theorem lieC_set (ms : List (Option Md)) (i : Nat) (hi : i < ms.length) (m : Md) : splice (lieC ms) (i * 6) m.cells = lieC (ms.set i (some m)) := by
  unfold lieC
  rw [splice_row (even_lie ms) i (by simpa using hi) rfl, List.map_set]
  rfl
theorem thC_set (ms : List (Option Md)) (i : Nat) (hi : i < ms.length) (m : Md) : splice (thC ms) i [.bool true] = thC (ms.set i (some m)) := by
  unfold thC
  rw [set_at _ _ _ (by simpa using hi), List.map_set]
  rfl
theorem lieC_len (ms : List (Option Md)) : (lieC ms).length = ms.length * 6 := by
  unfold lieC
  induction ms with
  | nil => rfl
  | cons o ms ih =>
    rw [List.map_cons, List.flatten_cons, List.length_append, ih, even_lie (o :: ms) (rowM o) (by simp)]
    simp
    omega
abbrev LawB (tb lb : Nat) (ms : List (Option Md)) : List Bk := [(tb, 84, thC ms), (lb, 83, lieC ms)]
theorem VB.laidM {w0 W : World} {vb d g' from_ m : Nat} {lie : List (List UInt8)} {ws : List (Nat × List UInt8)} {steps : Int} {tb lb : Nat} {ms : List (Option Md)} (h : VB w0 vb d g' lie ws from_ m steps (LawB tb lb ms) W) (i : Nat) (hi : i < ms.length) (x : Md) :
    VB w0 vb d g' lie ws from_ m steps (LawB tb lb (ms.set i (some x))) ((W.setCells lb (i * 6) x.cells).setCell ⟨tb, i, none⟩ (.bool true)) := by
  have h1 := h.perm (List.Perm.swap _ _ _)
  have k1 := (h1.got List.mem_cons_self).store (i * 6) x.cells (by show i * 6 + 6 ≤ (lieC ms).length; rw [lieC_len]; omega)
  have h2 := h1.set (W' := W.setCells lb (i * 6) x.cells) (Kept.setCells (own := fun r => r = lb) (Kept.refl _ W) (.inl rfl) _ _) k1
  have h3 := h2.perm (List.Perm.swap _ _ _)
  have k2 := (h3.got List.mem_cons_self).store i [.bool true] (by show i + 1 ≤ (thC ms).length; simp [thC]; omega)
  have h4 := h3.set (W' := (W.setCells lb (i * 6) x.cells).setCells tb i [.bool true]) (Kept.setCells (own := fun r => r = tb) (Kept.refl _ _) (.inl rfl) _ _) k2
  rw [show splice (thC ms) i [.bool true] = thC (ms.set i (some x)) from thC_set ms i hi x, show splice (lieC ms) (i * 6) x.cells = lieC (ms.set i (some x)) from lieC_set ms i hi x] at h4
  exact h4
/-- Two rows of the call's own, of types that differ, lie in two blocks. -/
theorem own_two {w : World} {B e1 e2 s1 s2 n1 n2 : Nat} {v1 v2 : Value} {xs ys : List Value} (h1 : w.ownsRow B e1 s1 v1 n1 xs) (h2 : w.ownsRow B e2 s2 v2 n2 ys) (hne : e1 ≠ e2) : ∀ q, v1.ownBlock = some q → ¬ v2.ownBlock = some q := fun q hq hr => by
  rcases h1 with ⟨_, ⟨rfl, _⟩ | ⟨g, cap, cur, rfl, _, h3, _⟩⟩
  · cases hq
  · rcases h2 with ⟨_, ⟨rfl, _⟩ | ⟨g2, cap2, cur2, rfl, _, h4, _⟩⟩
    · cases hr
    · have e1 : g = q := by simpa [Value.ownBlock] using hq
      have e2 : g2 = q := by simpa [Value.ownBlock] using hr
      subst e1 e2
      rw [h3] at h4
      simp only [Option.some.injEq, Obj.cells.injEq] at h4
      exact hne h4.2.1
theorem keptDrew {own : Nat → Prop} {a b : World} (h : Kept own a b) : Kept own a b.drew := ⟨h.os, h.tape, h.output, h.size, h.block⟩
def rowS (l : List Sg5) : List Value := (l.map sg5L).flatten
theorem rowS_snoc (l : List Sg5) (s : Sg5) : rowS (l ++ [s]) = rowS l ++ sg5L s := by unfold rowS; rw [List.map_append, List.flatten_append]; simp
theorem infoSg5 : (Tryz.prog.info? 88).map (fun i => (i.zero, i.size, i.bytes)) = some (some (.agg #[.int .i64 0, .int .u32 0, .int .i64 0, .int .i64 0, .int .u32 0]), 5, 40) := by kernel_rfl
theorem segsM_yes {l : List Md} {k : Nat} {m : Md} (h : (lastM l)[k]? = some (some m)) : segsM l (k + 1) = segsM l k ++ [sgM m] ∧ numsM l (k + 1) = numsM l k ++ [(k : Int)] := by
  unfold segsM numsM
  rw [foundM_yes h, List.map_append, List.map_append]
  exact ⟨rfl, rfl⟩
theorem segsM_no {l : List Md} {k : Nat} (h : (lastM l)[k]? = some none) : segsM l (k + 1) = segsM l k ∧ numsM l (k + 1) = numsM l k := by
  unfold segsM numsM
  rw [foundM_no h]
  exact ⟨rfl, rfl⟩
theorem segsM_len (l : List Md) (k : Nat) : (segsM l k).length = (foundM (lastM l) k).length ∧ (numsM l k).length = (foundM (lastM l) k).length := by unfold segsM numsM; simp
theorem even_sg (l : List Sg5) : Even 5 (l.map sg5L) := fun r hr => by
  obtain ⟨s, _, rfl⟩ := List.mem_map.1 hr
  rfl
/-- The law's row of segments, as the definition reads it. -/
theorem sgAt_own {W : World} {B a c : Nat} {A : Option Addr} {l : List Sg5} (h : W.ownsRow B 88 5 (.slice A a c) a (rowS l)) (hl : l.length = a) : SgAt W A l ∧ a ≤ c ∨ a = 0 := by
  by_cases ha : a = 0
  · exact .inr ha
  · obtain ⟨gg, cap, e, h1, _, _, hlt, hr⟩ := ownRows (by omega) (even_sg l) (by rw [List.length_map, hl]) h
    cases e
    refine .inl ⟨fun i s hs => ⟨gg, 0, rfl, hlt, fun j v hv => ?_⟩, h1⟩
    have := hr i _ (by rw [List.getElem?_map, hs]; rfl) j v hv
    rw [Nat.zero_add]
    exact this
/-- One more block, that is new since the blocks before it. -/
theorem Blk.put {w0 W1 : World} {K1 : List Bk} {q : Nat} {t : TypeId} {cs : List Value} (h : Blk w0 W1 K1) (hW : Whole W1 q t cs) (ht : plainT t) (h0 : w0.heap.size ≤ q) (hn : ∀ x ∈ K1, x.1 ≠ q) : Blk w0 W1 ((q, t, cs) :: K1) := by
  refine ⟨fun x hx => ?_, ?_⟩
  · rcases List.mem_cons.1 hx with rfl | hx
    · exact ⟨hW, ht, h0⟩
    · exact h.all x hx
  · rw [List.map_cons, List.nodup_cons]
    refine ⟨fun hm => ?_, h.apart⟩
    obtain ⟨x, hx, e⟩ := List.mem_map.1 hm
    exact hn x hx e
/-- A row of the call's own, as a block. -/
theorem own_block {W : World} {B e sz n c : Nat} {A : Option Addr} {xs : List Value} (h : W.ownsRow B e sz (.slice A n c) n xs) : ∃ pk : List Bk, (∀ x ∈ pk, Whole W x.1 x.2.1 x.2.2 ∧ x.2.1 = e ∧ B ≤ x.1) ∧ pk.length ≤ 1 ∧ ∀ W2, (∀ x ∈ pk, Whole W2 x.1 x.2.1 x.2.2) → W2.ownsRow B e sz (.slice A n c) n xs := by
  rcases h with ⟨h0, h1 | ⟨g, cap, cur, hv, hB, hg, rest⟩⟩
  · exact ⟨[], fun x hx => by simp at hx, by simp, fun W2 _ => ⟨h0, .inl h1⟩⟩
  · refine ⟨[(g, e, cur.toList)], fun x hx => ?_, by simp, fun W2 hx => ⟨h0, .inr ⟨g, cap, cur, hv, hB, ?_, rest⟩⟩⟩
    · obtain rfl := List.mem_singleton.1 hx
      exact ⟨by simpa [Whole] using hg, rfl, hB⟩
    · have := hx _ (List.mem_singleton.2 rfl)
      simpa [Whole] using this
/-- Two rows of the call's own join the blocks beside a view. -/
theorem VB.add_rows {w0 W W1 : World} {vb d g' from_ m : Nat} {lie : List (List UInt8)} {ws : List (Nat × List UInt8)} {steps : Int} {K : List Bk} {a1 a2 c1 c2 e1 e2 s1 s2 : Nat} {A1 A2 : Option Addr} {xs ys : List Value} (h : VB w0 vb d g' lie ws from_ m steps K W) (hb : Below W.heap.size W W1)
    (o1 : W1.ownsRow W.heap.size e1 s1 (.slice A1 a1 c1) a1 xs) (o2 : W1.ownsRow W.heap.size e2 s2 (.slice A2 a2 c2) a2 ys) (hne : e1 ≠ e2) (p1 : plainT e1) (p2 : plainT e2) :
    ∃ pk : List Bk, VB w0 vb d g' lie ws from_ m steps (pk ++ K) W1 ∧ ∀ W2, (∀ x ∈ pk, Whole W2 x.1 x.2.1 x.2.2) → W2.ownsRow W.heap.size e1 s1 (.slice A1 a1 c1) a1 xs ∧ W2.ownsRow W.heap.size e2 s2 (.slice A2 a2 c2) a2 ys := by
  obtain ⟨k1, q1, l1, r1⟩ := own_block o1
  obtain ⟨k2, q2, l2, r2⟩ := own_block o2
  have hV := h.below hb
  have hold : ∀ x ∈ K, x.1 < W.heap.size := fun x hx => (h.got hx).lt
  have hK2 : Blk w0 W1 (k2 ++ K) := by
    rcases k2 with _ | ⟨⟨q, t, cs⟩, _ | ⟨y, k⟩⟩
    · exact hV.blk
    · obtain ⟨u1, u2, u3⟩ := q2 _ (List.mem_singleton.2 rfl)
      refine hV.blk.put u1 (by show plainT t; rw [show t = e2 from u2]; exact p2) (Nat.le_trans h.size u3) (fun x hx e => ?_)
      have := hold x hx
      have u4 : W.heap.size ≤ q := u3
      omega
    · simp at l2
  have hK1 : Blk w0 W1 (k1 ++ (k2 ++ K)) := by
    rcases k1 with _ | ⟨⟨q, t, cs⟩, _ | ⟨y, k⟩⟩
    · exact hK2
    · obtain ⟨u1, u2, u3⟩ := q1 _ (List.mem_singleton.2 rfl)
      refine hK2.put u1 (by show plainT t; rw [show t = e1 from u2]; exact p1) (Nat.le_trans h.size u3) (fun x hx e => ?_)
      have u4 : W.heap.size ≤ q := u3
      rcases List.mem_append.1 hx with h2 | h2
      · obtain ⟨v1, v2, v3⟩ := q2 x h2
        exact (Whole.ne v1 u1 (by rw [v2, show t = e1 from u2]; exact fun e => hne e.symm)) e
      · have := hold x h2
        omega
    · simp at l1
  refine ⟨k1 ++ k2, ⟨hV.view, by rw [List.append_assoc]; exact hK1⟩, fun W2 hW2 => ⟨r1 W2 (fun x hx => hW2 x (List.mem_append_left _ hx)), r2 W2 (fun x hx => hW2 x (List.mem_append_right _ hx))⟩⟩
end Go.Proofs.YtbbhnbdekblghaaGreatDoor.W
end
section
namespace Go.Proofs.YtbbhnbdekblghaaGreatDoor.W
open Go.RowKit Go.Sort
open Go.Proofs.YtbbhnbdekblghaaGreatDoor.M Go.Proofs.YtbbhnbdekblghaaGreatDoor.D Go.Proofs.YtbbhnbdekblghaaGreatDoor.Z
set_option linter.unusedVariables false
set_option linter.unusedSimpArgs false

set_option maxRecDepth 100000 in
set_option maxHeartbeats 8000000 in
theorem chains_walk (va : Option Addr) (n c : Nat) (l : List Md) (ha hg hs hb : Int) (w : World) (hT : Wide w) (hl : MdInC w va n c l) :
    Calls Tryz.prog 5 #[.slice va n c, .agg #[.int .i64 ha, .int .u32 hg, .int .u32 hs, .int .i64 hb]] w fun e w' => e = .returned (.bool true) ∧ Below w.heap.size w w' := by
  obtain ⟨V, hV⟩ : ∃ V, Hid (V = w.alloc (.cells #[.int .i64 ha, .int .u32 hg, .int .u32 hs, .int .i64 hb] 79)) := ⟨_, Lib.hid rfl⟩
  have hb0 : Below w.heap.size w V := by rw [hV.out]; exact grewAlloc (Below.refl _ _) _
  have hQ : Whole V w.heap.size 79 [.int .i64 ha, .int .u32 hg, .int .u32 hs, .int .i64 hb] := by rw [hV.out]; exact Whole.new w _ _
  have hTV := Lib.hid (hT.below hb0)
  have hth := Lib.hid (fun W (hb : Below V.heap.size V W) => three15_any W (hTV.out.below hb))
  have hlen := Lib.hid hl.inn.len
  have hat := Lib.hid (hl.inn.at_.below hb0)
  have hwf := Lib.hid hl.inn.wf
  have hle := hl.le
  obtain ⟨qb, hqb⟩ : ∃ q, Hid (w.heap.size = q) := ⟨_, Lib.hid rfl⟩
  rw [hqb.out] at hQ
  replace hQ := Lib.hid hQ
  replace hb0 := Lib.hid hb0
  clear hl
  replace hT := Lib.hid hT
  go_enter Tryz.func5, Tryz.ntmps5
  go_upto_region 1 with fail
  rw [← show V = _ from hV.out, hqb.out]
  clear hV
  by_cases h20 : 20 < n
  · have h20i : (20 : Int) < (n : Int) := by omega
    have ht3 := Lib.hid (hth.out V (Below.refl _ _))
    go_wp2_with fail
    refine ht3.out.mono ?_
    rintro _ w2 ⟨rfl, hb2⟩
    have hfin := Lib.hid (hb0.out.trans (hb2.mono hb0.out.size))
    clear hb2 ht3
    go_wp2_with fail
    go_ret
    exact ⟨rfl, hfin.out⟩
  have h20i : ¬ (20 : Int) < (n : Int) := by omega
  go_wp2_with fail
  refine (fresh15_any V).mono ?_
  rintro _ w1 ⟨vb, d, g', rfl, hv1⟩
  replace hv1 := Lib.hid hv1
  obtain ⟨iL, hiL, hzL, hs1, hs2⟩ := info_parts infoLie
  go_wp2_with (with_reducible refine zBuild0 83 rfl ?_)
  refine Lib.hid ?_
  refine Go.wpList_buildTo rfl 83 #[] rfl _ rfl lieZ.toArray (by simpa using builtLie) ?_
  go_wp2_with (with_reducible refine zAlloc 83 rfl ?_)
  refine Lib.hid ?_
  refine wpList_alloc_of rfl rfl hiL hzL ?_
  rw [show (Value.agg lieZ.toArray).cells = lieZ.toArray from rfl]
  have hv2 := hv1.out.new (q := w1.heap.size) (t := 83) (cs := lieZ) (allocBelow w1 (.cells lieZ.toArray 83)) (Whole.new w1 _ _) (Nat.le_refl _) (by show plainT 83; decide)
  have hLW := hv2.got List.mem_cons_self
  go_wp2_with (with_reducible refine zStore 83 _ _ rfl ?_)
  refine Lib.hid ?_
  refine wpList_store_mid rfl 83 _ _ rfl w1.heap.size 0 lieZ.toArray rfl rfl (hLW.there 0 36 (by decide)) (by rw [hiL]; exact congrArg some hs1) (all_oneCell_toArray lieZ_one) ?_
  have hst := hLW.store 0 lieZ (by decide)
  have hv3 := hv2.set (Kept.setCells (own := fun r => r = w1.heap.size) (Kept.refl _ _) (.inl rfl) 0 lieZ) hst
  obtain ⟨w2, hw2⟩ : ∃ w2, Hid ((w1.alloc (.cells lieZ.toArray 83)).setCells w1.heap.size 0 lieZ.toArray.toList = w2) := ⟨_, Lib.hid rfl⟩
  rw [hw2.out]
  rw [show (w1.alloc (.cells lieZ.toArray 83)).setCells w1.heap.size 0 lieZ = w2 from hw2.out, show splice lieZ 0 lieZ = lieZ from rfl] at hv3
  obtain ⟨lb, hlb⟩ : ∃ lb, Hid (w1.heap.size = lb) := ⟨_, Lib.hid rfl⟩
  rw [hlb.out] at hv3 ⊢
  have hv4 := hv3.new (q := w2.heap.size) (t := 84) (cs := [.bool false, .bool false, .bool false, .bool false, .bool false, .bool false]) (allocBelow w2 (.cells #[.bool false, .bool false, .bool false, .bool false, .bool false, .bool false] 84)) (Whole.new w2 _ _) (Nat.le_refl _) (by show plainT 84; decide)
  obtain ⟨tb, htb⟩ : ∃ tb, Hid (w2.heap.size = tb) := ⟨_, Lib.hid rfl⟩
  obtain ⟨w3, hw3⟩ : ∃ w3, Hid (w3 = w2.alloc (.cells #[.bool false, .bool false, .bool false, .bool false, .bool false, .bool false] 84)) := ⟨_, Lib.hid rfl⟩
  rw [← hw3.out, htb.out] at hv4
  have hv5 : Hid (VB V vb d g' (zeros 98) [] 0 98 0 (LawB tb lb (lastM [])) w3) := Lib.hid hv4
  clear hv1 hv2 hv3 hv4 hLW hst hw2 hlb
  go_upto_region 6 with fail
  rw [← show w3 = _ from hw3.out, htb.out]
  clear hw3 htb
  go_wp2_with fail
  go_loopg [37] n (fun ga i wr => ∃ (k : Nat) (ws : List (Nat × List UInt8)) (st : Int), k ≤ n ∧ n ≤ k + ga ∧ i = .int .i64 (k : Int) ∧ Hid (VB V vb d g' (zeros 98) ws 0 98 st (LawB tb lb (lastM (l.take k))) wr ∧ Six ws (l.take k) ∧ (∀ m ∈ l.take k, m.Fair) ∧ 0 ≤ st ∧ st ≤ 10 * (k : Int) ∧ ws.length ≤ 10 * k))
  case atStart => exact ⟨0, [], 0, by omega, by omega, rfl, Lib.hid ⟨hv5.out, six_fresh, (fun m hm => by simp at hm), by omega, by omega, by simp⟩⟩
  case round =>
    clear hv5
    obtain ⟨k, ws, st, hk, hg2, rfl, hrel⟩ := hrel
    generalize wr = wo at *
    by_cases hlt : k < n
    · obtain ⟨m, hm⟩ : ∃ m, l[k]? = some m := ⟨_, List.getElem?_eq_getElem (by have := hlen.out; omega)⟩
      obtain ⟨b, o, rfl, c0, c1, c2, c3, c4, c5⟩ := (hat.out.below hrel.out.1.since).get hm
      have hki : (k : Int) < (n : Int) := by omega
      have hkc : k ≤ c := by omega
      have hk0 : (0 : Int) ≤ (k : Int) := by omega
      obtain ⟨W1, hW1⟩ : ∃ V, Hid (V = wo.alloc (.cells #[.int .i64 m.n, .int .i64 m.f, .int .i64 m.log, .int .u32 (m.gen : Int), .int .u32 (m.stamp : Int), .int .i64 m.base] 82)) := ⟨_, Lib.hid rfl⟩
      have hb1 : Below wo.heap.size wo W1 := by rw [hW1.out]; exact grewAlloc (Below.refl _ _) _
      have hX : Whole W1 wo.heap.size 82 m.cells := by rw [hW1.out]; exact Whole.new wo _ _
      obtain ⟨xb, hxb⟩ : ∃ q, Hid (wo.heap.size = q) := ⟨_, Lib.hid rfl⟩
      rw [hxb.out] at hX
      have hB1 := Lib.hid hb1
      have hv1 := Lib.hid (hrel.out.1.new (q := xb) (t := 82) (cs := m.cells) hb1 hX (by rw [hxb.out]; exact Nat.le_refl _) (by show plainT 82; decide))
      replace hX := Lib.hid hX
      replace hm := Lib.hid hm
      have hrel2 := Lib.hid hrel.out.2
      clear hrel hb1
      go_upto_region 9 with fail
      rw [← show W1 = _ from hW1.out, hxb.out]
      clear hW1 c0 c1 c2 c3 c4 c5
      go_wp2_with fail
      generalize gk = gout at *
      go_loopg [46] k (fun ga i wr => ∃ j : Nat, j ≤ k ∧ k ≤ j + ga ∧ i = .int .i64 (j : Int) ∧ Hid (Below W1.heap.size W1 wr ∧ ∀ o ∈ l.take j, ¬ (o.n = m.n ∧ o.stamp = m.stamp)))
      case atStart => exact ⟨0, by omega, by omega, rfl, Lib.hid ⟨Below.refl _ _, fun o ho => by simp at ho⟩⟩
      case round =>
        obtain ⟨j, hj, hgj, rfl, hrelj⟩ := hrel
        generalize wr = wi at *
        have hvi := Lib.hid (hv1.out.below hrelj.out.1)
        by_cases hjk : j < k
        · obtain ⟨t, ht⟩ : ∃ t, l[j]? = some t := ⟨_, List.getElem?_eq_getElem (by have := hlen.out; omega)⟩
          obtain ⟨b', o', eb, c0, c1, c2, c3, c4, c5⟩ := (hat.out.below hvi.out.since).get ht
          cases eb
          have hji : (j : Int) < (k : Int) := by omega
          obtain ⟨W2, hW2⟩ : ∃ V, Hid (V = wi.alloc (.cells #[.int .i64 t.n, .int .i64 t.f, .int .i64 t.log, .int .u32 (t.gen : Int), .int .u32 (t.stamp : Int), .int .i64 t.base] 82)) := ⟨_, Lib.hid rfl⟩
          have hb2 : Below wi.heap.size wi W2 := by rw [hW2.out]; exact grewAlloc (Below.refl _ _) _
          have hY : Whole W2 wi.heap.size 82 t.cells := by rw [hW2.out]; exact Whole.new wi _ _
          have hB2 := Lib.hid (grew hrelj.out.1 hb2)
          have hX2 := hX.out.below hB2.out hX.out.lt
          have hv2 := Lib.hid (hvi.out.below hb2)
          obtain ⟨yb, hyb⟩ : ∃ q, Hid (wi.heap.size = q) := ⟨_, Lib.hid rfl⟩
          rw [hyb.out] at hY
          clear hb2 hvi
          go_upto_region 12 with fail
          rw [← show W2 = _ from hW2.out, hyb.out]
          clear hW2 hyb c0 c1 c2 c3 c4 c5
          have x0 : W2.cell? ⟨xb, 0, none⟩ = some (.int .i64 m.n) := hX2.cell 0
          have x4 : W2.cell? ⟨xb, 4, none⟩ = some (.int .u32 (m.stamp : Int)) := hX2.cell 4
          have y0 : W2.cell? ⟨yb, 0, none⟩ = some (.int .i64 t.n) := hY.cell 0
          have y4 : W2.cell? ⟨yb, 4, none⟩ = some (.int .u32 (t.stamp : Int)) := hY.cell 4
          clear hX2 hY
          have hnx : Hid (¬ (t.n = m.n ∧ t.stamp = m.stamp) → ∀ o ∈ l.take (j + 1), ¬ (o.n = m.n ∧ o.stamp = m.stamp)) := Lib.hid (fun hn o ho => by
            rw [List.take_add_one, ht, Option.toList_some] at ho
            rcases List.mem_append.1 ho with h | h
            · exact hrelj.out.2 o h
            · rw [List.mem_singleton.1 h]; exact hn)
          cases e1 : t.n == m.n
          · have hnot : Hid (¬ (t.n = m.n ∧ t.stamp = m.stamp)) := Lib.hid (fun h => by simp [h.1] at e1)
            clear hrelj
            go_wp2_with fail
            go_roundg (gk - 1)
            case measure => omega
            case rel => exact ⟨j + 1, by omega, by omega, by go_num, Lib.hid ⟨hB2.out, hnx.out hnot.out⟩⟩
          cases e2 : ((t.stamp : Int) == (m.stamp : Int))
          · have hnot : Hid (¬ (t.n = m.n ∧ t.stamp = m.stamp)) := Lib.hid (fun h => by simp [h.2] at e2)
            clear hrelj
            go_wp2_with fail
            go_roundg (gk - 1)
            case measure => omega
            case rel => exact ⟨j + 1, by omega, by omega, by go_num, Lib.hid ⟨hB2.out, hnx.out hnot.out⟩⟩
          · have ht3 := Lib.hid (hth.out W2 hv2.out.since)
            clear hrelj
            go_wp2_with fail
            refine ht3.out.mono ?_
            rintro _ w9 ⟨rfl, hb9⟩
            have hfin := Lib.hid (hb0.out.trans ((hv2.out.below hb9).since.mono hb0.out.size))
            clear hb9 ht3
            go_wp2_with fail
            go_ret
            exact ⟨rfl, hfin.out⟩
        · obtain rfl : j = k := by omega
          have hX3 := hX.out.below hrelj.out.1 hX.out.lt
          have hQ3 := hQ.out.below hvi.out.since hQ.out.lt
          have x0 : wi.cell? ⟨xb, 0, none⟩ = some (.int .i64 m.n) := hX3.cell 0
          have x1 : wi.cell? ⟨xb, 1, none⟩ = some (.int .i64 m.f) := hX3.cell 1
          have x2 : wi.cell? ⟨xb, 2, none⟩ = some (.int .i64 m.log) := hX3.cell 2
          have x3 : wi.cell? ⟨xb, 3, none⟩ = some (.int .u32 (m.gen : Int)) := hX3.cell 3
          have x4 : wi.cell? ⟨xb, 4, none⟩ = some (.int .u32 (m.stamp : Int)) := hX3.cell 4
          have x5 : wi.cell? ⟨xb, 5, none⟩ = some (.int .i64 m.base) := hX3.cell 5
          have z3 : wi.cell? ⟨qb, 3, none⟩ = some (.int .i64 hb) := hQ3.cell 3
          have ht3 := Lib.hid (hth.out wi hvi.out.since)
          have hno := Lib.hid hrelj.out.2
          clear hX3 hQ3 hrelj
          by_cases q1 : m.n < 0
          · go_wp2_with fail
            refine ht3.out.mono ?_
            rintro _ w9 ⟨rfl, hb9⟩
            have hfin := Lib.hid (hb0.out.trans ((hvi.out.below hb9).since.mono hb0.out.size))
            clear hb9 ht3
            go_wp2_with fail
            go_ret
            exact ⟨rfl, hfin.out⟩
          by_cases q2 : 5 < m.n
          · go_wp2_with fail
            refine ht3.out.mono ?_
            rintro _ w9 ⟨rfl, hb9⟩
            have hfin := Lib.hid (hb0.out.trans ((hvi.out.below hb9).since.mono hb0.out.size))
            clear hb9 ht3
            go_wp2_with fail
            go_ret
            exact ⟨rfl, hfin.out⟩
          by_cases q3 : m.f < 0
          · go_wp2_with fail
            refine ht3.out.mono ?_
            rintro _ w9 ⟨rfl, hb9⟩
            have hfin := Lib.hid (hb0.out.trans ((hvi.out.below hb9).since.mono hb0.out.size))
            clear hb9 ht3
            go_wp2_with fail
            go_ret
            exact ⟨rfl, hfin.out⟩
          by_cases q4 : 9 < m.f
          · go_wp2_with fail
            refine ht3.out.mono ?_
            rintro _ w9 ⟨rfl, hb9⟩
            have hfin := Lib.hid (hb0.out.trans ((hvi.out.below hb9).since.mono hb0.out.size))
            clear hb9 ht3
            go_wp2_with fail
            go_ret
            exact ⟨rfl, hfin.out⟩
          by_cases q5 : m.log < 1
          · go_wp2_with fail
            refine ht3.out.mono ?_
            rintro _ w9 ⟨rfl, hb9⟩
            have hfin := Lib.hid (hb0.out.trans ((hvi.out.below hb9).since.mono hb0.out.size))
            clear hb9 ht3
            go_wp2_with fail
            go_ret
            exact ⟨rfl, hfin.out⟩
          by_cases q6 : 65535 < m.log
          · go_wp2_with fail
            refine ht3.out.mono ?_
            rintro _ w9 ⟨rfl, hb9⟩
            have hfin := Lib.hid (hb0.out.trans ((hvi.out.below hb9).since.mono hb0.out.size))
            clear hb9 ht3
            go_wp2_with fail
            go_ret
            exact ⟨rfl, hfin.out⟩
          by_cases q7 : m.base < 0
          · go_wp2_with fail
            refine ht3.out.mono ?_
            rintro _ w9 ⟨rfl, hb9⟩
            have hfin := Lib.hid (hb0.out.trans ((hvi.out.below hb9).since.mono hb0.out.size))
            clear hb9 ht3
            go_wp2_with fail
            go_ret
            exact ⟨rfl, hfin.out⟩
          by_cases q8 : 1073741824 < m.base
          · go_wp2_with fail
            refine ht3.out.mono ?_
            rintro _ w9 ⟨rfl, hb9⟩
            have hfin := Lib.hid (hb0.out.trans ((hvi.out.below hb9).since.mono hb0.out.size))
            clear hb9 ht3
            go_wp2_with fail
            go_ret
            exact ⟨rfl, hfin.out⟩
          by_cases q9 : 1073741824 < hb
          · go_wp2_with fail
            refine ht3.out.mono ?_
            rintro _ w9 ⟨rfl, hb9⟩
            have hfin := Lib.hid (hb0.out.trans ((hvi.out.below hb9).since.mono hb0.out.size))
            clear hb9 ht3
            go_wp2_with fail
            go_ret
            exact ⟨rfl, hfin.out⟩
          have hmem := List.mem_of_getElem? hm.out
          have hf : m.Fair := ⟨by omega, by omega, by omega, by omega, by omega, by omega, by omega, by omega, (hwf.out m hmem).1, (hwf.out m hmem).2.1⟩
          have hst := hrel2.out.2.2
          have hc := Lib.hid (laid_six hTV.out m hf hvi.out hrel2.out.1 (by omega) (by omega) hno.out)
          replace hf := Lib.hid hf
          clear ht3 hmem hst
          go_wp2_with fail
          refine hc.out.mono ?_
          rintro _ w5 ⟨rfl, ws5, hv5, h65, hl5⟩
          clear x0 x1 x2 x3 x4 x5 z3 hc
          have hX5 := hv5.got List.mem_cons_self
          obtain ⟨N, hN⟩ : ∃ N : Nat, Hid (m.n = (N : Int) ∧ N < 6 ∧ m.n.toNat = N) := ⟨m.n.toNat, Lib.hid ⟨by omega, by omega, rfl⟩⟩
          have hL5 := (hv5.got (List.mem_cons_of_mem _ (List.mem_cons_of_mem _ List.mem_cons_self)))
          have hT5 := (hv5.got (List.mem_cons_of_mem _ List.mem_cons_self))
          have x0 : w5.cell? ⟨xb, 0, none⟩ = some (.int .i64 (N : Int)) := by rw [← hN.out.1]; exact hX5.cell 0
          have x1 : w5.cell? ⟨xb, 1, none⟩ = some (.int .i64 m.f) := hX5.cell 1
          have x2 : w5.cell? ⟨xb, 2, none⟩ = some (.int .i64 m.log) := hX5.cell 2
          have x3 : w5.cell? ⟨xb, 3, none⟩ = some (.int .u32 (m.gen : Int)) := hX5.cell 3
          have x4 : w5.cell? ⟨xb, 4, none⟩ = some (.int .u32 (m.stamp : Int)) := hX5.cell 4
          have x5 : w5.cell? ⟨xb, 5, none⟩ = some (.int .i64 m.base) := hX5.cell 5
          have hN0 : (0 : Int) ≤ (N : Int) := by omega
          have hN6 : (N : Int) < 6 := by have := hN.out.2.1; omega
          go_wp2_with (with_reducible refine zStore 82 _ _ rfl ?_)
          refine Lib.hid ?_
          have hms := lastM_len (l.take j)
          have hcl : m.cells = [.int .i64 (N : Int), .int .i64 m.f, .int .i64 m.log, .int .u32 (m.gen : Int), .int .u32 (m.stamp : Int), .int .i64 m.base] := by
            show [Value.int .i64 m.n, _, _, _, _, _] = _
            rw [hN.out.1]
          have hN6' := hN.out.2.1
          refine wpList_store_mid rfl 82 _ _ rfl lb (N * 6) #[.int .i64 (N : Int), .int .i64 m.f, .int .i64 m.log, .int .u32 (m.gen : Int), .int .u32 (m.stamp : Int), .int .i64 m.base] (by first | rfl | simp) rfl (hL5.there (N * 6) 6 (by rw [lieC_len, hms]; omega)) sizeMd15 (by simp [Value.oneCell']) ?_
          rw [show (#[.int .i64 (N : Int), .int .i64 m.f, .int .i64 m.log, .int .u32 (m.gen : Int), .int .u32 (m.stamp : Int), .int .i64 m.base] : Array Value).toList = m.cells from hcl.symm]
          have hv6 := (hv5.sub (List.sublist_cons_self _ _)).laidM N (by rw [hms]; exact hN6') m
          have htk : l.take (j + 1) = l.take j ++ [m] := by rw [List.take_add_one, hm.out]; rfl
          rw [show (lastM (l.take j)).set N (some m) = lastM (l.take (j + 1)) from by rw [htk, lastM_snoc, hN.out.2.2]] at hv6
          rw [← htk] at h65
          have hne1 := hv5.blk.ne (y := (lb, 83, lieC (lastM (l.take j)))) (List.mem_cons_of_mem _ List.mem_cons_self)
          have hne2 := hv5.blk.tail.ne (y := (lb, 83, lieC (lastM (l.take j)))) List.mem_cons_self
          have hX6 := hX5.far (c := lb) (fun e => hne1 e.symm) (N * 6) m.cells
          have hT6 := hT5.far (c := lb) (fun e => hne2 e.symm) (N * 6) m.cells
          obtain ⟨ov, hov⟩ : ∃ ov, (lastM (l.take j))[N]? = some ov := ⟨_, List.getElem?_eq_getElem (by rw [hms]; exact hN6')⟩
          obtain ⟨w6, hw6⟩ : ∃ w6, Hid (w5.setCells lb (N * 6) m.cells = w6) := ⟨_, Lib.hid rfl⟩
          rw [hw6.out] at hv6 hX6 hT6 ⊢
          clear x0 x1 x2 x3 x4 x5
          have y0 : w6.cell? ⟨xb, 0, none⟩ = some (.int .i64 (N : Int)) := by rw [← hN.out.1]; exact hX6.cell 0
          have t0 : w6.cell? ⟨tb, N, none⟩ = some (.bool ov.isSome) := by
            rw [hT6.cell N]
            unfold thC
            rw [List.getElem?_map, hov]
            rfl
          have t1 : w6.frozen? ⟨tb, N, none⟩ = false := hT6.frozen N
          have hfin : Hid (VB V vb d g' (zeros 98) ws5 0 98 (st + 1 + m.f) (LawB tb lb (lastM (l.take (j + 1)))) (w6.setCell ⟨tb, N, none⟩ (.bool true)) ∧ Six ws5 (l.take (j + 1)) ∧ (∀ x ∈ l.take (j + 1), x.Fair) ∧ 0 ≤ st + 1 + m.f ∧ st + 1 + m.f ≤ 10 * ((j + 1 : Nat) : Int) ∧ ws5.length ≤ 10 * (j + 1)) := Lib.hid (by
            have h7 := hrel2.out
            refine ⟨hv6, h65, fun x hx => ?_, by omega, by omega, by omega⟩
            rw [htk] at hx
            rcases List.mem_append.1 hx with h | h
            · exact h7.2.1 x h
            · rw [List.mem_singleton.1 h]; exact hf.out)
          clear hv5 hv6 h65 hl5 hX5 hX6 hL5 hT5 hT6 htk hcl hms hov hne1 hne2 hw6 hN6'
          go_wp2_with fail
          go_roundg (gout - 1)
          case measure => omega
          case rel => exact ⟨j + 1, ws5, st + 1 + m.f, by omega, by omega, by go_num, hfin⟩
    · obtain rfl : k = n := by omega
      have htk : l.take k = l := List.take_of_length_le (by rw [hlen.out]; exact Nat.le_refl _)
      have hr0 := hrel.out
      rw [htk] at hr0
      replace hr0 := Lib.hid hr0
      clear hrel htk
      obtain ⟨iS, hiS, hzS, hsS1, hsS2⟩ := info_parts infoSg5
      obtain ⟨iI, hiI, hzI, hsI1, hsI2⟩ := info_parts infoC15
      go_wp2_with fail
      go_loopg [12, 13, 131] 6 (fun ga sv nv i wr => ∃ (q a c1 c2 : Nat) (A1 A2 : Option Addr), q ≤ 6 ∧ 6 ≤ q + ga ∧ i = .int .i64 (q : Int) ∧ sv = .slice A1 a c1 ∧ nv = .slice A2 a c2 ∧ a ≤ q ∧ Hid ((foundM (lastM l) q).length = a ∧ wr.ownsRow wo.heap.size 88 5 (.slice A1 a c1) a (rowS (segsM l q)) ∧ wr.ownsRow wo.heap.size 3 1 (.slice A2 a c2) a (rowP (numsM l q)) ∧ Below wo.heap.size wo wr))
      case atStart => exact ⟨0, 0, 0, 0, none, none, by omega, by omega, rfl, rfl, rfl, by omega, Lib.hid ⟨rfl, World.ownsRow_nil _ _ _ _, World.ownsRow_nil _ _ _ _, Below.refl _ _⟩⟩
      case round =>
        obtain ⟨q, a, c1, c2, A1, A2, hq, hgq, rfl, rfl, rfl, haq, hrel⟩ := hrel
        generalize wr = wi at *
        by_cases hlt2 : q < 6
        · have hv := hr0.out.1.below hrel.out.2.2.2
          have hL := hv.got (List.mem_cons_of_mem _ List.mem_cons_self)
          have hTB := hv.got List.mem_cons_self
          obtain ⟨om, hom⟩ : ∃ om, (lastM l)[q]? = some om := ⟨_, List.getElem?_eq_getElem (by rw [lastM_len]; exact hlt2)⟩
          have t0 : wi.cell? ⟨tb, q, none⟩ = some (.bool om.isSome) := by
            rw [hTB.cell q]
            unfold thC
            rw [List.getElem?_map, hom]
            rfl
          have hq6 : (q : Int) < 6 := by omega
          have hq0 : (0 : Int) ≤ (q : Int) := by omega
          cases om with
          | none =>
            have t1 : wi.cell? ⟨tb, q, none⟩ = some (.bool false) := t0
            have hfin : Hid ((foundM (lastM l) (q + 1)).length = a ∧ wi.ownsRow wo.heap.size 88 5 (.slice A1 a c1) a (rowS (segsM l (q + 1))) ∧ wi.ownsRow wo.heap.size 3 1 (.slice A2 a c2) a (rowP (numsM l (q + 1))) ∧ Below wo.heap.size wo wi) := Lib.hid (by
              rw [(segsM_no hom).1, (segsM_no hom).2, foundM_no hom]
              exact hrel.out)
            clear t0 hv hL hTB hom hrel
            go_wp2_with fail
            go_roundg (gk - 1)
            case measure => omega
            case rel => exact ⟨q + 1, a, c1, c2, A1, A2, by omega, by omega, by go_num, rfl, rfl, by omega, hfin⟩
          | some m =>
            have t1 : wi.cell? ⟨tb, q, none⟩ = some (.bool true) := t0
            have hrow := hL.row (even_lie _) (i := q) (r := m.cells) (by rw [List.getElem?_map, hom]; rfl)
            have r2 : wi.rangeAt lb (q * 6 + 2) [.int .i64 m.log, .int .u32 (m.gen : Int), .int .u32 (m.stamp : Int), .int .i64 m.base] := fun j v hj => by
              have := hrow (j + 2) v hj
              rw [show q * 6 + 2 + j = q * 6 + (j + 2) from by omega]
              exact this
            have f1 : wi.cell? ⟨lb, q * 6 + 1, none⟩ = some (.int .i64 m.f) := hrow 1 _ rfl
            obtain ⟨W4, hW4⟩ : ∃ V, Hid (V = wi.alloc (.cells #[.int .i64 m.log, .int .u32 (m.gen : Int), .int .u32 (m.stamp : Int), .int .i64 m.base] 79)) := ⟨_, Lib.hid rfl⟩
            have hb4 : Below wi.heap.size wi W4 := by rw [hW4.out]; exact grewAlloc (Below.refl _ _) _
            have hX : Whole W4 wi.heap.size 79 [.int .i64 m.log, .int .u32 (m.gen : Int), .int .u32 (m.stamp : Int), .int .i64 m.base] := by rw [hW4.out]; exact Whole.new wi _ _
            obtain ⟨xb, hxb⟩ : ∃ q, Hid (wi.heap.size = q) := ⟨_, Lib.hid rfl⟩
            rw [hxb.out] at hX
            have d0 : W4.cell? ⟨xb, 0, none⟩ = some (.int .i64 m.log) := hX.cell 0
            have d1 : W4.cell? ⟨xb, 1, none⟩ = some (.int .u32 (m.gen : Int)) := hX.cell 1
            have d2 : W4.cell? ⟨xb, 2, none⟩ = some (.int .u32 (m.stamp : Int)) := hX.cell 2
            have d3 : W4.cell? ⟨xb, 3, none⟩ = some (.int .i64 m.base) := hX.cell 3
            have f4 : W4.cell? ⟨lb, q * 6 + 1, none⟩ = some (.int .i64 m.f) := (World.cell?_of_block (a := ⟨lb, q * 6 + 1, none⟩) (hb4.block lb hL.lt)).trans f1
            have ho1 := Lib.hid (own_of_kept (own := fun _ => False) hrel.out.2.1 (Kept.of_below hb4) (fun _ _ e => e))
            have ho2 := Lib.hid (own_of_kept (own := fun _ => False) hrel.out.2.2.1 (Kept.of_below hb4) (fun _ _ e => e))
            have hB4 := Lib.hid (grew hrel.out.2.2.2 hb4)
            have hX4 := Lib.hid hX
            have hL4 := Lib.hid (hL.below hb4 hL.lt)
            have hat4 := Lib.hid (show ((lastM l).map rowM)[q]? = some m.cells from by rw [List.getElem?_map, hom]; rfl)
            have hla := Lib.hid hrel.out.1
            replace hom := Lib.hid hom
            have hsz4 := hB4.out.size
            clear t0 hv hL hTB hrow hrel hb4 hX
            go_wp2_with (with_reducible refine zLoad 79 _ rfl ?_)
            refine Lib.hid ?_
            refine wpList_load_mid rfl 79 _ rfl lb (q * 6 + 2) (by first | rfl | simp) [.int .i64 m.log, .int .u32 (m.gen : Int), .int .u32 (m.stamp : Int), .int .i64 m.base] _ r2 Tryz.underlying79 rfl sizeH4 ?_
            go_upto_region 29 with fail
            rw [← show W4 = _ from hW4.out, hxb.out]
            clear hW4 hxb f1 r2 t1
            have hkeep : Hid (∀ w5, (W4.drew.alloc (.cells #[.int .i64 m.log, .int .u32 (m.gen : Int), .int .i64 m.base, .int .i64 m.f, .int .u32 (m.stamp : Int)] 88)).grownBy w5 (Value.slice A1 a c1).ownBlock → (w5.cell? ⟨xb, 0, none⟩ = some (.int .i64 m.log) ∧ w5.cell? ⟨xb, 1, none⟩ = some (.int .u32 (m.gen : Int)) ∧ w5.cell? ⟨xb, 2, none⟩ = some (.int .u32 (m.stamp : Int)) ∧ w5.cell? ⟨xb, 3, none⟩ = some (.int .i64 m.base) ∧ w5.cell? ⟨lb, q * 6 + 1, none⟩ = some (.int .i64 m.f))) := Lib.hid (fun w5 hg => by
              have a1 := ((show Whole W4.drew xb _ _ from hX4.out).alloc _).kept hg (fun e => own_ne ho1.out hX4.out (by decide) _ e.symm rfl)
              have a2 := ((show Whole W4.drew lb _ _ from hL4.out).alloc _).kept hg (fun e => own_ne ho1.out hL4.out (by decide) _ e.symm rfl)
              exact ⟨a1.cell 0, a1.cell 1, a1.cell 2, a1.cell 3, (a2.row (even_lie _) hat4.out) 1 _ rfl⟩)
            go_region_held3 (fun w' => w'.cell? ⟨xb, 0, none⟩ = some (.int .i64 m.log) ∧ w'.cell? ⟨xb, 1, none⟩ = some (.int .u32 (m.gen : Int)) ∧ w'.cell? ⟨xb, 2, none⟩ = some (.int .u32 (m.stamp : Int)) ∧ w'.cell? ⟨xb, 3, none⟩ = some (.int .i64 m.base) ∧ w'.cell? ⟨lb, q * 6 + 1, none⟩ = some (.int .i64 m.f)) (first | assumption | (go_keep)) (first
              | (refine step_append_lies _ (by rfl) _ _ _ (by rfl) wo.heap.size 88 iS _ 5 40 Tryz.underlying86 hiS hzS hsS1 hsS2 rfl (by omega) (.slice A1 a c1) a _ (by rfl) (ho1.out.drew.alloc _) _ 1 1 [.int .i64 m.log, .int .u32 (m.gen : Int), .int .i64 m.base, .int .i64 m.f, .int .u32 (m.stamp : Int)] (by rfl) (by rfl) (World.news_of_block (heap_alloc_new _ _)) (by simp [Value.oneCell']) (by omega) (by unfold maxLen; omega) (by omega) (by simp; omega) (W4.heap.size + 1) (by simp) ?_; intro gg cap2 w5 hown5 hgrow5 hat5 hlt5; have hS5 := hkeep.out w5 hgrow5))
            all_goals
              have hyes := segsM_yes hom.out
              have k5 : Kept (fun b => (Value.slice A1 a c1).ownBlock = some b) W4 w5 := (keptDrew ((Kept.refl _ W4).alloc _)).grown hgrow5 (fun k hk => .inl hk)
              have own1 : w5.ownsRow wo.heap.size 88 5 (.slice (some ⟨gg, 0, none⟩) (a + 1) cap2) (a + 1) (rowS (segsM l (q + 1))) := by
                rw [hyes.1, rowS_snoc]
                exact hown5
              have own2 := Lib.hid (own_of_kept ho2.out k5 (own_two ho2.out ho1.out (by decide)))
              have hB5 := Lib.hid (((keptDrew ((Kept.of_below (own := fun b => wo.heap.size ≤ b) hB4.out).alloc _)).grown hgrow5 (fun k hk => .inl (ownFar ho1.out k hk))).below (Nat.le_refl _) (fun _ h => h))
              replace own1 := Lib.hid own1
              have hn2 := Lib.hid hyes.2
              have hsz5 := hB5.out.size
              clear hown5 hgrow5 hat5 hlt5 hS5 d0 d1 d2 d3 f4 hkeep hX4 hL4 hat4 ho1 ho2 k5 hyes hB4 hsz4
              go_wp2_with (with_reducible refine zAppend _ _ _ rfl ?_)
              refine Lib.hid ?_
              refine wpList_append_lies _ rfl _ _ 36 rfl wo.heap.size 3 iI _ 1 8 Tryz.underlying36 hiI hzI hsI1 hsI2 rfl (by omega) (.slice A2 a c2) a _ rfl (own2.out.alloc _) _ 1 1 [.int .i64 (q : Int)] rfl rfl (World.news_of_block (heap_alloc_new _ _)) (by simp [Value.oneCell']) (by omega) (by unfold maxLen; omega) (by omega) (by simp; omega) (w5.heap.size + 1) (by simp) ?_
              intro g6 cap3 w6 hown6 hgrow6 hat6 hlt6
              have k6 : Kept (fun b => (Value.slice A2 a c2).ownBlock = some b) w5 w6 := ((Kept.refl _ w5).alloc _).grown hgrow6 (fun k hk => .inl hk)
              have hfin : Hid ((foundM (lastM l) (q + 1)).length = a + 1 ∧ w6.ownsRow wo.heap.size 88 5 (.slice (some ⟨gg, 0, none⟩) (a + 1) cap2) (a + 1) (rowS (segsM l (q + 1))) ∧ w6.ownsRow wo.heap.size 3 1 (.slice (some ⟨g6, 0, none⟩) (a + 1) cap3) (a + 1) (rowP (numsM l (q + 1))) ∧ Below wo.heap.size wo w6) := Lib.hid (by
                refine ⟨?_, own_of_kept own1.out k6 (own_two own1.out own2.out (by decide)), ?_, (((Kept.of_below (own := fun b => wo.heap.size ≤ b) hB5.out).alloc _).grown hgrow6 (fun k hk => .inl (ownFar own2.out k hk))).below (Nat.le_refl _) (fun _ h => h)⟩
                · rw [foundM_yes hom.out, List.length_append, hla.out]; rfl
                · rw [hn2.out]
                  unfold rowP at hown6 ⊢
                  rw [List.map_append]
                  exact hown6)
              clear hown6 hgrow6 hat6 hlt6 k6 own1 own2 hB5 hla hom hn2
              go_wp2_with fail
              go_roundg (gk - 1)
              case measure => omega
              case rel => exact ⟨q + 1, a + 1, cap2, cap3, some ⟨gg, 0, none⟩, some ⟨g6, 0, none⟩, by omega, by omega, by go_num, rfl, rfl, by omega, hfin⟩
        · obtain rfl : q = 6 := by omega
          have hla := hrel.out.1
          obtain ⟨pk0, hv, hrows⟩ := VB.add_rows hr0.out.1 hrel.out.2.2.2 hrel.out.2.1 hrel.out.2.2.1 (by decide) (by show plainT 88; decide) (by show plainT 3; decide)
          have hls : (segsM l 6).length = a := by rw [(segsM_len l 6).1]; exact hla
          have hln : (numsM l 6).length = a := by rw [(segsM_len l 6).2]; exact hla
          have hws := hr0.out.2.2.2.2.2
          have hst0 := hr0.out.2.2.2.1
          have hst1 := hr0.out.2.2.2.2.1
          have hal := Lib.hid (all_any (q := 96) ((lastM l).map (Option.map Md.hd)) 6 hv rfl (by decide) (by rw [List.length_map, lastM_len]) hr0.out.2.1.lies hTV.out (by omega))
          have hr1 := Lib.hid hr0.out.2
          replace hrows := Lib.hid hrows
          replace hls := Lib.hid hls
          replace hln := Lib.hid hln
          clear hr0 hrel hv hla hws hst0 hst1
          go_wp2_with fail
          refine hal.out.mono ?_
          intro _ w7 hp
          obtain ⟨rs, A7, c7, pk, rfl, got, row, hv7⟩ := allIn hp (by rw [List.length_map, lastM_len]; decide)
          have hgm := got_made hr1.out.2.1 got
          have hrow7 := Lib.hid (hv7.row_of (K1 := []) row)
          have hobj7 := Lib.hid (fun r (hr : r ∈ rs) => (hv7.obj_of (K1 := pk) r hr).cell 1)
          have hrl : rs.length = a := by rw [show rs.length = (numL rs).length from by simp [numL], hgm.2.1]; exact hln.out
          obtain rfl := hrl
          have hnum := Lib.hid (lnumbers_any (rs := rs) (c := c7) (w := w7) (by omega) (fun j r hj => hrow7.out j r.sb (by rw [List.getElem?_map, hj]; rfl)) (fun r hr => hobj7.out r hr))
          replace hv7 := Lib.hid hv7
          replace hgm := Lib.hid hgm
          replace got := Lib.hid got
          replace row := Lib.hid row
          clear hal hp hobj7
          go_wp2_with fail
          refine hnum.out.mono ?_
          rintro _ w8 ⟨A8, c8, rfl, ho8, hb8⟩
          have hv8 := Lib.hid (hv7.out.below hb8)
          have hr8 := Lib.hid (hrows.out w8 (fun x hx => hv8.out.got (List.mem_append_right _ (List.mem_append_right _ (List.mem_append_left _ hx)))))
          have e8 : rowP (rs.map fun r => (r.n : Int)) = rowP (numsM l 6) := congrArg rowP hgm.out.2.1
          rw [e8] at ho8
          have t8 : ToldI w8 A8 (numsM l 6) := told_own (c := c8) (by rw [hln.out]; exact ho8)
          have t9 : ToldI w8 A2 (numsM l 6) := told_own (c := c2) (by rw [hln.out]; exact hr8.out.2)
          have hin := ints_same A8 A2 c8 c2 (numsM l 6) w8 t8 t9 (by rw [hln.out]; omega)
          rw [hln.out] at hin
          replace hin := Lib.hid hin
          clear hnum ho8 hb8 e8 t8 t9 hr8 hv7 hrow7
          go_wp2_with fail
          refine hin.out.mono ?_
          rintro _ w9 ⟨rfl, hb9⟩
          have hv9 := Lib.hid (hv8.out.below hb9)
          have hok9 := Lib.hid (fun r (hr : r ∈ rs) => (got.out.2 r hr).1)
          have hbs9 : Hid (∀ r ∈ rs, r.b ≤ 1099511627776) := Lib.hid (fun r hr => by have := hgm.out.2.2 r hr; omega)
          have hch := Lib.hid (chain_any ha hg hb hv9.out row.out hok9.out (by omega) hbs9.out)
          have hQ9 := hQ.out.below hv9.out.since hQ.out.lt
          have z0 : w9.cell? ⟨qb, 0, none⟩ = some (.int .i64 ha) := hQ9.cell 0
          have z1 : w9.cell? ⟨qb, 1, none⟩ = some (.int .u32 hg) := hQ9.cell 1
          have z3 : w9.cell? ⟨qb, 3, none⟩ = some (.int .i64 hb) := hQ9.cell 3
          clear hin hb9 hv8 hQ9
          go_wp2_with fail
          refine hch.out.mono ?_
          rintro _ w10 ⟨A10, c10, pk10, rfl, row10, hv10⟩
          have hr10 := hrows.out w10 (fun x hx => hv10.got (List.mem_append_right _ (List.mem_append_right _ (List.mem_append_right _ (List.mem_append_left _ hx)))))
          have hSg : SgAt w10 A1 (segsM l 6) := by
            rcases sgAt_own hr10.1 hls.out with h | h
            · exact h.1
            · intro i s hs
              have h2 := (List.getElem?_eq_some_iff.1 hs).1
              rw [hls.out] at h2
              omega
          obtain ⟨js, hj1, hj2⟩ := chain_places rs ha hg hb
          rw [hgm.out.1] at hj1
          have hrc := rchain15_any A1 rs.length c1 (segsM l 6) ha hg hb w10 hSg hls.out (by omega) (by rw [← hgm.out.1]; exact sg5_ok rs hok9.out hbs9.out)
          rw [hj1, List.length_map] at hrc
          replace hrc := Lib.hid hrc
          replace hj2 := Lib.hid hj2
          have hQ10 := hQ.out.below hv10.since hQ.out.lt
          have y0 : w10.cell? ⟨qb, 0, none⟩ = some (.int .i64 ha) := hQ10.cell 0
          have y1 : w10.cell? ⟨qb, 1, none⟩ = some (.int .u32 hg) := hQ10.cell 1
          have y3 : w10.cell? ⟨qb, 3, none⟩ = some (.int .i64 hb) := hQ10.cell 3
          replace hv10 := Lib.hid hv10
          replace row10 := Lib.hid row10
          clear hch z0 z1 z3 hv9 hr10 hSg hj1 hQ10
          go_wp2_with fail
          refine hrc.out.mono ?_
          rintro _ w11 ⟨A11, c11, rfl, ho11, hb11⟩
          have hv11 := Lib.hid (hv10.out.below hb11)
          have hr11 := hrows.out w11 (fun x hx => hv11.out.got (List.mem_append_right _ (List.mem_append_right _ (List.mem_append_right _ (List.mem_append_left _ hx)))))
          have t11 : Hid (ToldI w11 A2 (numsM l 6)) := Lib.hid (told_own (c := c2) (by rw [hln.out]; exact hr11.2))
          have tj : Hid (ToldI w11 A11 (js.map fun j : Nat => (j : Int))) := Lib.hid (told_own (c := c11) (by rw [List.length_map]; exact ho11))
          have hjl : js.length = (chainR rs ha hg hb).length := by
            have h1 := congrArg List.length hj2.out
            simpa using h1
          have hcl := chain_len rs ha hg hb
          have hjn : Hid (∀ q j, js[q]? = some j → ∃ r : Sr, rs[j]? = some r ∧ (chainR rs ha hg hb)[q]? = some r ∧ (numsM l 6)[j]? = some (r.n : Int)) := Lib.hid (fun q j hq => by
            obtain ⟨r, h1, h2⟩ := place_at hj2.out hq
            refine ⟨r, h1, h2, ?_⟩
            rw [← hgm.out.2.1]
            unfold numL
            rw [List.getElem?_map, h1]
            rfl)
          obtain ⟨ch, hch⟩ : ∃ ch, Hid (chainR rs ha hg hb = ch) := ⟨_, Lib.hid rfl⟩
          rw [hch.out] at hjl hcl hjn
          obtain ⟨J, hJ⟩ : ∃ J, Hid (js.length = J) := ⟨_, Lib.hid rfl⟩
          rw [hJ.out] at hjl ⊢
          rw [hch.out, ← hjl]
          have hJs : J ≤ 6 := by omega
          replace hjl := Lib.hid hjl
          replace hb11 := Lib.hid hb11
          clear hrc y0 y1 y3 ho11 hr11
          go_wp2_with fail
          go_loopg [19, 193] J (fun ga ov i wr => ∃ (q c' : Nat) (A : Option Addr), q ≤ J ∧ J ≤ q + ga ∧ i = .int .i64 (q : Int) ∧ ov = .slice A q c' ∧ Hid (wr.ownsRow w11.heap.size 3 1 (.slice A q c') q (rowP (numL (ch.take q))) ∧ Below w11.heap.size w11 wr))
          case atStart => exact ⟨0, 0, none, by omega, by omega, rfl, rfl, Lib.hid ⟨World.ownsRow_nil _ _ _ _, Below.refl _ _⟩⟩
          case round =>
            obtain ⟨q, c', A, hq, hgq2, rfl, rfl, hrel⟩ := hrel
            generalize wr = wi2 at *
            by_cases hlt3 : q < J
            · obtain ⟨j, hj⟩ : ∃ j, js[q]? = some j := ⟨_, List.getElem?_eq_getElem (by rw [hJ.out]; exact hlt3)⟩
              obtain ⟨r, hr1, hr2, hr3⟩ := hjn.out q j hj
              obtain ⟨g1, e1, hc1⟩ := (tj.out.below hrel.out.2) q (j : Int) (by rw [List.getElem?_map, hj]; rfl)
              obtain ⟨g2, e2, hc2⟩ := (t11.out.below hrel.out.2) j _ hr3
              have hjr : j < rs.length := (List.getElem?_eq_some_iff.1 hr1).1
              have hji : (j : Int) < (rs.length : Int) := by omega
              have hj0 : (0 : Int) ≤ (j : Int) := by omega
              have hqi : (q : Int) < (J : Int) := by omega
              have hown := Lib.hid hrel.out.1
              have hBq := Lib.hid hrel.out.2
              have hszq := hBq.out.size
              have htk : Hid (ch.take (q + 1) = ch.take q ++ [r]) := Lib.hid (by rw [List.take_add_one, hr2]; rfl)
              subst e1 e2
              clear hrel hr1 hr2 hr3 hj
              go_wp2_with (with_reducible refine zAppend _ _ _ rfl ?_)
              refine Lib.hid ?_
              refine wpList_append_lies _ rfl _ _ 36 rfl w11.heap.size 3 iI _ 1 8 Tryz.underlying36 hiI hzI hsI1 hsI2 rfl (by omega) (.slice A q c') q _ rfl (hown.out.alloc _) _ 1 1 [.int .i64 (r.n : Int)] rfl rfl (World.news_of_block (heap_alloc_new _ _)) (by simp [Value.oneCell']) (by omega) (by unfold maxLen; omega) (by omega) (by simp; omega) (wi2.heap.size + 1) (by simp) ?_
              intro g6 cap3 w6 hown6 hgrow6 hat6 hlt6
              have hfin : Hid (w6.ownsRow w11.heap.size 3 1 (.slice (some ⟨g6, 0, none⟩) (q + 1) cap3) (q + 1) (rowP (numL (ch.take (q + 1)))) ∧ Below w11.heap.size w11 w6) := Lib.hid (by
                refine ⟨?_, (((Kept.of_below (own := fun b => w11.heap.size ≤ b) hBq.out).alloc _).grown hgrow6 (fun k hk => .inl (ownFar hown.out k hk))).below (Nat.le_refl _) (fun _ h => h)⟩
                rw [htk.out]
                unfold rowP numL at hown6 ⊢
                rw [List.map_append, List.map_append]
                exact hown6)
              clear hown6 hgrow6 hat6 hlt6 hown hBq htk
              go_wp2_with fail
              go_roundg (gk - 1)
              case measure => omega
              case rel => exact ⟨q + 1, cap3, some ⟨g6, 0, none⟩, by omega, by omega, by go_num, rfl, hfin⟩
            · obtain rfl : q = J := by omega
              have hv12 := Lib.hid (hv11.out.below hrel.out.2)
              have ho12 := hrel.out.1
              rw [List.take_of_length_le (by have := hjl.out; omega)] at ho12
              have hr12 := hrows.out wi2 (fun x hx => hv12.out.got (List.mem_append_right _ (List.mem_append_right _ (List.mem_append_right _ (List.mem_append_left _ hx)))))
              have hSg : SgAt wi2 A1 (segsM l 6) := by
                rcases sgAt_own hr12.1 hls.out with h | h
                · exact h.1
                · intro i s hs
                  have h2 := (List.getElem?_eq_some_iff.1 hs).1
                  rw [hls.out] at h2
                  omega
              have hc12 : rs.length ≤ c1 := by
                rcases sgAt_own hr12.1 hls.out with h | h
                · exact h.2
                · omega
              have htw := Lib.hid (twins15_any A1 rs.length c1 (segsM l 6) wi2 hSg hls.out (by omega) hc12)
              replace ho12 := Lib.hid ho12
              have row12 := Lib.hid row10.out
              rw [hch.out] at row12
              have hchm := Lib.hid (chain_mem rs ha hg hb)
              have hchp := Lib.hid (chain_pair rs ha hg hb)
              rw [hch.out] at hchm hchp
              clear hrel hr12 hSg hc12 hj2 hjn t11 tj
              go_wp2_with fail
              refine htw.out.mono ?_
              rintro _ w15 ⟨⟨t, rfl⟩, hb15⟩
              replace hb15 := Lib.hid hb15
              have hv15 := Lib.hid (hv12.out.below hb15.out)
              have hrow15 := hv15.out.row_of (K1 := []) row12.out
              have hobj15 := fun r (hr : r ∈ rs) => ((hv15.out.sub (List.sublist_append_right _ _)).obj_of (K1 := pk) r hr).cell 1
              have hnum := Lib.hid (lnumbers_any (rs := ch) (c := c10) (w := w15) (by omega) (fun j r hj => hrow15 j r.sb (by rw [List.getElem?_map, hj]; rfl)) (fun r hr => hobj15 r (hchm.out r hr)))
              have ho15 := Lib.hid (own_of_kept (own := fun _ => False) ho12.out (Kept.of_below hb15.out) (fun _ _ e => e))
              rw [← hjl.out] at hnum
              clear htw hrow15 hobj15 hb15 ho12 hv12
              cases t
              case' false =>
                go_wp2_with fail
                refine hnum.out.mono ?_
                rintro _ w16 ⟨A16, c16, rfl, ho16, hb16⟩
                have hnl : (numL ch).length = q := by rw [hjl.out]; simp [numL]
                have t16 : ToldI w16 A16 (numL ch) := told_own (c := c16) (by rw [hnl]; exact ho16)
                have t17 : ToldI w16 A (numL ch) := told_own (c := c') (by rw [hnl]; exact own_of_kept (own := fun _ => False) ho15.out (Kept.of_below hb16) (fun _ _ e => e))
                have hin := ints_same A16 A c16 c' (numL ch) w16 t16 t17 (by omega)
                rw [hnl] at hin
                replace hin := Lib.hid hin
                have hv16 := Lib.hid (hv15.out.below hb16)
                clear ho16 hb16 t16 t17 hnum hv15 ho15
                go_wp2_with fail
                refine hin.out.mono ?_
                rintro _ w15 ⟨rfl, hb15⟩
                have hv15 := Lib.hid (hv16.out.below hb15)
                clear hin hv16 hb15
                go_wp2_with fail
              case' true =>
                clear hnum ho15
                go_wp2_with fail
              all_goals
                have hvS := hv15.out.sub (List.sublist_append_right pk10 _)
                have hb1 := hr1.out.2.2
                have hcn := Lib.hid (sclean_any (cl := c7) (ck := c10) rs ch ((lastM l).map (Option.map Md.hd)) hv15.out
                  (fun j r hj => hvS.row_of (K1 := []) row.out j r.sb (by rw [List.getElem?_map, hj]; rfl)) (fun r hr => (hvS.obj_of (K1 := pk) r hr).cell 1)
                  (fun j r hj => hv15.out.row_of (K1 := []) row12.out j r.sb (by rw [List.getElem?_map, hj]; rfl)) (fun r hr => (hvS.obj_of (K1 := pk) r (hchm.out r hr)).cell 1)
                  (by omega) (by omega) hr1.out.1.lies (fun r hr => by rw [List.length_map, lastM_len]; exact got_lt got.out r hr) (fun i hi => room15 i (by rw [List.length_map, lastM_len] at hi; exact hi)) hTV.out (by omega) (by omega) (by omega))
                rw [← hjl.out] at hcn
                clear hvS
                refine hcn.out.mono ?_
                rintro _ w20 ⟨rfl, lie2, ws2, st2, hv20, hw20, hs20, hs21, hlies20⟩
                have hL2 := osLeft_lies hlies20
                have hol : (osLeft ((lastM l).map (Option.map Md.hd)) (goneL rs ch)).length = 6 := by rw [osLeft_len, List.length_map, lastM_len]
                have hal := Lib.hid (all_any (q := 96) (osLeft ((lastM l).map (Option.map Md.hd)) (goneL rs ch)) 6 hv20 rfl (by decide) (by rw [hol]) hL2 hTV.out (by omega))
                replace hL2 := Lib.hid hL2
                replace hol := Lib.hid hol
                replace hb1 := Lib.hid hb1
                have hbd : Hid (ws2.length ≤ 300 ∧ 0 ≤ st2 ∧ st2 ≤ 400) := Lib.hid (by have := hb1.out; omega)
                clear hcn hv20 hlies20 hw20 hs20 hs21 hv15
                go_wp2_with fail
                refine hal.out.mono ?_
                intro _ w21 hp
                obtain ⟨rs2, A21, c21, pk21, rfl, got2, row21, hv21⟩ := allIn hp (by rw [hol.out]; decide)
                have hom6 : ((lastM l).map (Option.map Md.hd)).length = 6 := by rw [List.length_map, lastM_len]
                have hlc := left_chain (os := (lastM l).map (Option.map Md.hd)) (rs := rs) (rs2 := rs2) (ch := ch) (by rw [hom6]; exact got.out) hchm.out hchp.out (by rw [hom6]; exact got2)
                have e2 : rs2.length = q := hlc.1.trans hjl.out.symm
                have hvT := (hv21.sub (List.sublist_append_right pk21 _)).sub (List.sublist_append_right _ _)
                have hvU := hvT.sub (List.sublist_append_right pk10 _)
                have hcn2 := Lib.hid (sclean_any (cl := c21) (ck := c10) rs2 ch (osLeft ((lastM l).map (Option.map Md.hd)) (goneL rs ch)) hv21
                  (fun j r hj => hv21.row_of (K1 := []) row21 j r.sb (by rw [List.getElem?_map, hj]; rfl)) (fun r hr => (hv21.obj_of (K1 := pk21) r hr).cell 1)
                  (fun j r hj => hvT.row_of (K1 := []) row12.out j r.sb (by rw [List.getElem?_map, hj]; rfl)) (fun r hr => (hvU.obj_of (K1 := pk) r (hchm.out r hr)).cell 1)
                  (by omega) (by omega) hL2.out (fun r hr => by rw [hol.out]; exact got_lt got2 r hr) (fun i hi => room15 i (by rw [hol.out] at hi; exact hi)) hTV.out (by have := hbd.out; omega) (by have := hbd.out; omega) (by have := hbd.out; omega))
                rw [← hjl.out, e2] at hcn2
                rw [e2]
                replace got2 := Lib.hid got2
                replace row21 := Lib.hid row21
                replace hlc := Lib.hid hlc
                replace e2 := Lib.hid e2
                clear hvT hvU hal hp hv21
                go_wp2_with fail
                refine hcn2.out.mono ?_
                rintro _ w22 ⟨rfl, lie3, ws3, st3, hv22, hw22, hs22, hs23, hlies22⟩
                have hL3 : ∀ i x, (osLeft ((lastM l).map (Option.map Md.hd)) (goneL rs ch))[i]? = some x → Lies lie3 ws3 0 i x := fun i x hx => by
                  have h := hlies22 i x hx
                  rw [hlc.out.2, if_neg (by simp)] at h
                  exact h
                have hal := Lib.hid (all_any (q := 96) (osLeft ((lastM l).map (Option.map Md.hd)) (goneL rs ch)) 6 hv22 rfl (by decide) (by rw [hol.out]) hL3 hTV.out (by have := hbd.out; omega))
                clear hcn2 hv22 hlies22 hw22 hs22 hs23 hL3
                go_wp2_with fail
                refine hal.out.mono ?_
                intro _ w23 hp
                obtain ⟨rs3, A23, c23, pk23, rfl, got3, row23, hv23⟩ := allIn hp (by rw [hol.out]; decide)
                have hn23 : numL rs3 = numL rs2 := by rw [got_nums got3, got_nums got2.out]
                have e3 : rs3.length = q := by
                  have h := congrArg List.length hn23
                  have h2 := e2.out
                  simp only [numL, List.length_map] at h
                  omega
                have hvT := (hv23.sub (List.sublist_append_right pk23 _)).sub (List.sublist_append_right _ _)
                have hnu2 := Lib.hid (lnumbers_any (rs := rs2) (c := c21) (w := w23) (by have := e2.out; omega) (fun j r hj => hvT.row_of (K1 := []) row21.out j r.sb (by rw [List.getElem?_map, hj]; rfl)) (fun r hr => (hvT.obj_of (K1 := pk21) r hr).cell 1))
                have hnu3 := Lib.hid (fun W (hb : Below w23.heap.size w23 W) => lnumbers_any (rs := rs3) (c := c23) (w := W) (by omega) (fun j r hj => (hv23.below hb).row_of (K1 := []) row23 j r.sb (by rw [List.getElem?_map, hj]; rfl)) (fun r hr => ((hv23.below hb).obj_of (K1 := pk23) r hr).cell 1))
                rw [e2.out] at hnu2
                rw [e3] at hnu3
                rw [e3]
                replace hv23 := Lib.hid hv23
                replace hn23 := Lib.hid hn23
                clear hvT hal hp
                go_wp2_with fail
                refine hnu2.out.mono ?_
                rintro _ w24 ⟨A24, c24, rfl, ho24, hb24⟩
                have hc3 := Lib.hid (hnu3.out w24 hb24)
                replace hb24 := Lib.hid hb24
                replace ho24 := Lib.hid ho24
                clear hnu2 hnu3
                go_wp2_with fail
                refine hc3.out.mono ?_
                rintro _ w25 ⟨A25, c25, rfl, ho25, hb25⟩
                have hq2 : (numL rs2).length = q := by simp [numL, e2.out]
                have t24 : ToldI w25 A24 (numL rs2) := told_own (c := c24) (by rw [hq2]; exact own_of_kept (own := fun _ => False) ho24.out (Kept.of_below hb25) (fun _ _ e => e))
                have t25 : ToldI w25 A25 (numL rs2) := told_own (c := c25) (by rw [hq2, ← hn23.out]; exact ho25)
                have hin := ints_same A24 A25 c24 c25 (numL rs2) w25 t24 t25 (by omega)
                rw [hq2] at hin
                replace hin := Lib.hid hin
                have hv25 := Lib.hid ((hv23.out.below hb24.out).below hb25)
                clear hc3 ho24 ho25 hb25 t24 t25 hq2 e3
                go_wp2_with fail
                refine hin.out.mono ?_
                rintro _ w26 ⟨rfl, hb26⟩
                have hv26 := Lib.hid (hv25.out.below hb26)
                have ht3 := Lib.hid (hth.out w26 hv26.out.since)
                clear hin hb26 hv25
                go_wp2_with fail
                refine ht3.out.mono ?_
                rintro _ w27 ⟨rfl, hb27⟩
                have hfin := Lib.hid (hb0.out.trans ((hv26.out.below hb27).since.mono hb0.out.size))
                clear ht3 hb27
                go_wp2_with fail
                go_ret
                exact ⟨rfl, hfin.out⟩
end Go.Proofs.YtbbhnbdekblghaaGreatDoor.W
end
