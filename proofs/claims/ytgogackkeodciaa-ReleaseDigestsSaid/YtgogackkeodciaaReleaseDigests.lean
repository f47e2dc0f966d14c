/- For every pair the law ReleaseDigests returns true: the digest that package release tells of it is the document's; those of three small pairs are unlike; of keys or values of more than 500 bytes the small case stands in. No condition. -/
import Derived.Test.YtgogackkeodciaaRows
import Derived.Test.YtgogackkeodciaaRlK
import Derived.Test.YtgogackkeodciaaOpenPr25
import Derived.ChangeOld
import Derived.Deep.Cut
import Derived.Deep.RegionHeld3
namespace Go.Proofs.Ytgogackkeodciaa.releaseDigests
open Go.ChangeShapes Go.WideShapes Go.ChangeAt Go.RowKit Go.Sort
open Go.ChangeMaps (open_string shut_string)
open Go.Proofs.Ytgogackkeodciaa.M Go.Proofs.Ytgogackkeodciaa.W Go.Proofs.Ytgogackkeodciaa.D Go.Proofs.Ytgogackkeodciaa.Z
set_option linter.unusedVariables false
set_option linter.unusedSimpArgs false

theorem dA : dig (digL ⟨#[97]⟩ ⟨#[]⟩ false) = 14628717949066685295 := by decide +kernel
theorem dB : dig (digL ⟨#[97]⟩ ⟨#[]⟩ true) = 14628716849555057084 := by decide +kernel
theorem dC : dig (digL ⟨#[]⟩ ⟨#[97]⟩ false) = 4966381320998837651 := by decide +kernel
set_option maxRecDepth 100000 in
set_option maxHeartbeats 4000000 in
theorem walk (k v : ByteArray) (g : Bool) (w : World) (_ : k.size ≤ maxLen) (_ : v.size ≤ maxLen) :
    Calls Try.prog 6 #[.agg #[.string k, .string v, .bool g]] w fun e w' => e = .returned (.bool true) ∧ Below w.heap.size w w' := by
  obtain ⟨V, hV⟩ : ∃ V, Hid (V = w.alloc (.cells #[.string k, .string v, .bool g] 62)) := ⟨_, Lib.hid rfl⟩
  have hB : Below w.heap.size w V := by rw [hV.out]; exact grewAlloc (Below.refl _ _) _
  have hP : Whole V w.heap.size 62 [.string k, .string v, .bool g] := by rw [hV.out]; exact Whole.new w _ _
  obtain ⟨pb, hpb⟩ : ∃ q, Hid (w.heap.size = q) := ⟨_, Lib.hid rfl⟩
  rw [hpb.out] at hP
  have x0 : ∀ W, Below V.heap.size V W → W.cell? ⟨pb, 0, none⟩ = some (.string k) := fun W hb => (hP.below hb hP.lt).cell 0
  have x1 : ∀ W, Below V.heap.size V W → W.cell? ⟨pb, 1, none⟩ = some (.string v) := fun W hb => (hP.below hb hP.lt).cell 1
  have x2 : ∀ W, Below V.heap.size V W → W.cell? ⟨pb, 2, none⟩ = some (.bool g) := fun W hb => (hP.below hb hP.lt).cell 2
  have p0 := x0 V (Below.refl _ _)
  have p1 := x1 V (Below.refl _ _)
  have hfi := Lib.hid (fun W => first25_any W)
  replace hB := Lib.hid hB
  clear hP
  go_enter Try.func6, Try.ntmps6
  go_upto_region 1 with fail
  rw [← show V = _ from hV.out, hpb.out]
  clear hV hpb
  by_cases hk : 500 < k.size
  · clear x0 x1 x2
    have hk2 : (500 : Int) < (k.size : Int) := by omega
    go_wp2_with fail
    refine (hfi.out _).mono ?_
    rintro _ w1 ⟨rfl, b1⟩
    have hfin := Lib.hid (grew hB.out b1)
    clear b1
    go_wp2_with fail
    go_ret
    exact ⟨rfl, hfin.out⟩
  by_cases hv : 500 < v.size
  · clear x0 x1 x2
    have hk2 : ¬ (500 : Int) < (k.size : Int) := by omega
    have hv2 : (500 : Int) < (v.size : Int) := by omega
    go_wp2_with fail
    refine (hfi.out _).mono ?_
    rintro _ w1 ⟨rfl, b1⟩
    have hfin := Lib.hid (grew hB.out b1)
    clear b1
    go_wp2_with fail
    go_ret
    exact ⟨rfl, hfin.out⟩
  have hk2 : ¬ (500 : Int) < (k.size : Int) := by omega
  have hv2 : ¬ (500 : Int) < (v.size : Int) := by omega
  have d1 := fun W => digest25_any ⟨#[97]⟩ ⟨#[]⟩ false W (by decide) (by decide)
  rw [dA] at d1
  have d2 := fun W => digest25_any ⟨#[97]⟩ ⟨#[]⟩ true W (by decide) (by decide)
  rw [dB] at d2
  have d3 := fun W => digest25_any ⟨#[]⟩ ⟨#[97]⟩ false W (by decide) (by decide)
  rw [dC] at d3
  have d4 := fun W => digest25_any k v g W (by omega) (by omega)
  have d5 := fun W => rdigest25_any k v g W (by omega) (by omega)
  obtain ⟨D, hD⟩ : ∃ D : Nat, Hid (dig (digL k v g) = D) := ⟨_, Lib.hid rfl⟩
  rw [hD.out] at d4 d5
  replace d1 := Lib.hid d1
  replace d2 := Lib.hid d2
  replace d3 := Lib.hid d3
  replace d4 := Lib.hid d4
  replace d5 := Lib.hid d5
  clear hD
  go_wp2_with fail
  refine (d1.out _).mono ?_
  rintro _ w1 ⟨rfl, b1⟩
  replace b1 := Lib.hid b1
  go_wp2_with fail
  refine (d2.out _).mono ?_
  rintro _ w2 ⟨rfl, b2⟩
  have c2 := Lib.hid (grew b1.out b2)
  clear b2
  go_wp2_with fail
  refine (d3.out _).mono ?_
  rintro _ w3 ⟨rfl, b3⟩
  have s10 : Below V.heap.size V w3 := grew c2.out b3
  have s10d : Below V.heap.size V w3.drew := s10.drew
  clear b3 c2 b1 p0 p1 d1 d2 d3 hk2 hv2
  go_upto_region 6 with fail
  go_region_held3 (fun w' => Below V.heap.size V w') (with_reducible first | assumption) (first
    | (go_at_call 23; (with_reducible refine (hfi.out _).mono ?_); rintro _ y3 ⟨rfl, b3⟩; have s13 : Below V.heap.size V y3 := grew (by assumption) b3; have hfin := Lib.hid (grew hB.out s13))
    | (go_at_call 24; (with_reducible refine (d4.out _).mono ?_); rintro _ y1 ⟨rfl, b1⟩; have s11 : Below V.heap.size V y1 := grew (by assumption) b1)
    | (go_at_call 25; (with_reducible refine (d5.out _).mono ?_); rintro _ y2 ⟨rfl, b2⟩; have s12 : Below V.heap.size V y2 := grew (by assumption) b2))
  all_goals
    clear x0 x1 x2 d4 d5 hfi
    go_wp2_with fail
    go_ret
    exact ⟨rfl, hfin.out⟩


theorem own : ownKnob Try.prog.godebug = none := by kernel_rfl
theorem laidOut : laidOutB Try.prog = true := by kernel_rfl

set_option maxRecDepth 100000 in
theorem lifted (os : Os) (started : os.Started) (H : Type) (enc : TypeId × Value → H) :
    ReturnsInHanded {} Try.checked os 6 .any (Rows.releaseDigestsSpec.pre6 enc Try.prog Try.f6 Rows.releaseDigestsRow.domain false) (Rows.releaseDigestsSpec.post enc Try.prog Try.f6 false true false false) := by
  refine returnsInHanded_of_change (C := Try.checked) own started (by kernel_rfl) Try.func6
    (ChangeSpec.witness6 (enc := enc) (C := Try.checked) false ⟨#[], #[.agg #[.string ByteArray.empty, .string ByteArray.empty, .bool false]], []⟩ 8 (by kernel_rfl) (by kernel_rfl) (by kernel_rfl) (by kernel_rfl)) ?_
  intro W base args ds gs before hval0 hW hcnd _
  have hval : ∀ (j : Nat) t v, Try.f6.params[j]? = some t → args[j]? = some v → Value.okWide Try.prog W .any base t v := hval0
  have hW' := hW
  obtain ⟨p, q, hA0, hV, rfl, hfz, hnd⟩ := hW
  have hA : DataW.TrodAll enc Try.prog W 0 (fun _ => true) true Try.f6.params.toList args.toList ds p := hA0
  rw [Try.params6] at hA hval
  obtain ⟨v0, vs0, d0, ds0, p0, q0, hargs, rfl, rfl, h0, r0⟩ := trodAll_cons hA
  obtain ⟨rfl, rfl, rfl⟩ := trodAll_nil r0
  obtain rfl : args = #[v0] := by cases args; simp_all
  obtain ⟨rfl, rfl⟩ := trodVars_none hV
  have k0 := h0
  have lt0 : ∀ x ∈ p0, x.block < W.heap.size := by obtain ⟨m, hm⟩ := k0; exact DataW.trod_lt m _ _ _ hm
  obtain ⟨pk0, pv0, pg0, rfl, wpk0, wpv0⟩ := Go.Proofs.Ytgogackkeodciaa.W.open_pair25 (hval 0 62 v0 rfl rfl) h0
  clear hA0 hval0
  refine (walk pk0 pv0 pg0 W wpk0 wpv0).mono fun e W' ⟨he, bel⟩ => ?_
  subst he
  exact ⟨_, rfl, _, _, _, [], _, [], hW', trodAll_mk1 (shut_bool Try.underlying4 _), (trodAll_cons_mk (Below.trod laidOut (by kernel_rfl) (of_decide_eq_true (by kernel_rfl)) k0 bel lt0) trodAll_mk0), rfl, bel.frame _, fun h => by cases h⟩

theorem over : Rows.releaseDigestsRow.holds Try.pinned (OpenSpec.ofChange Rows.releaseDigestsSpec) :=
  OpenClaim.holds_of_wide 6 Try.f6 rfl rfl rfl rfl rfl rfl rfl ⟨rfl, rfl, rfl, rfl, rfl⟩ rfl rfl rfl rfl rfl (by kernel_rfl) Try.func6 (by kernel_rfl)
    (of_decide_eq_true (by kernel_rfl)) (by unfold Func.isWrapper; first | (rw [if_pos (by decide +kernel)]; kernel_rfl) | (rw [if_neg (by decide +kernel)]; exact ⟨rfl, rfl⟩))
    (fun os started H enc _ => lifted os started H enc)

/-- The statement. -/
theorem proved : Rows.ReleaseDigestsSaid := over
#print axioms proved

end Go.Proofs.Ytgogackkeodciaa.releaseDigests
