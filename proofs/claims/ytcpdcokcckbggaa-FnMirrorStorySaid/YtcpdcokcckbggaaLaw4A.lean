/- A law of stage 4: mirrored claims are denied in opposite worlds. It answers true, whatever the code. No condition. -/
import Derived.Test.YtcpdcokcckbggaaDrawS
import Derived.Test.YtcpdcokcckbggaaDrawH
import Derived.Test.YtcpdcokcckbggaaMirrorS
import Derived.Test.YtcpdcokcckbggaaTruthI
import Derived.Test.YtcpdcokcckbggaaClaimI
import Derived.Test.YtcpdcokcckbggaaClaimE
import Derived.Test.YtcpdcokcckbggaaLawsA
import Derived.Deep.RegionHeld3
import Derived.Deep.Cut
namespace Go.Proofs.Ytcpdcokcckbggaa.fnMirrorStory
open Go.ChangeShapes Go.WideShapes Go.ChangeAt Go.RowKit Go.Joins
attribute [local irreducible] holds tabN tabV holdsV sameV followsV alwaysV matterV mirV mirOk mcells tmOf claimOk mayT mayV ctabV ctabN storyV storyOk storyN storyT ctermV ctermL denyV denyOk ccells
open Go.ChangeMaps (open_string shut_string)
set_option linter.unusedVariables false
set_option maxRecDepth 100000 in
set_option maxHeartbeats 4000000 in
theorem walk (a0 : Value) (n0 : Nat) (w : World) (w0 : RdBytes w w.heap.size a0 n0) :
    Calls Try.prog 11 #[a0] w fun e w' => e = .returned (.bool true) ∧ Below w.heap.size w w' := by
  have hr := w0
  by_cases hbig : n0 ≤ 1048576
  case neg =>
    obtain ⟨ao, cap, rfl, hl, hm, hc⟩ := w0
    have hbig' := code_big hbig
    unfold maxLen at hm
    clear hc hr hbig
    go_enter Try.func11, Try.ntmps11
    go_wp2
    go_ret
    exact ⟨rfl, Below.refl _ _⟩
  have hbig' : (n0 : Int) ≤ 1048576 := by omega
  clear hbig
  obtain ⟨ao, cap, rfl, hl, hm, hc⟩ := w0
  have Hr := Lib.hid hr
  clear hc hr hl hm
  go_enter Try.func11, Try.ntmps11
  go_wp2_with fail
  refine (drawClaimTable _ _ _ Hr.out).mono ?_
  rintro e w1 ⟨p, k, g, cp, ms, hp1, hp8, rfl, hown, hi, hn20, hk1, hk4, hB1⟩
  have Hi := Lib.hid hi
  go_upto_region 4 with fail
  obtain ⟨w2, hw2, hx2, hb2, hsz2⟩ := Box.new w1 (.int .i64 k) (.slice (some ⟨g, 0, none⟩) ms.length cp) TC
  have HO2 := Lib.hid (show w2.ownsRow w.heap.size TM 2 (.slice (some ⟨g, 0, none⟩) ms.length cp) ms.length (mcells ms) by rw [hw2]; exact hown.alloc _)
  have hB2 : Below w.heap.size w w2 := hB1.trans (hb2.mono hB1.size)
  have HX2 := Lib.hid hx2
  have aX2 := HX2.out.1
  have bX2 := HX2.out.2.1
  rw [← hw2]
  clear hw2 hown hi hb2 hx2 hB1
  go_wp2_with fail
  refine (specClaimOk p k ms _ _ _ (RdMarks.of_own HO2.out Hi.out) (Nat.le_refl _)).mono ?_
  rintro e w3 ⟨rfl, hb3⟩
  have HX3 := Lib.hid (HX2.out.below hb3)
  have aX3 := HX3.out.1
  have bX3 := HX3.out.2.1
  have HO3 := Lib.hid (own_below HO2.out hb3)
  have hB3 : Below w.heap.size w w3 := hB2.trans (hb3.mono hB2.size)
  clear hb3 aX2 bX2
  cases hok : claimOk p (k, ms) with
  | false =>
    have him := fun B u W h h2 => implClaimOk p k ms B u W h h2
    rw [hok] at him
    have Him := Lib.hid him
    clear him hok
    go_wp2_with fail
    refine (Him.out _ _ _ (RdMarks.of_own HO3.out Hi.out) (Nat.le_refl _)).mono ?_
    rintro e w4 ⟨rfl, hb4⟩
    have HX4 := Lib.hid (HX3.out.below hb4)
    have aX4 := HX4.out.1
    have bX4 := HX4.out.2.1
    have HO4 := Lib.hid (own_below HO3.out hb4)
    have hB4 : Below w.heap.size w w4 := hB3.trans (hb4.mono hB3.size)
    clear hb4 aX3 bX3
    go_wp2_with fail
    refine (alive _).mono ?_
    rintro e w' ⟨rfl, rfl⟩
    go_wp2
    go_ret
    exact ⟨rfl, hB4⟩
  | true =>
  go_wp2_with fail
  refine (implMirrorTerm p ms _ _ _ (RdMarks.of_own HO3.out Hi.out) (Nat.le_refl _)).mono ?_
  rintro e w4 ⟨vm, rfl, hom, hb4⟩
  have HX4 := Lib.hid (HX3.out.below hb4)
  have aX4 := HX4.out.1
  have bX4 := HX4.out.2.1
  have HO4 := Lib.hid (own_below HO3.out hb4)
  have hB4 : Below w.heap.size w w4 := hB3.trans (hb4.mono hB3.size)
  have Hmi := Lib.hid (mirV_I64 p ms)
  have hml := mirV_len p ms
  obtain ⟨mo, mc, hmf⟩ := own_len hom
  subst hmf
  clear hb4 aX3 bX3
  go_upto_region 8 with fail
  obtain ⟨w5, hw5, hy5, hb5, hsz5⟩ := Box.new w4 (.int .i64 k) (.slice mo (mirV p ms).length mc) TC
  have HX5 := Lib.hid (HX4.out.below hb5)
  have aX5 := HX5.out.1
  have bX5 := HX5.out.2.1
  have HO5 := Lib.hid (own_below HO4.out hb5)
  have hB5 : Below w.heap.size w w5 := hB4.trans (hb5.mono hB4.size)
  have HM5 := Lib.hid (own_below hom hb5)
  have HY5 := Lib.hid hy5
  have aY5 := HY5.out.1
  have bY5 := HY5.out.2.1
  rw [← hw5]
  clear hw5 hy5 hb5 hom aX4 bX4
  have Hst := Lib.hid (fun h1 h2 => mirror_story (p := p) (c := (k, ms)) hok h1 h2)
  have hsz12 := fun h1 => p_of_claim (p := p) (c := (k, ms)) h1
  obtain ⟨hp1', hp4⟩ := hsz12 hok
  clear hok hsz12
  cases hmo : mirOk p ms with
  | false =>
    clear hmo
    go_wp2_with fail
    refine (alive _).mono ?_
    rintro e w' ⟨rfl, rfl⟩
    go_wp2
    go_ret
    exact ⟨rfl, hB5⟩
  | true =>
  have Hst2 := Lib.hid (Hst.out hmo)
  clear hmo Hst
  go_wp2_with fail
  refine (specClaimOk p k (mirV p ms) _ _ _ (RdMarks.of_own HM5.out Hmi.out) (Nat.le_refl _)).mono ?_
  rintro e w6 ⟨rfl, hb6⟩
  have HX6 := Lib.hid (HX5.out.below hb6)
  have aX6 := HX6.out.1
  have bX6 := HX6.out.2.1
  have HY6 := Lib.hid (HY5.out.below hb6)
  have aY6 := HY6.out.1
  have bY6 := HY6.out.2.1
  have HO6 := Lib.hid (own_below HO5.out hb6)
  have HM6 := Lib.hid (own_below HM5.out hb6)
  have hB6 : Below w.heap.size w w6 := hB5.trans (hb6.mono hB5.size)
  clear hb6 aX5 bX5 aY5 bY5
  cases hok2 : claimOk p (k, mirV p ms) with
  | false =>
    clear hok2
    go_wp2_with fail
    refine (alive _).mono ?_
    rintro e w' ⟨rfl, rfl⟩
    go_wp2
    go_ret
    exact ⟨rfl, hB6⟩
  | true =>
  obtain ⟨n, m, e1, e2, hn, hm, hand, hor⟩ := Hst2.out hok2
  clear hok2 Hst2
  go_wp2_with fail
  refine (implClaimTable p k ms _ _ _ (RdMarks.of_own HO6.out Hi.out) (Nat.le_refl _)).mono ?_
  rintro e w7 ⟨rfl, hb7⟩
  have HX7 := Lib.hid (HX6.out.below hb7)
  have aX7 := HX7.out.1
  have bX7 := HX7.out.2.1
  have HY7 := Lib.hid (HY6.out.below hb7)
  have aY7 := HY7.out.1
  have bY7 := HY7.out.2.1
  have HO7 := Lib.hid (own_below HO6.out hb7)
  have HM7 := Lib.hid (own_below HM6.out hb7)
  have hB7 : Below w.heap.size w w7 := hB6.trans (hb7.mono hB6.size)
  rw [e1]
  clear hb7 aX6 bX6 aY6 bY6
  go_wp2_with fail
  refine (implClaimTable p k (mirV p ms) _ _ _ (RdMarks.of_own HM7.out Hmi.out) (Nat.le_refl _)).mono ?_
  rintro e w8 ⟨rfl, hb8⟩
  have HX8 := Lib.hid (HX7.out.below hb8)
  have aX8 := HX8.out.1
  have bX8 := HX8.out.2.1
  have HY8 := Lib.hid (HY7.out.below hb8)
  have aY8 := HY8.out.1
  have bY8 := HY8.out.2.1
  have HO8 := Lib.hid (own_below HO7.out hb8)
  have HM8 := Lib.hid (own_below HM7.out hb8)
  have hB8 : Below w.heap.size w w8 := hB7.trans (hb8.mono hB7.size)
  clear hb8 aX7 bX7 aY7 bY7
  go_wp2_with fail
  refine (implOppositeTable p _ _).mono ?_
  rintro e w9 ⟨rfl, hb9⟩
  have hB9 : Below w.heap.size w w9 := hB8.trans (hb9.mono hB8.size)
  rw [e2]
  clear hb9 
  clear e1 e2
  have hA := bits_and_nat n m (by omega) (by omega)
  have hO := bits_or_nat n m (by omega) (by omega)
  rw [hand] at hA
  rw [hor] at hO
  go_wp2_with fail
  refine (alive _).mono ?_
  rintro e w' ⟨rfl, rfl⟩
  have hB9' := hB9
  have HB := Lib.hid hB9'
  clear hand hor hn hm hB9 hB9'
  rcases p_cases hp1' hp4 with rfl | rfl | rfl | rfl
  all_goals
    simp at hA hO
    go_wp2
    go_ret
    exact ⟨rfl, HB.out⟩

set_option maxRecDepth 100000 in
theorem lifted (os : Os) (started : os.Started) (H : Type) (enc : TypeId × Value → H) :
    ReturnsInHanded {} Try.checked os 11 .any (Rows.fnMirrorStorySpec.pre6 enc Try.prog Try.f11 Rows.fnMirrorStoryRow.domain false) (Rows.fnMirrorStorySpec.post enc Try.prog Try.f11 false true false false) := by
  refine returnsInHanded_of_change (C := Try.checked) Try.own started (by kernel_rfl) Try.func11
    (ChangeSpec.witness6 (enc := enc) (C := Try.checked) false ⟨#[], #[.slice none 0 0], []⟩ 8 (by kernel_rfl) (by kernel_rfl) (by kernel_rfl) (by kernel_rfl)) ?_
  intro W base args ds gs before hval0 hW hcnd _
  have hval : ∀ (j : Nat) t v, Try.f11.params[j]? = some t → args[j]? = some v → Value.okWide Try.prog W .any base t v := hval0
  have hW' := hW
  obtain ⟨p, q, hA0, hV, rfl, hfz, hnd⟩ := hW
  have hA : DataW.TrodAll enc Try.prog W 0 (fun _ => true) true Try.f11.params.toList args.toList ds p := hA0
  rw [Try.params11] at hA hval
  obtain ⟨v0, vs0, d0, ds0, p0, q0, hargs, rfl, rfl, h0, r0⟩ := trodAll_cons hA
  obtain ⟨rfl, rfl, rfl⟩ := trodAll_nil r0
  obtain rfl : args = #[v0] := by cases args; simp_all
  obtain ⟨rfl, rfl⟩ := trodVars_none hV
  obtain ⟨a0, len0, cap0, rfl⟩ := okWide_slice Try.underlying22 (hval 0 22 v0 rfl rfl)
  have k0 := h0
  have lt0 : ∀ x ∈ p0, x.block < W.heap.size := by obtain ⟨m, hm⟩ := k0; exact DataW.trod_lt m _ _ _ hm
  obtain ⟨z0, w0⟩ : ∃ zs, IsRow .u8 W a0 len0 cap0 zs := by
    obtain ⟨fuel, hf⟩ := h0
    rcases open_ints Try.underlying22 Try.underlying5 (by kernel_rfl) hf with ⟨hcs, _⟩ | ⟨x, l, c, zs, hcs, _, hl, hm, hz, _, hcell, hwz⟩
    · simp [Value.cells] at hcs
      obtain ⟨rfl, rfl, rfl⟩ := hcs
      exact ⟨[], .inl ⟨rfl, rfl, rfl, rfl⟩⟩
    · simp [Value.cells] at hcs
      obtain ⟨rfl, rfl, rfl⟩ := hcs
      exact ⟨zs, .inr ⟨_, rfl, hl, hm, by simpa using hz, hcell, hwz⟩⟩
  clear hA0 hval0
  refine (walk _ _ W (RdBytes.of_row w0)).mono fun e W' ⟨he, bel⟩ => ?_
  subst he
  exact ⟨_, rfl, _, _, _, [], _, [], hW', trodAll_mk1 (shut_bool Try.underlying4 _), (trodAll_cons_mk (Below.trod Try.laidOut (by kernel_rfl) (of_decide_eq_true (by kernel_rfl)) k0 bel lt0) trodAll_mk0), rfl, bel.frame _, fun h => by cases h⟩

theorem closed : joinedFacts Try.pinned.checked.prog 11 Try.f11 Rows.fnMirrorStorySpec Rows.fnMirrorStoryRow = true := by
  unfold joinedFacts
  exact (and_tt (and_tt (and_tt (and_tt (and_tt (and_tt (and_tt (and_tt (and_tt (and_tt (and_tt (and_tt (and_tt (and_tt (and_tt (and_tt (and_tt (and_tt (and_tt (and_tt (and_tt (and_tt (and_tt (and_tt (and_tt (and_tt (and_tt (and_tt (and_tt (and_tt (and_tt (by kernel_rfl) (by kernel_rfl)) (by kernel_rfl)) (by kernel_rfl)) (by kernel_rfl)) (by kernel_rfl)) (by kernel_rfl)) (by kernel_rfl)) (by kernel_rfl)) (by kernel_rfl)) (by kernel_rfl)) (by kernel_rfl)) (by kernel_rfl)) (by kernel_rfl)) (by kernel_rfl)) (by kernel_rfl)) (by kernel_rfl)) (by kernel_rfl)) (by kernel_rfl)) (by kernel_rfl)) (by kernel_rfl)) (by kernel_rfl)) (by kernel_rfl)) (by kernel_rfl)) (by kernel_rfl)) Try.mayEnter0) (lifted_tt Try.lifts0 rfl)) (make_tt Try.make0 rfl)) (by kernel_rfl)) (by kernel_rfl)) (by kernel_rfl)) (by kernel_rfl))
theorem over : Rows.fnMirrorStoryRow.holds Try.pinned (OpenSpec.ofChange Rows.fnMirrorStorySpec) :=
  OpenClaim.holds_of_wide 11 Try.f11 rfl rfl rfl rfl rfl rfl rfl ⟨rfl, rfl, rfl, rfl, rfl⟩ rfl rfl rfl rfl rfl (by kernel_rfl) Try.func11 closed
    (of_decide_eq_true (by kernel_rfl)) (by unfold Func.isWrapper; first | (rw [if_pos (by decide +kernel)]; kernel_rfl) | (rw [if_neg (by decide +kernel)]; exact ⟨rfl, rfl⟩))
    (fun os started H enc _ => lifted os started H enc)

theorem proved : Rows.FnMirrorStorySaid := over
end Go.Proofs.Ytcpdcokcckbggaa.fnMirrorStory

