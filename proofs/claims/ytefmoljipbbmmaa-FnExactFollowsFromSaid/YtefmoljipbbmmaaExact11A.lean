/- Exact law of stage 11: what follows. No condition. -/
import Derived.Test.YtefmoljipbbmmaaMerged34
import Derived.Test.YtefmoljipbbmmaaMerged35
import Derived.Test.YtefmoljipbbmmaaMerged36
import Derived.Test.YtefmoljipbbmmaaMerged6
import Derived.Deep.RegionHeld3
import Derived.Deep.Cut
import Derived.WalkKit
import Derived.ProofKit
namespace Go.Proofs.Ytefmoljipbbmmaa
open Go.RowKit Go.Joins
theorem FollowsFrom_spec (p : Int) (us zs : List QC) (he : us.map (·.2) = zs.map (·.2)) (ms : List (Int × Int)) (B : Nat) (v u : Value) (w : World) (hr : RdStory w B v us) (hr' : RdMarks w B u ms) (hB : B ≤ w.heap.size) :
    Calls Try.prog 8 #[.int .i64 p, v, u] w fun e w' => e = .returned (.bool (followsF p (zs.map (·.2)) ms)) ∧ Below w.heap.size w w' := by
  rw [← he]
  exact specFollowsFrom p us ms B B v u w hr hr' hB hB
theorem FollowsFrom_impl (p : Int) (us zs : List QC) (he : us.map (·.2) = zs.map (·.2)) (ms : List (Int × Int)) (B : Nat) (v u : Value) (w : World) (hr : RdStory w B v us) (hr' : RdMarks w B u ms) (hB : B ≤ w.heap.size) :
    Calls Try.prog 11 #[.int .i64 p, v, u] w fun e w' => e = .returned (.bool (followsF p (zs.map (·.2)) ms)) ∧ Below w.heap.size w w' := by
  rw [← he]
  exact implFollowsFrom p us ms B v u w hr hr' hB
end Go.Proofs.Ytefmoljipbbmmaa
namespace Go.Proofs.Ytefmoljipbbmmaa.fnExactFollowsFrom
open Go.ChangeShapes Go.WideShapes Go.ChangeAt Go.RowKit Go.Joins
attribute [local irreducible] holds tabN tabV holdsV sameV followsV alwaysV matterV mirV mirOk mcells tmOf claimOk mayT mayV ctabV ctabN storyV storyOk storyN storyT ctermV ctermL denyV denyOk ccells clashV followsF provesF findF foundS foundG tbF readF textF nats8 scells lay lay3 laidC ctot
open Go.ChangeMaps (open_string shut_string)
set_option linter.unusedVariables false
set_option maxRecDepth 100000 in
set_option maxHeartbeats 8000000 in
theorem walk (a0 : Int) (a1 : Value) (z1 : List QC) (a2 : Value) (z2 : List (Int × Int)) (w : World) (w0 : (Lit.int .i64 a0).wf = true) (w1 : RdStory w w.heap.size a1 z1) (w2 : RdMarks w w.heap.size a2 z2) :
    Calls Try.prog 3 #[.int .i64 a0, a1, a2] w fun e w' => e = .returned (.bool true) ∧ Below w.heap.size w w' := by
  have HA := Lib.hid w1
  have HM := Lib.hid w2
  obtain ⟨mo, mc, rfl, hmn⟩ : ∃ mo mc, a2 = .slice mo z2.length mc ∧ (z2.length : Int) ≤ 9223372036854775807 := by
    obtain ⟨a, c, h1, h2, h3, _⟩ := w2
    unfold maxLen at h3
    exact ⟨a, c, h1, by omega⟩
  have Hi := Lib.hid (show I64s z2 from by obtain ⟨_, _, _, _, _, hi, _⟩ := w2; exact hi)
  clear w1 w2
  have hs := fun us (he : us.map (·.2) = z1.map (·.2)) B v u W h h2 h3 => FollowsFrom_spec a0 us z1 he z2 B v u W h h2 h3
  have hp := fun us (he : us.map (·.2) = z1.map (·.2)) B v u W h h2 h3 => FollowsFrom_impl a0 us z1 he z2 B v u W h h2 h3
  generalize followsF a0 (z1.map (·.2)) z2 = T at *
  have Hs := Lib.hid hs
  have Hp := Lib.hid hp
  clear hs hp
  obtain ⟨w1, rfl⟩ : ∃ w1 : World, w1 = w := ⟨_, rfl⟩
  have HB_1 := Lib.hid (Below.refl w1.heap.size w1)
  have HA_1 := HA
  have HM_1 := HM
  go_enter Try.func3, Try.ntmps3
  go_wp2_with fail
  refine (szClaimSB z1 _ _ _ HA_1.out (Nat.le_refl _)).mono ?_
  rintro e w2 ⟨⟨r, rfl, hrr⟩, hb2⟩
  have HA_2 := Lib.hid ((HA_1.out.below (w' := w2) hb2.block).mono hb2.size)
  have HM_2 := Lib.hid ((HM_1.out.below (w' := w2) hb2.block).mono hb2.size)
  have hs2 := hb2.size
  have HB_2 := Lib.hid (HB_1.out.trans (hb2.mono HB_1.out.size))
  clear hb2
  by_cases hnegr : r < 0
  case pos =>
    clear hrr
    go_wp2
    go_ret
    exact ⟨rfl, HB_2.out⟩
  have hrr2 : (0 ≤ r ∧ r ≤ 1048576) ∧ z1.length ≤ 1048576 ∧ ∀ j, j < z1.length → (z1.getD j qc0).2.2.length ≤ 1048576 := by
    rcases hrr with h | h
    · omega
    · exact h
  obtain ⟨⟨hr0, hr1⟩, hlq, hlm⟩ := hrr2
  have Hlm := Lib.hid hlm
  clear hrr hlm
  go_wp2_with fail
  refine (szMarkS_at mo z2.length mc r hmn hr0 hr1 _).mono ?_
  rintro e w' ⟨⟨r2, rfl, hrr2⟩, rfl⟩
  by_cases hnegr2 : r2 < 0
  case pos =>
    clear hrr2
    go_wp2
    go_ret
    exact ⟨rfl, HB_2.out⟩
  have hrr3 : 0 ≤ r2 ∧ r2 ≤ r ∧ z2.length ≤ 1048576 := by
    rcases hrr2 with h | h
    · omega
    · exact h
  obtain ⟨hr20, hr21, hlz⟩ := hrr3
  clear hrr2
  go_wp2_with fail
  refine (toClaimS z1 hlq Hlm.out _ _ _ HA_2.out (Nat.le_refl _)).mono ?_
  rintro e w3 ⟨v1, us1, rfl, he1, hst1, hb3⟩
  have HS1_3 := Lib.hid hst1
  have He1 := Lib.hid he1
  clear hst1 he1
  have HA_3 := Lib.hid ((HA_2.out.below (w' := w3) hb3.block).mono hb3.size)
  have HM_3 := Lib.hid ((HM_2.out.below (w' := w3) hb3.block).mono hb3.size)
  have hs3 := hb3.size
  have HB_3 := Lib.hid (HB_2.out.trans (hb3.mono HB_2.out.size))
  clear hb3
  go_wp2_with fail
  refine (toMarkS z2 hlz _ _ _ HM_3.out (Nat.le_refl _)).mono ?_
  rintro e w4 ⟨m1, rfl, ho1, hb4⟩
  have HN1_4 := Lib.hid ho1
  clear ho1
  have HA_4 := Lib.hid ((HA_3.out.below (w' := w4) hb4.block).mono hb4.size)
  have HM_4 := Lib.hid ((HM_3.out.below (w' := w4) hb4.block).mono hb4.size)
  have HS1_4 := Lib.hid (HS1_3.out.below hb4)
  have hs4 := hb4.size
  have HB_4 := Lib.hid (HB_3.out.trans (hb4.mono HB_3.out.size))
  clear hb4
  go_wp2_with fail
  refine (Hs.out us1 He1.out _ _ _ _ HS1_4.out.rd (RdMarks.of_own HN1_4.out Hi.out) (Nat.le_refl _)).mono ?_
  rintro e w5 ⟨rfl, hb5⟩
  have HA_5 := Lib.hid ((HA_4.out.below (w' := w5) hb5.block).mono hb5.size)
  have HM_5 := Lib.hid ((HM_4.out.below (w' := w5) hb5.block).mono hb5.size)
  have HS1_5 := Lib.hid (HS1_4.out.below hb5)
  have HN1_5 := Lib.hid (own_below HN1_4.out hb5)
  have hs5 := hb5.size
  have HB_5 := Lib.hid (HB_4.out.trans (hb5.mono HB_4.out.size))
  clear hb5
  go_wp2_with fail
  refine (toClaimS z1 hlq Hlm.out _ _ _ HA_5.out (Nat.le_refl _)).mono ?_
  rintro e w6 ⟨v2, us2, rfl, he2, hst2, hb6⟩
  have HS2_6 := Lib.hid hst2
  have He2 := Lib.hid he2
  clear hst2 he2
  have HA_6 := Lib.hid ((HA_5.out.below (w' := w6) hb6.block).mono hb6.size)
  have HM_6 := Lib.hid ((HM_5.out.below (w' := w6) hb6.block).mono hb6.size)
  have hs6 := hb6.size
  have HB_6 := Lib.hid (HB_5.out.trans (hb6.mono HB_5.out.size))
  clear hb6
  go_wp2_with fail
  refine (toMarkS z2 hlz _ _ _ HM_6.out (Nat.le_refl _)).mono ?_
  rintro e w7 ⟨m2, rfl, ho2, hb7⟩
  have HN2_7 := Lib.hid ho2
  clear ho2
  have HA_7 := Lib.hid ((HA_6.out.below (w' := w7) hb7.block).mono hb7.size)
  have HM_7 := Lib.hid ((HM_6.out.below (w' := w7) hb7.block).mono hb7.size)
  have HS2_7 := Lib.hid (HS2_6.out.below hb7)
  have hs7 := hb7.size
  have HB_7 := Lib.hid (HB_6.out.trans (hb7.mono HB_6.out.size))
  clear hb7
  go_wp2_with fail
  refine (Hp.out us2 He2.out _ _ _ _ HS2_7.out.rd (RdMarks.of_own HN2_7.out Hi.out) (Nat.le_refl _)).mono ?_
  rintro e w8 ⟨rfl, hb8⟩
  have HA_8 := Lib.hid ((HA_7.out.below (w' := w8) hb8.block).mono hb8.size)
  have HM_8 := Lib.hid ((HM_7.out.below (w' := w8) hb8.block).mono hb8.size)
  have HS2_8 := Lib.hid (HS2_7.out.below hb8)
  have HN2_8 := Lib.hid (own_below HN2_7.out hb8)
  have hs8 := hb8.size
  have HB_8 := Lib.hid (HB_7.out.trans (hb8.mono HB_7.out.size))
  clear hb8
  have hTT : (T != T) = false := by simp
  go_wp2_with fail
  refine (toClaimS z1 hlq Hlm.out _ _ _ HA_8.out (Nat.le_refl _)).mono ?_
  rintro e w9 ⟨v3, us3, rfl, he3, hst3, hb9⟩
  have HS3_9 := Lib.hid hst3
  have He3 := Lib.hid he3
  clear hst3 he3
  have HA_9 := Lib.hid ((HA_8.out.below (w' := w9) hb9.block).mono hb9.size)
  have HM_9 := Lib.hid ((HM_8.out.below (w' := w9) hb9.block).mono hb9.size)
  have HS2_9 := Lib.hid (HS2_8.out.below hb9)
  have HN2_9 := Lib.hid (own_below HN2_8.out hb9)
  have hs9 := hb9.size
  have HB_9 := Lib.hid (HB_8.out.trans (hb9.mono HB_8.out.size))
  clear hb9
  go_wp2_with fail
  refine (eqClaimS us2 us3 (He2.out.trans He3.out.symm) _ _ _ _ _ HS2_9.out.rd HS3_9.out.rd (Nat.le_refl _) (Nat.le_refl _)).mono ?_
  rintro e w10 ⟨rfl, hb10⟩
  have HA_10 := Lib.hid ((HA_9.out.below (w' := w10) hb10.block).mono hb10.size)
  have HM_10 := Lib.hid ((HM_9.out.below (w' := w10) hb10.block).mono hb10.size)
  have HS2_10 := Lib.hid (HS2_9.out.below hb10)
  have HN2_10 := Lib.hid (own_below HN2_9.out hb10)
  have HS3_10 := Lib.hid (HS3_9.out.below hb10)
  have hs10 := hb10.size
  have HB_10 := Lib.hid (HB_9.out.trans (hb10.mono HB_9.out.size))
  clear hb10
  go_wp2_with fail
  refine (toMarkS z2 hlz _ _ _ HM_10.out (Nat.le_refl _)).mono ?_
  rintro e w11 ⟨m3, rfl, ho3, hb11⟩
  have HN3_11 := Lib.hid ho3
  clear ho3
  have HA_11 := Lib.hid ((HA_10.out.below (w' := w11) hb11.block).mono hb11.size)
  have HM_11 := Lib.hid ((HM_10.out.below (w' := w11) hb11.block).mono hb11.size)
  have HN2_11 := Lib.hid (own_below HN2_10.out hb11)
  have hs11 := hb11.size
  have HB_11 := Lib.hid (HB_10.out.trans (hb11.mono HB_10.out.size))
  clear hb11
  go_wp2_with fail
  refine (eqMarkS z2 z2 _ _ _ _ _ (RdMarks.of_own HN2_11.out Hi.out) (RdMarks.of_own HN3_11.out Hi.out) (Nat.le_refl _) (Nat.le_refl _)).mono ?_
  rintro e w12 ⟨rfl, hb12⟩
  rw [show decide (z2 = z2) = true from by simp]
  have HA_12 := Lib.hid ((HA_11.out.below (w' := w12) hb12.block).mono hb12.size)
  have HM_12 := Lib.hid ((HM_11.out.below (w' := w12) hb12.block).mono hb12.size)
  have HN2_12 := Lib.hid (own_below HN2_11.out hb12)
  have HN3_12 := Lib.hid (own_below HN3_11.out hb12)
  have hs12 := hb12.size
  have HB_12 := Lib.hid (HB_11.out.trans (hb12.mono HB_11.out.size))
  clear hb12
  go_wp2
  go_ret
  exact ⟨rfl, HB_12.out⟩

set_option maxRecDepth 100000 in
theorem lifted (os : Os) (started : os.Started) (H : Type) (enc : TypeId × Value → H) :
    ReturnsInHanded {} Try.checked os 3 .any (Rows.fnExactFollowsFromSpec.pre6 enc Try.prog Try.f3 Rows.fnExactFollowsFromRow.domain false) (Rows.fnExactFollowsFromSpec.post enc Try.prog Try.f3 false true false false) := by
  refine returnsInHanded_of_change (C := Try.checked) Try.own started (by kernel_rfl) Try.func3
    (ChangeSpec.witness6 (enc := enc) (C := Try.checked) false ⟨#[], #[.int .i64 0, .slice none 0 0, .slice none 0 0], []⟩ 8 (by kernel_rfl) (by kernel_rfl) (by kernel_rfl) (by kernel_rfl)) ?_
  intro W base args ds gs before hval0 hW hcnd _
  have hval : ∀ (j : Nat) t v, Try.f3.params[j]? = some t → args[j]? = some v → Value.okWide Try.prog W .any base t v := hval0
  have hW' := hW
  obtain ⟨p, q, hA0, hV, rfl, hfz, hnd⟩ := hW
  have hA : DataW.TrodAll enc Try.prog W 0 (fun _ => true) true Try.f3.params.toList args.toList ds p := hA0
  rw [Try.params3] at hA hval
  obtain ⟨v0, vs0, d0, ds0, p0, q0, hargs, rfl, rfl, h0, r0⟩ := trodAll_cons hA
  obtain ⟨v1, vs1, d1, ds1, p1, q1, rfl, rfl, rfl, h1, r1⟩ := trodAll_cons r0
  obtain ⟨v2, vs2, d2, ds2, p2, q2, rfl, rfl, rfl, h2, r2⟩ := trodAll_cons r1
  obtain ⟨rfl, rfl, rfl⟩ := trodAll_nil r2
  obtain rfl : args = #[v0, v1, v2] := by cases args; simp_all
  obtain ⟨rfl, rfl⟩ := trodVars_none hV
  obtain ⟨a0, rfl, rfl, rfl, w0⟩ := open_int Try.underlying3 (hval 0 3 v0 rfl rfl) h0
  obtain ⟨a1, len1, cap1, rfl⟩ := okWide_slice Try.underlying22 (hval 1 22 v1 rfl rfl)
  have k1 := h1
  have lt1 : ∀ x ∈ p1, x.block < W.heap.size := by obtain ⟨m, hm⟩ := k1; exact DataW.trod_lt m _ _ _ hm
  obtain ⟨z1, e1, w1⟩ : ∃ qs, len1 = qs.length ∧ RdStory W W.heap.size (.slice a1 len1 cap1) qs := by
    obtain ⟨fuel, hf⟩ := h1
    exact open_story Try.underlying22 Try.underlying52 (by kernel_rfl) rfl rfl (by kernel_rfl) (by kernel_rfl) Try.underlying3 Try.underlying23 Try.underlying63 (by kernel_rfl) rfl rfl (by kernel_rfl) (by kernel_rfl) Try.underlying3 Try.underlying3 hf
  obtain ⟨a2, len2, cap2, rfl⟩ := okWide_slice Try.underlying23 (hval 2 23 v2 rfl rfl)
  have k2 := h2
  have lt2 : ∀ x ∈ p2, x.block < W.heap.size := by obtain ⟨m, hm⟩ := k2; exact DataW.trod_lt m _ _ _ hm
  obtain ⟨z2, w2⟩ : ∃ zs, IsMarks W a2 len2 cap2 zs := by
    obtain ⟨fuel, hf⟩ := h2
    exact open_marks Try.underlying23 Try.underlying63 (by kernel_rfl) rfl rfl (by kernel_rfl) (by kernel_rfl) Try.underlying3 Try.underlying3 hf
  clear hA0 hval0
  refine (walk a0 _ _ _ _ W w0 w1 (RdMarks.of_row w2)).mono fun e W' ⟨he, bel⟩ => ?_
  subst he
  exact ⟨_, rfl, _, _, _, [], _, [], hW', trodAll_mk1 (shut_bool Try.underlying4 _), (trodAll_cons_mk (shut_int Try.underlying3 w0) (trodAll_cons_mk (Below.trod Try.laidOut (by kernel_rfl) (of_decide_eq_true (by kernel_rfl)) k1 bel lt1) (trodAll_cons_mk (Below.trod Try.laidOut (by kernel_rfl) (of_decide_eq_true (by kernel_rfl)) k2 bel lt2) trodAll_mk0))), rfl, bel.frame _, fun h => by cases h⟩

theorem closed : joinedFacts Try.pinned.checked.prog 3 Try.f3 Rows.fnExactFollowsFromSpec Rows.fnExactFollowsFromRow = true := by
  unfold joinedFacts
  exact (and_tt (and_tt (and_tt (and_tt (and_tt (and_tt (and_tt (and_tt (and_tt (and_tt (and_tt (and_tt (and_tt (and_tt (and_tt (and_tt (and_tt (and_tt (and_tt (and_tt (and_tt (and_tt (and_tt (and_tt (and_tt (and_tt (and_tt (and_tt (and_tt (and_tt (and_tt (by kernel_rfl) (by kernel_rfl)) (by kernel_rfl)) (by kernel_rfl)) (by kernel_rfl)) (by kernel_rfl)) (by kernel_rfl)) (by kernel_rfl)) (by kernel_rfl)) (by kernel_rfl)) (by kernel_rfl)) (by kernel_rfl)) (by kernel_rfl)) (by kernel_rfl)) (by kernel_rfl)) (by kernel_rfl)) (by kernel_rfl)) (by kernel_rfl)) (by kernel_rfl)) (by kernel_rfl)) (by kernel_rfl)) (by kernel_rfl)) (by kernel_rfl)) (by kernel_rfl)) (by kernel_rfl)) Try.mayEnter0) (lifted_tt Try.lifts0 rfl)) (make_tt Try.make0 rfl)) (by kernel_rfl)) (by kernel_rfl)) (by kernel_rfl)) (by kernel_rfl))
theorem over : Rows.fnExactFollowsFromRow.holds Try.pinned (OpenSpec.ofChange Rows.fnExactFollowsFromSpec) :=
  OpenClaim.holds_of_wide 3 Try.f3 rfl rfl rfl rfl rfl rfl rfl ⟨rfl, rfl, rfl, rfl, rfl⟩ rfl rfl rfl rfl rfl (by kernel_rfl) Try.func3 closed
    (of_decide_eq_true (by kernel_rfl)) (by unfold Func.isWrapper; first | (rw [if_pos (by decide +kernel)]; kernel_rfl) | (rw [if_neg (by decide +kernel)]; exact ⟨rfl, rfl⟩))
    (fun os started H enc _ => lifted os started H enc)

theorem proved : Rows.FnExactFollowsFromSaid := over
end Go.Proofs.Ytefmoljipbbmmaa.fnExactFollowsFrom

