/- Exact laws of stage 12: links that are some, and how many worlds. No condition. -/
import Derived.Test.YtngkgdoefpgnoaaMerged19
import Derived.Test.YtngkgdoefpgnoaaMerged17
import Derived.Test.YtngkgdoefpgnoaaMerged20
import Derived.Test.YtngkgdoefpgnoaaMerged4
import Derived.Deep.RegionHeld3
import Derived.Deep.Cut
import Derived.WalkKit
import Derived.ProofKit
namespace Go.Proofs.Ytngkgdoefpgnoaa.fnExactLinksOk
open Go.ChangeShapes Go.WideShapes Go.ChangeAt Go.RowKit Go.Joins
attribute [local irreducible] holds tabN tabV holdsV sameV followsV alwaysV matterV mirV mirOk mcells tmOf claimOk mayT mayV ctabV ctabN storyV storyOk storyN storyT ctermV ctermL denyV denyOk ccells linksOk linkS linkC grpF grpL lwV lcells lay laidC ctot
open Go.ChangeMaps (open_string shut_string)
set_option linter.unusedVariables false
set_option maxRecDepth 100000 in
set_option maxHeartbeats 8000000 in
theorem walk (a0 : Int) (a1 : Value) (z1 : List Lk) (w : World) (w0 : (Lit.int .i64 a0).wf = true) (w1 : RdLinks w w.heap.size a1 z1) :
    Calls Try.prog 4 #[.int .i64 a0, a1] w fun e w' => e = .returned (.bool true) ∧ Below w.heap.size w w' := by
  have HA := Lib.hid w1
  obtain ⟨mo, mc, rfl, hmn⟩ : ∃ mo mc, a1 = .slice mo z1.length mc ∧ (z1.length : Int) ≤ 9223372036854775807 := by
    obtain ⟨a, c, h1, h2, h3, _⟩ := w1
    unfold maxLen at h3
    exact ⟨a, c, h1, by omega⟩
  have Hl64 := Lib.hid w1.l64
  clear w1
  have hs := fun B v W h => specLinksOk a0 z1 B v W h
  have hp := fun B v W h h2 => implLinksOk a0 z1 B v W h h2
  generalize linksOk a0 z1 = T at *
  have Hs := Lib.hid hs
  have Hp := Lib.hid hp
  clear hs hp
  obtain ⟨w1, rfl⟩ : ∃ w1 : World, w1 = w := ⟨_, rfl⟩
  have HB_1 := Lib.hid (Below.refl w1.heap.size w1)
  have HA_1 := HA
  go_enter Try.func4, Try.ntmps4
  go_wp2_with fail
  refine (szLinkS mo z1.length mc 1048576 hmn (by omega) (by omega) _).mono ?_
  rintro e w' ⟨⟨r, rfl, hrr⟩, rfl⟩
  by_cases hnegr : r < 0
  case pos =>
    clear hrr
    go_wp2
    go_ret
    exact ⟨rfl, HB_1.out⟩
  have hrr3 : 0 ≤ r ∧ r ≤ 1048576 ∧ z1.length ≤ 1048576 := by
    rcases hrr with h | h
    · omega
    · exact h
  obtain ⟨hr20, _, hlz⟩ := hrr3
  clear hrr
  go_wp2_with fail
  refine (toLinkS z1 hlz _ _ _ HA_1.out (Nat.le_refl _)).mono ?_
  rintro e w2 ⟨m1, rfl, ho1, hb2⟩
  have HN1_2 := Lib.hid ho1
  clear ho1
  have HA_2 := Lib.hid ((HA_1.out.below (w' := w2) hb2.block).mono hb2.size)
  have hs2 := hb2.size
  have HB_2 := Lib.hid (HB_1.out.trans (hb2.mono HB_1.out.size))
  clear hb2
  go_wp2_with fail
  refine (Hs.out _ _ _ (RdLinks.of_own HN1_2.out Hl64.out)).mono ?_
  rintro e w' ⟨rfl, rfl⟩
  go_wp2_with fail
  refine (toLinkS z1 hlz _ _ _ HA_2.out (Nat.le_refl _)).mono ?_
  rintro e w3 ⟨m2, rfl, ho2, hb3⟩
  have HN2_3 := Lib.hid ho2
  clear ho2
  have HA_3 := Lib.hid ((HA_2.out.below (w' := w3) hb3.block).mono hb3.size)
  have hs3 := hb3.size
  have HB_3 := Lib.hid (HB_2.out.trans (hb3.mono HB_2.out.size))
  clear hb3
  go_wp2_with fail
  refine (Hp.out _ _ _ (RdLinks.of_own HN2_3.out Hl64.out) (Nat.le_refl _)).mono ?_
  rintro e w4 ⟨rfl, hb4⟩
  have HA_4 := Lib.hid ((HA_3.out.below (w' := w4) hb4.block).mono hb4.size)
  have HN2_4 := Lib.hid (own_below HN2_3.out hb4)
  have hs4 := hb4.size
  have HB_4 := Lib.hid (HB_3.out.trans (hb4.mono HB_3.out.size))
  clear hb4
  have hTT : (T != T) = false := by simp
  go_wp2_with fail
  refine (toLinkS z1 hlz _ _ _ HA_4.out (Nat.le_refl _)).mono ?_
  rintro e w5 ⟨m3, rfl, ho3, hb5⟩
  have HN3_5 := Lib.hid ho3
  clear ho3
  have HA_5 := Lib.hid ((HA_4.out.below (w' := w5) hb5.block).mono hb5.size)
  have HN2_5 := Lib.hid (own_below HN2_4.out hb5)
  have hs5 := hb5.size
  have HB_5 := Lib.hid (HB_4.out.trans (hb5.mono HB_4.out.size))
  clear hb5
  go_wp2_with fail
  refine (eqLinkS z1 _ _ _ _ _ (RdLinks.of_own HN2_5.out Hl64.out) (RdLinks.of_own HN3_5.out Hl64.out) (Nat.le_refl _) (Nat.le_refl _)).mono ?_
  rintro e w6 ⟨rfl, hb6⟩
  have HA_6 := Lib.hid ((HA_5.out.below (w' := w6) hb6.block).mono hb6.size)
  have HN2_6 := Lib.hid (own_below HN2_5.out hb6)
  have HN3_6 := Lib.hid (own_below HN3_5.out hb6)
  have hs6 := hb6.size
  have HB_6 := Lib.hid (HB_5.out.trans (hb6.mono HB_5.out.size))
  clear hb6
  go_wp2
  go_ret
  exact ⟨rfl, HB_6.out⟩

set_option maxRecDepth 100000 in
theorem lifted (os : Os) (started : os.Started) (H : Type) (enc : TypeId × Value → H) :
    ReturnsInHanded {} Try.checked os 4 .any (Rows.fnExactLinksOkSpec.pre6 enc Try.prog Try.f4 Rows.fnExactLinksOkRow.domain false) (Rows.fnExactLinksOkSpec.post enc Try.prog Try.f4 false true false false) := by
  refine returnsInHanded_of_change (C := Try.checked) Try.own started (by kernel_rfl) Try.func4
    (ChangeSpec.witness6 (enc := enc) (C := Try.checked) false ⟨#[], #[.int .i64 0, .slice none 0 0], []⟩ 8 (by kernel_rfl) (by kernel_rfl) (by kernel_rfl) (by kernel_rfl)) ?_
  intro W base args ds gs before hval0 hW hcnd _
  have hval : ∀ (j : Nat) t v, Try.f4.params[j]? = some t → args[j]? = some v → Value.okWide Try.prog W .any base t v := hval0
  have hW' := hW
  obtain ⟨p, q, hA0, hV, rfl, hfz, hnd⟩ := hW
  have hA : DataW.TrodAll enc Try.prog W 0 (fun _ => true) true Try.f4.params.toList args.toList ds p := hA0
  rw [Try.params4] at hA hval
  obtain ⟨v0, vs0, d0, ds0, p0, q0, hargs, rfl, rfl, h0, r0⟩ := trodAll_cons hA
  obtain ⟨v1, vs1, d1, ds1, p1, q1, rfl, rfl, rfl, h1, r1⟩ := trodAll_cons r0
  obtain ⟨rfl, rfl, rfl⟩ := trodAll_nil r1
  obtain rfl : args = #[v0, v1] := by cases args; simp_all
  obtain ⟨rfl, rfl⟩ := trodVars_none hV
  obtain ⟨a0, rfl, rfl, rfl, w0⟩ := open_int Try.underlying3 (hval 0 3 v0 rfl rfl) h0
  obtain ⟨a1, len1, cap1, rfl⟩ := okWide_slice Try.underlying34 (hval 1 34 v1 rfl rfl)
  have k1 := h1
  have lt1 : ∀ x ∈ p1, x.block < W.heap.size := by obtain ⟨m, hm⟩ := k1; exact DataW.trod_lt m _ _ _ hm
  obtain ⟨z1, e1, w1⟩ : ∃ ls, len1 = List.length ls ∧ RdLinks W W.heap.size (.slice a1 len1 cap1) ls := by
    obtain ⟨fuel, hf⟩ := h1
    exact open_links Try.underlying34 Try.underlying67 (by kernel_rfl) rfl rfl rfl (by kernel_rfl) (by kernel_rfl) (by kernel_rfl) Try.underlying3 Try.underlying3 Try.underlying4 hf
  clear hA0 hval0
  refine (walk a0 _ _ W w0 w1).mono fun e W' ⟨he, bel⟩ => ?_
  subst he
  exact ⟨_, rfl, _, _, _, [], _, [], hW', trodAll_mk1 (shut_bool Try.underlying4 _), (trodAll_cons_mk (shut_int Try.underlying3 w0) (trodAll_cons_mk (Below.trod Try.laidOut (by kernel_rfl) (of_decide_eq_true (by kernel_rfl)) k1 bel lt1) trodAll_mk0)), rfl, bel.frame _, fun h => by cases h⟩

theorem closed : joinedFacts Try.pinned.checked.prog 4 Try.f4 Rows.fnExactLinksOkSpec Rows.fnExactLinksOkRow = true := by
  unfold joinedFacts
  exact (and_tt (and_tt (and_tt (and_tt (and_tt (and_tt (and_tt (and_tt (and_tt (and_tt (and_tt (and_tt (and_tt (and_tt (and_tt (and_tt (and_tt (and_tt (and_tt (and_tt (and_tt (and_tt (and_tt (and_tt (and_tt (and_tt (and_tt (and_tt (and_tt (and_tt (and_tt (by kernel_rfl) (by kernel_rfl)) (by kernel_rfl)) (by kernel_rfl)) (by kernel_rfl)) (by kernel_rfl)) (by kernel_rfl)) (by kernel_rfl)) (by kernel_rfl)) (by kernel_rfl)) (by kernel_rfl)) (by kernel_rfl)) (by kernel_rfl)) (by kernel_rfl)) (by kernel_rfl)) (by kernel_rfl)) (by kernel_rfl)) (by kernel_rfl)) (by kernel_rfl)) (by kernel_rfl)) (by kernel_rfl)) (by kernel_rfl)) (by kernel_rfl)) (by kernel_rfl)) (by kernel_rfl)) Try.mayEnter0) (lifted_tt Try.lifts0 rfl)) (make_tt Try.make0 rfl)) (by kernel_rfl)) (by kernel_rfl)) (by kernel_rfl)) (by kernel_rfl))
theorem over : Rows.fnExactLinksOkRow.holds Try.pinned (OpenSpec.ofChange Rows.fnExactLinksOkSpec) :=
  OpenClaim.holds_of_wide 4 Try.f4 rfl rfl rfl rfl rfl rfl rfl ⟨rfl, rfl, rfl, rfl, rfl⟩ rfl rfl rfl rfl rfl (by kernel_rfl) Try.func4 closed
    (of_decide_eq_true (by kernel_rfl)) (by unfold Func.isWrapper; first | (rw [if_pos (by decide +kernel)]; kernel_rfl) | (rw [if_neg (by decide +kernel)]; exact ⟨rfl, rfl⟩))
    (fun os started H enc _ => lifted os started H enc)

theorem proved : Rows.FnExactLinksOkSaid := over
end Go.Proofs.Ytngkgdoefpgnoaa.fnExactLinksOk

namespace Go.Proofs.Ytngkgdoefpgnoaa.fnExactLinkWorlds
open Go.ChangeShapes Go.WideShapes Go.ChangeAt Go.RowKit Go.Joins
attribute [local irreducible] holds tabN tabV holdsV sameV followsV alwaysV matterV mirV mirOk mcells tmOf claimOk mayT mayV ctabV ctabN storyV storyOk storyN storyT ctermV ctermL denyV denyOk ccells linksOk linkS linkC grpF grpL lwV lcells lay laidC ctot
open Go.ChangeMaps (open_string shut_string)
set_option linter.unusedVariables false
set_option maxRecDepth 100000 in
set_option maxHeartbeats 8000000 in
theorem walk (a0 : Int) (a1 : Value) (z1 : List Lk) (w : World) (w0 : (Lit.int .i64 a0).wf = true) (w1 : RdLinks w w.heap.size a1 z1) :
    Calls Try.prog 7 #[.int .i64 a0, a1] w fun e w' => e = .returned (.bool true) ∧ Below w.heap.size w w' := by
  have HA := Lib.hid w1
  obtain ⟨mo, mc, rfl, hmn⟩ : ∃ mo mc, a1 = .slice mo z1.length mc ∧ (z1.length : Int) ≤ 9223372036854775807 := by
    obtain ⟨a, c, h1, h2, h3, _⟩ := w1
    unfold maxLen at h3
    exact ⟨a, c, h1, by omega⟩
  have Hl64 := Lib.hid w1.l64
  clear w1
  have hs := fun B v W h h2 => specLinkWorlds a0 z1 B v W h h2
  have hp := fun B v W h h2 => implLinkWorlds a0 z1 B v W h h2
  generalize lwV a0 z1 = T at *
  have Hs := Lib.hid hs
  have Hp := Lib.hid hp
  clear hs hp
  obtain ⟨w1, rfl⟩ : ∃ w1 : World, w1 = w := ⟨_, rfl⟩
  have HB_1 := Lib.hid (Below.refl w1.heap.size w1)
  have HA_1 := HA
  go_enter Try.func7, Try.ntmps7
  go_wp2_with fail
  refine (szLinkS mo z1.length mc 1048576 hmn (by omega) (by omega) _).mono ?_
  rintro e w' ⟨⟨r, rfl, hrr⟩, rfl⟩
  by_cases hnegr : r < 0
  case pos =>
    clear hrr
    go_wp2
    go_ret
    exact ⟨rfl, HB_1.out⟩
  have hrr3 : 0 ≤ r ∧ r ≤ 1048576 ∧ z1.length ≤ 1048576 := by
    rcases hrr with h | h
    · omega
    · exact h
  obtain ⟨hr20, _, hlz⟩ := hrr3
  clear hrr
  go_wp2_with fail
  refine (toLinkS z1 hlz _ _ _ HA_1.out (Nat.le_refl _)).mono ?_
  rintro e w2 ⟨m1, rfl, ho1, hb2⟩
  have HN1_2 := Lib.hid ho1
  clear ho1
  have HA_2 := Lib.hid ((HA_1.out.below (w' := w2) hb2.block).mono hb2.size)
  have hs2 := hb2.size
  have HB_2 := Lib.hid (HB_1.out.trans (hb2.mono HB_1.out.size))
  clear hb2
  go_wp2_with fail
  refine (Hs.out _ _ _ (RdLinks.of_own HN1_2.out Hl64.out) (Nat.le_refl _)).mono ?_
  rintro e w3 ⟨rfl, hb3⟩
  have HA_3 := Lib.hid ((HA_2.out.below (w' := w3) hb3.block).mono hb3.size)
  have HN1_3 := Lib.hid (own_below HN1_2.out hb3)
  have hs3 := hb3.size
  have HB_3 := Lib.hid (HB_2.out.trans (hb3.mono HB_2.out.size))
  clear hb3
  go_wp2_with fail
  refine (toLinkS z1 hlz _ _ _ HA_3.out (Nat.le_refl _)).mono ?_
  rintro e w4 ⟨m2, rfl, ho2, hb4⟩
  have HN2_4 := Lib.hid ho2
  clear ho2
  have HA_4 := Lib.hid ((HA_3.out.below (w' := w4) hb4.block).mono hb4.size)
  have hs4 := hb4.size
  have HB_4 := Lib.hid (HB_3.out.trans (hb4.mono HB_3.out.size))
  clear hb4
  go_wp2_with fail
  refine (Hp.out _ _ _ (RdLinks.of_own HN2_4.out Hl64.out) (Nat.le_refl _)).mono ?_
  rintro e w5 ⟨rfl, hb5⟩
  have HA_5 := Lib.hid ((HA_4.out.below (w' := w5) hb5.block).mono hb5.size)
  have HN2_5 := Lib.hid (own_below HN2_4.out hb5)
  have hs5 := hb5.size
  have HB_5 := Lib.hid (HB_4.out.trans (hb5.mono HB_4.out.size))
  clear hb5
  have hTT : (T != T) = false := by simp
  go_wp2_with fail
  refine (toLinkS z1 hlz _ _ _ HA_5.out (Nat.le_refl _)).mono ?_
  rintro e w6 ⟨m3, rfl, ho3, hb6⟩
  have HN3_6 := Lib.hid ho3
  clear ho3
  have HA_6 := Lib.hid ((HA_5.out.below (w' := w6) hb6.block).mono hb6.size)
  have HN2_6 := Lib.hid (own_below HN2_5.out hb6)
  have hs6 := hb6.size
  have HB_6 := Lib.hid (HB_5.out.trans (hb6.mono HB_5.out.size))
  clear hb6
  go_wp2_with fail
  refine (eqLinkS z1 _ _ _ _ _ (RdLinks.of_own HN2_6.out Hl64.out) (RdLinks.of_own HN3_6.out Hl64.out) (Nat.le_refl _) (Nat.le_refl _)).mono ?_
  rintro e w7 ⟨rfl, hb7⟩
  have HA_7 := Lib.hid ((HA_6.out.below (w' := w7) hb7.block).mono hb7.size)
  have HN2_7 := Lib.hid (own_below HN2_6.out hb7)
  have HN3_7 := Lib.hid (own_below HN3_6.out hb7)
  have hs7 := hb7.size
  have HB_7 := Lib.hid (HB_6.out.trans (hb7.mono HB_6.out.size))
  clear hb7
  go_wp2
  go_ret
  exact ⟨rfl, HB_7.out⟩

set_option maxRecDepth 100000 in
theorem lifted (os : Os) (started : os.Started) (H : Type) (enc : TypeId × Value → H) :
    ReturnsInHanded {} Try.checked os 7 .any (Rows.fnExactLinkWorldsSpec.pre6 enc Try.prog Try.f7 Rows.fnExactLinkWorldsRow.domain false) (Rows.fnExactLinkWorldsSpec.post enc Try.prog Try.f7 false true false false) := by
  refine returnsInHanded_of_change (C := Try.checked) Try.own started (by kernel_rfl) Try.func7
    (ChangeSpec.witness6 (enc := enc) (C := Try.checked) false ⟨#[], #[.int .i64 0, .slice none 0 0], []⟩ 8 (by kernel_rfl) (by kernel_rfl) (by kernel_rfl) (by kernel_rfl)) ?_
  intro W base args ds gs before hval0 hW hcnd _
  have hval : ∀ (j : Nat) t v, Try.f7.params[j]? = some t → args[j]? = some v → Value.okWide Try.prog W .any base t v := hval0
  have hW' := hW
  obtain ⟨p, q, hA0, hV, rfl, hfz, hnd⟩ := hW
  have hA : DataW.TrodAll enc Try.prog W 0 (fun _ => true) true Try.f7.params.toList args.toList ds p := hA0
  rw [Try.params7] at hA hval
  obtain ⟨v0, vs0, d0, ds0, p0, q0, hargs, rfl, rfl, h0, r0⟩ := trodAll_cons hA
  obtain ⟨v1, vs1, d1, ds1, p1, q1, rfl, rfl, rfl, h1, r1⟩ := trodAll_cons r0
  obtain ⟨rfl, rfl, rfl⟩ := trodAll_nil r1
  obtain rfl : args = #[v0, v1] := by cases args; simp_all
  obtain ⟨rfl, rfl⟩ := trodVars_none hV
  obtain ⟨a0, rfl, rfl, rfl, w0⟩ := open_int Try.underlying3 (hval 0 3 v0 rfl rfl) h0
  obtain ⟨a1, len1, cap1, rfl⟩ := okWide_slice Try.underlying34 (hval 1 34 v1 rfl rfl)
  have k1 := h1
  have lt1 : ∀ x ∈ p1, x.block < W.heap.size := by obtain ⟨m, hm⟩ := k1; exact DataW.trod_lt m _ _ _ hm
  obtain ⟨z1, e1, w1⟩ : ∃ ls, len1 = List.length ls ∧ RdLinks W W.heap.size (.slice a1 len1 cap1) ls := by
    obtain ⟨fuel, hf⟩ := h1
    exact open_links Try.underlying34 Try.underlying67 (by kernel_rfl) rfl rfl rfl (by kernel_rfl) (by kernel_rfl) (by kernel_rfl) Try.underlying3 Try.underlying3 Try.underlying4 hf
  clear hA0 hval0
  refine (walk a0 _ _ W w0 w1).mono fun e W' ⟨he, bel⟩ => ?_
  subst he
  exact ⟨_, rfl, _, _, _, [], _, [], hW', trodAll_mk1 (shut_bool Try.underlying4 _), (trodAll_cons_mk (shut_int Try.underlying3 w0) (trodAll_cons_mk (Below.trod Try.laidOut (by kernel_rfl) (of_decide_eq_true (by kernel_rfl)) k1 bel lt1) trodAll_mk0)), rfl, bel.frame _, fun h => by cases h⟩

theorem closed : joinedFacts Try.pinned.checked.prog 7 Try.f7 Rows.fnExactLinkWorldsSpec Rows.fnExactLinkWorldsRow = true := by
  unfold joinedFacts
  exact (and_tt (and_tt (and_tt (and_tt (and_tt (and_tt (and_tt (and_tt (and_tt (and_tt (and_tt (and_tt (and_tt (and_tt (and_tt (and_tt (and_tt (and_tt (and_tt (and_tt (and_tt (and_tt (and_tt (and_tt (and_tt (and_tt (and_tt (and_tt (and_tt (and_tt (and_tt (by kernel_rfl) (by kernel_rfl)) (by kernel_rfl)) (by kernel_rfl)) (by kernel_rfl)) (by kernel_rfl)) (by kernel_rfl)) (by kernel_rfl)) (by kernel_rfl)) (by kernel_rfl)) (by kernel_rfl)) (by kernel_rfl)) (by kernel_rfl)) (by kernel_rfl)) (by kernel_rfl)) (by kernel_rfl)) (by kernel_rfl)) (by kernel_rfl)) (by kernel_rfl)) (by kernel_rfl)) (by kernel_rfl)) (by kernel_rfl)) (by kernel_rfl)) (by kernel_rfl)) (by kernel_rfl)) Try.mayEnter0) (lifted_tt Try.lifts0 rfl)) (make_tt Try.make0 rfl)) (by kernel_rfl)) (by kernel_rfl)) (by kernel_rfl)) (by kernel_rfl))
theorem over : Rows.fnExactLinkWorldsRow.holds Try.pinned (OpenSpec.ofChange Rows.fnExactLinkWorldsSpec) :=
  OpenClaim.holds_of_wide 7 Try.f7 rfl rfl rfl rfl rfl rfl rfl ⟨rfl, rfl, rfl, rfl, rfl⟩ rfl rfl rfl rfl rfl (by kernel_rfl) Try.func7 closed
    (of_decide_eq_true (by kernel_rfl)) (by unfold Func.isWrapper; first | (rw [if_pos (by decide +kernel)]; kernel_rfl) | (rw [if_neg (by decide +kernel)]; exact ⟨rfl, rfl⟩))
    (fun os started H enc _ => lifted os started H enc)

theorem proved : Rows.FnExactLinkWorldsSaid := over
end Go.Proofs.Ytngkgdoefpgnoaa.fnExactLinkWorlds

