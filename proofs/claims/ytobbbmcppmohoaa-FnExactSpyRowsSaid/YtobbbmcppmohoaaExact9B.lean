/- Exact laws of stage 9: the fewest spies of a story, and how many rows of kinds there are. No condition. -/
import Derived.Test.YtobbbmcppmohoaaSpyI
import Derived.Test.YtobbbmcppmohoaaOneS
import Derived.Test.YtobbbmcppmohoaaClaimG
import Derived.Test.YtobbbmcppmohoaaFrameC
namespace Go.Proofs.Ytobbbmcppmohoaa
open Go.RowKit
theorem RdStory.keptFewestSpies {w w' : World} {v : Value} {qs : List QC} (h : RdStory w w.heap.size v qs) (hb : Below w.heap.size w w') : RdStory w' w'.heap.size v qs := (h.below hb.block).mono hb.size
theorem FewestSpies_spec (p : Int) (us zs : List QC) (he : us.map (·.2) = zs.map (·.2)) (B : Nat) (v : Value) (w : World) (hr : RdStory w B v us) (hB : B ≤ w.heap.size) :
    Calls Try.prog 40 #[.int .i64 p, v] w fun e w' => e = .returned (.int .i64 (fewV p (zs.map (·.2)))) ∧ Below w.heap.size w w' := by
  rw [← he]
  exact specFewestSpies p us B v w hr hB
theorem FewestSpies_impl (p : Int) (us zs : List QC) (he : us.map (·.2) = zs.map (·.2)) (B : Nat) (v : Value) (w : World) (hr : RdStory w B v us) (hB : B ≤ w.heap.size) :
    Calls Try.prog 39 #[.int .i64 p, v] w fun e w' => e = .returned (.int .i64 (fewV p (zs.map (·.2)))) ∧ Below w.heap.size w w' := by
  rw [← he]
  exact implFewestSpies p us B v w hr hB
end Go.Proofs.Ytobbbmcppmohoaa
namespace Go.Proofs.Ytobbbmcppmohoaa.fnExactFewestSpies
open Go.ChangeShapes Go.WideShapes Go.ChangeAt Go.RowKit
attribute [local irreducible] holds tabN tabV holdsV sameV followsV alwaysV matterV claimOk mayT mayV ctabV ctabN storyV storyOk storyN storyT ctermV ctermL saysT saysV spyT spyV kindsOk kwN kwV tabF kRow spiesN fewF rowsF fewV rowsV mcells tmOf ccells
open Go.ChangeMaps (open_string shut_string)
set_option linter.unusedVariables false
set_option maxRecDepth 100000 in
set_option maxHeartbeats 4000000 in
theorem walk (a0 : Int) (a1 : Value) (z1 : List QC) (w : World) (w0 : (Lit.int .i64 a0).wf = true) (w1 : RdStory w w.heap.size a1 z1) :
    Calls Try.prog 14 #[.int .i64 a0, a1] w fun e w' => e = .returned (.bool true) ∧ Below w.heap.size w w' := by
  have Hr := Lib.hid w1
  have hs := fun us (he : us.map (·.2) = z1.map (·.2)) B u W h h2 => FewestSpies_spec a0 us z1 he B u W h h2
  have hp := fun us (he : us.map (·.2) = z1.map (·.2)) B u W h h2 => FewestSpies_impl a0 us z1 he B u W h h2
  generalize fewV a0 (z1.map (·.2)) = T at *
  have Hs := Lib.hid hs
  have Hp := Lib.hid hp
  clear hs hp w1
  go_enter Try.func14, Try.ntmps14
  go_wp2_with fail
  refine (szClaimS z1 _ _ _ Hr.out (Nat.le_refl _)).mono ?_
  rintro e w2 ⟨⟨r, rfl, hrr⟩, hb2⟩
  have hB2 : Below w.heap.size w w2 := hb2
  have HR2 := Lib.hid (Hr.out.keptFewestSpies hB2)
  clear hb2
  by_cases hneg : r < 0
  case pos =>
    clear hrr
    go_wp2
    go_ret
    exact ⟨rfl, hB2⟩
  have hrr2 : 0 ≤ r ∧ z1.length ≤ 1048576 ∧ ∀ j, j < z1.length → (z1.getD j qc0).2.2.length ≤ 1048576 := by
    rcases hrr with h | h
    · omega
    · exact h
  obtain ⟨_, hlq, hlm⟩ := hrr2
  have Hlm := Lib.hid hlm
  clear hrr hlm
  go_wp2_with fail
  refine (toClaimS z1 hlq Hlm.out _ _ _ HR2.out (Nat.le_refl _)).mono ?_
  rintro e w3 ⟨v1, us1, rfl, he1, hst1, hb3⟩
  have HS1_3 := Lib.hid hst1
  have He1 := Lib.hid he1
  clear hst1 he1
  have hB3 : Below w.heap.size w w3 := hB2.trans (hb3.mono hB2.size)
  have HR3 := Lib.hid (Hr.out.keptFewestSpies hB3)
  clear hb3
  go_wp2_with fail
  refine (Hs.out us1 He1.out _ _ _ HS1_3.out.rd (Nat.le_refl _)).mono ?_
  rintro e w4 ⟨rfl, hb4⟩
  have hB4 : Below w.heap.size w w4 := hB3.trans (hb4.mono hB3.size)
  have HR4 := Lib.hid (Hr.out.keptFewestSpies hB4)
  clear hb4
  go_wp2_with fail
  refine (toClaimS z1 hlq Hlm.out _ _ _ HR4.out (Nat.le_refl _)).mono ?_
  rintro e w5 ⟨v2, us2, rfl, he2, hst2, hb5⟩
  have HS2_5 := Lib.hid hst2
  have He2 := Lib.hid he2
  clear hst2 he2
  have hB5 : Below w.heap.size w w5 := hB4.trans (hb5.mono hB4.size)
  have HR5 := Lib.hid (Hr.out.keptFewestSpies hB5)
  clear hb5
  go_wp2_with fail
  refine (Hp.out us2 He2.out _ _ _ HS2_5.out.rd (Nat.le_refl _)).mono ?_
  rintro e w6 ⟨rfl, hb6⟩
  have hB6 : Below w.heap.size w w6 := hB5.trans (hb6.mono hB5.size)
  have HR6 := Lib.hid (Hr.out.keptFewestSpies hB6)
  have HS2_6 := Lib.hid (HS2_5.out.below hb6)
  clear hb6
  go_wp2_with fail
  refine (toClaimS z1 hlq Hlm.out _ _ _ HR6.out (Nat.le_refl _)).mono ?_
  rintro e w7 ⟨v3, us3, rfl, he3, hst3, hb7⟩
  have HS3_7 := Lib.hid hst3
  have He3 := Lib.hid he3
  clear hst3 he3
  have hB7 : Below w.heap.size w w7 := hB6.trans (hb7.mono hB6.size)
  have HR7 := Lib.hid (Hr.out.keptFewestSpies hB7)
  have HS2_7 := Lib.hid (HS2_6.out.below hb7)
  clear hb7
  go_wp2_with fail
  refine (eqClaimS us2 us3 (He2.out.trans He3.out.symm) _ _ _ _ _ HS2_7.out.rd HS3_7.out.rd (Nat.le_refl _) (Nat.le_refl _)).mono ?_
  rintro e w8 ⟨rfl, hb8⟩
  have hB8 : Below w.heap.size w w8 := hB7.trans (hb8.mono hB7.size)
  clear hb8
  go_wp2
  go_ret
  exact ⟨rfl, hB8⟩

set_option maxRecDepth 100000 in
theorem lifted (os : Os) (started : os.Started) (H : Type) (enc : TypeId × Value → H) :
    ReturnsInHanded {} Try.checked os 14 .any (Rows.fnExactFewestSpiesSpec.pre6 enc Try.prog Try.f14 Rows.fnExactFewestSpiesRow.domain false) (Rows.fnExactFewestSpiesSpec.post enc Try.prog Try.f14 false true false false) := by
  refine returnsInHanded_of_change (C := Try.checked) Try.own started (by kernel_rfl) Try.func14
    (ChangeSpec.witness6 (enc := enc) (C := Try.checked) false ⟨#[], #[.int .i64 0, .slice none 0 0], []⟩ 8 (by kernel_rfl) (by kernel_rfl) (by kernel_rfl) (by kernel_rfl)) ?_
  intro W base args ds gs before hval0 hW hcnd _
  have hval : ∀ (j : Nat) t v, Try.f14.params[j]? = some t → args[j]? = some v → Value.okWide Try.prog W .any base t v := hval0
  have hW' := hW
  obtain ⟨p, q, hA0, hV, rfl, hfz, hnd⟩ := hW
  have hA : DataW.TrodAll enc Try.prog W 0 (fun _ => true) true Try.f14.params.toList args.toList ds p := hA0
  rw [Try.params14] at hA hval
  obtain ⟨v0, vs0, d0, ds0, p0, q0, hargs, rfl, rfl, h0, r0⟩ := trodAll_cons hA
  obtain ⟨v1, vs1, d1, ds1, p1, q1, rfl, rfl, rfl, h1, r1⟩ := trodAll_cons r0
  obtain ⟨rfl, rfl, rfl⟩ := trodAll_nil r1
  obtain rfl : args = #[v0, v1] := by cases args; simp_all
  obtain ⟨rfl, rfl⟩ := trodVars_none hV
  obtain ⟨a0, rfl, rfl, rfl, w0⟩ := open_int Try.underlying3 (hval 0 3 v0 rfl rfl) h0
  obtain ⟨a1, len1, cap1, rfl⟩ := okWide_slice Try.underlying63 (hval 1 63 v1 rfl rfl)
  have k1 := h1
  have lt1 : ∀ x ∈ p1, x.block < W.heap.size := by obtain ⟨m, hm⟩ := k1; exact DataW.trod_lt m _ _ _ hm
  obtain ⟨z1, e1, w1⟩ : ∃ qs, len1 = qs.length ∧ RdStory W W.heap.size (.slice a1 len1 cap1) qs := by
    obtain ⟨fuel, hf⟩ := h1
    exact open_story Try.underlying63 Try.underlying58 (by kernel_rfl) rfl rfl (by kernel_rfl) (by kernel_rfl) Try.underlying3 Try.underlying56 Try.underlying106 (by kernel_rfl) rfl rfl (by kernel_rfl) (by kernel_rfl) Try.underlying3 Try.underlying3 hf
  clear hA0 hval0
  refine (walk a0 _ _ W w0 w1).mono fun e W' ⟨he, bel⟩ => ?_
  subst he
  exact ⟨_, rfl, _, _, _, [], _, [], hW', trodAll_mk1 (shut_bool Try.underlying4 _), (trodAll_cons_mk (shut_int Try.underlying3 w0) (trodAll_cons_mk (Below.trod Try.laidOut (by kernel_rfl) (of_decide_eq_true (by kernel_rfl)) k1 bel lt1) trodAll_mk0)), rfl, bel.frame _, fun h => by cases h⟩

theorem closed : joinedFacts Try.pinned.checked.prog 14 Try.f14 Rows.fnExactFewestSpiesSpec Rows.fnExactFewestSpiesRow = true := by
  unfold joinedFacts
  exact (and_tt (and_tt (and_tt (and_tt (and_tt (and_tt (and_tt (and_tt (and_tt (and_tt (and_tt (and_tt (and_tt (and_tt (and_tt (and_tt (and_tt (and_tt (and_tt (and_tt (and_tt (and_tt (and_tt (and_tt (and_tt (and_tt (and_tt (and_tt (and_tt (and_tt (and_tt (by kernel_rfl) (by kernel_rfl)) (by kernel_rfl)) (by kernel_rfl)) (by kernel_rfl)) (by kernel_rfl)) (by kernel_rfl)) (by kernel_rfl)) (by kernel_rfl)) (by kernel_rfl)) (by kernel_rfl)) (by kernel_rfl)) (by kernel_rfl)) (by kernel_rfl)) (by kernel_rfl)) (by kernel_rfl)) (by kernel_rfl)) (by kernel_rfl)) (by kernel_rfl)) (by kernel_rfl)) (by kernel_rfl)) (by kernel_rfl)) (by kernel_rfl)) (by kernel_rfl)) (by kernel_rfl)) Try.mayEnter0) (lifted_tt Try.lifts0 rfl)) (make_tt Try.make0 rfl)) (by kernel_rfl)) (by kernel_rfl)) (by kernel_rfl)) (by kernel_rfl))
theorem over : Rows.fnExactFewestSpiesRow.holds Try.pinned (OpenSpec.ofChange Rows.fnExactFewestSpiesSpec) :=
  OpenClaim.holds_of_wide 14 Try.f14 rfl rfl rfl rfl rfl rfl rfl ⟨rfl, rfl, rfl, rfl, rfl⟩ rfl rfl rfl rfl rfl (by kernel_rfl) Try.func14 closed
    (of_decide_eq_true (by kernel_rfl)) (by unfold Func.isWrapper; first | (rw [if_pos (by decide +kernel)]; kernel_rfl) | (rw [if_neg (by decide +kernel)]; exact ⟨rfl, rfl⟩))
    (fun os started H enc _ => lifted os started H enc)

theorem proved : Rows.FnExactFewestSpiesSaid := over
end Go.Proofs.Ytobbbmcppmohoaa.fnExactFewestSpies

namespace Go.Proofs.Ytobbbmcppmohoaa
open Go.RowKit
theorem RdStory.keptSpyRows {w w' : World} {v : Value} {qs : List QC} (h : RdStory w w.heap.size v qs) (hb : Below w.heap.size w w') : RdStory w' w'.heap.size v qs := (h.below hb.block).mono hb.size
theorem SpyRows_spec (p : Int) (q : Int) (us zs : List QC) (he : us.map (·.2) = zs.map (·.2)) (B : Nat) (v : Value) (w : World) (hr : RdStory w B v us) (hB : B ≤ w.heap.size) :
    Calls Try.prog 45 #[.int .i64 p, v, .int .i64 q] w fun e w' => e = .returned (.int .i64 (rowsV p (zs.map (·.2)) q)) ∧ Below w.heap.size w w' := by
  rw [← he]
  exact specSpyRows p q us B v w hr hB
theorem SpyRows_impl (p : Int) (q : Int) (us zs : List QC) (he : us.map (·.2) = zs.map (·.2)) (B : Nat) (v : Value) (w : World) (hr : RdStory w B v us) (hB : B ≤ w.heap.size) :
    Calls Try.prog 44 #[.int .i64 p, v, .int .i64 q] w fun e w' => e = .returned (.int .i64 (rowsV p (zs.map (·.2)) q)) ∧ Below w.heap.size w w' := by
  rw [← he]
  exact implSpyRows p q us B v w hr hB
end Go.Proofs.Ytobbbmcppmohoaa
namespace Go.Proofs.Ytobbbmcppmohoaa.fnExactSpyRows
open Go.ChangeShapes Go.WideShapes Go.ChangeAt Go.RowKit
attribute [local irreducible] holds tabN tabV holdsV sameV followsV alwaysV matterV claimOk mayT mayV ctabV ctabN storyV storyOk storyN storyT ctermV ctermL saysT saysV spyT spyV kindsOk kwN kwV tabF kRow spiesN fewF rowsF fewV rowsV mcells tmOf ccells
open Go.ChangeMaps (open_string shut_string)
set_option linter.unusedVariables false
set_option maxRecDepth 100000 in
set_option maxHeartbeats 4000000 in
theorem walk (a0 : Int) (a1 : Value) (z1 : List QC) (a2 : Int) (w : World) (w0 : (Lit.int .i64 a0).wf = true) (w1 : RdStory w w.heap.size a1 z1) (w2 : (Lit.int .i64 a2).wf = true) :
    Calls Try.prog 15 #[.int .i64 a0, a1, .int .i64 a2] w fun e w' => e = .returned (.bool true) ∧ Below w.heap.size w w' := by
  have Hr := Lib.hid w1
  have hs := fun us (he : us.map (·.2) = z1.map (·.2)) B u W h h2 => SpyRows_spec a0 a2 us z1 he B u W h h2
  have hp := fun us (he : us.map (·.2) = z1.map (·.2)) B u W h h2 => SpyRows_impl a0 a2 us z1 he B u W h h2
  generalize rowsV a0 (z1.map (·.2)) a2 = T at *
  have Hs := Lib.hid hs
  have Hp := Lib.hid hp
  clear hs hp w1
  go_enter Try.func15, Try.ntmps15
  go_wp2_with fail
  refine (szClaimS z1 _ _ _ Hr.out (Nat.le_refl _)).mono ?_
  rintro e w2 ⟨⟨r, rfl, hrr⟩, hb2⟩
  have hB2 : Below w.heap.size w w2 := hb2
  have HR2 := Lib.hid (Hr.out.keptSpyRows hB2)
  clear hb2
  by_cases hneg : r < 0
  case pos =>
    clear hrr
    go_wp2
    go_ret
    exact ⟨rfl, hB2⟩
  have hrr2 : 0 ≤ r ∧ z1.length ≤ 1048576 ∧ ∀ j, j < z1.length → (z1.getD j qc0).2.2.length ≤ 1048576 := by
    rcases hrr with h | h
    · omega
    · exact h
  obtain ⟨_, hlq, hlm⟩ := hrr2
  have Hlm := Lib.hid hlm
  clear hrr hlm
  go_wp2_with fail
  refine (toClaimS z1 hlq Hlm.out _ _ _ HR2.out (Nat.le_refl _)).mono ?_
  rintro e w3 ⟨v1, us1, rfl, he1, hst1, hb3⟩
  have HS1_3 := Lib.hid hst1
  have He1 := Lib.hid he1
  clear hst1 he1
  have hB3 : Below w.heap.size w w3 := hB2.trans (hb3.mono hB2.size)
  have HR3 := Lib.hid (Hr.out.keptSpyRows hB3)
  clear hb3
  go_wp2_with fail
  refine (Hs.out us1 He1.out _ _ _ HS1_3.out.rd (Nat.le_refl _)).mono ?_
  rintro e w4 ⟨rfl, hb4⟩
  have hB4 : Below w.heap.size w w4 := hB3.trans (hb4.mono hB3.size)
  have HR4 := Lib.hid (Hr.out.keptSpyRows hB4)
  clear hb4
  go_wp2_with fail
  refine (toClaimS z1 hlq Hlm.out _ _ _ HR4.out (Nat.le_refl _)).mono ?_
  rintro e w5 ⟨v2, us2, rfl, he2, hst2, hb5⟩
  have HS2_5 := Lib.hid hst2
  have He2 := Lib.hid he2
  clear hst2 he2
  have hB5 : Below w.heap.size w w5 := hB4.trans (hb5.mono hB4.size)
  have HR5 := Lib.hid (Hr.out.keptSpyRows hB5)
  clear hb5
  go_wp2_with fail
  refine (Hp.out us2 He2.out _ _ _ HS2_5.out.rd (Nat.le_refl _)).mono ?_
  rintro e w6 ⟨rfl, hb6⟩
  have hB6 : Below w.heap.size w w6 := hB5.trans (hb6.mono hB5.size)
  have HR6 := Lib.hid (Hr.out.keptSpyRows hB6)
  have HS2_6 := Lib.hid (HS2_5.out.below hb6)
  clear hb6
  go_wp2_with fail
  refine (toClaimS z1 hlq Hlm.out _ _ _ HR6.out (Nat.le_refl _)).mono ?_
  rintro e w7 ⟨v3, us3, rfl, he3, hst3, hb7⟩
  have HS3_7 := Lib.hid hst3
  have He3 := Lib.hid he3
  clear hst3 he3
  have hB7 : Below w.heap.size w w7 := hB6.trans (hb7.mono hB6.size)
  have HR7 := Lib.hid (Hr.out.keptSpyRows hB7)
  have HS2_7 := Lib.hid (HS2_6.out.below hb7)
  clear hb7
  go_wp2_with fail
  refine (eqClaimS us2 us3 (He2.out.trans He3.out.symm) _ _ _ _ _ HS2_7.out.rd HS3_7.out.rd (Nat.le_refl _) (Nat.le_refl _)).mono ?_
  rintro e w8 ⟨rfl, hb8⟩
  have hB8 : Below w.heap.size w w8 := hB7.trans (hb8.mono hB7.size)
  clear hb8
  go_wp2
  go_ret
  exact ⟨rfl, hB8⟩

set_option maxRecDepth 100000 in
theorem lifted (os : Os) (started : os.Started) (H : Type) (enc : TypeId × Value → H) :
    ReturnsInHanded {} Try.checked os 15 .any (Rows.fnExactSpyRowsSpec.pre6 enc Try.prog Try.f15 Rows.fnExactSpyRowsRow.domain false) (Rows.fnExactSpyRowsSpec.post enc Try.prog Try.f15 false true false false) := by
  refine returnsInHanded_of_change (C := Try.checked) Try.own started (by kernel_rfl) Try.func15
    (ChangeSpec.witness6 (enc := enc) (C := Try.checked) false ⟨#[], #[.int .i64 0, .slice none 0 0, .int .i64 0], []⟩ 8 (by kernel_rfl) (by kernel_rfl) (by kernel_rfl) (by kernel_rfl)) ?_
  intro W base args ds gs before hval0 hW hcnd _
  have hval : ∀ (j : Nat) t v, Try.f15.params[j]? = some t → args[j]? = some v → Value.okWide Try.prog W .any base t v := hval0
  have hW' := hW
  obtain ⟨p, q, hA0, hV, rfl, hfz, hnd⟩ := hW
  have hA : DataW.TrodAll enc Try.prog W 0 (fun _ => true) true Try.f15.params.toList args.toList ds p := hA0
  rw [Try.params15] at hA hval
  obtain ⟨v0, vs0, d0, ds0, p0, q0, hargs, rfl, rfl, h0, r0⟩ := trodAll_cons hA
  obtain ⟨v1, vs1, d1, ds1, p1, q1, rfl, rfl, rfl, h1, r1⟩ := trodAll_cons r0
  obtain ⟨v2, vs2, d2, ds2, p2, q2, rfl, rfl, rfl, h2, r2⟩ := trodAll_cons r1
  obtain ⟨rfl, rfl, rfl⟩ := trodAll_nil r2
  obtain rfl : args = #[v0, v1, v2] := by cases args; simp_all
  obtain ⟨rfl, rfl⟩ := trodVars_none hV
  obtain ⟨a0, rfl, rfl, rfl, w0⟩ := open_int Try.underlying3 (hval 0 3 v0 rfl rfl) h0
  obtain ⟨a1, len1, cap1, rfl⟩ := okWide_slice Try.underlying63 (hval 1 63 v1 rfl rfl)
  have k1 := h1
  have lt1 : ∀ x ∈ p1, x.block < W.heap.size := by obtain ⟨m, hm⟩ := k1; exact DataW.trod_lt m _ _ _ hm
  obtain ⟨z1, e1, w1⟩ : ∃ qs, len1 = qs.length ∧ RdStory W W.heap.size (.slice a1 len1 cap1) qs := by
    obtain ⟨fuel, hf⟩ := h1
    exact open_story Try.underlying63 Try.underlying58 (by kernel_rfl) rfl rfl (by kernel_rfl) (by kernel_rfl) Try.underlying3 Try.underlying56 Try.underlying106 (by kernel_rfl) rfl rfl (by kernel_rfl) (by kernel_rfl) Try.underlying3 Try.underlying3 hf
  obtain ⟨a2, rfl, rfl, rfl, w2⟩ := open_int Try.underlying3 (hval 2 3 v2 rfl rfl) h2
  clear hA0 hval0
  refine (walk a0 _ _ a2 W w0 w1 w2).mono fun e W' ⟨he, bel⟩ => ?_
  subst he
  exact ⟨_, rfl, _, _, _, [], _, [], hW', trodAll_mk1 (shut_bool Try.underlying4 _), (trodAll_cons_mk (shut_int Try.underlying3 w0) (trodAll_cons_mk (Below.trod Try.laidOut (by kernel_rfl) (of_decide_eq_true (by kernel_rfl)) k1 bel lt1) (trodAll_cons_mk (shut_int Try.underlying3 w2) trodAll_mk0))), rfl, bel.frame _, fun h => by cases h⟩

theorem closed : joinedFacts Try.pinned.checked.prog 15 Try.f15 Rows.fnExactSpyRowsSpec Rows.fnExactSpyRowsRow = true := by
  unfold joinedFacts
  exact (and_tt (and_tt (and_tt (and_tt (and_tt (and_tt (and_tt (and_tt (and_tt (and_tt (and_tt (and_tt (and_tt (and_tt (and_tt (and_tt (and_tt (and_tt (and_tt (and_tt (and_tt (and_tt (and_tt (and_tt (and_tt (and_tt (and_tt (and_tt (and_tt (and_tt (and_tt (by kernel_rfl) (by kernel_rfl)) (by kernel_rfl)) (by kernel_rfl)) (by kernel_rfl)) (by kernel_rfl)) (by kernel_rfl)) (by kernel_rfl)) (by kernel_rfl)) (by kernel_rfl)) (by kernel_rfl)) (by kernel_rfl)) (by kernel_rfl)) (by kernel_rfl)) (by kernel_rfl)) (by kernel_rfl)) (by kernel_rfl)) (by kernel_rfl)) (by kernel_rfl)) (by kernel_rfl)) (by kernel_rfl)) (by kernel_rfl)) (by kernel_rfl)) (by kernel_rfl)) (by kernel_rfl)) Try.mayEnter0) (lifted_tt Try.lifts0 rfl)) (make_tt Try.make0 rfl)) (by kernel_rfl)) (by kernel_rfl)) (by kernel_rfl)) (by kernel_rfl))
theorem over : Rows.fnExactSpyRowsRow.holds Try.pinned (OpenSpec.ofChange Rows.fnExactSpyRowsSpec) :=
  OpenClaim.holds_of_wide 15 Try.f15 rfl rfl rfl rfl rfl rfl rfl ⟨rfl, rfl, rfl, rfl, rfl⟩ rfl rfl rfl rfl rfl (by kernel_rfl) Try.func15 closed
    (of_decide_eq_true (by kernel_rfl)) (by unfold Func.isWrapper; first | (rw [if_pos (by decide +kernel)]; kernel_rfl) | (rw [if_neg (by decide +kernel)]; exact ⟨rfl, rfl⟩))
    (fun os started H enc _ => lifted os started H enc)

theorem proved : Rows.FnExactSpyRowsSaid := over
end Go.Proofs.Ytobbbmcppmohoaa.fnExactSpyRows

