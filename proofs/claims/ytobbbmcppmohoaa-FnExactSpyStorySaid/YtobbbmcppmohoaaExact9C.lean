/- Exact law of stage 9: whether a story may be told by kinds. No condition. -/
import Derived.Test.YtobbbmcppmohoaaSpyI
import Derived.Test.YtobbbmcppmohoaaHelpers
import Derived.Test.YtobbbmcppmohoaaOneS
import Derived.Test.YtobbbmcppmohoaaClaimG
import Derived.Test.YtobbbmcppmohoaaFrameC
namespace Go.Proofs.Ytobbbmcppmohoaa
open Go.RowKit
theorem RdStory.keptSpyStory {w w' : World} {v : Value} {qs : List QC} (h : RdStory w w.heap.size v qs) (hb : Below w.heap.size w w') : RdStory w' w'.heap.size v qs := (h.below hb.block).mono hb.size
theorem SpyStory_spec (ks : List Int) (us zs : List QC) (he : us.map (·.2) = zs.map (·.2)) (B : Nat) (a v : Value) (w : World) (hz : RdInts w B a ks) (hr : RdStory w B v us) (hB : B ≤ w.heap.size) :
    Calls Try.prog 33 #[a, v] w fun e w' => e = .returned (.bool (spyV ks (zs.map (·.2)))) ∧ Below w.heap.size w w' := by
  rw [← he]
  exact specSpyStory ks us B a v w hz hr hB
theorem SpyStory_impl (ks : List Int) (us zs : List QC) (he : us.map (·.2) = zs.map (·.2)) (B : Nat) (a v : Value) (w : World) (hz : RdInts w B a ks) (hr : RdStory w B v us) (hB : B ≤ w.heap.size) :
    Calls Try.prog 32 #[a, v] w fun e w' => e = .returned (.bool (spyV ks (zs.map (·.2)))) ∧ Below w.heap.size w w' := by
  rw [← he]
  exact implSpyStory ks us B a v w hz hr hB
end Go.Proofs.Ytobbbmcppmohoaa
namespace Go.Proofs.Ytobbbmcppmohoaa.fnExactSpyStory
open Go.ChangeShapes Go.WideShapes Go.ChangeAt Go.RowKit
attribute [local irreducible] holds tabN tabV holdsV sameV followsV alwaysV matterV claimOk mayT mayV ctabV ctabN storyV storyOk storyN storyT ctermV ctermL saysT saysV spyT spyV kindsOk kwN kwV tabF kRow spiesN fewF rowsF fewV rowsV mcells tmOf ccells
open Go.ChangeMaps (open_string shut_string)
set_option linter.unusedVariables false
set_option maxRecDepth 100000 in
set_option maxHeartbeats 4000000 in
theorem walk (a0 : Value) (z0 : List Int) (a1 : Value) (z1 : List QC) (w : World) (w0 : RdInts w w.heap.size a0 z0) (w1 : RdStory w w.heap.size a1 z1) :
    Calls Try.prog 13 #[a0, a1] w fun e w' => e = .returned (.bool true) ∧ Below w.heap.size w w' := by
  have hz := w0
  obtain ⟨zo, zc, rfl, hzl, hzm, hzc⟩ := w0
  unfold maxLen at hzm
  by_cases hlen : 1048576 < z0.length
  · have hlen' : (1048576 : Int) < (z0.length : Int) := by omega
    clear hlen hzc hz w1
    go_enter Try.func13, Try.ntmps13
    go_wp2
    go_ret
    exact ⟨rfl, Below.refl _ _⟩
  have hlen' : (z0.length : Int) ≤ 1048576 := by omega
  have hlen2 : z0.length ≤ 17592186044416 := by omega
  have Hz := Lib.hid hz
  clear hlen hzc hz hzl hzm
  have Hr := Lib.hid w1
  have hs := fun us (he : us.map (·.2) = z1.map (·.2)) B a u W h h1 h2 => SpyStory_spec z0 us z1 he B a u W h h1 h2
  have hp := fun us (he : us.map (·.2) = z1.map (·.2)) B a u W h h1 h2 => SpyStory_impl z0 us z1 he B a u W h h1 h2
  generalize spyV z0 (z1.map (·.2)) = T at *
  have Hs := Lib.hid hs
  have Hp := Lib.hid hp
  clear hs hp w1
  go_enter Try.func13, Try.ntmps13
  go_wp2_with fail
  refine (szClaimS z1 _ _ _ Hr.out (Nat.le_refl _)).mono ?_
  rintro e w2 ⟨⟨r, rfl, hrr⟩, hb2⟩
  have hB2 : Below w.heap.size w w2 := hb2
  clear hb2
  by_cases hneg : r < 0
  case pos =>
    clear hrr
    go_wp2
    go_ret
    exact ⟨rfl, hB2⟩
  have hrr2 : 0 ≤ r ∧ z1.length ≤ 1048576 ∧ ∀ j, j < z1.length → (z1.getD j qc0).2.2.length ≤ 1048576 := by
    rcases hrr with h | h
    · omega
    · exact h
  obtain ⟨_hr0, hlq, hlm⟩ := hrr2
  have Hlm := Lib.hid hlm
  clear hrr hlm
  go_wp2_with fail
  refine (toIntS z0 hlen2 _ _ _ (Hz.out.below (below_block hB2 (Nat.le_refl _))) hB2.size).mono ?_
  rintro e w3 ⟨x1, rfl, hA1, hb3⟩
  have HA1_3 := Lib.hid hA1
  clear hA1
  have hB3 : Below w.heap.size w w3 := hB2.trans (hb3.mono hB2.size)
  clear hb3
  go_wp2_with fail
  refine (toClaimS z1 hlq Hlm.out _ _ _ (Hr.out.keptSpyStory hB3) (Nat.le_refl _)).mono ?_
  rintro e w4 ⟨v1, us1, rfl, he1, hst1, hb4⟩
  have HS1_4 := Lib.hid hst1
  have He1 := Lib.hid he1
  clear hst1 he1
  have hB4 : Below w.heap.size w w4 := hB3.trans (hb4.mono hB3.size)
  have HA1_4 := Lib.hid (own_below HA1_3.out hb4)
  clear hb4
  go_wp2_with fail
  refine (Hs.out us1 He1.out w4.heap.size _ _ _ (RdInts.of_own HA1_4.out) HS1_4.out.rd (Nat.le_refl _)).mono ?_
  rintro e w5 ⟨rfl, hb5⟩
  have hB5 : Below w.heap.size w w5 := hB4.trans (hb5.mono hB4.size)
  clear hb5
  go_wp2_with fail
  refine (toIntS z0 hlen2 _ _ _ (Hz.out.below (below_block hB5 (Nat.le_refl _))) hB5.size).mono ?_
  rintro e w6 ⟨x2, rfl, hA2, hb6⟩
  have HA2_6 := Lib.hid hA2
  clear hA2
  have hB6 : Below w.heap.size w w6 := hB5.trans (hb6.mono hB5.size)
  clear hb6
  go_wp2_with fail
  refine (toClaimS z1 hlq Hlm.out _ _ _ (Hr.out.keptSpyStory hB6) (Nat.le_refl _)).mono ?_
  rintro e w7 ⟨v2, us2, rfl, he2, hst2, hb7⟩
  have HS2_7 := Lib.hid hst2
  have He2 := Lib.hid he2
  clear hst2 he2
  have hB7 : Below w.heap.size w w7 := hB6.trans (hb7.mono hB6.size)
  have HA2_7 := Lib.hid (own_below HA2_6.out hb7)
  clear hb7
  go_wp2_with fail
  refine (Hp.out us2 He2.out w7.heap.size _ _ _ (RdInts.of_own HA2_7.out) HS2_7.out.rd (Nat.le_refl _)).mono ?_
  rintro e w8 ⟨rfl, hb8⟩
  have hB8 : Below w.heap.size w w8 := hB7.trans (hb8.mono hB7.size)
  have HA2_8 := Lib.hid (own_below HA2_7.out hb8)
  have HS2_8 := Lib.hid (HS2_7.out.below hb8)
  clear hb8
  go_wp2_with fail
  refine (toIntS z0 hlen2 _ _ _ (Hz.out.below (below_block hB8 (Nat.le_refl _))) hB8.size).mono ?_
  rintro e w9 ⟨x3, rfl, hA3, hb9⟩
  have HA3_9 := Lib.hid hA3
  clear hA3
  have hB9 : Below w.heap.size w w9 := hB8.trans (hb9.mono hB8.size)
  have HA2_9 := Lib.hid (own_below HA2_8.out hb9)
  have HS2_9 := Lib.hid (HS2_8.out.below hb9)
  clear hb9
  go_wp2_with fail
  refine (eqIntS z0 z0 _ _ _ _ _ (RdInts.of_own HA2_9.out) (RdInts.of_own HA3_9.out)).mono ?_
  rintro e w10 ⟨rfl, n10, hw10⟩
  rw [show decide (z0 = z0) = true from by simp]
  have hb10 : Below w9.heap.size w9 w10 := by rw [← hw10]; exact below_drewN (Below.refl _ _) _
  clear hw10
  have hB10 : Below w.heap.size w w10 := hB9.trans (hb10.mono hB9.size)
  have HS2_10 := Lib.hid (HS2_9.out.below hb10)
  clear hb10
  go_wp2_with fail
  refine (toClaimS z1 hlq Hlm.out _ _ _ (Hr.out.keptSpyStory hB10) (Nat.le_refl _)).mono ?_
  rintro e w11 ⟨v3, us3, rfl, he3, hst3, hb11⟩
  have HS3_11 := Lib.hid hst3
  have He3 := Lib.hid he3
  clear hst3 he3
  have hB11 : Below w.heap.size w w11 := hB10.trans (hb11.mono hB10.size)
  have HS2_11 := Lib.hid (HS2_10.out.below hb11)
  clear hb11
  go_wp2_with fail
  refine (eqClaimS us2 us3 (He2.out.trans He3.out.symm) _ _ _ _ _ HS2_11.out.rd HS3_11.out.rd (Nat.le_refl _) (Nat.le_refl _)).mono ?_
  rintro e w12 ⟨rfl, hb12⟩
  have hB12 : Below w.heap.size w w12 := hB11.trans (hb12.mono hB11.size)
  clear hb12
  go_wp2
  go_ret
  exact ⟨rfl, hB12⟩

set_option maxRecDepth 100000 in
theorem lifted (os : Os) (started : os.Started) (H : Type) (enc : TypeId × Value → H) :
    ReturnsInHanded {} Try.checked os 13 .any (Rows.fnExactSpyStorySpec.pre6 enc Try.prog Try.f13 Rows.fnExactSpyStoryRow.domain false) (Rows.fnExactSpyStorySpec.post enc Try.prog Try.f13 false true false false) := by
  refine returnsInHanded_of_change (C := Try.checked) Try.own started (by kernel_rfl) Try.func13
    (ChangeSpec.witness6 (enc := enc) (C := Try.checked) false ⟨#[], #[.slice none 0 0, .slice none 0 0], []⟩ 8 (by kernel_rfl) (by kernel_rfl) (by kernel_rfl) (by kernel_rfl)) ?_
  intro W base args ds gs before hval0 hW hcnd _
  have hval : ∀ (j : Nat) t v, Try.f13.params[j]? = some t → args[j]? = some v → Value.okWide Try.prog W .any base t v := hval0
  have hW' := hW
  obtain ⟨p, q, hA0, hV, rfl, hfz, hnd⟩ := hW
  have hA : DataW.TrodAll enc Try.prog W 0 (fun _ => true) true Try.f13.params.toList args.toList ds p := hA0
  rw [Try.params13] at hA hval
  obtain ⟨v0, vs0, d0, ds0, p0, q0, hargs, rfl, rfl, h0, r0⟩ := trodAll_cons hA
  obtain ⟨v1, vs1, d1, ds1, p1, q1, rfl, rfl, rfl, h1, r1⟩ := trodAll_cons r0
  obtain ⟨rfl, rfl, rfl⟩ := trodAll_nil r1
  obtain rfl : args = #[v0, v1] := by cases args; simp_all
  obtain ⟨rfl, rfl⟩ := trodVars_none hV
  obtain ⟨a0, len0, cap0, rfl⟩ := okWide_slice Try.underlying23 (hval 0 23 v0 rfl rfl)
  have k0 := h0
  have lt0 : ∀ x ∈ p0, x.block < W.heap.size := by obtain ⟨m, hm⟩ := k0; exact DataW.trod_lt m _ _ _ hm
  obtain ⟨z0, w0⟩ : ∃ zs, IsRow .i64 W a0 len0 cap0 zs := by
    obtain ⟨fuel, hf⟩ := h0
    rcases open_ints Try.underlying23 Try.underlying3 (by kernel_rfl) hf with ⟨hcs, _⟩ | ⟨x, l, c, zs, hcs, _, hl, hm, hz, _, hcell, hwz⟩
    · simp [Value.cells] at hcs
      obtain ⟨rfl, rfl, rfl⟩ := hcs
      exact ⟨[], .inl ⟨rfl, rfl, rfl, rfl⟩⟩
    · simp [Value.cells] at hcs
      obtain ⟨rfl, rfl, rfl⟩ := hcs
      exact ⟨zs, .inr ⟨_, rfl, hl, hm, by simpa using hz, hcell, hwz⟩⟩
  obtain ⟨a1, len1, cap1, rfl⟩ := okWide_slice Try.underlying63 (hval 1 63 v1 rfl rfl)
  have k1 := h1
  have lt1 : ∀ x ∈ p1, x.block < W.heap.size := by obtain ⟨m, hm⟩ := k1; exact DataW.trod_lt m _ _ _ hm
  obtain ⟨z1, e1, w1⟩ : ∃ qs, len1 = qs.length ∧ RdStory W W.heap.size (.slice a1 len1 cap1) qs := by
    obtain ⟨fuel, hf⟩ := h1
    exact open_story Try.underlying63 Try.underlying58 (by kernel_rfl) rfl rfl (by kernel_rfl) (by kernel_rfl) Try.underlying3 Try.underlying56 Try.underlying106 (by kernel_rfl) rfl rfl (by kernel_rfl) (by kernel_rfl) Try.underlying3 Try.underlying3 hf
  clear hA0 hval0
  refine (walk _ _ _ _ W (RdInts.of_row w0) w1).mono fun e W' ⟨he, bel⟩ => ?_
  subst he
  exact ⟨_, rfl, _, _, _, [], _, [], hW', trodAll_mk1 (shut_bool Try.underlying4 _), (trodAll_cons_mk (Below.trod Try.laidOut (by kernel_rfl) (of_decide_eq_true (by kernel_rfl)) k0 bel lt0) (trodAll_cons_mk (Below.trod Try.laidOut (by kernel_rfl) (of_decide_eq_true (by kernel_rfl)) k1 bel lt1) trodAll_mk0)), rfl, bel.frame _, fun h => by cases h⟩

theorem closed : joinedFacts Try.pinned.checked.prog 13 Try.f13 Rows.fnExactSpyStorySpec Rows.fnExactSpyStoryRow = true := by
  unfold joinedFacts
  exact (and_tt (and_tt (and_tt (and_tt (and_tt (and_tt (and_tt (and_tt (and_tt (and_tt (and_tt (and_tt (and_tt (and_tt (and_tt (and_tt (and_tt (and_tt (and_tt (and_tt (and_tt (and_tt (and_tt (and_tt (and_tt (and_tt (and_tt (and_tt (and_tt (and_tt (and_tt (by kernel_rfl) (by kernel_rfl)) (by kernel_rfl)) (by kernel_rfl)) (by kernel_rfl)) (by kernel_rfl)) (by kernel_rfl)) (by kernel_rfl)) (by kernel_rfl)) (by kernel_rfl)) (by kernel_rfl)) (by kernel_rfl)) (by kernel_rfl)) (by kernel_rfl)) (by kernel_rfl)) (by kernel_rfl)) (by kernel_rfl)) (by kernel_rfl)) (by kernel_rfl)) (by kernel_rfl)) (by kernel_rfl)) (by kernel_rfl)) (by kernel_rfl)) (by kernel_rfl)) (by kernel_rfl)) Try.mayEnter0) (lifted_tt Try.lifts0 rfl)) (make_tt Try.make0 rfl)) (by kernel_rfl)) (by kernel_rfl)) (by kernel_rfl)) (by kernel_rfl))
theorem over : Rows.fnExactSpyStoryRow.holds Try.pinned (OpenSpec.ofChange Rows.fnExactSpyStorySpec) :=
  OpenClaim.holds_of_wide 13 Try.f13 rfl rfl rfl rfl rfl rfl rfl ⟨rfl, rfl, rfl, rfl, rfl⟩ rfl rfl rfl rfl rfl (by kernel_rfl) Try.func13 closed
    (of_decide_eq_true (by kernel_rfl)) (by unfold Func.isWrapper; first | (rw [if_pos (by decide +kernel)]; kernel_rfl) | (rw [if_neg (by decide +kernel)]; exact ⟨rfl, rfl⟩))
    (fun os started H enc _ => lifted os started H enc)

theorem proved : Rows.FnExactSpyStorySaid := over
end Go.Proofs.Ytobbbmcppmohoaa.fnExactSpyStory

