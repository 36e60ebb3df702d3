/- Exact laws of stage 10: syndromes, sets that fit, votes, and the only set of few. No condition. -/
import Derived.Test.YtcppoepdpgeakaaFaultI
import Derived.Test.YtcppoepdpgeakaaRowsX
import Derived.Test.YtcppoepdpgeakaaRowsE
import Derived.Test.YtcppoepdpgeakaaRowsM
import Derived.Test.YtcppoepdpgeakaaFrameR
import Derived.WalkKit
import Derived.ProofKit
namespace Go.Proofs.Ytcppoepdpgeakaa
open Go.RowKit Go.Joins
theorem SyndromeOk_spec (us zs : List RW) (he : us.map (·.2) = zs.map (·.2)) (B : Nat) (v : Value) (w : World) (hr : RdRows w B v us) (_hB : B ≤ w.heap.size) :
    Calls Try.prog 11 #[v] w fun e w' => e = .returned (.bool (synOk (zs.map (·.2)))) ∧ Below w.heap.size w w' := by
  rw [← he]
  refine (specSyndromeOk us B v w hr).mono ?_
  rintro e w' ⟨rfl, rfl⟩
  exact ⟨rfl, Below.refl _ _⟩
theorem SyndromeOk_impl (us zs : List RW) (he : us.map (·.2) = zs.map (·.2)) (B : Nat) (v : Value) (w : World) (hr : RdRows w B v us) (hB : B ≤ w.heap.size) :
    Calls Try.prog 13 #[v] w fun e w' => e = .returned (.bool (synOk (zs.map (·.2)))) ∧ Below w.heap.size w w' := by
  rw [← he]
  exact implSyndromeOk us B v w hr hB
end Go.Proofs.Ytcppoepdpgeakaa
namespace Go.Proofs.Ytcppoepdpgeakaa.fnExactSyndromeOk
open Go.ChangeShapes Go.WideShapes Go.ChangeAt Go.RowKit Go.Joins
attribute [local irreducible] synOk rowOk entOk fitsN fitsK toldE bitI fitsV setsN setsF votesF votesN heads madeE madeRow madeL madeV madeOk sureN onlyFN onlyFOk nums markTo offN runF
open Go.ChangeMaps (open_string shut_string)
set_option linter.unusedVariables false
set_option maxRecDepth 100000 in
set_option maxHeartbeats 4000000 in
theorem walk (a0 : Value) (z0 : List RW) (w : World) (w0 : RdRows w w.heap.size a0 z0) :
    Calls Try.prog 3 #[a0] w fun e w' => e = .returned (.bool true) ∧ Below w.heap.size w w' := by
  have Hr := Lib.hid w0
  obtain ⟨so, sc, rfl⟩ : ∃ so sc, a0 = .slice so z0.length sc := by obtain ⟨a, c, h, _⟩ := w0; exact ⟨a, c, h⟩
  clear w0
  go_enter Try.func3, Try.ntmps3
  go_wp2_with fail
  refine (szIntSS z0 _ _ _ Hr.out).mono ?_
  rintro e w' ⟨⟨r, rfl, hrr⟩, rfl⟩
  by_cases hneg : r < 0
  case pos =>
    clear hrr
    go_wp2
    go_ret
    exact ⟨rfl, Below.refl _ _⟩
  have hrr2 : 0 ≤ r ∧ z0.length ≤ 1048576 ∧ ∀ j, j < z0.length → (z0.getD j rw0).2.length ≤ 1048576 := by
    rcases hrr with h | h
    · omega
    · exact h
  obtain ⟨_hr0, hl, hlm⟩ := hrr2
  have Hlm := Lib.hid hlm
  obtain ⟨w1, rfl⟩ : ∃ w1 : World, w1 = w := ⟨_, rfl⟩
  have hB1 : Below w1.heap.size w1 w1 := Below.refl _ _
  clear hrr hlm
  have hs := fun us (he : us.map (·.2) = z0.map (·.2)) B u W h h1 => SyndromeOk_spec us z0 he B u W h h1
  have hp := fun us (he : us.map (·.2) = z0.map (·.2)) B u W h h1 => SyndromeOk_impl us z0 he B u W h h1
  generalize synOk (z0.map (·.2)) = T at *
  have Hs := Lib.hid hs
  have Hp := Lib.hid hp
  clear hs hp
  go_wp2_with fail
  refine (toIntSS z0 hl Hlm _ _ _ (Hr.out.kept hB1) (Nat.le_refl _)).mono ?_
  rintro e w2 ⟨v1, us1, rfl, hu1, hri1, hap1, hb2⟩
  obtain ⟨f1, c1, rfl⟩ := own_len8 hri1.1
  have HS1_2 := Lib.hid hri1
  have HU1 := Lib.hid hu1
  have HA1 := Lib.hid hap1
  clear hri1 hu1 hap1
  have hB2 : Below w1.heap.size w1 w2 := hB1.trans (hb2.mono hB1.size)
  clear hb2
  go_wp2_with fail
  refine (Hs.out us1 HU1.out _ _ _ HS1_2.out.rd (Nat.le_refl _)).mono ?_
  rintro e w3 ⟨rfl, hb3⟩
  have hB3 : Below w1.heap.size w1 w3 := hB2.trans (hb3.mono hB2.size)
  clear hb3
  go_wp2_with fail
  refine (toIntSS z0 hl Hlm _ _ _ (Hr.out.kept hB3) (Nat.le_refl _)).mono ?_
  rintro e w4 ⟨v2, us2, rfl, hu2, hri2, hap2, hb4⟩
  obtain ⟨f2, c2, rfl⟩ := own_len8 hri2.1
  have HS2_4 := Lib.hid hri2
  have HU2 := Lib.hid hu2
  have HA2 := Lib.hid hap2
  clear hri2 hu2 hap2
  have hB4 : Below w1.heap.size w1 w4 := hB3.trans (hb4.mono hB3.size)
  clear hb4
  go_wp2_with fail
  refine (Hp.out us2 HU2.out _ _ _ HS2_4.out.rd (Nat.le_refl _)).mono ?_
  rintro e w5 ⟨rfl, hb5⟩
  have hB5 : Below w1.heap.size w1 w5 := hB4.trans (hb5.mono hB4.size)
  have HS2_5 := Lib.hid (HS2_4.out.below hb5)
  clear hb5
  go_wp2_with fail
  refine (toIntSS z0 hl Hlm _ _ _ (Hr.out.kept hB5) (Nat.le_refl _)).mono ?_
  rintro e w6 ⟨v3, us3, rfl, hu3, hri3, hap3, hb6⟩
  obtain ⟨f3, c3, rfl⟩ := own_len8 hri3.1
  have HS3_6 := Lib.hid hri3
  have HU3 := Lib.hid hu3
  have HA3 := Lib.hid hap3
  clear hri3 hu3 hap3
  have hB6 : Below w1.heap.size w1 w6 := hB5.trans (hb6.mono hB5.size)
  have HS2_6 := Lib.hid (HS2_5.out.below hb6)
  clear hb6
  have Heq := Lib.hid (eqIntSS us2 us3 _ _ _ _ w6 HS2_6.out.rd HS3_6.out.rd)
  rw [decide_eq_true (HU2.out.trans HU3.out.symm)] at Heq
  go_wp2_with fail
  refine (Heq.out).mono ?_
  rintro e w7 ⟨rfl, n7, hw7⟩
  have hb7 : Below w6.heap.size w6 w7 := by rw [← hw7]; exact below_drewN9 (Below.refl _ _) _
  clear hw7
  have hB7 : Below w1.heap.size w1 w7 := hB6.trans (hb7.mono hB6.size)
  clear hb7
  go_wp2
  go_ret
  exact ⟨rfl, hB7⟩

set_option maxRecDepth 100000 in
theorem lifted (os : Os) (started : os.Started) (H : Type) (enc : TypeId × Value → H) :
    ReturnsInHanded {} Try.checked os 3 .any (Rows.fnExactSyndromeOkSpec.pre6 enc Try.prog Try.f3 Rows.fnExactSyndromeOkRow.domain false) (Rows.fnExactSyndromeOkSpec.post enc Try.prog Try.f3 false true false false) := by
  refine returnsInHanded_of_change (C := Try.checked) Try.own started (by kernel_rfl) Try.func3
    (ChangeSpec.witness6 (enc := enc) (C := Try.checked) false ⟨#[], #[.slice none 0 0], []⟩ 8 (by kernel_rfl) (by kernel_rfl) (by kernel_rfl) (by kernel_rfl)) ?_
  intro W base args ds gs before hval0 hW hcnd _
  have hval : ∀ (j : Nat) t v, Try.f3.params[j]? = some t → args[j]? = some v → Value.okWide Try.prog W .any base t v := hval0
  have hW' := hW
  obtain ⟨p, q, hA0, hV, rfl, hfz, hnd⟩ := hW
  have hA : DataW.TrodAll enc Try.prog W 0 (fun _ => true) true Try.f3.params.toList args.toList ds p := hA0
  rw [Try.params3] at hA hval
  obtain ⟨v0, vs0, d0, ds0, p0, q0, hargs, rfl, rfl, h0, r0⟩ := trodAll_cons hA
  obtain ⟨rfl, rfl, rfl⟩ := trodAll_nil r0
  obtain rfl : args = #[v0] := by cases args; simp_all
  obtain ⟨rfl, rfl⟩ := trodVars_none hV
  obtain ⟨a0, len0, cap0, rfl⟩ := okWide_slice Try.underlying22 (hval 0 22 v0 rfl rfl)
  have k0 := h0
  have lt0 : ∀ x ∈ p0, x.block < W.heap.size := by obtain ⟨m, hm⟩ := k0; exact DataW.trod_lt m _ _ _ hm
  obtain ⟨z0, e0, w0⟩ : ∃ qs, len0 = qs.length ∧ RdRows W W.heap.size (.slice a0 len0 cap0) qs := by
    obtain ⟨fuel, hf⟩ := h0
    exact open_rows Try.underlying22 Try.underlying28 Try.underlying3 (by kernel_rfl) (by kernel_rfl) hf
  clear hA0 hval0
  refine (walk _ _ W w0).mono fun e W' ⟨he, bel⟩ => ?_
  subst he
  exact ⟨_, rfl, _, _, _, [], _, [], hW', trodAll_mk1 (shut_bool Try.underlying4 _), (trodAll_cons_mk (Below.trod Try.laidOut (by kernel_rfl) (of_decide_eq_true (by kernel_rfl)) k0 bel lt0) trodAll_mk0), rfl, bel.frame _, fun h => by cases h⟩

theorem closed : joinedFacts Try.pinned.checked.prog 3 Try.f3 Rows.fnExactSyndromeOkSpec Rows.fnExactSyndromeOkRow = true := by
  unfold joinedFacts
  exact (and_tt (and_tt (and_tt (and_tt (and_tt (and_tt (and_tt (and_tt (and_tt (and_tt (and_tt (and_tt (and_tt (and_tt (and_tt (and_tt (and_tt (and_tt (and_tt (and_tt (and_tt (and_tt (and_tt (and_tt (and_tt (and_tt (and_tt (and_tt (and_tt (and_tt (and_tt (by kernel_rfl) (by kernel_rfl)) (by kernel_rfl)) (by kernel_rfl)) (by kernel_rfl)) (by kernel_rfl)) (by kernel_rfl)) (by kernel_rfl)) (by kernel_rfl)) (by kernel_rfl)) (by kernel_rfl)) (by kernel_rfl)) (by kernel_rfl)) (by kernel_rfl)) (by kernel_rfl)) (by kernel_rfl)) (by kernel_rfl)) (by kernel_rfl)) (by kernel_rfl)) (by kernel_rfl)) (by kernel_rfl)) (by kernel_rfl)) (by kernel_rfl)) (by kernel_rfl)) (by kernel_rfl)) Try.mayEnter0) (lifted_tt Try.lifts0 rfl)) (make_tt Try.make0 rfl)) (by kernel_rfl)) (by kernel_rfl)) (by kernel_rfl)) (by kernel_rfl))
theorem over : Rows.fnExactSyndromeOkRow.holds Try.pinned (OpenSpec.ofChange Rows.fnExactSyndromeOkSpec) :=
  OpenClaim.holds_of_wide 3 Try.f3 rfl rfl rfl rfl rfl rfl rfl ⟨rfl, rfl, rfl, rfl, rfl⟩ rfl rfl rfl rfl rfl (by kernel_rfl) Try.func3 closed
    (of_decide_eq_true (by kernel_rfl)) (by unfold Func.isWrapper; first | (rw [if_pos (by decide +kernel)]; kernel_rfl) | (rw [if_neg (by decide +kernel)]; exact ⟨rfl, rfl⟩))
    (fun os started H enc _ => lifted os started H enc)

theorem proved : Rows.FnExactSyndromeOkSaid := over
end Go.Proofs.Ytcppoepdpgeakaa.fnExactSyndromeOk

namespace Go.Proofs.Ytcppoepdpgeakaa
open Go.RowKit Go.Joins
theorem FitsFaults_spec (x : Int) (us zs : List RW) (he : us.map (·.2) = zs.map (·.2)) (B : Nat) (v : Value) (w : World) (hr : RdRows w B v us) (_hB : B ≤ w.heap.size) :
    Calls Try.prog 15 #[v, .int .i64 x] w fun e w' => e = .returned (.bool (fitsV (zs.map (·.2)) x)) ∧ Below w.heap.size w w' := by
  rw [← he]
  refine (specFitsFaults us x B v w hr).mono ?_
  rintro e w' ⟨rfl, nd, rfl⟩
  exact ⟨rfl, below_drewN9 (Below.refl _ _) _⟩
theorem FitsFaults_impl (x : Int) (us zs : List RW) (he : us.map (·.2) = zs.map (·.2)) (B : Nat) (v : Value) (w : World) (hr : RdRows w B v us) (hB : B ≤ w.heap.size) :
    Calls Try.prog 16 #[v, .int .i64 x] w fun e w' => e = .returned (.bool (fitsV (zs.map (·.2)) x)) ∧ Below w.heap.size w w' := by
  rw [← he]
  exact implFitsFaults us x B v w hr hB
end Go.Proofs.Ytcppoepdpgeakaa
namespace Go.Proofs.Ytcppoepdpgeakaa.fnExactFitsFaults
open Go.ChangeShapes Go.WideShapes Go.ChangeAt Go.RowKit Go.Joins
attribute [local irreducible] synOk rowOk entOk fitsN fitsK toldE bitI fitsV setsN setsF votesF votesN heads madeE madeRow madeL madeV madeOk sureN onlyFN onlyFOk nums markTo offN runF
open Go.ChangeMaps (open_string shut_string)
set_option linter.unusedVariables false
set_option maxRecDepth 100000 in
set_option maxHeartbeats 4000000 in
theorem walk (a0 : Value) (z0 : List RW) (a1 : Int) (w : World) (w0 : RdRows w w.heap.size a0 z0) (w1 : (Lit.int .i64 a1).wf = true) :
    Calls Try.prog 4 #[a0, .int .i64 a1] w fun e w' => e = .returned (.bool true) ∧ Below w.heap.size w w' := by
  have Hr := Lib.hid w0
  obtain ⟨so, sc, rfl⟩ : ∃ so sc, a0 = .slice so z0.length sc := by obtain ⟨a, c, h, _⟩ := w0; exact ⟨a, c, h⟩
  clear w0
  go_enter Try.func4, Try.ntmps4
  go_wp2_with fail
  refine (szIntSS z0 _ _ _ Hr.out).mono ?_
  rintro e w' ⟨⟨r, rfl, hrr⟩, rfl⟩
  by_cases hneg : r < 0
  case pos =>
    clear hrr
    go_wp2
    go_ret
    exact ⟨rfl, Below.refl _ _⟩
  have hrr2 : 0 ≤ r ∧ z0.length ≤ 1048576 ∧ ∀ j, j < z0.length → (z0.getD j rw0).2.length ≤ 1048576 := by
    rcases hrr with h | h
    · omega
    · exact h
  obtain ⟨_hr0, hl, hlm⟩ := hrr2
  have Hlm := Lib.hid hlm
  obtain ⟨w1, rfl⟩ : ∃ w1 : World, w1 = w := ⟨_, rfl⟩
  have hB1 : Below w1.heap.size w1 w1 := Below.refl _ _
  clear hrr hlm
  have hs := fun us (he : us.map (·.2) = z0.map (·.2)) B u W h h1 => FitsFaults_spec a1 us z0 he B u W h h1
  have hp := fun us (he : us.map (·.2) = z0.map (·.2)) B u W h h1 => FitsFaults_impl a1 us z0 he B u W h h1
  generalize fitsV (z0.map (·.2)) a1 = T at *
  have Hs := Lib.hid hs
  have Hp := Lib.hid hp
  clear hs hp
  go_wp2_with fail
  refine (toIntSS z0 hl Hlm _ _ _ (Hr.out.kept hB1) (Nat.le_refl _)).mono ?_
  rintro e w2 ⟨v1, us1, rfl, hu1, hri1, hap1, hb2⟩
  obtain ⟨f1, c1, rfl⟩ := own_len8 hri1.1
  have HS1_2 := Lib.hid hri1
  have HU1 := Lib.hid hu1
  have HA1 := Lib.hid hap1
  clear hri1 hu1 hap1
  have hB2 : Below w1.heap.size w1 w2 := hB1.trans (hb2.mono hB1.size)
  clear hb2
  go_wp2_with fail
  refine (Hs.out us1 HU1.out _ _ _ HS1_2.out.rd (Nat.le_refl _)).mono ?_
  rintro e w3 ⟨rfl, hb3⟩
  have hB3 : Below w1.heap.size w1 w3 := hB2.trans (hb3.mono hB2.size)
  clear hb3
  go_wp2_with fail
  refine (toIntSS z0 hl Hlm _ _ _ (Hr.out.kept hB3) (Nat.le_refl _)).mono ?_
  rintro e w4 ⟨v2, us2, rfl, hu2, hri2, hap2, hb4⟩
  obtain ⟨f2, c2, rfl⟩ := own_len8 hri2.1
  have HS2_4 := Lib.hid hri2
  have HU2 := Lib.hid hu2
  have HA2 := Lib.hid hap2
  clear hri2 hu2 hap2
  have hB4 : Below w1.heap.size w1 w4 := hB3.trans (hb4.mono hB3.size)
  clear hb4
  go_wp2_with fail
  refine (Hp.out us2 HU2.out _ _ _ HS2_4.out.rd (Nat.le_refl _)).mono ?_
  rintro e w5 ⟨rfl, hb5⟩
  have hB5 : Below w1.heap.size w1 w5 := hB4.trans (hb5.mono hB4.size)
  have HS2_5 := Lib.hid (HS2_4.out.below hb5)
  clear hb5
  go_wp2_with fail
  refine (toIntSS z0 hl Hlm _ _ _ (Hr.out.kept hB5) (Nat.le_refl _)).mono ?_
  rintro e w6 ⟨v3, us3, rfl, hu3, hri3, hap3, hb6⟩
  obtain ⟨f3, c3, rfl⟩ := own_len8 hri3.1
  have HS3_6 := Lib.hid hri3
  have HU3 := Lib.hid hu3
  have HA3 := Lib.hid hap3
  clear hri3 hu3 hap3
  have hB6 : Below w1.heap.size w1 w6 := hB5.trans (hb6.mono hB5.size)
  have HS2_6 := Lib.hid (HS2_5.out.below hb6)
  clear hb6
  have Heq := Lib.hid (eqIntSS us2 us3 _ _ _ _ w6 HS2_6.out.rd HS3_6.out.rd)
  rw [decide_eq_true (HU2.out.trans HU3.out.symm)] at Heq
  go_wp2_with fail
  refine (Heq.out).mono ?_
  rintro e w7 ⟨rfl, n7, hw7⟩
  have hb7 : Below w6.heap.size w6 w7 := by rw [← hw7]; exact below_drewN9 (Below.refl _ _) _
  clear hw7
  have hB7 : Below w1.heap.size w1 w7 := hB6.trans (hb7.mono hB6.size)
  clear hb7
  go_wp2
  go_ret
  exact ⟨rfl, hB7⟩

set_option maxRecDepth 100000 in
theorem lifted (os : Os) (started : os.Started) (H : Type) (enc : TypeId × Value → H) :
    ReturnsInHanded {} Try.checked os 4 .any (Rows.fnExactFitsFaultsSpec.pre6 enc Try.prog Try.f4 Rows.fnExactFitsFaultsRow.domain false) (Rows.fnExactFitsFaultsSpec.post enc Try.prog Try.f4 false true false false) := by
  refine returnsInHanded_of_change (C := Try.checked) Try.own started (by kernel_rfl) Try.func4
    (ChangeSpec.witness6 (enc := enc) (C := Try.checked) false ⟨#[], #[.slice none 0 0, .int .i64 0], []⟩ 8 (by kernel_rfl) (by kernel_rfl) (by kernel_rfl) (by kernel_rfl)) ?_
  intro W base args ds gs before hval0 hW hcnd _
  have hval : ∀ (j : Nat) t v, Try.f4.params[j]? = some t → args[j]? = some v → Value.okWide Try.prog W .any base t v := hval0
  have hW' := hW
  obtain ⟨p, q, hA0, hV, rfl, hfz, hnd⟩ := hW
  have hA : DataW.TrodAll enc Try.prog W 0 (fun _ => true) true Try.f4.params.toList args.toList ds p := hA0
  rw [Try.params4] at hA hval
  obtain ⟨v0, vs0, d0, ds0, p0, q0, hargs, rfl, rfl, h0, r0⟩ := trodAll_cons hA
  obtain ⟨v1, vs1, d1, ds1, p1, q1, rfl, rfl, rfl, h1, r1⟩ := trodAll_cons r0
  obtain ⟨rfl, rfl, rfl⟩ := trodAll_nil r1
  obtain rfl : args = #[v0, v1] := by cases args; simp_all
  obtain ⟨rfl, rfl⟩ := trodVars_none hV
  obtain ⟨a0, len0, cap0, rfl⟩ := okWide_slice Try.underlying22 (hval 0 22 v0 rfl rfl)
  have k0 := h0
  have lt0 : ∀ x ∈ p0, x.block < W.heap.size := by obtain ⟨m, hm⟩ := k0; exact DataW.trod_lt m _ _ _ hm
  obtain ⟨z0, e0, w0⟩ : ∃ qs, len0 = qs.length ∧ RdRows W W.heap.size (.slice a0 len0 cap0) qs := by
    obtain ⟨fuel, hf⟩ := h0
    exact open_rows Try.underlying22 Try.underlying28 Try.underlying3 (by kernel_rfl) (by kernel_rfl) hf
  obtain ⟨a1, rfl, rfl, rfl, w1⟩ := open_int Try.underlying3 (hval 1 3 v1 rfl rfl) h1
  clear hA0 hval0
  refine (walk _ _ a1 W w0 w1).mono fun e W' ⟨he, bel⟩ => ?_
  subst he
  exact ⟨_, rfl, _, _, _, [], _, [], hW', trodAll_mk1 (shut_bool Try.underlying4 _), (trodAll_cons_mk (Below.trod Try.laidOut (by kernel_rfl) (of_decide_eq_true (by kernel_rfl)) k0 bel lt0) (trodAll_cons_mk (shut_int Try.underlying3 w1) trodAll_mk0)), rfl, bel.frame _, fun h => by cases h⟩

theorem closed : joinedFacts Try.pinned.checked.prog 4 Try.f4 Rows.fnExactFitsFaultsSpec Rows.fnExactFitsFaultsRow = true := by
  unfold joinedFacts
  exact (and_tt (and_tt (and_tt (and_tt (and_tt (and_tt (and_tt (and_tt (and_tt (and_tt (and_tt (and_tt (and_tt (and_tt (and_tt (and_tt (and_tt (and_tt (and_tt (and_tt (and_tt (and_tt (and_tt (and_tt (and_tt (and_tt (and_tt (and_tt (and_tt (and_tt (and_tt (by kernel_rfl) (by kernel_rfl)) (by kernel_rfl)) (by kernel_rfl)) (by kernel_rfl)) (by kernel_rfl)) (by kernel_rfl)) (by kernel_rfl)) (by kernel_rfl)) (by kernel_rfl)) (by kernel_rfl)) (by kernel_rfl)) (by kernel_rfl)) (by kernel_rfl)) (by kernel_rfl)) (by kernel_rfl)) (by kernel_rfl)) (by kernel_rfl)) (by kernel_rfl)) (by kernel_rfl)) (by kernel_rfl)) (by kernel_rfl)) (by kernel_rfl)) (by kernel_rfl)) (by kernel_rfl)) Try.mayEnter0) (lifted_tt Try.lifts0 rfl)) (make_tt Try.make0 rfl)) (by kernel_rfl)) (by kernel_rfl)) (by kernel_rfl)) (by kernel_rfl))
theorem over : Rows.fnExactFitsFaultsRow.holds Try.pinned (OpenSpec.ofChange Rows.fnExactFitsFaultsSpec) :=
  OpenClaim.holds_of_wide 4 Try.f4 rfl rfl rfl rfl rfl rfl rfl ⟨rfl, rfl, rfl, rfl, rfl⟩ rfl rfl rfl rfl rfl (by kernel_rfl) Try.func4 closed
    (of_decide_eq_true (by kernel_rfl)) (by unfold Func.isWrapper; first | (rw [if_pos (by decide +kernel)]; kernel_rfl) | (rw [if_neg (by decide +kernel)]; exact ⟨rfl, rfl⟩))
    (fun os started H enc _ => lifted os started H enc)

theorem proved : Rows.FnExactFitsFaultsSaid := over
end Go.Proofs.Ytcppoepdpgeakaa.fnExactFitsFaults

namespace Go.Proofs.Ytcppoepdpgeakaa
open Go.RowKit Go.Joins
theorem VotesAgainst_spec (x : Int) (us zs : List RW) (he : us.map (·.2) = zs.map (·.2)) (B : Nat) (v : Value) (w : World) (hr : RdRows w B v us) (_hB : B ≤ w.heap.size) :
    Calls Try.prog 27 #[v, .int .i64 x] w fun e w' => e = .returned (.int .i64 (votesN (zs.map (·.2)) x)) ∧ Below w.heap.size w w' := by
  rw [← he]
  refine (specVotesAgainst us x B v w hr).mono ?_
  rintro e w' ⟨rfl, rfl⟩
  exact ⟨rfl, Below.refl _ _⟩
theorem VotesAgainst_impl (x : Int) (us zs : List RW) (he : us.map (·.2) = zs.map (·.2)) (B : Nat) (v : Value) (w : World) (hr : RdRows w B v us) (hB : B ≤ w.heap.size) :
    Calls Try.prog 28 #[v, .int .i64 x] w fun e w' => e = .returned (.int .i64 (votesN (zs.map (·.2)) x)) ∧ Below w.heap.size w w' := by
  rw [← he]
  exact implVotesAgainst us x B v w hr hB
end Go.Proofs.Ytcppoepdpgeakaa
namespace Go.Proofs.Ytcppoepdpgeakaa.fnExactVotesAgainst
open Go.ChangeShapes Go.WideShapes Go.ChangeAt Go.RowKit Go.Joins
attribute [local irreducible] synOk rowOk entOk fitsN fitsK toldE bitI fitsV setsN setsF votesF votesN heads madeE madeRow madeL madeV madeOk sureN onlyFN onlyFOk nums markTo offN runF
open Go.ChangeMaps (open_string shut_string)
set_option linter.unusedVariables false
set_option maxRecDepth 100000 in
set_option maxHeartbeats 4000000 in
theorem walk (a0 : Value) (z0 : List RW) (a1 : Int) (w : World) (w0 : RdRows w w.heap.size a0 z0) (w1 : (Lit.int .i64 a1).wf = true) :
    Calls Try.prog 8 #[a0, .int .i64 a1] w fun e w' => e = .returned (.bool true) ∧ Below w.heap.size w w' := by
  have Hr := Lib.hid w0
  obtain ⟨so, sc, rfl⟩ : ∃ so sc, a0 = .slice so z0.length sc := by obtain ⟨a, c, h, _⟩ := w0; exact ⟨a, c, h⟩
  clear w0
  go_enter Try.func8, Try.ntmps8
  go_wp2_with fail
  refine (szIntSS z0 _ _ _ Hr.out).mono ?_
  rintro e w' ⟨⟨r, rfl, hrr⟩, rfl⟩
  by_cases hneg : r < 0
  case pos =>
    clear hrr
    go_wp2
    go_ret
    exact ⟨rfl, Below.refl _ _⟩
  have hrr2 : 0 ≤ r ∧ z0.length ≤ 1048576 ∧ ∀ j, j < z0.length → (z0.getD j rw0).2.length ≤ 1048576 := by
    rcases hrr with h | h
    · omega
    · exact h
  obtain ⟨_hr0, hl, hlm⟩ := hrr2
  have Hlm := Lib.hid hlm
  obtain ⟨w1, rfl⟩ : ∃ w1 : World, w1 = w := ⟨_, rfl⟩
  have hB1 : Below w1.heap.size w1 w1 := Below.refl _ _
  clear hrr hlm
  have hs := fun us (he : us.map (·.2) = z0.map (·.2)) B u W h h1 => VotesAgainst_spec a1 us z0 he B u W h h1
  have hp := fun us (he : us.map (·.2) = z0.map (·.2)) B u W h h1 => VotesAgainst_impl a1 us z0 he B u W h h1
  generalize votesN (z0.map (·.2)) a1 = T at *
  have Hs := Lib.hid hs
  have Hp := Lib.hid hp
  clear hs hp
  go_wp2_with fail
  refine (toIntSS z0 hl Hlm _ _ _ (Hr.out.kept hB1) (Nat.le_refl _)).mono ?_
  rintro e w2 ⟨v1, us1, rfl, hu1, hri1, hap1, hb2⟩
  obtain ⟨f1, c1, rfl⟩ := own_len8 hri1.1
  have HS1_2 := Lib.hid hri1
  have HU1 := Lib.hid hu1
  have HA1 := Lib.hid hap1
  clear hri1 hu1 hap1
  have hB2 : Below w1.heap.size w1 w2 := hB1.trans (hb2.mono hB1.size)
  clear hb2
  go_wp2_with fail
  refine (Hs.out us1 HU1.out _ _ _ HS1_2.out.rd (Nat.le_refl _)).mono ?_
  rintro e w3 ⟨rfl, hb3⟩
  have hB3 : Below w1.heap.size w1 w3 := hB2.trans (hb3.mono hB2.size)
  clear hb3
  go_wp2_with fail
  refine (toIntSS z0 hl Hlm _ _ _ (Hr.out.kept hB3) (Nat.le_refl _)).mono ?_
  rintro e w4 ⟨v2, us2, rfl, hu2, hri2, hap2, hb4⟩
  obtain ⟨f2, c2, rfl⟩ := own_len8 hri2.1
  have HS2_4 := Lib.hid hri2
  have HU2 := Lib.hid hu2
  have HA2 := Lib.hid hap2
  clear hri2 hu2 hap2
  have hB4 : Below w1.heap.size w1 w4 := hB3.trans (hb4.mono hB3.size)
  clear hb4
  go_wp2_with fail
  refine (Hp.out us2 HU2.out _ _ _ HS2_4.out.rd (Nat.le_refl _)).mono ?_
  rintro e w5 ⟨rfl, hb5⟩
  have hB5 : Below w1.heap.size w1 w5 := hB4.trans (hb5.mono hB4.size)
  have HS2_5 := Lib.hid (HS2_4.out.below hb5)
  clear hb5
  go_wp2_with fail
  refine (toIntSS z0 hl Hlm _ _ _ (Hr.out.kept hB5) (Nat.le_refl _)).mono ?_
  rintro e w6 ⟨v3, us3, rfl, hu3, hri3, hap3, hb6⟩
  obtain ⟨f3, c3, rfl⟩ := own_len8 hri3.1
  have HS3_6 := Lib.hid hri3
  have HU3 := Lib.hid hu3
  have HA3 := Lib.hid hap3
  clear hri3 hu3 hap3
  have hB6 : Below w1.heap.size w1 w6 := hB5.trans (hb6.mono hB5.size)
  have HS2_6 := Lib.hid (HS2_5.out.below hb6)
  clear hb6
  have Heq := Lib.hid (eqIntSS us2 us3 _ _ _ _ w6 HS2_6.out.rd HS3_6.out.rd)
  rw [decide_eq_true (HU2.out.trans HU3.out.symm)] at Heq
  go_wp2_with fail
  refine (Heq.out).mono ?_
  rintro e w7 ⟨rfl, n7, hw7⟩
  have hb7 : Below w6.heap.size w6 w7 := by rw [← hw7]; exact below_drewN9 (Below.refl _ _) _
  clear hw7
  have hB7 : Below w1.heap.size w1 w7 := hB6.trans (hb7.mono hB6.size)
  clear hb7
  go_wp2
  go_ret
  exact ⟨rfl, hB7⟩

set_option maxRecDepth 100000 in
theorem lifted (os : Os) (started : os.Started) (H : Type) (enc : TypeId × Value → H) :
    ReturnsInHanded {} Try.checked os 8 .any (Rows.fnExactVotesAgainstSpec.pre6 enc Try.prog Try.f8 Rows.fnExactVotesAgainstRow.domain false) (Rows.fnExactVotesAgainstSpec.post enc Try.prog Try.f8 false true false false) := by
  refine returnsInHanded_of_change (C := Try.checked) Try.own started (by kernel_rfl) Try.func8
    (ChangeSpec.witness6 (enc := enc) (C := Try.checked) false ⟨#[], #[.slice none 0 0, .int .i64 0], []⟩ 8 (by kernel_rfl) (by kernel_rfl) (by kernel_rfl) (by kernel_rfl)) ?_
  intro W base args ds gs before hval0 hW hcnd _
  have hval : ∀ (j : Nat) t v, Try.f8.params[j]? = some t → args[j]? = some v → Value.okWide Try.prog W .any base t v := hval0
  have hW' := hW
  obtain ⟨p, q, hA0, hV, rfl, hfz, hnd⟩ := hW
  have hA : DataW.TrodAll enc Try.prog W 0 (fun _ => true) true Try.f8.params.toList args.toList ds p := hA0
  rw [Try.params8] at hA hval
  obtain ⟨v0, vs0, d0, ds0, p0, q0, hargs, rfl, rfl, h0, r0⟩ := trodAll_cons hA
  obtain ⟨v1, vs1, d1, ds1, p1, q1, rfl, rfl, rfl, h1, r1⟩ := trodAll_cons r0
  obtain ⟨rfl, rfl, rfl⟩ := trodAll_nil r1
  obtain rfl : args = #[v0, v1] := by cases args; simp_all
  obtain ⟨rfl, rfl⟩ := trodVars_none hV
  obtain ⟨a0, len0, cap0, rfl⟩ := okWide_slice Try.underlying22 (hval 0 22 v0 rfl rfl)
  have k0 := h0
  have lt0 : ∀ x ∈ p0, x.block < W.heap.size := by obtain ⟨m, hm⟩ := k0; exact DataW.trod_lt m _ _ _ hm
  obtain ⟨z0, e0, w0⟩ : ∃ qs, len0 = qs.length ∧ RdRows W W.heap.size (.slice a0 len0 cap0) qs := by
    obtain ⟨fuel, hf⟩ := h0
    exact open_rows Try.underlying22 Try.underlying28 Try.underlying3 (by kernel_rfl) (by kernel_rfl) hf
  obtain ⟨a1, rfl, rfl, rfl, w1⟩ := open_int Try.underlying3 (hval 1 3 v1 rfl rfl) h1
  clear hA0 hval0
  refine (walk _ _ a1 W w0 w1).mono fun e W' ⟨he, bel⟩ => ?_
  subst he
  exact ⟨_, rfl, _, _, _, [], _, [], hW', trodAll_mk1 (shut_bool Try.underlying4 _), (trodAll_cons_mk (Below.trod Try.laidOut (by kernel_rfl) (of_decide_eq_true (by kernel_rfl)) k0 bel lt0) (trodAll_cons_mk (shut_int Try.underlying3 w1) trodAll_mk0)), rfl, bel.frame _, fun h => by cases h⟩

theorem closed : joinedFacts Try.pinned.checked.prog 8 Try.f8 Rows.fnExactVotesAgainstSpec Rows.fnExactVotesAgainstRow = true := by
  unfold joinedFacts
  exact (and_tt (and_tt (and_tt (and_tt (and_tt (and_tt (and_tt (and_tt (and_tt (and_tt (and_tt (and_tt (and_tt (and_tt (and_tt (and_tt (and_tt (and_tt (and_tt (and_tt (and_tt (and_tt (and_tt (and_tt (and_tt (and_tt (and_tt (and_tt (and_tt (and_tt (and_tt (by kernel_rfl) (by kernel_rfl)) (by kernel_rfl)) (by kernel_rfl)) (by kernel_rfl)) (by kernel_rfl)) (by kernel_rfl)) (by kernel_rfl)) (by kernel_rfl)) (by kernel_rfl)) (by kernel_rfl)) (by kernel_rfl)) (by kernel_rfl)) (by kernel_rfl)) (by kernel_rfl)) (by kernel_rfl)) (by kernel_rfl)) (by kernel_rfl)) (by kernel_rfl)) (by kernel_rfl)) (by kernel_rfl)) (by kernel_rfl)) (by kernel_rfl)) (by kernel_rfl)) (by kernel_rfl)) Try.mayEnter0) (lifted_tt Try.lifts0 rfl)) (make_tt Try.make0 rfl)) (by kernel_rfl)) (by kernel_rfl)) (by kernel_rfl)) (by kernel_rfl))
theorem over : Rows.fnExactVotesAgainstRow.holds Try.pinned (OpenSpec.ofChange Rows.fnExactVotesAgainstSpec) :=
  OpenClaim.holds_of_wide 8 Try.f8 rfl rfl rfl rfl rfl rfl rfl ⟨rfl, rfl, rfl, rfl, rfl⟩ rfl rfl rfl rfl rfl (by kernel_rfl) Try.func8 closed
    (of_decide_eq_true (by kernel_rfl)) (by unfold Func.isWrapper; first | (rw [if_pos (by decide +kernel)]; kernel_rfl) | (rw [if_neg (by decide +kernel)]; exact ⟨rfl, rfl⟩))
    (fun os started H enc _ => lifted os started H enc)

theorem proved : Rows.FnExactVotesAgainstSaid := over
end Go.Proofs.Ytcppoepdpgeakaa.fnExactVotesAgainst

namespace Go.Proofs.Ytcppoepdpgeakaa
open Go.RowKit Go.Joins
theorem OnlyFaults_spec (us zs : List RW) (he : us.map (·.2) = zs.map (·.2)) (B : Nat) (v : Value) (w : World) (hr : RdRows w B v us) (hB : B ≤ w.heap.size) :
    Calls Try.prog 25 #[v] w fun e w' => e = .returned (.tuple #[.int .i64 (onlyFN (zs.map (·.2))), .bool (onlyFOk (zs.map (·.2)))]) ∧ Below w.heap.size w w' := by
  rw [← he]
  exact specOnlyFaults us B v w hr hB
theorem OnlyFaults_impl (us zs : List RW) (he : us.map (·.2) = zs.map (·.2)) (B : Nat) (v : Value) (w : World) (hr : RdRows w B v us) (hB : B ≤ w.heap.size) :
    Calls Try.prog 26 #[v] w fun e w' => e = .returned (.tuple #[.int .i64 (onlyFN (zs.map (·.2))), .bool (onlyFOk (zs.map (·.2)))]) ∧ Below w.heap.size w w' := by
  rw [← he]
  exact implOnlyFaults us B v w hr hB
end Go.Proofs.Ytcppoepdpgeakaa
namespace Go.Proofs.Ytcppoepdpgeakaa.fnExactOnlyFaults
open Go.ChangeShapes Go.WideShapes Go.ChangeAt Go.RowKit Go.Joins
attribute [local irreducible] synOk rowOk entOk fitsN fitsK toldE bitI fitsV setsN setsF votesF votesN heads madeE madeRow madeL madeV madeOk sureN onlyFN onlyFOk nums markTo offN runF
open Go.ChangeMaps (open_string shut_string)
set_option linter.unusedVariables false
set_option maxRecDepth 100000 in
set_option maxHeartbeats 4000000 in
theorem walk (a0 : Value) (z0 : List RW) (w : World) (w0 : RdRows w w.heap.size a0 z0) :
    Calls Try.prog 7 #[a0] w fun e w' => e = .returned (.bool true) ∧ Below w.heap.size w w' := by
  have Hr := Lib.hid w0
  obtain ⟨so, sc, rfl⟩ : ∃ so sc, a0 = .slice so z0.length sc := by obtain ⟨a, c, h, _⟩ := w0; exact ⟨a, c, h⟩
  clear w0
  go_enter Try.func7, Try.ntmps7
  go_wp2_with fail
  refine (szIntSS z0 _ _ _ Hr.out).mono ?_
  rintro e w' ⟨⟨r, rfl, hrr⟩, rfl⟩
  by_cases hneg : r < 0
  case pos =>
    clear hrr
    go_wp2
    go_ret
    exact ⟨rfl, Below.refl _ _⟩
  have hrr2 : 0 ≤ r ∧ z0.length ≤ 1048576 ∧ ∀ j, j < z0.length → (z0.getD j rw0).2.length ≤ 1048576 := by
    rcases hrr with h | h
    · omega
    · exact h
  obtain ⟨_hr0, hl, hlm⟩ := hrr2
  have Hlm := Lib.hid hlm
  obtain ⟨w1, rfl⟩ : ∃ w1 : World, w1 = w := ⟨_, rfl⟩
  have hB1 : Below w1.heap.size w1 w1 := Below.refl _ _
  clear hrr hlm
  have hs := fun us (he : us.map (·.2) = z0.map (·.2)) B u W h h1 => OnlyFaults_spec us z0 he B u W h h1
  have hp := fun us (he : us.map (·.2) = z0.map (·.2)) B u W h h1 => OnlyFaults_impl us z0 he B u W h h1
  generalize onlyFN (z0.map (·.2)) = T1 at *
  generalize onlyFOk (z0.map (·.2)) = T2 at *
  have Hs := Lib.hid hs
  have Hp := Lib.hid hp
  clear hs hp
  go_wp2_with fail
  refine (toIntSS z0 hl Hlm _ _ _ (Hr.out.kept hB1) (Nat.le_refl _)).mono ?_
  rintro e w2 ⟨v1, us1, rfl, hu1, hri1, hap1, hb2⟩
  obtain ⟨f1, c1, rfl⟩ := own_len8 hri1.1
  have HS1_2 := Lib.hid hri1
  have HU1 := Lib.hid hu1
  have HA1 := Lib.hid hap1
  clear hri1 hu1 hap1
  have hB2 : Below w1.heap.size w1 w2 := hB1.trans (hb2.mono hB1.size)
  clear hb2
  go_wp2_with fail
  refine (Hs.out us1 HU1.out _ _ _ HS1_2.out.rd (Nat.le_refl _)).mono ?_
  rintro e w3 ⟨rfl, hb3⟩
  have hB3 : Below w1.heap.size w1 w3 := hB2.trans (hb3.mono hB2.size)
  clear hb3
  go_wp2_with fail
  refine (toIntSS z0 hl Hlm _ _ _ (Hr.out.kept hB3) (Nat.le_refl _)).mono ?_
  rintro e w4 ⟨v2, us2, rfl, hu2, hri2, hap2, hb4⟩
  obtain ⟨f2, c2, rfl⟩ := own_len8 hri2.1
  have HS2_4 := Lib.hid hri2
  have HU2 := Lib.hid hu2
  have HA2 := Lib.hid hap2
  clear hri2 hu2 hap2
  have hB4 : Below w1.heap.size w1 w4 := hB3.trans (hb4.mono hB3.size)
  clear hb4
  go_wp2_with fail
  refine (Hp.out us2 HU2.out _ _ _ HS2_4.out.rd (Nat.le_refl _)).mono ?_
  rintro e w5 ⟨rfl, hb5⟩
  have hB5 : Below w1.heap.size w1 w5 := hB4.trans (hb5.mono hB4.size)
  have HS2_5 := Lib.hid (HS2_4.out.below hb5)
  clear hb5
  go_wp2_with fail
  refine (toIntSS z0 hl Hlm _ _ _ (Hr.out.kept hB5) (Nat.le_refl _)).mono ?_
  rintro e w6 ⟨v3, us3, rfl, hu3, hri3, hap3, hb6⟩
  obtain ⟨f3, c3, rfl⟩ := own_len8 hri3.1
  have HS3_6 := Lib.hid hri3
  have HU3 := Lib.hid hu3
  have HA3 := Lib.hid hap3
  clear hri3 hu3 hap3
  have hB6 : Below w1.heap.size w1 w6 := hB5.trans (hb6.mono hB5.size)
  have HS2_6 := Lib.hid (HS2_5.out.below hb6)
  clear hb6
  have Heq := Lib.hid (eqIntSS us2 us3 _ _ _ _ w6 HS2_6.out.rd HS3_6.out.rd)
  rw [decide_eq_true (HU2.out.trans HU3.out.symm)] at Heq
  go_wp2_with fail
  refine (Heq.out).mono ?_
  rintro e w7 ⟨rfl, n7, hw7⟩
  have hb7 : Below w6.heap.size w6 w7 := by rw [← hw7]; exact below_drewN9 (Below.refl _ _) _
  clear hw7
  have hB7 : Below w1.heap.size w1 w7 := hB6.trans (hb7.mono hB6.size)
  clear hb7
  go_wp2
  go_ret
  exact ⟨rfl, hB7⟩

set_option maxRecDepth 100000 in
theorem lifted (os : Os) (started : os.Started) (H : Type) (enc : TypeId × Value → H) :
    ReturnsInHanded {} Try.checked os 7 .any (Rows.fnExactOnlyFaultsSpec.pre6 enc Try.prog Try.f7 Rows.fnExactOnlyFaultsRow.domain false) (Rows.fnExactOnlyFaultsSpec.post enc Try.prog Try.f7 false true false false) := by
  refine returnsInHanded_of_change (C := Try.checked) Try.own started (by kernel_rfl) Try.func7
    (ChangeSpec.witness6 (enc := enc) (C := Try.checked) false ⟨#[], #[.slice none 0 0], []⟩ 8 (by kernel_rfl) (by kernel_rfl) (by kernel_rfl) (by kernel_rfl)) ?_
  intro W base args ds gs before hval0 hW hcnd _
  have hval : ∀ (j : Nat) t v, Try.f7.params[j]? = some t → args[j]? = some v → Value.okWide Try.prog W .any base t v := hval0
  have hW' := hW
  obtain ⟨p, q, hA0, hV, rfl, hfz, hnd⟩ := hW
  have hA : DataW.TrodAll enc Try.prog W 0 (fun _ => true) true Try.f7.params.toList args.toList ds p := hA0
  rw [Try.params7] at hA hval
  obtain ⟨v0, vs0, d0, ds0, p0, q0, hargs, rfl, rfl, h0, r0⟩ := trodAll_cons hA
  obtain ⟨rfl, rfl, rfl⟩ := trodAll_nil r0
  obtain rfl : args = #[v0] := by cases args; simp_all
  obtain ⟨rfl, rfl⟩ := trodVars_none hV
  obtain ⟨a0, len0, cap0, rfl⟩ := okWide_slice Try.underlying22 (hval 0 22 v0 rfl rfl)
  have k0 := h0
  have lt0 : ∀ x ∈ p0, x.block < W.heap.size := by obtain ⟨m, hm⟩ := k0; exact DataW.trod_lt m _ _ _ hm
  obtain ⟨z0, e0, w0⟩ : ∃ qs, len0 = qs.length ∧ RdRows W W.heap.size (.slice a0 len0 cap0) qs := by
    obtain ⟨fuel, hf⟩ := h0
    exact open_rows Try.underlying22 Try.underlying28 Try.underlying3 (by kernel_rfl) (by kernel_rfl) hf
  clear hA0 hval0
  refine (walk _ _ W w0).mono fun e W' ⟨he, bel⟩ => ?_
  subst he
  exact ⟨_, rfl, _, _, _, [], _, [], hW', trodAll_mk1 (shut_bool Try.underlying4 _), (trodAll_cons_mk (Below.trod Try.laidOut (by kernel_rfl) (of_decide_eq_true (by kernel_rfl)) k0 bel lt0) trodAll_mk0), rfl, bel.frame _, fun h => by cases h⟩

theorem closed : joinedFacts Try.pinned.checked.prog 7 Try.f7 Rows.fnExactOnlyFaultsSpec Rows.fnExactOnlyFaultsRow = true := by
  unfold joinedFacts
  exact (and_tt (and_tt (and_tt (and_tt (and_tt (and_tt (and_tt (and_tt (and_tt (and_tt (and_tt (and_tt (and_tt (and_tt (and_tt (and_tt (and_tt (and_tt (and_tt (and_tt (and_tt (and_tt (and_tt (and_tt (and_tt (and_tt (and_tt (and_tt (and_tt (and_tt (and_tt (by kernel_rfl) (by kernel_rfl)) (by kernel_rfl)) (by kernel_rfl)) (by kernel_rfl)) (by kernel_rfl)) (by kernel_rfl)) (by kernel_rfl)) (by kernel_rfl)) (by kernel_rfl)) (by kernel_rfl)) (by kernel_rfl)) (by kernel_rfl)) (by kernel_rfl)) (by kernel_rfl)) (by kernel_rfl)) (by kernel_rfl)) (by kernel_rfl)) (by kernel_rfl)) (by kernel_rfl)) (by kernel_rfl)) (by kernel_rfl)) (by kernel_rfl)) (by kernel_rfl)) (by kernel_rfl)) Try.mayEnter0) (lifted_tt Try.lifts0 rfl)) (make_tt Try.make0 rfl)) (by kernel_rfl)) (by kernel_rfl)) (by kernel_rfl)) (by kernel_rfl))
theorem over : Rows.fnExactOnlyFaultsRow.holds Try.pinned (OpenSpec.ofChange Rows.fnExactOnlyFaultsSpec) :=
  OpenClaim.holds_of_wide 7 Try.f7 rfl rfl rfl rfl rfl rfl rfl ⟨rfl, rfl, rfl, rfl, rfl⟩ rfl rfl rfl rfl rfl (by kernel_rfl) Try.func7 closed
    (of_decide_eq_true (by kernel_rfl)) (by unfold Func.isWrapper; first | (rw [if_pos (by decide +kernel)]; kernel_rfl) | (rw [if_neg (by decide +kernel)]; exact ⟨rfl, rfl⟩))
    (fun os started H enc _ => lifted os started H enc)

theorem proved : Rows.FnExactOnlyFaultsSaid := over
end Go.Proofs.Ytcppoepdpgeakaa.fnExactOnlyFaults

