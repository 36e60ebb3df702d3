/- Exact laws of stage 9: rows of kinds, and their worlds. No condition. -/
import Derived.Test.YtobbbmcppmohoaaSpyI
import Derived.Test.YtobbbmcppmohoaaHelpers
import Derived.Test.YtobbbmcppmohoaaFrame
import Derived.WalkKit
import Derived.ProofKit
namespace Go.Proofs.Ytobbbmcppmohoaa.fnExactKindsOk
open Go.ChangeShapes Go.WideShapes Go.ChangeAt Go.RowKit
attribute [local irreducible] holds tabN tabV holdsV sameV followsV alwaysV matterV claimOk mayT mayV ctabV ctabN storyV storyOk storyN storyT ctermV ctermL saysT saysV spyT spyV kindsOk kwN kwV tabF kRow spiesN fewF rowsF fewV rowsV mcells tmOf ccells
open Go.ChangeMaps (open_string shut_string)
set_option linter.unusedVariables false
set_option maxRecDepth 100000 in
set_option maxHeartbeats 4000000 in
theorem walk (a0 : Value) (z0 : List Int) (w : World) (w0 : RdInts w w.heap.size a0 z0) :
    Calls Try.prog 10 #[a0] w fun e w' => e = .returned (.bool true) ∧ Below w.heap.size w w' := by
  have hs9 := fun (B : Nat) (v : Value) (W : World) h => specKindsOk z0 B v W h
  have hp9 := fun (B : Nat) (v : Value) (W : World) h => implKindsOk z0 B v W h
  generalize kindsOk z0 = T at *
  have Hs9 := Lib.hid hs9; clear hs9
  have Hp9 := Lib.hid hp9; clear hp9
  obtain ⟨ao, cap, rfl, hl, hm, hc⟩ := w0
  by_cases hlen : 1048576 < z0.length
  · unfold maxLen at hm
    have hlen' : (1048576 : Int) < (z0.length : Int) := by omega
    clear hlen hc
    go_enter Try.func10, Try.ntmps10
    go_wp2
    go_ret
    exact ⟨rfl, Below.refl _ _⟩
  · have hr : RdInts w w.heap.size (.slice ao z0.length cap) z0 := ⟨ao, cap, rfl, hl, hm, hc⟩
    have hlen' : (z0.length : Int) ≤ 1048576 := by omega
    have hlen2 : z0.length ≤ 17592186044416 := by omega
    have Hr := Lib.hid hr
    clear hlen hc hr hl hm
    go_enter Try.func10, Try.ntmps10
    go_wp2_with fail
    refine (toIntS z0 hlen2 _ _ _ Hr.out (Nat.le_refl _)).mono ?_
    rintro e w1 ⟨v1, rfl, hown1, hb1⟩
    have Hown1 := Lib.hid hown1; clear hown1
    go_wp2_with fail
    refine (Hs9.out _ _ _ (RdInts.of_own Hown1.out)).mono ?_
    rintro e w1' ⟨rfl, rfl⟩
    go_wp2_with fail
    refine (toIntS z0 hlen2 _ _ _ (Hr.out.below (below_block hb1 (Nat.le_refl _))) hb1.size).mono ?_
    rintro e w2 ⟨v2, rfl, hown2, hb2⟩
    have Hown2 := Lib.hid hown2; clear hown2
    have hb2' : Below w.heap.size w w2 := hb1.trans (hb2.mono hb1.size)
    go_wp2_with fail
    refine (Hp9.out _ _ _ (RdInts.of_own Hown2.out)).mono ?_
    rintro e w2' ⟨rfl, rfl⟩
    go_wp2_with fail
    refine (toIntS z0 hlen2 _ _ _ (Hr.out.below (below_block hb2' (Nat.le_refl _))) hb2'.size).mono ?_
    rintro e w3 ⟨v3, rfl, hown3, hb3⟩
    have Hown3 := Lib.hid hown3; clear hown3
    have hb3' : Below w.heap.size w w3 := hb2'.trans (hb3.mono hb2'.size)
    go_wp2_with fail
    refine (eqIntS z0 z0 _ _ _ _ _ ((RdInts.of_own Hown2.out).below (below_block hb3 (Nat.le_refl _))) (RdInts.of_own Hown3.out)).mono ?_
    rintro e w4 ⟨rfl, n4, rfl⟩
    rw [show decide (z0 = z0) = true from by simp]
    go_wp2
    go_ret
    exact ⟨rfl, below_drewN hb3' _⟩

set_option maxRecDepth 100000 in
theorem lifted (os : Os) (started : os.Started) (H : Type) (enc : TypeId × Value → H) :
    ReturnsInHanded {} Try.checked os 10 .any (Rows.fnExactKindsOkSpec.pre6 enc Try.prog Try.f10 Rows.fnExactKindsOkRow.domain false) (Rows.fnExactKindsOkSpec.post enc Try.prog Try.f10 false true false false) := by
  refine returnsInHanded_of_change (C := Try.checked) Try.own started (by kernel_rfl) Try.func10
    (ChangeSpec.witness6 (enc := enc) (C := Try.checked) false ⟨#[], #[.slice none 0 0], []⟩ 8 (by kernel_rfl) (by kernel_rfl) (by kernel_rfl) (by kernel_rfl)) ?_
  intro W base args ds gs before hval0 hW hcnd _
  have hval : ∀ (j : Nat) t v, Try.f10.params[j]? = some t → args[j]? = some v → Value.okWide Try.prog W .any base t v := hval0
  have hW' := hW
  obtain ⟨p, q, hA0, hV, rfl, hfz, hnd⟩ := hW
  have hA : DataW.TrodAll enc Try.prog W 0 (fun _ => true) true Try.f10.params.toList args.toList ds p := hA0
  rw [Try.params10] at hA hval
  obtain ⟨v0, vs0, d0, ds0, p0, q0, hargs, rfl, rfl, h0, r0⟩ := trodAll_cons hA
  obtain ⟨rfl, rfl, rfl⟩ := trodAll_nil r0
  obtain rfl : args = #[v0] := by cases args; simp_all
  obtain ⟨rfl, rfl⟩ := trodVars_none hV
  obtain ⟨a0, len0, cap0, rfl⟩ := okWide_slice Try.underlying23 (hval 0 23 v0 rfl rfl)
  have k0 := h0
  have lt0 : ∀ x ∈ p0, x.block < W.heap.size := by obtain ⟨m, hm⟩ := k0; exact DataW.trod_lt m _ _ _ hm
  obtain ⟨z0, w0⟩ : ∃ zs, IsRow .i64 W a0 len0 cap0 zs := by
    obtain ⟨fuel, hf⟩ := h0
    rcases open_ints Try.underlying23 Try.underlying3 (by kernel_rfl) hf with ⟨hcs, _⟩ | ⟨x, l, c, zs, hcs, _, hl, hm, hz, _, hcell, hwz⟩
    · simp [Value.cells] at hcs
      obtain ⟨rfl, rfl, rfl⟩ := hcs
      exact ⟨[], .inl ⟨rfl, rfl, rfl, rfl⟩⟩
    · simp [Value.cells] at hcs
      obtain ⟨rfl, rfl, rfl⟩ := hcs
      exact ⟨zs, .inr ⟨_, rfl, hl, hm, by simpa using hz, hcell, hwz⟩⟩
  clear hA0 hval0
  refine (walk _ _ W (RdInts.of_row w0)).mono fun e W' ⟨he, bel⟩ => ?_
  subst he
  exact ⟨_, rfl, _, _, _, [], _, [], hW', trodAll_mk1 (shut_bool Try.underlying4 _), (trodAll_cons_mk (Below.trod Try.laidOut (by kernel_rfl) (of_decide_eq_true (by kernel_rfl)) k0 bel lt0) trodAll_mk0), rfl, bel.frame _, fun h => by cases h⟩

theorem closed : joinedFacts Try.pinned.checked.prog 10 Try.f10 Rows.fnExactKindsOkSpec Rows.fnExactKindsOkRow = true := by
  unfold joinedFacts
  exact (and_tt (and_tt (and_tt (and_tt (and_tt (and_tt (and_tt (and_tt (and_tt (and_tt (and_tt (and_tt (and_tt (and_tt (and_tt (and_tt (and_tt (and_tt (and_tt (and_tt (and_tt (and_tt (and_tt (and_tt (and_tt (and_tt (and_tt (and_tt (and_tt (and_tt (and_tt (by kernel_rfl) (by kernel_rfl)) (by kernel_rfl)) (by kernel_rfl)) (by kernel_rfl)) (by kernel_rfl)) (by kernel_rfl)) (by kernel_rfl)) (by kernel_rfl)) (by kernel_rfl)) (by kernel_rfl)) (by kernel_rfl)) (by kernel_rfl)) (by kernel_rfl)) (by kernel_rfl)) (by kernel_rfl)) (by kernel_rfl)) (by kernel_rfl)) (by kernel_rfl)) (by kernel_rfl)) (by kernel_rfl)) (by kernel_rfl)) (by kernel_rfl)) (by kernel_rfl)) (by kernel_rfl)) Try.mayEnter0) (lifted_tt Try.lifts0 rfl)) (make_tt Try.make0 rfl)) (by kernel_rfl)) (by kernel_rfl)) (by kernel_rfl)) (by kernel_rfl))
theorem over : Rows.fnExactKindsOkRow.holds Try.pinned (OpenSpec.ofChange Rows.fnExactKindsOkSpec) :=
  OpenClaim.holds_of_wide 10 Try.f10 rfl rfl rfl rfl rfl rfl rfl ⟨rfl, rfl, rfl, rfl, rfl⟩ rfl rfl rfl rfl rfl (by kernel_rfl) Try.func10 closed
    (of_decide_eq_true (by kernel_rfl)) (by unfold Func.isWrapper; first | (rw [if_pos (by decide +kernel)]; kernel_rfl) | (rw [if_neg (by decide +kernel)]; exact ⟨rfl, rfl⟩))
    (fun os started H enc _ => lifted os started H enc)

theorem proved : Rows.FnExactKindsOkSaid := over
end Go.Proofs.Ytobbbmcppmohoaa.fnExactKindsOk

namespace Go.Proofs.Ytobbbmcppmohoaa.fnExactWorldOfKinds
open Go.ChangeShapes Go.WideShapes Go.ChangeAt Go.RowKit
attribute [local irreducible] holds tabN tabV holdsV sameV followsV alwaysV matterV claimOk mayT mayV ctabV ctabN storyV storyOk storyN storyT ctermV ctermL saysT saysV spyT spyV kindsOk kwN kwV tabF kRow spiesN fewF rowsF fewV rowsV mcells tmOf ccells
open Go.ChangeMaps (open_string shut_string)
set_option linter.unusedVariables false
set_option maxRecDepth 100000 in
set_option maxHeartbeats 4000000 in
theorem walk (a0 : Value) (z0 : List Int) (w : World) (w0 : RdInts w w.heap.size a0 z0) :
    Calls Try.prog 11 #[a0] w fun e w' => e = .returned (.bool true) ∧ Below w.heap.size w w' := by
  have hs9 := fun (B : Nat) (v : Value) (W : World) h => specWorldOfKinds z0 B v W h
  have hp9 := fun (B : Nat) (v : Value) (W : World) h => implWorldOfKinds z0 B v W h
  generalize kwV z0 = T at *
  have Hs9 := Lib.hid hs9; clear hs9
  have Hp9 := Lib.hid hp9; clear hp9
  obtain ⟨ao, cap, rfl, hl, hm, hc⟩ := w0
  by_cases hlen : 1048576 < z0.length
  · unfold maxLen at hm
    have hlen' : (1048576 : Int) < (z0.length : Int) := by omega
    clear hlen hc
    go_enter Try.func11, Try.ntmps11
    go_wp2
    go_ret
    exact ⟨rfl, Below.refl _ _⟩
  · have hr : RdInts w w.heap.size (.slice ao z0.length cap) z0 := ⟨ao, cap, rfl, hl, hm, hc⟩
    have hlen' : (z0.length : Int) ≤ 1048576 := by omega
    have hlen2 : z0.length ≤ 17592186044416 := by omega
    have Hr := Lib.hid hr
    clear hlen hc hr hl hm
    go_enter Try.func11, Try.ntmps11
    go_wp2_with fail
    refine (toIntS z0 hlen2 _ _ _ Hr.out (Nat.le_refl _)).mono ?_
    rintro e w1 ⟨v1, rfl, hown1, hb1⟩
    have Hown1 := Lib.hid hown1; clear hown1
    go_wp2_with fail
    refine (Hs9.out _ _ _ (RdInts.of_own Hown1.out)).mono ?_
    rintro e w1' ⟨rfl, rfl⟩
    go_wp2_with fail
    refine (toIntS z0 hlen2 _ _ _ (Hr.out.below (below_block hb1 (Nat.le_refl _))) hb1.size).mono ?_
    rintro e w2 ⟨v2, rfl, hown2, hb2⟩
    have Hown2 := Lib.hid hown2; clear hown2
    have hb2' : Below w.heap.size w w2 := hb1.trans (hb2.mono hb1.size)
    go_wp2_with fail
    refine (Hp9.out _ _ _ (RdInts.of_own Hown2.out)).mono ?_
    rintro e w2' ⟨rfl, rfl⟩
    go_wp2_with fail
    refine (toIntS z0 hlen2 _ _ _ (Hr.out.below (below_block hb2' (Nat.le_refl _))) hb2'.size).mono ?_
    rintro e w3 ⟨v3, rfl, hown3, hb3⟩
    have Hown3 := Lib.hid hown3; clear hown3
    have hb3' : Below w.heap.size w w3 := hb2'.trans (hb3.mono hb2'.size)
    go_wp2_with fail
    refine (eqIntS z0 z0 _ _ _ _ _ ((RdInts.of_own Hown2.out).below (below_block hb3 (Nat.le_refl _))) (RdInts.of_own Hown3.out)).mono ?_
    rintro e w4 ⟨rfl, n4, rfl⟩
    rw [show decide (z0 = z0) = true from by simp]
    go_wp2
    go_ret
    exact ⟨rfl, below_drewN hb3' _⟩

set_option maxRecDepth 100000 in
theorem lifted (os : Os) (started : os.Started) (H : Type) (enc : TypeId × Value → H) :
    ReturnsInHanded {} Try.checked os 11 .any (Rows.fnExactWorldOfKindsSpec.pre6 enc Try.prog Try.f11 Rows.fnExactWorldOfKindsRow.domain false) (Rows.fnExactWorldOfKindsSpec.post enc Try.prog Try.f11 false true false false) := by
  refine returnsInHanded_of_change (C := Try.checked) Try.own started (by kernel_rfl) Try.func11
    (ChangeSpec.witness6 (enc := enc) (C := Try.checked) false ⟨#[], #[.slice none 0 0], []⟩ 8 (by kernel_rfl) (by kernel_rfl) (by kernel_rfl) (by kernel_rfl)) ?_
  intro W base args ds gs before hval0 hW hcnd _
  have hval : ∀ (j : Nat) t v, Try.f11.params[j]? = some t → args[j]? = some v → Value.okWide Try.prog W .any base t v := hval0
  have hW' := hW
  obtain ⟨p, q, hA0, hV, rfl, hfz, hnd⟩ := hW
  have hA : DataW.TrodAll enc Try.prog W 0 (fun _ => true) true Try.f11.params.toList args.toList ds p := hA0
  rw [Try.params11] at hA hval
  obtain ⟨v0, vs0, d0, ds0, p0, q0, hargs, rfl, rfl, h0, r0⟩ := trodAll_cons hA
  obtain ⟨rfl, rfl, rfl⟩ := trodAll_nil r0
  obtain rfl : args = #[v0] := by cases args; simp_all
  obtain ⟨rfl, rfl⟩ := trodVars_none hV
  obtain ⟨a0, len0, cap0, rfl⟩ := okWide_slice Try.underlying23 (hval 0 23 v0 rfl rfl)
  have k0 := h0
  have lt0 : ∀ x ∈ p0, x.block < W.heap.size := by obtain ⟨m, hm⟩ := k0; exact DataW.trod_lt m _ _ _ hm
  obtain ⟨z0, w0⟩ : ∃ zs, IsRow .i64 W a0 len0 cap0 zs := by
    obtain ⟨fuel, hf⟩ := h0
    rcases open_ints Try.underlying23 Try.underlying3 (by kernel_rfl) hf with ⟨hcs, _⟩ | ⟨x, l, c, zs, hcs, _, hl, hm, hz, _, hcell, hwz⟩
    · simp [Value.cells] at hcs
      obtain ⟨rfl, rfl, rfl⟩ := hcs
      exact ⟨[], .inl ⟨rfl, rfl, rfl, rfl⟩⟩
    · simp [Value.cells] at hcs
      obtain ⟨rfl, rfl, rfl⟩ := hcs
      exact ⟨zs, .inr ⟨_, rfl, hl, hm, by simpa using hz, hcell, hwz⟩⟩
  clear hA0 hval0
  refine (walk _ _ W (RdInts.of_row w0)).mono fun e W' ⟨he, bel⟩ => ?_
  subst he
  exact ⟨_, rfl, _, _, _, [], _, [], hW', trodAll_mk1 (shut_bool Try.underlying4 _), (trodAll_cons_mk (Below.trod Try.laidOut (by kernel_rfl) (of_decide_eq_true (by kernel_rfl)) k0 bel lt0) trodAll_mk0), rfl, bel.frame _, fun h => by cases h⟩

theorem closed : joinedFacts Try.pinned.checked.prog 11 Try.f11 Rows.fnExactWorldOfKindsSpec Rows.fnExactWorldOfKindsRow = true := by
  unfold joinedFacts
  exact (and_tt (and_tt (and_tt (and_tt (and_tt (and_tt (and_tt (and_tt (and_tt (and_tt (and_tt (and_tt (and_tt (and_tt (and_tt (and_tt (and_tt (and_tt (and_tt (and_tt (and_tt (and_tt (and_tt (and_tt (and_tt (and_tt (and_tt (and_tt (and_tt (and_tt (and_tt (by kernel_rfl) (by kernel_rfl)) (by kernel_rfl)) (by kernel_rfl)) (by kernel_rfl)) (by kernel_rfl)) (by kernel_rfl)) (by kernel_rfl)) (by kernel_rfl)) (by kernel_rfl)) (by kernel_rfl)) (by kernel_rfl)) (by kernel_rfl)) (by kernel_rfl)) (by kernel_rfl)) (by kernel_rfl)) (by kernel_rfl)) (by kernel_rfl)) (by kernel_rfl)) (by kernel_rfl)) (by kernel_rfl)) (by kernel_rfl)) (by kernel_rfl)) (by kernel_rfl)) (by kernel_rfl)) Try.mayEnter0) (lifted_tt Try.lifts0 rfl)) (make_tt Try.make0 rfl)) (by kernel_rfl)) (by kernel_rfl)) (by kernel_rfl)) (by kernel_rfl))
theorem over : Rows.fnExactWorldOfKindsRow.holds Try.pinned (OpenSpec.ofChange Rows.fnExactWorldOfKindsSpec) :=
  OpenClaim.holds_of_wide 11 Try.f11 rfl rfl rfl rfl rfl rfl rfl ⟨rfl, rfl, rfl, rfl, rfl⟩ rfl rfl rfl rfl rfl (by kernel_rfl) Try.func11 closed
    (of_decide_eq_true (by kernel_rfl)) (by unfold Func.isWrapper; first | (rw [if_pos (by decide +kernel)]; kernel_rfl) | (rw [if_neg (by decide +kernel)]; exact ⟨rfl, rfl⟩))
    (fun os started H enc _ => lifted os started H enc)

theorem proved : Rows.FnExactWorldOfKindsSaid := over
end Go.Proofs.Ytobbbmcppmohoaa.fnExactWorldOfKinds

