/- Exact laws of stage 3: a term in a world, its table, what always holds, who matters. No condition. -/
import Derived.Test.YtiakelhpmiffdaaMarksC
import Derived.Test.YtiakelhpmiffdaaTruthI
import Derived.Test.YtiakelhpmiffdaaFrameM
namespace Go.Proofs.Ytiakelhpmiffdaa.fnExactTableOf
open Go.ChangeShapes Go.WideShapes Go.ChangeAt Go.RowKit
attribute [local irreducible] holds tabV holdsV sameV followsV alwaysV matterV mcells
open Go.ChangeMaps (open_string shut_string)
set_option linter.unusedVariables false
set_option maxRecDepth 100000 in
set_option maxHeartbeats 2000000 in
theorem walk (a0 : Int) (a1 : Value) (z1 : List (Int × Int)) (w : World) (w0 : (Lit.int .i64 a0).wf = true) (w1 : RdMarks w w.heap.size a1 z1) :
    Calls Try.prog 12 #[.int .i64 a0, a1] w fun e w' => e = .returned (.bool true) ∧ Below w.heap.size w w' := by
  obtain ⟨ao, cap, rfl, hl, hm, hi, hc⟩ := w1
  by_cases hlen : 1048576 < z1.length
  · unfold maxLen at hm
    have hm' : (z1.length : Int) ≤ 9223372036854775807 := by omega
    have hsz : Hid ((if z1.length ≤ 1048576 then 1048576 - (z1.length : Int) else -1) = -1) := by unfold Hid; rw [if_neg (by omega)]
    clear hc hi
    go_enter Try.func12, Try.ntmps12
    go_wp2_with fail
    refine (szMarkS _ _ _ hm' _).mono ?_
    rintro e w' ⟨rfl, rfl⟩
    rw [hsz.out]
    go_wp2
    go_ret
    exact ⟨rfl, Below.refl _ _⟩
  · have hr : RdMarks w w.heap.size (.slice ao z1.length cap) z1 := ⟨ao, cap, rfl, hl, hm, hi, hc⟩
    have hm' : (z1.length : Int) ≤ 9223372036854775807 := by omega
    have hlen2 : z1.length ≤ 1048576 := by omega
    have hsz : Hid ((if z1.length ≤ 1048576 then 1048576 - (z1.length : Int) else -1) = 1048576 - (z1.length : Int)) := by unfold Hid; rw [if_pos hlen2]
    have hlen3 : (z1.length : Int) ≤ 1048576 := by omega
    have Hi := Lib.hid hi
    have Hr := Lib.hid hr
    clear hlen hc hr hl hm hi
    have hs := fun (B : Nat) (v : Value) (W : World) h h2 => specTableOf a0 z1 B v W h h2
    have hp := fun (B : Nat) (v : Value) (W : World) h h2 => implTableOf a0 z1 B v W h h2
    generalize tabV a0 z1 = T at *
    have Hs := Lib.hid hs; clear hs
    have Hp := Lib.hid hp; clear hp
    go_enter Try.func12, Try.ntmps12
    go_wp2_with fail
    refine (szMarkS _ _ _ hm' _).mono ?_
    rintro e w' ⟨rfl, rfl⟩
    rw [hsz.out]
    go_wp2_with fail
    refine (toMarkS z1 hlen2 _ _ _ Hr.out (Nat.le_refl _)).mono ?_
    rintro e w1 ⟨v1, rfl, hown1, hb1⟩
    have Hown1 := Lib.hid hown1; clear hown1
    go_wp2_with fail
    refine (Hs.out _ _ _ (RdMarks.of_own Hown1.out Hi.out) (Nat.le_refl _)).mono ?_
    rintro e w1b ⟨rfl, hb1b⟩
    have hb1' : Below w.heap.size w w1b := hb1.trans (hb1b.mono hb1.size)
    go_wp2_with fail
    refine (toMarkS z1 hlen2 _ _ _ (Hr.out.below (below_block hb1' (Nat.le_refl _))) hb1'.size).mono ?_
    rintro e w2 ⟨v2, rfl, hown2, hb2⟩
    have Hown2 := Lib.hid hown2; clear hown2
    have hb2' : Below w.heap.size w w2 := hb1'.trans (hb2.mono hb1'.size)
    go_wp2_with fail
    refine (Hp.out _ _ _ (RdMarks.of_own Hown2.out Hi.out) (Nat.le_refl _)).mono ?_
    rintro e w3 ⟨rfl, hb3⟩
    have hb3' : Below w.heap.size w w3 := hb2'.trans (hb3.mono hb2'.size)
    go_wp2_with fail
    refine (toMarkS z1 hlen2 _ _ _ (Hr.out.below (below_block hb3' (Nat.le_refl _))) hb3'.size).mono ?_
    rintro e w4 ⟨v4, rfl, hown4, hb4⟩
    have Hown4 := Lib.hid hown4; clear hown4
    have hb4' : Below w.heap.size w w4 := hb3'.trans (hb4.mono hb3'.size)
    have Hown24 := Lib.hid (own_below (own_below Hown2.out hb3) hb4)
    go_wp2_with fail
    refine (eqMarkS z1 z1 _ _ _ _ _ (RdMarks.of_own Hown24.out Hi.out) (RdMarks.of_own Hown4.out Hi.out) (Nat.le_refl _) (Nat.le_refl _)).mono ?_
    rintro e w5 ⟨rfl, hb5⟩
    rw [show decide (z1 = z1) = true from by simp]
    have hb5' : Below w.heap.size w w5 := hb4'.trans (hb5.mono hb4'.size)
    go_wp2
    go_ret
    exact ⟨rfl, hb5'⟩

set_option maxRecDepth 100000 in
theorem lifted (os : Os) (started : os.Started) (H : Type) (enc : TypeId × Value → H) :
    ReturnsInHanded {} Try.checked os 12 .any (Rows.fnExactTableOfSpec.pre6 enc Try.prog Try.f12 Rows.fnExactTableOfRow.domain false) (Rows.fnExactTableOfSpec.post enc Try.prog Try.f12 false true false false) := by
  refine returnsInHanded_of_change (C := Try.checked) Try.own started (by kernel_rfl) Try.func12
    (ChangeSpec.witness6 (enc := enc) (C := Try.checked) false ⟨#[], #[.int .i64 0, .slice none 0 0], []⟩ 8 (by kernel_rfl) (by kernel_rfl) (by kernel_rfl) (by kernel_rfl)) ?_
  intro W base args ds gs before hval0 hW hcnd _
  have hval : ∀ (j : Nat) t v, Try.f12.params[j]? = some t → args[j]? = some v → Value.okWide Try.prog W .any base t v := hval0
  have hW' := hW
  obtain ⟨p, q, hA0, hV, rfl, hfz, hnd⟩ := hW
  have hA : DataW.TrodAll enc Try.prog W 0 (fun _ => true) true Try.f12.params.toList args.toList ds p := hA0
  rw [Try.params12] at hA hval
  obtain ⟨v0, vs0, d0, ds0, p0, q0, hargs, rfl, rfl, h0, r0⟩ := trodAll_cons hA
  obtain ⟨v1, vs1, d1, ds1, p1, q1, rfl, rfl, rfl, h1, r1⟩ := trodAll_cons r0
  obtain ⟨rfl, rfl, rfl⟩ := trodAll_nil r1
  obtain rfl : args = #[v0, v1] := by cases args; simp_all
  obtain ⟨rfl, rfl⟩ := trodVars_none hV
  obtain ⟨a0, rfl, rfl, rfl, w0⟩ := open_int Try.underlying3 (hval 0 3 v0 rfl rfl) h0
  obtain ⟨a1, len1, cap1, rfl⟩ := okWide_slice Try.underlying45 (hval 1 45 v1 rfl rfl)
  have k1 := h1
  have lt1 : ∀ x ∈ p1, x.block < W.heap.size := by obtain ⟨m, hm⟩ := k1; exact DataW.trod_lt m _ _ _ hm
  obtain ⟨z1, w1⟩ : ∃ zs, IsMarks W a1 len1 cap1 zs := by
    obtain ⟨fuel, hf⟩ := h1
    exact open_marks Try.underlying45 Try.underlying66 (by kernel_rfl) rfl rfl (by kernel_rfl) (by kernel_rfl) Try.underlying3 Try.underlying3 hf
  clear hA0 hval0
  refine (walk a0 _ _ W w0 (RdMarks.of_row w1)).mono fun e W' ⟨he, bel⟩ => ?_
  subst he
  exact ⟨_, rfl, _, _, _, [], _, [], hW', trodAll_mk1 (shut_bool Try.underlying4 _), (trodAll_cons_mk (shut_int Try.underlying3 w0) (trodAll_cons_mk (Below.trod Try.laidOut (by kernel_rfl) (of_decide_eq_true (by kernel_rfl)) k1 bel lt1) trodAll_mk0)), rfl, bel.frame _, fun h => by cases h⟩

theorem closed : joinedFacts Try.pinned.checked.prog 12 Try.f12 Rows.fnExactTableOfSpec Rows.fnExactTableOfRow = true := by
  unfold joinedFacts
  exact (and_tt (and_tt (and_tt (and_tt (and_tt (and_tt (and_tt (and_tt (and_tt (and_tt (and_tt (and_tt (and_tt (and_tt (and_tt (and_tt (and_tt (and_tt (and_tt (and_tt (and_tt (and_tt (and_tt (and_tt (and_tt (and_tt (and_tt (and_tt (and_tt (and_tt (and_tt (by kernel_rfl) (by kernel_rfl)) (by kernel_rfl)) (by kernel_rfl)) (by kernel_rfl)) (by kernel_rfl)) (by kernel_rfl)) (by kernel_rfl)) (by kernel_rfl)) (by kernel_rfl)) (by kernel_rfl)) (by kernel_rfl)) (by kernel_rfl)) (by kernel_rfl)) (by kernel_rfl)) (by kernel_rfl)) (by kernel_rfl)) (by kernel_rfl)) (by kernel_rfl)) (by kernel_rfl)) (by kernel_rfl)) (by kernel_rfl)) (by kernel_rfl)) (by kernel_rfl)) (by kernel_rfl)) Try.mayEnter0) (lifted_tt Try.lifts0 rfl)) (make_tt Try.make0 rfl)) (by kernel_rfl)) (by kernel_rfl)) (by kernel_rfl)) (by kernel_rfl))
theorem over : Rows.fnExactTableOfRow.holds Try.pinned (OpenSpec.ofChange Rows.fnExactTableOfSpec) :=
  OpenClaim.holds_of_wide 12 Try.f12 rfl rfl rfl rfl rfl rfl rfl ⟨rfl, rfl, rfl, rfl, rfl⟩ rfl rfl rfl rfl rfl (by kernel_rfl) Try.func12 closed
    (of_decide_eq_true (by kernel_rfl)) (by unfold Func.isWrapper; first | (rw [if_pos (by decide +kernel)]; kernel_rfl) | (rw [if_neg (by decide +kernel)]; exact ⟨rfl, rfl⟩))
    (fun os started H enc _ => lifted os started H enc)

theorem proved : Rows.FnExactTableOfSaid := over
end Go.Proofs.Ytiakelhpmiffdaa.fnExactTableOf

namespace Go.Proofs.Ytiakelhpmiffdaa.fnExactMatterIn
open Go.ChangeShapes Go.WideShapes Go.ChangeAt Go.RowKit
attribute [local irreducible] holds tabV holdsV sameV followsV alwaysV matterV mcells
open Go.ChangeMaps (open_string shut_string)
set_option linter.unusedVariables false
set_option maxRecDepth 100000 in
set_option maxHeartbeats 2000000 in
theorem walk (a0 : Int) (a1 : Value) (z1 : List (Int × Int)) (w : World) (w0 : (Lit.int .i64 a0).wf = true) (w1 : RdMarks w w.heap.size a1 z1) :
    Calls Try.prog 16 #[.int .i64 a0, a1] w fun e w' => e = .returned (.bool true) ∧ Below w.heap.size w w' := by
  obtain ⟨ao, cap, rfl, hl, hm, hi, hc⟩ := w1
  by_cases hlen : 1048576 < z1.length
  · unfold maxLen at hm
    have hm' : (z1.length : Int) ≤ 9223372036854775807 := by omega
    have hsz : Hid ((if z1.length ≤ 1048576 then 1048576 - (z1.length : Int) else -1) = -1) := by unfold Hid; rw [if_neg (by omega)]
    clear hc hi
    go_enter Try.func16, Try.ntmps16
    go_wp2_with fail
    refine (szMarkS _ _ _ hm' _).mono ?_
    rintro e w' ⟨rfl, rfl⟩
    rw [hsz.out]
    go_wp2
    go_ret
    exact ⟨rfl, Below.refl _ _⟩
  · have hr : RdMarks w w.heap.size (.slice ao z1.length cap) z1 := ⟨ao, cap, rfl, hl, hm, hi, hc⟩
    have hm' : (z1.length : Int) ≤ 9223372036854775807 := by omega
    have hlen2 : z1.length ≤ 1048576 := by omega
    have hsz : Hid ((if z1.length ≤ 1048576 then 1048576 - (z1.length : Int) else -1) = 1048576 - (z1.length : Int)) := by unfold Hid; rw [if_pos hlen2]
    have hlen3 : (z1.length : Int) ≤ 1048576 := by omega
    have Hi := Lib.hid hi
    have Hr := Lib.hid hr
    clear hlen hc hr hl hm hi
    have hs := fun (B : Nat) (v : Value) (W : World) h h2 => specMatterIn a0 z1 B v W h h2
    have hp := fun (B : Nat) (v : Value) (W : World) h h2 => implMatterIn a0 z1 B v W h h2
    generalize matterV a0 z1 = T at *
    have Hs := Lib.hid hs; clear hs
    have Hp := Lib.hid hp; clear hp
    go_enter Try.func16, Try.ntmps16
    go_wp2_with fail
    refine (szMarkS _ _ _ hm' _).mono ?_
    rintro e w' ⟨rfl, rfl⟩
    rw [hsz.out]
    go_wp2_with fail
    refine (toMarkS z1 hlen2 _ _ _ Hr.out (Nat.le_refl _)).mono ?_
    rintro e w1 ⟨v1, rfl, hown1, hb1⟩
    have Hown1 := Lib.hid hown1; clear hown1
    go_wp2_with fail
    refine (Hs.out _ _ _ (RdMarks.of_own Hown1.out Hi.out) (Nat.le_refl _)).mono ?_
    rintro e w1b ⟨rfl, hb1b⟩
    have hb1' : Below w.heap.size w w1b := hb1.trans (hb1b.mono hb1.size)
    go_wp2_with fail
    refine (toMarkS z1 hlen2 _ _ _ (Hr.out.below (below_block hb1' (Nat.le_refl _))) hb1'.size).mono ?_
    rintro e w2 ⟨v2, rfl, hown2, hb2⟩
    have Hown2 := Lib.hid hown2; clear hown2
    have hb2' : Below w.heap.size w w2 := hb1'.trans (hb2.mono hb1'.size)
    go_wp2_with fail
    refine (Hp.out _ _ _ (RdMarks.of_own Hown2.out Hi.out) (Nat.le_refl _)).mono ?_
    rintro e w3 ⟨rfl, hb3⟩
    have hb3' : Below w.heap.size w w3 := hb2'.trans (hb3.mono hb2'.size)
    go_wp2_with fail
    refine (toMarkS z1 hlen2 _ _ _ (Hr.out.below (below_block hb3' (Nat.le_refl _))) hb3'.size).mono ?_
    rintro e w4 ⟨v4, rfl, hown4, hb4⟩
    have Hown4 := Lib.hid hown4; clear hown4
    have hb4' : Below w.heap.size w w4 := hb3'.trans (hb4.mono hb3'.size)
    have Hown24 := Lib.hid (own_below (own_below Hown2.out hb3) hb4)
    go_wp2_with fail
    refine (eqMarkS z1 z1 _ _ _ _ _ (RdMarks.of_own Hown24.out Hi.out) (RdMarks.of_own Hown4.out Hi.out) (Nat.le_refl _) (Nat.le_refl _)).mono ?_
    rintro e w5 ⟨rfl, hb5⟩
    rw [show decide (z1 = z1) = true from by simp]
    have hb5' : Below w.heap.size w w5 := hb4'.trans (hb5.mono hb4'.size)
    go_wp2
    go_ret
    exact ⟨rfl, hb5'⟩

set_option maxRecDepth 100000 in
theorem lifted (os : Os) (started : os.Started) (H : Type) (enc : TypeId × Value → H) :
    ReturnsInHanded {} Try.checked os 16 .any (Rows.fnExactMatterInSpec.pre6 enc Try.prog Try.f16 Rows.fnExactMatterInRow.domain false) (Rows.fnExactMatterInSpec.post enc Try.prog Try.f16 false true false false) := by
  refine returnsInHanded_of_change (C := Try.checked) Try.own started (by kernel_rfl) Try.func16
    (ChangeSpec.witness6 (enc := enc) (C := Try.checked) false ⟨#[], #[.int .i64 0, .slice none 0 0], []⟩ 8 (by kernel_rfl) (by kernel_rfl) (by kernel_rfl) (by kernel_rfl)) ?_
  intro W base args ds gs before hval0 hW hcnd _
  have hval : ∀ (j : Nat) t v, Try.f16.params[j]? = some t → args[j]? = some v → Value.okWide Try.prog W .any base t v := hval0
  have hW' := hW
  obtain ⟨p, q, hA0, hV, rfl, hfz, hnd⟩ := hW
  have hA : DataW.TrodAll enc Try.prog W 0 (fun _ => true) true Try.f16.params.toList args.toList ds p := hA0
  rw [Try.params16] at hA hval
  obtain ⟨v0, vs0, d0, ds0, p0, q0, hargs, rfl, rfl, h0, r0⟩ := trodAll_cons hA
  obtain ⟨v1, vs1, d1, ds1, p1, q1, rfl, rfl, rfl, h1, r1⟩ := trodAll_cons r0
  obtain ⟨rfl, rfl, rfl⟩ := trodAll_nil r1
  obtain rfl : args = #[v0, v1] := by cases args; simp_all
  obtain ⟨rfl, rfl⟩ := trodVars_none hV
  obtain ⟨a0, rfl, rfl, rfl, w0⟩ := open_int Try.underlying3 (hval 0 3 v0 rfl rfl) h0
  obtain ⟨a1, len1, cap1, rfl⟩ := okWide_slice Try.underlying45 (hval 1 45 v1 rfl rfl)
  have k1 := h1
  have lt1 : ∀ x ∈ p1, x.block < W.heap.size := by obtain ⟨m, hm⟩ := k1; exact DataW.trod_lt m _ _ _ hm
  obtain ⟨z1, w1⟩ : ∃ zs, IsMarks W a1 len1 cap1 zs := by
    obtain ⟨fuel, hf⟩ := h1
    exact open_marks Try.underlying45 Try.underlying66 (by kernel_rfl) rfl rfl (by kernel_rfl) (by kernel_rfl) Try.underlying3 Try.underlying3 hf
  clear hA0 hval0
  refine (walk a0 _ _ W w0 (RdMarks.of_row w1)).mono fun e W' ⟨he, bel⟩ => ?_
  subst he
  exact ⟨_, rfl, _, _, _, [], _, [], hW', trodAll_mk1 (shut_bool Try.underlying4 _), (trodAll_cons_mk (shut_int Try.underlying3 w0) (trodAll_cons_mk (Below.trod Try.laidOut (by kernel_rfl) (of_decide_eq_true (by kernel_rfl)) k1 bel lt1) trodAll_mk0)), rfl, bel.frame _, fun h => by cases h⟩

theorem closed : joinedFacts Try.pinned.checked.prog 16 Try.f16 Rows.fnExactMatterInSpec Rows.fnExactMatterInRow = true := by
  unfold joinedFacts
  exact (and_tt (and_tt (and_tt (and_tt (and_tt (and_tt (and_tt (and_tt (and_tt (and_tt (and_tt (and_tt (and_tt (and_tt (and_tt (and_tt (and_tt (and_tt (and_tt (and_tt (and_tt (and_tt (and_tt (and_tt (and_tt (and_tt (and_tt (and_tt (and_tt (and_tt (and_tt (by kernel_rfl) (by kernel_rfl)) (by kernel_rfl)) (by kernel_rfl)) (by kernel_rfl)) (by kernel_rfl)) (by kernel_rfl)) (by kernel_rfl)) (by kernel_rfl)) (by kernel_rfl)) (by kernel_rfl)) (by kernel_rfl)) (by kernel_rfl)) (by kernel_rfl)) (by kernel_rfl)) (by kernel_rfl)) (by kernel_rfl)) (by kernel_rfl)) (by kernel_rfl)) (by kernel_rfl)) (by kernel_rfl)) (by kernel_rfl)) (by kernel_rfl)) (by kernel_rfl)) (by kernel_rfl)) Try.mayEnter0) (lifted_tt Try.lifts0 rfl)) (make_tt Try.make0 rfl)) (by kernel_rfl)) (by kernel_rfl)) (by kernel_rfl)) (by kernel_rfl))
theorem over : Rows.fnExactMatterInRow.holds Try.pinned (OpenSpec.ofChange Rows.fnExactMatterInSpec) :=
  OpenClaim.holds_of_wide 16 Try.f16 rfl rfl rfl rfl rfl rfl rfl ⟨rfl, rfl, rfl, rfl, rfl⟩ rfl rfl rfl rfl rfl (by kernel_rfl) Try.func16 closed
    (of_decide_eq_true (by kernel_rfl)) (by unfold Func.isWrapper; first | (rw [if_pos (by decide +kernel)]; kernel_rfl) | (rw [if_neg (by decide +kernel)]; exact ⟨rfl, rfl⟩))
    (fun os started H enc _ => lifted os started H enc)

theorem proved : Rows.FnExactMatterInSaid := over
end Go.Proofs.Ytiakelhpmiffdaa.fnExactMatterIn

namespace Go.Proofs.Ytiakelhpmiffdaa.fnExactAlwaysOk
open Go.ChangeShapes Go.WideShapes Go.ChangeAt Go.RowKit
attribute [local irreducible] holds tabV holdsV sameV followsV alwaysV matterV mcells
open Go.ChangeMaps (open_string shut_string)
set_option linter.unusedVariables false
set_option maxRecDepth 100000 in
set_option maxHeartbeats 2000000 in
theorem walk (a0 : Int) (a1 : Value) (z1 : List (Int × Int)) (w : World) (w0 : (Lit.int .i64 a0).wf = true) (w1 : RdMarks w w.heap.size a1 z1) :
    Calls Try.prog 15 #[.int .i64 a0, a1] w fun e w' => e = .returned (.bool true) ∧ Below w.heap.size w w' := by
  obtain ⟨ao, cap, rfl, hl, hm, hi, hc⟩ := w1
  by_cases hlen : 1048576 < z1.length
  · unfold maxLen at hm
    have hm' : (z1.length : Int) ≤ 9223372036854775807 := by omega
    have hsz : Hid ((if z1.length ≤ 1048576 then 1048576 - (z1.length : Int) else -1) = -1) := by unfold Hid; rw [if_neg (by omega)]
    clear hc hi
    go_enter Try.func15, Try.ntmps15
    go_wp2_with fail
    refine (szMarkS _ _ _ hm' _).mono ?_
    rintro e w' ⟨rfl, rfl⟩
    rw [hsz.out]
    go_wp2
    go_ret
    exact ⟨rfl, Below.refl _ _⟩
  · have hr : RdMarks w w.heap.size (.slice ao z1.length cap) z1 := ⟨ao, cap, rfl, hl, hm, hi, hc⟩
    have hm' : (z1.length : Int) ≤ 9223372036854775807 := by omega
    have hlen2 : z1.length ≤ 1048576 := by omega
    have hsz : Hid ((if z1.length ≤ 1048576 then 1048576 - (z1.length : Int) else -1) = 1048576 - (z1.length : Int)) := by unfold Hid; rw [if_pos hlen2]
    have hlen3 : (z1.length : Int) ≤ 1048576 := by omega
    have Hi := Lib.hid hi
    have Hr := Lib.hid hr
    clear hlen hc hr hl hm hi
    have hs := fun (B : Nat) (v : Value) (W : World) h h2 => specAlwaysOk a0 z1 B v W h h2
    have hp := fun (B : Nat) (v : Value) (W : World) h h2 => implAlwaysOk a0 z1 B v W h h2
    generalize alwaysV a0 z1 = T at *
    have Hs := Lib.hid hs; clear hs
    have Hp := Lib.hid hp; clear hp
    go_enter Try.func15, Try.ntmps15
    go_wp2_with fail
    refine (szMarkS _ _ _ hm' _).mono ?_
    rintro e w' ⟨rfl, rfl⟩
    rw [hsz.out]
    go_wp2_with fail
    refine (toMarkS z1 hlen2 _ _ _ Hr.out (Nat.le_refl _)).mono ?_
    rintro e w1 ⟨v1, rfl, hown1, hb1⟩
    have Hown1 := Lib.hid hown1; clear hown1
    go_wp2_with fail
    refine (Hs.out _ _ _ (RdMarks.of_own Hown1.out Hi.out) (Nat.le_refl _)).mono ?_
    rintro e w1b ⟨rfl, hb1b⟩
    have hb1' : Below w.heap.size w w1b := hb1.trans (hb1b.mono hb1.size)
    go_wp2_with fail
    refine (toMarkS z1 hlen2 _ _ _ (Hr.out.below (below_block hb1' (Nat.le_refl _))) hb1'.size).mono ?_
    rintro e w2 ⟨v2, rfl, hown2, hb2⟩
    have Hown2 := Lib.hid hown2; clear hown2
    have hb2' : Below w.heap.size w w2 := hb1'.trans (hb2.mono hb1'.size)
    go_wp2_with fail
    refine (Hp.out _ _ _ (RdMarks.of_own Hown2.out Hi.out) (Nat.le_refl _)).mono ?_
    rintro e w3 ⟨rfl, hb3⟩
    have hb3' : Below w.heap.size w w3 := hb2'.trans (hb3.mono hb2'.size)
    go_wp2_with fail
    refine (toMarkS z1 hlen2 _ _ _ (Hr.out.below (below_block hb3' (Nat.le_refl _))) hb3'.size).mono ?_
    rintro e w4 ⟨v4, rfl, hown4, hb4⟩
    have Hown4 := Lib.hid hown4; clear hown4
    have hb4' : Below w.heap.size w w4 := hb3'.trans (hb4.mono hb3'.size)
    have Hown24 := Lib.hid (own_below (own_below Hown2.out hb3) hb4)
    go_wp2_with fail
    refine (eqMarkS z1 z1 _ _ _ _ _ (RdMarks.of_own Hown24.out Hi.out) (RdMarks.of_own Hown4.out Hi.out) (Nat.le_refl _) (Nat.le_refl _)).mono ?_
    rintro e w5 ⟨rfl, hb5⟩
    rw [show decide (z1 = z1) = true from by simp]
    have hb5' : Below w.heap.size w w5 := hb4'.trans (hb5.mono hb4'.size)
    go_wp2
    go_ret
    exact ⟨rfl, hb5'⟩

set_option maxRecDepth 100000 in
theorem lifted (os : Os) (started : os.Started) (H : Type) (enc : TypeId × Value → H) :
    ReturnsInHanded {} Try.checked os 15 .any (Rows.fnExactAlwaysOkSpec.pre6 enc Try.prog Try.f15 Rows.fnExactAlwaysOkRow.domain false) (Rows.fnExactAlwaysOkSpec.post enc Try.prog Try.f15 false true false false) := by
  refine returnsInHanded_of_change (C := Try.checked) Try.own started (by kernel_rfl) Try.func15
    (ChangeSpec.witness6 (enc := enc) (C := Try.checked) false ⟨#[], #[.int .i64 0, .slice none 0 0], []⟩ 8 (by kernel_rfl) (by kernel_rfl) (by kernel_rfl) (by kernel_rfl)) ?_
  intro W base args ds gs before hval0 hW hcnd _
  have hval : ∀ (j : Nat) t v, Try.f15.params[j]? = some t → args[j]? = some v → Value.okWide Try.prog W .any base t v := hval0
  have hW' := hW
  obtain ⟨p, q, hA0, hV, rfl, hfz, hnd⟩ := hW
  have hA : DataW.TrodAll enc Try.prog W 0 (fun _ => true) true Try.f15.params.toList args.toList ds p := hA0
  rw [Try.params15] at hA hval
  obtain ⟨v0, vs0, d0, ds0, p0, q0, hargs, rfl, rfl, h0, r0⟩ := trodAll_cons hA
  obtain ⟨v1, vs1, d1, ds1, p1, q1, rfl, rfl, rfl, h1, r1⟩ := trodAll_cons r0
  obtain ⟨rfl, rfl, rfl⟩ := trodAll_nil r1
  obtain rfl : args = #[v0, v1] := by cases args; simp_all
  obtain ⟨rfl, rfl⟩ := trodVars_none hV
  obtain ⟨a0, rfl, rfl, rfl, w0⟩ := open_int Try.underlying3 (hval 0 3 v0 rfl rfl) h0
  obtain ⟨a1, len1, cap1, rfl⟩ := okWide_slice Try.underlying45 (hval 1 45 v1 rfl rfl)
  have k1 := h1
  have lt1 : ∀ x ∈ p1, x.block < W.heap.size := by obtain ⟨m, hm⟩ := k1; exact DataW.trod_lt m _ _ _ hm
  obtain ⟨z1, w1⟩ : ∃ zs, IsMarks W a1 len1 cap1 zs := by
    obtain ⟨fuel, hf⟩ := h1
    exact open_marks Try.underlying45 Try.underlying66 (by kernel_rfl) rfl rfl (by kernel_rfl) (by kernel_rfl) Try.underlying3 Try.underlying3 hf
  clear hA0 hval0
  refine (walk a0 _ _ W w0 (RdMarks.of_row w1)).mono fun e W' ⟨he, bel⟩ => ?_
  subst he
  exact ⟨_, rfl, _, _, _, [], _, [], hW', trodAll_mk1 (shut_bool Try.underlying4 _), (trodAll_cons_mk (shut_int Try.underlying3 w0) (trodAll_cons_mk (Below.trod Try.laidOut (by kernel_rfl) (of_decide_eq_true (by kernel_rfl)) k1 bel lt1) trodAll_mk0)), rfl, bel.frame _, fun h => by cases h⟩

theorem closed : joinedFacts Try.pinned.checked.prog 15 Try.f15 Rows.fnExactAlwaysOkSpec Rows.fnExactAlwaysOkRow = true := by
  unfold joinedFacts
  exact (and_tt (and_tt (and_tt (and_tt (and_tt (and_tt (and_tt (and_tt (and_tt (and_tt (and_tt (and_tt (and_tt (and_tt (and_tt (and_tt (and_tt (and_tt (and_tt (and_tt (and_tt (and_tt (and_tt (and_tt (and_tt (and_tt (and_tt (and_tt (and_tt (and_tt (and_tt (by kernel_rfl) (by kernel_rfl)) (by kernel_rfl)) (by kernel_rfl)) (by kernel_rfl)) (by kernel_rfl)) (by kernel_rfl)) (by kernel_rfl)) (by kernel_rfl)) (by kernel_rfl)) (by kernel_rfl)) (by kernel_rfl)) (by kernel_rfl)) (by kernel_rfl)) (by kernel_rfl)) (by kernel_rfl)) (by kernel_rfl)) (by kernel_rfl)) (by kernel_rfl)) (by kernel_rfl)) (by kernel_rfl)) (by kernel_rfl)) (by kernel_rfl)) (by kernel_rfl)) (by kernel_rfl)) Try.mayEnter0) (lifted_tt Try.lifts0 rfl)) (make_tt Try.make0 rfl)) (by kernel_rfl)) (by kernel_rfl)) (by kernel_rfl)) (by kernel_rfl))
theorem over : Rows.fnExactAlwaysOkRow.holds Try.pinned (OpenSpec.ofChange Rows.fnExactAlwaysOkSpec) :=
  OpenClaim.holds_of_wide 15 Try.f15 rfl rfl rfl rfl rfl rfl rfl ⟨rfl, rfl, rfl, rfl, rfl⟩ rfl rfl rfl rfl rfl (by kernel_rfl) Try.func15 closed
    (of_decide_eq_true (by kernel_rfl)) (by unfold Func.isWrapper; first | (rw [if_pos (by decide +kernel)]; kernel_rfl) | (rw [if_neg (by decide +kernel)]; exact ⟨rfl, rfl⟩))
    (fun os started H enc _ => lifted os started H enc)

theorem proved : Rows.FnExactAlwaysOkSaid := over
end Go.Proofs.Ytiakelhpmiffdaa.fnExactAlwaysOk

namespace Go.Proofs.Ytiakelhpmiffdaa.fnExactHoldsIn
open Go.ChangeShapes Go.WideShapes Go.ChangeAt Go.RowKit
attribute [local irreducible] holds tabV holdsV sameV followsV alwaysV matterV mcells
open Go.ChangeMaps (open_string shut_string)
set_option linter.unusedVariables false
set_option maxRecDepth 100000 in
set_option maxHeartbeats 2000000 in
theorem walk (a0 : Int) (a1 : Value) (z1 : List (Int × Int)) (a2 : Int) (w : World) (w0 : (Lit.int .i64 a0).wf = true) (w1 : RdMarks w w.heap.size a1 z1) (w2 : (Lit.int .i64 a2).wf = true) :
    Calls Try.prog 11 #[.int .i64 a0, a1, .int .i64 a2] w fun e w' => e = .returned (.bool true) ∧ Below w.heap.size w w' := by
  obtain ⟨ao, cap, rfl, hl, hm, hi, hc⟩ := w1
  by_cases hlen : 1048576 < z1.length
  · unfold maxLen at hm
    have hm' : (z1.length : Int) ≤ 9223372036854775807 := by omega
    have hsz : Hid ((if z1.length ≤ 1048576 then 1048576 - (z1.length : Int) else -1) = -1) := by unfold Hid; rw [if_neg (by omega)]
    clear hc hi
    go_enter Try.func11, Try.ntmps11
    go_wp2_with fail
    refine (szMarkS _ _ _ hm' _).mono ?_
    rintro e w' ⟨rfl, rfl⟩
    rw [hsz.out]
    go_wp2
    go_ret
    exact ⟨rfl, Below.refl _ _⟩
  · have hr : RdMarks w w.heap.size (.slice ao z1.length cap) z1 := ⟨ao, cap, rfl, hl, hm, hi, hc⟩
    have hm' : (z1.length : Int) ≤ 9223372036854775807 := by omega
    have hlen2 : z1.length ≤ 1048576 := by omega
    have hsz : Hid ((if z1.length ≤ 1048576 then 1048576 - (z1.length : Int) else -1) = 1048576 - (z1.length : Int)) := by unfold Hid; rw [if_pos hlen2]
    have hlen3 : (z1.length : Int) ≤ 1048576 := by omega
    have Hi := Lib.hid hi
    have Hr := Lib.hid hr
    clear hlen hc hr hl hm hi
    have hs := fun (B : Nat) (v : Value) (W : World) h h2 => specHoldsIn a0 z1 a2 B v W h h2
    have hp := fun (B : Nat) (v : Value) (W : World) h h2 => implHoldsIn a0 z1 a2 B v W h h2
    generalize holdsV a0 z1 a2 = T at *
    have Hs := Lib.hid hs; clear hs
    have Hp := Lib.hid hp; clear hp
    go_enter Try.func11, Try.ntmps11
    go_wp2_with fail
    refine (szMarkS _ _ _ hm' _).mono ?_
    rintro e w' ⟨rfl, rfl⟩
    rw [hsz.out]
    go_wp2_with fail
    refine (toMarkS z1 hlen2 _ _ _ Hr.out (Nat.le_refl _)).mono ?_
    rintro e w1 ⟨v1, rfl, hown1, hb1⟩
    have Hown1 := Lib.hid hown1; clear hown1
    go_wp2_with fail
    refine (Hs.out _ _ _ (RdMarks.of_own Hown1.out Hi.out) (Nat.le_refl _)).mono ?_
    rintro e w1b ⟨rfl, hb1b⟩
    have hb1' : Below w.heap.size w w1b := hb1.trans (hb1b.mono hb1.size)
    go_wp2_with fail
    refine (toMarkS z1 hlen2 _ _ _ (Hr.out.below (below_block hb1' (Nat.le_refl _))) hb1'.size).mono ?_
    rintro e w2 ⟨v2, rfl, hown2, hb2⟩
    have Hown2 := Lib.hid hown2; clear hown2
    have hb2' : Below w.heap.size w w2 := hb1'.trans (hb2.mono hb1'.size)
    go_wp2_with fail
    refine (Hp.out _ _ _ (RdMarks.of_own Hown2.out Hi.out) (Nat.le_refl _)).mono ?_
    rintro e w3 ⟨rfl, hb3⟩
    have hb3' : Below w.heap.size w w3 := hb2'.trans (hb3.mono hb2'.size)
    go_wp2_with fail
    refine (toMarkS z1 hlen2 _ _ _ (Hr.out.below (below_block hb3' (Nat.le_refl _))) hb3'.size).mono ?_
    rintro e w4 ⟨v4, rfl, hown4, hb4⟩
    have Hown4 := Lib.hid hown4; clear hown4
    have hb4' : Below w.heap.size w w4 := hb3'.trans (hb4.mono hb3'.size)
    have Hown24 := Lib.hid (own_below (own_below Hown2.out hb3) hb4)
    go_wp2_with fail
    refine (eqMarkS z1 z1 _ _ _ _ _ (RdMarks.of_own Hown24.out Hi.out) (RdMarks.of_own Hown4.out Hi.out) (Nat.le_refl _) (Nat.le_refl _)).mono ?_
    rintro e w5 ⟨rfl, hb5⟩
    rw [show decide (z1 = z1) = true from by simp]
    have hb5' : Below w.heap.size w w5 := hb4'.trans (hb5.mono hb4'.size)
    go_wp2
    go_ret
    exact ⟨rfl, hb5'⟩

set_option maxRecDepth 100000 in
theorem lifted (os : Os) (started : os.Started) (H : Type) (enc : TypeId × Value → H) :
    ReturnsInHanded {} Try.checked os 11 .any (Rows.fnExactHoldsInSpec.pre6 enc Try.prog Try.f11 Rows.fnExactHoldsInRow.domain false) (Rows.fnExactHoldsInSpec.post enc Try.prog Try.f11 false true false false) := by
  refine returnsInHanded_of_change (C := Try.checked) Try.own started (by kernel_rfl) Try.func11
    (ChangeSpec.witness6 (enc := enc) (C := Try.checked) false ⟨#[], #[.int .i64 0, .slice none 0 0, .int .i64 0], []⟩ 8 (by kernel_rfl) (by kernel_rfl) (by kernel_rfl) (by kernel_rfl)) ?_
  intro W base args ds gs before hval0 hW hcnd _
  have hval : ∀ (j : Nat) t v, Try.f11.params[j]? = some t → args[j]? = some v → Value.okWide Try.prog W .any base t v := hval0
  have hW' := hW
  obtain ⟨p, q, hA0, hV, rfl, hfz, hnd⟩ := hW
  have hA : DataW.TrodAll enc Try.prog W 0 (fun _ => true) true Try.f11.params.toList args.toList ds p := hA0
  rw [Try.params11] at hA hval
  obtain ⟨v0, vs0, d0, ds0, p0, q0, hargs, rfl, rfl, h0, r0⟩ := trodAll_cons hA
  obtain ⟨v1, vs1, d1, ds1, p1, q1, rfl, rfl, rfl, h1, r1⟩ := trodAll_cons r0
  obtain ⟨v2, vs2, d2, ds2, p2, q2, rfl, rfl, rfl, h2, r2⟩ := trodAll_cons r1
  obtain ⟨rfl, rfl, rfl⟩ := trodAll_nil r2
  obtain rfl : args = #[v0, v1, v2] := by cases args; simp_all
  obtain ⟨rfl, rfl⟩ := trodVars_none hV
  obtain ⟨a0, rfl, rfl, rfl, w0⟩ := open_int Try.underlying3 (hval 0 3 v0 rfl rfl) h0
  obtain ⟨a1, len1, cap1, rfl⟩ := okWide_slice Try.underlying45 (hval 1 45 v1 rfl rfl)
  have k1 := h1
  have lt1 : ∀ x ∈ p1, x.block < W.heap.size := by obtain ⟨m, hm⟩ := k1; exact DataW.trod_lt m _ _ _ hm
  obtain ⟨z1, w1⟩ : ∃ zs, IsMarks W a1 len1 cap1 zs := by
    obtain ⟨fuel, hf⟩ := h1
    exact open_marks Try.underlying45 Try.underlying66 (by kernel_rfl) rfl rfl (by kernel_rfl) (by kernel_rfl) Try.underlying3 Try.underlying3 hf
  obtain ⟨a2, rfl, rfl, rfl, w2⟩ := open_int Try.underlying3 (hval 2 3 v2 rfl rfl) h2
  clear hA0 hval0
  refine (walk a0 _ _ a2 W w0 (RdMarks.of_row w1) w2).mono fun e W' ⟨he, bel⟩ => ?_
  subst he
  exact ⟨_, rfl, _, _, _, [], _, [], hW', trodAll_mk1 (shut_bool Try.underlying4 _), (trodAll_cons_mk (shut_int Try.underlying3 w0) (trodAll_cons_mk (Below.trod Try.laidOut (by kernel_rfl) (of_decide_eq_true (by kernel_rfl)) k1 bel lt1) (trodAll_cons_mk (shut_int Try.underlying3 w2) trodAll_mk0))), rfl, bel.frame _, fun h => by cases h⟩

theorem closed : joinedFacts Try.pinned.checked.prog 11 Try.f11 Rows.fnExactHoldsInSpec Rows.fnExactHoldsInRow = true := by
  unfold joinedFacts
  exact (and_tt (and_tt (and_tt (and_tt (and_tt (and_tt (and_tt (and_tt (and_tt (and_tt (and_tt (and_tt (and_tt (and_tt (and_tt (and_tt (and_tt (and_tt (and_tt (and_tt (and_tt (and_tt (and_tt (and_tt (and_tt (and_tt (and_tt (and_tt (and_tt (and_tt (and_tt (by kernel_rfl) (by kernel_rfl)) (by kernel_rfl)) (by kernel_rfl)) (by kernel_rfl)) (by kernel_rfl)) (by kernel_rfl)) (by kernel_rfl)) (by kernel_rfl)) (by kernel_rfl)) (by kernel_rfl)) (by kernel_rfl)) (by kernel_rfl)) (by kernel_rfl)) (by kernel_rfl)) (by kernel_rfl)) (by kernel_rfl)) (by kernel_rfl)) (by kernel_rfl)) (by kernel_rfl)) (by kernel_rfl)) (by kernel_rfl)) (by kernel_rfl)) (by kernel_rfl)) (by kernel_rfl)) Try.mayEnter0) (lifted_tt Try.lifts0 rfl)) (make_tt Try.make0 rfl)) (by kernel_rfl)) (by kernel_rfl)) (by kernel_rfl)) (by kernel_rfl))
theorem over : Rows.fnExactHoldsInRow.holds Try.pinned (OpenSpec.ofChange Rows.fnExactHoldsInSpec) :=
  OpenClaim.holds_of_wide 11 Try.f11 rfl rfl rfl rfl rfl rfl rfl ⟨rfl, rfl, rfl, rfl, rfl⟩ rfl rfl rfl rfl rfl (by kernel_rfl) Try.func11 closed
    (of_decide_eq_true (by kernel_rfl)) (by unfold Func.isWrapper; first | (rw [if_pos (by decide +kernel)]; kernel_rfl) | (rw [if_neg (by decide +kernel)]; exact ⟨rfl, rfl⟩))
    (fun os started H enc _ => lifted os started H enc)

theorem proved : Rows.FnExactHoldsInSaid := over
end Go.Proofs.Ytiakelhpmiffdaa.fnExactHoldsIn

