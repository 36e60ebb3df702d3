/- Exact laws of stage 8: what word is said, and in which worlds. No condition. -/
import Derived.Test.YtbcmepcjhobemaaMarksC
import Derived.Test.YtbcmepcjhobemaaStrI
import Derived.Test.YtbcmepcjhobemaaFrameM
namespace Go.Proofs.Ytbcmepcjhobemaa.fnExactWordIn
open Go.ChangeShapes Go.WideShapes Go.ChangeAt Go.RowKit
attribute [local irreducible] holds tabV holdsV sameV followsV alwaysV matterV mcells ansN alikeV wordN wtabV strV strOk
open Go.ChangeMaps (open_string shut_string)
set_option linter.unusedVariables false
set_option maxRecDepth 100000 in
set_option maxHeartbeats 2000000 in
theorem walk (a0 : Int) (a1 : Int) (a2 : Value) (z2 : List (Int × Int)) (a3 : Int) (w : World) (w0 : (Lit.int .i64 a0).wf = true) (w1 : (Lit.int .i64 a1).wf = true) (w2 : RdMarks w w.heap.size a2 z2) (w3 : (Lit.int .i64 a3).wf = true) :
    Calls Try.prog 7 #[.int .i64 a0, .int .i64 a1, a2, .int .i64 a3] w fun e w' => e = .returned (.bool true) ∧ Below w.heap.size w w' := by
  obtain ⟨ao, cap, rfl, hl, hm, hi, hc⟩ := w2
  by_cases hlen : 1048576 < z2.length
  · unfold maxLen at hm
    have hm' : (z2.length : Int) ≤ 9223372036854775807 := by omega
    have hsz : Hid ((if z2.length ≤ 1048576 then 1048576 - (z2.length : Int) else -1) = -1) := by unfold Hid; rw [if_neg (by omega)]
    clear hc hi
    go_enter Try.func7, Try.ntmps7
    go_wp2_with fail
    refine (szMarkS _ _ _ hm' _).mono ?_
    rintro e w' ⟨rfl, rfl⟩
    rw [hsz.out]
    go_wp2
    go_ret
    exact ⟨rfl, Below.refl _ _⟩
  · have hr : RdMarks w w.heap.size (.slice ao z2.length cap) z2 := ⟨ao, cap, rfl, hl, hm, hi, hc⟩
    have hm' : (z2.length : Int) ≤ 9223372036854775807 := by omega
    have hlen2 : z2.length ≤ 1048576 := by omega
    have hsz : Hid ((if z2.length ≤ 1048576 then 1048576 - (z2.length : Int) else -1) = 1048576 - (z2.length : Int)) := by unfold Hid; rw [if_pos hlen2]
    have hlen3 : (z2.length : Int) ≤ 1048576 := by omega
    have Hi := Lib.hid hi
    have Hr := Lib.hid hr
    clear hlen hc hr hl hm hi
    have hs := fun (B : Nat) (v : Value) (W : World) h h2 => specWordIn a0 a1 a3 z2 B v W h h2
    have hp := fun (B : Nat) (v : Value) (W : World) h h2 => implWordIn a0 a1 a3 z2 B v W h h2
    generalize wordN a0 a1 z2 a3 = T at *
    have Hs := Lib.hid hs; clear hs
    have Hp := Lib.hid hp; clear hp
    go_enter Try.func7, Try.ntmps7
    go_wp2_with fail
    refine (szMarkS _ _ _ hm' _).mono ?_
    rintro e w' ⟨rfl, rfl⟩
    rw [hsz.out]
    go_wp2_with fail
    refine (toMarkS z2 hlen2 _ _ _ Hr.out (Nat.le_refl _)).mono ?_
    rintro e w1 ⟨v1, rfl, hown1, hb1⟩
    have Hown1 := Lib.hid hown1; clear hown1
    go_wp2_with fail
    refine (Hs.out _ _ _ (RdMarks.of_own Hown1.out Hi.out) (Nat.le_refl _)).mono ?_
    rintro e w1b ⟨rfl, hb1b⟩
    have hb1' : Below w.heap.size w w1b := hb1.trans (hb1b.mono hb1.size)
    go_wp2_with fail
    refine (toMarkS z2 hlen2 _ _ _ (Hr.out.below (below_block hb1' (Nat.le_refl _))) hb1'.size).mono ?_
    rintro e w2 ⟨v2, rfl, hown2, hb2⟩
    have Hown2 := Lib.hid hown2; clear hown2
    have hb2' : Below w.heap.size w w2 := hb1'.trans (hb2.mono hb1'.size)
    go_wp2_with fail
    refine (Hp.out _ _ _ (RdMarks.of_own Hown2.out Hi.out) (Nat.le_refl _)).mono ?_
    rintro e w3 ⟨rfl, hb3⟩
    have hb3' : Below w.heap.size w w3 := hb2'.trans (hb3.mono hb2'.size)
    go_wp2_with fail
    refine (toMarkS z2 hlen2 _ _ _ (Hr.out.below (below_block hb3' (Nat.le_refl _))) hb3'.size).mono ?_
    rintro e w4 ⟨v4, rfl, hown4, hb4⟩
    have Hown4 := Lib.hid hown4; clear hown4
    have hb4' : Below w.heap.size w w4 := hb3'.trans (hb4.mono hb3'.size)
    have Hown24 := Lib.hid (own_below (own_below Hown2.out hb3) hb4)
    go_wp2_with fail
    refine (eqMarkS z2 z2 _ _ _ _ _ (RdMarks.of_own Hown24.out Hi.out) (RdMarks.of_own Hown4.out Hi.out) (Nat.le_refl _) (Nat.le_refl _)).mono ?_
    rintro e w5 ⟨rfl, hb5⟩
    rw [show decide (z2 = z2) = true from by simp]
    have hb5' : Below w.heap.size w w5 := hb4'.trans (hb5.mono hb4'.size)
    go_wp2
    go_ret
    exact ⟨rfl, hb5'⟩

set_option maxRecDepth 100000 in
theorem lifted (os : Os) (started : os.Started) (H : Type) (enc : TypeId × Value → H) :
    ReturnsInHanded {} Try.checked os 7 .any (Rows.fnExactWordInSpec.pre6 enc Try.prog Try.f7 Rows.fnExactWordInRow.domain false) (Rows.fnExactWordInSpec.post enc Try.prog Try.f7 false true false false) := by
  refine returnsInHanded_of_change (C := Try.checked) Try.own started (by kernel_rfl) Try.func7
    (ChangeSpec.witness6 (enc := enc) (C := Try.checked) false ⟨#[], #[.int .i64 0, .int .i64 0, .slice none 0 0, .int .i64 0], []⟩ 8 (by kernel_rfl) (by kernel_rfl) (by kernel_rfl) (by kernel_rfl)) ?_
  intro W base args ds gs before hval0 hW hcnd _
  have hval : ∀ (j : Nat) t v, Try.f7.params[j]? = some t → args[j]? = some v → Value.okWide Try.prog W .any base t v := hval0
  have hW' := hW
  obtain ⟨p, q, hA0, hV, rfl, hfz, hnd⟩ := hW
  have hA : DataW.TrodAll enc Try.prog W 0 (fun _ => true) true Try.f7.params.toList args.toList ds p := hA0
  rw [Try.params7] at hA hval
  obtain ⟨v0, vs0, d0, ds0, p0, q0, hargs, rfl, rfl, h0, r0⟩ := trodAll_cons hA
  obtain ⟨v1, vs1, d1, ds1, p1, q1, rfl, rfl, rfl, h1, r1⟩ := trodAll_cons r0
  obtain ⟨v2, vs2, d2, ds2, p2, q2, rfl, rfl, rfl, h2, r2⟩ := trodAll_cons r1
  obtain ⟨v3, vs3, d3, ds3, p3, q3, rfl, rfl, rfl, h3, r3⟩ := trodAll_cons r2
  obtain ⟨rfl, rfl, rfl⟩ := trodAll_nil r3
  obtain rfl : args = #[v0, v1, v2, v3] := by cases args; simp_all
  obtain ⟨rfl, rfl⟩ := trodVars_none hV
  obtain ⟨a0, rfl, rfl, rfl, w0⟩ := open_int Try.underlying3 (hval 0 3 v0 rfl rfl) h0
  obtain ⟨a1, rfl, rfl, rfl, w1⟩ := open_int Try.underlying3 (hval 1 3 v1 rfl rfl) h1
  obtain ⟨a2, len2, cap2, rfl⟩ := okWide_slice Try.underlying39 (hval 2 39 v2 rfl rfl)
  have k2 := h2
  have lt2 : ∀ x ∈ p2, x.block < W.heap.size := by obtain ⟨m, hm⟩ := k2; exact DataW.trod_lt m _ _ _ hm
  obtain ⟨z2, w2⟩ : ∃ zs, IsMarks W a2 len2 cap2 zs := by
    obtain ⟨fuel, hf⟩ := h2
    exact open_marks Try.underlying39 Try.underlying62 (by kernel_rfl) rfl rfl (by kernel_rfl) (by kernel_rfl) Try.underlying3 Try.underlying3 hf
  obtain ⟨a3, rfl, rfl, rfl, w3⟩ := open_int Try.underlying3 (hval 3 3 v3 rfl rfl) h3
  clear hA0 hval0
  refine (walk a0 a1 _ _ a3 W w0 w1 (RdMarks.of_row w2) w3).mono fun e W' ⟨he, bel⟩ => ?_
  subst he
  exact ⟨_, rfl, _, _, _, [], _, [], hW', trodAll_mk1 (shut_bool Try.underlying4 _), (trodAll_cons_mk (shut_int Try.underlying3 w0) (trodAll_cons_mk (shut_int Try.underlying3 w1) (trodAll_cons_mk (Below.trod Try.laidOut (by kernel_rfl) (of_decide_eq_true (by kernel_rfl)) k2 bel lt2) (trodAll_cons_mk (shut_int Try.underlying3 w3) trodAll_mk0)))), rfl, bel.frame _, fun h => by cases h⟩

theorem closed : joinedFacts Try.pinned.checked.prog 7 Try.f7 Rows.fnExactWordInSpec Rows.fnExactWordInRow = true := by
  unfold joinedFacts
  exact (and_tt (and_tt (and_tt (and_tt (and_tt (and_tt (and_tt (and_tt (and_tt (and_tt (and_tt (and_tt (and_tt (and_tt (and_tt (and_tt (and_tt (and_tt (and_tt (and_tt (and_tt (and_tt (and_tt (and_tt (and_tt (and_tt (and_tt (and_tt (and_tt (and_tt (and_tt (by kernel_rfl) (by kernel_rfl)) (by kernel_rfl)) (by kernel_rfl)) (by kernel_rfl)) (by kernel_rfl)) (by kernel_rfl)) (by kernel_rfl)) (by kernel_rfl)) (by kernel_rfl)) (by kernel_rfl)) (by kernel_rfl)) (by kernel_rfl)) (by kernel_rfl)) (by kernel_rfl)) (by kernel_rfl)) (by kernel_rfl)) (by kernel_rfl)) (by kernel_rfl)) (by kernel_rfl)) (by kernel_rfl)) (by kernel_rfl)) (by kernel_rfl)) (by kernel_rfl)) (by kernel_rfl)) Try.mayEnter0) (lifted_tt Try.lifts0 rfl)) (make_tt Try.make0 rfl)) (by kernel_rfl)) (by kernel_rfl)) (by kernel_rfl)) (by kernel_rfl))
theorem over : Rows.fnExactWordInRow.holds Try.pinned (OpenSpec.ofChange Rows.fnExactWordInSpec) :=
  OpenClaim.holds_of_wide 7 Try.f7 rfl rfl rfl rfl rfl rfl rfl ⟨rfl, rfl, rfl, rfl, rfl⟩ rfl rfl rfl rfl rfl (by kernel_rfl) Try.func7 closed
    (of_decide_eq_true (by kernel_rfl)) (by unfold Func.isWrapper; first | (rw [if_pos (by decide +kernel)]; kernel_rfl) | (rw [if_neg (by decide +kernel)]; exact ⟨rfl, rfl⟩))
    (fun os started H enc _ => lifted os started H enc)

theorem proved : Rows.FnExactWordInSaid := over
end Go.Proofs.Ytbcmepcjhobemaa.fnExactWordIn

namespace Go.Proofs.Ytbcmepcjhobemaa.fnExactWordTable
open Go.ChangeShapes Go.WideShapes Go.ChangeAt Go.RowKit
attribute [local irreducible] holds tabV holdsV sameV followsV alwaysV matterV mcells ansN alikeV wordN wtabV strV strOk
open Go.ChangeMaps (open_string shut_string)
set_option linter.unusedVariables false
set_option maxRecDepth 100000 in
set_option maxHeartbeats 2000000 in
theorem walk (a0 : Int) (a1 : Int) (a2 : Value) (z2 : List (Int × Int)) (w : World) (w0 : (Lit.int .i64 a0).wf = true) (w1 : (Lit.int .i64 a1).wf = true) (w2 : RdMarks w w.heap.size a2 z2) :
    Calls Try.prog 9 #[.int .i64 a0, .int .i64 a1, a2] w fun e w' => e = .returned (.bool true) ∧ Below w.heap.size w w' := by
  obtain ⟨ao, cap, rfl, hl, hm, hi, hc⟩ := w2
  by_cases hlen : 1048576 < z2.length
  · unfold maxLen at hm
    have hm' : (z2.length : Int) ≤ 9223372036854775807 := by omega
    have hsz : Hid ((if z2.length ≤ 1048576 then 1048576 - (z2.length : Int) else -1) = -1) := by unfold Hid; rw [if_neg (by omega)]
    clear hc hi
    go_enter Try.func9, Try.ntmps9
    go_wp2_with fail
    refine (szMarkS _ _ _ hm' _).mono ?_
    rintro e w' ⟨rfl, rfl⟩
    rw [hsz.out]
    go_wp2
    go_ret
    exact ⟨rfl, Below.refl _ _⟩
  · have hr : RdMarks w w.heap.size (.slice ao z2.length cap) z2 := ⟨ao, cap, rfl, hl, hm, hi, hc⟩
    have hm' : (z2.length : Int) ≤ 9223372036854775807 := by omega
    have hlen2 : z2.length ≤ 1048576 := by omega
    have hsz : Hid ((if z2.length ≤ 1048576 then 1048576 - (z2.length : Int) else -1) = 1048576 - (z2.length : Int)) := by unfold Hid; rw [if_pos hlen2]
    have hlen3 : (z2.length : Int) ≤ 1048576 := by omega
    have Hi := Lib.hid hi
    have Hr := Lib.hid hr
    clear hlen hc hr hl hm hi
    have hs := fun (B : Nat) (v : Value) (W : World) h h2 => specWordTable a0 a1 z2 B v W h h2
    have hp := fun (B : Nat) (v : Value) (W : World) h h2 => implWordTable a0 a1 z2 B v W h h2
    generalize wtabV a0 a1 z2 = T at *
    have Hs := Lib.hid hs; clear hs
    have Hp := Lib.hid hp; clear hp
    go_enter Try.func9, Try.ntmps9
    go_wp2_with fail
    refine (szMarkS _ _ _ hm' _).mono ?_
    rintro e w' ⟨rfl, rfl⟩
    rw [hsz.out]
    go_wp2_with fail
    refine (toMarkS z2 hlen2 _ _ _ Hr.out (Nat.le_refl _)).mono ?_
    rintro e w1 ⟨v1, rfl, hown1, hb1⟩
    have Hown1 := Lib.hid hown1; clear hown1
    go_wp2_with fail
    refine (Hs.out _ _ _ (RdMarks.of_own Hown1.out Hi.out) (Nat.le_refl _)).mono ?_
    rintro e w1b ⟨rfl, hb1b⟩
    have hb1' : Below w.heap.size w w1b := hb1.trans (hb1b.mono hb1.size)
    go_wp2_with fail
    refine (toMarkS z2 hlen2 _ _ _ (Hr.out.below (below_block hb1' (Nat.le_refl _))) hb1'.size).mono ?_
    rintro e w2 ⟨v2, rfl, hown2, hb2⟩
    have Hown2 := Lib.hid hown2; clear hown2
    have hb2' : Below w.heap.size w w2 := hb1'.trans (hb2.mono hb1'.size)
    go_wp2_with fail
    refine (Hp.out _ _ _ (RdMarks.of_own Hown2.out Hi.out) (Nat.le_refl _)).mono ?_
    rintro e w3 ⟨rfl, hb3⟩
    have hb3' : Below w.heap.size w w3 := hb2'.trans (hb3.mono hb2'.size)
    go_wp2_with fail
    refine (toMarkS z2 hlen2 _ _ _ (Hr.out.below (below_block hb3' (Nat.le_refl _))) hb3'.size).mono ?_
    rintro e w4 ⟨v4, rfl, hown4, hb4⟩
    have Hown4 := Lib.hid hown4; clear hown4
    have hb4' : Below w.heap.size w w4 := hb3'.trans (hb4.mono hb3'.size)
    have Hown24 := Lib.hid (own_below (own_below Hown2.out hb3) hb4)
    go_wp2_with fail
    refine (eqMarkS z2 z2 _ _ _ _ _ (RdMarks.of_own Hown24.out Hi.out) (RdMarks.of_own Hown4.out Hi.out) (Nat.le_refl _) (Nat.le_refl _)).mono ?_
    rintro e w5 ⟨rfl, hb5⟩
    rw [show decide (z2 = z2) = true from by simp]
    have hb5' : Below w.heap.size w w5 := hb4'.trans (hb5.mono hb4'.size)
    go_wp2
    go_ret
    exact ⟨rfl, hb5'⟩

set_option maxRecDepth 100000 in
theorem lifted (os : Os) (started : os.Started) (H : Type) (enc : TypeId × Value → H) :
    ReturnsInHanded {} Try.checked os 9 .any (Rows.fnExactWordTableSpec.pre6 enc Try.prog Try.f9 Rows.fnExactWordTableRow.domain false) (Rows.fnExactWordTableSpec.post enc Try.prog Try.f9 false true false false) := by
  refine returnsInHanded_of_change (C := Try.checked) Try.own started (by kernel_rfl) Try.func9
    (ChangeSpec.witness6 (enc := enc) (C := Try.checked) false ⟨#[], #[.int .i64 0, .int .i64 0, .slice none 0 0], []⟩ 8 (by kernel_rfl) (by kernel_rfl) (by kernel_rfl) (by kernel_rfl)) ?_
  intro W base args ds gs before hval0 hW hcnd _
  have hval : ∀ (j : Nat) t v, Try.f9.params[j]? = some t → args[j]? = some v → Value.okWide Try.prog W .any base t v := hval0
  have hW' := hW
  obtain ⟨p, q, hA0, hV, rfl, hfz, hnd⟩ := hW
  have hA : DataW.TrodAll enc Try.prog W 0 (fun _ => true) true Try.f9.params.toList args.toList ds p := hA0
  rw [Try.params9] at hA hval
  obtain ⟨v0, vs0, d0, ds0, p0, q0, hargs, rfl, rfl, h0, r0⟩ := trodAll_cons hA
  obtain ⟨v1, vs1, d1, ds1, p1, q1, rfl, rfl, rfl, h1, r1⟩ := trodAll_cons r0
  obtain ⟨v2, vs2, d2, ds2, p2, q2, rfl, rfl, rfl, h2, r2⟩ := trodAll_cons r1
  obtain ⟨rfl, rfl, rfl⟩ := trodAll_nil r2
  obtain rfl : args = #[v0, v1, v2] := by cases args; simp_all
  obtain ⟨rfl, rfl⟩ := trodVars_none hV
  obtain ⟨a0, rfl, rfl, rfl, w0⟩ := open_int Try.underlying3 (hval 0 3 v0 rfl rfl) h0
  obtain ⟨a1, rfl, rfl, rfl, w1⟩ := open_int Try.underlying3 (hval 1 3 v1 rfl rfl) h1
  obtain ⟨a2, len2, cap2, rfl⟩ := okWide_slice Try.underlying39 (hval 2 39 v2 rfl rfl)
  have k2 := h2
  have lt2 : ∀ x ∈ p2, x.block < W.heap.size := by obtain ⟨m, hm⟩ := k2; exact DataW.trod_lt m _ _ _ hm
  obtain ⟨z2, w2⟩ : ∃ zs, IsMarks W a2 len2 cap2 zs := by
    obtain ⟨fuel, hf⟩ := h2
    exact open_marks Try.underlying39 Try.underlying62 (by kernel_rfl) rfl rfl (by kernel_rfl) (by kernel_rfl) Try.underlying3 Try.underlying3 hf
  clear hA0 hval0
  refine (walk a0 a1 _ _ W w0 w1 (RdMarks.of_row w2)).mono fun e W' ⟨he, bel⟩ => ?_
  subst he
  exact ⟨_, rfl, _, _, _, [], _, [], hW', trodAll_mk1 (shut_bool Try.underlying4 _), (trodAll_cons_mk (shut_int Try.underlying3 w0) (trodAll_cons_mk (shut_int Try.underlying3 w1) (trodAll_cons_mk (Below.trod Try.laidOut (by kernel_rfl) (of_decide_eq_true (by kernel_rfl)) k2 bel lt2) trodAll_mk0))), rfl, bel.frame _, fun h => by cases h⟩

theorem closed : joinedFacts Try.pinned.checked.prog 9 Try.f9 Rows.fnExactWordTableSpec Rows.fnExactWordTableRow = true := by
  unfold joinedFacts
  exact (and_tt (and_tt (and_tt (and_tt (and_tt (and_tt (and_tt (and_tt (and_tt (and_tt (and_tt (and_tt (and_tt (and_tt (and_tt (and_tt (and_tt (and_tt (and_tt (and_tt (and_tt (and_tt (and_tt (and_tt (and_tt (and_tt (and_tt (and_tt (and_tt (and_tt (and_tt (by kernel_rfl) (by kernel_rfl)) (by kernel_rfl)) (by kernel_rfl)) (by kernel_rfl)) (by kernel_rfl)) (by kernel_rfl)) (by kernel_rfl)) (by kernel_rfl)) (by kernel_rfl)) (by kernel_rfl)) (by kernel_rfl)) (by kernel_rfl)) (by kernel_rfl)) (by kernel_rfl)) (by kernel_rfl)) (by kernel_rfl)) (by kernel_rfl)) (by kernel_rfl)) (by kernel_rfl)) (by kernel_rfl)) (by kernel_rfl)) (by kernel_rfl)) (by kernel_rfl)) (by kernel_rfl)) Try.mayEnter0) (lifted_tt Try.lifts0 rfl)) (make_tt Try.make0 rfl)) (by kernel_rfl)) (by kernel_rfl)) (by kernel_rfl)) (by kernel_rfl))
theorem over : Rows.fnExactWordTableRow.holds Try.pinned (OpenSpec.ofChange Rows.fnExactWordTableSpec) :=
  OpenClaim.holds_of_wide 9 Try.f9 rfl rfl rfl rfl rfl rfl rfl ⟨rfl, rfl, rfl, rfl, rfl⟩ rfl rfl rfl rfl rfl (by kernel_rfl) Try.func9 closed
    (of_decide_eq_true (by kernel_rfl)) (by unfold Func.isWrapper; first | (rw [if_pos (by decide +kernel)]; kernel_rfl) | (rw [if_neg (by decide +kernel)]; exact ⟨rfl, rfl⟩))
    (fun os started H enc _ => lifted os started H enc)

theorem proved : Rows.FnExactWordTableSaid := over
end Go.Proofs.Ytbcmepcjhobemaa.fnExactWordTable

