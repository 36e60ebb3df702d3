/- Exact laws of stage 3: two terms. No condition. -/
import Derived.Test.YtiakelhpmiffdaaMarksC
import Derived.Test.YtiakelhpmiffdaaTruthI
import Derived.Test.YtiakelhpmiffdaaFrameM
import Derived.Deep.RegionHeld3
namespace Go.Proofs.Ytiakelhpmiffdaa
open Go.RowKit Go.Joins
theorem szMarkS2 (ao : Option Addr) (n cap L : Nat) (hn : (n : Int) ≤ 9223372036854775807) (hL : L ≤ 1048576) (w : World) :
    Calls Try.prog 46 #[.slice ao n cap, .int .i64 L] w fun e w' => e = .returned (.int .i64 (if n ≤ L then ((L - n : Nat) : Int) else -1)) ∧ w = w' := by
  by_cases h : n ≤ L
  · have h' : ¬ (L : Int) - (n : Int) < 0 := by omega
    have hw : IntKind.i64.wrap ((L : Int) - (n : Int)) = (L : Int) - (n : Int) := IntWalk.i64_in _ (by omega)
    go_enter Try.func46, Try.ntmps46
    go_wp2
    go_ret
    exact ⟨ret_int (by first | rfl | omega | (rw [if_pos h]; omega)), rfl⟩
  · have h' : (L : Int) - (n : Int) < 0 := by omega
    have hw : IntKind.i64.wrap ((L : Int) - (n : Int)) = (L : Int) - (n : Int) := IntWalk.i64_in _ (by omega)
    go_enter Try.func46, Try.ntmps46
    go_wp2
    go_ret
    exact ⟨ret_int (by first | rfl | rw [if_neg h]), rfl⟩
end Go.Proofs.Ytiakelhpmiffdaa
namespace Go.Proofs.Ytiakelhpmiffdaa.fnExactSameOk
open Go.ChangeShapes Go.WideShapes Go.ChangeAt Go.RowKit
attribute [local irreducible] holds tabV holdsV sameV followsV alwaysV matterV mcells
open Go.ChangeMaps (open_string shut_string)
set_option linter.unusedVariables false
set_option maxRecDepth 100000 in
set_option maxHeartbeats 2000000 in
theorem walk (a0 : Int) (a1 : Value) (z1 : List (Int × Int)) (a2 : Value) (z2 : List (Int × Int)) (w : World) (w0 : (Lit.int .i64 a0).wf = true) (w1 : RdMarks w w.heap.size a1 z1) (w2 : RdMarks w w.heap.size a2 z2) :
    Calls Try.prog 13 #[.int .i64 a0, a1, a2] w fun e w' => e = .returned (.bool true) ∧ Below w.heap.size w w' := by
  obtain ⟨ao, cap, rfl, hl, hm, hi, hc⟩ := w1
  obtain ⟨bo, cap2, rfl, hl2, hm2, hi2, hc2⟩ := w2
  have hr : RdMarks w w.heap.size (.slice ao z1.length cap) z1 := ⟨ao, cap, rfl, hl, hm, hi, hc⟩
  have hr2 : RdMarks w w.heap.size (.slice bo z2.length cap2) z2 := ⟨bo, cap2, rfl, hl2, hm2, hi2, hc2⟩
  unfold maxLen at hm hm2
  have hm' : (z1.length : Int) ≤ 9223372036854775807 := by omega
  have hm2' : (z2.length : Int) ≤ 9223372036854775807 := by omega
  have Hi := Lib.hid hi
  have Hi2 := Lib.hid hi2
  have Hr := Lib.hid hr
  have Hr2 := Lib.hid hr2
  clear hr hr2 hl hl2 hm hm2 hi hi2 hc hc2
  by_cases hlen : z1.length ≤ 1048576
  case neg =>
    have hsz : Hid ((if z1.length ≤ 1048576 then 1048576 - (z1.length : Int) else -1) = -1) := by unfold Hid; rw [if_neg hlen]
    clear hlen
    go_enter Try.func13, Try.ntmps13
    go_wp2_with fail
    refine (szMarkS _ _ _ hm' _).mono ?_
    rintro e w' ⟨rfl, rfl⟩
    rw [hsz.out]
    go_wp2
    go_ret
    exact ⟨rfl, Below.refl _ _⟩
  obtain ⟨L, hL⟩ : ∃ L : Nat, L = 1048576 - z1.length := ⟨_, rfl⟩
  have hsz : Hid ((if z1.length ≤ 1048576 then 1048576 - (z1.length : Int) else -1) = (L : Int)) := by unfold Hid; rw [if_pos hlen]; omega
  have hLb : L ≤ 1048576 := by omega
  have hL0 : ¬ (L : Int) < 0 := by omega
  have hlen2 : z1.length ≤ 1048576 := hlen
  clear hL
  by_cases hlenb : z2.length ≤ L
  case neg =>
    have hsz2 : Hid ((if z2.length ≤ L then ((L - z2.length : Nat) : Int) else -1) = -1) := by unfold Hid; rw [if_neg hlenb]
    clear hlen hlenb
    go_enter Try.func13, Try.ntmps13
    go_wp2_with fail
    refine (szMarkS _ _ _ hm' _).mono ?_
    rintro e w' ⟨rfl, rfl⟩
    rw [hsz.out]
    go_wp2_with fail
    refine (szMarkS2 _ _ _ L hm2' hLb _).mono ?_
    rintro e w' ⟨rfl, rfl⟩
    rw [hsz2.out]
    go_wp2
    go_ret
    exact ⟨rfl, Below.refl _ _⟩
  obtain ⟨M, hM⟩ : ∃ M : Nat, M = L - z2.length := ⟨_, rfl⟩
  have hsz2 : Hid ((if z2.length ≤ L then ((L - z2.length : Nat) : Int) else -1) = (M : Int)) := by unfold Hid; rw [if_pos hlenb, hM]
  have hM0 : ¬ (M : Int) < 0 := by omega
  have hlen2b : z2.length ≤ 1048576 := by omega
  clear hM hlen hlenb
  have hs := fun (B B' : Nat) (a b : Value) (W : World) h1 h2 h3 h4 => specSameOk a0 z1 z2 B B' a b W h1 h2 h3 h4
  have hp := fun (B B' : Nat) (a b : Value) (W : World) h1 h2 h3 h4 => implSameOk a0 z1 z2 B B' a b W h1 h2 h3 h4
  generalize sameV a0 z1 z2 = T at *
  have Hs := Lib.hid hs; clear hs
  have Hp := Lib.hid hp; clear hp
  go_enter Try.func13, Try.ntmps13
  go_wp2_with fail
  refine (szMarkS _ _ _ hm' _).mono ?_
  rintro e w' ⟨rfl, rfl⟩
  rw [hsz.out]
  go_wp2_with fail
  refine (szMarkS2 _ _ _ L hm2' hLb _).mono ?_
  rintro e w' ⟨rfl, rfl⟩
  rw [hsz2.out]
  go_wp2_with fail
  refine (toMarkS z1 hlen2 _ _ _ Hr.out (Nat.le_refl _)).mono ?_
  rintro e w1 ⟨v1, rfl, hown1, hb1⟩
  have Hown1 := Lib.hid hown1
  have Hr1 := Lib.hid (Hr.out.kept hb1)
  have Hq1 := Lib.hid (Hr2.out.kept hb1)
  clear hown1
  go_wp2_with fail
  refine (toMarkS z2 hlen2b _ _ _ Hq1.out (Nat.le_refl _)).mono ?_
  rintro e w2 ⟨v2, rfl, hown2, hb2⟩
  have hB2 : Below w.heap.size w w2 := hb1.trans (hb2.mono hb1.size)
  have Hown12 := Lib.hid (own_below Hown1.out hb2)
  have Hown2 := Lib.hid hown2
  have Hr3 := Lib.hid (Hr.out.kept hB2)
  have Hq3 := Lib.hid (Hr2.out.kept hB2)
  clear hown2 hb2
  go_wp2_with fail
  refine (Hs.out _ _ _ _ _ (RdMarks.of_own Hown12.out Hi.out) (RdMarks.of_own Hown2.out Hi2.out) (Nat.le_refl _) (Nat.le_refl _)).mono ?_
  rintro e w3 ⟨rfl, hb3⟩
  have hB3 : Below w.heap.size w w3 := hB2.trans (hb3.mono hB2.size)
  have Hr4 := Lib.hid (Hr.out.kept hB3)
  have Hq4 := Lib.hid (Hr2.out.kept hB3)
  clear hb3 Hown12 Hown2 Hown1 Hr1 Hq1 Hr3 Hq3
  go_wp2_with fail
  refine (toMarkS z1 hlen2 _ _ _ Hr4.out (Nat.le_refl _)).mono ?_
  rintro e w4 ⟨x1, rfl, hown4, hb4⟩
  have hB4 : Below w.heap.size w w4 := hB3.trans (hb4.mono hB3.size)
  have Hq5 := Lib.hid (Hr2.out.kept hB4)
  have Hown4 := Lib.hid hown4
  clear hown4 hb4
  go_wp2_with fail
  refine (toMarkS z2 hlen2b _ _ _ Hq5.out (Nat.le_refl _)).mono ?_
  rintro e w5 ⟨x2, rfl, hown5, hb5⟩
  have hB5 : Below w.heap.size w w5 := hB4.trans (hb5.mono hB4.size)
  have Hown45 := Lib.hid (own_below Hown4.out hb5)
  have Hown5 := Lib.hid hown5
  clear hown5 hb5 Hown4
  go_wp2_with fail
  refine (Hp.out _ _ _ _ _ (RdMarks.of_own Hown45.out Hi.out) (RdMarks.of_own Hown5.out Hi2.out) (Nat.le_refl _) (Nat.le_refl _)).mono ?_
  rintro e w6 ⟨rfl, hb6⟩
  have hB6 : Below w.heap.size w w6 := hB5.trans (hb6.mono hB5.size)
  have Hown46 := Lib.hid (own_below Hown45.out hb6)
  have Hown56 := Lib.hid (own_below Hown5.out hb6)
  have Hr7 := Lib.hid (Hr.out.kept hB6)
  clear hb6 Hown45 Hown5
  go_wp2_with fail
  refine (toMarkS z1 hlen2 _ _ _ Hr7.out (Nat.le_refl _)).mono ?_
  rintro e w7 ⟨y1, rfl, hown7, hb7⟩
  have hB7 : Below w.heap.size w w7 := hB6.trans (hb7.mono hB6.size)
  have Hown47 := Lib.hid (own_below Hown46.out hb7)
  have Hown57 := Lib.hid (own_below Hown56.out hb7)
  have Hown7 := Lib.hid hown7
  clear hown7 hb7 Hown46 Hown56
  go_wp2_with fail
  refine (eqMarkS z1 z1 _ _ _ _ _ (RdMarks.of_own Hown47.out Hi.out) (RdMarks.of_own Hown7.out Hi.out) (Nat.le_refl _) (Nat.le_refl _)).mono ?_
  rintro e w8 ⟨rfl, hb8⟩
  rw [show decide (z1 = z1) = true from by simp]
  have hB8 : Below w.heap.size w w8 := hB7.trans (hb8.mono hB7.size)
  have Hown58 := Lib.hid (own_below Hown57.out hb8)
  have Hq8 := Lib.hid (Hr2.out.kept hB8)
  clear hb8 Hown47 Hown57 Hown7
  go_wp2_with fail
  refine (toMarkS z2 hlen2b _ _ _ Hq8.out (Nat.le_refl _)).mono ?_
  rintro e w9 ⟨y2, rfl, hown9, hb9⟩
  have hB9 : Below w.heap.size w w9 := hB8.trans (hb9.mono hB8.size)
  have Hown59 := Lib.hid (own_below Hown58.out hb9)
  have Hown9 := Lib.hid hown9
  clear hown9 hb9
  go_wp2_with fail
  refine (eqMarkS z2 z2 _ _ _ _ _ (RdMarks.of_own Hown59.out Hi2.out) (RdMarks.of_own Hown9.out Hi2.out) (Nat.le_refl _) (Nat.le_refl _)).mono ?_
  rintro e w10 ⟨rfl, hb10⟩
  rw [show decide (z2 = z2) = true from by simp]
  have hB10 : Below w.heap.size w w10 := hB9.trans (hb10.mono hB9.size)
  go_wp2
  go_ret
  exact ⟨rfl, hB10⟩

set_option maxRecDepth 100000 in
theorem lifted (os : Os) (started : os.Started) (H : Type) (enc : TypeId × Value → H) :
    ReturnsInHanded {} Try.checked os 13 .any (Rows.fnExactSameOkSpec.pre6 enc Try.prog Try.f13 Rows.fnExactSameOkRow.domain false) (Rows.fnExactSameOkSpec.post enc Try.prog Try.f13 false true false false) := by
  refine returnsInHanded_of_change (C := Try.checked) Try.own started (by kernel_rfl) Try.func13
    (ChangeSpec.witness6 (enc := enc) (C := Try.checked) false ⟨#[], #[.int .i64 0, .slice none 0 0, .slice none 0 0], []⟩ 8 (by kernel_rfl) (by kernel_rfl) (by kernel_rfl) (by kernel_rfl)) ?_
  intro W base args ds gs before hval0 hW hcnd _
  have hval : ∀ (j : Nat) t v, Try.f13.params[j]? = some t → args[j]? = some v → Value.okWide Try.prog W .any base t v := hval0
  have hW' := hW
  obtain ⟨p, q, hA0, hV, rfl, hfz, hnd⟩ := hW
  have hA : DataW.TrodAll enc Try.prog W 0 (fun _ => true) true Try.f13.params.toList args.toList ds p := hA0
  rw [Try.params13] at hA hval
  obtain ⟨v0, vs0, d0, ds0, p0, q0, hargs, rfl, rfl, h0, r0⟩ := trodAll_cons hA
  obtain ⟨v1, vs1, d1, ds1, p1, q1, rfl, rfl, rfl, h1, r1⟩ := trodAll_cons r0
  obtain ⟨v2, vs2, d2, ds2, p2, q2, rfl, rfl, rfl, h2, r2⟩ := trodAll_cons r1
  obtain ⟨rfl, rfl, rfl⟩ := trodAll_nil r2
  obtain rfl : args = #[v0, v1, v2] := by cases args; simp_all
  obtain ⟨rfl, rfl⟩ := trodVars_none hV
  obtain ⟨a0, rfl, rfl, rfl, w0⟩ := open_int Try.underlying3 (hval 0 3 v0 rfl rfl) h0
  obtain ⟨a1, len1, cap1, rfl⟩ := okWide_slice Try.underlying45 (hval 1 45 v1 rfl rfl)
  have k1 := h1
  have lt1 : ∀ x ∈ p1, x.block < W.heap.size := by obtain ⟨m, hm⟩ := k1; exact DataW.trod_lt m _ _ _ hm
  obtain ⟨z1, w1⟩ : ∃ zs, IsMarks W a1 len1 cap1 zs := by
    obtain ⟨fuel, hf⟩ := h1
    exact open_marks Try.underlying45 Try.underlying66 (by kernel_rfl) rfl rfl (by kernel_rfl) (by kernel_rfl) Try.underlying3 Try.underlying3 hf
  obtain ⟨a2, len2, cap2, rfl⟩ := okWide_slice Try.underlying45 (hval 2 45 v2 rfl rfl)
  have k2 := h2
  have lt2 : ∀ x ∈ p2, x.block < W.heap.size := by obtain ⟨m, hm⟩ := k2; exact DataW.trod_lt m _ _ _ hm
  obtain ⟨z2, w2⟩ : ∃ zs, IsMarks W a2 len2 cap2 zs := by
    obtain ⟨fuel, hf⟩ := h2
    exact open_marks Try.underlying45 Try.underlying66 (by kernel_rfl) rfl rfl (by kernel_rfl) (by kernel_rfl) Try.underlying3 Try.underlying3 hf
  clear hA0 hval0
  refine (walk a0 _ _ _ _ W w0 (RdMarks.of_row w1) (RdMarks.of_row w2)).mono fun e W' ⟨he, bel⟩ => ?_
  subst he
  exact ⟨_, rfl, _, _, _, [], _, [], hW', trodAll_mk1 (shut_bool Try.underlying4 _), (trodAll_cons_mk (shut_int Try.underlying3 w0) (trodAll_cons_mk (Below.trod Try.laidOut (by kernel_rfl) (of_decide_eq_true (by kernel_rfl)) k1 bel lt1) (trodAll_cons_mk (Below.trod Try.laidOut (by kernel_rfl) (of_decide_eq_true (by kernel_rfl)) k2 bel lt2) trodAll_mk0))), rfl, bel.frame _, fun h => by cases h⟩

theorem closed : joinedFacts Try.pinned.checked.prog 13 Try.f13 Rows.fnExactSameOkSpec Rows.fnExactSameOkRow = true := by
  unfold joinedFacts
  exact (and_tt (and_tt (and_tt (and_tt (and_tt (and_tt (and_tt (and_tt (and_tt (and_tt (and_tt (and_tt (and_tt (and_tt (and_tt (and_tt (and_tt (and_tt (and_tt (and_tt (and_tt (and_tt (and_tt (and_tt (and_tt (and_tt (and_tt (and_tt (and_tt (and_tt (and_tt (by kernel_rfl) (by kernel_rfl)) (by kernel_rfl)) (by kernel_rfl)) (by kernel_rfl)) (by kernel_rfl)) (by kernel_rfl)) (by kernel_rfl)) (by kernel_rfl)) (by kernel_rfl)) (by kernel_rfl)) (by kernel_rfl)) (by kernel_rfl)) (by kernel_rfl)) (by kernel_rfl)) (by kernel_rfl)) (by kernel_rfl)) (by kernel_rfl)) (by kernel_rfl)) (by kernel_rfl)) (by kernel_rfl)) (by kernel_rfl)) (by kernel_rfl)) (by kernel_rfl)) (by kernel_rfl)) Try.mayEnter0) (lifted_tt Try.lifts0 rfl)) (make_tt Try.make0 rfl)) (by kernel_rfl)) (by kernel_rfl)) (by kernel_rfl)) (by kernel_rfl))
theorem over : Rows.fnExactSameOkRow.holds Try.pinned (OpenSpec.ofChange Rows.fnExactSameOkSpec) :=
  OpenClaim.holds_of_wide 13 Try.f13 rfl rfl rfl rfl rfl rfl rfl ⟨rfl, rfl, rfl, rfl, rfl⟩ rfl rfl rfl rfl rfl (by kernel_rfl) Try.func13 closed
    (of_decide_eq_true (by kernel_rfl)) (by unfold Func.isWrapper; first | (rw [if_pos (by decide +kernel)]; kernel_rfl) | (rw [if_neg (by decide +kernel)]; exact ⟨rfl, rfl⟩))
    (fun os started H enc _ => lifted os started H enc)

theorem proved : Rows.FnExactSameOkSaid := over
end Go.Proofs.Ytiakelhpmiffdaa.fnExactSameOk

namespace Go.Proofs.Ytiakelhpmiffdaa.fnExactFollowsOk
open Go.ChangeShapes Go.WideShapes Go.ChangeAt Go.RowKit
attribute [local irreducible] holds tabV holdsV sameV followsV alwaysV matterV mcells
open Go.ChangeMaps (open_string shut_string)
set_option linter.unusedVariables false
set_option maxRecDepth 100000 in
set_option maxHeartbeats 2000000 in
theorem walk (a0 : Int) (a1 : Value) (z1 : List (Int × Int)) (a2 : Value) (z2 : List (Int × Int)) (w : World) (w0 : (Lit.int .i64 a0).wf = true) (w1 : RdMarks w w.heap.size a1 z1) (w2 : RdMarks w w.heap.size a2 z2) :
    Calls Try.prog 14 #[.int .i64 a0, a1, a2] w fun e w' => e = .returned (.bool true) ∧ Below w.heap.size w w' := by
  obtain ⟨ao, cap, rfl, hl, hm, hi, hc⟩ := w1
  obtain ⟨bo, cap2, rfl, hl2, hm2, hi2, hc2⟩ := w2
  have hr : RdMarks w w.heap.size (.slice ao z1.length cap) z1 := ⟨ao, cap, rfl, hl, hm, hi, hc⟩
  have hr2 : RdMarks w w.heap.size (.slice bo z2.length cap2) z2 := ⟨bo, cap2, rfl, hl2, hm2, hi2, hc2⟩
  unfold maxLen at hm hm2
  have hm' : (z1.length : Int) ≤ 9223372036854775807 := by omega
  have hm2' : (z2.length : Int) ≤ 9223372036854775807 := by omega
  have Hi := Lib.hid hi
  have Hi2 := Lib.hid hi2
  have Hr := Lib.hid hr
  have Hr2 := Lib.hid hr2
  clear hr hr2 hl hl2 hm hm2 hi hi2 hc hc2
  by_cases hlen : z1.length ≤ 1048576
  case neg =>
    have hsz : Hid ((if z1.length ≤ 1048576 then 1048576 - (z1.length : Int) else -1) = -1) := by unfold Hid; rw [if_neg hlen]
    clear hlen
    go_enter Try.func14, Try.ntmps14
    go_wp2_with fail
    refine (szMarkS _ _ _ hm' _).mono ?_
    rintro e w' ⟨rfl, rfl⟩
    rw [hsz.out]
    go_wp2
    go_ret
    exact ⟨rfl, Below.refl _ _⟩
  obtain ⟨L, hL⟩ : ∃ L : Nat, L = 1048576 - z1.length := ⟨_, rfl⟩
  have hsz : Hid ((if z1.length ≤ 1048576 then 1048576 - (z1.length : Int) else -1) = (L : Int)) := by unfold Hid; rw [if_pos hlen]; omega
  have hLb : L ≤ 1048576 := by omega
  have hL0 : ¬ (L : Int) < 0 := by omega
  have hlen2 : z1.length ≤ 1048576 := hlen
  clear hL
  by_cases hlenb : z2.length ≤ L
  case neg =>
    have hsz2 : Hid ((if z2.length ≤ L then ((L - z2.length : Nat) : Int) else -1) = -1) := by unfold Hid; rw [if_neg hlenb]
    clear hlen hlenb
    go_enter Try.func14, Try.ntmps14
    go_wp2_with fail
    refine (szMarkS _ _ _ hm' _).mono ?_
    rintro e w' ⟨rfl, rfl⟩
    rw [hsz.out]
    go_wp2_with fail
    refine (szMarkS2 _ _ _ L hm2' hLb _).mono ?_
    rintro e w' ⟨rfl, rfl⟩
    rw [hsz2.out]
    go_wp2
    go_ret
    exact ⟨rfl, Below.refl _ _⟩
  obtain ⟨M, hM⟩ : ∃ M : Nat, M = L - z2.length := ⟨_, rfl⟩
  have hsz2 : Hid ((if z2.length ≤ L then ((L - z2.length : Nat) : Int) else -1) = (M : Int)) := by unfold Hid; rw [if_pos hlenb, hM]
  have hM0 : ¬ (M : Int) < 0 := by omega
  have hlen2b : z2.length ≤ 1048576 := by omega
  clear hM hlen hlenb
  have hs := fun (B B' : Nat) (a b : Value) (W : World) h1 h2 h3 h4 => specFollowsOk a0 z1 z2 B B' a b W h1 h2 h3 h4
  have hp := fun (B B' : Nat) (a b : Value) (W : World) h1 h2 h3 h4 => implFollowsOk a0 z1 z2 B B' a b W h1 h2 h3 h4
  generalize followsV a0 z1 z2 = T at *
  have Hs := Lib.hid hs; clear hs
  have Hp := Lib.hid hp; clear hp
  go_enter Try.func14, Try.ntmps14
  go_wp2_with fail
  refine (szMarkS _ _ _ hm' _).mono ?_
  rintro e w' ⟨rfl, rfl⟩
  rw [hsz.out]
  go_wp2_with fail
  refine (szMarkS2 _ _ _ L hm2' hLb _).mono ?_
  rintro e w' ⟨rfl, rfl⟩
  rw [hsz2.out]
  go_wp2_with fail
  refine (toMarkS z1 hlen2 _ _ _ Hr.out (Nat.le_refl _)).mono ?_
  rintro e w1 ⟨v1, rfl, hown1, hb1⟩
  have Hown1 := Lib.hid hown1
  have Hr1 := Lib.hid (Hr.out.kept hb1)
  have Hq1 := Lib.hid (Hr2.out.kept hb1)
  clear hown1
  go_wp2_with fail
  refine (toMarkS z2 hlen2b _ _ _ Hq1.out (Nat.le_refl _)).mono ?_
  rintro e w2 ⟨v2, rfl, hown2, hb2⟩
  have hB2 : Below w.heap.size w w2 := hb1.trans (hb2.mono hb1.size)
  have Hown12 := Lib.hid (own_below Hown1.out hb2)
  have Hown2 := Lib.hid hown2
  have Hr3 := Lib.hid (Hr.out.kept hB2)
  have Hq3 := Lib.hid (Hr2.out.kept hB2)
  clear hown2 hb2
  go_wp2_with fail
  refine (Hs.out _ _ _ _ _ (RdMarks.of_own Hown12.out Hi.out) (RdMarks.of_own Hown2.out Hi2.out) (Nat.le_refl _) (Nat.le_refl _)).mono ?_
  rintro e w3 ⟨rfl, hb3⟩
  have hB3 : Below w.heap.size w w3 := hB2.trans (hb3.mono hB2.size)
  have Hr4 := Lib.hid (Hr.out.kept hB3)
  have Hq4 := Lib.hid (Hr2.out.kept hB3)
  clear hb3 Hown12 Hown2 Hown1 Hr1 Hq1 Hr3 Hq3
  go_wp2_with fail
  refine (toMarkS z1 hlen2 _ _ _ Hr4.out (Nat.le_refl _)).mono ?_
  rintro e w4 ⟨x1, rfl, hown4, hb4⟩
  have hB4 : Below w.heap.size w w4 := hB3.trans (hb4.mono hB3.size)
  have Hq5 := Lib.hid (Hr2.out.kept hB4)
  have Hown4 := Lib.hid hown4
  clear hown4 hb4
  go_wp2_with fail
  refine (toMarkS z2 hlen2b _ _ _ Hq5.out (Nat.le_refl _)).mono ?_
  rintro e w5 ⟨x2, rfl, hown5, hb5⟩
  have hB5 : Below w.heap.size w w5 := hB4.trans (hb5.mono hB4.size)
  have Hown45 := Lib.hid (own_below Hown4.out hb5)
  have Hown5 := Lib.hid hown5
  clear hown5 hb5 Hown4
  go_wp2_with fail
  refine (Hp.out _ _ _ _ _ (RdMarks.of_own Hown45.out Hi.out) (RdMarks.of_own Hown5.out Hi2.out) (Nat.le_refl _) (Nat.le_refl _)).mono ?_
  rintro e w6 ⟨rfl, hb6⟩
  have hB6 : Below w.heap.size w w6 := hB5.trans (hb6.mono hB5.size)
  have Hown46 := Lib.hid (own_below Hown45.out hb6)
  have Hown56 := Lib.hid (own_below Hown5.out hb6)
  have Hr7 := Lib.hid (Hr.out.kept hB6)
  clear hb6 Hown45 Hown5
  go_wp2_with fail
  refine (toMarkS z1 hlen2 _ _ _ Hr7.out (Nat.le_refl _)).mono ?_
  rintro e w7 ⟨y1, rfl, hown7, hb7⟩
  have hB7 : Below w.heap.size w w7 := hB6.trans (hb7.mono hB6.size)
  have Hown47 := Lib.hid (own_below Hown46.out hb7)
  have Hown57 := Lib.hid (own_below Hown56.out hb7)
  have Hown7 := Lib.hid hown7
  clear hown7 hb7 Hown46 Hown56
  go_wp2_with fail
  refine (eqMarkS z1 z1 _ _ _ _ _ (RdMarks.of_own Hown47.out Hi.out) (RdMarks.of_own Hown7.out Hi.out) (Nat.le_refl _) (Nat.le_refl _)).mono ?_
  rintro e w8 ⟨rfl, hb8⟩
  rw [show decide (z1 = z1) = true from by simp]
  have hB8 : Below w.heap.size w w8 := hB7.trans (hb8.mono hB7.size)
  have Hown58 := Lib.hid (own_below Hown57.out hb8)
  have Hq8 := Lib.hid (Hr2.out.kept hB8)
  clear hb8 Hown47 Hown57 Hown7
  go_wp2_with fail
  refine (toMarkS z2 hlen2b _ _ _ Hq8.out (Nat.le_refl _)).mono ?_
  rintro e w9 ⟨y2, rfl, hown9, hb9⟩
  have hB9 : Below w.heap.size w w9 := hB8.trans (hb9.mono hB8.size)
  have Hown59 := Lib.hid (own_below Hown58.out hb9)
  have Hown9 := Lib.hid hown9
  clear hown9 hb9
  go_wp2_with fail
  refine (eqMarkS z2 z2 _ _ _ _ _ (RdMarks.of_own Hown59.out Hi2.out) (RdMarks.of_own Hown9.out Hi2.out) (Nat.le_refl _) (Nat.le_refl _)).mono ?_
  rintro e w10 ⟨rfl, hb10⟩
  rw [show decide (z2 = z2) = true from by simp]
  have hB10 : Below w.heap.size w w10 := hB9.trans (hb10.mono hB9.size)
  go_wp2
  go_ret
  exact ⟨rfl, hB10⟩

set_option maxRecDepth 100000 in
theorem lifted (os : Os) (started : os.Started) (H : Type) (enc : TypeId × Value → H) :
    ReturnsInHanded {} Try.checked os 14 .any (Rows.fnExactFollowsOkSpec.pre6 enc Try.prog Try.f14 Rows.fnExactFollowsOkRow.domain false) (Rows.fnExactFollowsOkSpec.post enc Try.prog Try.f14 false true false false) := by
  refine returnsInHanded_of_change (C := Try.checked) Try.own started (by kernel_rfl) Try.func14
    (ChangeSpec.witness6 (enc := enc) (C := Try.checked) false ⟨#[], #[.int .i64 0, .slice none 0 0, .slice none 0 0], []⟩ 8 (by kernel_rfl) (by kernel_rfl) (by kernel_rfl) (by kernel_rfl)) ?_
  intro W base args ds gs before hval0 hW hcnd _
  have hval : ∀ (j : Nat) t v, Try.f14.params[j]? = some t → args[j]? = some v → Value.okWide Try.prog W .any base t v := hval0
  have hW' := hW
  obtain ⟨p, q, hA0, hV, rfl, hfz, hnd⟩ := hW
  have hA : DataW.TrodAll enc Try.prog W 0 (fun _ => true) true Try.f14.params.toList args.toList ds p := hA0
  rw [Try.params14] at hA hval
  obtain ⟨v0, vs0, d0, ds0, p0, q0, hargs, rfl, rfl, h0, r0⟩ := trodAll_cons hA
  obtain ⟨v1, vs1, d1, ds1, p1, q1, rfl, rfl, rfl, h1, r1⟩ := trodAll_cons r0
  obtain ⟨v2, vs2, d2, ds2, p2, q2, rfl, rfl, rfl, h2, r2⟩ := trodAll_cons r1
  obtain ⟨rfl, rfl, rfl⟩ := trodAll_nil r2
  obtain rfl : args = #[v0, v1, v2] := by cases args; simp_all
  obtain ⟨rfl, rfl⟩ := trodVars_none hV
  obtain ⟨a0, rfl, rfl, rfl, w0⟩ := open_int Try.underlying3 (hval 0 3 v0 rfl rfl) h0
  obtain ⟨a1, len1, cap1, rfl⟩ := okWide_slice Try.underlying45 (hval 1 45 v1 rfl rfl)
  have k1 := h1
  have lt1 : ∀ x ∈ p1, x.block < W.heap.size := by obtain ⟨m, hm⟩ := k1; exact DataW.trod_lt m _ _ _ hm
  obtain ⟨z1, w1⟩ : ∃ zs, IsMarks W a1 len1 cap1 zs := by
    obtain ⟨fuel, hf⟩ := h1
    exact open_marks Try.underlying45 Try.underlying66 (by kernel_rfl) rfl rfl (by kernel_rfl) (by kernel_rfl) Try.underlying3 Try.underlying3 hf
  obtain ⟨a2, len2, cap2, rfl⟩ := okWide_slice Try.underlying45 (hval 2 45 v2 rfl rfl)
  have k2 := h2
  have lt2 : ∀ x ∈ p2, x.block < W.heap.size := by obtain ⟨m, hm⟩ := k2; exact DataW.trod_lt m _ _ _ hm
  obtain ⟨z2, w2⟩ : ∃ zs, IsMarks W a2 len2 cap2 zs := by
    obtain ⟨fuel, hf⟩ := h2
    exact open_marks Try.underlying45 Try.underlying66 (by kernel_rfl) rfl rfl (by kernel_rfl) (by kernel_rfl) Try.underlying3 Try.underlying3 hf
  clear hA0 hval0
  refine (walk a0 _ _ _ _ W w0 (RdMarks.of_row w1) (RdMarks.of_row w2)).mono fun e W' ⟨he, bel⟩ => ?_
  subst he
  exact ⟨_, rfl, _, _, _, [], _, [], hW', trodAll_mk1 (shut_bool Try.underlying4 _), (trodAll_cons_mk (shut_int Try.underlying3 w0) (trodAll_cons_mk (Below.trod Try.laidOut (by kernel_rfl) (of_decide_eq_true (by kernel_rfl)) k1 bel lt1) (trodAll_cons_mk (Below.trod Try.laidOut (by kernel_rfl) (of_decide_eq_true (by kernel_rfl)) k2 bel lt2) trodAll_mk0))), rfl, bel.frame _, fun h => by cases h⟩

theorem closed : joinedFacts Try.pinned.checked.prog 14 Try.f14 Rows.fnExactFollowsOkSpec Rows.fnExactFollowsOkRow = true := by
  unfold joinedFacts
  exact (and_tt (and_tt (and_tt (and_tt (and_tt (and_tt (and_tt (and_tt (and_tt (and_tt (and_tt (and_tt (and_tt (and_tt (and_tt (and_tt (and_tt (and_tt (and_tt (and_tt (and_tt (and_tt (and_tt (and_tt (and_tt (and_tt (and_tt (and_tt (and_tt (and_tt (and_tt (by kernel_rfl) (by kernel_rfl)) (by kernel_rfl)) (by kernel_rfl)) (by kernel_rfl)) (by kernel_rfl)) (by kernel_rfl)) (by kernel_rfl)) (by kernel_rfl)) (by kernel_rfl)) (by kernel_rfl)) (by kernel_rfl)) (by kernel_rfl)) (by kernel_rfl)) (by kernel_rfl)) (by kernel_rfl)) (by kernel_rfl)) (by kernel_rfl)) (by kernel_rfl)) (by kernel_rfl)) (by kernel_rfl)) (by kernel_rfl)) (by kernel_rfl)) (by kernel_rfl)) (by kernel_rfl)) Try.mayEnter0) (lifted_tt Try.lifts0 rfl)) (make_tt Try.make0 rfl)) (by kernel_rfl)) (by kernel_rfl)) (by kernel_rfl)) (by kernel_rfl))
theorem over : Rows.fnExactFollowsOkRow.holds Try.pinned (OpenSpec.ofChange Rows.fnExactFollowsOkSpec) :=
  OpenClaim.holds_of_wide 14 Try.f14 rfl rfl rfl rfl rfl rfl rfl ⟨rfl, rfl, rfl, rfl, rfl⟩ rfl rfl rfl rfl rfl (by kernel_rfl) Try.func14 closed
    (of_decide_eq_true (by kernel_rfl)) (by unfold Func.isWrapper; first | (rw [if_pos (by decide +kernel)]; kernel_rfl) | (rw [if_neg (by decide +kernel)]; exact ⟨rfl, rfl⟩))
    (fun os started H enc _ => lifted os started H enc)

theorem proved : Rows.FnExactFollowsOkSaid := over
end Go.Proofs.Ytiakelhpmiffdaa.fnExactFollowsOk

