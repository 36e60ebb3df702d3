/- Exact laws of stage 6: counts, never and always said. No condition. -/
import Derived.Test.YtpccldbcmanhdaaOddI
import Derived.Test.YtpccldbcmanhdaaClaimE
import Derived.Test.YtpccldbcmanhdaaFrameC
import Derived.Deep.RegionHeld3
import Derived.Deep.Cut
namespace Go.Proofs.Ytpccldbcmanhdaa.fnExactSayCount
open Go.ChangeShapes Go.WideShapes Go.ChangeAt Go.RowKit
attribute [local irreducible] holds tabN tabV holdsV sameV followsV alwaysV matterV mirV mirOk mcells tmOf claimOk mayT mayV ctabV ctabN storyV storyOk storyN storyT ctermV ctermL denyV denyOk ccells sayV neverV alwsV nestOk nestV kindOk kindV
open Go.ChangeMaps (open_string shut_string)
set_option linter.unusedVariables false
set_option maxRecDepth 100000 in
set_option maxHeartbeats 4000000 in
theorem walk (a0 : Int) (k1 : Int) (a1 : Value) (z1 : List (Int × Int)) (w : World) (w0 : (Lit.int .i64 a0).wf = true) (wi1 : I64 k1) (w1 : RdMarks w w.heap.size a1 z1) :
    Calls Try.prog 8 #[.int .i64 a0, .agg #[.int .i64 k1, a1]] w fun e w' => e = .returned (.bool true) ∧ Below w.heap.size w w' := by
  have hr := w1
  obtain ⟨ao, cap, rfl, hl, hm, hi, hc⟩ := w1
  unfold maxLen at hm
  have hm' : (z1.length : Int) ≤ 9223372036854775807 := by omega
  have Hi := Lib.hid hi
  have Hr := Lib.hid hr
  have hs := fun (B : Nat) (v : Value) (W : World) h h2 => specSayCount a0 k1 z1 B v W h h2
  have hp := fun (B : Nat) (v : Value) (W : World) h h2 => implSayCount a0 k1 z1 B v W h h2
  generalize sayV a0 (k1, z1) = T at *
  have Hs := Lib.hid hs
  have Hp := Lib.hid hp
  clear hs hp hr hi hc hl
  obtain ⟨w2, hw2, hx2, hb2, hsz2⟩ := Box.new w (.int .i64 k1) (.slice ao z1.length cap) 46
  have HX2 := Lib.hid hx2
  have aX2 := HX2.out.1
  have bX2 := HX2.out.2.1
  have hB2 : Below w.heap.size w w2 := hb2
  clear hx2 hb2
  by_cases hlen : z1.length ≤ 1048576
  case neg =>
    have hsz : Hid ((if z1.length ≤ 1048576 then 1048576 - (z1.length : Int) else -1) = -1) := if_neg hlen
    go_enter Try.func8, Try.ntmps8
    go_upto_region 1 with fail
    rw [← hw2]
    clear hw2
    go_wp2_with fail
    refine (szClaim k1 ao z1.length cap hm' _).mono ?_
    rintro e w3 ⟨rfl, hb3⟩
    rw [hsz.out]
    have hB3 : Below w.heap.size w w3 := hB2.trans (hb3.mono hB2.size)
    clear hb3
    go_wp2
    go_ret
    exact ⟨rfl, hB3⟩
  have hsz : Hid ((if z1.length ≤ 1048576 then 1048576 - (z1.length : Int) else -1) = 1048576 - (z1.length : Int)) := if_pos hlen
  have hlen3 : (z1.length : Int) ≤ 1048576 := by omega
  go_enter Try.func8, Try.ntmps8
  go_upto_region 1 with fail
  rw [← hw2]
  clear hw2
  go_wp2_with fail
  refine (szClaim k1 ao z1.length cap hm' _).mono ?_
  rintro e w3 ⟨rfl, hb3⟩
  rw [hsz.out]
  have HX3 := Lib.hid (HX2.out.below hb3)
  have aX3 := HX3.out.1
  have bX3 := HX3.out.2.1
  have hB3 : Below w.heap.size w w3 := hB2.trans (hb3.mono hB2.size)
  have HR3 := Lib.hid (Hr.out.kept hB3)
  clear hb3 aX2 bX2
  go_wp2_with fail
  refine (toClaim k1 z1 hlen _ _ _ HR3.out (Nat.le_refl _)).mono ?_
  rintro e w4 ⟨v4, rfl, hown4, hb4⟩
  have HX4 := Lib.hid (HX3.out.below hb4)
  have aX4 := HX4.out.1
  have bX4 := HX4.out.2.1
  have hB4 : Below w.heap.size w w4 := hB3.trans (hb4.mono hB3.size)
  have HR4 := Lib.hid (Hr.out.kept hB4)
  clear hb4 aX3 bX3
  go_wp2_with fail
  refine (Hs.out _ _ _ (RdMarks.of_own hown4 Hi.out) (Nat.le_refl _)).mono ?_
  rintro e w5 ⟨rfl, hb5⟩
  clear hown4
  have HX5 := Lib.hid (HX4.out.below hb5)
  have aX5 := HX5.out.1
  have bX5 := HX5.out.2.1
  have hB5 : Below w.heap.size w w5 := hB4.trans (hb5.mono hB4.size)
  have HR5 := Lib.hid (Hr.out.kept hB5)
  clear hb5 aX4 bX4
  go_wp2_with fail
  refine (toClaim k1 z1 hlen _ _ _ HR5.out (Nat.le_refl _)).mono ?_
  rintro e w6 ⟨v6, rfl, hown6, hb6⟩
  obtain ⟨vo, vc, hvf⟩ := own_len hown6
  subst hvf
  have HX6 := Lib.hid (HX5.out.below hb6)
  have aX6 := HX6.out.1
  have bX6 := HX6.out.2.1
  have hB6 : Below w.heap.size w w6 := hB5.trans (hb6.mono hB5.size)
  have HR6 := Lib.hid (Hr.out.kept hB6)
  clear hb6 aX5 bX5
  go_upto_region 7 with fail
  obtain ⟨w7, hw7, hy7, hb7, hsz7⟩ := Box.new w6 (.int .i64 k1) (.slice vo z1.length vc) TC
  have HO7 := Lib.hid (own_below hown6 hb7)
  have HY7 := Lib.hid hy7
  have aY7 := HY7.out.1
  have bY7 := HY7.out.2.1
  rw [← hw7]
  clear hown6 hy7 hw7
  have HX7 := Lib.hid (HX6.out.below hb7)
  have aX7 := HX7.out.1
  have bX7 := HX7.out.2.1
  have hB7 : Below w.heap.size w w7 := hB6.trans (hb7.mono hB6.size)
  have HR7 := Lib.hid (Hr.out.kept hB7)
  clear hb7 aX6 bX6
  go_wp2_with fail
  refine (Hp.out _ _ _ (RdMarks.of_own HO7.out Hi.out) (Nat.le_refl _)).mono ?_
  rintro e w8 ⟨rfl, hb8⟩
  have HX8 := Lib.hid (HX7.out.below hb8)
  have aX8 := HX8.out.1
  have bX8 := HX8.out.2.1
  have HY8 := Lib.hid (HY7.out.below hb8)
  have aY8 := HY8.out.1
  have bY8 := HY8.out.2.1
  have HO8 := Lib.hid (own_below HO7.out hb8)
  have hB8 : Below w.heap.size w w8 := hB7.trans (hb8.mono hB7.size)
  have HR8 := Lib.hid (Hr.out.kept hB8)
  clear hb8 aX7 bX7 aY7 bY7
  have HB8 := Lib.hid hB8
  clear hB2 hB3 hB4 hB5 hB6 hB7 hB8 HX2 HX3 HX4 HX5 HX6 HX7 HY7 HO7 HR3 HR4 HR5 HR6 HR7 Hs Hp hsz
  go_wp2_with fail
  go_region_held3 (fun w' => w'.cell? ⟨w6.heap.size, 0, none⟩ = some (.int .i64 k1) ∧ w'.cell? ⟨w6.heap.size, 1, none⟩ = some (.slice vo z1.length vc) ∧ w'.cell? ⟨w.heap.size, 0, none⟩ = some (.int .i64 k1) ∧ w'.cell? ⟨w.heap.size, 1, none⟩ = some (.slice ao z1.length cap))
    (first | (refine ⟨?_, ?_, ?_, ?_⟩ <;> first | go_keep | assumption) | assumption)
    (first
      | (go_at_call 42
         (with_reducible refine (toClaim k1 z1 hlen w8.heap.size _ _ ?_ ?_).mono ?_)
         · exact HR8.out
         · exact Nat.le_refl _
         rintro e w9 ⟨v9, rfl, hown9, hb9'⟩
         go_must (have hb9 : Below w8.heap.size w8 w9 := by first | exact hb9' | exact below_undrewS hb9' | exact below_undrewN hb9'
                  clear hb9'
                  have HX9 := Lib.hid (HX8.out.below hb9)
                  have HY9 := Lib.hid (HY8.out.below hb9)
                  have aX9 := HX9.out.1
                  have bX9 := HX9.out.2.1
                  have aY9 := HY9.out.1
                  have bY9 := HY9.out.2.1
                  have HO9 := Lib.hid (own_below HO8.out hb9)
                  have HV9 := Lib.hid hown9
                  have HB9 := Lib.hid (HB8.out.trans (hb9.mono HB8.out.size))
                  clear hb9 hown9))
      | (go_at_call 43
         (with_reducible refine (eqClaim k1 z1 w9.heap.size w9.heap.size _ _ _ ?_ ?_ ?_ ?_).mono ?_)
         · exact RdMarks.of_own HO9.out Hi.out
         · exact RdMarks.of_own HV9.out Hi.out
         · exact Nat.le_refl _
         · exact Nat.le_refl _
         rintro e w10 ⟨rfl, hb10'⟩
         go_must (have hb10 : Below w9.heap.size w9 w10 := by first | exact hb10' | exact below_undrewS hb10' | exact below_undrewN hb10'
                  clear hb10'
                  have HX10 := Lib.hid (HX9.out.below hb10)
                  have HY10 := Lib.hid (HY9.out.below hb10)
                  have aX10 := HX10.out.1
                  have bX10 := HX10.out.2.1
                  have aY10 := HY10.out.1
                  have bY10 := HY10.out.2.1
                  have HB10 := Lib.hid (HB9.out.trans (hb10.mono HB9.out.size))
                  clear hb10))
      | fail)
  go_wp2
  go_ret
  exact ⟨rfl, by first | exact HB10.out | exact below_drew1 HB10.out | exact below_drewN HB10.out _⟩

set_option maxRecDepth 100000 in
theorem lifted (os : Os) (started : os.Started) (H : Type) (enc : TypeId × Value → H) :
    ReturnsInHanded {} Try.checked os 8 .any (Rows.fnExactSayCountSpec.pre6 enc Try.prog Try.f8 Rows.fnExactSayCountRow.domain false) (Rows.fnExactSayCountSpec.post enc Try.prog Try.f8 false true false false) := by
  refine returnsInHanded_of_change (C := Try.checked) Try.own started (by kernel_rfl) Try.func8
    (ChangeSpec.witness6 (enc := enc) (C := Try.checked) false ⟨#[], #[.int .i64 0, .agg #[.int .i64 0, .slice none 0 0]], []⟩ 8 (by kernel_rfl) (by kernel_rfl) (by kernel_rfl) (by kernel_rfl)) ?_
  intro W base args ds gs before hval0 hW hcnd _
  have hval : ∀ (j : Nat) t v, Try.f8.params[j]? = some t → args[j]? = some v → Value.okWide Try.prog W .any base t v := hval0
  have hW' := hW
  obtain ⟨p, q, hA0, hV, rfl, hfz, hnd⟩ := hW
  have hA : DataW.TrodAll enc Try.prog W 0 (fun _ => true) true Try.f8.params.toList args.toList ds p := hA0
  rw [Try.params8] at hA hval
  obtain ⟨v0, vs0, d0, ds0, p0, q0, hargs, rfl, rfl, h0, r0⟩ := trodAll_cons hA
  obtain ⟨v1, vs1, d1, ds1, p1, q1, rfl, rfl, rfl, h1, r1⟩ := trodAll_cons r0
  obtain ⟨rfl, rfl, rfl⟩ := trodAll_nil r1
  obtain rfl : args = #[v0, v1] := by cases args; simp_all
  obtain ⟨rfl, rfl⟩ := trodVars_none hV
  obtain ⟨a0, rfl, rfl, rfl, w0⟩ := open_int Try.underlying3 (hval 0 3 v0 rfl rfl) h0
  have k1 := h1
  have lt1 : ∀ x ∈ p1, x.block < W.heap.size := by obtain ⟨m, hm⟩ := k1; exact DataW.trod_lt m _ _ _ hm
  obtain ⟨c1, a1, z1, rfl, wi1, w1⟩ := open_claim Try.underlying46 (by kernel_rfl) (by kernel_rfl) Try.underlying3 Try.underlying44 Try.underlying88 (by kernel_rfl) rfl rfl (by kernel_rfl) (by kernel_rfl) Try.underlying3 Try.underlying3 (hval 1 46 v1 rfl rfl) h1
  clear hA0 hval0
  refine (walk a0 _ _ _ W w0 wi1 w1).mono fun e W' ⟨he, bel⟩ => ?_
  subst he
  exact ⟨_, rfl, _, _, _, [], _, [], hW', trodAll_mk1 (shut_bool Try.underlying4 _), (trodAll_cons_mk (shut_int Try.underlying3 w0) (trodAll_cons_mk (Below.trod Try.laidOut (by kernel_rfl) (of_decide_eq_true (by kernel_rfl)) k1 bel lt1) trodAll_mk0)), rfl, bel.frame _, fun h => by cases h⟩

theorem closed : joinedFacts Try.pinned.checked.prog 8 Try.f8 Rows.fnExactSayCountSpec Rows.fnExactSayCountRow = true := by
  unfold joinedFacts
  exact (and_tt (and_tt (and_tt (and_tt (and_tt (and_tt (and_tt (and_tt (and_tt (and_tt (and_tt (and_tt (and_tt (and_tt (and_tt (and_tt (and_tt (and_tt (and_tt (and_tt (and_tt (and_tt (and_tt (and_tt (and_tt (and_tt (and_tt (and_tt (and_tt (and_tt (and_tt (by kernel_rfl) (by kernel_rfl)) (by kernel_rfl)) (by kernel_rfl)) (by kernel_rfl)) (by kernel_rfl)) (by kernel_rfl)) (by kernel_rfl)) (by kernel_rfl)) (by kernel_rfl)) (by kernel_rfl)) (by kernel_rfl)) (by kernel_rfl)) (by kernel_rfl)) (by kernel_rfl)) (by kernel_rfl)) (by kernel_rfl)) (by kernel_rfl)) (by kernel_rfl)) (by kernel_rfl)) (by kernel_rfl)) (by kernel_rfl)) (by kernel_rfl)) (by kernel_rfl)) (by kernel_rfl)) Try.mayEnter0) (lifted_tt Try.lifts0 rfl)) (make_tt Try.make0 rfl)) (by kernel_rfl)) (by kernel_rfl)) (by kernel_rfl)) (by kernel_rfl))
theorem over : Rows.fnExactSayCountRow.holds Try.pinned (OpenSpec.ofChange Rows.fnExactSayCountSpec) :=
  OpenClaim.holds_of_wide 8 Try.f8 rfl rfl rfl rfl rfl rfl rfl ⟨rfl, rfl, rfl, rfl, rfl⟩ rfl rfl rfl rfl rfl (by kernel_rfl) Try.func8 closed
    (of_decide_eq_true (by kernel_rfl)) (by unfold Func.isWrapper; first | (rw [if_pos (by decide +kernel)]; kernel_rfl) | (rw [if_neg (by decide +kernel)]; exact ⟨rfl, rfl⟩))
    (fun os started H enc _ => lifted os started H enc)

theorem proved : Rows.FnExactSayCountSaid := over
end Go.Proofs.Ytpccldbcmanhdaa.fnExactSayCount

namespace Go.Proofs.Ytpccldbcmanhdaa.fnExactNeverSaid
open Go.ChangeShapes Go.WideShapes Go.ChangeAt Go.RowKit
attribute [local irreducible] holds tabN tabV holdsV sameV followsV alwaysV matterV mirV mirOk mcells tmOf claimOk mayT mayV ctabV ctabN storyV storyOk storyN storyT ctermV ctermL denyV denyOk ccells sayV neverV alwsV nestOk nestV kindOk kindV
open Go.ChangeMaps (open_string shut_string)
set_option linter.unusedVariables false
set_option maxRecDepth 100000 in
set_option maxHeartbeats 4000000 in
theorem walk (a0 : Int) (k1 : Int) (a1 : Value) (z1 : List (Int × Int)) (w : World) (w0 : (Lit.int .i64 a0).wf = true) (wi1 : I64 k1) (w1 : RdMarks w w.heap.size a1 z1) :
    Calls Try.prog 9 #[.int .i64 a0, .agg #[.int .i64 k1, a1]] w fun e w' => e = .returned (.bool true) ∧ Below w.heap.size w w' := by
  have hr := w1
  obtain ⟨ao, cap, rfl, hl, hm, hi, hc⟩ := w1
  unfold maxLen at hm
  have hm' : (z1.length : Int) ≤ 9223372036854775807 := by omega
  have Hi := Lib.hid hi
  have Hr := Lib.hid hr
  have hs := fun (B : Nat) (v : Value) (W : World) h h2 => specNeverSaid a0 k1 z1 B v W h h2
  have hp := fun (B : Nat) (v : Value) (W : World) h h2 => implNeverSaid a0 k1 z1 B v W h h2
  generalize neverV a0 (k1, z1) = T at *
  have Hs := Lib.hid hs
  have Hp := Lib.hid hp
  clear hs hp hr hi hc hl
  obtain ⟨w2, hw2, hx2, hb2, hsz2⟩ := Box.new w (.int .i64 k1) (.slice ao z1.length cap) 46
  have HX2 := Lib.hid hx2
  have aX2 := HX2.out.1
  have bX2 := HX2.out.2.1
  have hB2 : Below w.heap.size w w2 := hb2
  clear hx2 hb2
  by_cases hlen : z1.length ≤ 1048576
  case neg =>
    have hsz : Hid ((if z1.length ≤ 1048576 then 1048576 - (z1.length : Int) else -1) = -1) := if_neg hlen
    go_enter Try.func9, Try.ntmps9
    go_upto_region 1 with fail
    rw [← hw2]
    clear hw2
    go_wp2_with fail
    refine (szClaim k1 ao z1.length cap hm' _).mono ?_
    rintro e w3 ⟨rfl, hb3⟩
    rw [hsz.out]
    have hB3 : Below w.heap.size w w3 := hB2.trans (hb3.mono hB2.size)
    clear hb3
    go_wp2
    go_ret
    exact ⟨rfl, hB3⟩
  have hsz : Hid ((if z1.length ≤ 1048576 then 1048576 - (z1.length : Int) else -1) = 1048576 - (z1.length : Int)) := if_pos hlen
  have hlen3 : (z1.length : Int) ≤ 1048576 := by omega
  go_enter Try.func9, Try.ntmps9
  go_upto_region 1 with fail
  rw [← hw2]
  clear hw2
  go_wp2_with fail
  refine (szClaim k1 ao z1.length cap hm' _).mono ?_
  rintro e w3 ⟨rfl, hb3⟩
  rw [hsz.out]
  have HX3 := Lib.hid (HX2.out.below hb3)
  have aX3 := HX3.out.1
  have bX3 := HX3.out.2.1
  have hB3 : Below w.heap.size w w3 := hB2.trans (hb3.mono hB2.size)
  have HR3 := Lib.hid (Hr.out.kept hB3)
  clear hb3 aX2 bX2
  go_wp2_with fail
  refine (toClaim k1 z1 hlen _ _ _ HR3.out (Nat.le_refl _)).mono ?_
  rintro e w4 ⟨v4, rfl, hown4, hb4⟩
  have HX4 := Lib.hid (HX3.out.below hb4)
  have aX4 := HX4.out.1
  have bX4 := HX4.out.2.1
  have hB4 : Below w.heap.size w w4 := hB3.trans (hb4.mono hB3.size)
  have HR4 := Lib.hid (Hr.out.kept hB4)
  clear hb4 aX3 bX3
  go_wp2_with fail
  refine (Hs.out _ _ _ (RdMarks.of_own hown4 Hi.out) (Nat.le_refl _)).mono ?_
  rintro e w5 ⟨rfl, hb5⟩
  clear hown4
  have HX5 := Lib.hid (HX4.out.below hb5)
  have aX5 := HX5.out.1
  have bX5 := HX5.out.2.1
  have hB5 : Below w.heap.size w w5 := hB4.trans (hb5.mono hB4.size)
  have HR5 := Lib.hid (Hr.out.kept hB5)
  clear hb5 aX4 bX4
  go_wp2_with fail
  refine (toClaim k1 z1 hlen _ _ _ HR5.out (Nat.le_refl _)).mono ?_
  rintro e w6 ⟨v6, rfl, hown6, hb6⟩
  obtain ⟨vo, vc, hvf⟩ := own_len hown6
  subst hvf
  have HX6 := Lib.hid (HX5.out.below hb6)
  have aX6 := HX6.out.1
  have bX6 := HX6.out.2.1
  have hB6 : Below w.heap.size w w6 := hB5.trans (hb6.mono hB5.size)
  have HR6 := Lib.hid (Hr.out.kept hB6)
  clear hb6 aX5 bX5
  go_upto_region 7 with fail
  obtain ⟨w7, hw7, hy7, hb7, hsz7⟩ := Box.new w6 (.int .i64 k1) (.slice vo z1.length vc) TC
  have HO7 := Lib.hid (own_below hown6 hb7)
  have HY7 := Lib.hid hy7
  have aY7 := HY7.out.1
  have bY7 := HY7.out.2.1
  rw [← hw7]
  clear hown6 hy7 hw7
  have HX7 := Lib.hid (HX6.out.below hb7)
  have aX7 := HX7.out.1
  have bX7 := HX7.out.2.1
  have hB7 : Below w.heap.size w w7 := hB6.trans (hb7.mono hB6.size)
  have HR7 := Lib.hid (Hr.out.kept hB7)
  clear hb7 aX6 bX6
  go_wp2_with fail
  refine (Hp.out _ _ _ (RdMarks.of_own HO7.out Hi.out) (Nat.le_refl _)).mono ?_
  rintro e w8 ⟨rfl, hb8⟩
  have HX8 := Lib.hid (HX7.out.below hb8)
  have aX8 := HX8.out.1
  have bX8 := HX8.out.2.1
  have HY8 := Lib.hid (HY7.out.below hb8)
  have aY8 := HY8.out.1
  have bY8 := HY8.out.2.1
  have HO8 := Lib.hid (own_below HO7.out hb8)
  have hB8 : Below w.heap.size w w8 := hB7.trans (hb8.mono hB7.size)
  have HR8 := Lib.hid (Hr.out.kept hB8)
  clear hb8 aX7 bX7 aY7 bY7
  have HB8 := Lib.hid hB8
  clear hB2 hB3 hB4 hB5 hB6 hB7 hB8 HX2 HX3 HX4 HX5 HX6 HX7 HY7 HO7 HR3 HR4 HR5 HR6 HR7 Hs Hp hsz
  go_wp2_with fail
  go_region_held3 (fun w' => w'.cell? ⟨w6.heap.size, 0, none⟩ = some (.int .i64 k1) ∧ w'.cell? ⟨w6.heap.size, 1, none⟩ = some (.slice vo z1.length vc) ∧ w'.cell? ⟨w.heap.size, 0, none⟩ = some (.int .i64 k1) ∧ w'.cell? ⟨w.heap.size, 1, none⟩ = some (.slice ao z1.length cap))
    (first | (refine ⟨?_, ?_, ?_, ?_⟩ <;> first | go_keep | assumption) | assumption)
    (first
      | (go_at_call 42
         (with_reducible refine (toClaim k1 z1 hlen w8.heap.size _ _ ?_ ?_).mono ?_)
         · exact HR8.out
         · exact Nat.le_refl _
         rintro e w9 ⟨v9, rfl, hown9, hb9'⟩
         go_must (have hb9 : Below w8.heap.size w8 w9 := by first | exact hb9' | exact below_undrewS hb9' | exact below_undrewN hb9'
                  clear hb9'
                  have HX9 := Lib.hid (HX8.out.below hb9)
                  have HY9 := Lib.hid (HY8.out.below hb9)
                  have aX9 := HX9.out.1
                  have bX9 := HX9.out.2.1
                  have aY9 := HY9.out.1
                  have bY9 := HY9.out.2.1
                  have HO9 := Lib.hid (own_below HO8.out hb9)
                  have HV9 := Lib.hid hown9
                  have HB9 := Lib.hid (HB8.out.trans (hb9.mono HB8.out.size))
                  clear hb9 hown9))
      | (go_at_call 43
         (with_reducible refine (eqClaim k1 z1 w9.heap.size w9.heap.size _ _ _ ?_ ?_ ?_ ?_).mono ?_)
         · exact RdMarks.of_own HO9.out Hi.out
         · exact RdMarks.of_own HV9.out Hi.out
         · exact Nat.le_refl _
         · exact Nat.le_refl _
         rintro e w10 ⟨rfl, hb10'⟩
         go_must (have hb10 : Below w9.heap.size w9 w10 := by first | exact hb10' | exact below_undrewS hb10' | exact below_undrewN hb10'
                  clear hb10'
                  have HX10 := Lib.hid (HX9.out.below hb10)
                  have HY10 := Lib.hid (HY9.out.below hb10)
                  have aX10 := HX10.out.1
                  have bX10 := HX10.out.2.1
                  have aY10 := HY10.out.1
                  have bY10 := HY10.out.2.1
                  have HB10 := Lib.hid (HB9.out.trans (hb10.mono HB9.out.size))
                  clear hb10))
      | fail)
  go_wp2
  go_ret
  exact ⟨rfl, by first | exact HB10.out | exact below_drew1 HB10.out | exact below_drewN HB10.out _⟩

set_option maxRecDepth 100000 in
theorem lifted (os : Os) (started : os.Started) (H : Type) (enc : TypeId × Value → H) :
    ReturnsInHanded {} Try.checked os 9 .any (Rows.fnExactNeverSaidSpec.pre6 enc Try.prog Try.f9 Rows.fnExactNeverSaidRow.domain false) (Rows.fnExactNeverSaidSpec.post enc Try.prog Try.f9 false true false false) := by
  refine returnsInHanded_of_change (C := Try.checked) Try.own started (by kernel_rfl) Try.func9
    (ChangeSpec.witness6 (enc := enc) (C := Try.checked) false ⟨#[], #[.int .i64 0, .agg #[.int .i64 0, .slice none 0 0]], []⟩ 8 (by kernel_rfl) (by kernel_rfl) (by kernel_rfl) (by kernel_rfl)) ?_
  intro W base args ds gs before hval0 hW hcnd _
  have hval : ∀ (j : Nat) t v, Try.f9.params[j]? = some t → args[j]? = some v → Value.okWide Try.prog W .any base t v := hval0
  have hW' := hW
  obtain ⟨p, q, hA0, hV, rfl, hfz, hnd⟩ := hW
  have hA : DataW.TrodAll enc Try.prog W 0 (fun _ => true) true Try.f9.params.toList args.toList ds p := hA0
  rw [Try.params9] at hA hval
  obtain ⟨v0, vs0, d0, ds0, p0, q0, hargs, rfl, rfl, h0, r0⟩ := trodAll_cons hA
  obtain ⟨v1, vs1, d1, ds1, p1, q1, rfl, rfl, rfl, h1, r1⟩ := trodAll_cons r0
  obtain ⟨rfl, rfl, rfl⟩ := trodAll_nil r1
  obtain rfl : args = #[v0, v1] := by cases args; simp_all
  obtain ⟨rfl, rfl⟩ := trodVars_none hV
  obtain ⟨a0, rfl, rfl, rfl, w0⟩ := open_int Try.underlying3 (hval 0 3 v0 rfl rfl) h0
  have k1 := h1
  have lt1 : ∀ x ∈ p1, x.block < W.heap.size := by obtain ⟨m, hm⟩ := k1; exact DataW.trod_lt m _ _ _ hm
  obtain ⟨c1, a1, z1, rfl, wi1, w1⟩ := open_claim Try.underlying46 (by kernel_rfl) (by kernel_rfl) Try.underlying3 Try.underlying44 Try.underlying88 (by kernel_rfl) rfl rfl (by kernel_rfl) (by kernel_rfl) Try.underlying3 Try.underlying3 (hval 1 46 v1 rfl rfl) h1
  clear hA0 hval0
  refine (walk a0 _ _ _ W w0 wi1 w1).mono fun e W' ⟨he, bel⟩ => ?_
  subst he
  exact ⟨_, rfl, _, _, _, [], _, [], hW', trodAll_mk1 (shut_bool Try.underlying4 _), (trodAll_cons_mk (shut_int Try.underlying3 w0) (trodAll_cons_mk (Below.trod Try.laidOut (by kernel_rfl) (of_decide_eq_true (by kernel_rfl)) k1 bel lt1) trodAll_mk0)), rfl, bel.frame _, fun h => by cases h⟩

theorem closed : joinedFacts Try.pinned.checked.prog 9 Try.f9 Rows.fnExactNeverSaidSpec Rows.fnExactNeverSaidRow = true := by
  unfold joinedFacts
  exact (and_tt (and_tt (and_tt (and_tt (and_tt (and_tt (and_tt (and_tt (and_tt (and_tt (and_tt (and_tt (and_tt (and_tt (and_tt (and_tt (and_tt (and_tt (and_tt (and_tt (and_tt (and_tt (and_tt (and_tt (and_tt (and_tt (and_tt (and_tt (and_tt (and_tt (and_tt (by kernel_rfl) (by kernel_rfl)) (by kernel_rfl)) (by kernel_rfl)) (by kernel_rfl)) (by kernel_rfl)) (by kernel_rfl)) (by kernel_rfl)) (by kernel_rfl)) (by kernel_rfl)) (by kernel_rfl)) (by kernel_rfl)) (by kernel_rfl)) (by kernel_rfl)) (by kernel_rfl)) (by kernel_rfl)) (by kernel_rfl)) (by kernel_rfl)) (by kernel_rfl)) (by kernel_rfl)) (by kernel_rfl)) (by kernel_rfl)) (by kernel_rfl)) (by kernel_rfl)) (by kernel_rfl)) Try.mayEnter0) (lifted_tt Try.lifts0 rfl)) (make_tt Try.make0 rfl)) (by kernel_rfl)) (by kernel_rfl)) (by kernel_rfl)) (by kernel_rfl))
theorem over : Rows.fnExactNeverSaidRow.holds Try.pinned (OpenSpec.ofChange Rows.fnExactNeverSaidSpec) :=
  OpenClaim.holds_of_wide 9 Try.f9 rfl rfl rfl rfl rfl rfl rfl ⟨rfl, rfl, rfl, rfl, rfl⟩ rfl rfl rfl rfl rfl (by kernel_rfl) Try.func9 closed
    (of_decide_eq_true (by kernel_rfl)) (by unfold Func.isWrapper; first | (rw [if_pos (by decide +kernel)]; kernel_rfl) | (rw [if_neg (by decide +kernel)]; exact ⟨rfl, rfl⟩))
    (fun os started H enc _ => lifted os started H enc)

theorem proved : Rows.FnExactNeverSaidSaid := over
end Go.Proofs.Ytpccldbcmanhdaa.fnExactNeverSaid

namespace Go.Proofs.Ytpccldbcmanhdaa.fnExactAlwaysSaid
open Go.ChangeShapes Go.WideShapes Go.ChangeAt Go.RowKit
attribute [local irreducible] holds tabN tabV holdsV sameV followsV alwaysV matterV mirV mirOk mcells tmOf claimOk mayT mayV ctabV ctabN storyV storyOk storyN storyT ctermV ctermL denyV denyOk ccells sayV neverV alwsV nestOk nestV kindOk kindV
open Go.ChangeMaps (open_string shut_string)
set_option linter.unusedVariables false
set_option maxRecDepth 100000 in
set_option maxHeartbeats 4000000 in
theorem walk (a0 : Int) (k1 : Int) (a1 : Value) (z1 : List (Int × Int)) (w : World) (w0 : (Lit.int .i64 a0).wf = true) (wi1 : I64 k1) (w1 : RdMarks w w.heap.size a1 z1) :
    Calls Try.prog 10 #[.int .i64 a0, .agg #[.int .i64 k1, a1]] w fun e w' => e = .returned (.bool true) ∧ Below w.heap.size w w' := by
  have hr := w1
  obtain ⟨ao, cap, rfl, hl, hm, hi, hc⟩ := w1
  unfold maxLen at hm
  have hm' : (z1.length : Int) ≤ 9223372036854775807 := by omega
  have Hi := Lib.hid hi
  have Hr := Lib.hid hr
  have hs := fun (B : Nat) (v : Value) (W : World) h h2 => specAlwaysSaid a0 k1 z1 B v W h h2
  have hp := fun (B : Nat) (v : Value) (W : World) h h2 => implAlwaysSaid a0 k1 z1 B v W h h2
  generalize alwsV a0 (k1, z1) = T at *
  have Hs := Lib.hid hs
  have Hp := Lib.hid hp
  clear hs hp hr hi hc hl
  obtain ⟨w2, hw2, hx2, hb2, hsz2⟩ := Box.new w (.int .i64 k1) (.slice ao z1.length cap) 46
  have HX2 := Lib.hid hx2
  have aX2 := HX2.out.1
  have bX2 := HX2.out.2.1
  have hB2 : Below w.heap.size w w2 := hb2
  clear hx2 hb2
  by_cases hlen : z1.length ≤ 1048576
  case neg =>
    have hsz : Hid ((if z1.length ≤ 1048576 then 1048576 - (z1.length : Int) else -1) = -1) := if_neg hlen
    go_enter Try.func10, Try.ntmps10
    go_upto_region 1 with fail
    rw [← hw2]
    clear hw2
    go_wp2_with fail
    refine (szClaim k1 ao z1.length cap hm' _).mono ?_
    rintro e w3 ⟨rfl, hb3⟩
    rw [hsz.out]
    have hB3 : Below w.heap.size w w3 := hB2.trans (hb3.mono hB2.size)
    clear hb3
    go_wp2
    go_ret
    exact ⟨rfl, hB3⟩
  have hsz : Hid ((if z1.length ≤ 1048576 then 1048576 - (z1.length : Int) else -1) = 1048576 - (z1.length : Int)) := if_pos hlen
  have hlen3 : (z1.length : Int) ≤ 1048576 := by omega
  go_enter Try.func10, Try.ntmps10
  go_upto_region 1 with fail
  rw [← hw2]
  clear hw2
  go_wp2_with fail
  refine (szClaim k1 ao z1.length cap hm' _).mono ?_
  rintro e w3 ⟨rfl, hb3⟩
  rw [hsz.out]
  have HX3 := Lib.hid (HX2.out.below hb3)
  have aX3 := HX3.out.1
  have bX3 := HX3.out.2.1
  have hB3 : Below w.heap.size w w3 := hB2.trans (hb3.mono hB2.size)
  have HR3 := Lib.hid (Hr.out.kept hB3)
  clear hb3 aX2 bX2
  go_wp2_with fail
  refine (toClaim k1 z1 hlen _ _ _ HR3.out (Nat.le_refl _)).mono ?_
  rintro e w4 ⟨v4, rfl, hown4, hb4⟩
  have HX4 := Lib.hid (HX3.out.below hb4)
  have aX4 := HX4.out.1
  have bX4 := HX4.out.2.1
  have hB4 : Below w.heap.size w w4 := hB3.trans (hb4.mono hB3.size)
  have HR4 := Lib.hid (Hr.out.kept hB4)
  clear hb4 aX3 bX3
  go_wp2_with fail
  refine (Hs.out _ _ _ (RdMarks.of_own hown4 Hi.out) (Nat.le_refl _)).mono ?_
  rintro e w5 ⟨rfl, hb5⟩
  clear hown4
  have HX5 := Lib.hid (HX4.out.below hb5)
  have aX5 := HX5.out.1
  have bX5 := HX5.out.2.1
  have hB5 : Below w.heap.size w w5 := hB4.trans (hb5.mono hB4.size)
  have HR5 := Lib.hid (Hr.out.kept hB5)
  clear hb5 aX4 bX4
  go_wp2_with fail
  refine (toClaim k1 z1 hlen _ _ _ HR5.out (Nat.le_refl _)).mono ?_
  rintro e w6 ⟨v6, rfl, hown6, hb6⟩
  obtain ⟨vo, vc, hvf⟩ := own_len hown6
  subst hvf
  have HX6 := Lib.hid (HX5.out.below hb6)
  have aX6 := HX6.out.1
  have bX6 := HX6.out.2.1
  have hB6 : Below w.heap.size w w6 := hB5.trans (hb6.mono hB5.size)
  have HR6 := Lib.hid (Hr.out.kept hB6)
  clear hb6 aX5 bX5
  go_upto_region 7 with fail
  obtain ⟨w7, hw7, hy7, hb7, hsz7⟩ := Box.new w6 (.int .i64 k1) (.slice vo z1.length vc) TC
  have HO7 := Lib.hid (own_below hown6 hb7)
  have HY7 := Lib.hid hy7
  have aY7 := HY7.out.1
  have bY7 := HY7.out.2.1
  rw [← hw7]
  clear hown6 hy7 hw7
  have HX7 := Lib.hid (HX6.out.below hb7)
  have aX7 := HX7.out.1
  have bX7 := HX7.out.2.1
  have hB7 : Below w.heap.size w w7 := hB6.trans (hb7.mono hB6.size)
  have HR7 := Lib.hid (Hr.out.kept hB7)
  clear hb7 aX6 bX6
  go_wp2_with fail
  refine (Hp.out _ _ _ (RdMarks.of_own HO7.out Hi.out) (Nat.le_refl _)).mono ?_
  rintro e w8 ⟨rfl, hb8⟩
  have HX8 := Lib.hid (HX7.out.below hb8)
  have aX8 := HX8.out.1
  have bX8 := HX8.out.2.1
  have HY8 := Lib.hid (HY7.out.below hb8)
  have aY8 := HY8.out.1
  have bY8 := HY8.out.2.1
  have HO8 := Lib.hid (own_below HO7.out hb8)
  have hB8 : Below w.heap.size w w8 := hB7.trans (hb8.mono hB7.size)
  have HR8 := Lib.hid (Hr.out.kept hB8)
  clear hb8 aX7 bX7 aY7 bY7
  have HB8 := Lib.hid hB8
  clear hB2 hB3 hB4 hB5 hB6 hB7 hB8 HX2 HX3 HX4 HX5 HX6 HX7 HY7 HO7 HR3 HR4 HR5 HR6 HR7 Hs Hp hsz
  go_wp2_with fail
  go_region_held3 (fun w' => w'.cell? ⟨w6.heap.size, 0, none⟩ = some (.int .i64 k1) ∧ w'.cell? ⟨w6.heap.size, 1, none⟩ = some (.slice vo z1.length vc) ∧ w'.cell? ⟨w.heap.size, 0, none⟩ = some (.int .i64 k1) ∧ w'.cell? ⟨w.heap.size, 1, none⟩ = some (.slice ao z1.length cap))
    (first | (refine ⟨?_, ?_, ?_, ?_⟩ <;> first | go_keep | assumption) | assumption)
    (first
      | (go_at_call 42
         (with_reducible refine (toClaim k1 z1 hlen w8.heap.size _ _ ?_ ?_).mono ?_)
         · exact HR8.out
         · exact Nat.le_refl _
         rintro e w9 ⟨v9, rfl, hown9, hb9'⟩
         go_must (have hb9 : Below w8.heap.size w8 w9 := by first | exact hb9' | exact below_undrewS hb9' | exact below_undrewN hb9'
                  clear hb9'
                  have HX9 := Lib.hid (HX8.out.below hb9)
                  have HY9 := Lib.hid (HY8.out.below hb9)
                  have aX9 := HX9.out.1
                  have bX9 := HX9.out.2.1
                  have aY9 := HY9.out.1
                  have bY9 := HY9.out.2.1
                  have HO9 := Lib.hid (own_below HO8.out hb9)
                  have HV9 := Lib.hid hown9
                  have HB9 := Lib.hid (HB8.out.trans (hb9.mono HB8.out.size))
                  clear hb9 hown9))
      | (go_at_call 43
         (with_reducible refine (eqClaim k1 z1 w9.heap.size w9.heap.size _ _ _ ?_ ?_ ?_ ?_).mono ?_)
         · exact RdMarks.of_own HO9.out Hi.out
         · exact RdMarks.of_own HV9.out Hi.out
         · exact Nat.le_refl _
         · exact Nat.le_refl _
         rintro e w10 ⟨rfl, hb10'⟩
         go_must (have hb10 : Below w9.heap.size w9 w10 := by first | exact hb10' | exact below_undrewS hb10' | exact below_undrewN hb10'
                  clear hb10'
                  have HX10 := Lib.hid (HX9.out.below hb10)
                  have HY10 := Lib.hid (HY9.out.below hb10)
                  have aX10 := HX10.out.1
                  have bX10 := HX10.out.2.1
                  have aY10 := HY10.out.1
                  have bY10 := HY10.out.2.1
                  have HB10 := Lib.hid (HB9.out.trans (hb10.mono HB9.out.size))
                  clear hb10))
      | fail)
  go_wp2
  go_ret
  exact ⟨rfl, by first | exact HB10.out | exact below_drew1 HB10.out | exact below_drewN HB10.out _⟩

set_option maxRecDepth 100000 in
theorem lifted (os : Os) (started : os.Started) (H : Type) (enc : TypeId × Value → H) :
    ReturnsInHanded {} Try.checked os 10 .any (Rows.fnExactAlwaysSaidSpec.pre6 enc Try.prog Try.f10 Rows.fnExactAlwaysSaidRow.domain false) (Rows.fnExactAlwaysSaidSpec.post enc Try.prog Try.f10 false true false false) := by
  refine returnsInHanded_of_change (C := Try.checked) Try.own started (by kernel_rfl) Try.func10
    (ChangeSpec.witness6 (enc := enc) (C := Try.checked) false ⟨#[], #[.int .i64 0, .agg #[.int .i64 0, .slice none 0 0]], []⟩ 8 (by kernel_rfl) (by kernel_rfl) (by kernel_rfl) (by kernel_rfl)) ?_
  intro W base args ds gs before hval0 hW hcnd _
  have hval : ∀ (j : Nat) t v, Try.f10.params[j]? = some t → args[j]? = some v → Value.okWide Try.prog W .any base t v := hval0
  have hW' := hW
  obtain ⟨p, q, hA0, hV, rfl, hfz, hnd⟩ := hW
  have hA : DataW.TrodAll enc Try.prog W 0 (fun _ => true) true Try.f10.params.toList args.toList ds p := hA0
  rw [Try.params10] at hA hval
  obtain ⟨v0, vs0, d0, ds0, p0, q0, hargs, rfl, rfl, h0, r0⟩ := trodAll_cons hA
  obtain ⟨v1, vs1, d1, ds1, p1, q1, rfl, rfl, rfl, h1, r1⟩ := trodAll_cons r0
  obtain ⟨rfl, rfl, rfl⟩ := trodAll_nil r1
  obtain rfl : args = #[v0, v1] := by cases args; simp_all
  obtain ⟨rfl, rfl⟩ := trodVars_none hV
  obtain ⟨a0, rfl, rfl, rfl, w0⟩ := open_int Try.underlying3 (hval 0 3 v0 rfl rfl) h0
  have k1 := h1
  have lt1 : ∀ x ∈ p1, x.block < W.heap.size := by obtain ⟨m, hm⟩ := k1; exact DataW.trod_lt m _ _ _ hm
  obtain ⟨c1, a1, z1, rfl, wi1, w1⟩ := open_claim Try.underlying46 (by kernel_rfl) (by kernel_rfl) Try.underlying3 Try.underlying44 Try.underlying88 (by kernel_rfl) rfl rfl (by kernel_rfl) (by kernel_rfl) Try.underlying3 Try.underlying3 (hval 1 46 v1 rfl rfl) h1
  clear hA0 hval0
  refine (walk a0 _ _ _ W w0 wi1 w1).mono fun e W' ⟨he, bel⟩ => ?_
  subst he
  exact ⟨_, rfl, _, _, _, [], _, [], hW', trodAll_mk1 (shut_bool Try.underlying4 _), (trodAll_cons_mk (shut_int Try.underlying3 w0) (trodAll_cons_mk (Below.trod Try.laidOut (by kernel_rfl) (of_decide_eq_true (by kernel_rfl)) k1 bel lt1) trodAll_mk0)), rfl, bel.frame _, fun h => by cases h⟩

theorem closed : joinedFacts Try.pinned.checked.prog 10 Try.f10 Rows.fnExactAlwaysSaidSpec Rows.fnExactAlwaysSaidRow = true := by
  unfold joinedFacts
  exact (and_tt (and_tt (and_tt (and_tt (and_tt (and_tt (and_tt (and_tt (and_tt (and_tt (and_tt (and_tt (and_tt (and_tt (and_tt (and_tt (and_tt (and_tt (and_tt (and_tt (and_tt (and_tt (and_tt (and_tt (and_tt (and_tt (and_tt (and_tt (and_tt (and_tt (and_tt (by kernel_rfl) (by kernel_rfl)) (by kernel_rfl)) (by kernel_rfl)) (by kernel_rfl)) (by kernel_rfl)) (by kernel_rfl)) (by kernel_rfl)) (by kernel_rfl)) (by kernel_rfl)) (by kernel_rfl)) (by kernel_rfl)) (by kernel_rfl)) (by kernel_rfl)) (by kernel_rfl)) (by kernel_rfl)) (by kernel_rfl)) (by kernel_rfl)) (by kernel_rfl)) (by kernel_rfl)) (by kernel_rfl)) (by kernel_rfl)) (by kernel_rfl)) (by kernel_rfl)) (by kernel_rfl)) Try.mayEnter0) (lifted_tt Try.lifts0 rfl)) (make_tt Try.make0 rfl)) (by kernel_rfl)) (by kernel_rfl)) (by kernel_rfl)) (by kernel_rfl))
theorem over : Rows.fnExactAlwaysSaidRow.holds Try.pinned (OpenSpec.ofChange Rows.fnExactAlwaysSaidSpec) :=
  OpenClaim.holds_of_wide 10 Try.f10 rfl rfl rfl rfl rfl rfl rfl ⟨rfl, rfl, rfl, rfl, rfl⟩ rfl rfl rfl rfl rfl (by kernel_rfl) Try.func10 closed
    (of_decide_eq_true (by kernel_rfl)) (by unfold Func.isWrapper; first | (rw [if_pos (by decide +kernel)]; kernel_rfl) | (rw [if_neg (by decide +kernel)]; exact ⟨rfl, rfl⟩))
    (fun os started H enc _ => lifted os started H enc)

theorem proved : Rows.FnExactAlwaysSaidSaid := over
end Go.Proofs.Ytpccldbcmanhdaa.fnExactAlwaysSaid

