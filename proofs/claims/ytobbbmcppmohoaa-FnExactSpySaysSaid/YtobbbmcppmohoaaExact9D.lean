/- Exact law of stage 9: whether a claim may be made by kinds. No condition. -/
import Derived.Test.YtobbbmcppmohoaaSpyI
import Derived.Test.YtobbbmcppmohoaaHelpers
import Derived.Test.YtobbbmcppmohoaaClaimE
import Derived.Test.YtobbbmcppmohoaaFrameC
import Derived.Deep.RegionHeld3
import Derived.Deep.Cut
namespace Go.Proofs.Ytobbbmcppmohoaa.fnExactSpySays
open Go.ChangeShapes Go.WideShapes Go.ChangeAt Go.RowKit
attribute [local irreducible] holds tabN tabV holdsV sameV followsV alwaysV matterV claimOk mayT mayV ctabV ctabN storyV storyOk storyN storyT ctermV ctermL saysT saysV spyT spyV kindsOk kwN kwV tabF kRow spiesN fewF rowsF fewV rowsV mcells tmOf ccells
open Go.ChangeMaps (open_string shut_string)
set_option linter.unusedVariables false
set_option maxRecDepth 100000 in
set_option maxHeartbeats 4000000 in
theorem walk (a0 : Value) (z0 : List Int) (k1 : Int) (a1 : Value) (z1 : List (Int × Int)) (w : World) (w0 : RdInts w w.heap.size a0 z0) (wi1 : I64 k1) (w1 : RdMarks w w.heap.size a1 z1) :
    Calls Try.prog 12 #[a0, .agg #[.int .i64 k1, a1]] w fun e w' => e = .returned (.bool true) ∧ Below w.heap.size w w' := by
  have hr := w1
  have hz := w0
  obtain ⟨ao, cap, rfl, hl, hm, hi, hc⟩ := w1
  obtain ⟨zo, zc, rfl, hzl, hzm, hzc⟩ := w0
  unfold maxLen at hm hzm
  have hm' : (z1.length : Int) ≤ 9223372036854775807 := by omega
  have Hi := Lib.hid hi
  have Hr := Lib.hid hr
  have Hz := Lib.hid hz
  have hs := fun (B : Nat) (a v : Value) (W : World) h h1 h2 => specSpySays z0 k1 z1 B a v W h h1 h2
  have hp := fun (B : Nat) (a v : Value) (W : World) h h1 h2 => implSpySays z0 k1 z1 B a v W h h1 h2
  generalize saysV z0 (k1, z1) = T at *
  have Hs := Lib.hid hs
  have Hp := Lib.hid hp
  clear hs hp hr hi hc hl hz hzc hzl
  obtain ⟨w2, hw2, hx2, hb2, hsz2⟩ := Box.new w (.int .i64 k1) (.slice ao z1.length cap) 58
  have HX2 := Lib.hid hx2
  have aX2 := HX2.out.1
  have bX2 := HX2.out.2.1
  have HB2 : Hid (Below w.heap.size w w2) := hb2
  clear hx2 hb2
  by_cases hzn : 1048576 < z0.length
  · have hzn' : (1048576 : Int) < (z0.length : Int) := by omega
    clear hzn
    go_enter Try.func12, Try.ntmps12
    go_upto_region 1 with fail
    rw [← hw2]
    clear hw2
    go_wp2
    go_ret
    exact ⟨rfl, HB2.out⟩
  have hzn' : (z0.length : Int) ≤ 1048576 := by omega
  have hlen2 : z0.length ≤ 17592186044416 := by omega
  clear hzn
  by_cases hlen : z1.length ≤ 1048576
  case neg =>
    have hsz : Hid ((if z1.length ≤ 1048576 then 1048576 - (z1.length : Int) else -1) = -1) := if_neg hlen
    go_enter Try.func12, Try.ntmps12
    go_upto_region 1 with fail
    rw [← hw2]
    clear hw2
    go_wp2_with fail
    refine (szClaim k1 ao z1.length cap hm' _).mono ?_
    rintro e w3 ⟨rfl, hb3⟩
    rw [hsz.out]
    have HB3 := Lib.hid (HB2.out.trans (hb3.mono HB2.out.size))
    clear hb3
    go_wp2
    go_ret
    exact ⟨rfl, HB3.out⟩
  have hsz : Hid ((if z1.length ≤ 1048576 then 1048576 - (z1.length : Int) else -1) = 1048576 - (z1.length : Int)) := if_pos hlen
  have hlen3 : (z1.length : Int) ≤ 1048576 := by omega
  go_enter Try.func12, Try.ntmps12
  go_upto_region 1 with fail
  rw [← hw2]
  clear hw2
  go_wp2_with fail
  refine (szClaim k1 ao z1.length cap hm' _).mono ?_
  rintro e w3 ⟨rfl, hb3⟩
  rw [hsz.out]
  have HX3 := Lib.hid (HX2.out.below hb3)
  have aX3 := HX3.out.1
  have bX3 := HX3.out.2.1
  have HB3 := Lib.hid (HB2.out.trans (hb3.mono HB2.out.size))
  have HR3 := Lib.hid (Hr.out.kept HB3.out)
  have HK3 := Lib.hid (Hz.out.below (below_block HB3.out (Nat.le_refl _)))
  clear hb3 aX2 bX2
  have HC3 := Lib.hid (Below.refl w3.heap.size w3)
  have Hb3s := Lib.hid HB3.out.size
  go_upto_region 7 with fail
  go_cut [6] from 10 (fun v wr => v = .bool T ∧ Below w3.heap.size w3 wr)
  case first =>
    go_region_held3 (fun w' => w'.cell? ⟨w.heap.size, 0, none⟩ = some (.int .i64 k1) ∧ w'.cell? ⟨w.heap.size, 1, none⟩ = some (.slice ao z1.length cap))
      (first | (refine ⟨?_, ?_⟩ <;> first | go_keep | assumption) | assumption)
      (first
        | (go_at_call 46
           (with_reducible refine (toIntS z0 hlen2 w.heap.size _ _ ?_ ?_).mono ?_)
           · exact HK3.out
           · exact Hb3s.out
           rintro e w4 ⟨vA, rfl, hA, hb4'⟩
           go_must (have hb4 : Below w3.heap.size w3 w4 := by first | exact hb4' | exact below_undrewS hb4' | exact below_undrewN hb4'
                    clear hb4'
                    have HX4 := Lib.hid (HX3.out.below hb4)
                    have aX4 := HX4.out.1
                    have bX4 := HX4.out.2.1
                    have HC4 := Lib.hid (HC3.out.trans (hb4.mono HC3.out.size))
                    have HR4 := Lib.hid (HR3.out.kept hb4)
                    have HA4 := Lib.hid (show w4.ownsRow w3.heap.size 3 1 vA z0.length (ints z0) from hA)
                    clear hA
                    clear hb4))
        | (go_at_call 49
           (with_reducible refine (toClaim k1 z1 hlen w4.heap.size _ _ ?_ ?_).mono ?_)
           · exact HR4.out
           · exact Nat.le_refl _
           rintro e w5 ⟨v5, rfl, hown5, hb5'⟩
           go_must (have hb5 : Below w4.heap.size w4 w5 := by first | exact hb5' | exact below_undrewS hb5' | exact below_undrewN hb5'
                    clear hb5'
                    have HX5 := Lib.hid (HX4.out.below hb5)
                    have aX5 := HX5.out.1
                    have bX5 := HX5.out.2.1
                    have HA5 := Lib.hid (own_below HA4.out hb5)
                    have HC5 := Lib.hid (HC4.out.trans (hb5.mono HC4.out.size))
                    have HR5 := Lib.hid (HR4.out.kept hb5)
                    have HV5 := Lib.hid (show w5.ownsRow w4.heap.size TM 2 v5 z1.length (mcells z1) from hown5)
                    clear hown5
                    clear hb5))
        | (go_at_call 27
           (with_reducible refine (Hs.out w5.heap.size _ _ _ ?_ ?_ ?_).mono ?_)
           · exact RdInts.of_own HA5.out
           · exact RdMarks.of_own HV5.out Hi.out
           · exact Nat.le_refl _
           rintro e w6 ⟨rfl, hb6'⟩
           go_must (have hb6 : Below w5.heap.size w5 w6 := by first | exact hb6' | exact below_undrewS hb6' | exact below_undrewN hb6'
                    clear hb6'
                    have HX6 := Lib.hid (HX5.out.below hb6)
                    have aX6 := HX6.out.1
                    have bX6 := HX6.out.2.1
                    have HC6 := Lib.hid (HC5.out.trans (hb6.mono HC5.out.size))
                    have HR6 := Lib.hid (HR5.out.kept hb6)
                    clear hb6))
        | fail)
    all_goals
      go_wp2
      go_meet
      case rel => exact ⟨rfl, by first | exact HC6.out | exact below_drew1 HC6.out | exact below_drewN HC6.out _⟩
  case rest =>
  rename World => w4
  obtain ⟨rfl, hb4⟩ := hcut
  have HX4 := Lib.hid (HX3.out.below hb4)
  have aX4 := HX4.out.1
  have bX4 := HX4.out.2.1
  have HB4 := Lib.hid (HB3.out.trans (hb4.mono HB3.out.size))
  have HR4 := Lib.hid (Hr.out.kept HB4.out)
  have HK4 := Lib.hid (Hz.out.below (below_block HB4.out (Nat.le_refl _)))
  clear hb4 aX3 bX3
  go_wp2_with fail
  refine (toIntS z0 hlen2 _ _ _ HK4.out HB4.out.size).mono ?_
  rintro e w5 ⟨vA, rfl, hA, hb5⟩
  have HA5 := Lib.hid hA
  clear hA
  have HX5 := Lib.hid (HX4.out.below hb5)
  have aX5 := HX5.out.1
  have bX5 := HX5.out.2.1
  have HB5 := Lib.hid (HB4.out.trans (hb5.mono HB4.out.size))
  have HR5 := Lib.hid (Hr.out.kept HB5.out)
  have HK5 := Lib.hid (Hz.out.below (below_block HB5.out (Nat.le_refl _)))
  clear hb5 aX4 bX4
  go_wp2_with fail
  refine (toClaim k1 z1 hlen _ _ _ HR5.out (Nat.le_refl _)).mono ?_
  rintro e w8 ⟨v8, rfl, hown8, hb8⟩
  obtain ⟨vo, vc, hvf⟩ := own_len hown8
  subst hvf
  have HX8 := Lib.hid (HX5.out.below hb8)
  have aX8 := HX8.out.1
  have bX8 := HX8.out.2.1
  have HA8 := Lib.hid (own_below HA5.out hb8)
  have HB8 := Lib.hid (HB5.out.trans (hb8.mono HB5.out.size))
  have HR8 := Lib.hid (Hr.out.kept HB8.out)
  have HK8 := Lib.hid (Hz.out.below (below_block HB8.out (Nat.le_refl _)))
  clear hb8 aX5 bX5
  go_upto_region 10 with fail
  obtain ⟨w9, hw9, hy9, hb9, hsz9⟩ := Box.new w8 (.int .i64 k1) (.slice vo z1.length vc) TC
  have HO9 := Lib.hid (own_below hown8 hb9)
  have HY9 := Lib.hid hy9
  have aY9 := HY9.out.1
  have bY9 := HY9.out.2.1
  rw [← hw9]
  clear hown8 hy9 hw9
  have HX9 := Lib.hid (HX8.out.below hb9)
  have aX9 := HX9.out.1
  have bX9 := HX9.out.2.1
  have HA9 := Lib.hid (own_below HA8.out hb9)
  have HB9 := Lib.hid (HB8.out.trans (hb9.mono HB8.out.size))
  have HR9 := Lib.hid (Hr.out.kept HB9.out)
  have HK9 := Lib.hid (Hz.out.below (below_block HB9.out (Nat.le_refl _)))
  clear hb9 aX8 bX8
  go_wp2_with fail
  refine (Hp.out w9.heap.size _ _ _ (RdInts.of_own HA9.out) (RdMarks.of_own HO9.out Hi.out) (Nat.le_refl _)).mono ?_
  rintro e w10 ⟨rfl, hb10⟩
  have HX10 := Lib.hid (HX9.out.below hb10)
  have aX10 := HX10.out.1
  have bX10 := HX10.out.2.1
  have HY10 := Lib.hid (HY9.out.below hb10)
  have aY10 := HY10.out.1
  have bY10 := HY10.out.2.1
  have HA10 := Lib.hid (own_below HA9.out hb10)
  have HO10 := Lib.hid (own_below HO9.out hb10)
  have HB10 := Lib.hid (HB9.out.trans (hb10.mono HB9.out.size))
  have HR10 := Lib.hid (Hr.out.kept HB10.out)
  have HK10 := Lib.hid (Hz.out.below (below_block HB10.out (Nat.le_refl _)))
  clear hb10 aX9 bX9 aY9 bY9
  go_wp2_with fail
  refine (toIntS z0 hlen2 _ _ _ HK10.out HB10.out.size).mono ?_
  rintro e w11 ⟨vB, rfl, hB, hb11⟩
  have HZ11 := Lib.hid hB
  clear hB
  have HX11 := Lib.hid (HX10.out.below hb11)
  have aX11 := HX11.out.1
  have bX11 := HX11.out.2.1
  have HY11 := Lib.hid (HY10.out.below hb11)
  have aY11 := HY11.out.1
  have bY11 := HY11.out.2.1
  have HA11 := Lib.hid (own_below HA10.out hb11)
  have HO11 := Lib.hid (own_below HO10.out hb11)
  have HB11 := Lib.hid (HB10.out.trans (hb11.mono HB10.out.size))
  have HR11 := Lib.hid (Hr.out.kept HB11.out)
  have HK11 := Lib.hid (Hz.out.below (below_block HB11.out (Nat.le_refl _)))
  clear hb11 aX10 bX10 aY10 bY10
  go_wp2_with fail
  refine (eqIntS z0 z0 _ _ _ _ _ (RdInts.of_own HA11.out) (RdInts.of_own HZ11.out)).mono ?_
  rintro e w12 ⟨rfl, n12, hw12⟩
  rw [show decide (z0 = z0) = true from by simp]
  have hb12 : Below w11.heap.size w11 w12 := by rw [← hw12]; exact below_drewN (Below.refl _ _) _
  clear hw12
  have HX12 := Lib.hid (HX11.out.below hb12)
  have aX12 := HX12.out.1
  have bX12 := HX12.out.2.1
  have HY12 := Lib.hid (HY11.out.below hb12)
  have aY12 := HY12.out.1
  have bY12 := HY12.out.2.1
  have HO12 := Lib.hid (own_below HO11.out hb12)
  have HB12 := Lib.hid (HB11.out.trans (hb12.mono HB11.out.size))
  have HR12 := Lib.hid (Hr.out.kept HB12.out)
  have HK12 := Lib.hid (Hz.out.below (below_block HB12.out (Nat.le_refl _)))
  clear hb12 aX11 bX11 aY11 bY11
  have HC12 := Lib.hid (Below.refl w12.heap.size w12)
  go_upto_region 15 with fail
  go_region_held3 (fun w' => w'.cell? ⟨w8.heap.size, 0, none⟩ = some (.int .i64 k1) ∧ w'.cell? ⟨w8.heap.size, 1, none⟩ = some (.slice vo z1.length vc) ∧ w'.cell? ⟨w.heap.size, 0, none⟩ = some (.int .i64 k1) ∧ w'.cell? ⟨w.heap.size, 1, none⟩ = some (.slice ao z1.length cap))
    (first | (refine ⟨?_, ?_, ?_, ?_⟩ <;> first | go_keep | assumption) | assumption)
    (first
      | (go_at_call 49
         (with_reducible refine (toClaim k1 z1 hlen w12.heap.size _ _ ?_ ?_).mono ?_)
         · exact HR12.out
         · exact Nat.le_refl _
         rintro e w13 ⟨v13, rfl, hown13, hb13'⟩
         go_must (have hb13 : Below w12.heap.size w12 w13 := by first | exact hb13' | exact below_undrewS hb13' | exact below_undrewN hb13'
                  clear hb13'
                  have HX13 := Lib.hid (HX12.out.below hb13)
                  have aX13 := HX13.out.1
                  have bX13 := HX13.out.2.1
                  have HY13 := Lib.hid (HY12.out.below hb13)
                  have aY13 := HY13.out.1
                  have bY13 := HY13.out.2.1
                  have HO13 := Lib.hid (own_below HO12.out hb13)
                  have HC13 := Lib.hid (HC12.out.trans (hb13.mono HC12.out.size))
                  have HR13 := Lib.hid (HR12.out.kept hb13)
                  have HV13 := Lib.hid (show w13.ownsRow w12.heap.size TM 2 v13 z1.length (mcells z1) from hown13)
                  clear hown13
                  clear hb13))
      | (go_at_call 50
         (with_reducible refine (eqClaim k1 z1 w13.heap.size w13.heap.size _ _ _ ?_ ?_ ?_ ?_).mono ?_)
         · exact RdMarks.of_own HO13.out Hi.out
         · exact RdMarks.of_own HV13.out Hi.out
         · exact Nat.le_refl _
         · exact Nat.le_refl _
         rintro e w14 ⟨rfl, hb14'⟩
         go_must (have hb14 : Below w13.heap.size w13 w14 := by first | exact hb14' | exact below_undrewS hb14' | exact below_undrewN hb14'
                  clear hb14'
                  have HX14 := Lib.hid (HX13.out.below hb14)
                  have aX14 := HX14.out.1
                  have bX14 := HX14.out.2.1
                  have HY14 := Lib.hid (HY13.out.below hb14)
                  have aY14 := HY14.out.1
                  have bY14 := HY14.out.2.1
                  have HC14 := Lib.hid (HC13.out.trans (hb14.mono HC13.out.size))
                  have HR14 := Lib.hid (HR13.out.kept hb14)
                  clear hb14))
      | fail)
  go_wp2
  go_ret
  exact ⟨rfl, HB12.out.trans ((by first | exact HC14.out | exact below_drew1 HC14.out | exact below_drewN HC14.out _ : Below w12.heap.size w12 _).mono HB12.out.size)⟩

set_option maxRecDepth 100000 in
theorem lifted (os : Os) (started : os.Started) (H : Type) (enc : TypeId × Value → H) :
    ReturnsInHanded {} Try.checked os 12 .any (Rows.fnExactSpySaysSpec.pre6 enc Try.prog Try.f12 Rows.fnExactSpySaysRow.domain false) (Rows.fnExactSpySaysSpec.post enc Try.prog Try.f12 false true false false) := by
  refine returnsInHanded_of_change (C := Try.checked) Try.own started (by kernel_rfl) Try.func12
    (ChangeSpec.witness6 (enc := enc) (C := Try.checked) false ⟨#[], #[.slice none 0 0, .agg #[.int .i64 0, .slice none 0 0]], []⟩ 8 (by kernel_rfl) (by kernel_rfl) (by kernel_rfl) (by kernel_rfl)) ?_
  intro W base args ds gs before hval0 hW hcnd _
  have hval : ∀ (j : Nat) t v, Try.f12.params[j]? = some t → args[j]? = some v → Value.okWide Try.prog W .any base t v := hval0
  have hW' := hW
  obtain ⟨p, q, hA0, hV, rfl, hfz, hnd⟩ := hW
  have hA : DataW.TrodAll enc Try.prog W 0 (fun _ => true) true Try.f12.params.toList args.toList ds p := hA0
  rw [Try.params12] at hA hval
  obtain ⟨v0, vs0, d0, ds0, p0, q0, hargs, rfl, rfl, h0, r0⟩ := trodAll_cons hA
  obtain ⟨v1, vs1, d1, ds1, p1, q1, rfl, rfl, rfl, h1, r1⟩ := trodAll_cons r0
  obtain ⟨rfl, rfl, rfl⟩ := trodAll_nil r1
  obtain rfl : args = #[v0, v1] := by cases args; simp_all
  obtain ⟨rfl, rfl⟩ := trodVars_none hV
  obtain ⟨a0, len0, cap0, rfl⟩ := okWide_slice Try.underlying23 (hval 0 23 v0 rfl rfl)
  have k0 := h0
  have lt0 : ∀ x ∈ p0, x.block < W.heap.size := by obtain ⟨m, hm⟩ := k0; exact DataW.trod_lt m _ _ _ hm
  obtain ⟨z0, w0⟩ : ∃ zs, IsRow .i64 W a0 len0 cap0 zs := by
    obtain ⟨fuel, hf⟩ := h0
    rcases open_ints Try.underlying23 Try.underlying3 (by kernel_rfl) hf with ⟨hcs, _⟩ | ⟨x, l, c, zs, hcs, _, hl, hm, hz, _, hcell, hwz⟩
    · simp [Value.cells] at hcs
      obtain ⟨rfl, rfl, rfl⟩ := hcs
      exact ⟨[], .inl ⟨rfl, rfl, rfl, rfl⟩⟩
    · simp [Value.cells] at hcs
      obtain ⟨rfl, rfl, rfl⟩ := hcs
      exact ⟨zs, .inr ⟨_, rfl, hl, hm, by simpa using hz, hcell, hwz⟩⟩
  have k1 := h1
  have lt1 : ∀ x ∈ p1, x.block < W.heap.size := by obtain ⟨m, hm⟩ := k1; exact DataW.trod_lt m _ _ _ hm
  obtain ⟨c1, a1, z1, rfl, wi1, w1⟩ := open_claim Try.underlying58 (by kernel_rfl) (by kernel_rfl) Try.underlying3 Try.underlying56 Try.underlying106 (by kernel_rfl) rfl rfl (by kernel_rfl) (by kernel_rfl) Try.underlying3 Try.underlying3 (hval 1 58 v1 rfl rfl) h1
  clear hA0 hval0
  refine (walk _ _ _ _ _ W (RdInts.of_row w0) wi1 w1).mono fun e W' ⟨he, bel⟩ => ?_
  subst he
  exact ⟨_, rfl, _, _, _, [], _, [], hW', trodAll_mk1 (shut_bool Try.underlying4 _), (trodAll_cons_mk (Below.trod Try.laidOut (by kernel_rfl) (of_decide_eq_true (by kernel_rfl)) k0 bel lt0) (trodAll_cons_mk (Below.trod Try.laidOut (by kernel_rfl) (of_decide_eq_true (by kernel_rfl)) k1 bel lt1) trodAll_mk0)), rfl, bel.frame _, fun h => by cases h⟩

theorem closed : joinedFacts Try.pinned.checked.prog 12 Try.f12 Rows.fnExactSpySaysSpec Rows.fnExactSpySaysRow = true := by
  unfold joinedFacts
  exact (and_tt (and_tt (and_tt (and_tt (and_tt (and_tt (and_tt (and_tt (and_tt (and_tt (and_tt (and_tt (and_tt (and_tt (and_tt (and_tt (and_tt (and_tt (and_tt (and_tt (and_tt (and_tt (and_tt (and_tt (and_tt (and_tt (and_tt (and_tt (and_tt (and_tt (and_tt (by kernel_rfl) (by kernel_rfl)) (by kernel_rfl)) (by kernel_rfl)) (by kernel_rfl)) (by kernel_rfl)) (by kernel_rfl)) (by kernel_rfl)) (by kernel_rfl)) (by kernel_rfl)) (by kernel_rfl)) (by kernel_rfl)) (by kernel_rfl)) (by kernel_rfl)) (by kernel_rfl)) (by kernel_rfl)) (by kernel_rfl)) (by kernel_rfl)) (by kernel_rfl)) (by kernel_rfl)) (by kernel_rfl)) (by kernel_rfl)) (by kernel_rfl)) (by kernel_rfl)) (by kernel_rfl)) Try.mayEnter0) (lifted_tt Try.lifts0 rfl)) (make_tt Try.make0 rfl)) (by kernel_rfl)) (by kernel_rfl)) (by kernel_rfl)) (by kernel_rfl))
theorem over : Rows.fnExactSpySaysRow.holds Try.pinned (OpenSpec.ofChange Rows.fnExactSpySaysSpec) :=
  OpenClaim.holds_of_wide 12 Try.f12 rfl rfl rfl rfl rfl rfl rfl ⟨rfl, rfl, rfl, rfl, rfl⟩ rfl rfl rfl rfl rfl (by kernel_rfl) Try.func12 closed
    (of_decide_eq_true (by kernel_rfl)) (by unfold Func.isWrapper; first | (rw [if_pos (by decide +kernel)]; kernel_rfl) | (rw [if_neg (by decide +kernel)]; exact ⟨rfl, rfl⟩))
    (fun os started H enc _ => lifted os started H enc)

theorem proved : Rows.FnExactSpySaysSaid := over
end Go.Proofs.Ytobbbmcppmohoaa.fnExactSpySays

