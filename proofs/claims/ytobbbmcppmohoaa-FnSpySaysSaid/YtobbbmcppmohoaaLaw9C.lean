/- A law of stage 9: spies say each claim, and deny it. It answers true, whatever the code. No condition. -/
import Derived.Test.YtobbbmcppmohoaaDrawKi
import Derived.Test.YtobbbmcppmohoaaSpyI
import Derived.Test.YtobbbmcppmohoaaSpyN
import Derived.Test.YtobbbmcppmohoaaClaimI
import Derived.Test.YtobbbmcppmohoaaLawsA
import Derived.Deep.RegionHeld3
import Derived.Deep.Cut
import Derived.Test.YtobbbmcppmohoaaClaimD
namespace Go.Proofs.Ytobbbmcppmohoaa
open Go.RowKit Go.Joins
theorem deny_I649 (p k : Int) (ms : List (Int × Int)) (hi : I64s ms) : I64s (denyV p (k, ms)).2 := by
  unfold denyV
  split
  · exact I64s_append hi (I64s_one (I64_small (by omega) (by omega)) (I64_small (by omega) (by omega)))
  · intro m hm; simp at hm
end Go.Proofs.Ytobbbmcppmohoaa
namespace Go.Proofs.Ytobbbmcppmohoaa.fnSpySays
open Go.ChangeShapes Go.WideShapes Go.ChangeAt Go.RowKit Go.Joins
attribute [local irreducible] holds tabN tabV holdsV sameV followsV alwaysV matterV mirV mirOk mcells tmOf claimOk mayT mayV ctabV ctabN storyV storyOk storyN storyT ctermV ctermL denyV denyOk ccells clashV onlyOk onlyN knownF knownL knownK cntK swl saysT saysV spyT spyV kindsOk kwN kwV tabF kRow spiesN fewF rowsF fewV rowsV needB needF needL leastR leastV woL
open Go.ChangeMaps (open_string shut_string)
set_option linter.unusedVariables false
set_option maxRecDepth 100000 in
set_option maxHeartbeats 16000000 in
theorem walk (a0 : Value) (n0 : Nat) (w : World) (w0 : RdBytes w w.heap.size a0 n0) :
    Calls Try.prog 5 #[a0] w fun e w' => e = .returned (.bool true) ∧ Below w.heap.size w w' := by
  have hr := w0
  by_cases hbig : n0 ≤ 1048576
  case neg =>
    obtain ⟨ao, cap, rfl, hl, hm, hc⟩ := w0
    have hbig' := code_big hbig
    unfold maxLen at hm
    clear hc hr hbig
    go_enter Try.func5, Try.ntmps5
    go_wp2
    go_ret
    exact ⟨rfl, Below.refl _ _⟩
  have hbig' : (n0 : Int) ≤ 1048576 := by omega
  clear hbig
  obtain ⟨ao, cap, rfl, hl, hm, hc⟩ := w0
  have Hr := Lib.hid hr
  clear hc hr hl hm
  go_enter Try.func5, Try.ntmps5
  go_wp2_with fail
  refine (drawSpySays _ _ _ Hr.out).mono ?_
  rintro e w1 ⟨gz, cz, zs, k, g, cp, ms, rfl, hownz, hz9, hks, hown, hi, hn, hk1, hk4, hB1⟩
  have HZ1 := Lib.hid hownz
  have Hi := Lib.hid hi
  have hcl1 := own_cap HZ1.out
  unfold maxLen at hcl1
  go_upto_region 4 with fail
  obtain ⟨w2, hw2, hx2, hb2, hsz2⟩ := Box.new w1 (.int .i64 k) (.slice (some ⟨g, 0, none⟩) ms.length cp) TC
  have HO2 := Lib.hid (own_below hown hb2)
  have HZ2 := Lib.hid (own_below HZ1.out hb2)
  have hB2 : Below w.heap.size w w2 := hB1.trans (hb2.mono hB1.size)
  have HX2 := Lib.hid hx2
  have aX2 := HX2.out.1
  have bX2 := HX2.out.2.1
  rw [← hw2]
  clear hw2 hown hi hb2 hx2 hB1 hownz
  have him := fun B a u W h h1 h2 => implSpySays zs k ms B a u W h h1 h2
  have hsp := fun B a u W h h1 h2 => specSpySays zs k ms B a u W h h1 h2
  have hko := fun B v W h => specKindsOk zs B v W h
  have hco := fun B u W h h2 => specClaimOk (zs.length : Int) k ms B u W h h2
  cases hk : kindsOk zs with
  | false =>
    rw [saysV_no hk] at him hsp
    rw [hk] at hko
    have Him := Lib.hid him
    have Hsp := Lib.hid hsp
    have Hko := Lib.hid hko
    clear him hsp hko hco hk
    go_wp2_with fail
    refine (Him.out _ _ _ _ (RdInts.of_own HZ2.out) (RdMarks.of_own HO2.out Hi.out) (Nat.le_refl _)).mono ?_
    rintro e w3 ⟨rfl, hb3⟩
    have HX3 := Lib.hid (HX2.out.below hb3)
    have aX3 := HX3.out.1
    have bX3 := HX3.out.2.1
    have HO3 := Lib.hid (own_below HO2.out hb3)
    have HZ3 := Lib.hid (own_below HZ2.out hb3)
    have hB3 : Below w.heap.size w w3 := hB2.trans (hb3.mono hB2.size)
    clear hb3 aX2 bX2
    go_wp2_with fail
    refine (Hsp.out _ _ _ _ (RdInts.of_own HZ3.out) (RdMarks.of_own HO3.out Hi.out) (Nat.le_refl _)).mono ?_
    rintro e w4 ⟨rfl, hb4⟩
    have HX4 := Lib.hid (HX3.out.below hb4)
    have aX4 := HX4.out.1
    have bX4 := HX4.out.2.1
    have HO4 := Lib.hid (own_below HO3.out hb4)
    have HZ4 := Lib.hid (own_below HZ3.out hb4)
    have hB4 : Below w.heap.size w w4 := hB3.trans (hb4.mono hB3.size)
    clear hb4 aX3 bX3
    go_wp2_with fail
    refine (Hko.out _ _ _ (RdInts.of_own HZ4.out)).mono ?_
    rintro e w' ⟨rfl, rfl⟩
    go_wp2_with fail
    refine (alive _).mono ?_
    rintro e w' ⟨rfl, rfl⟩
    go_wp2
    go_ret
    exact ⟨rfl, hB4⟩
  | true =>
  rw [hk] at hko
  have Hko := Lib.hid hko
  cases hc : claimOk (zs.length : Int) (k, ms) with
  | false =>
    rw [saysV_no2 hc] at him hsp
    rw [hc] at hco
    have Him := Lib.hid him
    have Hsp := Lib.hid hsp
    have Hco := Lib.hid hco
    clear him hsp hko hco hk hc
    go_wp2_with fail
    refine (Him.out _ _ _ _ (RdInts.of_own HZ2.out) (RdMarks.of_own HO2.out Hi.out) (Nat.le_refl _)).mono ?_
    rintro e w3 ⟨rfl, hb3⟩
    have HX3 := Lib.hid (HX2.out.below hb3)
    have aX3 := HX3.out.1
    have bX3 := HX3.out.2.1
    have HO3 := Lib.hid (own_below HO2.out hb3)
    have HZ3 := Lib.hid (own_below HZ2.out hb3)
    have hB3 : Below w.heap.size w w3 := hB2.trans (hb3.mono hB2.size)
    clear hb3 aX2 bX2
    go_wp2_with fail
    refine (Hsp.out _ _ _ _ (RdInts.of_own HZ3.out) (RdMarks.of_own HO3.out Hi.out) (Nat.le_refl _)).mono ?_
    rintro e w4 ⟨rfl, hb4⟩
    have HX4 := Lib.hid (HX3.out.below hb4)
    have aX4 := HX4.out.1
    have bX4 := HX4.out.2.1
    have HO4 := Lib.hid (own_below HO3.out hb4)
    have HZ4 := Lib.hid (own_below HZ3.out hb4)
    have hB4 : Below w.heap.size w w4 := hB3.trans (hb4.mono hB3.size)
    clear hb4 aX3 bX3
    go_wp2_with fail
    refine (Hko.out _ _ _ (RdInts.of_own HZ4.out)).mono ?_
    rintro e w' ⟨rfl, rfl⟩
    go_wp2_with fail
    refine (Hco.out _ _ _ (RdMarks.of_own HO4.out Hi.out) (Nat.le_refl _)).mono ?_
    rintro e w5 ⟨rfl, hb5⟩
    have HX5 := Lib.hid (HX4.out.below hb5)
    have aX5 := HX5.out.1
    have bX5 := HX5.out.2.1
    have HO5 := Lib.hid (own_below HO4.out hb5)
    have HZ5 := Lib.hid (own_below HZ4.out hb5)
    have hB5 : Below w.heap.size w w5 := hB4.trans (hb5.mono hB4.size)
    clear hb5 aX4 bX4
    go_wp2_with fail
    refine (alive _).mono ?_
    rintro e w' ⟨rfl, rfl⟩
    go_wp2
    go_ret
    exact ⟨rfl, hB5⟩
  | true =>
    rw [hc] at hco
    obtain ⟨K, rfl, hK, h2y, h2n⟩ := says_law9 hk hc
    have hde := fun B u W h h2 => implDenyClaim (zs.length : Int) (K : Int) ms B u W h h2
    have Hdi := Lib.hid (deny_I649 (zs.length : Int) (K : Int) ms Hi.out)
    have hwk := fun B v W h => implWorldOfKinds zs B v W h
    rw [kwV_yes hk] at hwk h2n
    have hma := fun B u W h h2 => implMaySay (zs.length : Int) (K : Int) (kwN zs : Int) ms B u W h h2
    generalize denyV (zs.length : Int) ((K : Int), ms) = dd at *
    obtain ⟨dk, dms⟩ := dd
    have Hdi' : Hid (I64s dms) := Hdi.out
    have hot := fun B a u W h h1 h2 => implSpySays zs dk dms B a u W h h1 h2
    generalize saysV zs (dk, dms) = O at *
    generalize saysV zs ((K : Int), ms) = T at *
    generalize denyOk (zs.length : Int) ((K : Int), ms) = may at *
    generalize mayV (zs.length : Int) ((K : Int), ms) (kwN zs : Int) = M at *
    generalize kwN zs = X at *
    have Him := Lib.hid him
    have Hsp := Lib.hid hsp
    have Hco := Lib.hid hco
    have Hde := Lib.hid hde
    have Hwk := Lib.hid hwk
    have Hma := Lib.hid hma
    have Hot := Lib.hid hot
    clear him hsp hko hco hk hc hde hwk hma hot Hdi
    go_wp2_with fail
    refine (Him.out _ _ _ _ (RdInts.of_own HZ2.out) (RdMarks.of_own HO2.out Hi.out) (Nat.le_refl _)).mono ?_
    rintro e w3 ⟨rfl, hb3⟩
    have HX3 := Lib.hid (HX2.out.below hb3)
    have aX3 := HX3.out.1
    have bX3 := HX3.out.2.1
    have HO3 := Lib.hid (own_below HO2.out hb3)
    have HZ3 := Lib.hid (own_below HZ2.out hb3)
    have hB3 : Below w.heap.size w w3 := hB2.trans (hb3.mono hB2.size)
    clear hb3 aX2 bX2
    go_wp2_with fail
    refine (Hsp.out _ _ _ _ (RdInts.of_own HZ3.out) (RdMarks.of_own HO3.out Hi.out) (Nat.le_refl _)).mono ?_
    rintro e w4 ⟨rfl, hb4⟩
    have HX4 := Lib.hid (HX3.out.below hb4)
    have aX4 := HX4.out.1
    have bX4 := HX4.out.2.1
    have HO4 := Lib.hid (own_below HO3.out hb4)
    have HZ4 := Lib.hid (own_below HZ3.out hb4)
    have hB4 : Below w.heap.size w w4 := hB3.trans (hb4.mono hB3.size)
    clear hb4 aX3 bX3
    go_wp2_with fail
    refine (Hko.out _ _ _ (RdInts.of_own HZ4.out)).mono ?_
    rintro e w' ⟨rfl, rfl⟩
    go_wp2_with fail
    refine (Hco.out _ _ _ (RdMarks.of_own HO4.out Hi.out) (Nat.le_refl _)).mono ?_
    rintro e w5 ⟨rfl, hb5⟩
    have HX5 := Lib.hid (HX4.out.below hb5)
    have aX5 := HX5.out.1
    have bX5 := HX5.out.2.1
    have HO5 := Lib.hid (own_below HO4.out hb5)
    have HZ5 := Lib.hid (own_below HZ4.out hb5)
    have hB5 : Below w.heap.size w w5 := hB4.trans (hb5.mono hB4.size)
    clear hb5 aX4 bX4
    go_wp2_with fail
    refine (Hde.out _ _ _ (RdMarks.of_own HO5.out Hi.out) (Nat.le_refl _)).mono ?_
    rintro e w6 ⟨vA, rfl, hoA, hb6⟩
    have HX6 := Lib.hid (HX5.out.below hb6)
    have aX6 := HX6.out.1
    have bX6 := HX6.out.2.1
    have HO6 := Lib.hid (own_below HO5.out hb6)
    have HZ6 := Lib.hid (own_below HZ5.out hb6)
    have hB6 : Below w.heap.size w w6 := hB5.trans (hb6.mono hB5.size)
    obtain ⟨fA, gA, hfA⟩ := own_len hoA
    subst hfA
    clear hb6 aX5 bX5
    go_upto_region 10 with fail
    obtain ⟨w7, hw7, hn7, hb7, hsz7⟩ := Box.new w6 (.int .i64 dk) (.slice fA dms.length gA) TC
    have HX7 := Lib.hid (HX6.out.below hb7)
    have aX7 := HX7.out.1
    have bX7 := HX7.out.2.1
    have HO7 := Lib.hid (own_below HO6.out hb7)
    have HZ7 := Lib.hid (own_below HZ6.out hb7)
    have hB7 : Below w.heap.size w w7 := hB6.trans (hb7.mono hB6.size)
    have HRA7 := Lib.hid (own_below hoA hb7)
    have HA7 := Lib.hid hn7
    have aA7 := HA7.out.1
    have bA7 := HA7.out.2.1
    rw [← hw7]
    clear hw7 hn7 hb7 hoA aX6 bX6
    go_wp2_with fail
    refine (Hot.out _ _ _ _ (RdInts.of_own HZ7.out) (RdMarks.of_own HRA7.out Hdi'.out) (Nat.le_refl _)).mono ?_
    rintro e w8 ⟨rfl, hb8⟩
    have HX8 := Lib.hid (HX7.out.below hb8)
    have aX8 := HX8.out.1
    have bX8 := HX8.out.2.1
    have HA8 := Lib.hid (HA7.out.below hb8)
    have aA8 := HA8.out.1
    have bA8 := HA8.out.2.1
    have HO8 := Lib.hid (own_below HO7.out hb8)
    have HZ8 := Lib.hid (own_below HZ7.out hb8)
    have hB8 : Below w.heap.size w w8 := hB7.trans (hb8.mono hB7.size)
    clear hb8 aX7 bX7 aA7 bA7
    have hcK : w8.cell? ⟨gz, K, none⟩ = some (.int .i64 (zs.getD K 0)) := by
      have h1 := HZ8.out.cellAt K (by simpa using hK)
      simpa [ints, List.getD, hK] using h1
    have hgz8 : gz < w8.heap.size := (HZ8.out.lt gz rfl).2
    have HB8 := Lib.hid hB8
    clear hB2 hB3 hB4 hB5 hB6 hB7 HX2 HX3 HX4 HX5 HX6 HX7 HO2 HO3 HO4 HO5 HO6 HO7 HZ2 HZ3 HZ4 HZ5 HZ6 HZ7 HA7 HA8 HRA7 Him Hsp Hko Hco Hde Hot
    by_cases h2 : zs.getD K 0 = 2
    · obtain ⟨hT, hO⟩ := h2y h2
      subst hT
      rw [h2] at hcK
      clear h2y h2n h2
      cases may with
      | false =>
        clear hO
        cases O
        all_goals
          go_wp2
          go_ret
          exact ⟨rfl, HB8.out⟩
      | true =>
        have ho := hO rfl
        subst ho
        clear hO
        go_wp2
        go_ret
        exact ⟨rfl, HB8.out⟩
    · obtain ⟨hO, hM⟩ := h2n h2
      subst hM
      have h2' : (zs.getD K 0 == 2) = false := by rw [beq_eq_false_iff_ne]; exact h2
      clear h2y h2n h2
      have Hma8 := Lib.hid (fun W h h2 => Hma.out w8.heap.size (.slice (some ⟨g, 0, none⟩) ms.length cp) W h h2)
      have Hm8 := Lib.hid (RdMarks.of_own HO8.out Hi.out)
      have Hz8 := Lib.hid (RdInts.of_own (zs := zs) HZ8.out)
      generalize zs.getD K 0 = z at *
      go_upto_region 11 with fail
      have hq1 : (M == M) = true := by simp
      have hq2 : ((!M) != M) = true := by cases M <;> rfl
      cases may with
      | false =>
        clear hO hq2
        go_upto_region 13 with fail
        first
        | (go_region_with
          (first
            | (go_at_call 20
               (with_reducible refine (Hwk.out w8.heap.size _ _ ?_).mono ?_)
               · exact Hz8.out
               rintro e w' ⟨rfl, rfl⟩)
            | (go_at_call 30
               (with_reducible refine (Hma8.out _ ?_ ?_).mono ?_)
               · exact Hm8.out
               · exact Nat.le_refl _
               rintro e w9 ⟨rfl, hb9'⟩
               go_must (have hb9 : Below w8.heap.size w8 w9 := by first | exact hb9' | exact below_undrewS hb9' | exact below_undrewN hb9'
                        have HX9 := Lib.hid (HX8.out.below hb9)
                        have aX9 := HX9.out.1
                        have bX9 := HX9.out.2.1
                        have HB9 := Lib.hid (HB8.out.trans (hb9.mono HB8.out.size))
                        clear hb9 hb9'))
            | fail))
        | fail
        all_goals go_wp2
        all_goals
          go_ret
          exact ⟨rfl, by first | exact HB9.out | exact below_drew1 HB9.out | exact below_drewN HB9.out _⟩
      | true =>
        have ho := hO rfl
        subst ho
        clear hO
        go_upto_region 13 with fail
        go_region_held3 (fun w' => w'.cell? ⟨w1.heap.size, 0, none⟩ = some (.int .i64 K) ∧ w'.cell? ⟨w1.heap.size, 1, none⟩ = some (.slice (some ⟨g, 0, none⟩) ms.length cp))
          (first | (refine ⟨?_, ?_⟩ <;> first | go_keep | assumption) | assumption)
          (first
            | (go_at_call 20
               (with_reducible refine (Hwk.out w8.heap.size _ _ ?_).mono ?_)
               · exact Hz8.out
               rintro e w' ⟨rfl, rfl⟩)
            | (go_at_call 30
               (with_reducible refine (Hma8.out _ ?_ ?_).mono ?_)
               · exact Hm8.out
               · exact Nat.le_refl _
               rintro e w9 ⟨rfl, hb9'⟩
               go_must (have hb9 : Below w8.heap.size w8 w9 := by first | exact hb9' | exact below_undrewS hb9' | exact below_undrewN hb9'
                        have HX9 := Lib.hid (HX8.out.below hb9)
                        have aX9 := HX9.out.1
                        have bX9 := HX9.out.2.1
                        have HB9 := Lib.hid (HB8.out.trans (hb9.mono HB8.out.size))
                        clear hb9 hb9'))
            | fail)
        all_goals go_wp2
        all_goals
          go_ret
          exact ⟨rfl, by first | exact HB9.out | exact below_drew1 HB9.out | exact below_drewN HB9.out _⟩

set_option maxRecDepth 100000 in
theorem lifted (os : Os) (started : os.Started) (H : Type) (enc : TypeId × Value → H) :
    ReturnsInHanded {} Try.checked os 5 .any (Rows.fnSpySaysSpec.pre6 enc Try.prog Try.f5 Rows.fnSpySaysRow.domain false) (Rows.fnSpySaysSpec.post enc Try.prog Try.f5 false true false false) := by
  refine returnsInHanded_of_change (C := Try.checked) Try.own started (by kernel_rfl) Try.func5
    (ChangeSpec.witness6 (enc := enc) (C := Try.checked) false ⟨#[], #[.slice none 0 0], []⟩ 8 (by kernel_rfl) (by kernel_rfl) (by kernel_rfl) (by kernel_rfl)) ?_
  intro W base args ds gs before hval0 hW hcnd _
  have hval : ∀ (j : Nat) t v, Try.f5.params[j]? = some t → args[j]? = some v → Value.okWide Try.prog W .any base t v := hval0
  have hW' := hW
  obtain ⟨p, q, hA0, hV, rfl, hfz, hnd⟩ := hW
  have hA : DataW.TrodAll enc Try.prog W 0 (fun _ => true) true Try.f5.params.toList args.toList ds p := hA0
  rw [Try.params5] at hA hval
  obtain ⟨v0, vs0, d0, ds0, p0, q0, hargs, rfl, rfl, h0, r0⟩ := trodAll_cons hA
  obtain ⟨rfl, rfl, rfl⟩ := trodAll_nil r0
  obtain rfl : args = #[v0] := by cases args; simp_all
  obtain ⟨rfl, rfl⟩ := trodVars_none hV
  obtain ⟨a0, len0, cap0, rfl⟩ := okWide_slice Try.underlying22 (hval 0 22 v0 rfl rfl)
  have k0 := h0
  have lt0 : ∀ x ∈ p0, x.block < W.heap.size := by obtain ⟨m, hm⟩ := k0; exact DataW.trod_lt m _ _ _ hm
  obtain ⟨z0, w0⟩ : ∃ zs, IsRow .u8 W a0 len0 cap0 zs := by
    obtain ⟨fuel, hf⟩ := h0
    rcases open_ints Try.underlying22 Try.underlying5 (by kernel_rfl) hf with ⟨hcs, _⟩ | ⟨x, l, c, zs, hcs, _, hl, hm, hz, _, hcell, hwz⟩
    · simp [Value.cells] at hcs
      obtain ⟨rfl, rfl, rfl⟩ := hcs
      exact ⟨[], .inl ⟨rfl, rfl, rfl, rfl⟩⟩
    · simp [Value.cells] at hcs
      obtain ⟨rfl, rfl, rfl⟩ := hcs
      exact ⟨zs, .inr ⟨_, rfl, hl, hm, by simpa using hz, hcell, hwz⟩⟩
  clear hA0 hval0
  refine (walk _ _ W (RdBytes.of_row w0)).mono fun e W' ⟨he, bel⟩ => ?_
  subst he
  exact ⟨_, rfl, _, _, _, [], _, [], hW', trodAll_mk1 (shut_bool Try.underlying4 _), (trodAll_cons_mk (Below.trod Try.laidOut (by kernel_rfl) (of_decide_eq_true (by kernel_rfl)) k0 bel lt0) trodAll_mk0), rfl, bel.frame _, fun h => by cases h⟩

theorem closed : joinedFacts Try.pinned.checked.prog 5 Try.f5 Rows.fnSpySaysSpec Rows.fnSpySaysRow = true := by
  unfold joinedFacts
  exact (and_tt (and_tt (and_tt (and_tt (and_tt (and_tt (and_tt (and_tt (and_tt (and_tt (and_tt (and_tt (and_tt (and_tt (and_tt (and_tt (and_tt (and_tt (and_tt (and_tt (and_tt (and_tt (and_tt (and_tt (and_tt (and_tt (and_tt (and_tt (and_tt (and_tt (and_tt (by kernel_rfl) (by kernel_rfl)) (by kernel_rfl)) (by kernel_rfl)) (by kernel_rfl)) (by kernel_rfl)) (by kernel_rfl)) (by kernel_rfl)) (by kernel_rfl)) (by kernel_rfl)) (by kernel_rfl)) (by kernel_rfl)) (by kernel_rfl)) (by kernel_rfl)) (by kernel_rfl)) (by kernel_rfl)) (by kernel_rfl)) (by kernel_rfl)) (by kernel_rfl)) (by kernel_rfl)) (by kernel_rfl)) (by kernel_rfl)) (by kernel_rfl)) (by kernel_rfl)) (by kernel_rfl)) Try.mayEnter0) (lifted_tt Try.lifts0 rfl)) (make_tt Try.make0 rfl)) (by kernel_rfl)) (by kernel_rfl)) (by kernel_rfl)) (by kernel_rfl))
theorem over : Rows.fnSpySaysRow.holds Try.pinned (OpenSpec.ofChange Rows.fnSpySaysSpec) :=
  OpenClaim.holds_of_wide 5 Try.f5 rfl rfl rfl rfl rfl rfl rfl ⟨rfl, rfl, rfl, rfl, rfl⟩ rfl rfl rfl rfl rfl (by kernel_rfl) Try.func5 closed
    (of_decide_eq_true (by kernel_rfl)) (by unfold Func.isWrapper; first | (rw [if_pos (by decide +kernel)]; kernel_rfl) | (rw [if_neg (by decide +kernel)]; exact ⟨rfl, rfl⟩))
    (fun os started H enc _ => lifted os started H enc)

theorem proved : Rows.FnSpySaysSaid := over
end Go.Proofs.Ytobbbmcppmohoaa.fnSpySays

