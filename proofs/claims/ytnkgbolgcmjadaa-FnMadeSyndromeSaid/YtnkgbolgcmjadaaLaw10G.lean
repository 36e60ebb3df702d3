/- A law of stage 10: made syndromes fit what made them. It answers true, whatever the code. No condition. -/
import Derived.Test.YtnkgbolgcmjadaaDrawY
import Derived.Test.YtnkgbolgcmjadaaFaultI
import Derived.Test.YtnkgbolgcmjadaaFaultL
import Derived.Test.YtnkgbolgcmjadaaLawsA
import Derived.Deep.RegionHeld3
import Derived.Deep.Cut
import Derived.Test.YtnkgbolgcmjadaaRowsH
import Derived.Test.YtnkgbolgcmjadaaRowsE
namespace Go.Proofs.Ytnkgbolgcmjadaa
open Go.RowKit Go.Joins
theorem made_parts9 {p x q : Int} (h : madeOk p x q = true) : ∃ n X W : Nat, p = n ∧ x = X ∧ q = W ∧ 1 ≤ n ∧ n ≤ 5 ∧ X < 2 ^ n := by
  unfold madeOk at h
  rw [Bool.and_eq_true, Bool.and_eq_true, decide_eq_true_eq, decide_eq_true_eq, decide_eq_true_eq] at h
  obtain ⟨⟨h1, h2⟩, ⟨h3, h4⟩, h5⟩ := h
  obtain ⟨n, rfl⟩ := Int.eq_ofNat_of_zero_le (show 0 ≤ p by omega)
  obtain ⟨X, rfl⟩ := Int.eq_ofNat_of_zero_le h3
  obtain ⟨W, rfl⟩ := Int.eq_ofNat_of_zero_le h5
  rw [Int.toNat_natCast] at h4
  exact ⟨n, X, W, rfl, rfl, rfl, by omega, by omega, by exact_mod_cast h4⟩
end Go.Proofs.Ytnkgbolgcmjadaa
namespace Go.Proofs.Ytnkgbolgcmjadaa.fnMadeSyndrome
open Go.ChangeShapes Go.WideShapes Go.ChangeAt Go.RowKit Go.Joins
attribute [local irreducible] synOk rowOk entOk fitsN fitsK toldE bitI fitsV setsN setsF votesF votesN heads madeE madeRow madeL madeV madeOk sureN onlyFN onlyFOk nums
open Go.ChangeMaps (open_string shut_string)
set_option linter.unusedVariables false
set_option maxRecDepth 100000 in
set_option maxHeartbeats 8000000 in
theorem walk (a0 : Value) (n0 : Nat) (w : World) (w0 : RdBytes w w.heap.size a0 n0) :
    Calls Try.prog 9 #[a0] w fun e w' => e = .returned (.bool true) ∧ Below w.heap.size w w' := by
  have hr := w0
  by_cases hbig : n0 ≤ 1048576
  case neg =>
    obtain ⟨ao, cap, rfl, hl, hm, hc⟩ := w0
    have hbig' := code_big hbig
    unfold maxLen at hm
    clear hc hr hbig
    go_enter Try.func9, Try.ntmps9
    go_wp2
    go_ret
    exact ⟨rfl, Below.refl _ _⟩
  have hbig' : (n0 : Int) ≤ 1048576 := by omega
  clear hbig
  obtain ⟨ao, cap, rfl, hl, hm, hc⟩ := w0
  have Hr := Lib.hid hr
  clear hc hr hl hm
  go_enter Try.func9, Try.ntmps9
  go_wp2_with fail
  refine (drawMadeSyndrome _ _ _ Hr.out).mono ?_
  rintro e w1 ⟨p, x, q, rfl, hp0, hp1, hx0, hx1, hq0, hq1, hB1⟩
  have HB1 := Lib.hid hB1
  clear hB1
  go_wp2_with fail
  refine (implMadeSyndrome p x q (by omega) _).mono ?_
  rintro e w2 ⟨vA, rsA, rfl, hrsA, hriA, hapA, hb2⟩
  obtain ⟨aA, cA, rfl⟩ := own_len9 hriA.1
  have HA2 := Lib.hid hriA.rd
  have HB2 := Lib.hid (HB1.out.trans (hb2.mono HB1.out.size))
  clear hriA hapA hb2
  go_wp2_with fail
  refine (specMadeSyndrome p x q (by omega) _).mono ?_
  rintro e w3 ⟨vC, rsC, rfl, hrsC, hriC, hapC, hb3⟩
  obtain ⟨aC, cC, rfl⟩ := own_len9 hriC.1
  have HC3 := Lib.hid hriC.rd
  have HB3 := Lib.hid (HB2.out.trans (hb3.mono HB2.out.size))
  have HA3 := Lib.hid (HA2.out.kept hb3)
  clear hriC hapC hb3
  have Hsr := Lib.hid (sameRows rsA rsC _ _ _ _ w3 HA3.out HC3.out)
  rw [hrsA, hrsC, decide_eq_true rfl] at Hsr
  go_wp2_with fail
  refine Hsr.out.mono ?_
  rintro e w4 ⟨rfl, nd4, hnd4⟩
  have hb4 : Below w3.heap.size w3 w4 := by rw [← hnd4]; exact below_drewN9 (Below.refl _ _) _
  clear hnd4 Hsr hrsC HC3
  have HB4 := Lib.hid (HB3.out.trans (hb4.mono HB3.out.size))
  have HA4 := Lib.hid (HA3.out.kept hb4)
  clear hb4
  cases hok : madeOk p x q with
  | false =>
    have hl0 : rsA.length = 0 := by
      have := congrArg List.length hrsA
      rw [List.length_map, madeV_no hok] at this
      exact this
    rw [hl0]
    clear hrsA HA4 hok hl0 HA3 HA2
    go_wp2_with fail
    refine (alive _).mono ?_
    rintro e w' ⟨rfl, rfl⟩
    go_wp2
    go_ret
    exact ⟨rfl, HB4.out⟩
  | true =>
    obtain ⟨n, X, W, rfl, rfl, rfl, hn1, hn5, hX⟩ := made_parts9 hok
    rw [madeV_yes hn1 hn5 hX] at hrsA
    have hrl : rsA.length = n := by have := congrArg List.length hrsA; rw [List.length_map, madeL_len] at this; exact this
    have hsy := made_syn (X := X) (w := W) hn1 hn5
    have hfi := made_fits n X W
    have honly := fun h => made_only (w := W) hn1 hn5 hX h
    rw [← hrsA] at hsy hfi honly
    have hfv := fitsV_in hsy (X := X) (by rw [List.length_map, hrl]; exact hX)
    rw [hfi] at hfv
    have h32 := two32 hn5
    have hX32 : X < 32 := by omega
    have Hio := Lib.hid (fun w h h2 => implOnlyFaults rsA w.heap.size (.slice aA rsA.length cA) w h h2)
    have His := Lib.hid (fun w h h2 => implSyndromeOk rsA w.heap.size (.slice aA rsA.length cA) w h h2)
    have Hif := Lib.hid (fun w h h2 => implFitsFaults rsA (X : Int) w.heap.size (.slice aA rsA.length cA) w h h2)
    have Hsu := Lib.hid (fun w => implSureMost (n : Int) w)
    have Hh := Lib.hid (fun w => lawHeads X (by omega) w)
    rw [hsy] at His
    rw [hfv] at Hif
    have hrl0 : ¬ rsA.length = 0 := by omega
    have hsr := (sure_half hn1 hn5).1
    clear hsy hfi hfv hX h32 hok hrl
    by_cases hle : (heads X : Int) ≤ sureN n
    · obtain ⟨h1, h2⟩ := honly hle
      rw [h1, h2] at Hio
      clear h1 h2 honly hrsA HA3 HA2
      generalize heads X = hd at *
      generalize sureN n = sn at *
      have hle' : ¬ ((sn : Int) < hd) := by omega
      go_wp2_with fail
      refine (Hio.out _ HA4.out (Nat.le_refl _)).mono ?_
      rintro e w5 ⟨rfl, hb5⟩
      have HB5 := Lib.hid (HB4.out.trans (hb5.mono HB4.out.size))
      have HA5 := Lib.hid (HA4.out.kept hb5)
      clear hb5
      go_wp2_with fail
      refine (His.out _ HA5.out (Nat.le_refl _)).mono ?_
      rintro e w6 ⟨rfl, hb6⟩
      have HB6 := Lib.hid (HB5.out.trans (hb6.mono HB5.out.size))
      have HA6 := Lib.hid (HA5.out.kept hb6)
      clear hb6
      go_wp2_with fail
      refine (Hif.out _ HA6.out (Nat.le_refl _)).mono ?_
      rintro e w7 ⟨rfl, hb7⟩
      have HB7 := Lib.hid (HB6.out.trans (hb7.mono HB6.out.size))
      have HA7 := Lib.hid (HA6.out.kept hb7)
      clear hb7
      go_wp2_with fail
      refine (Hh.out _).mono ?_
      rintro e w' ⟨rfl, rfl⟩
      go_wp2_with fail
      refine (Hsu.out _).mono ?_
      rintro e w8 ⟨rfl, hb8⟩
      have HB8 := Lib.hid (HB7.out.trans (hb8.mono HB7.out.size))
      have HA8 := Lib.hid (HA7.out.kept hb8)
      clear hb8
      go_wp2
      go_ret
      exact ⟨rfl, HB8.out⟩
    · clear honly hrsA HA3 HA2
      generalize heads X = hd at *
      generalize sureN n = sn at *
      generalize onlyFN (rsA.map (·.2)) = FN at *
      generalize onlyFOk (rsA.map (·.2)) = FO at *
      have hle' : (sn : Int) < hd := by omega
      go_wp2_with fail
      refine (Hio.out _ HA4.out (Nat.le_refl _)).mono ?_
      rintro e w5 ⟨rfl, hb5⟩
      have HB5 := Lib.hid (HB4.out.trans (hb5.mono HB4.out.size))
      have HA5 := Lib.hid (HA4.out.kept hb5)
      clear hb5
      go_wp2_with fail
      refine (His.out _ HA5.out (Nat.le_refl _)).mono ?_
      rintro e w6 ⟨rfl, hb6⟩
      have HB6 := Lib.hid (HB5.out.trans (hb6.mono HB5.out.size))
      have HA6 := Lib.hid (HA5.out.kept hb6)
      clear hb6
      go_wp2_with fail
      refine (Hif.out _ HA6.out (Nat.le_refl _)).mono ?_
      rintro e w7 ⟨rfl, hb7⟩
      have HB7 := Lib.hid (HB6.out.trans (hb7.mono HB6.out.size))
      have HA7 := Lib.hid (HA6.out.kept hb7)
      clear hb7
      go_wp2_with fail
      refine (Hh.out _).mono ?_
      rintro e w' ⟨rfl, rfl⟩
      go_wp2_with fail
      refine (Hsu.out _).mono ?_
      rintro e w8 ⟨rfl, hb8⟩
      have HB8 := Lib.hid (HB7.out.trans (hb8.mono HB7.out.size))
      have HA8 := Lib.hid (HA7.out.kept hb8)
      clear hb8
      go_wp2
      go_ret
      exact ⟨rfl, HB8.out⟩

set_option maxRecDepth 100000 in
theorem lifted (os : Os) (started : os.Started) (H : Type) (enc : TypeId × Value → H) :
    ReturnsInHanded {} Try.checked os 9 .any (Rows.fnMadeSyndromeSpec.pre6 enc Try.prog Try.f9 Rows.fnMadeSyndromeRow.domain false) (Rows.fnMadeSyndromeSpec.post enc Try.prog Try.f9 false true false false) := by
  refine returnsInHanded_of_change (C := Try.checked) Try.own started (by kernel_rfl) Try.func9
    (ChangeSpec.witness6 (enc := enc) (C := Try.checked) false ⟨#[], #[.slice none 0 0], []⟩ 8 (by kernel_rfl) (by kernel_rfl) (by kernel_rfl) (by kernel_rfl)) ?_
  intro W base args ds gs before hval0 hW hcnd _
  have hval : ∀ (j : Nat) t v, Try.f9.params[j]? = some t → args[j]? = some v → Value.okWide Try.prog W .any base t v := hval0
  have hW' := hW
  obtain ⟨p, q, hA0, hV, rfl, hfz, hnd⟩ := hW
  have hA : DataW.TrodAll enc Try.prog W 0 (fun _ => true) true Try.f9.params.toList args.toList ds p := hA0
  rw [Try.params9] at hA hval
  obtain ⟨v0, vs0, d0, ds0, p0, q0, hargs, rfl, rfl, h0, r0⟩ := trodAll_cons hA
  obtain ⟨rfl, rfl, rfl⟩ := trodAll_nil r0
  obtain rfl : args = #[v0] := by cases args; simp_all
  obtain ⟨rfl, rfl⟩ := trodVars_none hV
  obtain ⟨a0, len0, cap0, rfl⟩ := okWide_slice Try.underlying22 (hval 0 22 v0 rfl rfl)
  have k0 := h0
  have lt0 : ∀ x ∈ p0, x.block < W.heap.size := by obtain ⟨m, hm⟩ := k0; exact DataW.trod_lt m _ _ _ hm
  obtain ⟨z0, w0⟩ : ∃ zs, IsRow .u8 W a0 len0 cap0 zs := by
    obtain ⟨fuel, hf⟩ := h0
    rcases open_ints Try.underlying22 Try.underlying5 (by kernel_rfl) hf with ⟨hcs, _⟩ | ⟨x, l, c, zs, hcs, _, hl, hm, hz, _, hcell, hwz⟩
    · simp [Value.cells] at hcs
      obtain ⟨rfl, rfl, rfl⟩ := hcs
      exact ⟨[], .inl ⟨rfl, rfl, rfl, rfl⟩⟩
    · simp [Value.cells] at hcs
      obtain ⟨rfl, rfl, rfl⟩ := hcs
      exact ⟨zs, .inr ⟨_, rfl, hl, hm, by simpa using hz, hcell, hwz⟩⟩
  clear hA0 hval0
  refine (walk _ _ W (RdBytes.of_row w0)).mono fun e W' ⟨he, bel⟩ => ?_
  subst he
  exact ⟨_, rfl, _, _, _, [], _, [], hW', trodAll_mk1 (shut_bool Try.underlying4 _), (trodAll_cons_mk (Below.trod Try.laidOut (by kernel_rfl) (of_decide_eq_true (by kernel_rfl)) k0 bel lt0) trodAll_mk0), rfl, bel.frame _, fun h => by cases h⟩

theorem closed : joinedFacts Try.pinned.checked.prog 9 Try.f9 Rows.fnMadeSyndromeSpec Rows.fnMadeSyndromeRow = true := by
  unfold joinedFacts
  exact (and_tt (and_tt (and_tt (and_tt (and_tt (and_tt (and_tt (and_tt (and_tt (and_tt (and_tt (and_tt (and_tt (and_tt (and_tt (and_tt (and_tt (and_tt (and_tt (and_tt (and_tt (and_tt (and_tt (and_tt (and_tt (and_tt (and_tt (and_tt (and_tt (and_tt (and_tt (by kernel_rfl) (by kernel_rfl)) (by kernel_rfl)) (by kernel_rfl)) (by kernel_rfl)) (by kernel_rfl)) (by kernel_rfl)) (by kernel_rfl)) (by kernel_rfl)) (by kernel_rfl)) (by kernel_rfl)) (by kernel_rfl)) (by kernel_rfl)) (by kernel_rfl)) (by kernel_rfl)) (by kernel_rfl)) (by kernel_rfl)) (by kernel_rfl)) (by kernel_rfl)) (by kernel_rfl)) (by kernel_rfl)) (by kernel_rfl)) (by kernel_rfl)) (by kernel_rfl)) (by kernel_rfl)) Try.mayEnter0) (lifted_tt Try.lifts0 rfl)) (make_tt Try.make0 rfl)) (by kernel_rfl)) (by kernel_rfl)) (by kernel_rfl)) (by kernel_rfl))
theorem over : Rows.fnMadeSyndromeRow.holds Try.pinned (OpenSpec.ofChange Rows.fnMadeSyndromeSpec) :=
  OpenClaim.holds_of_wide 9 Try.f9 rfl rfl rfl rfl rfl rfl rfl ⟨rfl, rfl, rfl, rfl, rfl⟩ rfl rfl rfl rfl rfl (by kernel_rfl) Try.func9 closed
    (of_decide_eq_true (by kernel_rfl)) (by unfold Func.isWrapper; first | (rw [if_pos (by decide +kernel)]; kernel_rfl) | (rw [if_neg (by decide +kernel)]; exact ⟨rfl, rfl⟩))
    (fun os started H enc _ => lifted os started H enc)

theorem proved : Rows.FnMadeSyndromeSaid := over
end Go.Proofs.Ytnkgbolgcmjadaa.fnMadeSyndrome

