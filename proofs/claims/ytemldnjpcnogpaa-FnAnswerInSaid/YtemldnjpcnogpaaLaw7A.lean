/- A law of stage 7: yes is a claim, and no its denial. It answers true, whatever the code. No condition. -/
import Derived.Test.YtemldnjpcnogpaaDrawA
import Derived.Test.YtemldnjpcnogpaaAskI
import Derived.Test.YtemldnjpcnogpaaTruthI
import Derived.Test.YtemldnjpcnogpaaLawsA
import Derived.Deep.RegionHeld3
import Derived.Deep.Cut
import Derived.Test.YtemldnjpcnogpaaClaimI
namespace Go.Proofs.Ytemldnjpcnogpaa
open Go.RowKit Go.Joins
theorem ans_01 {p k x : Int} {ms : List (Int × Int)} (h1 : termOk p ms = true) (h2 : wOk p x = true) (h3 : inOk p k = true) : ansN p k ms x = 0 ∨ ansN p k ms x = 1 := by
  rw [ansN_yes h1 h2 h3]
  cases mayT p (k, ms) x.toNat
  · exact .inl rfl
  · exact .inr rfl
end Go.Proofs.Ytemldnjpcnogpaa
namespace Go.Proofs.Ytemldnjpcnogpaa.fnAnswerIn
open Go.ChangeShapes Go.WideShapes Go.ChangeAt Go.RowKit Go.Joins
attribute [local irreducible] holds tabN tabV holdsV sameV followsV alwaysV matterV mirV mirOk mcells tmOf claimOk mayT mayV ctabV ctabN storyV storyOk storyN storyT ctermV ctermL denyV denyOk ccells ansN inOk chainL chainOk chainV alikeV liesN matterN matters
open Go.ChangeMaps (open_string shut_string)
set_option linter.unusedVariables false
set_option maxRecDepth 100000 in
set_option maxHeartbeats 8000000 in
theorem walk (a0 : Value) (n0 : Nat) (w : World) (w0 : RdBytes w w.heap.size a0 n0) :
    Calls Try.prog 3 #[a0] w fun e w' => e = .returned (.bool true) ∧ Below w.heap.size w w' := by
  have hr := w0
  by_cases hbig : n0 ≤ 1048576
  case neg =>
    obtain ⟨ao, cap, rfl, hl, hm, hc⟩ := w0
    have hbig' := code_big hbig
    unfold maxLen at hm
    clear hc hr hbig
    go_enter Try.func3, Try.ntmps3
    go_wp2
    go_ret
    exact ⟨rfl, Below.refl _ _⟩
  have hbig' : (n0 : Int) ≤ 1048576 := by omega
  clear hbig
  obtain ⟨ao, cap, rfl, hl, hm, hc⟩ := w0
  have Hr := Lib.hid hr
  clear hc hr hl hm
  go_enter Try.func3, Try.ntmps3
  go_wp2_with fail
  refine (drawAnswerIn _ _ _ Hr.out).mono ?_
  rintro e w1 ⟨p, k, g, cp, ms, x, hp1, hp4, hk0, hk8, rfl, hown, hi, hn, hx0, hx100, hB1⟩
  have HO1 := Lib.hid hown
  have Hi := Lib.hid hi
  have HK : Hid (I64 k) := I64_small (by omega) (by omega)
  clear hown hi
  have him := fun B u W h h2 => implAnswerIn p k x ms B u W h h2
  have hsp := fun B u W h h2 => specAnswerIn p k x ms B u W h h2
  have hcs := ans_cases (p := p) (k := k) (x := x) (ms := ms)
  have h01 := fun h1 h2 h3 => ans_01 (p := p) (k := k) (x := x) (ms := ms) h1 h2 h3
  have hfa := fun h1 h2 h3 => ans_may (p := p) (k := k) (x := x) (ms := ms) h1 h2 h3
  generalize ansN p k ms x = V at *
  have Him := Lib.hid him
  have Hsp := Lib.hid hsp
  clear him hsp
  rcases hcs with ⟨hV, _⟩ | ⟨ht, hx, hk⟩
  · subst hV
    clear h01 hfa
    go_wp2_with fail
    refine (Him.out _ _ _ (RdMarks.of_own HO1.out Hi.out) (Nat.le_refl _)).mono ?_
    rintro e w2 ⟨rfl, hb2⟩
    have HO2 := Lib.hid (own_below HO1.out hb2)
    have hB2 : Below w.heap.size w w2 := hB1.trans (hb2.mono hB1.size)
    clear hb2 
    go_wp2_with fail
    refine (Hsp.out _ _ _ (RdMarks.of_own HO2.out Hi.out) (Nat.le_refl _)).mono ?_
    rintro e w3 ⟨rfl, hb3⟩
    have HO3 := Lib.hid (own_below HO2.out hb3)
    have hB3 : Below w.heap.size w w3 := hB2.trans (hb3.mono hB2.size)
    clear hb3 
    go_wp2_with fail
    refine (alive _).mono ?_
    rintro e w' ⟨rfl, rfl⟩
    go_wp2
    go_ret
    exact ⟨rfl, hB3⟩
  · have h01' := h01 ht hx hk
    obtain ⟨_, hM, hT⟩ := hfa ht hx hk
    obtain ⟨_, _, _, hx16⟩ := wOk_lt hx
    obtain ⟨_, hkp⟩ := inOk_iff.1 hk
    obtain ⟨X, rfl⟩ := Int.eq_ofNat_of_zero_le hx0
    obtain ⟨K, rfl⟩ := Int.eq_ofNat_of_zero_le hk0
    have Hho := Lib.hid (fun B u W h h2 => implHoldsIn p ms X B u W h h2)
    have Hco := Lib.hid (fun B u W h h2 => specClaimOk p K ms B u W h h2)
    have Hma := Lib.hid (fun B u W h h2 => implMaySay p K X ms B u W h h2)
    have hb2 := (bit_test X K).2
    rw [Int.toNat_natCast, Int.toNat_natCast] at hT
    have hmk : min K 64 = K := by omega
    rw [hT] at hb2
    clear hT h01 hfa ht hx hk
    generalize holdsV p ms X = h at *
    generalize mayV p (K, ms) X = m at *
    generalize claimOk p (K, ms) = c at *
    go_wp2_with fail
    refine (Him.out _ _ _ (RdMarks.of_own HO1.out Hi.out) (Nat.le_refl _)).mono ?_
    rintro e w2 ⟨rfl, hb2⟩
    have HO2 := Lib.hid (own_below HO1.out hb2)
    have hB2 : Below w.heap.size w w2 := hB1.trans (hb2.mono hB1.size)
    clear hb2 
    go_wp2_with fail
    refine (Hsp.out _ _ _ (RdMarks.of_own HO2.out Hi.out) (Nat.le_refl _)).mono ?_
    rintro e w3 ⟨rfl, hb3⟩
    have HO3 := Lib.hid (own_below HO2.out hb3)
    have hB3 : Below w.heap.size w w3 := hB2.trans (hb3.mono hB2.size)
    clear hb3 
    have hVn : ¬ (V < 0) := by omega
    have hV1 : V ≤ 1 := by omega
    go_upto_region 10 with fail
    obtain ⟨w4, hw4, hx4, hb4, hs4⟩ := Box.new w3 (.int .i64 K) (.slice (some ⟨g, 0, none⟩) ms.length cp) TC
    have HX4 := Lib.hid hx4
    have aX4 := HX4.out.1
    have bX4 := HX4.out.2.1
    have HO4 := Lib.hid (own_below HO3.out hb4)
    have hB4 : Below w.heap.size w w4 := hB3.trans (hb4.mono hB3.size)
    rw [← hw4]
    clear hw4 hx4 hb4
    go_wp2_with fail
    refine (Hho.out _ _ _ (RdMarks.of_own HO4.out Hi.out) (Nat.le_refl _)).mono ?_
    rintro e w5 ⟨rfl, hb5⟩
    have HX5 := Lib.hid (HX4.out.below hb5)
    have aX5 := HX5.out.1
    have bX5 := HX5.out.2.1
    have HO5 := Lib.hid (own_below HO4.out hb5)
    have hB5 : Below w.heap.size w w5 := hB4.trans (hb5.mono hB4.size)
    clear hb5 aX4 bX4
    go_wp2_with fail
    refine (Hco.out _ _ _ (RdMarks.of_own HO5.out Hi.out) (Nat.le_refl _)).mono ?_
    rintro e w6 ⟨rfl, hb6⟩
    have HX6 := Lib.hid (HX5.out.below hb6)
    have aX6 := HX6.out.1
    have bX6 := HX6.out.2.1
    have HO6 := Lib.hid (own_below HO5.out hb6)
    have hB6 : Below w.heap.size w w6 := hB5.trans (hb6.mono hB5.size)
    clear hb6 aX5 bX5
    cases c with
    | false =>
      clear hM Hma
      rcases h01' with rfl | rfl <;> cases h
      all_goals
        go_wp2
        go_ret
        exact ⟨rfl, hB6⟩
    | true =>
      have hm := hM rfl
      subst hm
      clear hM
      go_wp2_with fail
      refine (Hma.out _ _ _ (RdMarks.of_own HO6.out Hi.out) (Nat.le_refl _)).mono ?_
      rintro e w7 ⟨rfl, hb7⟩
      have HX7 := Lib.hid (HX6.out.below hb7)
      have aX7 := HX7.out.1
      have bX7 := HX7.out.2.1
      have HO7 := Lib.hid (own_below HO6.out hb7)
      have hB7 : Below w.heap.size w w7 := hB6.trans (hb7.mono hB6.size)
      clear hb7 aX6 bX6
      rcases h01' with rfl | rfl <;> cases h
      all_goals
        go_wp2
        go_ret
        exact ⟨rfl, hB7⟩

set_option maxRecDepth 100000 in
theorem lifted (os : Os) (started : os.Started) (H : Type) (enc : TypeId × Value → H) :
    ReturnsInHanded {} Try.checked os 3 .any (Rows.fnAnswerInSpec.pre6 enc Try.prog Try.f3 Rows.fnAnswerInRow.domain false) (Rows.fnAnswerInSpec.post enc Try.prog Try.f3 false true false false) := by
  refine returnsInHanded_of_change (C := Try.checked) Try.own started (by kernel_rfl) Try.func3
    (ChangeSpec.witness6 (enc := enc) (C := Try.checked) false ⟨#[], #[.slice none 0 0], []⟩ 8 (by kernel_rfl) (by kernel_rfl) (by kernel_rfl) (by kernel_rfl)) ?_
  intro W base args ds gs before hval0 hW hcnd _
  have hval : ∀ (j : Nat) t v, Try.f3.params[j]? = some t → args[j]? = some v → Value.okWide Try.prog W .any base t v := hval0
  have hW' := hW
  obtain ⟨p, q, hA0, hV, rfl, hfz, hnd⟩ := hW
  have hA : DataW.TrodAll enc Try.prog W 0 (fun _ => true) true Try.f3.params.toList args.toList ds p := hA0
  rw [Try.params3] at hA hval
  obtain ⟨v0, vs0, d0, ds0, p0, q0, hargs, rfl, rfl, h0, r0⟩ := trodAll_cons hA
  obtain ⟨rfl, rfl, rfl⟩ := trodAll_nil r0
  obtain rfl : args = #[v0] := by cases args; simp_all
  obtain ⟨rfl, rfl⟩ := trodVars_none hV
  obtain ⟨a0, len0, cap0, rfl⟩ := okWide_slice Try.underlying22 (hval 0 22 v0 rfl rfl)
  have k0 := h0
  have lt0 : ∀ x ∈ p0, x.block < W.heap.size := by obtain ⟨m, hm⟩ := k0; exact DataW.trod_lt m _ _ _ hm
  obtain ⟨z0, w0⟩ : ∃ zs, IsRow .u8 W a0 len0 cap0 zs := by
    obtain ⟨fuel, hf⟩ := h0
    rcases open_ints Try.underlying22 Try.underlying5 (by kernel_rfl) hf with ⟨hcs, _⟩ | ⟨x, l, c, zs, hcs, _, hl, hm, hz, _, hcell, hwz⟩
    · simp [Value.cells] at hcs
      obtain ⟨rfl, rfl, rfl⟩ := hcs
      exact ⟨[], .inl ⟨rfl, rfl, rfl, rfl⟩⟩
    · simp [Value.cells] at hcs
      obtain ⟨rfl, rfl, rfl⟩ := hcs
      exact ⟨zs, .inr ⟨_, rfl, hl, hm, by simpa using hz, hcell, hwz⟩⟩
  clear hA0 hval0
  refine (walk _ _ W (RdBytes.of_row w0)).mono fun e W' ⟨he, bel⟩ => ?_
  subst he
  exact ⟨_, rfl, _, _, _, [], _, [], hW', trodAll_mk1 (shut_bool Try.underlying4 _), (trodAll_cons_mk (Below.trod Try.laidOut (by kernel_rfl) (of_decide_eq_true (by kernel_rfl)) k0 bel lt0) trodAll_mk0), rfl, bel.frame _, fun h => by cases h⟩

theorem closed : joinedFacts Try.pinned.checked.prog 3 Try.f3 Rows.fnAnswerInSpec Rows.fnAnswerInRow = true := by
  unfold joinedFacts
  exact (and_tt (and_tt (and_tt (and_tt (and_tt (and_tt (and_tt (and_tt (and_tt (and_tt (and_tt (and_tt (and_tt (and_tt (and_tt (and_tt (and_tt (and_tt (and_tt (and_tt (and_tt (and_tt (and_tt (and_tt (and_tt (and_tt (and_tt (and_tt (and_tt (and_tt (and_tt (by kernel_rfl) (by kernel_rfl)) (by kernel_rfl)) (by kernel_rfl)) (by kernel_rfl)) (by kernel_rfl)) (by kernel_rfl)) (by kernel_rfl)) (by kernel_rfl)) (by kernel_rfl)) (by kernel_rfl)) (by kernel_rfl)) (by kernel_rfl)) (by kernel_rfl)) (by kernel_rfl)) (by kernel_rfl)) (by kernel_rfl)) (by kernel_rfl)) (by kernel_rfl)) (by kernel_rfl)) (by kernel_rfl)) (by kernel_rfl)) (by kernel_rfl)) (by kernel_rfl)) (by kernel_rfl)) Try.mayEnter0) (lifted_tt Try.lifts0 rfl)) (make_tt Try.make0 rfl)) (by kernel_rfl)) (by kernel_rfl)) (by kernel_rfl)) (by kernel_rfl))
theorem over : Rows.fnAnswerInRow.holds Try.pinned (OpenSpec.ofChange Rows.fnAnswerInSpec) :=
  OpenClaim.holds_of_wide 3 Try.f3 rfl rfl rfl rfl rfl rfl rfl ⟨rfl, rfl, rfl, rfl, rfl⟩ rfl rfl rfl rfl rfl (by kernel_rfl) Try.func3 closed
    (of_decide_eq_true (by kernel_rfl)) (by unfold Func.isWrapper; first | (rw [if_pos (by decide +kernel)]; kernel_rfl) | (rw [if_neg (by decide +kernel)]; exact ⟨rfl, rfl⟩))
    (fun os started H enc _ => lifted os started H enc)

theorem proved : Rows.FnAnswerInSaid := over
end Go.Proofs.Ytemldnjpcnogpaa.fnAnswerIn

