/- A law of stage 13: where tellers are more, somebody becomes known. It answers true, whatever the code. No condition. -/
import Derived.Test.YtbnickgjnglblaaDoorMerged9
import Derived.Test.YtbnickgjnglblaaDoorMerged14
import Derived.Test.YtbnickgjnglblaaDoorMerged10
import Derived.Test.YtbnickgjnglblaaDoorMerged2
import Derived.Deep.RegionHeld3
import Derived.Deep.Cut
namespace Go.Proofs.YtbnickgjnglblaaDoor.fnLeastAsks
open Go.ChangeShapes Go.WideShapes Go.ChangeAt Go.RowKit Go.Joins
attribute [local irreducible] heads turned tabOf wl tow opt tabF majN telB telN askN solB lv firstN majV ktV askV leastV ansN lessN holds tmOf mayT mcells nums
open Go.ChangeMaps (open_string shut_string)
set_option linter.unusedVariables false
set_option maxRecDepth 100000 in
set_option maxHeartbeats 8000000 in
theorem walk (a0 : Value) (n0 : Nat) (w : World) (w0 : RdBytes w w.heap.size a0 n0) (hZ : TabZ w) :
    Calls Tryd.prog 4 #[a0] w fun e w' => e = .returned (.bool true) ∧ Below w.heap.size w w' := by
  have Hzw := Lib.hid hZ
  clear hZ
  have hr := w0
  by_cases hbig : n0 ≤ 1048576
  case neg =>
    obtain ⟨ao, cap, rfl, hl, hm, hc⟩ := w0
    have hbig' := code_big hbig
    unfold maxLen at hm
    clear hc hr hbig
    go_enter Tryd.func4, Tryd.ntmps4
    go_wp2
    go_ret
    exact ⟨rfl, Below.refl _ _⟩
  have hbig' : (n0 : Int) ≤ 1048576 := by omega
  clear hbig
  obtain ⟨ao, cap, rfl, hl, hm, hc⟩ := w0
  have Hr := Lib.hid hr
  clear hc hr hl hm
  go_enter Tryd.func4, Tryd.ntmps4
  go_wp2_with fail
  refine (drawLeastAsks _ _ _ Hr.out).mono ?_
  rintro e w1 ⟨p, t, ⟨hp1, hp8, ht0, ht1⟩, rfl, hB1⟩
  have him := fun w (hz : TabZ w) => implLeastAsks p t w hz
  have hsm := fun w => specLeastAsks p t w
  have hto := fun w => specTableOk p t w
  cases htok : tOk p t with
  | false =>
    rw [leastV_no htok] at him hsm
    rw [htok] at hto
    have Him := Lib.hid him
    have Hsm := Lib.hid hsm
    have Hto := Lib.hid hto
    clear him hsm hto htok ht0 ht1
    go_wp2_with fail
    refine (Him.out _ (by first | exact Hzw.out | exact Hzw.out.below (by assumption) | exact Hzw.out.below HB7.out | exact Hzw.out.below (below_drewN (Below.refl _ _) _))).mono ?_
    rintro e w2 ⟨rfl, hb2⟩
    have hB2 : Below w.heap.size w w2 := hB1.trans (hb2.mono hB1.size)
    clear hb2
    go_wp2_with fail
    refine (Hsm.out _).mono ?_
    rintro e w' ⟨rfl, nd, rfl⟩
    have hB3 : Below w.heap.size w (w2.drewN nd) := below_drewN hB2 nd
    go_wp2_with fail
    refine (Hto.out _).mono ?_
    rintro e w' ⟨rfl, rfl⟩
    go_wp2_with fail
    refine (alive _).mono ?_
    rintro e w' ⟨rfl, rfl⟩
    go_wp2
    go_ret
    exact ⟨rfl, hB3⟩

  | true =>
  obtain ⟨P, T, rfl, rfl, h1, h4, hT, hT6⟩ := tOk_parts htok
  have hk := fun w (hz : TabZ w) => implKnownTeller (P : Int) (T : Int) w hz
  have hma := fun w => implMajority (P : Int) w
  have hop := fun w => implOppositeTable (P : Int) (T : Int) w
  rw [majV_yes h1 h4] at hma
  rw [opt_yes htok, Int.toNat_natCast] at hop
  rw [least_parts htok] at him hsm
  rw [htok] at hto
  have hms := maj_small P h4
  have hus : turned T (2 ^ P) (2 ^ P) < 65536 := by have := turned_small (p := (P : Int)) (T := T) (by omega) (by omega); rwa [Int.toNat_natCast] at this
  obtain ⟨hn0, hnP, hz, hmaj, hown⟩ := least_law h1 h4 hT
  generalize lv P P T = n at *
  generalize ktV (P : Int) (T : Int) = k at *
  generalize majN P = M at *
  generalize turned T (2 ^ P) (2 ^ P) = U at *
  have hand := bits_andNot13 T M (by omega) (by omega)
  generalize T ^^^ (T &&& M) = A at *
  have Him := Lib.hid him
  have Hsm := Lib.hid hsm
  have Hto := Lib.hid hto
  have Hk := Lib.hid hk
  have Hma := Lib.hid hma
  have Hop := Lib.hid hop
  have Hz := Lib.hid hz
  have Hmaj := Lib.hid hmaj
  have Hown := Lib.hid hown
  clear him hsm hto hk hma hop htok hT hz hmaj hown ht0 ht1 hus
  have hnP' : ¬ (P : Int) ≤ n := by omega
  have hP0 : 0 < P := by omega
  by_cases hT0 : T = 0
  · have hn : n = 0 := Hz.out.2 (.inl hT0)
    subst hT0
    subst hn
    have hand0 : bits BinOp.andNot IntKind.i64 0 (M : Int) = 0 := by
      have h := bits_andNot13 0 M (by decide) (by omega)
      simpa using h
    clear hand hms
    go_wp2_with fail
    refine (Him.out _ (by first | exact Hzw.out | exact Hzw.out.below (by assumption) | exact Hzw.out.below HB7.out | exact Hzw.out.below (below_drewN (Below.refl _ _) _))).mono ?_
    rintro e w2 ⟨rfl, hb2⟩
    have hB2 : Below w.heap.size w w2 := hB1.trans (hb2.mono hB1.size)
    clear hb2
    go_wp2_with fail
    refine (Hsm.out _).mono ?_
    rintro e w' ⟨rfl, nd, rfl⟩
    have hB3 : Below w.heap.size w (w2.drewN nd) := below_drewN hB2 nd
    go_wp2_with fail
    refine (Hto.out _).mono ?_
    rintro e w' ⟨rfl, rfl⟩
    go_wp2_with fail
    refine (Hma.out _).mono ?_
    rintro e w4 ⟨rfl, hb4⟩
    have hB4 : Below w.heap.size w w4 := hB3.trans (hb4.mono hB3.size)
    clear hb4
    go_wp2
    go_ret
    exact ⟨rfl, hB4⟩

  clear hms
  have hTe : ((T : Int) == 0) = false := by rw [beq_eq_false_iff_ne]; omega
  have hA : (((A : Nat) : Int) == 0) = true → 0 ≤ n := fun h => Hmaj.out (by rw [beq_iff_eq] at h; omega)
  by_cases hk0 : 0 ≤ k
  · have hn : n = 0 := Hz.out.2 (.inr hk0)
    subst hn
    have hUT : ((U : Int) != (T : Int)) = true := by
      rw [bne_iff_ne]
      intro h
      have := Hown.out hT0 (by omega)
      omega
    clear hT0 hA
    generalize hAe : (((A : Nat) : Int) == 0) = ae at *
    go_wp2_with fail
    refine (Him.out _ (by first | exact Hzw.out | exact Hzw.out.below (by assumption) | exact Hzw.out.below HB7.out | exact Hzw.out.below (below_drewN (Below.refl _ _) _))).mono ?_
    rintro e w2 ⟨rfl, hb2⟩
    have hB2 : Below w.heap.size w w2 := hB1.trans (hb2.mono hB1.size)
    clear hb2
    go_wp2_with fail
    refine (Hsm.out _).mono ?_
    rintro e w' ⟨rfl, nd, rfl⟩
    have hB3 : Below w.heap.size w (w2.drewN nd) := below_drewN hB2 nd
    go_wp2_with fail
    refine (Hto.out _).mono ?_
    rintro e w' ⟨rfl, rfl⟩
    go_wp2_with fail
    refine (Hk.out _ (by first | exact Hzw.out | exact Hzw.out.below (by assumption) | exact Hzw.out.below HB7.out | exact Hzw.out.below (below_drewN (Below.refl _ _) _))).mono ?_
    rintro e w4 ⟨rfl, hb4⟩
    have hB4 : Below w.heap.size w w4 := hB3.trans (hb4.mono hB3.size)
    clear hb4
    go_wp2_with fail
    refine (Hma.out _).mono ?_
    rintro e w5 ⟨rfl, hb5⟩
    have hB5 : Below w.heap.size w w5 := hB4.trans (hb5.mono hB4.size)
    clear hb5
    cases ae
    all_goals
      go_wp2_with fail
      refine (Hop.out _).mono ?_
      rintro e w6 ⟨rfl, hb6⟩
      have hB6 : Below w.heap.size w w6 := hB5.trans (hb6.mono hB5.size)
      clear hb6
      go_wp2
      go_ret
      exact ⟨rfl, hB6⟩

  have hn : n ≠ 0 := fun h => by
    rcases Hz.out.1 h with h | h
    · exact hT0 h
    · exact hk0 h
  have hne : (n == 0) = false := by rw [beq_eq_false_iff_ne]; exact hn
  have hk1 : k < 0 := by omega
  have HA := Lib.hid hA
  have HT0 := Lib.hid hT0
  clear hA hT0 hn hk0
  go_wp2_with fail
  refine (Him.out _ (by first | exact Hzw.out | exact Hzw.out.below (by assumption) | exact Hzw.out.below HB7.out | exact Hzw.out.below (below_drewN (Below.refl _ _) _))).mono ?_
  rintro e w2 ⟨rfl, hb2⟩
  have hB2 : Below w.heap.size w w2 := hB1.trans (hb2.mono hB1.size)
  clear hb2
  go_wp2_with fail
  refine (Hsm.out _).mono ?_
  rintro e w' ⟨rfl, nd, rfl⟩
  have hB3 : Below w.heap.size w (w2.drewN nd) := below_drewN hB2 nd
  go_wp2_with fail
  refine (Hto.out _).mono ?_
  rintro e w' ⟨rfl, rfl⟩
  go_wp2_with fail
  refine (Hk.out _ (by first | exact Hzw.out | exact Hzw.out.below (by assumption) | exact Hzw.out.below HB7.out | exact Hzw.out.below (below_drewN (Below.refl _ _) _))).mono ?_
  rintro e w4 ⟨rfl, hb4⟩
  have hB4 : Below w.heap.size w w4 := hB3.trans (hb4.mono hB3.size)
  clear hb4
  go_wp2_with fail
  refine (Hma.out _).mono ?_
  rintro e w5 ⟨rfl, hb5⟩
  have hB5 : Below w.heap.size w w5 := hB4.trans (hb5.mono hB4.size)
  clear hb5
  have hA2 := HA.out
  cases hAe : (((A : Nat) : Int) == 0) with
  | true =>
    have hge := hA2 hAe
    have hnn : ¬ n < 0 := by omega
    have hUT : ((U : Int) != (T : Int)) = true := by
      rw [bne_iff_ne]
      intro h
      have := Hown.out HT0.out (by omega)
      omega
    clear hA2
    go_wp2_with fail
    refine (Hop.out _).mono ?_
    rintro e w6 ⟨rfl, hb6⟩
    have hB6 : Below w.heap.size w w6 := hB5.trans (hb6.mono hB5.size)
    clear hb6
    go_wp2
    go_ret
    exact ⟨rfl, hB6⟩

  | false =>
    clear hA2
    by_cases hUT0 : U = T
    · have hn1 := Hown.out HT0.out hUT0
      subst hn1
      have hUT : ((U : Int) != (T : Int)) = false := by rw [bne_eq_false_iff_eq]; omega
      clear hUT0
      go_wp2_with fail
      refine (Hop.out _).mono ?_
      rintro e w6 ⟨rfl, hb6⟩
      have hB6 : Below w.heap.size w w6 := hB5.trans (hb6.mono hB5.size)
      clear hb6
      go_wp2
      go_ret
      exact ⟨rfl, hB6⟩

    · have hUT : ((U : Int) != (T : Int)) = true := by rw [bne_iff_ne]; omega
      clear hUT0
      go_wp2_with fail
      refine (Hop.out _).mono ?_
      rintro e w6 ⟨rfl, hb6⟩
      have hB6 : Below w.heap.size w w6 := hB5.trans (hb6.mono hB5.size)
      clear hb6
      go_wp2
      go_ret
      exact ⟨rfl, hB6⟩

set_option maxRecDepth 100000 in
theorem lifted (os : Os) (started : os.Started) (H : Type) (enc : TypeId × Value → H) :
    ReturnsInHanded {} Tryd.checked os 4 .any (fun w args => (Rows.fnLeastAsksSpec.pre enc Tryd.prog Tryd.f4 Rows.fnLeastAsksRow.domain false w args ∧ laidMet Tryd.prog tabsZ w) ∧ sizedMet enc Tryd.prog Tryd.f4 (OpenSpec.ofChange Rows.fnLeastAsksSpec) false w args) (Rows.fnLeastAsksSpec.post enc Tryd.prog Tryd.f4 false true false false) := by
  refine returnsInHanded_of_change_and (C := Tryd.checked) (X := fun w _ => laidMet Tryd.prog tabsZ w) (fun _ _ _ hh h => h.of_heap hh) Tryd.own started (by kernel_rfl) Tryd.func4
    (ChangeSpec.witness_at (enc := enc) (C := Tryd.checked) (os := os) (X := fun w _ => laidMet Tryd.prog tabsZ w) false (laidWorldZ os) #[.slice none 0 0] 8 rfl (by kernel_rfl) (by kernel_rfl) (by kernel_rfl) (by kernel_rfl) (by kernel_rfl) (laidWorldZ_met os _)) ?_
  intro W base args ds gs before hval0 hW hcnd _ hL _
  have hval : ∀ (j : Nat) t v, Tryd.f4.params[j]? = some t → args[j]? = some v → Value.okWide Tryd.prog W .any base t v := hval0
  have hW' := hW
  obtain ⟨p, q, hA0, hV, rfl, hfz, hnd⟩ := hW
  have hA : DataW.TrodAll enc Tryd.prog W 0 (fun _ => true) true Tryd.f4.params.toList args.toList ds p := hA0
  rw [Tryd.params4] at hA hval
  obtain ⟨v0, vs0, d0, ds0, p0, q0, hargs, rfl, rfl, h0, r0⟩ := trodAll_cons hA
  obtain ⟨rfl, rfl, rfl⟩ := trodAll_nil r0
  obtain rfl : args = #[v0] := by cases args; simp_all
  obtain ⟨rfl, rfl⟩ := trodVars_none hV
  obtain ⟨a0, len0, cap0, rfl⟩ := okWide_slice Tryd.underlying22 (hval 0 22 v0 rfl rfl)
  have k0 := h0
  have lt0 : ∀ x ∈ p0, x.block < W.heap.size := by obtain ⟨m, hm⟩ := k0; exact DataW.trod_lt m _ _ _ hm
  obtain ⟨z0, w0⟩ : ∃ zs, IsRow .u8 W a0 len0 cap0 zs := by
    obtain ⟨fuel, hf⟩ := h0
    rcases open_ints Tryd.underlying22 Tryd.underlying5 (by kernel_rfl) hf with ⟨hcs, _⟩ | ⟨x, l, c, zs, hcs, _, hl, hm, hz, _, hcell, hwz⟩
    · simp [Value.cells] at hcs
      obtain ⟨rfl, rfl, rfl⟩ := hcs
      exact ⟨[], .inl ⟨rfl, rfl, rfl, rfl⟩⟩
    · simp [Value.cells] at hcs
      obtain ⟨rfl, rfl, rfl⟩ := hcs
      exact ⟨zs, .inr ⟨_, rfl, hl, hm, by simpa using hz, hcell, hwz⟩⟩
  clear hA0 hval0
  refine (walk _ _ W (RdBytes.of_row w0) (tabZ_of_laid hL)).mono fun e W' ⟨he, bel⟩ => ?_
  subst he
  exact ⟨_, rfl, _, _, _, [], _, [], hW', trodAll_mk1 (shut_bool Tryd.underlying4 _), (trodAll_cons_mk (Below.trod Tryd.laidOut (by kernel_rfl) (of_decide_eq_true (by kernel_rfl)) k0 bel lt0) trodAll_mk0), rfl, bel.frame _, fun h => by cases h⟩

theorem closed : joinedFacts Tryd.pinned.checked.prog 4 Tryd.f4 Rows.fnLeastAsksSpec Rows.fnLeastAsksRow = true := by
  unfold joinedFacts
  exact (and_tt (and_tt (and_tt (and_tt (and_tt (and_tt (and_tt (and_tt (and_tt (and_tt (and_tt (and_tt (and_tt (and_tt (and_tt (and_tt (and_tt (and_tt (and_tt (and_tt (and_tt (and_tt (and_tt (and_tt (and_tt (and_tt (and_tt (and_tt (and_tt (and_tt (and_tt (by kernel_rfl) (by kernel_rfl)) (by kernel_rfl)) (by kernel_rfl)) (by kernel_rfl)) (by kernel_rfl)) (by kernel_rfl)) (by kernel_rfl)) (by kernel_rfl)) (by kernel_rfl)) (by kernel_rfl)) (by kernel_rfl)) (by kernel_rfl)) (by kernel_rfl)) (by kernel_rfl)) (by kernel_rfl)) (by kernel_rfl)) (by kernel_rfl)) (by kernel_rfl)) (by kernel_rfl)) (by kernel_rfl)) (by kernel_rfl)) (by kernel_rfl)) (by kernel_rfl)) (by kernel_rfl)) Tryd.mayEnter0) (lifted_tt Tryd.lifts0 rfl)) (make_tt Tryd.make0 rfl)) (by kernel_rfl)) (by kernel_rfl)) (by kernel_rfl)) (by kernel_rfl))
theorem over : Rows.fnLeastAsksRow.holds Tryd.pinned (OpenSpec.ofChange Rows.fnLeastAsksSpec) :=
  OpenClaim.holds_of_wide 4 Tryd.f4 rfl rfl rfl rfl rfl rfl rfl ⟨rfl, rfl, rfl, rfl, rfl⟩ rfl rfl rfl rfl rfl (by kernel_rfl) Tryd.func4 closed
    (of_decide_eq_true (by kernel_rfl)) (by unfold Func.isWrapper; first | (rw [if_pos (by decide +kernel)]; kernel_rfl) | (rw [if_neg (by decide +kernel)]; exact ⟨rfl, rfl⟩))
    (fun os started H enc _ => lifted os started H enc)

theorem proved : Rows.FnLeastAsksCardSaid :=
  Claim7.holds_tied_plain_at .later [] [.data, .data] true Rows.fnLeastAsksCard.stood.harness false
    over (fun _ h => by cases h) (by kernel_rfl) (fun _ h => by cases h) fnLeastAsks_row_tie rfl ⟨rfl, rfl⟩ (by kernel_rfl) rfl
    (fun f fn hf hfn => by
      obtain rfl : f = 4 := Option.some.inj ((show Tryd.prog.funcNamed "loop.example/tellersandliars/laws.FnLeastAsks" = some 4 by kernel_rfl).symm.trans hf) |>.symm
      obtain rfl : fn = Tryd.f4 := (Option.some.inj (Tryd.func4.symm.trans hfn)).symm
      exact ⟨by kernel_rfl, fun j t ht => by
        rw [Tryd.params4] at ht
        have h3 : t = 22 := by
          rcases j with _ | j
          · simpa using ht.symm
          · simp at ht
        subst h3
        exact (show Tryd.prog.wantsStandIn 22 = false by kernel_rfl)⟩)
    (by kernel_rfl)
end Go.Proofs.YtbnickgjnglblaaDoor.fnLeastAsks
