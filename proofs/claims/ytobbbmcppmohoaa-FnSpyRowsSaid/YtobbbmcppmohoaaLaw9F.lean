/- A law of stage 9: rows are counted by their spies. It answers true, whatever the code. No condition. -/
import Derived.Test.YtobbbmcppmohoaaDrawKi
import Derived.Test.YtobbbmcppmohoaaSpyI
import Derived.Test.YtobbbmcppmohoaaSpyN
import Derived.Test.YtobbbmcppmohoaaClaimI
import Derived.Test.YtobbbmcppmohoaaLawsA
import Derived.Deep.RegionHeld3
import Derived.Deep.Cut
import Derived.Test.YtobbbmcppmohoaaTables
namespace Go.Proofs.Ytobbbmcppmohoaa.fnSpyRows
open Go.ChangeShapes Go.WideShapes Go.ChangeAt Go.RowKit Go.Joins
attribute [local irreducible] holds tabN tabV holdsV sameV followsV alwaysV matterV mirV mirOk mcells tmOf claimOk mayT mayV ctabV ctabN storyV storyOk storyN storyT ctermV ctermL denyV denyOk ccells clashV onlyOk onlyN knownF knownL knownK cntK swl saysT saysV spyT spyV kindsOk kwN kwV tabF kRow spiesN fewF rowsF fewV rowsV needB needF needL leastR leastV woL
open Go.ChangeMaps (open_string shut_string)
set_option linter.unusedVariables false
set_option maxRecDepth 100000 in
set_option maxHeartbeats 8000000 in
theorem walk (a0 : Value) (n0 : Nat) (w : World) (w0 : RdBytes w w.heap.size a0 n0) :
    Calls Try.prog 8 #[a0] w fun e w' => e = .returned (.bool true) ∧ Below w.heap.size w w' := by
  have hr := w0
  by_cases hbig : n0 ≤ 1048576
  case neg =>
    obtain ⟨ao, cap, rfl, hl, hm, hc⟩ := w0
    have hbig' := code_big hbig
    unfold maxLen at hm
    clear hc hr hbig
    go_enter Try.func8, Try.ntmps8
    go_wp2
    go_ret
    exact ⟨rfl, Below.refl _ _⟩
  have hbig' : (n0 : Int) ≤ 1048576 := by omega
  clear hbig
  obtain ⟨ao, cap, rfl, hl, hm, hc⟩ := w0
  have Hr := Lib.hid hr
  clear hc hr hl hm
  go_enter Try.func8, Try.ntmps8
  go_wp2_with fail
  refine (drawSpyRows _ _ _ Hr.out).mono ?_
  rintro e w1 ⟨p, v, x, qs, hp1, hp4, rfl, hst, hqs, hq7, hx0, hx20, hB1⟩
  have HS1 := Lib.hid hst
  obtain ⟨vo, vc, hvf⟩ := own_len hst.1
  subst hvf
  clear hst
  have HQ_1 := HS1
  have hir := fun B u W h h2 => implSpyRows p x qs B u W h h2
  have hsr := fun B u W h h2 => specSpyRows p x qs B u W h h2
  rcases rows_law9 (p := p) (q := x) (s := qs.map (·.2)) with hV | ⟨R, f, hR, hq0, hqp, hP1, hP4, hf, h0, h1, hlt, heq⟩
  · rw [hV] at hir hsr
    have Hir := Lib.hid hir
    have Hsr := Lib.hid hsr
    clear hir hsr hV
    go_wp2_with fail
    refine (Hir.out _ _ _ HQ_1.out.rd (Nat.le_refl _)).mono ?_
    rintro e w2 ⟨rfl, hb2⟩
    have HQ_2 := Lib.hid (HQ_1.out.below hb2)
    have hs2 := hb2.size
    have hB2 : Below w.heap.size w w2 := hB1.trans (hb2.mono hB1.size)
    clear hb2
    go_wp2_with fail
    refine (Hsr.out _ _ _ HQ_2.out.rd (Nat.le_refl _)).mono ?_
    rintro e w3 ⟨rfl, hb3⟩
    have HQ_3 := Lib.hid (HQ_2.out.below hb3)
    have hs3 := hb3.size
    have hB3 : Below w.heap.size w w3 := hB2.trans (hb3.mono hB2.size)
    clear hb3
    go_wp2_with fail
    refine (alive _).mono ?_
    rintro e w' ⟨rfl, rfl⟩
    go_wp2
    go_ret
    exact ⟨rfl, hB3⟩
  · have hif := fun B u W h h2 => implFewestSpies p qs B u W h h2
    have hst := fun B u W h h2 => implStoryTable p qs B u W h h2
    have hi0 := fun B u W h h2 => implSpyRows p 0 qs B u W h h2
    have hip := fun B u W h h2 => implSpyRows p p qs B u W h h2
    rw [hR] at hir hsr
    rw [hf] at hif
    rw [h0] at hi0
    rw [h1] at hip
    have Hsw := Lib.hid (congrArg List.length (swl_wlp9 p (qs.map (·.2))))
    have hsl := swl_len p (qs.map (·.2))
    generalize storyV p (qs.map (·.2)) = ST at *
    generalize (swl p (qs.map (·.2))).length = SL at *
    have Hwi := Lib.hid (fun w => implWorldsIn p ST w)
    have Hir := Lib.hid hir
    have Hsr := Lib.hid hsr
    have Hif := Lib.hid hif
    have Hst := Lib.hid hst
    have Hi0 := Lib.hid hi0
    have Hip := Lib.hid hip
    clear hir hsr hif hst hi0 hip hR hf h0 h1
    have hRn : ¬ ((R : Int) < 0) := by omega
    go_wp2_with fail
    refine (Hir.out _ _ _ HQ_1.out.rd (Nat.le_refl _)).mono ?_
    rintro e w2 ⟨rfl, hb2⟩
    have HQ_2 := Lib.hid (HQ_1.out.below hb2)
    have hs2 := hb2.size
    have hB2 : Below w.heap.size w w2 := hB1.trans (hb2.mono hB1.size)
    clear hb2
    go_wp2_with fail
    refine (Hsr.out _ _ _ HQ_2.out.rd (Nat.le_refl _)).mono ?_
    rintro e w3 ⟨rfl, hb3⟩
    have HQ_3 := Lib.hid (HQ_2.out.below hb3)
    have hs3 := hb3.size
    have hB3 : Below w.heap.size w w3 := hB2.trans (hb3.mono hB2.size)
    clear hb3
    go_wp2_with fail
    refine (Hif.out _ _ _ HQ_3.out.rd (Nat.le_refl _)).mono ?_
    rintro e w4 ⟨rfl, hb4⟩
    have HQ_4 := Lib.hid (HQ_3.out.below hb4)
    have hs4 := hb4.size
    have hB4 : Below w.heap.size w w4 := hB3.trans (hb4.mono hB3.size)
    clear hb4
    go_wp2_with fail
    refine (Hst.out _ _ _ HQ_4.out.rd (Nat.le_refl _)).mono ?_
    rintro e w5 ⟨rfl, hb5⟩
    have HQ_5 := Lib.hid (HQ_4.out.below hb5)
    have hs5 := hb5.size
    have hB5 : Below w.heap.size w w5 := hB4.trans (hb5.mono hB4.size)
    clear hb5
    go_wp2_with fail
    refine (Hwi.out _).mono ?_
    rintro e w6 ⟨vw, rfl, how, hb6⟩
    rw [Hsw.out] at how
    obtain ⟨aw, cw, hvw⟩ := own_len how
    subst hvw
    clear how
    have HQ_6 := Lib.hid (HQ_5.out.below hb6)
    have hs6 := hb6.size
    have hB6 : Below w.heap.size w w6 := hB5.trans (hb6.mono hB5.size)
    clear hb6
    go_wp2_with fail
    refine (Hi0.out _ _ _ HQ_6.out.rd (Nat.le_refl _)).mono ?_
    rintro e w7 ⟨rfl, hb7⟩
    have HQ_7 := Lib.hid (HQ_6.out.below hb7)
    have hs7 := hb7.size
    have hB7 : Below w.heap.size w w7 := hB6.trans (hb7.mono hB6.size)
    clear hb7
    go_wp2_with fail
    refine (Hip.out _ _ _ HQ_7.out.rd (Nat.le_refl _)).mono ?_
    rintro e w8 ⟨rfl, hb8⟩
    have hs8 := hb8.size
    have hB8 : Below w.heap.size w w8 := hB7.trans (hb8.mono hB7.size)
    clear hb8
    by_cases hxf : x < f
    · have hR0 := hlt hxf
      subst hR0
      have hxf2 : ¬ (f : Int) ≤ x := by omega
      have hxf3 : (x != (f : Int)) = true := by rw [bne_iff_ne]; omega
      have hxf4 : (x == (f : Int)) = false := by rw [beq_eq_false_iff_ne]; omega
      clear hlt heq
      go_wp2
      go_ret
      exact ⟨rfl, hB8⟩
    · by_cases hxe : x = f
      · have hR0 := heq hxe
        subst hxe
        clear hlt heq hxf
        go_wp2
        go_ret
        exact ⟨rfl, hB8⟩
      · have hxf2 : (f : Int) ≤ x := by omega
        have hxf3 : (x != (f : Int)) = true := by rw [bne_iff_ne]; omega
        have hxf4 : (x == (f : Int)) = false := by rw [beq_eq_false_iff_ne]; omega
        clear hlt heq
        go_wp2
        go_ret
        exact ⟨rfl, hB8⟩

set_option maxRecDepth 100000 in
theorem lifted (os : Os) (started : os.Started) (H : Type) (enc : TypeId × Value → H) :
    ReturnsInHanded {} Try.checked os 8 .any (Rows.fnSpyRowsSpec.pre6 enc Try.prog Try.f8 Rows.fnSpyRowsRow.domain false) (Rows.fnSpyRowsSpec.post enc Try.prog Try.f8 false true false false) := by
  refine returnsInHanded_of_change (C := Try.checked) Try.own started (by kernel_rfl) Try.func8
    (ChangeSpec.witness6 (enc := enc) (C := Try.checked) false ⟨#[], #[.slice none 0 0], []⟩ 8 (by kernel_rfl) (by kernel_rfl) (by kernel_rfl) (by kernel_rfl)) ?_
  intro W base args ds gs before hval0 hW hcnd _
  have hval : ∀ (j : Nat) t v, Try.f8.params[j]? = some t → args[j]? = some v → Value.okWide Try.prog W .any base t v := hval0
  have hW' := hW
  obtain ⟨p, q, hA0, hV, rfl, hfz, hnd⟩ := hW
  have hA : DataW.TrodAll enc Try.prog W 0 (fun _ => true) true Try.f8.params.toList args.toList ds p := hA0
  rw [Try.params8] at hA hval
  obtain ⟨v0, vs0, d0, ds0, p0, q0, hargs, rfl, rfl, h0, r0⟩ := trodAll_cons hA
  obtain ⟨rfl, rfl, rfl⟩ := trodAll_nil r0
  obtain rfl : args = #[v0] := by cases args; simp_all
  obtain ⟨rfl, rfl⟩ := trodVars_none hV
  obtain ⟨a0, len0, cap0, rfl⟩ := okWide_slice Try.underlying22 (hval 0 22 v0 rfl rfl)
  have k0 := h0
  have lt0 : ∀ x ∈ p0, x.block < W.heap.size := by obtain ⟨m, hm⟩ := k0; exact DataW.trod_lt m _ _ _ hm
  obtain ⟨z0, w0⟩ : ∃ zs, IsRow .u8 W a0 len0 cap0 zs := by
    obtain ⟨fuel, hf⟩ := h0
    rcases open_ints Try.underlying22 Try.underlying5 (by kernel_rfl) hf with ⟨hcs, _⟩ | ⟨x, l, c, zs, hcs, _, hl, hm, hz, _, hcell, hwz⟩
    · simp [Value.cells] at hcs
      obtain ⟨rfl, rfl, rfl⟩ := hcs
      exact ⟨[], .inl ⟨rfl, rfl, rfl, rfl⟩⟩
    · simp [Value.cells] at hcs
      obtain ⟨rfl, rfl, rfl⟩ := hcs
      exact ⟨zs, .inr ⟨_, rfl, hl, hm, by simpa using hz, hcell, hwz⟩⟩
  clear hA0 hval0
  refine (walk _ _ W (RdBytes.of_row w0)).mono fun e W' ⟨he, bel⟩ => ?_
  subst he
  exact ⟨_, rfl, _, _, _, [], _, [], hW', trodAll_mk1 (shut_bool Try.underlying4 _), (trodAll_cons_mk (Below.trod Try.laidOut (by kernel_rfl) (of_decide_eq_true (by kernel_rfl)) k0 bel lt0) trodAll_mk0), rfl, bel.frame _, fun h => by cases h⟩

theorem closed : joinedFacts Try.pinned.checked.prog 8 Try.f8 Rows.fnSpyRowsSpec Rows.fnSpyRowsRow = true := by
  unfold joinedFacts
  exact (and_tt (and_tt (and_tt (and_tt (and_tt (and_tt (and_tt (and_tt (and_tt (and_tt (and_tt (and_tt (and_tt (and_tt (and_tt (and_tt (and_tt (and_tt (and_tt (and_tt (and_tt (and_tt (and_tt (and_tt (and_tt (and_tt (and_tt (and_tt (and_tt (and_tt (and_tt (by kernel_rfl) (by kernel_rfl)) (by kernel_rfl)) (by kernel_rfl)) (by kernel_rfl)) (by kernel_rfl)) (by kernel_rfl)) (by kernel_rfl)) (by kernel_rfl)) (by kernel_rfl)) (by kernel_rfl)) (by kernel_rfl)) (by kernel_rfl)) (by kernel_rfl)) (by kernel_rfl)) (by kernel_rfl)) (by kernel_rfl)) (by kernel_rfl)) (by kernel_rfl)) (by kernel_rfl)) (by kernel_rfl)) (by kernel_rfl)) (by kernel_rfl)) (by kernel_rfl)) (by kernel_rfl)) Try.mayEnter0) (lifted_tt Try.lifts0 rfl)) (make_tt Try.make0 rfl)) (by kernel_rfl)) (by kernel_rfl)) (by kernel_rfl)) (by kernel_rfl))
theorem over : Rows.fnSpyRowsRow.holds Try.pinned (OpenSpec.ofChange Rows.fnSpyRowsSpec) :=
  OpenClaim.holds_of_wide 8 Try.f8 rfl rfl rfl rfl rfl rfl rfl ⟨rfl, rfl, rfl, rfl, rfl⟩ rfl rfl rfl rfl rfl (by kernel_rfl) Try.func8 closed
    (of_decide_eq_true (by kernel_rfl)) (by unfold Func.isWrapper; first | (rw [if_pos (by decide +kernel)]; kernel_rfl) | (rw [if_neg (by decide +kernel)]; exact ⟨rfl, rfl⟩))
    (fun os started H enc _ => lifted os started H enc)

theorem proved : Rows.FnSpyRowsSaid := over
end Go.Proofs.Ytobbbmcppmohoaa.fnSpyRows

