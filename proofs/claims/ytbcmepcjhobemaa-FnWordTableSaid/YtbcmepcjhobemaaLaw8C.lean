/- A law of stage 8: words are equivalences of three. It answers true, whatever the code. No condition. -/
import Derived.Test.YtbcmepcjhobemaaDrawStr
import Derived.Test.YtbcmepcjhobemaaStrI
import Derived.Test.YtbcmepcjhobemaaAskI
import Derived.Test.YtbcmepcjhobemaaTruthI
import Derived.Test.YtbcmepcjhobemaaLawsA
import Derived.Deep.RegionHeld3
import Derived.Deep.Cut
namespace Go.Proofs.Ytbcmepcjhobemaa
open Go.RowKit Go.Joins
theorem str_len8b (p k : Int) (ms : List (Int × Int)) : (strV p k ms).length ≤ 15 := by
  unfold strV
  cases h : strOk p k ms with
  | false => rw [if_neg (by simp)]; simp
  | true =>
    rw [if_pos rfl]
    exact (termOk_iff.1 (str_parts h).2.2.1).2.1
theorem I64s_strV8b {p k : Int} {ms : List (Int × Int)} (hi : I64s ms) : I64s (strV p k ms) := by
  unfold strV
  cases h : strOk p k ms with
  | false => rw [if_neg (by simp)]; intro m hm; simp at hm
  | true =>
    rw [if_pos rfl]
    obtain ⟨h1, h2, h3, h4⟩ := l8V_iff.1 (str_parts h).1
    exact I64s_str8 (I64_small (by omega) (by omega)) (I64_small (by omega) (by omega)) hi
theorem strV_no8 {p k : Int} {ms : List (Int × Int)} (h : strOk p k ms = false) : strV p k ms = [] := by unfold strV; rw [h]; rfl
theorem strV_yes8 {p k : Int} {ms : List (Int × Int)} (h : strOk p k ms = true) : strV p k ms = strL p k ms := by unfold strV; rw [h]; rfl
theorem wtab_cases8 {p k : Int} {ms : List (Int × Int)} : wtabV p k ms = -1 ∨ ∃ T : Nat, wtabV p k ms = (T : Int) ∧ T < 65536 ∧ tOk p (T : Int) = true ∧ (strOk p k ms = true → tabV p (strV p k ms) = (T : Int)) := by
  cases h : (l8V p k && termOk p ms) with
  | false => exact .inl (wtabV_no h)
  | true =>
    simp only [Bool.and_eq_true] at h
    obtain ⟨h8, ht⟩ := h
    obtain ⟨h2, h4, _, _⟩ := l8V_iff.1 h8
    have hlt : wtabN p k ms < 2 ^ 2 ^ p.toNat := tabF_lt _ _
    have hok : tOk p (wtabN p k ms : Int) = true := tOk_iff.2 ⟨by omega, h4, by omega, by exact_mod_cast hlt⟩
    exact .inr ⟨wtabN p k ms, wtabV_yes h8 ht, by have := (tOk_lt hok).2.2.2; omega, hok, fun hs => by rw [strV_yes8 hs]; exact str_table hs⟩
end Go.Proofs.Ytbcmepcjhobemaa
namespace Go.Proofs.Ytbcmepcjhobemaa.fnWordTable
open Go.ChangeShapes Go.WideShapes Go.ChangeAt Go.RowKit Go.Joins
attribute [local irreducible] holds tabN tabV holdsV sameV followsV alwaysV matterV mirV mirOk mcells tmOf claimOk mayT mayV ctabV ctabN storyV storyOk storyN storyT ctermV ctermL denyV denyOk ccells ansN inOk chainL chainOk chainV alikeV liesN matterN matters l8V wordT wordN strL strOk strV wtabN wtabV
open Go.ChangeMaps (open_string shut_string)
set_option linter.unusedVariables false
set_option maxRecDepth 100000 in
set_option maxHeartbeats 8000000 in
theorem walk (a0 : Value) (n0 : Nat) (w : World) (w0 : RdBytes w w.heap.size a0 n0) :
    Calls Try.prog 5 #[a0] w fun e w' => e = .returned (.bool true) ∧ Below w.heap.size w w' := by
  have hr := w0
  by_cases hbig : n0 ≤ 1048576
  case neg =>
    obtain ⟨ao, cap, rfl, hl, hm, hc⟩ := w0
    have hbig' := code_big hbig
    unfold maxLen at hm
    clear hc hr hbig
    go_enter Try.func5, Try.ntmps5
    go_wp2
    go_ret
    exact ⟨rfl, Below.refl _ _⟩
  have hbig' : (n0 : Int) ≤ 1048576 := by omega
  clear hbig
  obtain ⟨ao, cap, rfl, hl, hm, hc⟩ := w0
  have Hr := Lib.hid hr
  clear hc hr hl hm
  go_enter Try.func5, Try.ntmps5
  go_wp2_with fail
  refine (drawWordTable _ _ _ Hr.out).mono ?_
  rintro e w1 ⟨p, k, g, cp, ms, hp1, hp4, hk0, hk8, rfl, hown, hi, hn, hB1⟩
  have HO1 := Lib.hid hown
  have Hi := Lib.hid hi
  have HK : Hid (I64 k) := I64_small (by omega) (by omega)
  clear hown hi
  have him := fun B u W h h2 => implWordTable p k ms B u W h h2
  have hsp := fun B u W h h2 => specWordTable p k ms B u W h h2
  rcases wtab_cases8 (p := p) (k := k) (ms := ms) with hV | ⟨T, hV, hT, htok, htab⟩
  · rw [hV] at him hsp
    have Him := Lib.hid him
    have Hsp := Lib.hid hsp
    clear him hsp hV
    go_wp2_with fail
    refine (Him.out _ _ _ (RdMarks.of_own HO1.out Hi.out) (Nat.le_refl _)).mono ?_
    rintro e w2 ⟨rfl, hb2⟩
    have HO2 := Lib.hid (own_below HO1.out hb2)
    have hB2 : Below w.heap.size w w2 := hB1.trans (hb2.mono hB1.size)
    clear hb2 
    go_wp2_with fail
    refine (Hsp.out _ _ _ (RdMarks.of_own HO2.out Hi.out) (Nat.le_refl _)).mono ?_
    rintro e w3 ⟨rfl, hb3⟩
    have HO3 := Lib.hid (own_below HO2.out hb3)
    have hB3 : Below w.heap.size w w3 := hB2.trans (hb3.mono hB2.size)
    clear hb3 
    go_wp2_with fail
    refine (alive _).mono ?_
    rintro e w' ⟨rfl, rfl⟩
    go_wp2
    go_ret
    exact ⟨rfl, hB3⟩
  · rw [hV] at him hsp
    have Him := Lib.hid him
    have Hsp := Lib.hid hsp
    clear him hsp hV
    have hst := fun B u W h h2 => implStrangeTerm p k ms HK.out (by omega) B u W h h2
    have hto := fun w => implTableOk p (T : Int) w
    rw [htok] at hto
    have Hto := Lib.hid hto
    have hxl := str_len8b p k ms
    have Hxi := Lib.hid (I64s_strV8b (p := p) (k := k) Hi.out)
    generalize strV p k ms = xs at *
    generalize strOk p k ms = c at *
    have hta := fun B u W h h2 => implTableOf p xs B u W h h2
    generalize tabV p xs = TV at *
    have Hst := Lib.hid hst
    have Hta := Lib.hid hta
    clear hst hta hto htok
    have hTn : ¬ ((T : Int) < 0) := by omega
    have HT := Lib.hid hT
    clear hT
    go_wp2_with fail
    refine (Him.out _ _ _ (RdMarks.of_own HO1.out Hi.out) (Nat.le_refl _)).mono ?_
    rintro e w2 ⟨rfl, hb2⟩
    have HO2 := Lib.hid (own_below HO1.out hb2)
    have hB2 : Below w.heap.size w w2 := hB1.trans (hb2.mono hB1.size)
    clear hb2 
    go_wp2_with fail
    refine (Hsp.out _ _ _ (RdMarks.of_own HO2.out Hi.out) (Nat.le_refl _)).mono ?_
    rintro e w3 ⟨rfl, hb3⟩
    have HO3 := Lib.hid (own_below HO2.out hb3)
    have hB3 : Below w.heap.size w w3 := hB2.trans (hb3.mono hB2.size)
    clear hb3 
    go_wp2_with fail
    refine (Hst.out _ _ _ (RdMarks.of_own HO3.out Hi.out) (Nat.le_refl _)).mono ?_
    rintro e w4 ⟨vA, rfl, hoA, hb4⟩
    have HO4 := Lib.hid (own_below HO3.out hb4)
    have hB4 : Below w.heap.size w w4 := hB3.trans (hb4.mono hB3.size)
    obtain ⟨fA, gA, hfA⟩ := own_len hoA
    subst hfA
    have HA4 := Lib.hid hoA
    clear hb4 hoA
    go_wp2_with fail
    refine (Hto.out _).mono ?_
    rintro e w' ⟨rfl, rfl⟩
    cases c with
    | false =>
      clear htab
      go_wp2
      go_ret
      exact ⟨rfl, hB4⟩
    | true =>
      have ht := htab rfl
      subst ht
      clear htab
      go_wp2_with fail
      refine (Hta.out _ _ _ (RdMarks.of_own HA4.out Hxi.out) (Nat.le_refl _)).mono ?_
      rintro e w5 ⟨rfl, hb5⟩
      have hB5 : Below w.heap.size w w5 := hB4.trans (hb5.mono hB4.size)
      clear hb5
      go_wp2
      go_ret
      exact ⟨rfl, hB5⟩

set_option maxRecDepth 100000 in
theorem lifted (os : Os) (started : os.Started) (H : Type) (enc : TypeId × Value → H) :
    ReturnsInHanded {} Try.checked os 5 .any (Rows.fnWordTableSpec.pre6 enc Try.prog Try.f5 Rows.fnWordTableRow.domain false) (Rows.fnWordTableSpec.post enc Try.prog Try.f5 false true false false) := by
  refine returnsInHanded_of_change (C := Try.checked) Try.own started (by kernel_rfl) Try.func5
    (ChangeSpec.witness6 (enc := enc) (C := Try.checked) false ⟨#[], #[.slice none 0 0], []⟩ 8 (by kernel_rfl) (by kernel_rfl) (by kernel_rfl) (by kernel_rfl)) ?_
  intro W base args ds gs before hval0 hW hcnd _
  have hval : ∀ (j : Nat) t v, Try.f5.params[j]? = some t → args[j]? = some v → Value.okWide Try.prog W .any base t v := hval0
  have hW' := hW
  obtain ⟨p, q, hA0, hV, rfl, hfz, hnd⟩ := hW
  have hA : DataW.TrodAll enc Try.prog W 0 (fun _ => true) true Try.f5.params.toList args.toList ds p := hA0
  rw [Try.params5] at hA hval
  obtain ⟨v0, vs0, d0, ds0, p0, q0, hargs, rfl, rfl, h0, r0⟩ := trodAll_cons hA
  obtain ⟨rfl, rfl, rfl⟩ := trodAll_nil r0
  obtain rfl : args = #[v0] := by cases args; simp_all
  obtain ⟨rfl, rfl⟩ := trodVars_none hV
  obtain ⟨a0, len0, cap0, rfl⟩ := okWide_slice Try.underlying22 (hval 0 22 v0 rfl rfl)
  have k0 := h0
  have lt0 : ∀ x ∈ p0, x.block < W.heap.size := by obtain ⟨m, hm⟩ := k0; exact DataW.trod_lt m _ _ _ hm
  obtain ⟨z0, w0⟩ : ∃ zs, IsRow .u8 W a0 len0 cap0 zs := by
    obtain ⟨fuel, hf⟩ := h0
    rcases open_ints Try.underlying22 Try.underlying5 (by kernel_rfl) hf with ⟨hcs, _⟩ | ⟨x, l, c, zs, hcs, _, hl, hm, hz, _, hcell, hwz⟩
    · simp [Value.cells] at hcs
      obtain ⟨rfl, rfl, rfl⟩ := hcs
      exact ⟨[], .inl ⟨rfl, rfl, rfl, rfl⟩⟩
    · simp [Value.cells] at hcs
      obtain ⟨rfl, rfl, rfl⟩ := hcs
      exact ⟨zs, .inr ⟨_, rfl, hl, hm, by simpa using hz, hcell, hwz⟩⟩
  clear hA0 hval0
  refine (walk _ _ W (RdBytes.of_row w0)).mono fun e W' ⟨he, bel⟩ => ?_
  subst he
  exact ⟨_, rfl, _, _, _, [], _, [], hW', trodAll_mk1 (shut_bool Try.underlying4 _), (trodAll_cons_mk (Below.trod Try.laidOut (by kernel_rfl) (of_decide_eq_true (by kernel_rfl)) k0 bel lt0) trodAll_mk0), rfl, bel.frame _, fun h => by cases h⟩

theorem closed : joinedFacts Try.pinned.checked.prog 5 Try.f5 Rows.fnWordTableSpec Rows.fnWordTableRow = true := by
  unfold joinedFacts
  exact (and_tt (and_tt (and_tt (and_tt (and_tt (and_tt (and_tt (and_tt (and_tt (and_tt (and_tt (and_tt (and_tt (and_tt (and_tt (and_tt (and_tt (and_tt (and_tt (and_tt (and_tt (and_tt (and_tt (and_tt (and_tt (and_tt (and_tt (and_tt (and_tt (and_tt (and_tt (by kernel_rfl) (by kernel_rfl)) (by kernel_rfl)) (by kernel_rfl)) (by kernel_rfl)) (by kernel_rfl)) (by kernel_rfl)) (by kernel_rfl)) (by kernel_rfl)) (by kernel_rfl)) (by kernel_rfl)) (by kernel_rfl)) (by kernel_rfl)) (by kernel_rfl)) (by kernel_rfl)) (by kernel_rfl)) (by kernel_rfl)) (by kernel_rfl)) (by kernel_rfl)) (by kernel_rfl)) (by kernel_rfl)) (by kernel_rfl)) (by kernel_rfl)) (by kernel_rfl)) (by kernel_rfl)) Try.mayEnter0) (lifted_tt Try.lifts0 rfl)) (make_tt Try.make0 rfl)) (by kernel_rfl)) (by kernel_rfl)) (by kernel_rfl)) (by kernel_rfl))
theorem over : Rows.fnWordTableRow.holds Try.pinned (OpenSpec.ofChange Rows.fnWordTableSpec) :=
  OpenClaim.holds_of_wide 5 Try.f5 rfl rfl rfl rfl rfl rfl rfl ⟨rfl, rfl, rfl, rfl, rfl⟩ rfl rfl rfl rfl rfl (by kernel_rfl) Try.func5 closed
    (of_decide_eq_true (by kernel_rfl)) (by unfold Func.isWrapper; first | (rw [if_pos (by decide +kernel)]; kernel_rfl) | (rw [if_neg (by decide +kernel)]; exact ⟨rfl, rfl⟩))
    (fun os started H enc _ => lifted os started H enc)

theorem proved : Rows.FnWordTableSaid := over
end Go.Proofs.Ytbcmepcjhobemaa.fnWordTable

