/- A law of stage 7: tricks are answered alike, if they ask of others. It answers true, whatever the code. No condition. -/
import Derived.Test.YtemldnjpcnogpaaDrawA
import Derived.Test.YtemldnjpcnogpaaAskI
import Derived.Test.YtemldnjpcnogpaaTruthI
import Derived.Test.YtemldnjpcnogpaaLawsA
import Derived.Deep.RegionHeld3
import Derived.Deep.Cut
namespace Go.Proofs.Ytemldnjpcnogpaa
open Go.RowKit Go.Joins
theorem trick_len7 (p k : Int) (ms : List (Int × Int)) : (ctermV p (k, ms)).length ≤ 15 := by
  cases h : claimOk p (k, ms) with
  | false => rw [ctermV_no h]; simp
  | true =>
    have := (claimOk_iff.1 h).2.2.2
    rw [ctermV_yes h, cterm_len2]
    exact Nat.add_le_add_right this 2
theorem bit_zero7 (M K : Nat) : (((M : Int) / 2 ^ K).tmod 2 == 0) = !M.testBit K ∧ (((M : Int) / 2 ^ K).tmod 2 == 1) = M.testBit K := by
  rw [tmod_two_val]
  cases M.testBit K <;> exact ⟨rfl, rfl⟩
theorem matter_nat7 {p k : Int} {ms : List (Int × Int)} (h : termOk p ms = true) (hk : inOk p k = true) : ∃ K M : Nat, k = K ∧ K < 4 ∧ M < 16 ∧ matterV p ms = (M : Int) ∧ M.testBit K = matters p (tmOf p ms) k.toNat := by
  obtain ⟨h1, h4⟩ := p_of h
  obtain ⟨h0, hkp⟩ := inOk_iff.1 hk
  obtain ⟨K, rfl⟩ := Int.eq_ofNat_of_zero_le h0
  have hb := matter_bit h hk
  rw [Int.toNat_natCast] at hb
  refine ⟨K, matterN p (tmOf p ms), rfl, by omega, ?_, matterV_yes h, by rw [Int.toNat_natCast]; exact hb⟩
  have := tabF_lt p.toNat (matters p (tmOf p ms))
  have h2 : 2 ^ p.toNat ≤ 16 := two16 (by omega)
  exact Nat.lt_of_lt_of_le this h2
theorem alike_law7 {p k : Int} {ms : List (Int × Int)} (h : termOk p ms = true) (hk : inOk p k = true) : ∃ (K M : Nat) (mt : Bool), k = K ∧ K < 4 ∧ M < 16 ∧ matterV p ms = (M : Int) ∧ M.testBit K = mt ∧ (alikeV p k ms = true → mt = true) ∧ (claimOk p (k, ms) = true → alikeV p k (ctermV p (k, ms)) = !mt) := by
  obtain ⟨K, M, e1, e2, e3, e4, e5⟩ := matter_nat7 h hk
  exact ⟨K, M, _, e1, e2, e3, e4, e5, fun ha => alike_matters ha, fun hc => by rw [ctermV_yes hc]; exact alike_trick hc⟩
theorem alike_no7 {p k : Int} {ms : List (Int × Int)} (h : (termOk p ms && inOk p k) = false) : alikeV p k ms = false := by
  unfold alikeV
  cases h1 : termOk p ms with
  | false => rfl
  | true =>
    rw [h1] at h
    rw [show inOk p k = false from h]; rfl
end Go.Proofs.Ytemldnjpcnogpaa
namespace Go.Proofs.Ytemldnjpcnogpaa.fnAlikeOk
open Go.ChangeShapes Go.WideShapes Go.ChangeAt Go.RowKit Go.Joins
attribute [local irreducible] holds tabN tabV holdsV sameV followsV alwaysV matterV mirV mirOk mcells tmOf claimOk mayT mayV ctabV ctabN storyV storyOk storyN storyT ctermV ctermL denyV denyOk ccells ansN inOk chainL chainOk chainV alikeV liesN matterN matters
open Go.ChangeMaps (open_string shut_string)
set_option linter.unusedVariables false
set_option maxRecDepth 100000 in
set_option maxHeartbeats 8000000 in
theorem walk (a0 : Value) (n0 : Nat) (w : World) (w0 : RdBytes w w.heap.size a0 n0) :
    Calls Try.prog 6 #[a0] w fun e w' => e = .returned (.bool true) ∧ Below w.heap.size w w' := by
  have hr := w0
  by_cases hbig : n0 ≤ 1048576
  case neg =>
    obtain ⟨ao, cap, rfl, hl, hm, hc⟩ := w0
    have hbig' := code_big hbig
    unfold maxLen at hm
    clear hc hr hbig
    go_enter Try.func6, Try.ntmps6
    go_wp2
    go_ret
    exact ⟨rfl, Below.refl _ _⟩
  have hbig' : (n0 : Int) ≤ 1048576 := by omega
  clear hbig
  obtain ⟨ao, cap, rfl, hl, hm, hc⟩ := w0
  have Hr := Lib.hid hr
  clear hc hr hl hm
  go_enter Try.func6, Try.ntmps6
  go_wp2_with fail
  refine (drawAlikeOk _ _ _ Hr.out).mono ?_
  rintro e w1 ⟨p, k, g, cp, ms, hp1, hp4, hk0, hk8, rfl, hown, hi, hn, hB1⟩
  have HO1 := Lib.hid hown
  have Hi := Lib.hid hi
  have HK : Hid (I64 k) := I64_small (by omega) (by omega)
  clear hown hi
  have him := fun B u W h h2 => implAlikeOk p k ms B u W h h2
  have hsp := fun B u W h h2 => specAlikeOk p k ms B u W h h2
  have hno := fun h => alike_no7 (p := p) (k := k) (ms := ms) h
  have hto := fun B u W h => specTermOk p ms B u W h
  cases ht : termOk p ms with
  | false =>
    have hV := hno (by rw [ht]; rfl)
    rw [hV] at him hsp
    rw [ht] at hto
    have Him := Lib.hid him
    have Hsp := Lib.hid hsp
    have Hto := Lib.hid hto
    clear him hsp hto hno ht hV
    go_wp2_with fail
    refine (Him.out _ _ _ (RdMarks.of_own HO1.out Hi.out) (Nat.le_refl _)).mono ?_
    rintro e w2 ⟨rfl, hb2⟩
    have HO2 := Lib.hid (own_below HO1.out hb2)
    have hB2 : Below w.heap.size w w2 := hB1.trans (hb2.mono hB1.size)
    clear hb2 
    go_wp2_with fail
    refine (Hsp.out _ _ _ (RdMarks.of_own HO2.out Hi.out) (Nat.le_refl _)).mono ?_
    rintro e w3 ⟨rfl, hb3⟩
    have HO3 := Lib.hid (own_below HO2.out hb3)
    have hB3 : Below w.heap.size w w3 := hB2.trans (hb3.mono hB2.size)
    clear hb3 
    go_wp2_with fail
    refine (Hto.out _ _ _ (RdMarks.of_own HO3.out Hi.out)).mono ?_
    rintro e w' ⟨rfl, rfl⟩
    go_wp2_with fail
    refine (alive _).mono ?_
    rintro e w' ⟨rfl, rfl⟩
    go_wp2
    go_ret
    exact ⟨rfl, hB3⟩
  | true =>
    rw [ht] at hto
    cases hk : inOk p k with
    | false =>
      have hV := hno (by rw [ht, hk]; rfl)
      rw [hV] at him hsp
      have hkp : p ≤ k := by
        have h : ¬ (0 ≤ k ∧ k < p) := fun h => by rw [inOk_iff.2 h] at hk; cases hk
        omega
      have Him := Lib.hid him
      have Hsp := Lib.hid hsp
      have Hto := Lib.hid hto
      clear him hsp hto hno ht hV hk
      go_wp2_with fail
      refine (Him.out _ _ _ (RdMarks.of_own HO1.out Hi.out) (Nat.le_refl _)).mono ?_
      rintro e w2 ⟨rfl, hb2⟩
      have HO2 := Lib.hid (own_below HO1.out hb2)
      have hB2 : Below w.heap.size w w2 := hB1.trans (hb2.mono hB1.size)
      clear hb2 
      go_wp2_with fail
      refine (Hsp.out _ _ _ (RdMarks.of_own HO2.out Hi.out) (Nat.le_refl _)).mono ?_
      rintro e w3 ⟨rfl, hb3⟩
      have HO3 := Lib.hid (own_below HO2.out hb3)
      have hB3 : Below w.heap.size w w3 := hB2.trans (hb3.mono hB2.size)
      clear hb3 
      go_wp2_with fail
      refine (Hto.out _ _ _ (RdMarks.of_own HO3.out Hi.out)).mono ?_
      rintro e w' ⟨rfl, rfl⟩
      go_wp2_with fail
      refine (alive _).mono ?_
      rintro e w' ⟨rfl, rfl⟩
      go_wp2
      go_ret
      exact ⟨rfl, hB3⟩
    | true =>
      obtain ⟨K, M, mt, rfl, hK, hM, hmv, hmt, hV, hcx⟩ := alike_law7 ht hk
      obtain ⟨_, hkp⟩ := inOk_iff.1 hk
      have hxl := trick_len7 p K ms
      have Hxi := Lib.hid (I64s_ctermV7 (p := p) (k := K) Hi.out)
      have htr := fun B u W h h2 => implTrickTerm p K ms HK.out (by omega) B u W h h2
      have Hmv := Lib.hid (fun B u W h h2 => implMatterIn p ms B u W h h2)
      rw [hmv] at Hmv
      have hb1 := (bit_zero7 M K).2
      rw [hmt] at hb1
      have hmk : min K 64 = K := by omega
      generalize alikeV p K ms = V at *
      generalize ctermV p (K, ms) = xs at *
      have hal := fun B u W h h2 => implAlikeOk p K xs B u W h h2
      generalize alikeV p K xs = X at *
      generalize claimOk p (K, ms) = c at *
      have Him := Lib.hid him
      have Hsp := Lib.hid hsp
      have Hto := Lib.hid hto
      have Htr := Lib.hid htr
      have Hal := Lib.hid hal
      clear him hsp hto hno ht hk htr hal hmv hmt
      go_wp2_with fail
      refine (Him.out _ _ _ (RdMarks.of_own HO1.out Hi.out) (Nat.le_refl _)).mono ?_
      rintro e w2 ⟨rfl, hb2⟩
      have HO2 := Lib.hid (own_below HO1.out hb2)
      have hB2 : Below w.heap.size w w2 := hB1.trans (hb2.mono hB1.size)
      clear hb2 
      go_wp2_with fail
      refine (Hsp.out _ _ _ (RdMarks.of_own HO2.out Hi.out) (Nat.le_refl _)).mono ?_
      rintro e w3 ⟨rfl, hb3⟩
      have HO3 := Lib.hid (own_below HO2.out hb3)
      have hB3 : Below w.heap.size w w3 := hB2.trans (hb3.mono hB2.size)
      clear hb3 
      go_wp2_with fail
      refine (Hto.out _ _ _ (RdMarks.of_own HO3.out Hi.out)).mono ?_
      rintro e w' ⟨rfl, rfl⟩
      go_wp2_with fail
      refine (Htr.out _ _ _ (RdMarks.of_own HO3.out Hi.out) (Nat.le_refl _)).mono ?_
      rintro e w4 ⟨vA, rfl, hoA, hb4⟩
      have HO4 := Lib.hid (own_below HO3.out hb4)
      have hB4 : Below w.heap.size w w4 := hB3.trans (hb4.mono hB3.size)
      obtain ⟨fA, gA, hfA⟩ := own_len hoA
      subst hfA
      have HA4 := Lib.hid hoA
      clear hb4 hoA
      go_wp2_with fail
      refine (Hmv.out _ _ _ (RdMarks.of_own HO4.out Hi.out) (Nat.le_refl _)).mono ?_
      rintro e w5 ⟨rfl, hb5⟩
      have HO5 := Lib.hid (own_below HO4.out hb5)
      have HA5 := Lib.hid (own_below HA4.out hb5)
      have hB5 : Below w.heap.size w w5 := hB4.trans (hb5.mono hB4.size)
      clear hb5 
      cases c with
      | false =>
        clear hcx
        cases V
        · clear hV
          go_wp2_with fail
          refine (alive _).mono ?_
          rintro e w' ⟨rfl, rfl⟩
          go_wp2
          go_ret
          exact ⟨rfl, hB5⟩
        · have hm := hV rfl
          subst hm
          go_wp2_with fail
          refine (alive _).mono ?_
          rintro e w' ⟨rfl, rfl⟩
          go_wp2
          go_ret
          exact ⟨rfl, hB5⟩
      | true =>
        have hX := hcx rfl
        subst hX
        clear hcx
        go_wp2_with fail
        refine (Hal.out _ _ _ (RdMarks.of_own HA5.out Hxi.out) (Nat.le_refl _)).mono ?_
        rintro e w6 ⟨rfl, hb6⟩
        have hB6 : Below w.heap.size w w6 := hB5.trans (hb6.mono hB5.size)
        clear hb6 
        cases V
        · clear hV
          cases mt
          all_goals
            go_wp2_with fail
            refine (alive _).mono ?_
            rintro e w' ⟨rfl, rfl⟩
            go_wp2
            go_ret
            exact ⟨rfl, hB6⟩
        · have hm := hV rfl
          subst hm
          go_wp2_with fail
          refine (alive _).mono ?_
          rintro e w' ⟨rfl, rfl⟩
          go_wp2
          go_ret
          exact ⟨rfl, hB6⟩

set_option maxRecDepth 100000 in
theorem lifted (os : Os) (started : os.Started) (H : Type) (enc : TypeId × Value → H) :
    ReturnsInHanded {} Try.checked os 6 .any (Rows.fnAlikeOkSpec.pre6 enc Try.prog Try.f6 Rows.fnAlikeOkRow.domain false) (Rows.fnAlikeOkSpec.post enc Try.prog Try.f6 false true false false) := by
  refine returnsInHanded_of_change (C := Try.checked) Try.own started (by kernel_rfl) Try.func6
    (ChangeSpec.witness6 (enc := enc) (C := Try.checked) false ⟨#[], #[.slice none 0 0], []⟩ 8 (by kernel_rfl) (by kernel_rfl) (by kernel_rfl) (by kernel_rfl)) ?_
  intro W base args ds gs before hval0 hW hcnd _
  have hval : ∀ (j : Nat) t v, Try.f6.params[j]? = some t → args[j]? = some v → Value.okWide Try.prog W .any base t v := hval0
  have hW' := hW
  obtain ⟨p, q, hA0, hV, rfl, hfz, hnd⟩ := hW
  have hA : DataW.TrodAll enc Try.prog W 0 (fun _ => true) true Try.f6.params.toList args.toList ds p := hA0
  rw [Try.params6] at hA hval
  obtain ⟨v0, vs0, d0, ds0, p0, q0, hargs, rfl, rfl, h0, r0⟩ := trodAll_cons hA
  obtain ⟨rfl, rfl, rfl⟩ := trodAll_nil r0
  obtain rfl : args = #[v0] := by cases args; simp_all
  obtain ⟨rfl, rfl⟩ := trodVars_none hV
  obtain ⟨a0, len0, cap0, rfl⟩ := okWide_slice Try.underlying22 (hval 0 22 v0 rfl rfl)
  have k0 := h0
  have lt0 : ∀ x ∈ p0, x.block < W.heap.size := by obtain ⟨m, hm⟩ := k0; exact DataW.trod_lt m _ _ _ hm
  obtain ⟨z0, w0⟩ : ∃ zs, IsRow .u8 W a0 len0 cap0 zs := by
    obtain ⟨fuel, hf⟩ := h0
    rcases open_ints Try.underlying22 Try.underlying5 (by kernel_rfl) hf with ⟨hcs, _⟩ | ⟨x, l, c, zs, hcs, _, hl, hm, hz, _, hcell, hwz⟩
    · simp [Value.cells] at hcs
      obtain ⟨rfl, rfl, rfl⟩ := hcs
      exact ⟨[], .inl ⟨rfl, rfl, rfl, rfl⟩⟩
    · simp [Value.cells] at hcs
      obtain ⟨rfl, rfl, rfl⟩ := hcs
      exact ⟨zs, .inr ⟨_, rfl, hl, hm, by simpa using hz, hcell, hwz⟩⟩
  clear hA0 hval0
  refine (walk _ _ W (RdBytes.of_row w0)).mono fun e W' ⟨he, bel⟩ => ?_
  subst he
  exact ⟨_, rfl, _, _, _, [], _, [], hW', trodAll_mk1 (shut_bool Try.underlying4 _), (trodAll_cons_mk (Below.trod Try.laidOut (by kernel_rfl) (of_decide_eq_true (by kernel_rfl)) k0 bel lt0) trodAll_mk0), rfl, bel.frame _, fun h => by cases h⟩

theorem closed : joinedFacts Try.pinned.checked.prog 6 Try.f6 Rows.fnAlikeOkSpec Rows.fnAlikeOkRow = true := by
  unfold joinedFacts
  exact (and_tt (and_tt (and_tt (and_tt (and_tt (and_tt (and_tt (and_tt (and_tt (and_tt (and_tt (and_tt (and_tt (and_tt (and_tt (and_tt (and_tt (and_tt (and_tt (and_tt (and_tt (and_tt (and_tt (and_tt (and_tt (and_tt (and_tt (and_tt (and_tt (and_tt (and_tt (by kernel_rfl) (by kernel_rfl)) (by kernel_rfl)) (by kernel_rfl)) (by kernel_rfl)) (by kernel_rfl)) (by kernel_rfl)) (by kernel_rfl)) (by kernel_rfl)) (by kernel_rfl)) (by kernel_rfl)) (by kernel_rfl)) (by kernel_rfl)) (by kernel_rfl)) (by kernel_rfl)) (by kernel_rfl)) (by kernel_rfl)) (by kernel_rfl)) (by kernel_rfl)) (by kernel_rfl)) (by kernel_rfl)) (by kernel_rfl)) (by kernel_rfl)) (by kernel_rfl)) (by kernel_rfl)) Try.mayEnter0) (lifted_tt Try.lifts0 rfl)) (make_tt Try.make0 rfl)) (by kernel_rfl)) (by kernel_rfl)) (by kernel_rfl)) (by kernel_rfl))
theorem over : Rows.fnAlikeOkRow.holds Try.pinned (OpenSpec.ofChange Rows.fnAlikeOkSpec) :=
  OpenClaim.holds_of_wide 6 Try.f6 rfl rfl rfl rfl rfl rfl rfl ⟨rfl, rfl, rfl, rfl, rfl⟩ rfl rfl rfl rfl rfl (by kernel_rfl) Try.func6 closed
    (of_decide_eq_true (by kernel_rfl)) (by unfold Func.isWrapper; first | (rw [if_pos (by decide +kernel)]; kernel_rfl) | (rw [if_neg (by decide +kernel)]; exact ⟨rfl, rfl⟩))
    (fun os started H enc _ => lifted os started H enc)

theorem proved : Rows.FnAlikeOkSaid := over
end Go.Proofs.Ytemldnjpcnogpaa.fnAlikeOk

