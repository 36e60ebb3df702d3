/- A law of stage 7: a trick of a trick is the question itself. It answers true, whatever the code. No condition. -/
import Derived.Test.YtemldnjpcnogpaaDrawA
import Derived.Test.YtemldnjpcnogpaaAskI
import Derived.Test.YtemldnjpcnogpaaTruthI
import Derived.Test.YtemldnjpcnogpaaLawsA
import Derived.Deep.RegionHeld3
import Derived.Deep.Cut
namespace Go.Proofs.Ytemldnjpcnogpaa
open Go.RowKit Go.Joins
theorem trick_len7 (p k : Int) (ms : List (Int × Int)) : (ctermV p (k, ms)).length ≤ 15 := by
  cases h : claimOk p (k, ms) with
  | false => rw [ctermV_no h]; simp
  | true =>
    have := (claimOk_iff.1 h).2.2.2
    rw [ctermV_yes h, cterm_len2]
    exact Nat.add_le_add_right this 2
theorem bit_zero7 (M K : Nat) : (((M : Int) / 2 ^ K).tmod 2 == 0) = !M.testBit K ∧ (((M : Int) / 2 ^ K).tmod 2 == 1) = M.testBit K := by
  rw [tmod_two_val]
  cases M.testBit K <;> exact ⟨rfl, rfl⟩
theorem matter_nat7 {p k : Int} {ms : List (Int × Int)} (h : termOk p ms = true) (hk : inOk p k = true) : ∃ K M : Nat, k = K ∧ K < 4 ∧ M < 16 ∧ matterV p ms = (M : Int) ∧ M.testBit K = matters p (tmOf p ms) k.toNat := by
  obtain ⟨h1, h4⟩ := p_of h
  obtain ⟨h0, hkp⟩ := inOk_iff.1 hk
  obtain ⟨K, rfl⟩ := Int.eq_ofNat_of_zero_le h0
  have hb := matter_bit h hk
  rw [Int.toNat_natCast] at hb
  refine ⟨K, matterN p (tmOf p ms), rfl, by omega, ?_, matterV_yes h, by rw [Int.toNat_natCast]; exact hb⟩
  have := tabF_lt p.toNat (matters p (tmOf p ms))
  have h2 : 2 ^ p.toNat ≤ 16 := two16 (by omega)
  exact Nat.lt_of_lt_of_le this h2
theorem twice_law7 {p k : Int} {ms : List (Int × Int)} (h : claimOk p (k, ms) = true) (h2 : claimOk p (k, ctermL (k, ms)) = true) : ∃ (K M : Nat) (mt : Bool), k = K ∧ K < 4 ∧ M < 16 ∧ matterV p ms = (M : Int) ∧ M.testBit K = mt ∧ sameV p (ctermL (k, ctermL (k, ms))) ms = true ∧ alikeV p k (ctermL (k, ms)) = !mt := by
  obtain ⟨h3, h4⟩ := claim_term h
  obtain ⟨K, M, e1, e2, e3, e4, e5⟩ := matter_nat7 h3 h4
  exact ⟨K, M, _, e1, e2, e3, e4, e5, trick_twice h h2, alike_trick h⟩
end Go.Proofs.Ytemldnjpcnogpaa
namespace Go.Proofs.Ytemldnjpcnogpaa.fnTrickTwice
open Go.ChangeShapes Go.WideShapes Go.ChangeAt Go.RowKit Go.Joins
attribute [local irreducible] holds tabN tabV holdsV sameV followsV alwaysV matterV mirV mirOk mcells tmOf claimOk mayT mayV ctabV ctabN storyV storyOk storyN storyT ctermV ctermL denyV denyOk ccells ansN inOk chainL chainOk chainV alikeV liesN matterN matters
open Go.ChangeMaps (open_string shut_string)
set_option linter.unusedVariables false
set_option maxRecDepth 100000 in
set_option maxHeartbeats 8000000 in
theorem walk (a0 : Value) (n0 : Nat) (w : World) (w0 : RdBytes w w.heap.size a0 n0) :
    Calls Try.prog 8 #[a0] w fun e w' => e = .returned (.bool true) ∧ Below w.heap.size w w' := by
  have hr := w0
  by_cases hbig : n0 ≤ 1048576
  case neg =>
    obtain ⟨ao, cap, rfl, hl, hm, hc⟩ := w0
    have hbig' := code_big hbig
    unfold maxLen at hm
    clear hc hr hbig
    go_enter Try.func8, Try.ntmps8
    go_wp2
    go_ret
    exact ⟨rfl, Below.refl _ _⟩
  have hbig' : (n0 : Int) ≤ 1048576 := by omega
  clear hbig
  obtain ⟨ao, cap, rfl, hl, hm, hc⟩ := w0
  have Hr := Lib.hid hr
  clear hc hr hl hm
  go_enter Try.func8, Try.ntmps8
  go_wp2_with fail
  refine (drawTrickTerm _ _ _ Hr.out).mono ?_
  rintro e w1 ⟨p, k, g, cp, ms, hp1, hp4, hk0, hk8, rfl, hown, hi, hn, hB1⟩
  have HO1 := Lib.hid hown
  have Hi := Lib.hid hi
  have HK : Hid (I64 k) := I64_small (by omega) (by omega)
  clear hown hi
  have him := fun B u W h h2 => implTrickTerm p k ms HK.out (by omega) B u W h h2
  have hxl := trick_len7 p k ms
  have Hxi := Lib.hid (I64s_ctermV7 (p := p) (k := k) Hi.out)
  have hno := fun (h : claimOk p (k, ms) = false) => ctermV_no h
  have hyes := fun (h : claimOk p (k, ms) = true) => ctermV_yes h
  have hxl2 := trick_len7 p k (ctermV p (k, ms))
  have Hyi := Lib.hid (I64s_ctermV7 (p := p) (k := k) Hxi.out)
  have him2 := fun B u W h h2 => implTrickTerm p k (ctermV p (k, ms)) HK.out (by omega) B u W h h2
  have hyes2 := fun (h : claimOk p (k, ctermV p (k, ms)) = true) => ctermV_yes h
  have hla := fun (h : claimOk p (k, ms) = true) h2 => twice_law7 h h2
  have Him := Lib.hid him
  have Him2 := Lib.hid him2
  clear him him2
  cases hc : claimOk p (k, ms) with
  | false =>
    rw [hc] at Him
    generalize ctermV p (k, ms) = xs at *
    generalize ctermV p (k, xs) = ys at *
    generalize claimOk p (k, xs) = c2 at *
    clear hno hyes hyes2 hla hc
    go_wp2_with fail
    refine (Him.out _ _ _ (RdMarks.of_own HO1.out Hi.out) (Nat.le_refl _)).mono ?_
    rintro e w2 ⟨vA, rfl, hoA, hb2⟩
    have HO2 := Lib.hid (own_below HO1.out hb2)
    have hB2 : Below w.heap.size w w2 := hB1.trans (hb2.mono hB1.size)
    obtain ⟨fA, gA, hfA⟩ := own_len hoA
    subst hfA
    have HA2 := Lib.hid hoA
    clear hb2 hoA
    go_wp2_with fail
    refine (Him2.out _ _ _ (RdMarks.of_own HA2.out Hxi.out) (Nat.le_refl _)).mono ?_
    rintro e w3 ⟨vB, rfl, hoB, hb3⟩
    have HO3 := Lib.hid (own_below HO2.out hb3)
    have HA3 := Lib.hid (own_below HA2.out hb3)
    have hB3 : Below w.heap.size w w3 := hB2.trans (hb3.mono hB2.size)
    obtain ⟨fB, gB, hfB⟩ := own_len hoB
    subst hfB
    have HB3 := Lib.hid hoB
    clear hb3 hoB
    go_wp2_with fail
    refine (alive _).mono ?_
    rintro e w' ⟨rfl, rfl⟩
    go_wp2
    go_ret
    exact ⟨rfl, hB3⟩
  | true =>
    have hx := hyes hc
    cases hc2 : claimOk p (k, ctermV p (k, ms)) with
    | false =>
      rw [hc] at Him
      rw [hc2] at Him2
      generalize ctermV p (k, ms) = xs at *
      generalize ctermV p (k, xs) = ys at *
      clear hno hyes hyes2 hla hc hc2 hx
      go_wp2_with fail
      refine (Him.out _ _ _ (RdMarks.of_own HO1.out Hi.out) (Nat.le_refl _)).mono ?_
      rintro e w2 ⟨vA, rfl, hoA, hb2⟩
      have HO2 := Lib.hid (own_below HO1.out hb2)
      have hB2 : Below w.heap.size w w2 := hB1.trans (hb2.mono hB1.size)
      obtain ⟨fA, gA, hfA⟩ := own_len hoA
      subst hfA
      have HA2 := Lib.hid hoA
      clear hb2 hoA
      go_wp2_with fail
      refine (Him2.out _ _ _ (RdMarks.of_own HA2.out Hxi.out) (Nat.le_refl _)).mono ?_
      rintro e w3 ⟨vB, rfl, hoB, hb3⟩
      have HO3 := Lib.hid (own_below HO2.out hb3)
      have HA3 := Lib.hid (own_below HA2.out hb3)
      have hB3 : Below w.heap.size w w3 := hB2.trans (hb3.mono hB2.size)
      obtain ⟨fB, gB, hfB⟩ := own_len hoB
      subst hfB
      have HB3 := Lib.hid hoB
      clear hb3 hoB
      go_wp2_with fail
      refine (alive _).mono ?_
      rintro e w' ⟨rfl, rfl⟩
      go_wp2
      go_ret
      exact ⟨rfl, hB3⟩
    | true =>
      have hy := hyes2 hc2
      have hc2' := hc2
      rw [hx] at hc2'
      obtain ⟨K, M, mt, rfl, hK, hM, hmv, hmt, hsm, hal⟩ := hla hc hc2'
      rw [← hx] at hsm hal
      rw [← hy] at hsm
      rw [hc] at Him
      rw [hc2] at Him2
      clear hno hyes hyes2 hla hc hc2 hc2' hx hy
      generalize ctermV p (K, ms) = xs at *
      generalize ctermV p (K, xs) = ys at *
      have Hsm := Lib.hid (fun B B' a b W h h2 h3 h4 => implSameOk p ys ms B B' a b W h h2 h3 h4)
      rw [hsm] at Hsm
      have Hal := Lib.hid (fun B u W h h2 => implAlikeOk p K xs B u W h h2)
      rw [hal] at Hal
      have Hmv := Lib.hid (fun B u W h h2 => implMatterIn p ms B u W h h2)
      rw [hmv] at Hmv
      have hb0 := (bit_zero7 M K).1
      rw [hmt] at hb0
      have hmk : min K 64 = K := by omega
      clear hsm hal hmv hmt
      go_wp2_with fail
      refine (Him.out _ _ _ (RdMarks.of_own HO1.out Hi.out) (Nat.le_refl _)).mono ?_
      rintro e w2 ⟨vA, rfl, hoA, hb2⟩
      have HO2 := Lib.hid (own_below HO1.out hb2)
      have hB2 : Below w.heap.size w w2 := hB1.trans (hb2.mono hB1.size)
      obtain ⟨fA, gA, hfA⟩ := own_len hoA
      subst hfA
      have HA2 := Lib.hid hoA
      clear hb2 hoA
      go_wp2_with fail
      refine (Him2.out _ _ _ (RdMarks.of_own HA2.out Hxi.out) (Nat.le_refl _)).mono ?_
      rintro e w3 ⟨vB, rfl, hoB, hb3⟩
      have HO3 := Lib.hid (own_below HO2.out hb3)
      have HA3 := Lib.hid (own_below HA2.out hb3)
      have hB3 : Below w.heap.size w w3 := hB2.trans (hb3.mono hB2.size)
      obtain ⟨fB, gB, hfB⟩ := own_len hoB
      subst hfB
      have HB3 := Lib.hid hoB
      clear hb3 hoB
      go_wp2_with fail
      refine (alive _).mono ?_
      rintro e w' ⟨rfl, rfl⟩
      go_wp2_with fail
      refine (Hsm.out _ _ _ _ _ (RdMarks.of_own HB3.out Hyi.out) (RdMarks.of_own HO3.out Hi.out) (Nat.le_refl _) (Nat.le_refl _)).mono ?_
      rintro e w4 ⟨rfl, hb4⟩
      have HO4 := Lib.hid (own_below HO3.out hb4)
      have HA4 := Lib.hid (own_below HA3.out hb4)
      have hB4 : Below w.heap.size w w4 := hB3.trans (hb4.mono hB3.size)
      clear hb4 
      go_wp2_with fail
      refine (Hal.out _ _ _ (RdMarks.of_own HA4.out Hxi.out) (Nat.le_refl _)).mono ?_
      rintro e w5 ⟨rfl, hb5⟩
      have HO5 := Lib.hid (own_below HO4.out hb5)
      have hB5 : Below w.heap.size w w5 := hB4.trans (hb5.mono hB4.size)
      clear hb5 
      go_wp2_with fail
      refine (Hmv.out _ _ _ (RdMarks.of_own HO5.out Hi.out) (Nat.le_refl _)).mono ?_
      rintro e w6 ⟨rfl, hb6⟩
      have hB6 : Below w.heap.size w w6 := hB5.trans (hb6.mono hB5.size)
      clear hb6 
      cases mt
      all_goals
        go_wp2
        go_ret
        exact ⟨rfl, hB6⟩

set_option maxRecDepth 100000 in
theorem lifted (os : Os) (started : os.Started) (H : Type) (enc : TypeId × Value → H) :
    ReturnsInHanded {} Try.checked os 8 .any (Rows.fnTrickTwiceSpec.pre6 enc Try.prog Try.f8 Rows.fnTrickTwiceRow.domain false) (Rows.fnTrickTwiceSpec.post enc Try.prog Try.f8 false true false false) := by
  refine returnsInHanded_of_change (C := Try.checked) Try.own started (by kernel_rfl) Try.func8
    (ChangeSpec.witness6 (enc := enc) (C := Try.checked) false ⟨#[], #[.slice none 0 0], []⟩ 8 (by kernel_rfl) (by kernel_rfl) (by kernel_rfl) (by kernel_rfl)) ?_
  intro W base args ds gs before hval0 hW hcnd _
  have hval : ∀ (j : Nat) t v, Try.f8.params[j]? = some t → args[j]? = some v → Value.okWide Try.prog W .any base t v := hval0
  have hW' := hW
  obtain ⟨p, q, hA0, hV, rfl, hfz, hnd⟩ := hW
  have hA : DataW.TrodAll enc Try.prog W 0 (fun _ => true) true Try.f8.params.toList args.toList ds p := hA0
  rw [Try.params8] at hA hval
  obtain ⟨v0, vs0, d0, ds0, p0, q0, hargs, rfl, rfl, h0, r0⟩ := trodAll_cons hA
  obtain ⟨rfl, rfl, rfl⟩ := trodAll_nil r0
  obtain rfl : args = #[v0] := by cases args; simp_all
  obtain ⟨rfl, rfl⟩ := trodVars_none hV
  obtain ⟨a0, len0, cap0, rfl⟩ := okWide_slice Try.underlying22 (hval 0 22 v0 rfl rfl)
  have k0 := h0
  have lt0 : ∀ x ∈ p0, x.block < W.heap.size := by obtain ⟨m, hm⟩ := k0; exact DataW.trod_lt m _ _ _ hm
  obtain ⟨z0, w0⟩ : ∃ zs, IsRow .u8 W a0 len0 cap0 zs := by
    obtain ⟨fuel, hf⟩ := h0
    rcases open_ints Try.underlying22 Try.underlying5 (by kernel_rfl) hf with ⟨hcs, _⟩ | ⟨x, l, c, zs, hcs, _, hl, hm, hz, _, hcell, hwz⟩
    · simp [Value.cells] at hcs
      obtain ⟨rfl, rfl, rfl⟩ := hcs
      exact ⟨[], .inl ⟨rfl, rfl, rfl, rfl⟩⟩
    · simp [Value.cells] at hcs
      obtain ⟨rfl, rfl, rfl⟩ := hcs
      exact ⟨zs, .inr ⟨_, rfl, hl, hm, by simpa using hz, hcell, hwz⟩⟩
  clear hA0 hval0
  refine (walk _ _ W (RdBytes.of_row w0)).mono fun e W' ⟨he, bel⟩ => ?_
  subst he
  exact ⟨_, rfl, _, _, _, [], _, [], hW', trodAll_mk1 (shut_bool Try.underlying4 _), (trodAll_cons_mk (Below.trod Try.laidOut (by kernel_rfl) (of_decide_eq_true (by kernel_rfl)) k0 bel lt0) trodAll_mk0), rfl, bel.frame _, fun h => by cases h⟩

theorem closed : joinedFacts Try.pinned.checked.prog 8 Try.f8 Rows.fnTrickTwiceSpec Rows.fnTrickTwiceRow = true := by
  unfold joinedFacts
  exact (and_tt (and_tt (and_tt (and_tt (and_tt (and_tt (and_tt (and_tt (and_tt (and_tt (and_tt (and_tt (and_tt (and_tt (and_tt (and_tt (and_tt (and_tt (and_tt (and_tt (and_tt (and_tt (and_tt (and_tt (and_tt (and_tt (and_tt (and_tt (and_tt (and_tt (and_tt (by kernel_rfl) (by kernel_rfl)) (by kernel_rfl)) (by kernel_rfl)) (by kernel_rfl)) (by kernel_rfl)) (by kernel_rfl)) (by kernel_rfl)) (by kernel_rfl)) (by kernel_rfl)) (by kernel_rfl)) (by kernel_rfl)) (by kernel_rfl)) (by kernel_rfl)) (by kernel_rfl)) (by kernel_rfl)) (by kernel_rfl)) (by kernel_rfl)) (by kernel_rfl)) (by kernel_rfl)) (by kernel_rfl)) (by kernel_rfl)) (by kernel_rfl)) (by kernel_rfl)) (by kernel_rfl)) Try.mayEnter0) (lifted_tt Try.lifts0 rfl)) (make_tt Try.make0 rfl)) (by kernel_rfl)) (by kernel_rfl)) (by kernel_rfl)) (by kernel_rfl))
theorem over : Rows.fnTrickTwiceRow.holds Try.pinned (OpenSpec.ofChange Rows.fnTrickTwiceSpec) :=
  OpenClaim.holds_of_wide 8 Try.f8 rfl rfl rfl rfl rfl rfl rfl ⟨rfl, rfl, rfl, rfl, rfl⟩ rfl rfl rfl rfl rfl (by kernel_rfl) Try.func8 closed
    (of_decide_eq_true (by kernel_rfl)) (by unfold Func.isWrapper; first | (rw [if_pos (by decide +kernel)]; kernel_rfl) | (rw [if_neg (by decide +kernel)]; exact ⟨rfl, rfl⟩))
    (fun os started H enc _ => lifted os started H enc)

theorem proved : Rows.FnTrickTwiceSaid := over
end Go.Proofs.Ytemldnjpcnogpaa.fnTrickTwice

