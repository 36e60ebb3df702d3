/- A law of stage 8: in a language that is known it is the trick. It answers true, whatever the code. No condition. -/
import Derived.Test.YtbcmepcjhobemaaDrawStr
import Derived.Test.YtbcmepcjhobemaaStrI
import Derived.Test.YtbcmepcjhobemaaAskI
import Derived.Test.YtbcmepcjhobemaaTruthI
import Derived.Test.YtbcmepcjhobemaaLawsA
import Derived.Deep.RegionHeld3
import Derived.Deep.Cut
namespace Go.Proofs.Ytbcmepcjhobemaa
open Go.RowKit Go.Joins
theorem shift_facts8 {p k : Int} (h : l8V p k = true) : ∃ P Q L N : Nat, p = P ∧ P = Q + 1 ∧ L = 2 ^ Q ∧ N = 2 ^ P ∧ N = 2 * L ∧ 1 ≤ Q ∧ Q ≤ 3 ∧ L ≤ 8 ∧ (p - 1).toNat = Q ∧ IntKind.i64.wrap (p - 1) = (Q : Int) ∧ wrap64 (2 ^ Q) = (L : Int) ∧ IntKind.i64.wrap (2 ^ Q) = (L : Int) ∧ wrap64 (2 ^ P) = (N : Int) ∧ IntKind.i64.wrap (2 ^ P) = (N : Int) := by
  obtain ⟨h2, h4, _, _⟩ := l8V_iff.1 h
  have hp : p = 2 ∨ p = 3 ∨ p = 4 := by omega
  rcases hp with rfl | rfl | rfl
  · exact ⟨2, 1, 2, 4, by decide, by decide, by decide, by decide, by decide, by decide, by decide, by decide, by decide, by decide +kernel, by decide +kernel, by decide +kernel, by decide +kernel, by decide +kernel⟩
  · exact ⟨3, 2, 4, 8, by decide, by decide, by decide, by decide, by decide, by decide, by decide, by decide, by decide, by decide +kernel, by decide +kernel, by decide +kernel, by decide +kernel, by decide +kernel⟩
  · exact ⟨4, 3, 8, 16, by decide, by decide, by decide, by decide, by decide, by decide, by decide, by decide, by decide, by decide +kernel, by decide +kernel, by decide +kernel, by decide +kernel, by decide +kernel⟩
theorem wOk_nat8 {P N W : Nat} (h1 : 1 ≤ P) (h4 : P ≤ 4) (hN : N = 2 ^ P) (hW : W < N) : wOk (P : Int) (W : Int) = true :=
  wOk_iff.2 ⟨by omega, by omega, by omega, by rw [Int.toNat_natCast]; rw [hN] at hW; exact_mod_cast hW⟩
theorem str_len8b (p k : Int) (ms : List (Int × Int)) : (strV p k ms).length ≤ 15 := by
  unfold strV
  cases h : strOk p k ms with
  | false => rw [if_neg (by simp)]; simp
  | true =>
    rw [if_pos rfl]
    exact (termOk_iff.1 (str_parts h).2.2.1).2.1
theorem I64s_strV8b {p k : Int} {ms : List (Int × Int)} (hi : I64s ms) : I64s (strV p k ms) := by
  unfold strV
  cases h : strOk p k ms with
  | false => rw [if_neg (by simp)]; intro m hm; simp at hm
  | true =>
    rw [if_pos rfl]
    obtain ⟨h1, h2, h3, h4⟩ := l8V_iff.1 (str_parts h).1
    exact I64s_str8 (I64_small (by omega) (by omega)) (I64_small (by omega) (by omega)) hi
theorem strV_no8 {p k : Int} {ms : List (Int × Int)} (h : strOk p k ms = false) : strV p k ms = [] := by unfold strV; rw [h]; rfl
theorem strV_yes8 {p k : Int} {ms : List (Int × Int)} (h : strOk p k ms = true) : strV p k ms = strL p k ms := by unfold strV; rw [h]; rfl
theorem trick_len7 (p k : Int) (ms : List (Int × Int)) : (ctermV p (k, ms)).length ≤ 15 := by
  cases h : claimOk p (k, ms) with
  | false => rw [ctermV_no h]; simp
  | true =>
    have := (claimOk_iff.1 h).2.2.2
    rw [ctermV_yes h, cterm_len2]
    exact Nat.add_le_add_right this 2
theorem same_law8 {p k : Int} {ms : List (Int × Int)} (h : strOk p k ms = true) : ∃ P Q L N : Nat, p = P ∧ Q ≤ 3 ∧ P ≤ 4 ∧ L ≤ N ∧ N ≤ 16 ∧ IntKind.i64.wrap (p - 1) = (Q : Int) ∧ wrap64 (2 ^ Q) = (L : Int) ∧ IntKind.i64.wrap (2 ^ Q) = (L : Int) ∧ wrap64 (2 ^ P) = (N : Int) ∧ IntKind.i64.wrap (2 ^ P) = (N : Int) ∧
    ∀ W : Nat, L ≤ W → W < N → ansN p k (strV p k ms) W = wordN p k (strV p k ms) W ∧ (claimOk p (k, ms) = true → ansN p k (ctermV p (k, ms)) W = wordN p k (strV p k ms) W) := by
  obtain ⟨h8, ht, hs, _, _⟩ := str_parts h
  obtain ⟨P, Q, L, N, e1, e2, e3, e4, e5, e6, e7, e8, e9, e10, e11, e12, e13, e14⟩ := shift_facts8 h8
  refine ⟨P, Q, L, N, e1, e7, by omega, by omega, by omega, e10, e11, e12, e13, e14, fun W hL hN => ?_⟩
  have hW : wOk p (W : Int) = true := by rw [e1]; exact wOk_nat8 (by omega) (by omega) e4 hN
  have hb : (W : Int).toNat.testBit (p - 1).toNat = true := by
    rw [Int.toNat_natCast, e9, Nat.testBit_eq_decide_div_mod_eq, decide_eq_true_eq, ← e3]
    have h1 : W / L = 1 := by
      rw [Nat.div_eq_iff (by have := Nat.two_pow_pos Q; omega)]
      omega
    rw [h1]
  obtain ⟨h1, h2⟩ := str_same h hW hb
  rw [strV_yes8 h]
  exact ⟨h1.symm, fun hc => by rw [ctermV_yes hc]; exact h2 hc⟩
end Go.Proofs.Ytbcmepcjhobemaa
namespace Go.Proofs.Ytbcmepcjhobemaa.fnStrangeSame
open Go.ChangeShapes Go.WideShapes Go.ChangeAt Go.RowKit Go.Joins
attribute [local irreducible] holds tabN tabV holdsV sameV followsV alwaysV matterV mirV mirOk mcells tmOf claimOk mayT mayV ctabV ctabN storyV storyOk storyN storyT ctermV ctermL denyV denyOk ccells ansN inOk chainL chainOk chainV alikeV liesN matterN matters l8V wordT wordN strL strOk strV wtabN wtabV
open Go.ChangeMaps (open_string shut_string)
set_option linter.unusedVariables false
set_option maxRecDepth 100000 in
set_option maxHeartbeats 8000000 in
theorem walk (a0 : Value) (n0 : Nat) (w : World) (w0 : RdBytes w w.heap.size a0 n0) :
    Calls Try.prog 6 #[a0] w fun e w' => e = .returned (.bool true) ∧ Below w.heap.size w w' := by
  have hr := w0
  by_cases hbig : n0 ≤ 1048576
  case neg =>
    obtain ⟨ao, cap, rfl, hl, hm, hc⟩ := w0
    have hbig' := code_big hbig
    unfold maxLen at hm
    clear hc hr hbig
    go_enter Try.func6, Try.ntmps6
    go_wp2
    go_ret
    exact ⟨rfl, Below.refl _ _⟩
  have hbig' : (n0 : Int) ≤ 1048576 := by omega
  clear hbig
  obtain ⟨ao, cap, rfl, hl, hm, hc⟩ := w0
  have Hr := Lib.hid hr
  clear hc hr hl hm
  go_enter Try.func6, Try.ntmps6
  go_wp2_with fail
  refine (drawStrangeTerm _ _ _ Hr.out).mono ?_
  rintro e w1 ⟨p, k, g, cp, ms, hp1, hp4, hk0, hk8, rfl, hown, hi, hn, hB1⟩
  have HO1 := Lib.hid hown
  have Hi := Lib.hid hi
  have HK : Hid (I64 k) := I64_small (by omega) (by omega)
  clear hown hi
  have him := fun B u W h h2 => implStrangeTerm p k ms HK.out (by omega) B u W h h2
  have htr := fun B u W h h2 => implTrickTerm p k ms HK.out (by omega) B u W h h2
  have hxl := str_len8b p k ms
  have Hxi := Lib.hid (I64s_strV8b (p := p) (k := k) Hi.out)
  have hyl := trick_len7 p k ms
  have Hyi := Lib.hid (I64s_ctermV7 (p := p) (k := k) Hi.out)
  have hla := fun (h : strOk p k ms = true) => same_law8 h
  generalize strV p k ms = xs at *
  generalize ctermV p (k, ms) = ys at *
  generalize strOk p k ms = c at *
  generalize claimOk p (k, ms) = can at *
  have Him := Lib.hid him
  have Htr := Lib.hid htr
  clear him htr
  go_wp2_with fail
  refine (Him.out _ _ _ (RdMarks.of_own HO1.out Hi.out) (Nat.le_refl _)).mono ?_
  rintro e w2 ⟨vA, rfl, hoA, hb2⟩
  have HO2 := Lib.hid (own_below HO1.out hb2)
  have hB2 : Below w.heap.size w w2 := hB1.trans (hb2.mono hB1.size)
  obtain ⟨fA, gA, hfA⟩ := own_len hoA
  subst hfA
  have HA2 := Lib.hid hoA
  clear hb2 hoA
  cases c with
  | false =>
    clear hla
    go_wp2_with fail
    refine (alive _).mono ?_
    rintro e w' ⟨rfl, rfl⟩
    go_wp2
    go_ret
    exact ⟨rfl, hB2⟩
  | true =>
    obtain ⟨P, Q, L, N, rfl, hQ3, hP4, hLN, hN16, hwp, hsh, hsh2, hshN, hshN2, hall⟩ := hla rfl
    have Hall := Lib.hid hall
    have hmn : min Q 64 = Q := by omega
    have hmnP : min P 64 = P := by omega
    clear hla hall Him hsh2 hshN2
    go_wp2_with fail
    refine (Htr.out _ _ _ (RdMarks.of_own HO2.out Hi.out) (Nat.le_refl _)).mono ?_
    rintro e w3 ⟨vB, rfl, hoB, hb3⟩
    have HO3 := Lib.hid (own_below HO2.out hb3)
    have HA3 := Lib.hid (own_below HA2.out hb3)
    have hB3 : Below w.heap.size w w3 := hB2.trans (hb3.mono hB2.size)
    obtain ⟨fB, gB, hfB⟩ := own_len hoB
    subst hfB
    have HB3 := Lib.hid hoB
    clear hb3 hoB
    have HB3' := Lib.hid hB3
    clear hB1 hB2 hB3 HO1 HO2 HA2 HO3 Htr
    go_wp2
    rw [hsh]
    clear hsh
    go_loopw [10] (fun x wr => ∃ W : Nat, L ≤ W ∧ W ≤ N ∧ x = .int .i64 W ∧ Below w3.heap.size w3 wr) (fun x _ => N - (intOf x).toNat)
    case atStart => exact ⟨L, Nat.le_refl _, hLN, rfl, Below.refl _ _⟩
    case round =>
      obtain ⟨W, hLW, hW, rfl, hbr⟩ := hrel
      have hsr := hbr.size
      have Hbr := Lib.hid hbr
      have HAr := Lib.hid (own_below HA3.out hbr)
      have HBr := Lib.hid (own_below HB3.out hbr)
      clear hbr
      by_cases hlt : W < N
      · obtain ⟨hA1, hA2⟩ := Hall.out W hLW hlt
        have hwo := fun B u W' h h2 => implWordIn P k W xs B u W' h h2
        have hax := fun B u W' h h2 => implAnswerIn P k W xs B u W' h h2
        have hay := fun B u W' h h2 => implAnswerIn P k W ys B u W' h h2
        have hne1 : (wordN P k xs W != ansN P k xs W) = false := by rw [hA1]; simp
        have hne2 : can = true → (ansN P k ys W != wordN P k xs W) = false := fun h => by rw [hA2 h]; simp
        have Hwo := Lib.hid hwo
        have Hax := Lib.hid hax
        have Hay := Lib.hid hay
        clear hwo hax hay hA1 hA2
        generalize wordN P k xs W = v at *
        generalize ansN P k xs W = a at *
        generalize ansN P k ys W = d at *
        cases can with
        | false =>
          clear hne2
          go_wp2_with fail
          refine (Hwo.out _ _ _ (RdMarks.of_own HAr.out Hxi.out) (Nat.le_refl _)).mono ?_
          rintro e w5 ⟨rfl, hb5⟩
          have HA5 := Lib.hid (own_below HAr.out hb5)
          have Hb5 := Lib.hid (Hbr.out.trans (hb5.mono hsr))
          clear hb5
          clear hshN
          go_wp2_with fail
          refine (Hax.out _ _ _ (RdMarks.of_own HA5.out Hxi.out) (Nat.le_refl _)).mono ?_
          rintro e w6 ⟨rfl, hb6⟩
          have Hb6 := Lib.hid (Hb5.out.trans (hb6.mono Hb5.out.size))
          clear hb6
          go_wp2
          go_roundw
          case rel => first | exact ⟨W + 1, Nat.le_succ_of_le hLW, hlt, by go_num, Hb6.out⟩ | ((repeat apply Exists.intro); exact ⟨⟨W + 1, Nat.le_succ_of_le hLW, hlt, by go_num, Hb6.out⟩, rfl⟩)
          case measure => simp [intOf]; omega
        | true =>
          have hne3 := hne2 rfl
          clear hne2
          go_wp2_with fail
          refine (Hwo.out _ _ _ (RdMarks.of_own HAr.out Hxi.out) (Nat.le_refl _)).mono ?_
          rintro e w5 ⟨rfl, hb5⟩
          have HA5 := Lib.hid (own_below HAr.out hb5)
          have HB5 := Lib.hid (own_below HBr.out hb5)
          have Hb5 := Lib.hid (Hbr.out.trans (hb5.mono hsr))
          clear hb5
          clear hshN
          go_wp2_with fail
          refine (Hax.out _ _ _ (RdMarks.of_own HA5.out Hxi.out) (Nat.le_refl _)).mono ?_
          rintro e w6 ⟨rfl, hb6⟩
          have HA6 := Lib.hid (own_below HA5.out hb6)
          have HB6 := Lib.hid (own_below HB5.out hb6)
          have Hb6 := Lib.hid (Hb5.out.trans (hb6.mono Hb5.out.size))
          clear hb6
          go_wp2_with fail
          refine (Hay.out _ _ _ (RdMarks.of_own HB6.out Hyi.out) (Nat.le_refl _)).mono ?_
          rintro e w7 ⟨rfl, hb7⟩
          have HA7 := Lib.hid (own_below HA6.out hb7)
          have Hb7 := Lib.hid (Hb6.out.trans (hb7.mono Hb6.out.size))
          clear hb7
          go_wp2_with fail
          refine (Hwo.out _ _ _ (RdMarks.of_own HA7.out Hxi.out) (Nat.le_refl _)).mono ?_
          rintro e w8 ⟨rfl, hb8⟩
          have Hb8 := Lib.hid (Hb7.out.trans (hb8.mono Hb7.out.size))
          clear hb8
          go_wp2
          go_roundw
          case rel => first | exact ⟨W + 1, Nat.le_succ_of_le hLW, hlt, by go_num, Hb8.out⟩ | ((repeat apply Exists.intro); exact ⟨⟨W + 1, Nat.le_succ_of_le hLW, hlt, by go_num, Hb8.out⟩, rfl⟩)
          case measure => simp [intOf]; omega
      · obtain rfl : W = N := Nat.le_antisymm hW (Nat.le_of_not_lt hlt)
        go_wp2_with fail
        refine (alive _).mono ?_
        rintro e w' ⟨rfl, rfl⟩
        go_wp2
        go_ret
        exact ⟨rfl, HB3'.out.trans (Hbr.out.mono HB3'.out.size)⟩

set_option maxRecDepth 100000 in
theorem lifted (os : Os) (started : os.Started) (H : Type) (enc : TypeId × Value → H) :
    ReturnsInHanded {} Try.checked os 6 .any (Rows.fnStrangeSameSpec.pre6 enc Try.prog Try.f6 Rows.fnStrangeSameRow.domain false) (Rows.fnStrangeSameSpec.post enc Try.prog Try.f6 false true false false) := by
  refine returnsInHanded_of_change (C := Try.checked) Try.own started (by kernel_rfl) Try.func6
    (ChangeSpec.witness6 (enc := enc) (C := Try.checked) false ⟨#[], #[.slice none 0 0], []⟩ 8 (by kernel_rfl) (by kernel_rfl) (by kernel_rfl) (by kernel_rfl)) ?_
  intro W base args ds gs before hval0 hW hcnd _
  have hval : ∀ (j : Nat) t v, Try.f6.params[j]? = some t → args[j]? = some v → Value.okWide Try.prog W .any base t v := hval0
  have hW' := hW
  obtain ⟨p, q, hA0, hV, rfl, hfz, hnd⟩ := hW
  have hA : DataW.TrodAll enc Try.prog W 0 (fun _ => true) true Try.f6.params.toList args.toList ds p := hA0
  rw [Try.params6] at hA hval
  obtain ⟨v0, vs0, d0, ds0, p0, q0, hargs, rfl, rfl, h0, r0⟩ := trodAll_cons hA
  obtain ⟨rfl, rfl, rfl⟩ := trodAll_nil r0
  obtain rfl : args = #[v0] := by cases args; simp_all
  obtain ⟨rfl, rfl⟩ := trodVars_none hV
  obtain ⟨a0, len0, cap0, rfl⟩ := okWide_slice Try.underlying22 (hval 0 22 v0 rfl rfl)
  have k0 := h0
  have lt0 : ∀ x ∈ p0, x.block < W.heap.size := by obtain ⟨m, hm⟩ := k0; exact DataW.trod_lt m _ _ _ hm
  obtain ⟨z0, w0⟩ : ∃ zs, IsRow .u8 W a0 len0 cap0 zs := by
    obtain ⟨fuel, hf⟩ := h0
    rcases open_ints Try.underlying22 Try.underlying5 (by kernel_rfl) hf with ⟨hcs, _⟩ | ⟨x, l, c, zs, hcs, _, hl, hm, hz, _, hcell, hwz⟩
    · simp [Value.cells] at hcs
      obtain ⟨rfl, rfl, rfl⟩ := hcs
      exact ⟨[], .inl ⟨rfl, rfl, rfl, rfl⟩⟩
    · simp [Value.cells] at hcs
      obtain ⟨rfl, rfl, rfl⟩ := hcs
      exact ⟨zs, .inr ⟨_, rfl, hl, hm, by simpa using hz, hcell, hwz⟩⟩
  clear hA0 hval0
  refine (walk _ _ W (RdBytes.of_row w0)).mono fun e W' ⟨he, bel⟩ => ?_
  subst he
  exact ⟨_, rfl, _, _, _, [], _, [], hW', trodAll_mk1 (shut_bool Try.underlying4 _), (trodAll_cons_mk (Below.trod Try.laidOut (by kernel_rfl) (of_decide_eq_true (by kernel_rfl)) k0 bel lt0) trodAll_mk0), rfl, bel.frame _, fun h => by cases h⟩

theorem closed : joinedFacts Try.pinned.checked.prog 6 Try.f6 Rows.fnStrangeSameSpec Rows.fnStrangeSameRow = true := by
  unfold joinedFacts
  exact (and_tt (and_tt (and_tt (and_tt (and_tt (and_tt (and_tt (and_tt (and_tt (and_tt (and_tt (and_tt (and_tt (and_tt (and_tt (and_tt (and_tt (and_tt (and_tt (and_tt (and_tt (and_tt (and_tt (and_tt (and_tt (and_tt (and_tt (and_tt (and_tt (and_tt (and_tt (by kernel_rfl) (by kernel_rfl)) (by kernel_rfl)) (by kernel_rfl)) (by kernel_rfl)) (by kernel_rfl)) (by kernel_rfl)) (by kernel_rfl)) (by kernel_rfl)) (by kernel_rfl)) (by kernel_rfl)) (by kernel_rfl)) (by kernel_rfl)) (by kernel_rfl)) (by kernel_rfl)) (by kernel_rfl)) (by kernel_rfl)) (by kernel_rfl)) (by kernel_rfl)) (by kernel_rfl)) (by kernel_rfl)) (by kernel_rfl)) (by kernel_rfl)) (by kernel_rfl)) (by kernel_rfl)) Try.mayEnter0) (lifted_tt Try.lifts0 rfl)) (make_tt Try.make0 rfl)) (by kernel_rfl)) (by kernel_rfl)) (by kernel_rfl)) (by kernel_rfl))
theorem over : Rows.fnStrangeSameRow.holds Try.pinned (OpenSpec.ofChange Rows.fnStrangeSameSpec) :=
  OpenClaim.holds_of_wide 6 Try.f6 rfl rfl rfl rfl rfl rfl rfl ⟨rfl, rfl, rfl, rfl, rfl⟩ rfl rfl rfl rfl rfl (by kernel_rfl) Try.func6 closed
    (of_decide_eq_true (by kernel_rfl)) (by unfold Func.isWrapper; first | (rw [if_pos (by decide +kernel)]; kernel_rfl) | (rw [if_neg (by decide +kernel)]; exact ⟨rfl, rfl⟩))
    (fun os started H enc _ => lifted os started H enc)

theorem proved : Rows.FnStrangeSameSaid := over
end Go.Proofs.Ytbcmepcjhobemaa.fnStrangeSame

