/- A law of stage 8: one question in any language is enough. It answers true, whatever the code. No condition. -/
import Derived.Test.YtbcmepcjhobemaaDrawStr
import Derived.Test.YtbcmepcjhobemaaStrI
import Derived.Test.YtbcmepcjhobemaaAskI
import Derived.Test.YtbcmepcjhobemaaTruthI
import Derived.Test.YtbcmepcjhobemaaLawsA
import Derived.Deep.RegionHeld3
import Derived.Deep.Cut
import Derived.Test.YtbcmepcjhobemaaMarksB
namespace Go.Proofs.Ytbcmepcjhobemaa
open Go.RowKit Go.Joins
theorem shift_facts8 {p k : Int} (h : l8V p k = true) : ∃ P Q L N : Nat, p = P ∧ P = Q + 1 ∧ L = 2 ^ Q ∧ N = 2 ^ P ∧ N = 2 * L ∧ 1 ≤ Q ∧ Q ≤ 3 ∧ L ≤ 8 ∧ (p - 1).toNat = Q ∧ IntKind.i64.wrap (p - 1) = (Q : Int) ∧ wrap64 (2 ^ Q) = (L : Int) ∧ IntKind.i64.wrap (2 ^ Q) = (L : Int) ∧ wrap64 (2 ^ P) = (N : Int) ∧ IntKind.i64.wrap (2 ^ P) = (N : Int) := by
  obtain ⟨h2, h4, _, _⟩ := l8V_iff.1 h
  have hp : p = 2 ∨ p = 3 ∨ p = 4 := by omega
  rcases hp with rfl | rfl | rfl
  · exact ⟨2, 1, 2, 4, by decide, by decide, by decide, by decide, by decide, by decide, by decide, by decide, by decide, by decide +kernel, by decide +kernel, by decide +kernel, by decide +kernel, by decide +kernel⟩
  · exact ⟨3, 2, 4, 8, by decide, by decide, by decide, by decide, by decide, by decide, by decide, by decide, by decide, by decide +kernel, by decide +kernel, by decide +kernel, by decide +kernel, by decide +kernel⟩
  · exact ⟨4, 3, 8, 16, by decide, by decide, by decide, by decide, by decide, by decide, by decide, by decide, by decide, by decide +kernel, by decide +kernel, by decide +kernel, by decide +kernel, by decide +kernel⟩
theorem wOk_nat8 {P N W : Nat} (h1 : 1 ≤ P) (h4 : P ≤ 4) (hN : N = 2 ^ P) (hW : W < N) : wOk (P : Int) (W : Int) = true :=
  wOk_iff.2 ⟨by omega, by omega, by omega, by rw [Int.toNat_natCast]; rw [hN] at hW; exact_mod_cast hW⟩
theorem str_len8b (p k : Int) (ms : List (Int × Int)) : (strV p k ms).length ≤ 15 := by
  unfold strV
  cases h : strOk p k ms with
  | false => rw [if_neg (by simp)]; simp
  | true =>
    rw [if_pos rfl]
    exact (termOk_iff.1 (str_parts h).2.2.1).2.1
theorem I64s_strV8b {p k : Int} {ms : List (Int × Int)} (hi : I64s ms) : I64s (strV p k ms) := by
  unfold strV
  cases h : strOk p k ms with
  | false => rw [if_neg (by simp)]; intro m hm; simp at hm
  | true =>
    rw [if_pos rfl]
    obtain ⟨h1, h2, h3, h4⟩ := l8V_iff.1 (str_parts h).1
    exact I64s_str8 (I64_small (by omega) (by omega)) (I64_small (by omega) (by omega)) hi
theorem strV_no8 {p k : Int} {ms : List (Int × Int)} (h : strOk p k ms = false) : strV p k ms = [] := by unfold strV; rw [h]; rfl
theorem strV_yes8 {p k : Int} {ms : List (Int × Int)} (h : strOk p k ms = true) : strV p k ms = strL p k ms := by unfold strV; rw [h]; rfl
theorem str_law8 {p k : Int} {ms : List (Int × Int)} (h : strOk p k ms = true) : ∃ P N : Nat, p = P ∧ N = 2 ^ P ∧ N ≤ 16 ∧ 1 ≤ P ∧ P ≤ 4 ∧ termOk p (strL p k ms) = true ∧ (∀ W : Nat, W < N → (wordN p k (strL p k ms) W == 1) = holdsV p ms W) ∧ (strL p k ms).length = ms.length + 4 := by
  obtain ⟨h8, ht, hs, _, _⟩ := str_parts h
  obtain ⟨h2, h4, _, _⟩ := l8V_iff.1 h8
  obtain ⟨P, rfl⟩ := Int.eq_ofNat_of_zero_le (show 0 ≤ p by omega)
  exact ⟨P, 2 ^ P, rfl, rfl, two16 (by omega), by omega, by omega, hs, fun W hW => str_says h (wOk_nat8 (by omega) (by omega) rfl hW), strL_len _ _ _⟩
end Go.Proofs.Ytbcmepcjhobemaa
namespace Go.Proofs.Ytbcmepcjhobemaa.fnStrangeTerm
open Go.ChangeShapes Go.WideShapes Go.ChangeAt Go.RowKit Go.Joins
attribute [local irreducible] holds tabN tabV holdsV sameV followsV alwaysV matterV mirV mirOk mcells tmOf claimOk mayT mayV ctabV ctabN storyV storyOk storyN storyT ctermV ctermL denyV denyOk ccells ansN inOk chainL chainOk chainV alikeV liesN matterN matters l8V wordT wordN strL strOk strV wtabN wtabV
open Go.ChangeMaps (open_string shut_string)
set_option linter.unusedVariables false
set_option maxRecDepth 100000 in
set_option maxHeartbeats 8000000 in
theorem walk (a0 : Value) (n0 : Nat) (w : World) (w0 : RdBytes w w.heap.size a0 n0) :
    Calls Try.prog 4 #[a0] w fun e w' => e = .returned (.bool true) ∧ Below w.heap.size w w' := by
  have hr := w0
  by_cases hbig : n0 ≤ 1048576
  case neg =>
    obtain ⟨ao, cap, rfl, hl, hm, hc⟩ := w0
    have hbig' := code_big hbig
    unfold maxLen at hm
    clear hc hr hbig
    go_enter Try.func4, Try.ntmps4
    go_wp2
    go_ret
    exact ⟨rfl, Below.refl _ _⟩
  have hbig' : (n0 : Int) ≤ 1048576 := by omega
  clear hbig
  obtain ⟨ao, cap, rfl, hl, hm, hc⟩ := w0
  have Hr := Lib.hid hr
  clear hc hr hl hm
  go_enter Try.func4, Try.ntmps4
  go_wp2_with fail
  refine (drawStrangeTerm _ _ _ Hr.out).mono ?_
  rintro e w1 ⟨p, k, g, cp, ms, hp1, hp4, hk0, hk8, rfl, hown, hi, hn, hB1⟩
  have HO1 := Lib.hid hown
  have Hi := Lib.hid hi
  have HK : Hid (I64 k) := I64_small (by omega) (by omega)
  clear hown hi
  have him := fun B u W h h2 => implStrangeTerm p k ms HK.out (by omega) B u W h h2
  have hsp := fun B u W h h2 => specStrangeTerm p k ms HK.out (by omega) B u W h h2
  have hxl := str_len8b p k ms
  have Hxi := Lib.hid (I64s_strV8b (p := p) (k := k) Hi.out)
  have hno := fun (h : strOk p k ms = false) => strV_no8 h
  have hyes := fun (h : strOk p k ms = true) => strV_yes8 h
  have hla := fun (h : strOk p k ms = true) => str_law8 h
  generalize strV p k ms = xs at *
  generalize strOk p k ms = c at *
  have Him := Lib.hid him
  have Hsp := Lib.hid hsp
  clear him hsp
  go_wp2_with fail
  refine (Him.out _ _ _ (RdMarks.of_own HO1.out Hi.out) (Nat.le_refl _)).mono ?_
  rintro e w2 ⟨vA, rfl, hoA, hb2⟩
  have HO2 := Lib.hid (own_below HO1.out hb2)
  have hB2 : Below w.heap.size w w2 := hB1.trans (hb2.mono hB1.size)
  obtain ⟨fA, gA, hfA⟩ := own_len hoA
  subst hfA
  have HA2 := Lib.hid hoA
  clear hb2 hoA
  go_wp2_with fail
  refine (Hsp.out _ _ _ (RdMarks.of_own HO2.out Hi.out) (Nat.le_refl _)).mono ?_
  rintro e w3 ⟨vB, rfl, hoB, hb3⟩
  have HO3 := Lib.hid (own_below HO2.out hb3)
  have HA3 := Lib.hid (own_below HA2.out hb3)
  have hB3 : Below w.heap.size w w3 := hB2.trans (hb3.mono hB2.size)
  obtain ⟨fB, gB, hfB⟩ := own_len hoB
  subst hfB
  have HB3 := Lib.hid hoB
  clear hb3 hoB
  go_wp2_with fail
  refine (sameMarks xs xs _ _ _ _ _ (RdMarks.of_own HA3.out Hxi.out) (RdMarks.of_own HB3.out Hxi.out)).mono ?_
  rintro e w4 ⟨rfl, n4, hw4⟩
  rw [show decide (xs = xs) = true from by simp]
  have hb4 : Below w3.heap.size w3 w4 := by rw [← hw4]; exact below_drewN (Below.refl _ _) _
  have HO4 := Lib.hid (own_below HO3.out hb4)
  have HA4 := Lib.hid (own_below HA3.out hb4)
  have hB4 : Below w.heap.size w w4 := hB3.trans (hb4.mono hB3.size)
  clear hw4 hb4 n4 hB3
  cases c with
  | false =>
    have hx := hno rfl
    subst hx
    clear hno hyes hla Him Hsp
    go_wp2_with fail
    refine (alive _).mono ?_
    rintro e w' ⟨rfl, rfl⟩
    go_wp2
    go_ret
    exact ⟨rfl, hB4⟩
  | true =>
    obtain ⟨P, N, rfl, hN, hN16, hP1, hP4, hxo, hla2, hl2⟩ := hla rfl
    rw [← hyes rfl] at hxo hla2 hl2
    clear hno hyes hla Him Hsp
    have Hla := Lib.hid hla2
    have hto := fun B u W h h2 => implTermOk P xs B u W h h2
    rw [hxo] at hto
    have Hto := Lib.hid hto
    have hsh : wrap64 (2 ^ P) = (N : Int) := by
      have h : P = 1 ∨ P = 2 ∨ P = 3 ∨ P = 4 := by omega
      rw [hN]
      rcases h with rfl | rfl | rfl | rfl <;> decide +kernel
    have hmn : min P 64 = P := by omega
    have hlw : IntKind.i64.wrap ((ms.length : Int) + 4) = (ms.length : Int) + 4 := IntWalk.i64_in _ (by omega)
    have hle : ((xs.length : Int) == (ms.length : Int) + 4) = true := by rw [beq_iff_eq]; omega
    have HB4' := Lib.hid hB4
    clear hl2 hla2 hto hxo hN hB1 hB2 hB4 HO1 HO2 HA2 HB3 HO3 HA3
    go_wp2
    go_loopw [10] (fun x wr => ∃ W : Nat, W ≤ N ∧ x = .int .i64 W ∧ Below w4.heap.size w4 wr) (fun x _ => N - (intOf x).toNat)
    case atStart => exact ⟨0, Nat.zero_le _, rfl, Below.refl _ _⟩
    case round =>
      obtain ⟨W, hW, rfl, hbr⟩ := hrel
      have hsr := hbr.size
      have Hbr := Lib.hid hbr
      have HAr := Lib.hid (own_below HA4.out hbr)
      have HOr := Lib.hid (own_below HO4.out hbr)
      clear hbr
      by_cases hlt : W < N
      · have hA := Hla.out W hlt
        have Hal := Lib.hid (fun B u W' h h2 => implWordIn P k W xs B u W' h h2)
        have Hho := Lib.hid (fun B u W' h h2 => implHoldsIn P ms W B u W' h h2)
        generalize wordN P k xs W = a at *
        generalize holdsV P ms W = h at *
        have hhh : (h != h) = false := by simp
        go_wp2_with fail
        refine (Hal.out _ _ _ (RdMarks.of_own HAr.out Hxi.out) (Nat.le_refl _)).mono ?_
        rintro e w5 ⟨rfl, hb5⟩
        have HO5 := Lib.hid (own_below HOr.out hb5)
        have Hb5 := Lib.hid (Hbr.out.trans (hb5.mono hsr))
        clear hb5
        go_wp2_with fail
        refine (Hho.out _ _ _ (RdMarks.of_own HO5.out Hi.out) (Nat.le_refl _)).mono ?_
        rintro e w6 ⟨rfl, hb6⟩
        have Hb6 := Lib.hid (Hb5.out.trans (hb6.mono Hb5.out.size))
        clear hb6
        go_wp2
        go_roundw
        case rel => exact ⟨W + 1, by omega, by go_num, Hb6.out⟩
        case measure => simp [intOf]; omega
      · obtain rfl : W = N := by omega
        go_wp2_with fail
        refine (Hto.out _ _ _ (RdMarks.of_own HAr.out Hxi.out) (Nat.le_refl _)).mono ?_
        rintro e w5 ⟨rfl, hb5⟩
        have Hb5 := Lib.hid (HB4'.out.trans ((Hbr.out.trans (hb5.mono hsr)).mono HB4'.out.size))
        clear hb5
        go_wp2
        go_ret
        exact ⟨rfl, Hb5.out⟩

set_option maxRecDepth 100000 in
theorem lifted (os : Os) (started : os.Started) (H : Type) (enc : TypeId × Value → H) :
    ReturnsInHanded {} Try.checked os 4 .any (Rows.fnStrangeTermSpec.pre6 enc Try.prog Try.f4 Rows.fnStrangeTermRow.domain false) (Rows.fnStrangeTermSpec.post enc Try.prog Try.f4 false true false false) := by
  refine returnsInHanded_of_change (C := Try.checked) Try.own started (by kernel_rfl) Try.func4
    (ChangeSpec.witness6 (enc := enc) (C := Try.checked) false ⟨#[], #[.slice none 0 0], []⟩ 8 (by kernel_rfl) (by kernel_rfl) (by kernel_rfl) (by kernel_rfl)) ?_
  intro W base args ds gs before hval0 hW hcnd _
  have hval : ∀ (j : Nat) t v, Try.f4.params[j]? = some t → args[j]? = some v → Value.okWide Try.prog W .any base t v := hval0
  have hW' := hW
  obtain ⟨p, q, hA0, hV, rfl, hfz, hnd⟩ := hW
  have hA : DataW.TrodAll enc Try.prog W 0 (fun _ => true) true Try.f4.params.toList args.toList ds p := hA0
  rw [Try.params4] at hA hval
  obtain ⟨v0, vs0, d0, ds0, p0, q0, hargs, rfl, rfl, h0, r0⟩ := trodAll_cons hA
  obtain ⟨rfl, rfl, rfl⟩ := trodAll_nil r0
  obtain rfl : args = #[v0] := by cases args; simp_all
  obtain ⟨rfl, rfl⟩ := trodVars_none hV
  obtain ⟨a0, len0, cap0, rfl⟩ := okWide_slice Try.underlying22 (hval 0 22 v0 rfl rfl)
  have k0 := h0
  have lt0 : ∀ x ∈ p0, x.block < W.heap.size := by obtain ⟨m, hm⟩ := k0; exact DataW.trod_lt m _ _ _ hm
  obtain ⟨z0, w0⟩ : ∃ zs, IsRow .u8 W a0 len0 cap0 zs := by
    obtain ⟨fuel, hf⟩ := h0
    rcases open_ints Try.underlying22 Try.underlying5 (by kernel_rfl) hf with ⟨hcs, _⟩ | ⟨x, l, c, zs, hcs, _, hl, hm, hz, _, hcell, hwz⟩
    · simp [Value.cells] at hcs
      obtain ⟨rfl, rfl, rfl⟩ := hcs
      exact ⟨[], .inl ⟨rfl, rfl, rfl, rfl⟩⟩
    · simp [Value.cells] at hcs
      obtain ⟨rfl, rfl, rfl⟩ := hcs
      exact ⟨zs, .inr ⟨_, rfl, hl, hm, by simpa using hz, hcell, hwz⟩⟩
  clear hA0 hval0
  refine (walk _ _ W (RdBytes.of_row w0)).mono fun e W' ⟨he, bel⟩ => ?_
  subst he
  exact ⟨_, rfl, _, _, _, [], _, [], hW', trodAll_mk1 (shut_bool Try.underlying4 _), (trodAll_cons_mk (Below.trod Try.laidOut (by kernel_rfl) (of_decide_eq_true (by kernel_rfl)) k0 bel lt0) trodAll_mk0), rfl, bel.frame _, fun h => by cases h⟩

theorem closed : joinedFacts Try.pinned.checked.prog 4 Try.f4 Rows.fnStrangeTermSpec Rows.fnStrangeTermRow = true := by
  unfold joinedFacts
  exact (and_tt (and_tt (and_tt (and_tt (and_tt (and_tt (and_tt (and_tt (and_tt (and_tt (and_tt (and_tt (and_tt (and_tt (and_tt (and_tt (and_tt (and_tt (and_tt (and_tt (and_tt (and_tt (and_tt (and_tt (and_tt (and_tt (and_tt (and_tt (and_tt (and_tt (and_tt (by kernel_rfl) (by kernel_rfl)) (by kernel_rfl)) (by kernel_rfl)) (by kernel_rfl)) (by kernel_rfl)) (by kernel_rfl)) (by kernel_rfl)) (by kernel_rfl)) (by kernel_rfl)) (by kernel_rfl)) (by kernel_rfl)) (by kernel_rfl)) (by kernel_rfl)) (by kernel_rfl)) (by kernel_rfl)) (by kernel_rfl)) (by kernel_rfl)) (by kernel_rfl)) (by kernel_rfl)) (by kernel_rfl)) (by kernel_rfl)) (by kernel_rfl)) (by kernel_rfl)) (by kernel_rfl)) Try.mayEnter0) (lifted_tt Try.lifts0 rfl)) (make_tt Try.make0 rfl)) (by kernel_rfl)) (by kernel_rfl)) (by kernel_rfl)) (by kernel_rfl))
theorem over : Rows.fnStrangeTermRow.holds Try.pinned (OpenSpec.ofChange Rows.fnStrangeTermSpec) :=
  OpenClaim.holds_of_wide 4 Try.f4 rfl rfl rfl rfl rfl rfl rfl ⟨rfl, rfl, rfl, rfl, rfl⟩ rfl rfl rfl rfl rfl (by kernel_rfl) Try.func4 closed
    (of_decide_eq_true (by kernel_rfl)) (by unfold Func.isWrapper; first | (rw [if_pos (by decide +kernel)]; kernel_rfl) | (rw [if_neg (by decide +kernel)]; exact ⟨rfl, rfl⟩))
    (fun os started H enc _ => lifted os started H enc)

theorem proved : Rows.FnStrangeTermSaid := over
end Go.Proofs.Ytbcmepcjhobemaa.fnStrangeTerm

