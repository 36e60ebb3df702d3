/- A law of stage 7: one question to anybody is enough. It answers true, whatever the code. No condition. -/
import Derived.Test.YtemldnjpcnogpaaDrawA
import Derived.Test.YtemldnjpcnogpaaAskI
import Derived.Test.YtemldnjpcnogpaaTruthI
import Derived.Test.YtemldnjpcnogpaaLawsA
import Derived.Deep.RegionHeld3
import Derived.Deep.Cut
import Derived.Test.YtemldnjpcnogpaaMarksB
namespace Go.Proofs.Ytemldnjpcnogpaa
open Go.RowKit Go.Joins
theorem trick_len7 (p k : Int) (ms : List (Int × Int)) : (ctermV p (k, ms)).length ≤ 15 := by
  cases h : claimOk p (k, ms) with
  | false => rw [ctermV_no h]; simp
  | true =>
    have := (claimOk_iff.1 h).2.2.2
    rw [ctermV_yes h, cterm_len2]
    exact Nat.add_le_add_right this 2
theorem trick_law7 {p k : Int} {ms : List (Int × Int)} (h : claimOk p (k, ms) = true) : ∃ P N : Nat, p = P ∧ N = 2 ^ P ∧ N ≤ 16 ∧ 1 ≤ P ∧ P ≤ 4 ∧ termOk p (ctermL (k, ms)) = true ∧ (∀ W : Nat, W < N → (ansN p k (ctermL (k, ms)) W == 1) = holdsV p ms W) ∧ (ctermL (k, ms)).length = ms.length + 2 := by
  obtain ⟨h1, h4⟩ := p_of_claim h
  obtain ⟨P, rfl⟩ := Int.eq_ofNat_of_zero_le (show 0 ≤ p by omega)
  refine ⟨P, 2 ^ P, rfl, rfl, two16 (by omega), by omega, by omega, trick_term h, fun W hW => trick_ans h ?_, cterm_len2 _ _⟩
  exact wOk_iff.2 ⟨h1, h4, by omega, by rw [Int.toNat_natCast]; exact_mod_cast hW⟩
end Go.Proofs.Ytemldnjpcnogpaa
namespace Go.Proofs.Ytemldnjpcnogpaa.fnTrickTerm
open Go.ChangeShapes Go.WideShapes Go.ChangeAt Go.RowKit Go.Joins
attribute [local irreducible] holds tabN tabV holdsV sameV followsV alwaysV matterV mirV mirOk mcells tmOf claimOk mayT mayV ctabV ctabN storyV storyOk storyN storyT ctermV ctermL denyV denyOk ccells ansN inOk chainL chainOk chainV alikeV liesN matterN matters
open Go.ChangeMaps (open_string shut_string)
set_option linter.unusedVariables false
set_option maxRecDepth 100000 in
set_option maxHeartbeats 8000000 in
theorem walk (a0 : Value) (n0 : Nat) (w : World) (w0 : RdBytes w w.heap.size a0 n0) :
    Calls Try.prog 4 #[a0] w fun e w' => e = .returned (.bool true) ∧ Below w.heap.size w w' := by
  have hr := w0
  by_cases hbig : n0 ≤ 1048576
  case neg =>
    obtain ⟨ao, cap, rfl, hl, hm, hc⟩ := w0
    have hbig' := code_big hbig
    unfold maxLen at hm
    clear hc hr hbig
    go_enter Try.func4, Try.ntmps4
    go_wp2
    go_ret
    exact ⟨rfl, Below.refl _ _⟩
  have hbig' : (n0 : Int) ≤ 1048576 := by omega
  clear hbig
  obtain ⟨ao, cap, rfl, hl, hm, hc⟩ := w0
  have Hr := Lib.hid hr
  clear hc hr hl hm
  go_enter Try.func4, Try.ntmps4
  go_wp2_with fail
  refine (drawTrickTerm _ _ _ Hr.out).mono ?_
  rintro e w1 ⟨p, k, g, cp, ms, hp1, hp4, hk0, hk8, rfl, hown, hi, hn, hB1⟩
  have HO1 := Lib.hid hown
  have Hi := Lib.hid hi
  have HK : Hid (I64 k) := I64_small (by omega) (by omega)
  clear hown hi
  have him := fun B u W h h2 => implTrickTerm p k ms HK.out (by omega) B u W h h2
  have hsp := fun B u W h h2 => specTrickTerm p k ms HK.out (by omega) B u W h h2
  have hxl := trick_len7 p k ms
  have Hxi := Lib.hid (I64s_ctermV7 (p := p) (k := k) Hi.out)
  have hno := fun (h : claimOk p (k, ms) = false) => ctermV_no h
  have hyes := fun (h : claimOk p (k, ms) = true) => ctermV_yes h
  have hla := fun (h : claimOk p (k, ms) = true) => trick_law7 h
  generalize ctermV p (k, ms) = xs at *
  generalize claimOk p (k, ms) = c at *
  have Him := Lib.hid him
  have Hsp := Lib.hid hsp
  clear him hsp
  go_wp2_with fail
  refine (Him.out _ _ _ (RdMarks.of_own HO1.out Hi.out) (Nat.le_refl _)).mono ?_
  rintro e w2 ⟨vA, rfl, hoA, hb2⟩
  have HO2 := Lib.hid (own_below HO1.out hb2)
  have hB2 : Below w.heap.size w w2 := hB1.trans (hb2.mono hB1.size)
  obtain ⟨fA, gA, hfA⟩ := own_len hoA
  subst hfA
  have HA2 := Lib.hid hoA
  clear hb2 hoA
  go_wp2_with fail
  refine (Hsp.out _ _ _ (RdMarks.of_own HO2.out Hi.out) (Nat.le_refl _)).mono ?_
  rintro e w3 ⟨vB, rfl, hoB, hb3⟩
  have HO3 := Lib.hid (own_below HO2.out hb3)
  have HA3 := Lib.hid (own_below HA2.out hb3)
  have hB3 : Below w.heap.size w w3 := hB2.trans (hb3.mono hB2.size)
  obtain ⟨fB, gB, hfB⟩ := own_len hoB
  subst hfB
  have HB3 := Lib.hid hoB
  clear hb3 hoB
  go_wp2_with fail
  refine (sameMarks xs xs _ _ _ _ _ (RdMarks.of_own HA3.out Hxi.out) (RdMarks.of_own HB3.out Hxi.out)).mono ?_
  rintro e w4 ⟨rfl, n4, hw4⟩
  rw [show decide (xs = xs) = true from by simp]
  have hb4 : Below w3.heap.size w3 w4 := by rw [← hw4]; exact below_drewN (Below.refl _ _) _
  have HO4 := Lib.hid (own_below HO3.out hb4)
  have HA4 := Lib.hid (own_below HA3.out hb4)
  have hB4 : Below w.heap.size w w4 := hB3.trans (hb4.mono hB3.size)
  clear hw4 hb4 n4 hB3
  cases c with
  | false =>
    have hx := hno rfl
    subst hx
    clear hno hyes hla Him Hsp
    go_wp2_with fail
    refine (alive _).mono ?_
    rintro e w' ⟨rfl, rfl⟩
    go_wp2
    go_ret
    exact ⟨rfl, hB4⟩
  | true =>
    obtain ⟨P, N, rfl, hN, hN16, hP1, hP4, hxo, hla2, hl2⟩ := hla rfl
    rw [← hyes rfl] at hxo hla2 hl2
    clear hno hyes hla Him Hsp
    have Hla := Lib.hid hla2
    have hto := fun B u W h h2 => implTermOk P xs B u W h h2
    rw [hxo] at hto
    have Hto := Lib.hid hto
    have hsh : wrap64 (2 ^ P) = (N : Int) := by
      have h : P = 1 ∨ P = 2 ∨ P = 3 ∨ P = 4 := by omega
      rw [hN]
      rcases h with rfl | rfl | rfl | rfl <;> decide +kernel
    have hmn : min P 64 = P := by omega
    have hlw : IntKind.i64.wrap ((ms.length : Int) + 2) = (ms.length : Int) + 2 := IntWalk.i64_in _ (by omega)
    have hle : ((xs.length : Int) == (ms.length : Int) + 2) = true := by rw [beq_iff_eq]; omega
    have HB4' := Lib.hid hB4
    clear hl2 hla2 hto hxo hN hB1 hB2 hB4 HO1 HO2 HA2 HB3 HO3 HA3
    go_wp2
    go_loopw [10] (fun x wr => ∃ W : Nat, W ≤ N ∧ x = .int .i64 W ∧ Below w4.heap.size w4 wr) (fun x _ => N - (intOf x).toNat)
    case atStart => exact ⟨0, Nat.zero_le _, rfl, Below.refl _ _⟩
    case round =>
      obtain ⟨W, hW, rfl, hbr⟩ := hrel
      have hsr := hbr.size
      have Hbr := Lib.hid hbr
      have HAr := Lib.hid (own_below HA4.out hbr)
      have HOr := Lib.hid (own_below HO4.out hbr)
      clear hbr
      by_cases hlt : W < N
      · have hA := Hla.out W hlt
        have Hal := Lib.hid (fun B u W' h h2 => implAnswerIn P k W xs B u W' h h2)
        have Hho := Lib.hid (fun B u W' h h2 => implHoldsIn P ms W B u W' h h2)
        generalize ansN P k xs W = a at *
        generalize holdsV P ms W = h at *
        have hhh : (h != h) = false := by simp
        go_wp2_with fail
        refine (Hal.out _ _ _ (RdMarks.of_own HAr.out Hxi.out) (Nat.le_refl _)).mono ?_
        rintro e w5 ⟨rfl, hb5⟩
        have HO5 := Lib.hid (own_below HOr.out hb5)
        have Hb5 := Lib.hid (Hbr.out.trans (hb5.mono hsr))
        clear hb5
        go_wp2_with fail
        refine (Hho.out _ _ _ (RdMarks.of_own HO5.out Hi.out) (Nat.le_refl _)).mono ?_
        rintro e w6 ⟨rfl, hb6⟩
        have Hb6 := Lib.hid (Hb5.out.trans (hb6.mono Hb5.out.size))
        clear hb6
        go_wp2
        go_roundw
        case rel => exact ⟨W + 1, by omega, by go_num, Hb6.out⟩
        case measure => simp [intOf]; omega
      · obtain rfl : W = N := by omega
        go_wp2_with fail
        refine (Hto.out _ _ _ (RdMarks.of_own HAr.out Hxi.out) (Nat.le_refl _)).mono ?_
        rintro e w5 ⟨rfl, hb5⟩
        have Hb5 := Lib.hid (HB4'.out.trans ((Hbr.out.trans (hb5.mono hsr)).mono HB4'.out.size))
        clear hb5
        go_wp2
        go_ret
        exact ⟨rfl, Hb5.out⟩

set_option maxRecDepth 100000 in
theorem lifted (os : Os) (started : os.Started) (H : Type) (enc : TypeId × Value → H) :
    ReturnsInHanded {} Try.checked os 4 .any (Rows.fnTrickTermSpec.pre6 enc Try.prog Try.f4 Rows.fnTrickTermRow.domain false) (Rows.fnTrickTermSpec.post enc Try.prog Try.f4 false true false false) := by
  refine returnsInHanded_of_change (C := Try.checked) Try.own started (by kernel_rfl) Try.func4
    (ChangeSpec.witness6 (enc := enc) (C := Try.checked) false ⟨#[], #[.slice none 0 0], []⟩ 8 (by kernel_rfl) (by kernel_rfl) (by kernel_rfl) (by kernel_rfl)) ?_
  intro W base args ds gs before hval0 hW hcnd _
  have hval : ∀ (j : Nat) t v, Try.f4.params[j]? = some t → args[j]? = some v → Value.okWide Try.prog W .any base t v := hval0
  have hW' := hW
  obtain ⟨p, q, hA0, hV, rfl, hfz, hnd⟩ := hW
  have hA : DataW.TrodAll enc Try.prog W 0 (fun _ => true) true Try.f4.params.toList args.toList ds p := hA0
  rw [Try.params4] at hA hval
  obtain ⟨v0, vs0, d0, ds0, p0, q0, hargs, rfl, rfl, h0, r0⟩ := trodAll_cons hA
  obtain ⟨rfl, rfl, rfl⟩ := trodAll_nil r0
  obtain rfl : args = #[v0] := by cases args; simp_all
  obtain ⟨rfl, rfl⟩ := trodVars_none hV
  obtain ⟨a0, len0, cap0, rfl⟩ := okWide_slice Try.underlying22 (hval 0 22 v0 rfl rfl)
  have k0 := h0
  have lt0 : ∀ x ∈ p0, x.block < W.heap.size := by obtain ⟨m, hm⟩ := k0; exact DataW.trod_lt m _ _ _ hm
  obtain ⟨z0, w0⟩ : ∃ zs, IsRow .u8 W a0 len0 cap0 zs := by
    obtain ⟨fuel, hf⟩ := h0
    rcases open_ints Try.underlying22 Try.underlying5 (by kernel_rfl) hf with ⟨hcs, _⟩ | ⟨x, l, c, zs, hcs, _, hl, hm, hz, _, hcell, hwz⟩
    · simp [Value.cells] at hcs
      obtain ⟨rfl, rfl, rfl⟩ := hcs
      exact ⟨[], .inl ⟨rfl, rfl, rfl, rfl⟩⟩
    · simp [Value.cells] at hcs
      obtain ⟨rfl, rfl, rfl⟩ := hcs
      exact ⟨zs, .inr ⟨_, rfl, hl, hm, by simpa using hz, hcell, hwz⟩⟩
  clear hA0 hval0
  refine (walk _ _ W (RdBytes.of_row w0)).mono fun e W' ⟨he, bel⟩ => ?_
  subst he
  exact ⟨_, rfl, _, _, _, [], _, [], hW', trodAll_mk1 (shut_bool Try.underlying4 _), (trodAll_cons_mk (Below.trod Try.laidOut (by kernel_rfl) (of_decide_eq_true (by kernel_rfl)) k0 bel lt0) trodAll_mk0), rfl, bel.frame _, fun h => by cases h⟩

theorem closed : joinedFacts Try.pinned.checked.prog 4 Try.f4 Rows.fnTrickTermSpec Rows.fnTrickTermRow = true := by
  unfold joinedFacts
  exact (and_tt (and_tt (and_tt (and_tt (and_tt (and_tt (and_tt (and_tt (and_tt (and_tt (and_tt (and_tt (and_tt (and_tt (and_tt (and_tt (and_tt (and_tt (and_tt (and_tt (and_tt (and_tt (and_tt (and_tt (and_tt (and_tt (and_tt (and_tt (and_tt (and_tt (and_tt (by kernel_rfl) (by kernel_rfl)) (by kernel_rfl)) (by kernel_rfl)) (by kernel_rfl)) (by kernel_rfl)) (by kernel_rfl)) (by kernel_rfl)) (by kernel_rfl)) (by kernel_rfl)) (by kernel_rfl)) (by kernel_rfl)) (by kernel_rfl)) (by kernel_rfl)) (by kernel_rfl)) (by kernel_rfl)) (by kernel_rfl)) (by kernel_rfl)) (by kernel_rfl)) (by kernel_rfl)) (by kernel_rfl)) (by kernel_rfl)) (by kernel_rfl)) (by kernel_rfl)) (by kernel_rfl)) Try.mayEnter0) (lifted_tt Try.lifts0 rfl)) (make_tt Try.make0 rfl)) (by kernel_rfl)) (by kernel_rfl)) (by kernel_rfl)) (by kernel_rfl))
theorem over : Rows.fnTrickTermRow.holds Try.pinned (OpenSpec.ofChange Rows.fnTrickTermSpec) :=
  OpenClaim.holds_of_wide 4 Try.f4 rfl rfl rfl rfl rfl rfl rfl ⟨rfl, rfl, rfl, rfl, rfl⟩ rfl rfl rfl rfl rfl (by kernel_rfl) Try.func4 closed
    (of_decide_eq_true (by kernel_rfl)) (by unfold Func.isWrapper; first | (rw [if_pos (by decide +kernel)]; kernel_rfl) | (rw [if_neg (by decide +kernel)]; exact ⟨rfl, rfl⟩))
    (fun os started H enc _ => lifted os started H enc)

theorem proved : Rows.FnTrickTermSaid := over
end Go.Proofs.Ytemldnjpcnogpaa.fnTrickTerm

