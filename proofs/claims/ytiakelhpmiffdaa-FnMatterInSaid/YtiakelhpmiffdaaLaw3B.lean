/- A law of stage 3: without counts just who is read matters. It answers true, whatever the code. No condition. -/
import Derived.Test.YtiakelhpmiffdaaDrawH
import Derived.Test.YtiakelhpmiffdaaMirrorS
import Derived.Test.YtiakelhpmiffdaaTruthI
import Derived.Test.YtiakelhpmiffdaaLawsA
import Derived.Deep.RegionHeld3
import Derived.Test.YtiakelhpmiffdaaMarksB
import Derived.Test.YtiakelhpmiffdaaMirror
namespace Go.Proofs.Ytiakelhpmiffdaa
open Go.RowKit
def hasC (ms : List (Int × Int)) (k : Nat) : Bool := (ms.take k).any (fun m => m.1 == 1)
theorem hasC_zero (ms : List (Int × Int)) : hasC ms 0 = false := by simp [hasC]
theorem hasC_succ {ms : List (Int × Int)} {k : Nat} (h : k < ms.length) : hasC ms (k + 1) = (hasC ms k || ((ms.getD k (0, 0)).1 == 1)) := by
  unfold hasC
  rw [take_snoc (0, 0) ms k h, List.any_append]
  simp
theorem hasC_all {ms : List (Int × Int)} (h : hasC ms ms.length = false) : ∀ m ∈ ms, m.1 ≠ 1 := by
  unfold hasC at h
  rw [List.take_length, List.any_eq_false] at h
  intro m hm e
  exact h m hm (by simp [e])
theorem matter_less {p : Int} {ms : List (Int × Int)} (h : termOk p ms = true) : ∃ M R : Nat, matterV p ms = M ∧ readV p ms = R ∧ M < 16 ∧ R < 16 ∧ (hasC ms ms.length = false → M ^^^ (M &&& R) = 0) := by
  obtain ⟨h1, h4⟩ := p_of h
  have hm := termOk_mkOk h
  refine ⟨matterN p (tmOf p ms), readN ms, matterV_yes h, readV_yes h, ?_, ?_, fun hc => less_zero.2 (fun j hj => matter_read h (hasC_all hc) j hj)⟩
  · have h2 := tabF_lt p.toNat (matters p (tmOf p ms))
    have h3 := two16 (p := p.toNat) (by omega)
    unfold matterN; omega
  · have h2 := readN_lt h1 h4 hm
    have h3 := two16 (p := p.toNat) (by omega)
    omega
end Go.Proofs.Ytiakelhpmiffdaa
namespace Go.Proofs.Ytiakelhpmiffdaa.fnMatterIn
open Go.ChangeShapes Go.WideShapes Go.ChangeAt Go.RowKit Go.Joins
attribute [local irreducible] holds tabN tabV holdsV sameV followsV alwaysV matterV mirV mirOk mcells tmOf
open Go.ChangeMaps (open_string shut_string)
set_option linter.unusedVariables false
set_option maxRecDepth 100000 in
set_option maxHeartbeats 4000000 in
theorem walk (a0 : Value) (n0 : Nat) (w : World) (w0 : RdBytes w w.heap.size a0 n0) :
    Calls Try.prog 8 #[a0] w fun e w' => e = .returned (.bool true) ∧ Below w.heap.size w w' := by
  have hr := w0
  by_cases hbig : n0 ≤ 1048576
  case neg =>
    obtain ⟨ao, cap, rfl, hl, hm, hc⟩ := w0
    have hbig' := code_big hbig
    unfold maxLen at hm
    clear hc hr hbig
    go_enter Try.func8, Try.ntmps8
    go_wp2
    go_ret
    exact ⟨rfl, Below.refl _ _⟩
  have hbig' : (n0 : Int) ≤ 1048576 := by omega
  clear hbig
  obtain ⟨ao, cap, rfl, hl, hm, hc⟩ := w0
  have Hr := Lib.hid hr
  clear hc hr hl hm
  go_enter Try.func8, Try.ntmps8
  go_wp2_with fail
  refine (drawMatterIn _ _ _ Hr.out).mono ?_
  rintro e w1 ⟨p, g, n, cp, ms, hp1, hp8, rfl, hlen, hown, hi, hn, hB⟩
  have Hlen := Lib.hid hlen; clear hlen
  have Hi := Lib.hid hi; clear hi
  have hrd : RdMarks w1 w1.heap.size (.slice (some ⟨g, 0, none⟩) n cp) ms := by
    have h0 := RdMarks.of_own (ms := ms) (v := .slice (some ⟨g, 0, none⟩) n cp) (e := TM) (base := w.heap.size) (by rw [Hlen.out]; exact hown) Hi.out
    exact h0
  clear hown
  have Hrd1 := Lib.hid hrd; clear hrd
  have hB1 := hB; clear hB
  go_wp2_with fail
  refine (implMatterIn _ ms _ _ _ Hrd1.out (Nat.le_refl _)).mono ?_
  rintro e w2 ⟨rfl, hb2⟩
  have Hrd2 := Lib.hid (Hrd1.out.kept hb2)
  have hB2 : Below w.heap.size w w2 := hB1.trans (hb2.mono hB1.size)
  clear hb2 Hrd1
  cases hok : termOk p ms with
  | false =>
    have Hok := Lib.hid hok; clear hok
    rw [matterV_no Hok.out]
    go_wp2_with fail
    refine (specMatterIn _ ms _ _ _ Hrd2.out (Nat.le_refl _)).mono ?_
    rintro e w3 ⟨rfl, hb3⟩
    rw [matterV_no Hok.out]
    have Hrd3 := Lib.hid (Hrd2.out.kept hb3)
    have hB3 : Below w.heap.size w w3 := hB2.trans (hb3.mono hB2.size)
    clear hb3
    go_wp2_with fail
    refine (implTermOk _ ms _ _ _ Hrd3.out (Nat.le_refl _)).mono ?_
    rintro e w4 ⟨rfl, hb4⟩
    have hB4 : Below w.heap.size w w4 := hB3.trans (hb4.mono hB3.size)
    rw [Hok.out]
    clear hb4
    go_wp2_with fail
    refine (alive _).mono ?_
    rintro e w' ⟨rfl, rfl⟩
    go_wp2
    go_ret
    exact ⟨rfl, hB4⟩
  | true =>
    obtain ⟨M, R, hM, hR, hM16, hR16, hless⟩ := matter_less hok
    have hmi : mirOk p ms = true → matterV p (mirV p ms) = matterV p ms := matter_mir
    have hsp := fun (B : Nat) (v : Value) (W : World) h h2 => specMatterIn p ms B v W h h2
    have hre := fun (B : Nat) (v : Value) (W : World) h h2 => implPeopleRead p ms B v W h h2
    have hxi := mirV_I64 p ms
    have hmm := fun (B : Nat) (v : Value) (W : World) h h2 => implMatterIn p (mirV p ms) B v W h h2
    have hmt := fun (B : Nat) (v : Value) (W : World) h h2 => implMirrorTerm p ms B v W h h2
    unfold MirOut at hmt
    rw [hM] at hmi hsp ⊢
    rw [hR] at hre
    clear hM hR hok
    have hxor := bits_andNot_nat M R (by omega) (by omega)
    generalize M ^^^ (M &&& R) = D at *
    generalize mirV p ms = xs at *
    generalize mirOk p ms = mo at *
    generalize matterV p xs = MX at *
    have Hless := Lib.hid hless; clear hless
    have Hmi := Lib.hid hmi; clear hmi
    have Hsp := Lib.hid hsp; clear hsp
    have Hre := Lib.hid hre; clear hre
    have Hmm := Lib.hid hmm; clear hmm
    have Hmt := Lib.hid hmt; clear hmt
    have Hxi := Lib.hid hxi; clear hxi
    have hM0 : ¬ (M : Int) < 0 := by omega
    go_wp2_with fail
    refine (Hsp.out _ _ _ Hrd2.out (Nat.le_refl _)).mono ?_
    rintro e w3 ⟨rfl, hb3⟩
    have Hrd3 := Lib.hid (Hrd2.out.kept hb3)
    have hB3 : Below w.heap.size w w3 := hB2.trans (hb3.mono hB2.size)
    clear hb3 Hrd2
    have Hrd3' := Lib.hid Hrd3.out
    obtain ⟨ao3, cap3, hv3, hal, ham, hi3, hac0⟩ := Hrd3.out
    cases hv3
    have hac := Lib.hid hac0; clear hac0 hi3
    unfold maxLen at ham
    clear Hlen
    go_wp2_with fail
    go_loop [6, 7] (fun c i => ∃ k : Nat, k ≤ ms.length ∧ i = .int .i64 k ∧ c = .bool (hasC ms k)) (fun _ i => ms.length - (intOf i).toNat)
    case atStart => exact ⟨0, Nat.zero_le _, rfl, by rw [hasC_zero]⟩
    case round =>
      obtain ⟨k, hk, rfl, rfl⟩ := hrel
      by_cases hlt : k < ms.length
      · obtain ⟨b, off, hao, hb, hc1, hc2⟩ := hac.out k hlt
        cases hao
        rw [Nat.zero_add] at hc1 hc2
        have Hs := Lib.hid (hasC_succ hlt)
        generalize ms.getD k (0, 0) = m at *
        obtain ⟨kd, x⟩ := m
        dsimp only at hc1 hc2
        cases hcc : hasC ms k with
        | true =>
          have Hs' : Hid (hasC ms (k + 1) = true) := by unfold Hid; rw [Hs.out, hcc]; rfl
          clear Hs hcc
          go_wp2
          go_round
          case rel => exact ⟨k + 1, by omega, by go_num, by rw [Hs'.out]⟩
          case measure => simp [intOf]; omega
        | false =>
          by_cases hk1 : kd = 1
          · subst hk1
            have Hs' : Hid (hasC ms (k + 1) = true) := by unfold Hid; rw [Hs.out, hcc]; rfl
            clear Hs hcc
            go_wp2
            go_round
            case rel => exact ⟨k + 1, by omega, by go_num, by rw [Hs'.out]⟩
            case measure => simp [intOf]; omega
          · have hkb : (kd == 1) = false := by rw [beq_eq_false_iff_ne]; exact hk1
            have Hs' : Hid (hasC ms (k + 1) = false) := by unfold Hid; rw [Hs.out, hcc, hkb]; rfl
            clear Hs hcc hk1
            go_wp2
            go_round
            case rel => exact ⟨k + 1, by omega, by go_num, by rw [Hs'.out]⟩
            case measure => simp [intOf]; omega
      · obtain rfl : k = ms.length := by omega
        have Hl : Hid (hasC ms ms.length = false → D = 0) := Hless.out
        generalize hasC ms ms.length = cc at *
        go_wp2_with fail
        refine (Hmt.out _ _ _ Hrd3'.out (Nat.le_refl _)).mono ?_
        rintro e w4 ⟨vx, rfl, hown4, hb4⟩
        have Hown4 := Lib.hid hown4
        have Hrd4 := Lib.hid (Hrd3'.out.kept hb4)
        have hB4 : Below w.heap.size w w4 := hB3.trans (hb4.mono hB3.size)
        clear hb4 hown4
        cases cc with
        | true =>
          clear Hl
          cases mo with
          | false =>
            go_wp2_with fail
            refine (alive _).mono ?_
            rintro e w' ⟨rfl, rfl⟩
            go_wp2
            go_ret
            exact ⟨rfl, hB4⟩
          | true =>
            go_wp2_with fail
            have hxmo : MX = (M : Int) := Hmi.out (by first | rfl | trivial | simp)
            subst hxmo
            refine (Hmm.out _ _ _ (RdMarks.of_own Hown4.out Hxi.out) (Nat.le_refl _)).mono ?_
            rintro e w5 ⟨rfl, hb5⟩
            have hB5 : Below w.heap.size w w5 := hB4.trans (hb5.mono hB4.size)
            clear hb5
            go_wp2_with fail
            refine (alive _).mono ?_
            rintro e w' ⟨rfl, rfl⟩
            go_wp2
            go_ret
            exact ⟨rfl, hB5⟩
        | false =>
          have hD := Hl.out rfl
          subst hD
          clear Hl
          go_wp2_with fail
          refine (Hre.out _ _ _ Hrd4.out (Nat.le_refl _)).mono ?_
          rintro e w5 ⟨rfl, hb5⟩
          have Hown5 := Lib.hid (own_below Hown4.out hb5)
          have hB5 : Below w.heap.size w w5 := hB4.trans (hb5.mono hB4.size)
          clear hb5
          cases mo with
          | false =>
            go_wp2_with fail
            refine (alive _).mono ?_
            rintro e w' ⟨rfl, rfl⟩
            go_wp2
            go_ret
            exact ⟨rfl, hB5⟩
          | true =>
            go_wp2_with fail
            have hxmo : MX = (M : Int) := Hmi.out (by first | rfl | trivial | simp)
            subst hxmo
            refine (Hmm.out _ _ _ (RdMarks.of_own Hown5.out Hxi.out) (Nat.le_refl _)).mono ?_
            rintro e w6 ⟨rfl, hb6⟩
            have hB6 : Below w.heap.size w w6 := hB5.trans (hb6.mono hB5.size)
            clear hb6
            go_wp2_with fail
            refine (alive _).mono ?_
            rintro e w' ⟨rfl, rfl⟩
            go_wp2
            go_ret
            exact ⟨rfl, hB6⟩

set_option maxRecDepth 100000 in
theorem lifted (os : Os) (started : os.Started) (H : Type) (enc : TypeId × Value → H) :
    ReturnsInHanded {} Try.checked os 8 .any (Rows.fnMatterInSpec.pre6 enc Try.prog Try.f8 Rows.fnMatterInRow.domain false) (Rows.fnMatterInSpec.post enc Try.prog Try.f8 false true false false) := by
  refine returnsInHanded_of_change (C := Try.checked) Try.own started (by kernel_rfl) Try.func8
    (ChangeSpec.witness6 (enc := enc) (C := Try.checked) false ⟨#[], #[.slice none 0 0], []⟩ 8 (by kernel_rfl) (by kernel_rfl) (by kernel_rfl) (by kernel_rfl)) ?_
  intro W base args ds gs before hval0 hW hcnd _
  have hval : ∀ (j : Nat) t v, Try.f8.params[j]? = some t → args[j]? = some v → Value.okWide Try.prog W .any base t v := hval0
  have hW' := hW
  obtain ⟨p, q, hA0, hV, rfl, hfz, hnd⟩ := hW
  have hA : DataW.TrodAll enc Try.prog W 0 (fun _ => true) true Try.f8.params.toList args.toList ds p := hA0
  rw [Try.params8] at hA hval
  obtain ⟨v0, vs0, d0, ds0, p0, q0, hargs, rfl, rfl, h0, r0⟩ := trodAll_cons hA
  obtain ⟨rfl, rfl, rfl⟩ := trodAll_nil r0
  obtain rfl : args = #[v0] := by cases args; simp_all
  obtain ⟨rfl, rfl⟩ := trodVars_none hV
  obtain ⟨a0, len0, cap0, rfl⟩ := okWide_slice Try.underlying22 (hval 0 22 v0 rfl rfl)
  have k0 := h0
  have lt0 : ∀ x ∈ p0, x.block < W.heap.size := by obtain ⟨m, hm⟩ := k0; exact DataW.trod_lt m _ _ _ hm
  obtain ⟨z0, w0⟩ : ∃ zs, IsRow .u8 W a0 len0 cap0 zs := by
    obtain ⟨fuel, hf⟩ := h0
    rcases open_ints Try.underlying22 Try.underlying5 (by kernel_rfl) hf with ⟨hcs, _⟩ | ⟨x, l, c, zs, hcs, _, hl, hm, hz, _, hcell, hwz⟩
    · simp [Value.cells] at hcs
      obtain ⟨rfl, rfl, rfl⟩ := hcs
      exact ⟨[], .inl ⟨rfl, rfl, rfl, rfl⟩⟩
    · simp [Value.cells] at hcs
      obtain ⟨rfl, rfl, rfl⟩ := hcs
      exact ⟨zs, .inr ⟨_, rfl, hl, hm, by simpa using hz, hcell, hwz⟩⟩
  clear hA0 hval0
  refine (walk _ _ W (RdBytes.of_row w0)).mono fun e W' ⟨he, bel⟩ => ?_
  subst he
  exact ⟨_, rfl, _, _, _, [], _, [], hW', trodAll_mk1 (shut_bool Try.underlying4 _), (trodAll_cons_mk (Below.trod Try.laidOut (by kernel_rfl) (of_decide_eq_true (by kernel_rfl)) k0 bel lt0) trodAll_mk0), rfl, bel.frame _, fun h => by cases h⟩

theorem closed : joinedFacts Try.pinned.checked.prog 8 Try.f8 Rows.fnMatterInSpec Rows.fnMatterInRow = true := by
  unfold joinedFacts
  exact (and_tt (and_tt (and_tt (and_tt (and_tt (and_tt (and_tt (and_tt (and_tt (and_tt (and_tt (and_tt (and_tt (and_tt (and_tt (and_tt (and_tt (and_tt (and_tt (and_tt (and_tt (and_tt (and_tt (and_tt (and_tt (and_tt (and_tt (and_tt (and_tt (and_tt (and_tt (by kernel_rfl) (by kernel_rfl)) (by kernel_rfl)) (by kernel_rfl)) (by kernel_rfl)) (by kernel_rfl)) (by kernel_rfl)) (by kernel_rfl)) (by kernel_rfl)) (by kernel_rfl)) (by kernel_rfl)) (by kernel_rfl)) (by kernel_rfl)) (by kernel_rfl)) (by kernel_rfl)) (by kernel_rfl)) (by kernel_rfl)) (by kernel_rfl)) (by kernel_rfl)) (by kernel_rfl)) (by kernel_rfl)) (by kernel_rfl)) (by kernel_rfl)) (by kernel_rfl)) (by kernel_rfl)) Try.mayEnter0) (lifted_tt Try.lifts0 rfl)) (make_tt Try.make0 rfl)) (by kernel_rfl)) (by kernel_rfl)) (by kernel_rfl)) (by kernel_rfl))
theorem over : Rows.fnMatterInRow.holds Try.pinned (OpenSpec.ofChange Rows.fnMatterInSpec) :=
  OpenClaim.holds_of_wide 8 Try.f8 rfl rfl rfl rfl rfl rfl rfl ⟨rfl, rfl, rfl, rfl, rfl⟩ rfl rfl rfl rfl rfl (by kernel_rfl) Try.func8 closed
    (of_decide_eq_true (by kernel_rfl)) (by unfold Func.isWrapper; first | (rw [if_pos (by decide +kernel)]; kernel_rfl) | (rw [if_neg (by decide +kernel)]; exact ⟨rfl, rfl⟩))
    (fun os started H enc _ => lifted os started H enc)

theorem proved : Rows.FnMatterInSaid := over
end Go.Proofs.Ytiakelhpmiffdaa.fnMatterIn

