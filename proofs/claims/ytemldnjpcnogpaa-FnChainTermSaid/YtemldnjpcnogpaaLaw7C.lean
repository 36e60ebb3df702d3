/- A law of stage 7: each liar turns it round once. It answers true, whatever the code. No condition. -/
import Derived.Test.YtemldnjpcnogpaaDrawA
import Derived.Test.YtemldnjpcnogpaaAskI
import Derived.Test.YtemldnjpcnogpaaTruthI
import Derived.Test.YtemldnjpcnogpaaLawsA
import Derived.Deep.RegionHeld3
import Derived.Deep.Cut
import Derived.Test.YtemldnjpcnogpaaMarksB
namespace Go.Proofs.Ytemldnjpcnogpaa
open Go.RowKit Go.Joins
theorem chain_I647 {p : Int} {l : List Int} {ms : List (Int × Int)} (hi : I64s ms) (hz : ∀ z ∈ l, 0 ≤ z ∧ z ≤ 64) : I64s (chainV p l ms) ∧ (chainV p l ms).length ≤ 15 := by
  unfold chainV
  cases h : chainOk p l ms with
  | false => rw [if_neg (by simp)]; exact ⟨fun m hm => by simp at hm, by simp⟩
  | true =>
    rw [if_pos rfl]
    refine ⟨chain_I64 hi l fun z hzz => I64_small (by have := hz z hzz; omega) (by have := hz z hzz; omega), ?_⟩
    unfold chainOk at h
    simp only [Bool.and_eq_true] at h
    exact (termOk_iff.1 h.2).2.1
theorem chain_law7 {p : Int} {l : List Int} {ms : List (Int × Int)} (h : chainOk p l ms = true) : ∃ P N : Nat, p = P ∧ N = 2 ^ P ∧ N ≤ 16 ∧ 1 ≤ P ∧ P ≤ 4 ∧ chainV p l ms = chainL l ms ∧ termOk p (chainV p l ms) = true ∧ (∀ z ∈ l, 0 ≤ z ∧ z < p) ∧ (∀ W : Nat, W < N → holdsV p (chainV p l ms) W = (holdsV p ms W == decide (liesN W l % 2 = 0))) := by
  have hv : chainV p l ms = chainL l ms := by unfold chainV; rw [if_pos h]
  unfold chainOk at h
  simp only [Bool.and_eq_true] at h
  obtain ⟨ht, hc⟩ := h
  obtain ⟨h1, h4⟩ := p_of ht
  obtain ⟨P, rfl⟩ := Int.eq_ofNat_of_zero_le (show 0 ≤ p by omega)
  refine ⟨P, 2 ^ P, rfl, rfl, two16 (by omega), by omega, by omega, hv, by rw [hv]; exact hc, ((chain_ok ht).1 hc).1, fun W hW => ?_⟩
  have hw : wOk (P : Int) W = true := wOk_iff.2 ⟨h1, h4, by omega, by rw [Int.toNat_natCast]; exact_mod_cast hW⟩
  rw [hv]
  unfold holdsV
  rw [ht, hc, hw, Int.toNat_natCast, chain_holds ht l hc]
  rfl
theorem mod_even8 (n : Nat) : (((n : Int)) % 2 == 0) = decide (n % 2 = 0) := by
  rw [Bool.eq_iff_iff, beq_iff_eq, decide_eq_true_eq]; omega
theorem chain_nil7 (ms : List (Int × Int)) : chainL [] ms = ms := rfl
theorem lies_nil7 (W : Nat) : liesN W [] = 0 := rfl
theorem chain_none7 {p : Int} {l : List Int} {ms : List (Int × Int)} (h : chainOk p l ms = false) : chainV p l ms = [] := by unfold chainV; rw [h]; rfl
theorem lies_step7 {W : Nat} {l : List Int} {k : Nat} (hk : k < l.length) : liesN W (l.take (k + 1)) = liesN W (l.take k) + (if W.testBit (l.getD k 0).toNat then 0 else 1) := by
  have e : l.getD k 0 = l[k] := by simp [List.getD, hk]
  rw [List.take_succ_eq_append_getElem hk, lies_append, e]
  simp [liesN]
theorem mod_even7 (n : Nat) : (((n : Int)).tmod 2 == 0) = decide (n % 2 = 0) := by
  rw [Int.tmod_eq_emod_of_nonneg (by omega), Bool.eq_iff_iff, beq_iff_eq, decide_eq_true_eq]
  omega
end Go.Proofs.Ytemldnjpcnogpaa
namespace Go.Proofs.Ytemldnjpcnogpaa.fnChainTerm
open Go.ChangeShapes Go.WideShapes Go.ChangeAt Go.RowKit Go.Joins
attribute [local irreducible] holds tabN tabV holdsV sameV followsV alwaysV matterV mirV mirOk mcells tmOf claimOk mayT mayV ctabV ctabN storyV storyOk storyN storyT ctermV ctermL denyV denyOk ccells ansN inOk chainL chainOk chainV alikeV liesN matterN matters
open Go.ChangeMaps (open_string shut_string)
set_option linter.unusedVariables false
set_option maxRecDepth 100000 in
set_option maxHeartbeats 16000000 in
theorem walk (a0 : Value) (n0 : Nat) (w : World) (w0 : RdBytes w w.heap.size a0 n0) :
    Calls Try.prog 5 #[a0] w fun e w' => e = .returned (.bool true) ∧ Below w.heap.size w w' := by
  have hr := w0
  by_cases hbig : n0 ≤ 1048576
  case neg =>
    obtain ⟨ao, cap, rfl, hl, hm, hc⟩ := w0
    have hbig' := code_big hbig
    unfold maxLen at hm
    clear hc hr hbig
    go_enter Try.func5, Try.ntmps5
    go_wp2
    go_ret
    exact ⟨rfl, Below.refl _ _⟩
  have hbig' : (n0 : Int) ≤ 1048576 := by omega
  clear hbig
  obtain ⟨ao, cap, rfl, hl, hm, hc⟩ := w0
  have Hr := Lib.hid hr
  clear hc hr hl hm
  go_enter Try.func5, Try.ntmps5
  go_wp2_with fail
  refine (drawChainTerm _ _ _ Hr.out).mono ?_
  rintro e w1 ⟨p, gl, cl, g, cp, zs, ms, hp1, hp4, rfl, hownl, hz6, hz, hown, hi, hn, hB1⟩
  have HO1 := Lib.hid hown
  have HL1 := Lib.hid hownl
  have Hi := Lib.hid hi
  have Hz := Lib.hid hz
  clear hown hownl hi hz
  have Hz64 : Hid (∀ z ∈ zs, I64 z) := fun z h => I64_small (by have := Hz.out z h; omega) (by have := Hz.out z h; omega)
  obtain ⟨hxi, hxl⟩ := chain_I647 (p := p) Hi.out Hz.out
  have Hxi := Lib.hid hxi
  have him := fun B a u W ha h h2 => implChainTerm p zs ms Hz64.out (by omega) (by omega) B a u W ha h h2
  have hsp := fun B a u W ha h h2 => specChainTerm p zs ms Hz64.out (by omega) B a u W ha h h2
  have hno := fun (h : chainOk p zs ms = false) => chain_none7 h
  have hla := fun (h : chainOk p zs ms = true) => chain_law7 h
  have hnil : zs = [] → chainL zs ms = ms := fun h => by rw [h, chain_nil7]
  generalize chainV p zs ms = xs at *
  generalize chainOk p zs ms = c at *
  have Him := Lib.hid him
  have Hsp := Lib.hid hsp
  have hgl : gl < w1.heap.size := (HL1.out.lt gl rfl).2
  have Hcell : Hid (∀ k, k < zs.length → w1.cell? ⟨gl, k, none⟩ = some (.int .i64 (zs.getD k 0))) := fun k hk => by
    have h1 := HL1.out.cellAt k (by simpa using hk)
    simpa [ints, List.getD, hk] using h1
  have Hra : Hid (RdInts w1 w1.heap.size (.slice (some ⟨gl, 0, none⟩) zs.length cl) zs) := RdInts.of_own HL1.out
  have hrev : zs.take zs.length = zs := List.take_length
  have Hrev := Lib.hid hrev
  have Hst := Lib.hid (fun W k hk => lies_step7 (W := W) (l := zs) (k := k) hk)
  have Hle := Lib.hid (fun W => lies_le W zs)
  have Hle2 := Lib.hid (fun W k => lies_le W (zs.take k))
  have Hmem : Hid (∀ k, k < zs.length → zs.getD k 0 ∈ zs) := fun k hk => by
    rw [show zs.getD k 0 = zs[k] by simp [List.getD, hk]]; exact List.getElem_mem hk
  have Hz0 : Hid (zs.length = 0 → zs = []) := fun h => List.eq_nil_of_length_eq_zero h
  have hcl1 := own_cap HL1.out
  unfold maxLen at hcl1
  clear him hsp hxi hrev
  generalize hL : zs.length = L at *
  have HLn := Lib.hid hL; clear hL
  go_wp2_with fail
  refine (Him.out _ _ _ _ Hra.out (RdMarks.of_own HO1.out Hi.out) (Nat.le_refl _)).mono ?_
  rintro e w2 ⟨vA, rfl, hoA, hb2⟩
  have HO2 := Lib.hid (own_below HO1.out hb2)
  have Hra2 := Lib.hid ((Hra.out.below hb2.block).mono hb2.size)
  have hbb2 := hb2
  have hB2 : Below w.heap.size w w2 := hB1.trans (hb2.mono hB1.size)
  obtain ⟨fA, gA, hfA⟩ := own_len hoA
  subst hfA
  have HA2 := Lib.hid hoA
  clear hb2 hoA
  go_wp2_with fail
  refine (Hsp.out _ _ _ _ Hra2.out (RdMarks.of_own HO2.out Hi.out) (Nat.le_refl _)).mono ?_
  rintro e w3 ⟨vB, rfl, hoB, hb3⟩
  have HO3 := Lib.hid (own_below HO2.out hb3)
  have HA3 := Lib.hid (own_below HA2.out hb3)
  have hB3 : Below w.heap.size w w3 := hB2.trans (hb3.mono hB2.size)
  have hbb3 : Below w1.heap.size w1 w3 := hbb2.trans (hb3.mono hbb2.size)
  obtain ⟨fB, gB, hfB⟩ := own_len hoB
  subst hfB
  have HB3 := Lib.hid hoB
  clear hb3 hoB hbb2
  go_wp2_with fail
  refine (sameMarks xs xs _ _ _ _ _ (RdMarks.of_own HA3.out Hxi.out) (RdMarks.of_own HB3.out Hxi.out)).mono ?_
  rintro e w4 ⟨rfl, n4, hw4⟩
  rw [show decide (xs = xs) = true from by simp]
  have hb4 : Below w3.heap.size w3 w4 := by rw [← hw4]; exact below_drewN (Below.refl _ _) _
  have HO4 := Lib.hid (own_below HO3.out hb4)
  have HA4 := Lib.hid (own_below HA3.out hb4)
  have hB4 : Below w.heap.size w w4 := hB3.trans (hb4.mono hB3.size)
  have Hb14 := Lib.hid (hbb3.trans (hb4.mono hbb3.size))
  clear hw4 hb4 n4 hB3 hbb3
  cases c with
  | false =>
    have hx := hno rfl
    subst hx
    clear hno hla Him Hsp hnil
    go_wp2_with fail
    refine (alive _).mono ?_
    rintro e w' ⟨rfl, rfl⟩
    go_wp2
    go_ret
    exact ⟨rfl, hB4⟩
  | true =>
    obtain ⟨P, N, rfl, hN, hN16, hP1, hP4, hxv, hxo, hzp, hla2⟩ := hla rfl
    have Hnil : Hid (zs = [] → xs = ms) := fun h => by rw [hxv]; exact hnil h
    have Hzp := Lib.hid hzp
    have Hla := Lib.hid hla2
    have hto := fun B u W h h2 => implTermOk P xs B u W h h2
    rw [hxo] at hto
    have Hto := Lib.hid hto
    have hsh : wrap64 (2 ^ P) = (N : Int) := by
      have h : P = 1 ∨ P = 2 ∨ P = 3 ∨ P = 4 := by omega
      rw [hN]
      rcases h with rfl | rfl | rfl | rfl <;> decide +kernel
    have hmn : min P 64 = P := by omega
    have HB4' := Lib.hid hB4
    have hw14 := Hb14.out.size
    clear hno hla Him Hsp hnil hxv hxo hzp hla2 hto hN hB1 hB2 hB4 HO1 HO2 HO3 HA2 HA3 HB3 Hra Hra2
    go_wp2
    go_loopw [10, 11, 12] (fun x _ _ wr => ∃ W : Nat, W ≤ N ∧ x = .int .i64 W ∧ Below w4.heap.size w4 wr) (fun x _ _ _ => N - (intOf x).toNat)
    case atStart => exact ⟨0, Nat.zero_le _, rfl, Below.refl _ _⟩
    case round =>
      obtain ⟨W, hW, rfl, hbr⟩ := hrel
      have hsr := hbr.size
      have Hbr := Lib.hid hbr
      have HAr := Lib.hid (own_below HA4.out hbr)
      have HOr := Lib.hid (own_below HO4.out hbr)
      have Hb1r := Lib.hid (Hb14.out.trans (hbr.mono hw14))
      clear hbr
      by_cases hlt : W < N
      · have hA := Hla.out W hlt
        have Hho1 := Lib.hid (fun B u W' h h2 => implHoldsIn P xs W B u W' h h2)
        have Hho2 := Lib.hid (fun B u W' h h2 => implHoldsIn P ms W B u W' h h2)
        rw [hA] at Hho1
        clear hA
        go_wp2
        go_loop [11, 12] (fun l i => ∃ k : Nat, k ≤ L ∧ i = .int .i64 k ∧ l = .int .i64 (liesN W (zs.take k))) (fun _ i => L - (intOf i).toNat)
        case atStart => exact ⟨0, Nat.zero_le _, rfl, by rw [List.take_zero, lies_nil7]; rfl⟩
        case round =>
          obtain ⟨k, hk, rfl, rfl⟩ := hrel
          by_cases hkl : k < L
          · have hc1 := (Hb1r.out.cell (p := ⟨gl, k, none⟩) hgl).trans (Hcell.out k hkl)
            have hst := Hst.out W k hkl
            have hzz := Hzp.out _ (Hmem.out k hkl)
            have hle := Hle2.out W k
            generalize zs.getD k 0 = z at *
            obtain ⟨Z, rfl⟩ := Int.eq_ofNat_of_zero_le hzz.1
            rw [Int.toNat_natCast] at hst
            have hmz : min Z 64 = Z := by omega
            have htm := tmod_two_val (T := W) (k := Z)
            have hlk : (zs.take k).length ≤ 6 := by rw [List.length_take]; have := HLn.out; omega
            have hnle : liesN W (zs.take k) ≤ 6 := by omega
            have Hst := Lib.hid hst
            clear hst hle hlk
            generalize liesN W (zs.take k) = n at *
            cases hb : W.testBit Z with
            | true =>
              rw [hb, if_pos rfl] at htm
              have Hst' : Hid (liesN W (zs.take (k + 1)) = n) := by unfold Hid; rw [Hst.out, hb]; rfl
              clear Hst hb
              go_wp2
              go_round
              case rel => exact ⟨k + 1, by omega, by go_num, by first | (rw [Hst'.out]; done) | (rw [Hst'.out]; go_num)⟩
              case measure => simp [intOf]; omega
            | false =>
              rw [hb, if_neg (by simp)] at htm
              have Hst' : Hid (liesN W (zs.take (k + 1)) = n + 1) := by unfold Hid; rw [Hst.out, hb]; rfl
              clear Hst hb
              go_wp2
              go_round
              case rel => exact ⟨k + 1, by omega, by go_num, by first | (rw [Hst'.out]; done) | (rw [Hst'.out]; go_num)⟩
              case measure => simp [intOf]; omega
          · obtain rfl : k = L := by omega
            rw [Hrev.out]
            have hev := mod_even7 (liesN W zs)
            have hev2 := mod_even8 (liesN W zs)
            generalize decide (liesN W zs % 2 = 0) = d at *
            generalize liesN W zs = n at *
            generalize holdsV P ms W = h at *
            go_wp2_with fail
            refine (Hho1.out _ _ _ (RdMarks.of_own HAr.out Hxi.out) (Nat.le_refl _)).mono ?_
            rintro e w5 ⟨rfl, hb5⟩
            have HO5 := Lib.hid (own_below HOr.out hb5)
            have Hb5 := Lib.hid (Hbr.out.trans (hb5.mono hsr))
            clear hb5
            go_wp2_with fail
            refine (Hho2.out _ _ _ (RdMarks.of_own HO5.out Hi.out) (Nat.le_refl _)).mono ?_
            rintro e w6 ⟨rfl, hb6⟩
            have Hb6 := Lib.hid (Hb5.out.trans (hb6.mono Hb5.out.size))
            clear hb6
            cases h <;> cases d
            all_goals
              go_wp2
              first
                | exact ⟨⟨W + 1, by omega, by go_num, Hb6.out⟩, by simp [intOf]; omega⟩
                | (go_roundw
                   case rel => first | exact ⟨W + 1, by omega, by go_num, Hb6.out⟩ | ((repeat apply Exists.intro); exact ⟨⟨W + 1, by omega, by go_num, Hb6.out⟩, rfl⟩)
                   case measure => simp [intOf]; omega)
      · obtain rfl : W = N := by omega
        go_wp2_with fail
        refine (Hto.out _ _ _ (RdMarks.of_own HAr.out Hxi.out) (Nat.le_refl _)).mono ?_
        rintro e w5 ⟨rfl, hb5⟩
        have HA5 := Lib.hid (own_below HAr.out hb5)
        have HO5 := Lib.hid (own_below HOr.out hb5)
        have Hb5 := Lib.hid (HB4'.out.trans ((Hbr.out.trans (hb5.mono hsr)).mono HB4'.out.size))
        clear hb5
        by_cases hL0 : 0 < L
        · go_wp2
          go_ret
          exact ⟨rfl, Hb5.out⟩
        · go_wp2_with fail
          refine (sameMarks xs ms _ _ _ _ _ (RdMarks.of_own HA5.out Hxi.out) (RdMarks.of_own HO5.out Hi.out)).mono ?_
          rintro e w6 ⟨rfl, n6, rfl⟩
          rw [show decide (xs = ms) = true from by rw [Hnil.out (Hz0.out (by omega))]; simp]
          go_wp2
          go_ret
          exact ⟨rfl, below_drewN Hb5.out _⟩

set_option maxRecDepth 100000 in
theorem lifted (os : Os) (started : os.Started) (H : Type) (enc : TypeId × Value → H) :
    ReturnsInHanded {} Try.checked os 5 .any (Rows.fnChainTermSpec.pre6 enc Try.prog Try.f5 Rows.fnChainTermRow.domain false) (Rows.fnChainTermSpec.post enc Try.prog Try.f5 false true false false) := by
  refine returnsInHanded_of_change (C := Try.checked) Try.own started (by kernel_rfl) Try.func5
    (ChangeSpec.witness6 (enc := enc) (C := Try.checked) false ⟨#[], #[.slice none 0 0], []⟩ 8 (by kernel_rfl) (by kernel_rfl) (by kernel_rfl) (by kernel_rfl)) ?_
  intro W base args ds gs before hval0 hW hcnd _
  have hval : ∀ (j : Nat) t v, Try.f5.params[j]? = some t → args[j]? = some v → Value.okWide Try.prog W .any base t v := hval0
  have hW' := hW
  obtain ⟨p, q, hA0, hV, rfl, hfz, hnd⟩ := hW
  have hA : DataW.TrodAll enc Try.prog W 0 (fun _ => true) true Try.f5.params.toList args.toList ds p := hA0
  rw [Try.params5] at hA hval
  obtain ⟨v0, vs0, d0, ds0, p0, q0, hargs, rfl, rfl, h0, r0⟩ := trodAll_cons hA
  obtain ⟨rfl, rfl, rfl⟩ := trodAll_nil r0
  obtain rfl : args = #[v0] := by cases args; simp_all
  obtain ⟨rfl, rfl⟩ := trodVars_none hV
  obtain ⟨a0, len0, cap0, rfl⟩ := okWide_slice Try.underlying22 (hval 0 22 v0 rfl rfl)
  have k0 := h0
  have lt0 : ∀ x ∈ p0, x.block < W.heap.size := by obtain ⟨m, hm⟩ := k0; exact DataW.trod_lt m _ _ _ hm
  obtain ⟨z0, w0⟩ : ∃ zs, IsRow .u8 W a0 len0 cap0 zs := by
    obtain ⟨fuel, hf⟩ := h0
    rcases open_ints Try.underlying22 Try.underlying5 (by kernel_rfl) hf with ⟨hcs, _⟩ | ⟨x, l, c, zs, hcs, _, hl, hm, hz, _, hcell, hwz⟩
    · simp [Value.cells] at hcs
      obtain ⟨rfl, rfl, rfl⟩ := hcs
      exact ⟨[], .inl ⟨rfl, rfl, rfl, rfl⟩⟩
    · simp [Value.cells] at hcs
      obtain ⟨rfl, rfl, rfl⟩ := hcs
      exact ⟨zs, .inr ⟨_, rfl, hl, hm, by simpa using hz, hcell, hwz⟩⟩
  clear hA0 hval0
  refine (walk _ _ W (RdBytes.of_row w0)).mono fun e W' ⟨he, bel⟩ => ?_
  subst he
  exact ⟨_, rfl, _, _, _, [], _, [], hW', trodAll_mk1 (shut_bool Try.underlying4 _), (trodAll_cons_mk (Below.trod Try.laidOut (by kernel_rfl) (of_decide_eq_true (by kernel_rfl)) k0 bel lt0) trodAll_mk0), rfl, bel.frame _, fun h => by cases h⟩

theorem closed : joinedFacts Try.pinned.checked.prog 5 Try.f5 Rows.fnChainTermSpec Rows.fnChainTermRow = true := by
  unfold joinedFacts
  exact (and_tt (and_tt (and_tt (and_tt (and_tt (and_tt (and_tt (and_tt (and_tt (and_tt (and_tt (and_tt (and_tt (and_tt (and_tt (and_tt (and_tt (and_tt (and_tt (and_tt (and_tt (and_tt (and_tt (and_tt (and_tt (and_tt (and_tt (and_tt (and_tt (and_tt (and_tt (by kernel_rfl) (by kernel_rfl)) (by kernel_rfl)) (by kernel_rfl)) (by kernel_rfl)) (by kernel_rfl)) (by kernel_rfl)) (by kernel_rfl)) (by kernel_rfl)) (by kernel_rfl)) (by kernel_rfl)) (by kernel_rfl)) (by kernel_rfl)) (by kernel_rfl)) (by kernel_rfl)) (by kernel_rfl)) (by kernel_rfl)) (by kernel_rfl)) (by kernel_rfl)) (by kernel_rfl)) (by kernel_rfl)) (by kernel_rfl)) (by kernel_rfl)) (by kernel_rfl)) (by kernel_rfl)) Try.mayEnter0) (lifted_tt Try.lifts0 rfl)) (make_tt Try.make0 rfl)) (by kernel_rfl)) (by kernel_rfl)) (by kernel_rfl)) (by kernel_rfl))
theorem over : Rows.fnChainTermRow.holds Try.pinned (OpenSpec.ofChange Rows.fnChainTermSpec) :=
  OpenClaim.holds_of_wide 5 Try.f5 rfl rfl rfl rfl rfl rfl rfl ⟨rfl, rfl, rfl, rfl, rfl⟩ rfl rfl rfl rfl rfl (by kernel_rfl) Try.func5 closed
    (of_decide_eq_true (by kernel_rfl)) (by unfold Func.isWrapper; first | (rw [if_pos (by decide +kernel)]; kernel_rfl) | (rw [if_neg (by decide +kernel)]; exact ⟨rfl, rfl⟩))
    (fun os started H enc _ => lifted os started H enc)

theorem proved : Rows.FnChainTermSaid := over
end Go.Proofs.Ytemldnjpcnogpaa.fnChainTerm

