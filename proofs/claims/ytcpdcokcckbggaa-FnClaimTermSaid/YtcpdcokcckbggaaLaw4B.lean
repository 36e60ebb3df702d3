/- A law of stage 4: a claim is an equivalence. It answers true, whatever the code. No condition. -/
import Derived.Test.YtcpdcokcckbggaaDrawS
import Derived.Test.YtcpdcokcckbggaaDrawH
import Derived.Test.YtcpdcokcckbggaaMirrorS
import Derived.Test.YtcpdcokcckbggaaTruthI
import Derived.Test.YtcpdcokcckbggaaClaimI
import Derived.Test.YtcpdcokcckbggaaClaimE
import Derived.Test.YtcpdcokcckbggaaLawsA
import Derived.Deep.RegionHeld3
import Derived.Deep.Cut
namespace Go.Proofs.Ytcpdcokcckbggaa
theorem cterm_I64 (p k : Int) (ms : List (Int × Int)) (hi : I64s ms) (h1 : -1 ≤ k) (h4 : k ≤ 4) : I64s (ctermV p (k, ms)) := by
  unfold ctermV
  split
  · unfold ctermL
    exact I64s_append (I64s_append (xs := [(0, k)]) (I64s_one (I64_small (by omega) (by omega)) (I64_small (by omega) (by omega))) hi) (I64s_one (I64_small (by omega) (by omega)) (I64_small (by omega) (by omega)))
  · intro m hm; simp at hm
end Go.Proofs.Ytcpdcokcckbggaa
namespace Go.Proofs.Ytcpdcokcckbggaa.fnClaimTerm
open Go.ChangeShapes Go.WideShapes Go.ChangeAt Go.RowKit Go.Joins
attribute [local irreducible] holds tabN tabV holdsV sameV followsV alwaysV matterV mirV mirOk mcells tmOf claimOk mayT mayV ctabV ctabN storyV storyOk storyN storyT ctermV ctermL denyV denyOk ccells
open Go.ChangeMaps (open_string shut_string)
set_option linter.unusedVariables false
set_option maxRecDepth 100000 in
set_option maxHeartbeats 4000000 in
theorem walk (a0 : Value) (n0 : Nat) (w : World) (w0 : RdBytes w w.heap.size a0 n0) :
    Calls Try.prog 5 #[a0] w fun e w' => e = .returned (.bool true) ∧ Below w.heap.size w w' := by
  have hr := w0
  by_cases hbig : n0 ≤ 1048576
  case neg =>
    obtain ⟨ao, cap, rfl, hl, hm, hc⟩ := w0
    have hbig' := code_big hbig
    unfold maxLen at hm
    clear hc hr hbig
    go_enter Try.func5, Try.ntmps5
    go_wp2
    go_ret
    exact ⟨rfl, Below.refl _ _⟩
  have hbig' : (n0 : Int) ≤ 1048576 := by omega
  clear hbig
  obtain ⟨ao, cap, rfl, hl, hm, hc⟩ := w0
  have Hr := Lib.hid hr
  clear hc hr hl hm
  go_enter Try.func5, Try.ntmps5
  go_wp2_with fail
  refine (drawClaimTerm _ _ _ Hr.out).mono ?_
  rintro e w1 ⟨p, k, g, cp, ms, hp1, hp8, rfl, hown, hi, hn20, hk1, hk4, hB1⟩
  have Hi := Lib.hid hi
  go_upto_region 4 with fail
  obtain ⟨w2, hw2, hx2, hb2, hsz2⟩ := Box.new w1 (.int .i64 k) (.slice (some ⟨g, 0, none⟩) ms.length cp) TC
  have HO2 := Lib.hid (show w2.ownsRow w.heap.size TM 2 (.slice (some ⟨g, 0, none⟩) ms.length cp) ms.length (mcells ms) by rw [hw2]; exact hown.alloc _)
  have hB2 : Below w.heap.size w w2 := hB1.trans (hb2.mono hB1.size)
  have HX2 := Lib.hid hx2
  have aX2 := HX2.out.1
  have bX2 := HX2.out.2.1
  rw [← hw2]
  clear hw2 hown hi hb2 hx2 hB1
  go_wp2_with fail
  refine (implClaimTerm p k ms _ _ _ (RdMarks.of_own HO2.out Hi.out) (Nat.le_refl _)).mono ?_
  rintro e w3 ⟨t, rfl, hot, hb3⟩
  have HX3 := Lib.hid (HX2.out.below hb3)
  have aX3 := HX3.out.1
  have bX3 := HX3.out.2.1
  have HO3 := Lib.hid (own_below HO2.out hb3)
  have hB3 : Below w.heap.size w w3 := hB2.trans (hb3.mono hB2.size)
  clear hb3 aX2 bX2
  go_wp2_with fail
  refine (specClaimTerm p k ms _ _ _ (RdMarks.of_own HO3.out Hi.out) (Nat.le_refl _)).mono ?_
  rintro e w4 ⟨t', rfl, hot', hb4⟩
  have HX4 := Lib.hid (HX3.out.below hb4)
  have aX4 := HX4.out.1
  have bX4 := HX4.out.2.1
  have HO4 := Lib.hid (own_below HO3.out hb4)
  have hB4 : Below w.heap.size w w4 := hB3.trans (hb4.mono hB3.size)
  have hot4 := own_below hot hb4
  have hxi := cterm_I64 p k ms Hi.out hk1 hk4
  clear hb4 aX3 bX3 hot
  obtain ⟨tb, tc, htf⟩ := own_len hot4
  subst htf
  have htc : (ctermV p (k, ms)).length ≤ tc := by
    rcases hot4.2 with ⟨h0, hz⟩ | ⟨g', cap', cur, h0, _, _, h1, _⟩
    · injection h0 with _ h2 h3; omega
    · injection h0 with _ h2 h3; omega
  have Hc1 := Lib.hid (fun B u W h h2 => implClaimOk p k ms B u W h h2)
  have Hm1 := Lib.hid (fun (j : Nat) B u W h h2 => implMaySay p k j ms B u W h h2)
  have Hh1 := Lib.hid (fun (j : Nat) B u W h h2 => implHoldsIn p (ctermV p (k, ms)) j B u W h h2)
  have Ht1 := Lib.hid (fun B u W h h2 => implTermOk p (ctermV p (k, ms)) B u W h h2)
  have Hno := Lib.hid (fun h => (ctermV_no (p := p) (c := (k, ms)) h))
  have Hyes : Hid (claimOk p (k, ms) = true → (ctermV p (k, ms)).length = ms.length + 2 ∧ termOk p (ctermV p (k, ms)) = true ∧ (1 ≤ p ∧ p ≤ 4) ∧ ∀ j : Nat, holdsV p (ctermV p (k, ms)) j = mayV p (k, ms) j) := fun h => by
    rw [ctermV_yes h]
    exact ⟨(ctermL_ok h).2.2, (ctermL_ok h).1, p_of_claim h, fun j => holdsV_cterm h j⟩
  generalize ctermV p (k, ms) = xs at *
  have HT4 := Lib.hid hot4
  have Hxi := Lib.hid hxi
  go_wp2_with fail
  refine (sameMarks xs xs _ _ _ _ _ (RdMarks.of_own HT4.out Hxi.out) (RdMarks.of_own hot' Hxi.out)).mono ?_
  rintro e w5 ⟨rfl, nd, hw5⟩
  rw [show decide (xs = xs) = true from by simp]
  have HX5 : Hid (Box w5 w1.heap.size (.int .i64 k) (.slice (some ⟨g, 0, none⟩) ms.length cp)) := by rw [← hw5]; exact HX4.out
  have aX5 := HX5.out.1
  have bX5 := HX5.out.2.1
  have HO5 : Hid (w5.ownsRow w.heap.size TM 2 (.slice (some ⟨g, 0, none⟩) ms.length cp) ms.length (mcells ms)) := by rw [← hw5]; exact HO4.out
  have HT5 : Hid (w5.ownsRow w2.heap.size TM 2 (.slice tb xs.length tc) xs.length (mcells xs)) := by rw [← hw5]; exact HT4.out
  have hB5 : Below w.heap.size w w5 := by rw [← hw5]; exact below_drewN hB4 nd
  clear hw5 hot' hot4 hxi aX4 bX4
  cases hok : claimOk p (k, ms) with
  | false =>
    have hx0 := Hno.out hok
    subst hx0
    rw [hok] at Hc1
    clear hok htc
    go_wp2_with fail
    refine (Hc1.out _ _ _ (RdMarks.of_own HO5.out Hi.out) (Nat.le_refl _)).mono ?_
    rintro e w6 ⟨rfl, hb6⟩
    have hB6 : Below w.heap.size w w6 := hB5.trans (hb6.mono hB5.size)
    clear hb6
    go_wp2_with fail
    refine (alive _).mono ?_
    rintro e w' ⟨rfl, rfl⟩
    go_wp2
    go_ret
    exact ⟨rfl, hB6⟩
  | true =>
    obtain ⟨hl, htok, ⟨h1, h4⟩, hho⟩ := Hyes.out hok
    have Hh2 : Hid (∀ (j : Nat) B u W, RdMarks W B u xs → B ≤ W.heap.size → Calls Try.prog 31 #[.int .i64 p, u, .int .i64 j] W fun e w' => e = .returned (.bool (mayV p (k, ms) j)) ∧ Below W.heap.size W w') := by
      intro j B u W h h2
      rw [← hho j]
      exact Hh1.out j B u W h h2
    rw [htok] at Ht1
    have hlx : ¬ (xs.length : Int) = 0 := by omega
    have hlx2 : (xs.length : Int) = (ms.length : Int) + 2 := by omega
    clear hok htok hho Hh1 Hyes Hno Hc1 hl
    obtain ⟨N, hN⟩ : ∃ N : Nat, N = 2 ^ p.toNat := ⟨_, rfl⟩
    have hNe : (N : Int) = 2 ^ p.toNat := by rw [hN]; simp
    have hsh : wrap64 (2 ^ p.toNat) = (N : Int) := by rcases p_cases h1 h4 with rfl | rfl | rfl | rfl <;> (rw [hNe]; decide +kernel)
    have hN16 : N ≤ 16 := by rw [hN]; exact two16 (by omega)
    clear hNe hN HX4 HO4 HT4
    go_wp2_with fail
    go_loopw [2, 6] (fun _ i wr => ∃ j : Nat, j ≤ N ∧ i = .int .i64 j ∧ Below w5.heap.size w5 wr) (fun _ i _ => N - (intOf i).toNat)
    case atStart => exact ⟨0, Nat.zero_le _, rfl, Below.refl _ _⟩
    case round =>
      obtain ⟨j, hj, rfl, hbr⟩ := hrel
      have HXr := Lib.hid (HX5.out.below hbr)
      have aXr := HXr.out.1
      have bXr := HXr.out.2.1
      have HOr := Lib.hid (own_below HO5.out hbr)
      have HTr := Lib.hid (own_below HT5.out hbr)
      have Hbr := Lib.hid hbr
      clear hbr aX5 bX5
      by_cases hlt : j < N
      · have Hmj := Lib.hid (Hm1.out j)
        have Hhj := Lib.hid (Hh2.out j)
        generalize mayV p (k, ms) j = o at *
        go_wp2_with fail
        go_region_held3 (fun w' => w'.cell? ⟨w1.heap.size, 0, none⟩ = some (.int .i64 k) ∧ w'.cell? ⟨w1.heap.size, 1, none⟩ = some (.slice (some ⟨g, 0, none⟩) ms.length cp))
          (first | (refine ⟨?_, ?_⟩ <;> first | go_keep | assumption) | assumption)
          (first
            | (go_at_call 31
               (with_reducible refine (Hhj.out wr.heap.size _ _ ?_ ?_).mono ?_)
               · exact RdMarks.of_own HTr.out Hxi.out
               · exact Nat.le_refl _
               rintro e w7 ⟨rfl, hb7'⟩
               go_must (have hb7 : Below wr.heap.size wr w7 := by first | exact hb7' | exact below_undrewS hb7' | exact below_undrewN hb7'
                        clear hb7'
                        have HX7 := Lib.hid (HXr.out.below hb7)
                        have aX7 := HX7.out.1
                        have bX7 := HX7.out.2.1
                        have HO7 := Lib.hid (own_below HOr.out hb7)
                        have Hb7 := Lib.hid (Hbr.out.trans (hb7.mono Hbr.out.size))
                        clear hb7))
            | (go_at_call 21
               (with_reducible refine (Hmj.out w7.heap.size _ _ ?_ ?_).mono ?_)
               · exact RdMarks.of_own HO7.out Hi.out
               · exact Nat.le_refl _
               rintro e w8 ⟨rfl, hb8'⟩
               go_must (have hb8 : Below w7.heap.size w7 w8 := by first | exact hb8' | exact below_undrewS hb8' | exact below_undrewN hb8'
                        clear hb8'
                        have HX8 := Lib.hid (HX7.out.below hb8)
                        have aX8 := HX8.out.1
                        have bX8 := HX8.out.2.1
                        have Hb8 := Lib.hid (Hb7.out.trans (hb8.mono Hb7.out.size))
                        clear hb8))
            | fail)
        cases o
        all_goals
          go_wp2
          go_roundw
          case rel => exact ⟨_, _, _, _, _, _, _, _, _, _, _, _, _, _, _, _, _, ⟨j + 1, by omega, by go_num, by first | exact Hb8.out | exact below_drew1 Hb8.out | exact below_drewN Hb8.out _⟩, rfl⟩
          case measure => simp [intOf]; omega
      · obtain rfl : j = N := by omega
        have HB := Lib.hid (hB5.trans (Hbr.out.mono hB5.size))
        go_wp2_with fail
        refine (Ht1.out _ _ _ (RdMarks.of_own HTr.out Hxi.out) (Nat.le_refl _)).mono ?_
        rintro e w7 ⟨rfl, hb7⟩
        have HX7 := Lib.hid (HXr.out.below hb7)
        have aX7 := HX7.out.1
        have bX7 := HX7.out.2.1
        have HB7 := Lib.hid (HB.out.trans (hb7.mono HB.out.size))
        clear hb7
        go_wp2
        go_ret
        exact ⟨by first | rfl | exact ret_bool (by simp; omega), HB7.out⟩

set_option maxRecDepth 100000 in
theorem lifted (os : Os) (started : os.Started) (H : Type) (enc : TypeId × Value → H) :
    ReturnsInHanded {} Try.checked os 5 .any (Rows.fnClaimTermSpec.pre6 enc Try.prog Try.f5 Rows.fnClaimTermRow.domain false) (Rows.fnClaimTermSpec.post enc Try.prog Try.f5 false true false false) := by
  refine returnsInHanded_of_change (C := Try.checked) Try.own started (by kernel_rfl) Try.func5
    (ChangeSpec.witness6 (enc := enc) (C := Try.checked) false ⟨#[], #[.slice none 0 0], []⟩ 8 (by kernel_rfl) (by kernel_rfl) (by kernel_rfl) (by kernel_rfl)) ?_
  intro W base args ds gs before hval0 hW hcnd _
  have hval : ∀ (j : Nat) t v, Try.f5.params[j]? = some t → args[j]? = some v → Value.okWide Try.prog W .any base t v := hval0
  have hW' := hW
  obtain ⟨p, q, hA0, hV, rfl, hfz, hnd⟩ := hW
  have hA : DataW.TrodAll enc Try.prog W 0 (fun _ => true) true Try.f5.params.toList args.toList ds p := hA0
  rw [Try.params5] at hA hval
  obtain ⟨v0, vs0, d0, ds0, p0, q0, hargs, rfl, rfl, h0, r0⟩ := trodAll_cons hA
  obtain ⟨rfl, rfl, rfl⟩ := trodAll_nil r0
  obtain rfl : args = #[v0] := by cases args; simp_all
  obtain ⟨rfl, rfl⟩ := trodVars_none hV
  obtain ⟨a0, len0, cap0, rfl⟩ := okWide_slice Try.underlying22 (hval 0 22 v0 rfl rfl)
  have k0 := h0
  have lt0 : ∀ x ∈ p0, x.block < W.heap.size := by obtain ⟨m, hm⟩ := k0; exact DataW.trod_lt m _ _ _ hm
  obtain ⟨z0, w0⟩ : ∃ zs, IsRow .u8 W a0 len0 cap0 zs := by
    obtain ⟨fuel, hf⟩ := h0
    rcases open_ints Try.underlying22 Try.underlying5 (by kernel_rfl) hf with ⟨hcs, _⟩ | ⟨x, l, c, zs, hcs, _, hl, hm, hz, _, hcell, hwz⟩
    · simp [Value.cells] at hcs
      obtain ⟨rfl, rfl, rfl⟩ := hcs
      exact ⟨[], .inl ⟨rfl, rfl, rfl, rfl⟩⟩
    · simp [Value.cells] at hcs
      obtain ⟨rfl, rfl, rfl⟩ := hcs
      exact ⟨zs, .inr ⟨_, rfl, hl, hm, by simpa using hz, hcell, hwz⟩⟩
  clear hA0 hval0
  refine (walk _ _ W (RdBytes.of_row w0)).mono fun e W' ⟨he, bel⟩ => ?_
  subst he
  exact ⟨_, rfl, _, _, _, [], _, [], hW', trodAll_mk1 (shut_bool Try.underlying4 _), (trodAll_cons_mk (Below.trod Try.laidOut (by kernel_rfl) (of_decide_eq_true (by kernel_rfl)) k0 bel lt0) trodAll_mk0), rfl, bel.frame _, fun h => by cases h⟩

theorem closed : joinedFacts Try.pinned.checked.prog 5 Try.f5 Rows.fnClaimTermSpec Rows.fnClaimTermRow = true := by
  unfold joinedFacts
  exact (and_tt (and_tt (and_tt (and_tt (and_tt (and_tt (and_tt (and_tt (and_tt (and_tt (and_tt (and_tt (and_tt (and_tt (and_tt (and_tt (and_tt (and_tt (and_tt (and_tt (and_tt (and_tt (and_tt (and_tt (and_tt (and_tt (and_tt (and_tt (and_tt (and_tt (and_tt (by kernel_rfl) (by kernel_rfl)) (by kernel_rfl)) (by kernel_rfl)) (by kernel_rfl)) (by kernel_rfl)) (by kernel_rfl)) (by kernel_rfl)) (by kernel_rfl)) (by kernel_rfl)) (by kernel_rfl)) (by kernel_rfl)) (by kernel_rfl)) (by kernel_rfl)) (by kernel_rfl)) (by kernel_rfl)) (by kernel_rfl)) (by kernel_rfl)) (by kernel_rfl)) (by kernel_rfl)) (by kernel_rfl)) (by kernel_rfl)) (by kernel_rfl)) (by kernel_rfl)) (by kernel_rfl)) Try.mayEnter0) (lifted_tt Try.lifts0 rfl)) (make_tt Try.make0 rfl)) (by kernel_rfl)) (by kernel_rfl)) (by kernel_rfl)) (by kernel_rfl))
theorem over : Rows.fnClaimTermRow.holds Try.pinned (OpenSpec.ofChange Rows.fnClaimTermSpec) :=
  OpenClaim.holds_of_wide 5 Try.f5 rfl rfl rfl rfl rfl rfl rfl ⟨rfl, rfl, rfl, rfl, rfl⟩ rfl rfl rfl rfl rfl (by kernel_rfl) Try.func5 closed
    (of_decide_eq_true (by kernel_rfl)) (by unfold Func.isWrapper; first | (rw [if_pos (by decide +kernel)]; kernel_rfl) | (rw [if_neg (by decide +kernel)]; exact ⟨rfl, rfl⟩))
    (fun os started H enc _ => lifted os started H enc)

theorem proved : Rows.FnClaimTermSaid := over
end Go.Proofs.Ytcpdcokcckbggaa.fnClaimTerm

