/- A law of stage 5: what is known is so in each world. It answers true, whatever the code. No condition. -/
import Derived.Test.YtncihjelpaiocaaDrawV
import Derived.Test.YtncihjelpaiocaaOneI
import Derived.Test.YtncihjelpaiocaaClaimI
import Derived.Test.YtncihjelpaiocaaOneU
import Derived.Test.YtncihjelpaiocaaClaimF
import Derived.Test.YtncihjelpaiocaaLawsA
import Derived.Deep.RegionHeld3
import Derived.Deep.Cut
namespace Go.Proofs.Ytncihjelpaiocaa
open Go.RowKit Go.Joins
theorem known_any1 {l : List Nat} {k : Nat} (hl : l ≠ []) (h : knownK l k = 1) : (l.any fun x => !x.testBit k) = false := by
  rw [List.any_eq_false]
  intro x hx
  rw [(known_one hl).1 h x hx]; simp
theorem known_any0 {l : List Nat} {k : Nat} (h : knownK l k = 0) : (l.any fun x => x.testBit k) = false := by
  rw [List.any_eq_false]
  intro x hx
  rw [known_zero.1 h x hx]; simp
theorem known_anyn {l : List Nat} {k : Nat} (hl : l ≠ []) (h : knownK l k = -1) : (l.any fun x => x.testBit k) = true ∧ (l.any fun x => !x.testBit k) = true := by
  obtain ⟨⟨x, hx, h1⟩, y, hy, h2⟩ := known_not hl h
  exact ⟨List.any_eq_true.2 ⟨x, hx, h1⟩, List.any_eq_true.2 ⟨y, hy, by rw [h2]; rfl⟩⟩
theorem any_take_succ (l : List Nat) (f : Nat → Bool) (j : Nat) (hj : j < l.length) : (l.take (j + 1)).any f = ((l.take j).any f || f (l.getD j 0)) := by
  have e : l.getD j 0 = l[j] := by simp [List.getD, hj]
  rw [List.take_succ_eq_append_getElem hj, List.any_append, e]
  simp
end Go.Proofs.Ytncihjelpaiocaa
namespace Go.Proofs.Ytncihjelpaiocaa.fnKnownPeople
open Go.ChangeShapes Go.WideShapes Go.ChangeAt Go.RowKit Go.Joins
attribute [local irreducible] holds tabN tabV holdsV sameV followsV alwaysV matterV mirV mirOk mcells tmOf claimOk mayT mayV ctabV ctabN storyV storyOk storyN storyT ctermV ctermL denyV denyOk ccells clashV onlyOk onlyN knownF knownL knownK cntK swl needB needF needL leastR leastV woL
open Go.ChangeMaps (open_string shut_string)
set_option linter.unusedVariables false
set_option maxRecDepth 100000 in
set_option maxHeartbeats 4000000 in
theorem walk (a0 : Value) (n0 : Nat) (w : World) (w0 : RdBytes w w.heap.size a0 n0) :
    Calls Try.prog 5 #[a0] w fun e w' => e = .returned (.bool true) ∧ Below w.heap.size w w' := by
  have hr := w0
  by_cases hbig : n0 ≤ 1048576
  case neg =>
    obtain ⟨ao, cap, rfl, hl, hm, hc⟩ := w0
    have hbig' := code_big hbig
    unfold maxLen at hm
    clear hc hr hbig
    go_enter Try.func5, Try.ntmps5
    go_wp2
    go_ret
    exact ⟨rfl, Below.refl _ _⟩
  have hbig' : (n0 : Int) ≤ 1048576 := by omega
  clear hbig
  obtain ⟨ao, cap, rfl, hl, hm, hc⟩ := w0
  have Hr := Lib.hid hr
  clear hc hr hl hm
  go_enter Try.func5, Try.ntmps5
  go_wp2_with fail
  refine (drawKnownPeople _ _ _ Hr.out).mono ?_
  rintro e w1 ⟨p, v, qs, hp4', hp8, rfl, hst, hqs, hq7, hB1⟩
  have HS1 := Lib.hid hst
  obtain ⟨vo, vc, hvf⟩ := own_len hst.1
  subst hvf
  have hvc : qs.length ≤ vc := by
    rcases hst.1.2 with ⟨h0, hz⟩ | ⟨g', cap', cur, h0, _, _, h1, _⟩
    · injection h0 with _ h2 h3; omega
    · injection h0 with _ h2 h3; omega
  clear hst
  have HQ_1 := HS1
  have Hik := Lib.hid (fun B u W h h2 => implKnownPeople p qs B u W h h2)
  have Hsk := Lib.hid (fun B u W h h2 => specKnownPeople p qs B u W h h2)
  have Hit := Lib.hid (fun B u W h h2 => implStoryTable p qs B u W h h2)
  have Hiw := Lib.hid (fun w => implWorldsIn p (storyV p (qs.map (·.2))) w)
  rw [show wlp p (storyV p (qs.map (·.2))) = swl p (qs.map (·.2)) by unfold swl; rfl] at Hiw
  rw [show knownL p (qs.map (·.2)) = knownF p (swl p (qs.map (·.2))) by unfold knownL; rfl] at Hik Hsk
  have hlen := swl_len p (qs.map (·.2))
  have Hsm : Hid (∀ j, (swl p (qs.map (·.2))).getD j 0 < 16) := fun j => swl_small j
  have Hpp : Hid (swl p (qs.map (·.2)) ≠ [] → 1 ≤ p ∧ p ≤ 4) := fun h => story_people h
  generalize swl p (qs.map (·.2)) = l at *
  generalize storyV p (qs.map (·.2)) = T at *
  have Hkf : Hid (knownF p l = knownF p l) := rfl
  have hkl := knownL_len (p := p) (l := l)
  by_cases hl : l = []
  · rw [if_pos hl] at hkl
    have hz : knownF p l = [] := List.eq_nil_of_length_eq_zero hkl
    rw [hz] at Hik Hsk
    obtain ⟨ks, hks⟩ : ∃ ks : List Int, ks = [] := ⟨_, rfl⟩
    rw [← hks] at Hik Hsk
    have Hks := Lib.hid hks
    have hk0 : ks.length = 0 := by rw [hks]; rfl
    generalize hkn : ks.length = kn at *
    have Hkl := Lib.hid hkn
    subst hk0
    subst hl
    clear hks hkn hz hkl Hkf hvc Hsm Hpp
    go_wp2_with fail
    refine (Hik.out _ _ _ HQ_1.out.rd (Nat.le_refl _)).mono ?_
    rintro e w2 ⟨u2, rfl, hown2, hb2⟩
    obtain ⟨a2, c2, hv2⟩ := own_len hown2
    subst hv2
    have HU_2 := Lib.hid hown2
    clear hown2
    have HQ_2 := Lib.hid (HQ_1.out.below hb2)
    have hs2 := hb2.size
    have hB2 : Below w.heap.size w w2 := hB1.trans (hb2.mono hB1.size)
    clear hb2
    go_wp2_with fail
    refine (Hsk.out _ _ _ HQ_2.out.rd (Nat.le_refl _)).mono ?_
    rintro e w3 ⟨u3, rfl, hown3, hb3⟩
    have HU_3 := Lib.hid (own_below HU_2.out hb3)
    have HV_3 := Lib.hid hown3
    clear hown3
    have HQ_3 := Lib.hid (HQ_2.out.below hb3)
    have hs3 := hb3.size
    have hB3 : Below w.heap.size w w3 := hB2.trans (hb3.mono hB2.size)
    clear hb3
    go_wp2_with fail
    refine (sameInts ks ks _ _ _ _ _ (RdInts.of_own (by rw [Hkl.out]; exact HU_3.out)) (RdInts.of_own (by rw [Hkl.out]; exact HV_3.out))).mono ?_
    rintro e w4 ⟨rfl, n4, rfl⟩
    rw [show decide (ks = ks) = true from by simp]
    have hb4 : Below w3.heap.size w3 (w3.drewN n4) := below_drewN (Below.refl _ _) n4
    obtain ⟨w4, hw4⟩ : ∃ W, W = w3.drewN n4 := ⟨_, rfl⟩
    rw [← hw4] at hb4 ⊢
    have HU_4 := Lib.hid (own_below HU_3.out hb4)
    clear hw4
    have HQ_4 := Lib.hid (HQ_3.out.below hb4)
    have hs4 := hb4.size
    have hB4 : Below w.heap.size w w4 := hB3.trans (hb4.mono hB3.size)
    clear hb4
    go_wp2_with fail
    refine (Hit.out _ _ _ HQ_4.out.rd (Nat.le_refl _)).mono ?_
    rintro e w5 ⟨rfl, hb5⟩
    have HU_5 := Lib.hid (own_below HU_4.out hb5)
    have hs5 := hb5.size
    have hB5 : Below w.heap.size w w5 := hB4.trans (hb5.mono hB4.size)
    clear hb5
    go_wp2_with fail
    refine (Hiw.out _).mono ?_
    rintro e w6 ⟨u6, rfl, hown6, hb6⟩
    have HU_6 := Lib.hid (own_below HU_5.out hb6)
    have hs6 := hb6.size
    have hB6 : Below w.heap.size w w6 := hB5.trans (hb6.mono hB5.size)
    clear hb6
    obtain ⟨a6, c6, hv6⟩ := own_len hown6
    subst hv6
    clear hown6
    go_wp2_with fail
    refine (alive _).mono ?_
    rintro e w7 ⟨rfl, rfl⟩
    go_wp2
    go_ret
    exact ⟨rfl, hB6⟩
  · rw [if_neg hl] at hkl
    obtain ⟨h1, h4⟩ := Hpp.out hl
    have Hget := Lib.hid (fun k hk => knownL_get (p := p) (l := l) (k := k) hl hk)
    have Hk1 := Lib.hid (fun k => known_any1 (l := l) (k := k) hl)
    have Hkn := Lib.hid (fun k => known_anyn (l := l) (k := k) hl)
    have Hk0 := Lib.hid (fun k => known_any0 (l := l) (k := k))
    obtain ⟨P, rfl⟩ := Int.eq_ofNat_of_zero_le (show 0 ≤ p by omega)
    have hpt : (P : Int).toNat = P := Int.toNat_natCast P
    rw [hpt] at hkl
    generalize knownF P l = ks at *
    obtain ⟨n, hn⟩ : ∃ n, n = l.length := ⟨_, rfl⟩
    have hn0 : 0 < n := by rw [hn]; exact List.length_pos_iff.2 hl
    have hP4 : P ≤ 4 := by omega
    have hP0 : ¬ P = 0 := by omega
    have Hn := Lib.hid hn
    rw [← hn] at hlen Hiw
    rw [hkl] at Hik Hsk
    have Hkl := Lib.hid hkl
    clear hn hl Hpp h1 hkl Hkf hvc hpt h4
    go_wp2_with fail
    refine (Hik.out _ _ _ HQ_1.out.rd (Nat.le_refl _)).mono ?_
    rintro e w2 ⟨u2, rfl, hown2, hb2⟩
    obtain ⟨a2, c2, hv2⟩ := own_len hown2
    subst hv2
    have HU_2 := Lib.hid hown2
    clear hown2
    have HQ_2 := Lib.hid (HQ_1.out.below hb2)
    have hs2 := hb2.size
    have hB2 : Below w.heap.size w w2 := hB1.trans (hb2.mono hB1.size)
    clear hb2
    go_wp2_with fail
    refine (Hsk.out _ _ _ HQ_2.out.rd (Nat.le_refl _)).mono ?_
    rintro e w3 ⟨u3, rfl, hown3, hb3⟩
    have HU_3 := Lib.hid (own_below HU_2.out hb3)
    have HV_3 := Lib.hid hown3
    clear hown3
    have HQ_3 := Lib.hid (HQ_2.out.below hb3)
    have hs3 := hb3.size
    have hB3 : Below w.heap.size w w3 := hB2.trans (hb3.mono hB2.size)
    clear hb3
    go_wp2_with fail
    refine (sameInts ks ks _ _ _ _ _ (RdInts.of_own (by rw [Hkl.out]; exact HU_3.out)) (RdInts.of_own (by rw [Hkl.out]; exact HV_3.out))).mono ?_
    rintro e w4 ⟨rfl, n4, rfl⟩
    rw [show decide (ks = ks) = true from by simp]
    have hb4 : Below w3.heap.size w3 (w3.drewN n4) := below_drewN (Below.refl _ _) n4
    obtain ⟨w4, hw4⟩ : ∃ W, W = w3.drewN n4 := ⟨_, rfl⟩
    rw [← hw4] at hb4 ⊢
    have HU_4 := Lib.hid (own_below HU_3.out hb4)
    clear hw4
    have HQ_4 := Lib.hid (HQ_3.out.below hb4)
    have hs4 := hb4.size
    have hB4 : Below w.heap.size w w4 := hB3.trans (hb4.mono hB3.size)
    clear hb4
    go_wp2_with fail
    refine (Hit.out _ _ _ HQ_4.out.rd (Nat.le_refl _)).mono ?_
    rintro e w5 ⟨rfl, hb5⟩
    have HU_5 := Lib.hid (own_below HU_4.out hb5)
    have hs5 := hb5.size
    have hB5 : Below w.heap.size w w5 := hB4.trans (hb5.mono hB4.size)
    clear hb5
    go_wp2_with fail
    refine (Hiw.out _).mono ?_
    rintro e w6 ⟨u6, rfl, hown6, hb6⟩
    have HU_6 := Lib.hid (own_below HU_5.out hb6)
    have hs6 := hb6.size
    have hB6 : Below w.heap.size w w6 := hB5.trans (hb6.mono hB5.size)
    clear hb6
    obtain ⟨g5, c5, rfl⟩ := ownsRow_form hown6 hn0
    obtain ⟨g2, rfl⟩ : ∃ g2, a2 = some ⟨g2, 0, none⟩ := by
      obtain ⟨g, c, h⟩ := ownsRow_form HU_6.out (by omega)
      injection h with h1 h2 h3
      exact ⟨g, h1⟩
    have hcap5 := own_cap hown6
    have hcap2 := own_cap HU_6.out
    unfold maxLen at hcap5 hcap2
    have Hrow : Hid (∀ k, k < P → w6.cell? ⟨g2, k, none⟩ = some (.int .i64 (knownK l k))) := fun k hk => by
      have h1 := HU_6.out.cellAt k (by omega)
      rw [h1, ← Hget.out k (by rw [Int.toNat_natCast]; exact hk)]
      simp [ints, List.getD, Hkl.out, hk]
    have Hlst : Hid (∀ j, j < n → w6.cell? ⟨g5, j, none⟩ = some (.int .i64 (l.getD j 0))) := fun j hj => by
      have h1 := hown6.cellAt j (by omega)
      rw [h1, vals_get l j (by have := Hn.out; omega)]
    clear hown6
    have hPi : ¬ (P : Int) = 0 := by omega
    have hni : ¬ (n : Int) = 0 := by omega
    go_wp2
    go_loop [7, 8, 9, 10] (fun i _ _ _ => ∃ k : Nat, k ≤ P ∧ i = .int .i64 k) (fun i _ _ _ => P - (intOf i).toNat)
    case atStart => exact ⟨0, Nat.zero_le _, rfl⟩
    case round =>
      obtain ⟨k, hk, rfl⟩ := hrel
      by_cases hlt : k < P
      · have hmk : min k 64 = k := by omega
        have hrow := Hrow.out k hlt
        have Hk1' := Lib.hid (Hk1.out k)
        have Hk0' := Lib.hid (Hk0.out k)
        have Hkn' := Lib.hid (Hkn.out k)
        go_wp2
        go_loop [8, 9, 10] (fun y nn i => ∃ j : Nat, j ≤ n ∧ i = .int .i64 j ∧ y = .bool ((l.take j).any fun x => x.testBit k) ∧ nn = .bool ((l.take j).any fun x => !x.testBit k)) (fun _ _ i => n - (intOf i).toNat)
        case atStart => exact ⟨0, Nat.zero_le _, rfl, by simp, by simp⟩
        case round =>
          clear hrow
          obtain ⟨j, hj, rfl, rfl, rfl⟩ := hrel
          by_cases hjl : j < n
          · have hc := Hlst.out j hjl
            have hx := Hsm.out j
            have s1 := any_take_succ l (fun x => x.testBit k) j (by have := Hn.out; omega)
            have s2 := any_take_succ l (fun x => !x.testBit k) j (by have := Hn.out; omega)
            generalize l.getD j 0 = x at *
            have hb := tmod_two_val (T := x) (k := k)
            have S1 := Lib.hid s1
            have S2 := Lib.hid s2
            clear s1 s2
            generalize ((l.take j).any fun x => x.testBit k) = y at *
            generalize ((l.take j).any fun x => !x.testBit k) = nn at *
            cases hbit : x.testBit k with
            | true =>
              rw [hbit, if_pos rfl] at hb
              rw [hbit] at S1 S2
              clear hbit
              cases y <;> cases nn
              all_goals
                go_wp2
                go_round
                case rel => exact ⟨j + 1, by omega, by go_num, by rw [S1.out]; rfl, by rw [S2.out]; rfl⟩
                case measure => simp [intOf]; omega
            | false =>
              rw [hbit, if_neg (by simp)] at hb
              rw [hbit] at S1 S2
              clear hbit
              cases y <;> cases nn
              all_goals
                go_wp2
                go_round
                case rel => exact ⟨j + 1, by omega, by go_num, by rw [S1.out]; rfl, by rw [S2.out]; rfl⟩
                case measure => simp [intOf]; omega
          · obtain rfl : j = n := by omega
            have et : l.take j = l := List.take_of_length_le (by rw [Hn.out]; exact Nat.le_refl _)
            rw [et]
            have hrow := Hrow.out k hlt
            have hkc := known_cases l k
            generalize knownK l k = K at *
            generalize (l.any fun x => x.testBit k) = y at *
            generalize (l.any fun x => !x.testBit k) = nn at *
            rcases hkc with rfl | rfl | rfl
            · have h := Hk0'.out rfl
              subst h
              cases nn
              all_goals
                go_wp2
                go_round
                case rel => exact ⟨k + 1, by omega, by go_num⟩
                case measure => simp [intOf]; omega
            · have h := Hk1'.out rfl
              subst h
              cases y
              all_goals
                go_wp2
                go_round
                case rel => exact ⟨k + 1, by omega, by go_num⟩
                case measure => simp [intOf]; omega
            · obtain ⟨h, h'⟩ := Hkn'.out rfl
              subst h
              subst h'
              go_wp2
              go_round
              case rel => exact ⟨k + 1, by omega, by go_num⟩
              case measure => simp [intOf]; omega
      · obtain rfl : k = P := by omega
        go_wp2
        go_ret
        exact ⟨rfl, hB6⟩

set_option maxRecDepth 100000 in
theorem lifted (os : Os) (started : os.Started) (H : Type) (enc : TypeId × Value → H) :
    ReturnsInHanded {} Try.checked os 5 .any (Rows.fnKnownPeopleSpec.pre6 enc Try.prog Try.f5 Rows.fnKnownPeopleRow.domain false) (Rows.fnKnownPeopleSpec.post enc Try.prog Try.f5 false true false false) := by
  refine returnsInHanded_of_change (C := Try.checked) Try.own started (by kernel_rfl) Try.func5
    (ChangeSpec.witness6 (enc := enc) (C := Try.checked) false ⟨#[], #[.slice none 0 0], []⟩ 8 (by kernel_rfl) (by kernel_rfl) (by kernel_rfl) (by kernel_rfl)) ?_
  intro W base args ds gs before hval0 hW hcnd _
  have hval : ∀ (j : Nat) t v, Try.f5.params[j]? = some t → args[j]? = some v → Value.okWide Try.prog W .any base t v := hval0
  have hW' := hW
  obtain ⟨p, q, hA0, hV, rfl, hfz, hnd⟩ := hW
  have hA : DataW.TrodAll enc Try.prog W 0 (fun _ => true) true Try.f5.params.toList args.toList ds p := hA0
  rw [Try.params5] at hA hval
  obtain ⟨v0, vs0, d0, ds0, p0, q0, hargs, rfl, rfl, h0, r0⟩ := trodAll_cons hA
  obtain ⟨rfl, rfl, rfl⟩ := trodAll_nil r0
  obtain rfl : args = #[v0] := by cases args; simp_all
  obtain ⟨rfl, rfl⟩ := trodVars_none hV
  obtain ⟨a0, len0, cap0, rfl⟩ := okWide_slice Try.underlying22 (hval 0 22 v0 rfl rfl)
  have k0 := h0
  have lt0 : ∀ x ∈ p0, x.block < W.heap.size := by obtain ⟨m, hm⟩ := k0; exact DataW.trod_lt m _ _ _ hm
  obtain ⟨z0, w0⟩ : ∃ zs, IsRow .u8 W a0 len0 cap0 zs := by
    obtain ⟨fuel, hf⟩ := h0
    rcases open_ints Try.underlying22 Try.underlying5 (by kernel_rfl) hf with ⟨hcs, _⟩ | ⟨x, l, c, zs, hcs, _, hl, hm, hz, _, hcell, hwz⟩
    · simp [Value.cells] at hcs
      obtain ⟨rfl, rfl, rfl⟩ := hcs
      exact ⟨[], .inl ⟨rfl, rfl, rfl, rfl⟩⟩
    · simp [Value.cells] at hcs
      obtain ⟨rfl, rfl, rfl⟩ := hcs
      exact ⟨zs, .inr ⟨_, rfl, hl, hm, by simpa using hz, hcell, hwz⟩⟩
  clear hA0 hval0
  refine (walk _ _ W (RdBytes.of_row w0)).mono fun e W' ⟨he, bel⟩ => ?_
  subst he
  exact ⟨_, rfl, _, _, _, [], _, [], hW', trodAll_mk1 (shut_bool Try.underlying4 _), (trodAll_cons_mk (Below.trod Try.laidOut (by kernel_rfl) (of_decide_eq_true (by kernel_rfl)) k0 bel lt0) trodAll_mk0), rfl, bel.frame _, fun h => by cases h⟩

theorem closed : joinedFacts Try.pinned.checked.prog 5 Try.f5 Rows.fnKnownPeopleSpec Rows.fnKnownPeopleRow = true := by
  unfold joinedFacts
  exact (and_tt (and_tt (and_tt (and_tt (and_tt (and_tt (and_tt (and_tt (and_tt (and_tt (and_tt (and_tt (and_tt (and_tt (and_tt (and_tt (and_tt (and_tt (and_tt (and_tt (and_tt (and_tt (and_tt (and_tt (and_tt (and_tt (and_tt (and_tt (and_tt (and_tt (and_tt (by kernel_rfl) (by kernel_rfl)) (by kernel_rfl)) (by kernel_rfl)) (by kernel_rfl)) (by kernel_rfl)) (by kernel_rfl)) (by kernel_rfl)) (by kernel_rfl)) (by kernel_rfl)) (by kernel_rfl)) (by kernel_rfl)) (by kernel_rfl)) (by kernel_rfl)) (by kernel_rfl)) (by kernel_rfl)) (by kernel_rfl)) (by kernel_rfl)) (by kernel_rfl)) (by kernel_rfl)) (by kernel_rfl)) (by kernel_rfl)) (by kernel_rfl)) (by kernel_rfl)) (by kernel_rfl)) Try.mayEnter0) (lifted_tt Try.lifts0 rfl)) (make_tt Try.make0 rfl)) (by kernel_rfl)) (by kernel_rfl)) (by kernel_rfl)) (by kernel_rfl))
theorem over : Rows.fnKnownPeopleRow.holds Try.pinned (OpenSpec.ofChange Rows.fnKnownPeopleSpec) :=
  OpenClaim.holds_of_wide 5 Try.f5 rfl rfl rfl rfl rfl rfl rfl ⟨rfl, rfl, rfl, rfl, rfl⟩ rfl rfl rfl rfl rfl (by kernel_rfl) Try.func5 closed
    (of_decide_eq_true (by kernel_rfl)) (by unfold Func.isWrapper; first | (rw [if_pos (by decide +kernel)]; kernel_rfl) | (rw [if_neg (by decide +kernel)]; exact ⟨rfl, rfl⟩))
    (fun os started H enc _ => lifted os started H enc)

theorem proved : Rows.FnKnownPeopleSaid := over
end Go.Proofs.Ytncihjelpaiocaa.fnKnownPeople

