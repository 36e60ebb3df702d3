/- A law of stage 5: the only world is known of everybody. It answers true, whatever the code. No condition. -/
import Derived.Test.YtncihjelpaiocaaDrawV
import Derived.Test.YtncihjelpaiocaaOneI
import Derived.Test.YtncihjelpaiocaaClaimI
import Derived.Test.YtncihjelpaiocaaOneU
import Derived.Test.YtncihjelpaiocaaClaimF
import Derived.Test.YtncihjelpaiocaaLawsA
import Derived.Deep.RegionHeld3
import Derived.Deep.Cut
namespace Go.Proofs.Ytncihjelpaiocaa
open Go.RowKit Go.Joins
theorem all_range_succ (f : Nat → Bool) (k : Nat) : (List.range (k + 1)).all f = ((List.range k).all f && f k) := by
  rw [List.range_succ, List.all_append]; simp
theorem all_take_may (p : Int) (qs : List QC) (W j : Nat) (hj : j < qs.length) : ((qs.take (j + 1)).all fun q => mayT p q.2 W) = (((qs.take j).all fun q => mayT p q.2 W) && mayT p (qs.getD j qc0).2 W) := by
  have e : qs.getD j qc0 = qs[j] := by simp [List.getD, hj]
  rw [List.take_succ_eq_append_getElem hj, List.all_append, e]
  simp
end Go.Proofs.Ytncihjelpaiocaa
namespace Go.Proofs.Ytncihjelpaiocaa.fnOnlyWorld
open Go.ChangeShapes Go.WideShapes Go.ChangeAt Go.RowKit Go.Joins
attribute [local irreducible] holds tabN tabV holdsV sameV followsV alwaysV matterV mirV mirOk mcells tmOf claimOk mayT mayV ctabV ctabN storyV storyOk storyN storyT ctermV ctermL denyV denyOk ccells clashV onlyOk onlyN knownF knownL knownK cntK swl needB needF needL leastR leastV woL
open Go.ChangeMaps (open_string shut_string)
set_option linter.unusedVariables false
set_option maxRecDepth 100000 in
set_option maxHeartbeats 4000000 in
theorem walk (a0 : Value) (n0 : Nat) (w : World) (w0 : RdBytes w w.heap.size a0 n0) :
    Calls Try.prog 4 #[a0] w fun e w' => e = .returned (.bool true) ∧ Below w.heap.size w w' := by
  have hr := w0
  by_cases hbig : n0 ≤ 1048576
  case neg =>
    obtain ⟨ao, cap, rfl, hl, hm, hc⟩ := w0
    have hbig' := code_big hbig
    unfold maxLen at hm
    clear hc hr hbig
    go_enter Try.func4, Try.ntmps4
    go_wp2
    go_ret
    exact ⟨rfl, Below.refl _ _⟩
  have hbig' : (n0 : Int) ≤ 1048576 := by omega
  clear hbig
  obtain ⟨ao, cap, rfl, hl, hm, hc⟩ := w0
  have Hr := Lib.hid hr
  clear hc hr hl hm
  go_enter Try.func4, Try.ntmps4
  go_wp2_with fail
  refine (drawOnlyWorld _ _ _ Hr.out).mono ?_
  rintro e w1 ⟨p, v, qs, hp4', hp8, rfl, hst, hqs, hq7, hB1⟩
  have HS1 := Lib.hid hst
  obtain ⟨vo, vc, hvf⟩ := own_len hst.1
  subst hvf
  have hvc : qs.length ≤ vc := by
    rcases hst.1.2 with ⟨h0, hz⟩ | ⟨g', cap', cur, h0, _, _, h1, _⟩
    · injection h0 with _ h2 h3; omega
    · injection h0 with _ h2 h3; omega
  clear hst
  have HQ_1 := HS1
  have Hio := Lib.hid (fun B u W h h2 => implOnlyWorld p qs B u W h h2)
  have Hso := Lib.hid (fun B u W h h2 => specOnlyWorld p qs B u W h h2)
  have Hik := Lib.hid (fun B u W h h2 => implKnownPeople p qs B u W h h2)
  rw [show knownL p (qs.map (·.2)) = knownF p (swl p (qs.map (·.2))) by unfold knownL; rfl] at Hik
  have hkl := knownL_len (p := p) (l := swl p (qs.map (·.2)))
  by_cases hl : swl p (qs.map (·.2)) = []
  · rw [if_pos hl] at hkl
    have hz : knownF p (swl p (qs.map (·.2))) = [] := List.eq_nil_of_length_eq_zero hkl
    obtain ⟨e1, e2⟩ := onlyN_not (p := p) (s := qs.map (·.2)) (by rw [hl]; simp)
    rw [e1, e2] at Hio Hso
    rw [hz] at Hik
    clear hl hkl hz e1 e2 hvc
    go_wp2_with fail
    refine (Hio.out _ _ _ HQ_1.out.rd (Nat.le_refl _)).mono ?_
    rintro e w2 ⟨rfl, hb2⟩
    have HQ_2 := Lib.hid (HQ_1.out.below hb2)
    have hs2 := hb2.size
    have hB2 : Below w.heap.size w w2 := hB1.trans (hb2.mono hB1.size)
    clear hb2
    go_wp2_with fail
    refine (Hso.out _ _ _ HQ_2.out.rd (Nat.le_refl _)).mono ?_
    rintro e w3 ⟨rfl, hb3⟩
    have HQ_3 := Lib.hid (HQ_2.out.below hb3)
    have hs3 := hb3.size
    have hB3 : Below w.heap.size w w3 := hB2.trans (hb3.mono hB2.size)
    clear hb3
    go_wp2_with fail
    refine (Hik.out _ _ _ HQ_3.out.rd (Nat.le_refl _)).mono ?_
    rintro e w4 ⟨u4, rfl, hown4, hb4⟩
    obtain ⟨a4, c4, hv4⟩ := own_len hown4
    subst hv4
    have HU_4 := Lib.hid hown4
    clear hown4
    have HQ_4 := Lib.hid (HQ_3.out.below hb4)
    have hs4 := hb4.size
    have hB4 : Below w.heap.size w w4 := hB3.trans (hb4.mono hB3.size)
    clear hb4
    go_wp2
    go_loop [10, 11] (fun a i => a = .bool false ∧ i = .int .i64 (0 : Nat)) (fun _ _ => 0)
    case atStart => exact ⟨rfl, rfl⟩
    case round =>
      obtain ⟨rfl, rfl⟩ := hrel
      rw [show ((0 : Nat) : Int) = 0 from rfl]
      go_wp2_with fail
      refine (alive _).mono ?_
      rintro e w6 ⟨rfl, rfl⟩
      go_wp2
      go_ret
      exact ⟨rfl, hB4⟩
  · rw [if_neg hl] at hkl
    obtain ⟨h1, h4⟩ := story_people hl
    have Hget := Lib.hid (fun k hk => knownL_get (p := p) (l := swl p (qs.map (·.2))) (k := k) hl hk)
    have Honly := Lib.hid (only_iff (p := p) (s := qs.map (·.2)) hl)
    have Hz := Lib.hid (fun z (h : swl p (qs.map (·.2)) = [z]) W (hW : W < 2 ^ p.toNat) => only_may h hW)
    have Hone := Lib.hid (fun z (h : swl p (qs.map (·.2)) = [z]) => onlyN_one h)
    have Hnone := Lib.hid (fun (h : (swl p (qs.map (·.2))).length ≠ 1) => onlyN_not h)
    have Hsok : Hid (storyOk p (qs.map (·.2)) = true) := by
      obtain ⟨x, hx⟩ := List.exists_mem_of_ne_nil _ hl
      exact (swl_lt hx).1
    have Hcl : Hid (∀ k, k < qs.length → claimOk p (qs.getD k qc0).2 = true) := fun k hk => by
      have e : qs.getD k qc0 = qs[k] := by simp [List.getD, hk]
      rw [e]
      exact (storyOk_iff.1 Hsok.out).1 _ (List.mem_map.2 ⟨_, List.getElem_mem hk, rfl⟩)
    have Hst : Hid (∀ W, storyT p (qs.map (·.2)) W = (qs.take qs.length).all fun q => mayT p q.2 W) := fun W => by
      unfold storyT
      rw [List.take_length, List.all_map]
      rfl
    generalize onlyN p (qs.map (·.2)) = ON at *
    generalize onlyOk p (qs.map (·.2)) = OK at *
    generalize swl p (qs.map (·.2)) = l at *
    generalize storyT p (qs.map (·.2)) = ST at *
    obtain ⟨N, hN⟩ : ∃ N : Nat, N = 2 ^ p.toNat := ⟨_, rfl⟩
    have hNe : (N : Int) = 2 ^ p.toNat := by rw [hN]; simp
    have hsh : wrap64 (2 ^ p.toNat) = (N : Int) := by rcases p_cases h1 h4 with rfl | rfl | rfl | rfl <;> (rw [hNe]; decide +kernel)
    have hN16 : N ≤ 16 := by rw [hN]; exact two16 (by omega)
    have Hw : Hid (∀ W : Nat, W < N → wOk p W = true) := fun W hW => wOk_iff.2 ⟨h1, h4, by omega, by rw [← hNe]; exact_mod_cast hW⟩
    rw [← hN] at Hz
    clear hNe hN
    obtain ⟨P, rfl⟩ := Int.eq_ofNat_of_zero_le (show 0 ≤ p by omega)
    have hpt : (P : Int).toNat = P := Int.toNat_natCast P
    rw [hpt] at hkl hsh Hget Honly
    generalize knownF P l = ks at *
    have hP4 : P ≤ 4 := by omega
    have hP0 : 0 < P := by omega
    have hmin : min P 64 = P := by omega
    rw [hkl] at Hik
    have Hkl := Lib.hid hkl
    clear hl h1 hkl hvc hpt h4
    go_wp2_with fail
    refine (Hio.out _ _ _ HQ_1.out.rd (Nat.le_refl _)).mono ?_
    rintro e w2 ⟨rfl, hb2⟩
    have HQ_2 := Lib.hid (HQ_1.out.below hb2)
    have hs2 := hb2.size
    have hB2 : Below w.heap.size w w2 := hB1.trans (hb2.mono hB1.size)
    clear hb2
    go_wp2_with fail
    refine (Hso.out _ _ _ HQ_2.out.rd (Nat.le_refl _)).mono ?_
    rintro e w3 ⟨rfl, hb3⟩
    have HQ_3 := Lib.hid (HQ_2.out.below hb3)
    have hs3 := hb3.size
    have hB3 : Below w.heap.size w w3 := hB2.trans (hb3.mono hB2.size)
    clear hb3
    go_wp2_with fail
    refine (Hik.out _ _ _ HQ_3.out.rd (Nat.le_refl _)).mono ?_
    rintro e w4 ⟨u4, rfl, hown4, hb4⟩
    obtain ⟨a4, c4, hv4⟩ := own_len hown4
    subst hv4
    have HU_4 := Lib.hid hown4
    clear hown4
    have HQ_4 := Lib.hid (HQ_3.out.below hb4)
    have hs4 := hb4.size
    have hB4 : Below w.heap.size w w4 := hB3.trans (hb4.mono hB3.size)
    clear hb4
    obtain ⟨g4, rfl⟩ : ∃ g4, a4 = some ⟨g4, 0, none⟩ := by
      obtain ⟨g, c, h⟩ := ownsRow_form HU_4.out hP0
      injection h with h1 h2 h3
      exact ⟨g, h1⟩
    have hcap4 := own_cap HU_4.out
    unfold maxLen at hcap4
    have Hrow : Hid (∀ k, k < P → w4.cell? ⟨g4, k, none⟩ = some (.int .i64 (knownK l k))) := fun k hk => by
      have h1 := HU_4.out.cellAt k (by omega)
      rw [h1, ← Hget.out k hk]
      simp [ints, List.getD, Hkl.out, hk]
    have hPi : (0 : Int) < (P : Int) := by omega
    go_wp2
    go_loop [10, 11] (fun a i => ∃ k : Nat, k ≤ P ∧ i = .int .i64 k ∧ a = .bool ((List.range k).all fun i => decide (0 ≤ knownK l i))) (fun _ i => P - (intOf i).toNat)
    case atStart => exact ⟨0, Nat.zero_le _, rfl, by simp⟩
    case round =>
      obtain ⟨k, hk, rfl, rfl⟩ := hrel
      by_cases hlt : k < P
      · have hrow := Hrow.out k hlt
        have hs := all_range_succ (fun i => decide (0 ≤ knownK l i)) k
        have hkc := known_cases l k
        generalize knownK l k = K at *
        generalize ((List.range k).all fun i => decide (0 ≤ knownK l i)) = A at *
        have HSs := Lib.hid hs
        clear hs
        rcases hkc with rfl | rfl | rfl
        all_goals
          cases A
          all_goals
            go_wp2
            go_round
            case rel => exact ⟨k + 1, by omega, by go_num, by rw [HSs.out]; rfl⟩
            case measure => simp [intOf]; omega
      · obtain rfl : k = P := by omega
        have hall : ((List.range k).all fun i => decide (0 ≤ knownK l i)) = true ↔ l.length = 1 := by
          rw [Honly.out, List.all_eq_true]
          constructor
          · intro h i hi e
            have := h i (List.mem_range.2 hi)
            rw [e] at this
            simp at this
          · intro h i hi
            have := h i (List.mem_range.1 hi)
            rcases known_cases l i with h0 | h0 | h0
            · rw [h0]; rfl
            · rw [h0]; rfl
            · exact absurd h0 this
        generalize ((List.range k).all fun i => decide (0 ≤ knownK l i)) = A at *
        by_cases h1 : l.length = 1
        · have hA := hall.2 h1
          subst hA
          obtain ⟨z, rfl⟩ : ∃ z, l = [z] := List.length_eq_one_iff.1 h1
          obtain ⟨e1, e2⟩ := Hone.out z rfl
          subst e1
          subst e2
          have Hz' := Lib.hid (fun W hW => Hz.out z rfl W hW)
          clear hall h1 Hz Hone Hnone
          go_wp2
          go_loopw [12, 13, 14] (fun i _ _ wr => ∃ W : Nat, W ≤ N ∧ i = .int .i64 W ∧ Below w4.heap.size w4 wr) (fun i _ _ _ => N - (intOf i).toNat)
          case atStart => exact ⟨0, Nat.zero_le _, rfl, Below.refl _ _⟩
          case round =>
            obtain ⟨W, hW, rfl, hbr⟩ := hrel
            have HQr := Lib.hid (HQ_4.out.below hbr)
            have HBr := Lib.hid (hB4.trans (hbr.mono hB4.size))
            have Hbr := Lib.hid hbr
            clear hbr
            by_cases hWl : W < N
            · obtain ⟨wo, rfl⟩ : ∃ wo : World, wo = wr := ⟨_, rfl⟩
              go_wp2
              go_loopw [13, 14] (fun m i wr => ∃ j : Nat, j ≤ qs.length ∧ i = .int .i64 j ∧ m = .bool ((qs.take j).all fun q => mayT k q.2 W) ∧ Below wo.heap.size wo wr) (fun _ i _ => qs.length - (intOf i).toNat)
              case atStart => exact ⟨0, Nat.zero_le _, rfl, by simp, Below.refl _ _⟩
              case round =>
                clear hsh
                obtain ⟨j, hj, rfl, rfl, hb2⟩ := hrel
                have hbs := hb2.size
                by_cases hjl : j < qs.length
                · have hst := HQr.out.below hb2
                  obtain ⟨ao', cap', hv', hal, ham, _, hac⟩ := hst.rd
                  obtain ⟨b, off, hao, hb, hc1, hc2⟩ := hac j hjl
                  have hvo : vo = some ⟨b, off, none⟩ := by
                    injection hv' with hv1 hv2 hv3
                    rw [hv1, hao]
                  subst hvo
                  have hm := (hst.rd.get hjl).1
                  have hok := Hcl.out j hjl
                  have hsucc := all_take_may (k : Int) qs W j hjl
                  clear hac hal ham hv' hao
                  generalize qs.getD j qc0 = q at *
                  obtain ⟨u, kk, ms⟩ := q
                  dsimp only at hc1 hc2 hm hok hsucc
                  have hmay := implMaySay k kk W ms wr.heap.size u wr hm (Nat.le_refl _)
                  rw [mayV_yes hok (Hw.out W hWl), Int.toNat_natCast] at hmay
                  have Hmay := Lib.hid hmay
                  have Hsucc := Lib.hid hsucc
                  have Hb2 := Lib.hid hb2
                  clear hmay hsucc hst hm hok hb2
                  generalize ((qs.take j).all fun q => mayT k q.2 W) = A at *
                  generalize mayT k (kk, ms) W = M at *
                  cases A with
                  | false =>
                    go_wp2
                    go_roundw
                    case rel => exact ⟨j + 1, by omega, by go_num, by rw [Hsucc.out]; rfl, Hb2.out⟩
                    case measure => simp [intOf]; omega
                  | true =>
                    go_wp2_with fail
                    refine Hmay.out.mono ?_
                    rintro e w6 ⟨rfl, hb6⟩
                    have Hb6 := Lib.hid (Hb2.out.trans (hb6.mono hbs))
                    clear hb6
                    go_wp2
                    go_roundw
                    case rel => first | exact ⟨j + 1, by omega, by go_num, by rw [Hsucc.out, Bool.true_and], Hb6.out⟩ | ((repeat apply Exists.intro); exact ⟨⟨j + 1, by omega, by go_num, by rw [Hsucc.out, Bool.true_and], Hb6.out⟩, rfl⟩)
                    case measure => simp [intOf]; omega
                · obtain rfl : j = qs.length := by omega
                  rw [← Hst.out W, Hz'.out W hWl]
                  have Hb2 := Lib.hid (Hbr.out.trans (hb2.mono Hbr.out.size))
                  clear hb2
                  by_cases he : W = z
                  · subst he
                    rw [decide_eq_true rfl]
                    go_wp2
                    go_roundw
                    case rel => exact ⟨W + 1, by omega, by go_num, Hb2.out⟩
                    case measure => simp [intOf]; omega
                  · rw [decide_eq_false he]
                    have hei : ¬ (W : Int) = z := by omega
                    go_wp2
                    go_roundw
                    case rel => exact ⟨W + 1, by omega, by go_num, Hb2.out⟩
                    case measure => simp [intOf]; omega
            · obtain rfl : W = N := by omega
              go_wp2
              go_ret
              exact ⟨rfl, HBr.out⟩
        · have hA : A = false := by
            cases A with
            | false => rfl
            | true => exact absurd (hall.1 rfl) h1
          subst hA
          obtain ⟨e1, e2⟩ := Hnone.out h1
          subst e1
          subst e2
          clear hall h1 Hz Hone Hnone
          go_wp2_with fail
          refine (alive _).mono ?_
          rintro e w6 ⟨rfl, rfl⟩
          go_wp2
          go_ret
          exact ⟨rfl, hB4⟩

set_option maxRecDepth 100000 in
theorem lifted (os : Os) (started : os.Started) (H : Type) (enc : TypeId × Value → H) :
    ReturnsInHanded {} Try.checked os 4 .any (Rows.fnOnlyWorldSpec.pre6 enc Try.prog Try.f4 Rows.fnOnlyWorldRow.domain false) (Rows.fnOnlyWorldSpec.post enc Try.prog Try.f4 false true false false) := by
  refine returnsInHanded_of_change (C := Try.checked) Try.own started (by kernel_rfl) Try.func4
    (ChangeSpec.witness6 (enc := enc) (C := Try.checked) false ⟨#[], #[.slice none 0 0], []⟩ 8 (by kernel_rfl) (by kernel_rfl) (by kernel_rfl) (by kernel_rfl)) ?_
  intro W base args ds gs before hval0 hW hcnd _
  have hval : ∀ (j : Nat) t v, Try.f4.params[j]? = some t → args[j]? = some v → Value.okWide Try.prog W .any base t v := hval0
  have hW' := hW
  obtain ⟨p, q, hA0, hV, rfl, hfz, hnd⟩ := hW
  have hA : DataW.TrodAll enc Try.prog W 0 (fun _ => true) true Try.f4.params.toList args.toList ds p := hA0
  rw [Try.params4] at hA hval
  obtain ⟨v0, vs0, d0, ds0, p0, q0, hargs, rfl, rfl, h0, r0⟩ := trodAll_cons hA
  obtain ⟨rfl, rfl, rfl⟩ := trodAll_nil r0
  obtain rfl : args = #[v0] := by cases args; simp_all
  obtain ⟨rfl, rfl⟩ := trodVars_none hV
  obtain ⟨a0, len0, cap0, rfl⟩ := okWide_slice Try.underlying22 (hval 0 22 v0 rfl rfl)
  have k0 := h0
  have lt0 : ∀ x ∈ p0, x.block < W.heap.size := by obtain ⟨m, hm⟩ := k0; exact DataW.trod_lt m _ _ _ hm
  obtain ⟨z0, w0⟩ : ∃ zs, IsRow .u8 W a0 len0 cap0 zs := by
    obtain ⟨fuel, hf⟩ := h0
    rcases open_ints Try.underlying22 Try.underlying5 (by kernel_rfl) hf with ⟨hcs, _⟩ | ⟨x, l, c, zs, hcs, _, hl, hm, hz, _, hcell, hwz⟩
    · simp [Value.cells] at hcs
      obtain ⟨rfl, rfl, rfl⟩ := hcs
      exact ⟨[], .inl ⟨rfl, rfl, rfl, rfl⟩⟩
    · simp [Value.cells] at hcs
      obtain ⟨rfl, rfl, rfl⟩ := hcs
      exact ⟨zs, .inr ⟨_, rfl, hl, hm, by simpa using hz, hcell, hwz⟩⟩
  clear hA0 hval0
  refine (walk _ _ W (RdBytes.of_row w0)).mono fun e W' ⟨he, bel⟩ => ?_
  subst he
  exact ⟨_, rfl, _, _, _, [], _, [], hW', trodAll_mk1 (shut_bool Try.underlying4 _), (trodAll_cons_mk (Below.trod Try.laidOut (by kernel_rfl) (of_decide_eq_true (by kernel_rfl)) k0 bel lt0) trodAll_mk0), rfl, bel.frame _, fun h => by cases h⟩

theorem closed : joinedFacts Try.pinned.checked.prog 4 Try.f4 Rows.fnOnlyWorldSpec Rows.fnOnlyWorldRow = true := by
  unfold joinedFacts
  exact (and_tt (and_tt (and_tt (and_tt (and_tt (and_tt (and_tt (and_tt (and_tt (and_tt (and_tt (and_tt (and_tt (and_tt (and_tt (and_tt (and_tt (and_tt (and_tt (and_tt (and_tt (and_tt (and_tt (and_tt (and_tt (and_tt (and_tt (and_tt (and_tt (and_tt (and_tt (by kernel_rfl) (by kernel_rfl)) (by kernel_rfl)) (by kernel_rfl)) (by kernel_rfl)) (by kernel_rfl)) (by kernel_rfl)) (by kernel_rfl)) (by kernel_rfl)) (by kernel_rfl)) (by kernel_rfl)) (by kernel_rfl)) (by kernel_rfl)) (by kernel_rfl)) (by kernel_rfl)) (by kernel_rfl)) (by kernel_rfl)) (by kernel_rfl)) (by kernel_rfl)) (by kernel_rfl)) (by kernel_rfl)) (by kernel_rfl)) (by kernel_rfl)) (by kernel_rfl)) (by kernel_rfl)) Try.mayEnter0) (lifted_tt Try.lifts0 rfl)) (make_tt Try.make0 rfl)) (by kernel_rfl)) (by kernel_rfl)) (by kernel_rfl)) (by kernel_rfl))
theorem over : Rows.fnOnlyWorldRow.holds Try.pinned (OpenSpec.ofChange Rows.fnOnlyWorldSpec) :=
  OpenClaim.holds_of_wide 4 Try.f4 rfl rfl rfl rfl rfl rfl rfl ⟨rfl, rfl, rfl, rfl, rfl⟩ rfl rfl rfl rfl rfl (by kernel_rfl) Try.func4 closed
    (of_decide_eq_true (by kernel_rfl)) (by unfold Func.isWrapper; first | (rw [if_pos (by decide +kernel)]; kernel_rfl) | (rw [if_neg (by decide +kernel)]; exact ⟨rfl, rfl⟩))
    (fun os started H enc _ => lifted os started H enc)

theorem proved : Rows.FnOnlyWorldSaid := over
end Go.Proofs.Ytncihjelpaiocaa.fnOnlyWorld

