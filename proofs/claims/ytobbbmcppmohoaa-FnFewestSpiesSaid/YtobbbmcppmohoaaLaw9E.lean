/- A law of stage 9: stories without worlds need spies. It answers true, whatever the code. No condition. -/
import Derived.Test.YtobbbmcppmohoaaDrawKi
import Derived.Test.YtobbbmcppmohoaaSpyI
import Derived.Test.YtobbbmcppmohoaaSpyN
import Derived.Test.YtobbbmcppmohoaaClaimI
import Derived.Test.YtobbbmcppmohoaaLawsA
import Derived.Deep.RegionHeld3
import Derived.Deep.Cut
import Derived.Test.YtobbbmcppmohoaaOneA
import Derived.Test.YtobbbmcppmohoaaOneS
import Derived.Test.YtobbbmcppmohoaaOneI
namespace Go.Proofs.Ytobbbmcppmohoaa
open Go.RowKit Go.Joins
theorem below_grown_row9 {B : Nat} {w w1 w2 : World} {row : Option Nat} (h : Below B w w1) (hg : w1.grownBy w2 row) (hB : B ≤ w1.heap.size) (hr : ∀ k, row = some k → B ≤ k) : Below B w w2 :=
  h.trans ⟨hg.os, hg.tape, hg.output, hg.size, fun i hi => hg.block i (by omega) (fun e => by have := hr i e.symm; omega)⟩
theorem rdStory_take9 {w : World} {B n cap m : Nat} {ao : Option Addr} {qs : List QC} (h : RdStory w B (.slice ao n cap) qs) (hm : m ≤ qs.length) : RdStory w B (.slice ao m cap) (qs.take m) := by
  obtain ⟨ao', cap', hv, hl, hmx, hi, hc⟩ := h
  cases hv
  have e : (qs.take m).length = m := by simp; omega
  refine ⟨ao, cap, by rw [e], by omega, hmx, fun q hq => hi q (List.mem_of_mem_take hq), fun j hj => ?_⟩
  rw [e] at hj
  obtain ⟨b, off, ha, hb, h1, h2⟩ := hc j (by omega)
  have eg : (qs.take m).getD j qc0 = qs.getD j qc0 := by simp [List.getD_eq_getElem?_getD, hj]
  rw [eg]
  exact ⟨b, off, ha, hb, h1, h2⟩
/-- of how many of the first people there is a claim -/
def whoK (qs : List QC) (k : Nat) : Nat := (List.range k).countP fun (k : Nat) => (qs.map (·.2)).any fun c => decide (c.1 = (k : Int))
theorem whoK_zero (qs : List QC) : whoK qs 0 = 0 := rfl
theorem whoK_le (qs : List QC) (k : Nat) : whoK qs k ≤ k := by
  unfold whoK
  have := List.countP_le_length (p := fun (k : Nat) => (qs.map (·.2)).any fun c => decide (c.1 = (k : Int))) (l := List.range k)
  rw [List.length_range] at this
  exact this
theorem whoK_hit {qs : List QC} {k j : Nat} (hj : j < qs.length) (h : (qs.getD j qc0).2.1 = (k : Int)) : whoK qs (k + 1) = whoK qs k + 1 := by
  unfold whoK
  rw [List.range_succ, List.countP_append]
  have e : qs.getD j qc0 = qs[j] := by simp [List.getD, hj]
  have ha : ((qs.map (·.2)).any fun c => decide (c.1 = (k : Int))) = true := List.any_eq_true.2 ⟨qs[j].2, List.mem_map.2 ⟨_, List.getElem_mem hj, rfl⟩, by rw [← e]; exact decide_eq_true h⟩
  simp only [List.countP_cons, List.countP_nil, ha, if_pos]
theorem whoK_miss {qs : List QC} {k : Nat} (h : ∀ j, j < qs.length → (qs.getD j qc0).2.1 ≠ (k : Int)) : whoK qs (k + 1) = whoK qs k := by
  unfold whoK
  rw [List.range_succ, List.countP_append]
  have ha : ((qs.map (·.2)).any fun c => decide (c.1 = (k : Int))) = false := by
    cases hb : (qs.map (·.2)).any fun c => decide (c.1 = (k : Int)) with
    | false => rfl
    | true =>
      obtain ⟨c, hc, he⟩ := List.any_eq_true.1 hb
      obtain ⟨q, hq, rfl⟩ := List.mem_map.1 hc
      obtain ⟨j, hj, rfl⟩ := List.mem_iff_getElem.1 hq
      have e : qs.getD j qc0 = qs[j] := by simp [List.getD, hj]
      exact absurd (by rw [e]; exact of_decide_eq_true he) (h j hj)
  simp only [List.countP_cons, List.countP_nil, ha]
  rfl
theorem few_law9 {P : Nat} {qs : List QC} (h1 : 1 ≤ P) (h4 : P ≤ 4) (h : storyOk (P : Int) (qs.map (·.2)) = true) (f : Nat) (hf : f = fewF P (fun zs => spyV zs (qs.map (·.2))) (3 ^ P)) :
    ((f : Int) == 0) = !clashV (P : Int) (qs.map (·.2)) ∧ f ≤ whoK qs P ∧ ∃ f2 : Nat, fewV (P : Int) ((qs.take (qs.length - 1)).map (·.2)) = f2 ∧ f2 ≤ f := by
  subst hf
  refine ⟨?_, few_who h1 h4 h, ?_⟩
  · have hz := few_zero h1 h4 h
    unfold clashV
    rw [h, Bool.true_and]
    cases hd : decide (storyN (P : Int) (qs.map (·.2)) = 0) with
    | true =>
      have := of_decide_eq_true hd
      rw [beq_eq_false_iff_ne.2 (fun e => hz.1 (by omega) this)]; rfl
    | false =>
      have := hz.2 (of_decide_eq_false hd)
      rw [this]; rfl
  · have hsub : ((qs.take (qs.length - 1)).map (·.2)).Sublist (qs.map (·.2)) := (List.take_sublist _ _).map _
    obtain ⟨h5, h6, h7⟩ := storyOk_iff.1 h
    have hok : storyOk (P : Int) ((qs.take (qs.length - 1)).map (·.2)) = true := storyOk_iff.2 ⟨fun c hc => h5 c (hsub.subset hc), h6, Nat.le_trans hsub.length_le h7⟩
    exact ⟨_, by unfold fewV; rw [hok, Int.toNat_natCast]; rfl, few_less _ hsub⟩
end Go.Proofs.Ytobbbmcppmohoaa
namespace Go.Proofs.Ytobbbmcppmohoaa.fnFewestSpies
open Go.ChangeShapes Go.WideShapes Go.ChangeAt Go.RowKit Go.Joins
attribute [local irreducible] holds tabN tabV holdsV sameV followsV alwaysV matterV mirV mirOk mcells tmOf claimOk mayT mayV ctabV ctabN storyV storyOk storyN storyT ctermV ctermL denyV denyOk ccells clashV onlyOk onlyN knownF knownL knownK cntK swl saysT saysV spyT spyV kindsOk kwN kwV tabF kRow spiesN fewF rowsF fewV rowsV needB needF needL leastR leastV woL
open Go.ChangeMaps (open_string shut_string)
set_option linter.unusedVariables false
set_option maxRecDepth 100000 in
set_option maxHeartbeats 8000000 in
theorem walk (a0 : Value) (n0 : Nat) (w : World) (w0 : RdBytes w w.heap.size a0 n0) :
    Calls Try.prog 7 #[a0] w fun e w' => e = .returned (.bool true) ∧ Below w.heap.size w w' := by
  have hr := w0
  by_cases hbig : n0 ≤ 1048576
  case neg =>
    obtain ⟨ao, cap, rfl, hl, hm, hc⟩ := w0
    have hbig' := code_big hbig
    unfold maxLen at hm
    clear hc hr hbig
    go_enter Try.func7, Try.ntmps7
    go_wp2
    go_ret
    exact ⟨rfl, Below.refl _ _⟩
  have hbig' : (n0 : Int) ≤ 1048576 := by omega
  clear hbig
  obtain ⟨ao, cap, rfl, hl, hm, hc⟩ := w0
  have Hr := Lib.hid hr
  clear hc hr hl hm
  go_enter Try.func7, Try.ntmps7
  go_wp2_with fail
  refine (drawFewestSpies _ _ _ Hr.out).mono ?_
  rintro e w1 ⟨p, v, qs, hp4', hp8, rfl, hst, hqs, hq7, hB1⟩
  have HS1 := Lib.hid hst
  obtain ⟨vo, vc, hvf⟩ := own_len hst.1
  subst hvf
  clear hst
  have HQ_1 := HS1
  obtain ⟨ic, hci, hcz0, hcz1, hcz2⟩ := info_parts Try.infoC
  have Ci := Lib.hid hci; clear hci
  have Cz0 := Lib.hid hcz0; clear hcz0
  have Cz1 := Lib.hid hcz1; clear hcz1
  have Cz2 := Lib.hid hcz2; clear hcz2
  have him := fun B u W h h2 => implFewestSpies p qs B u W h h2
  have hsp := fun B u W h h2 => specFewestSpies p qs B u W h h2
  rcases few_range (p := p) (s := qs.map (·.2)) with ⟨hno, hV⟩ | ⟨P, rfl, hP1, hP4, hsok, f, hf, hfP, hfe⟩
  · rw [hV] at him hsp
    have hso := fun B u W h h2 => implStoryOk p qs B u W h h2
    rw [hno] at hso
    have Him := Lib.hid him
    have Hsp := Lib.hid hsp
    have Hso := Lib.hid hso
    clear him hsp hso hV hno
    go_wp2_with fail
    refine (Him.out _ _ _ HQ_1.out.rd (Nat.le_refl _)).mono ?_
    rintro e w2 ⟨rfl, hb2⟩
    have HQ_2 := Lib.hid (HQ_1.out.below hb2)
    have hs2 := hb2.size
    have hB2 : Below w.heap.size w w2 := hB1.trans (hb2.mono hB1.size)
    clear hb2
    go_wp2_with fail
    refine (Hsp.out _ _ _ HQ_2.out.rd (Nat.le_refl _)).mono ?_
    rintro e w3 ⟨rfl, hb3⟩
    have HQ_3 := Lib.hid (HQ_2.out.below hb3)
    have hs3 := hb3.size
    have hB3 : Below w.heap.size w w3 := hB2.trans (hb3.mono hB2.size)
    clear hb3
    go_wp2_with fail
    refine (Hso.out _ _ _ HQ_3.out.rd (Nat.le_refl _)).mono ?_
    rintro e w4 ⟨rfl, hb4⟩
    have hs4 := hb4.size
    have hB4 : Below w.heap.size w w4 := hB3.trans (hb4.mono hB3.size)
    clear hb4
    go_wp2_with fail
    refine (alive _).mono ?_
    rintro e w' ⟨rfl, rfl⟩
    go_wp2
    go_ret
    exact ⟨rfl, hB4⟩
  · obtain ⟨hcl, hwho, f2, hf2, hf2f⟩ := few_law9 hP1 hP4 hsok f hfe
    rw [hf] at him hsp
    have Him := Lib.hid him
    have Hsp := Lib.hid hsp
    have hic := fun B u W h h2 => implClashOk (P : Int) qs B u W h h2
    generalize clashV (P : Int) (qs.map (·.2)) = cl at *
    have Hic := Lib.hid hic
    have hif := fun B u W h h2 => implFewestSpies (P : Int) (qs.take (qs.length - 1)) B u W h h2
    rw [hf2] at hif
    have Hif := Lib.hid hif
    have Hhit := Lib.hid (fun k j hj h => whoK_hit (qs := qs) (k := k) (j := j) hj h)
    have Hmiss := Lib.hid (fun k h => whoK_miss (qs := qs) (k := k) h)
    have Hwle := Lib.hid (fun k => whoK_le qs k)
    have Hwho := Lib.hid hwho
    have hfn : ¬ ((f : Int) < 0) := by omega
    clear him hsp hic hif hf hf2 hsok hfe hwho
    go_wp2_with fail
    refine (Him.out _ _ _ HQ_1.out.rd (Nat.le_refl _)).mono ?_
    rintro e w2 ⟨rfl, hb2⟩
    have HQ_2 := Lib.hid (HQ_1.out.below hb2)
    have hs2 := hb2.size
    have hB2 : Below w.heap.size w w2 := hB1.trans (hb2.mono hB1.size)
    clear hb2
    go_wp2_with fail
    refine (Hsp.out _ _ _ HQ_2.out.rd (Nat.le_refl _)).mono ?_
    rintro e w3 ⟨rfl, hb3⟩
    have HQ_3 := Lib.hid (HQ_2.out.below hb3)
    have hs3 := hb3.size
    have hB3 : Below w.heap.size w w3 := hB2.trans (hb3.mono hB2.size)
    clear hb3
    obtain ⟨ao', cap', hv', hal, ham, hmk, hac⟩ := HQ_3.out.rd
    have Hac : Hid (∀ j, j < qs.length → ∃ b off, vo = some ⟨b, off, none⟩ ∧ b < w3.heap.size ∧ w3.cell? ⟨b, off + j * 2, none⟩ = some (.int .i64 (qs.getD j qc0).2.1)) := fun j hj => by
      obtain ⟨b, off, hao, hb, hc1, _⟩ := hac j hj
      injection hv' with hv1 hv2 hv3
      exact ⟨b, off, by rw [hv1, hao], hb, hc1⟩
    have hvc : qs.length ≤ vc := by injection hv' with hv1 hv2 hv3; omega
    have hvm : vc ≤ maxLen := by injection hv' with hv1 hv2 hv3; omega
    unfold maxLen at hvm
    clear hac hmk hal ham hv' hB1 hB2
    go_wp2
    go_loop [6, 7, 8] (fun n i _ => ∃ k : Nat, k ≤ P ∧ i = .int .i64 k ∧ n = .int .i64 (whoK qs k)) (fun _ i _ => P - (intOf i).toNat)
    case atStart => exact ⟨0, Nat.zero_le _, rfl, by rw [whoK_zero]; rfl⟩
    case round =>
      obtain ⟨k, hk, rfl, rfl⟩ := hrel
      by_cases hlt : k < P
      · have hwk := Hwle.out k
        go_wp2
        go_loop [6, 8] (fun n i => ∃ j : Nat, j ≤ qs.length ∧ i = .int .i64 j ∧ n = .int .i64 (whoK qs k) ∧ Hid (∀ m, m < j → (qs.getD m qc0).2.1 ≠ (k : Int))) (fun _ i => qs.length - (intOf i).toNat)
        case atStart => exact ⟨0, Nat.zero_le _, rfl, rfl, fun m hm => absurd hm (Nat.not_lt_zero _)⟩
        case round =>
          obtain ⟨j, hj, rfl, rfl, hall⟩ := hrel
          by_cases hjl : j < qs.length
          · obtain ⟨b, off, rfl, hb, hc1⟩ := Hac.out j hjl
            have hh := Hhit.out k j hjl
            by_cases hwj : (qs.getD j qc0).2.1 = (k : Int)
            · have hs := hh hwj
              rw [hwj] at hc1
              have Hs := Lib.hid hs
              clear hs hh hwj hall
              generalize whoK qs k = T at *
              go_wp2
              go_round
              case rel => exact ⟨k + 1, by omega, by go_num, by rw [Hs.out]; go_num⟩
              case measure => simp [intOf]; omega
            · have Hall2 : Hid (∀ m, m < j + 1 → (qs.getD m qc0).2.1 ≠ (k : Int)) := fun m hm => by
                by_cases hmj : m < j
                · exact hall.out m hmj
                · obtain rfl : m = j := by omega
                  exact hwj
              have hwj' : ((qs.getD j qc0).2.1 == (k : Int)) = false := by rw [beq_eq_false_iff_ne]; exact hwj
              clear hh hwj hall
              generalize (qs.getD j qc0).2.1 = z at *
              go_wp2
              go_round
              case rel => exact ⟨j + 1, by omega, by go_num, rfl, Hall2⟩
              case measure => simp [intOf]; omega
          · obtain rfl : j = qs.length := Nat.le_antisymm hj (Nat.le_of_not_lt hjl)
            have hs := Hmiss.out k hall.out
            have Hs := Lib.hid hs
            clear hs hall
            generalize whoK qs k = T at *
            go_wp2
            go_round
            case rel => exact ⟨k + 1, by omega, by go_num, by rw [Hs.out]⟩
            case measure => simp [intOf]; omega
      · obtain rfl : k = P := Nat.le_antisymm hk (Nat.le_of_not_lt hlt)
        have hwho := Hwho.out
        have hwl := Hwle.out k
        generalize whoK qs k = WH at *
        clear Hhit Hmiss Hwle Hwho Him Hsp
        have hown30 : (w3.alloc (.cells #[] TC)).ownsRow w3.heap.size TC 2 (.slice (some ⟨w3.heap.size, 0, none⟩) 0 0) 0 [] := World.ownsRow_made _ _ 0 (Nat.le_refl _) (by unfold maxLen; omega) rfl
        have hb30 : Below w3.heap.size w3 (w3.alloc (.cells #[] TC)) := (Below.refl _ _).alloc (Nat.le_refl _) _
        have Hq30 := Lib.hid (HQ_3.out.rd.below (w' := w3.alloc (.cells #[] TC)) hb30.block)
        have Hown30 := Lib.hid hown30
        have Hb30 := Lib.hid hb30
        have HB3 := Lib.hid hB3
        clear hown30 hb30 hB3
        have hcw : ((f : Int) == 0) = !cl := hcl
        have hfw : (f : Int) ≤ (WH : Int) := by omega
        have hff : (f2 : Int) ≤ (f : Int) := by omega
        by_cases h0 : qs.length = 0
        · have h0i : ¬ (0 : Int) < (qs.length : Int) := by omega
          have hq0 : qs = [] := List.eq_nil_of_length_eq_zero h0
          have Hq0 := Lib.hid hq0
          clear hq0 h0
          go_wp2_with (first
            | (at_builtin; refine wpList_append_story rfl (.tmp 59) (.tmp 60) rfl Ci.out Cz0.out Cz1.out Cz2.out rfl rfl Hown30.out Hq30.out (by omega) (by simp) ?_
               go_must (intro v8 w8 hown8 hgr8 _
                        have hb8 := below_grown_row9 Hb30.out hgr8 (by simp) (fun q hq => (Hown30.out.lt q hq).1)
                        have HS8 : Hid (RdStory w8 w8.heap.size v8 (qs.take (qs.length - 1))) := rdStory_own (by rw [Nat.zero_add, List.nil_append, Hq0.out] at hown8; rw [Hq0.out]; exact hown8) rfl (fun q hq => by rw [Hq0.out] at hq; simp at hq)
                        have HQ_8 := Lib.hid (HQ_3.out.below hb8)
                        have HB8 := Lib.hid (HB3.out.trans (hb8.mono HB3.out.size))
                        rw [Nat.zero_add] at hown8
                        obtain ⟨a8, c8, hv8⟩ := own_len hown8
                        subst hv8
                        clear hown8 hgr8 hb8))
            | fail)
          refine (Hic.out _ _ _ HQ_8.out.rd (Nat.le_refl _)).mono ?_
          rintro e wx ⟨rfl, hbx⟩
          have HSx := Lib.hid ((HS8.out.below hbx.block).mono hbx.size)
          have HBx := Lib.hid (HB8.out.trans (hbx.mono HB8.out.size))
          clear hbx
          cases cl
          all_goals
            go_wp2_with fail
            refine (Hif.out _ _ _ HSx.out (Nat.le_refl _)).mono ?_
            rintro e wy ⟨rfl, hby⟩
            have HBy := Lib.hid (HBx.out.trans (hby.mono HBx.out.size))
            clear hby
            go_wp2
            go_ret
            exact ⟨rfl, HBy.out⟩
        · have h0i : (0 : Int) < (qs.length : Int) := by omega
          obtain ⟨m, hm⟩ : ∃ m, m = qs.length - 1 := ⟨_, rfl⟩
          have hif2 := Hif.out
          rw [← hm] at hif2
          have Hif2 := Lib.hid hif2
          have hi1 : IntKind.i64.wrap ((qs.length : Int) - 1) = (m : Int) := by rw [IntWalk.i64_in _ (by omega)]; omega
          have hi2 : (0 : Int) ≤ (m : Int) := by omega
          have hi3 : (m : Int) ≤ (vc : Int) := by omega
          have hi4 : m ≤ vc := by omega
          have hi5 : (m : Int) ≤ (qs.length : Int) := by omega
          have hi6 : ¬ vc = 0 := by omega
          have hi7 : (qs.length : Int) - 1 = (m : Int) := by omega
          have Hqt3 := Lib.hid (rdStory_take9 HQ_3.out.rd (show m ≤ qs.length by omega))
          have Htl : Hid ((qs.take m).length = m) := by unfold Hid; simp; omega
          have hq7' : m ≤ 7 := by omega
          clear hm hif2
          go_wp2_with (first
            | (at_builtin; refine wpList_append_story rfl (.tmp 59) (.tmp 60) rfl Ci.out Cz0.out Cz1.out Cz2.out rfl rfl Hown30.out Hq30.out (by omega) (by simp) ?_
               go_must (intro v8 w8 hown8 hgr8 _
                        have hb8 := below_grown_row9 Hb30.out hgr8 (by simp) (fun q hq => (Hown30.out.lt q hq).1)
                        have hs8 := hb8.size
                        have HQ_8 := Lib.hid (HQ_3.out.below hb8)
                        have HB8 := Lib.hid (HB3.out.trans (hb8.mono HB3.out.size))
                        have Hown80 := Lib.hid (show (w8.alloc (.cells #[] TC)).ownsRow w8.heap.size TC 2 (.slice (some ⟨w8.heap.size, 0, none⟩) 0 0) 0 [] from World.ownsRow_made _ _ 0 (Nat.le_refl _) (by unfold maxLen; omega) rfl)
                        have hb80 : Below w8.heap.size w8 (w8.alloc (.cells #[] TC)) := (Below.refl _ _).alloc (Nat.le_refl _) _
                        have Hb80 := Lib.hid hb80
                        have Hqt8 := Lib.hid (Hqt3.out.below (w' := w8) (fun q hq => hb8.block q hq))
                        have Hq80 := Lib.hid (Hqt8.out.below (w' := w8.alloc (.cells #[] TC)) (fun q hq => hb80.block q (by omega)))
                        rw [Nat.zero_add] at hown8
                        obtain ⟨a8, c8, hv8⟩ := own_len hown8
                        subst hv8
                        clear hown8 hgr8 hb8 hb80))
            | (at_builtin; refine wpList_append_story rfl (.tmp 65) (.tmp 70) rfl Ci.out Cz0.out Cz1.out Cz2.out rfl rfl Hown80.out Hq80.out (by have := Htl.out; omega) (by simp) ?_
               go_must (intro v9 w9 hown9 hgr9 _
                        have hb9 := below_grown_row9 Hb80.out hgr9 (by simp) (fun q hq => (Hown80.out.lt q hq).1)
                        have hs9 := hb9.size
                        rw [Nat.zero_add, List.nil_append] at hown9
                        have HS9 : Hid (RdStory w9 w9.heap.size v9 (qs.take m)) := rdStory_own hown9 rfl (fun q hq => ⟨(((Hqt8.out.marks q hq).1.below (w' := w9) (fun r hr => hb9.block r (by omega))).mono (by omega)), (Hqt8.out.marks q hq).2⟩)
                        have HQ_9 := Lib.hid (HQ_8.out.below hb9)
                        have HB9 := Lib.hid (HB8.out.trans (hb9.mono HB8.out.size))
                        rw [Htl.out] at hown9
                        obtain ⟨a9, c9, hv9⟩ := own_len hown9
                        subst hv9
                        clear hown9 hgr9 hb9))
            | fail)
          refine (Hic.out _ _ _ HQ_9.out.rd (Nat.le_refl _)).mono ?_
          rintro e wx ⟨rfl, hbx⟩
          have HSx := Lib.hid ((HS9.out.below hbx.block).mono hbx.size)
          have HBx := Lib.hid (HB9.out.trans (hbx.mono HB9.out.size))
          clear hbx
          cases cl
          all_goals
            go_wp2_with fail
            refine (Hif2.out _ _ _ HSx.out (Nat.le_refl _)).mono ?_
            rintro e wy ⟨rfl, hby⟩
            have HBy := Lib.hid (HBx.out.trans (hby.mono HBx.out.size))
            clear hby
            go_wp2
            go_ret
            exact ⟨rfl, HBy.out⟩

set_option maxRecDepth 100000 in
theorem lifted (os : Os) (started : os.Started) (H : Type) (enc : TypeId × Value → H) :
    ReturnsInHanded {} Try.checked os 7 .any (Rows.fnFewestSpiesSpec.pre6 enc Try.prog Try.f7 Rows.fnFewestSpiesRow.domain false) (Rows.fnFewestSpiesSpec.post enc Try.prog Try.f7 false true false false) := by
  refine returnsInHanded_of_change (C := Try.checked) Try.own started (by kernel_rfl) Try.func7
    (ChangeSpec.witness6 (enc := enc) (C := Try.checked) false ⟨#[], #[.slice none 0 0], []⟩ 8 (by kernel_rfl) (by kernel_rfl) (by kernel_rfl) (by kernel_rfl)) ?_
  intro W base args ds gs before hval0 hW hcnd _
  have hval : ∀ (j : Nat) t v, Try.f7.params[j]? = some t → args[j]? = some v → Value.okWide Try.prog W .any base t v := hval0
  have hW' := hW
  obtain ⟨p, q, hA0, hV, rfl, hfz, hnd⟩ := hW
  have hA : DataW.TrodAll enc Try.prog W 0 (fun _ => true) true Try.f7.params.toList args.toList ds p := hA0
  rw [Try.params7] at hA hval
  obtain ⟨v0, vs0, d0, ds0, p0, q0, hargs, rfl, rfl, h0, r0⟩ := trodAll_cons hA
  obtain ⟨rfl, rfl, rfl⟩ := trodAll_nil r0
  obtain rfl : args = #[v0] := by cases args; simp_all
  obtain ⟨rfl, rfl⟩ := trodVars_none hV
  obtain ⟨a0, len0, cap0, rfl⟩ := okWide_slice Try.underlying22 (hval 0 22 v0 rfl rfl)
  have k0 := h0
  have lt0 : ∀ x ∈ p0, x.block < W.heap.size := by obtain ⟨m, hm⟩ := k0; exact DataW.trod_lt m _ _ _ hm
  obtain ⟨z0, w0⟩ : ∃ zs, IsRow .u8 W a0 len0 cap0 zs := by
    obtain ⟨fuel, hf⟩ := h0
    rcases open_ints Try.underlying22 Try.underlying5 (by kernel_rfl) hf with ⟨hcs, _⟩ | ⟨x, l, c, zs, hcs, _, hl, hm, hz, _, hcell, hwz⟩
    · simp [Value.cells] at hcs
      obtain ⟨rfl, rfl, rfl⟩ := hcs
      exact ⟨[], .inl ⟨rfl, rfl, rfl, rfl⟩⟩
    · simp [Value.cells] at hcs
      obtain ⟨rfl, rfl, rfl⟩ := hcs
      exact ⟨zs, .inr ⟨_, rfl, hl, hm, by simpa using hz, hcell, hwz⟩⟩
  clear hA0 hval0
  refine (walk _ _ W (RdBytes.of_row w0)).mono fun e W' ⟨he, bel⟩ => ?_
  subst he
  exact ⟨_, rfl, _, _, _, [], _, [], hW', trodAll_mk1 (shut_bool Try.underlying4 _), (trodAll_cons_mk (Below.trod Try.laidOut (by kernel_rfl) (of_decide_eq_true (by kernel_rfl)) k0 bel lt0) trodAll_mk0), rfl, bel.frame _, fun h => by cases h⟩

theorem closed : joinedFacts Try.pinned.checked.prog 7 Try.f7 Rows.fnFewestSpiesSpec Rows.fnFewestSpiesRow = true := by
  unfold joinedFacts
  exact (and_tt (and_tt (and_tt (and_tt (and_tt (and_tt (and_tt (and_tt (and_tt (and_tt (and_tt (and_tt (and_tt (and_tt (and_tt (and_tt (and_tt (and_tt (and_tt (and_tt (and_tt (and_tt (and_tt (and_tt (and_tt (and_tt (and_tt (and_tt (and_tt (and_tt (and_tt (by kernel_rfl) (by kernel_rfl)) (by kernel_rfl)) (by kernel_rfl)) (by kernel_rfl)) (by kernel_rfl)) (by kernel_rfl)) (by kernel_rfl)) (by kernel_rfl)) (by kernel_rfl)) (by kernel_rfl)) (by kernel_rfl)) (by kernel_rfl)) (by kernel_rfl)) (by kernel_rfl)) (by kernel_rfl)) (by kernel_rfl)) (by kernel_rfl)) (by kernel_rfl)) (by kernel_rfl)) (by kernel_rfl)) (by kernel_rfl)) (by kernel_rfl)) (by kernel_rfl)) (by kernel_rfl)) Try.mayEnter0) (lifted_tt Try.lifts0 rfl)) (make_tt Try.make0 rfl)) (by kernel_rfl)) (by kernel_rfl)) (by kernel_rfl)) (by kernel_rfl))
theorem over : Rows.fnFewestSpiesRow.holds Try.pinned (OpenSpec.ofChange Rows.fnFewestSpiesSpec) :=
  OpenClaim.holds_of_wide 7 Try.f7 rfl rfl rfl rfl rfl rfl rfl ⟨rfl, rfl, rfl, rfl, rfl⟩ rfl rfl rfl rfl rfl (by kernel_rfl) Try.func7 closed
    (of_decide_eq_true (by kernel_rfl)) (by unfold Func.isWrapper; first | (rw [if_pos (by decide +kernel)]; kernel_rfl) | (rw [if_neg (by decide +kernel)]; exact ⟨rfl, rfl⟩))
    (fun os started H enc _ => lifted os started H enc)

theorem proved : Rows.FnFewestSpiesSaid := over
end Go.Proofs.Ytobbbmcppmohoaa.fnFewestSpies

