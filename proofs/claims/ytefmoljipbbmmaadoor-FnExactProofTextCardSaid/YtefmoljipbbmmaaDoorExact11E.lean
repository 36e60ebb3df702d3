/- Exact law of stage 11: the texts of proofs. No condition but that the library tables start as the text of the program lays them. -/
import Derived.Test.YtefmoljipbbmmaaDoorMerged0
import Derived.Test.YtefmoljipbbmmaaDoorMerged34
import Derived.Test.YtefmoljipbbmmaaDoorMerged35
import Derived.Test.YtefmoljipbbmmaaDoorMerged36
import Derived.Test.YtefmoljipbbmmaaDoorMerged6
import Derived.Deep.RegionHeld3
import Derived.Deep.Cut
import Derived.WalkKit
import Derived.ProofKit
namespace Go.Proofs.YtefmoljipbbmmaaDoor
open Go.RowKit Go.Joins
theorem ProofText_spec (p : Int) (us zs : List QC) (he : us.map (·.2) = zs.map (·.2)) (ms : List (Int × Int)) (sp : List Sp3) (fi : Int) (B : Nat) (v u pv : Value) (w : World) (hr : RdStory w B v us) (hr' : RdMarks w B u ms) (hq : RdSplits w B pv sp) (hB : B ≤ w.heap.size) :
    Calls Tryd.prog 8 #[.int .i64 p, v, u, .agg #[.int .i64 fi, pv]] w fun e w' => e = .returned (sv (tbF p (zs.map (·.2)) ms sp fi)) ∧ Below w.heap.size w w' := by
  rw [← he]
  exact specProofText p fi us ms sp B v u pv w hr hr' hq hB
theorem ProofText_impl (p : Int) (us zs : List QC) (he : us.map (·.2) = zs.map (·.2)) (ms : List (Int × Int)) (sp : List Sp3) (fi : Int) (B : Nat) (v u pv : Value) (w : World) (hr : RdStory w B v us) (hr' : RdMarks w B u ms) (hq : RdSplits w B pv sp) (hB : B ≤ w.heap.size) (h64 : I64 fi) :
    Calls Tryd.prog 12 #[.int .i64 p, v, u, .agg #[.int .i64 fi, pv]] w fun e w' => e = .returned (sv (tbF p (zs.map (·.2)) ms sp fi)) ∧ Below w.heap.size w w' := by
  rw [← he]
  exact implProofText p fi us ms sp B v u pv w hr hr' hq hB h64
end Go.Proofs.YtefmoljipbbmmaaDoor
namespace Go.Proofs.YtefmoljipbbmmaaDoor.fnExactProofText
open Go.ChangeShapes Go.WideShapes Go.ChangeAt Go.RowKit Go.Joins
attribute [local irreducible] holds tabN tabV holdsV sameV followsV alwaysV matterV mirV mirOk mcells tmOf claimOk mayT mayV ctabV ctabN storyV storyOk storyN storyT ctermV ctermL denyV denyOk ccells clashV followsF provesF findF foundS foundG tbF readF textF nats8 scells lay lay3 laidC ctot
open Go.ChangeMaps (open_string shut_string)
set_option linter.unusedVariables false
set_option maxRecDepth 100000 in
set_option maxHeartbeats 8000000 in
theorem walk (a0 : Int) (a1 : Value) (z1 : List QC) (a2 : Value) (z2 : List (Int × Int)) (k3 : Int) (a3 : Value) (z3 : List Sp3) (w : World) (w0 : (Lit.int .i64 a0).wf = true) (w1 : RdStory w w.heap.size a1 z1) (w2 : RdMarks w w.heap.size a2 z2) (wi3 : I64 k3) (w3 : RdSplits w w.heap.size a3 z3) :
    Calls Tryd.prog 3 #[.int .i64 a0, a1, a2, .agg #[.int .i64 k3, a3]] w fun e w' => e = .returned (.bool true) ∧ Below w.heap.size w w' := by
  have HA := Lib.hid w1
  have HM := Lib.hid w2
  obtain ⟨mo, mc, rfl, hmn⟩ : ∃ mo mc, a2 = .slice mo z2.length mc ∧ (z2.length : Int) ≤ 9223372036854775807 := by
    obtain ⟨a, c, h1, h2, h3, _⟩ := w2
    unfold maxLen at h3
    exact ⟨a, c, h1, by omega⟩
  have Hi := Lib.hid (show I64s z2 from by obtain ⟨_, _, _, _, _, hi, _⟩ := w2; exact hi)
  have HP := Lib.hid w3
  obtain ⟨po, pc, rfl, hpn⟩ : ∃ po pc, a3 = .slice po z3.length pc ∧ (z3.length : Int) ≤ 9223372036854775807 := by
    obtain ⟨a, c, h1, h2, h3, _⟩ := w3
    unfold maxLen at h3
    exact ⟨a, c, h1, by omega⟩
  have Hs64 := Lib.hid w3.s64
  clear w1 w2
  clear w3
  have hs := fun us (he : us.map (·.2) = z1.map (·.2)) B v u pv W h h2 h3 h4 => ProofText_spec a0 us z1 he z2 z3 k3 B v u pv W h h2 h3 h4
  have hp := fun us (he : us.map (·.2) = z1.map (·.2)) B v u pv W h h2 h3 h4 => ProofText_impl a0 us z1 he z2 z3 k3 B v u pv W h h2 h3 h4 wi3
  generalize tbF a0 (z1.map (·.2)) z2 z3 k3 = T at *
  have Hs := Lib.hid hs
  have Hp := Lib.hid hp
  clear hs hp
  obtain ⟨w1, rfl⟩ : ∃ w1 : World, w1 = w := ⟨_, rfl⟩
  have HB_1 := Lib.hid (Below.refl w1.heap.size w1)
  have HA_1 := HA
  have HM_1 := HM
  have HP_1 := HP
  go_enter Tryd.func3, Tryd.ntmps3
  go_upto_region 1 with fail
  obtain ⟨w2, hw2, hn2, hb2, hz2⟩ := Box.new w1 (.int .i64 k3) (.slice po z3.length pc) 26
  have HX_2 := Lib.hid hn2
  rw [← hw2]
  clear hw2 hn2
  have HA_2 := Lib.hid ((HA_1.out.below (w' := w2) hb2.block).mono hb2.size)
  have HM_2 := Lib.hid ((HM_1.out.below (w' := w2) hb2.block).mono hb2.size)
  have HP_2 := Lib.hid ((HP_1.out.below (w' := w2) hb2.block).mono hb2.size)
  have hs2 := hb2.size
  have HB_2 := Lib.hid (HB_1.out.trans (hb2.mono HB_1.out.size))
  clear hb2
  have gX : w1.heap.size < w2.heap.size := hz2
  clear hz2
  have aX_2 := HX_2.out.1
  have bX_2 := HX_2.out.2.1
  go_wp2_with fail
  refine (szClaimSB z1 _ _ _ HA_2.out (Nat.le_refl _)).mono ?_
  rintro e w3 ⟨⟨r, rfl, hrr⟩, hb3⟩
  have HA_3 := Lib.hid ((HA_2.out.below (w' := w3) hb3.block).mono hb3.size)
  have HM_3 := Lib.hid ((HM_2.out.below (w' := w3) hb3.block).mono hb3.size)
  have HP_3 := Lib.hid ((HP_2.out.below (w' := w3) hb3.block).mono hb3.size)
  have HX_3 := Lib.hid (HX_2.out.below hb3)
  have aX_3 := HX_3.out.1
  have bX_3 := HX_3.out.2.1
  have hs3 := hb3.size
  have HB_3 := Lib.hid (HB_2.out.trans (hb3.mono HB_2.out.size))
  clear aX_2 bX_2
  clear hb3
  by_cases hnegr : r < 0
  case pos =>
    clear hrr
    go_wp2
    go_ret
    exact ⟨rfl, HB_3.out⟩
  have hrr2 : (0 ≤ r ∧ r ≤ 1048576) ∧ z1.length ≤ 1048576 ∧ ∀ j, j < z1.length → (z1.getD j qc0).2.2.length ≤ 1048576 := by
    rcases hrr with h | h
    · omega
    · exact h
  obtain ⟨⟨hr0, hr1⟩, hlq, hlm⟩ := hrr2
  have Hlm := Lib.hid hlm
  clear hrr hlm
  go_wp2_with fail
  refine (szMarkS_at mo z2.length mc r hmn hr0 hr1 _).mono ?_
  rintro e w' ⟨⟨r2, rfl, hrr2⟩, rfl⟩
  by_cases hnegr2 : r2 < 0
  case pos =>
    clear hrr2
    go_wp2
    go_ret
    exact ⟨rfl, HB_3.out⟩
  have hrr3 : 0 ≤ r2 ∧ r2 ≤ r ∧ z2.length ≤ 1048576 := by
    rcases hrr2 with h | h
    · omega
    · exact h
  obtain ⟨hr20, hr21, hlz⟩ := hrr3
  clear hrr2
  have hr22 : r2 ≤ 1048576 := by omega
  go_wp2_with fail
  refine (szProof k3 po z3.length pc r2 hpn hr20 hr22 _).mono ?_
  rintro e w4 ⟨⟨r3, rfl, hrr3⟩, hb4⟩
  have HA_4 := Lib.hid ((HA_3.out.below (w' := w4) hb4.block).mono hb4.size)
  have HM_4 := Lib.hid ((HM_3.out.below (w' := w4) hb4.block).mono hb4.size)
  have HP_4 := Lib.hid ((HP_3.out.below (w' := w4) hb4.block).mono hb4.size)
  have HX_4 := Lib.hid (HX_3.out.below hb4)
  have aX_4 := HX_4.out.1
  have bX_4 := HX_4.out.2.1
  have hs4 := hb4.size
  have HB_4 := Lib.hid (HB_3.out.trans (hb4.mono HB_3.out.size))
  clear aX_3 bX_3
  clear hb4
  by_cases hnegr3 : r3 < 0
  case pos =>
    clear hrr3
    go_wp2
    go_ret
    exact ⟨rfl, HB_4.out⟩
  have hrr4 : 0 ≤ r3 ∧ z3.length ≤ 1048576 := by
    rcases hrr3 with h | h
    · omega
    · exact h
  obtain ⟨_, hlp⟩ := hrr4
  clear hrr3
  go_wp2_with fail
  go_region_held3 (fun w' => w'.cell? ⟨w1.heap.size, 0, none⟩ = some (.int .i64 k3) ∧ w'.cell? ⟨w1.heap.size, 1, none⟩ = some (.slice po z3.length pc))
    (first | (refine ⟨?_, ?_⟩ <;> first | go_keep | assumption) | assumption)
    (first
      | (go_at_call 9
         (with_reducible refine (toClaimS z1 hlq Hlm.out w4.heap.size _ _ ?_ ?_).mono ?_)
         · exact HA_4.out
         · exact Nat.le_refl _
         rintro e w5 ⟨v1, us1, rfl, he1, hst1, hb5'⟩
         go_must (have hb5 : Below w4.heap.size w4 w5 := by first | exact hb5' | exact below_undrewS hb5' | exact below_undrewN hb5'
                  clear hb5'
                  have HS1_5 := Lib.hid hst1
                  have He1 := Lib.hid he1
                  clear hst1 he1
                  have HA_5 := Lib.hid ((HA_4.out.below (w' := w5) hb5.block).mono hb5.size)
                  have HM_5 := Lib.hid ((HM_4.out.below (w' := w5) hb5.block).mono hb5.size)
                  have HP_5 := Lib.hid ((HP_4.out.below (w' := w5) hb5.block).mono hb5.size)
                  have HX_5 := Lib.hid (HX_4.out.below hb5)
                  have aX_5 := HX_5.out.1
                  have bX_5 := HX_5.out.2.1
                  have hs5 : w4.heap.size ≤ w5.heap.size := hb5.size
                  have HB_5 := Lib.hid (HB_4.out.trans (hb5.mono HB_4.out.size))
                  clear hb5))
      | (go_at_call 10
         (with_reducible refine (toMarkS z2 hlz w5.heap.size _ _ ?_ ?_).mono ?_)
         · exact HM_5.out
         · exact Nat.le_refl _
         rintro e w6 ⟨m1, rfl, ho1, hb6'⟩
         go_must (have hb6 : Below w5.heap.size w5 w6 := by first | exact hb6' | exact below_undrewS hb6' | exact below_undrewN hb6'
                  clear hb6'
                  have HN1_6 := Lib.hid ho1
                  clear ho1
                  have HA_6 := Lib.hid ((HA_5.out.below (w' := w6) hb6.block).mono hb6.size)
                  have HM_6 := Lib.hid ((HM_5.out.below (w' := w6) hb6.block).mono hb6.size)
                  have HP_6 := Lib.hid ((HP_5.out.below (w' := w6) hb6.block).mono hb6.size)
                  have HX_6 := Lib.hid (HX_5.out.below hb6)
                  have HS1_6 := Lib.hid (HS1_5.out.below hb6)
                  have aX_6 := HX_6.out.1
                  have bX_6 := HX_6.out.2.1
                  have hs6 : w5.heap.size ≤ w6.heap.size := hb6.size
                  have HB_6 := Lib.hid (HB_5.out.trans (hb6.mono HB_5.out.size))
                  clear hb6))
      | (go_at_call 11
         (with_reducible refine (toProof k3 z3 hlp w6.heap.size _ _ ?_ ?_).mono ?_)
         · exact HP_6.out
         · exact Nat.le_refl _
         rintro e w7 ⟨q1, rfl, ho1, hb7'⟩
         go_must (have hb7 : Below w6.heap.size w6 w7 := by first | exact hb7' | exact below_undrewS hb7' | exact below_undrewN hb7'
                  clear hb7'
                  have HQ1_7 := Lib.hid ho1
                  clear ho1
                  have HA_7 := Lib.hid ((HA_6.out.below (w' := w7) hb7.block).mono hb7.size)
                  have HM_7 := Lib.hid ((HM_6.out.below (w' := w7) hb7.block).mono hb7.size)
                  have HP_7 := Lib.hid ((HP_6.out.below (w' := w7) hb7.block).mono hb7.size)
                  have HX_7 := Lib.hid (HX_6.out.below hb7)
                  have HS1_7 := Lib.hid (HS1_6.out.below hb7)
                  have HN1_7 := Lib.hid (own_below HN1_6.out hb7)
                  have aX_7 := HX_7.out.1
                  have bX_7 := HX_7.out.2.1
                  have hs7 : w6.heap.size ≤ w7.heap.size := hb7.size
                  have HB_7 := Lib.hid (HB_6.out.trans (hb7.mono HB_6.out.size))
                  clear hb7))
      | (go_at_call 8
         (with_reducible refine (Hs.out us1 He1.out w7.heap.size _ _ _ _ ?_ ?_ ?_ ?_).mono ?_)
         · exact HS1_7.out.rd
         · exact RdMarks.of_own HN1_7.out Hi.out
         · exact RdSplits.of_own HQ1_7.out Hs64.out
         · exact Nat.le_refl _
         rintro e w8 ⟨rfl, hb8'⟩
         go_must (have hb8 : Below w7.heap.size w7 w8 := by first | exact hb8' | exact below_undrewS hb8' | exact below_undrewN hb8'
                  clear hb8'
                  have HA_8 := Lib.hid ((HA_7.out.below (w' := w8) hb8.block).mono hb8.size)
                  have HM_8 := Lib.hid ((HM_7.out.below (w' := w8) hb8.block).mono hb8.size)
                  have HP_8 := Lib.hid ((HP_7.out.below (w' := w8) hb8.block).mono hb8.size)
                  have HX_8 := Lib.hid (HX_7.out.below hb8)
                  have HS1_8 := Lib.hid (HS1_7.out.below hb8)
                  have HN1_8 := Lib.hid (own_below HN1_7.out hb8)
                  have HQ1_8 := Lib.hid (own_below HQ1_7.out hb8)
                  have aX_8 := HX_8.out.1
                  have bX_8 := HX_8.out.2.1
                  have hs8 : w7.heap.size ≤ w8.heap.size := hb8.size
                  have HB_8 := Lib.hid (HB_7.out.trans (hb8.mono HB_7.out.size))
                  clear hb8))
      | fail)
  try clear aX_4 bX_4
  try clear aX_5 bX_5
  try clear aX_6 bX_6
  try clear aX_7 bX_7
  go_wp2_with fail
  refine (toClaimS z1 hlq Hlm.out w8.heap.size _ _ (by exact HA_8.out) (by exact Nat.le_refl _)).mono ?_
  rintro e w9 ⟨v2, us2, rfl, he2, hst2, hb9'⟩
  have hb9 : Below w8.heap.size w8 w9 := by first | exact hb9' | exact below_undrewS hb9' | exact below_undrewN hb9'
  clear hb9'
  have HS2_9 := Lib.hid hst2
  have He2 := Lib.hid he2
  clear hst2 he2
  have HA_9 := Lib.hid ((HA_8.out.below (w' := w9) hb9.block).mono hb9.size)
  have HM_9 := Lib.hid ((HM_8.out.below (w' := w9) hb9.block).mono hb9.size)
  have HP_9 := Lib.hid ((HP_8.out.below (w' := w9) hb9.block).mono hb9.size)
  have HX_9 := Lib.hid (HX_8.out.below hb9)
  have aX_9 := HX_9.out.1
  have bX_9 := HX_9.out.2.1
  have hs9 := hb9.size
  have HB_9 := Lib.hid (HB_8.out.trans (hb9.mono HB_8.out.size))
  clear aX_8 bX_8
  clear hb9
  go_wp2_with fail
  refine (toMarkS z2 hlz _ _ _ HM_9.out (Nat.le_refl _)).mono ?_
  rintro e w10 ⟨m2, rfl, ho2, hb10⟩
  have HN2_10 := Lib.hid ho2
  clear ho2
  have HA_10 := Lib.hid ((HA_9.out.below (w' := w10) hb10.block).mono hb10.size)
  have HM_10 := Lib.hid ((HM_9.out.below (w' := w10) hb10.block).mono hb10.size)
  have HP_10 := Lib.hid ((HP_9.out.below (w' := w10) hb10.block).mono hb10.size)
  have HX_10 := Lib.hid (HX_9.out.below hb10)
  have HS2_10 := Lib.hid (HS2_9.out.below hb10)
  have aX_10 := HX_10.out.1
  have bX_10 := HX_10.out.2.1
  have hs10 := hb10.size
  have HB_10 := Lib.hid (HB_9.out.trans (hb10.mono HB_9.out.size))
  clear aX_9 bX_9
  clear hb10
  go_wp2_with fail
  refine (toProof k3 z3 hlp _ _ _ HP_10.out (Nat.le_refl _)).mono ?_
  rintro e w11 ⟨q2, rfl, ho2, hb11⟩
  have HQ2_11 := Lib.hid ho2
  obtain ⟨fo, fc, hf⟩ := own_len ho2
  subst hf
  clear ho2
  have HA_11 := Lib.hid ((HA_10.out.below (w' := w11) hb11.block).mono hb11.size)
  have HM_11 := Lib.hid ((HM_10.out.below (w' := w11) hb11.block).mono hb11.size)
  have HP_11 := Lib.hid ((HP_10.out.below (w' := w11) hb11.block).mono hb11.size)
  have HX_11 := Lib.hid (HX_10.out.below hb11)
  have HS2_11 := Lib.hid (HS2_10.out.below hb11)
  have HN2_11 := Lib.hid (own_below HN2_10.out hb11)
  have aX_11 := HX_11.out.1
  have bX_11 := HX_11.out.2.1
  have hs11 := hb11.size
  have HB_11 := Lib.hid (HB_10.out.trans (hb11.mono HB_10.out.size))
  clear aX_10 bX_10
  clear hb11
  go_upto_region 15 with fail
  obtain ⟨w12, hw12, hn12, hb12, hz12⟩ := Box.new w11 (.int .i64 k3) (.slice fo z3.length fc) 37
  have HY_12 := Lib.hid hn12
  rw [← hw12]
  clear hw12 hn12
  have HA_12 := Lib.hid ((HA_11.out.below (w' := w12) hb12.block).mono hb12.size)
  have HM_12 := Lib.hid ((HM_11.out.below (w' := w12) hb12.block).mono hb12.size)
  have HP_12 := Lib.hid ((HP_11.out.below (w' := w12) hb12.block).mono hb12.size)
  have HX_12 := Lib.hid (HX_11.out.below hb12)
  have HS2_12 := Lib.hid (HS2_11.out.below hb12)
  have HN2_12 := Lib.hid (own_below HN2_11.out hb12)
  have HQ2_12 := Lib.hid (own_below HQ2_11.out hb12)
  have aX_12 := HX_12.out.1
  have bX_12 := HX_12.out.2.1
  have hs12 := hb12.size
  have HB_12 := Lib.hid (HB_11.out.trans (hb12.mono HB_11.out.size))
  clear aX_11 bX_11
  clear hb12
  have gY : w11.heap.size < w12.heap.size := hz12
  clear hz12
  have aY_12 := HY_12.out.1
  have bY_12 := HY_12.out.2.1
  go_wp2_with fail
  refine (Hp.out us2 He2.out _ _ _ _ _ HS2_12.out.rd (RdMarks.of_own HN2_12.out Hi.out) (RdSplits.of_own HQ2_12.out Hs64.out) (Nat.le_refl _)).mono ?_
  rintro e w13 ⟨rfl, hb13⟩
  have HA_13 := Lib.hid ((HA_12.out.below (w' := w13) hb13.block).mono hb13.size)
  have HM_13 := Lib.hid ((HM_12.out.below (w' := w13) hb13.block).mono hb13.size)
  have HP_13 := Lib.hid ((HP_12.out.below (w' := w13) hb13.block).mono hb13.size)
  have HX_13 := Lib.hid (HX_12.out.below hb13)
  have HS2_13 := Lib.hid (HS2_12.out.below hb13)
  have HN2_13 := Lib.hid (own_below HN2_12.out hb13)
  have HQ2_13 := Lib.hid (own_below HQ2_12.out hb13)
  have HY_13 := Lib.hid (HY_12.out.below hb13)
  have aX_13 := HX_13.out.1
  have bX_13 := HX_13.out.2.1
  have aY_13 := HY_13.out.1
  have bY_13 := HY_13.out.2.1
  have hs13 := hb13.size
  have HB_13 := Lib.hid (HB_12.out.trans (hb13.mono HB_12.out.size))
  clear aX_12 bX_12
  clear aY_12 bY_12
  clear hb13
  have hTT : (T != T) = false := by simp
  go_wp2_with fail
  refine (toClaimS z1 hlq Hlm.out _ _ _ HA_13.out (Nat.le_refl _)).mono ?_
  rintro e w14 ⟨v3, us3, rfl, he3, hst3, hb14⟩
  have HS3_14 := Lib.hid hst3
  have He3 := Lib.hid he3
  clear hst3 he3
  have HA_14 := Lib.hid ((HA_13.out.below (w' := w14) hb14.block).mono hb14.size)
  have HM_14 := Lib.hid ((HM_13.out.below (w' := w14) hb14.block).mono hb14.size)
  have HP_14 := Lib.hid ((HP_13.out.below (w' := w14) hb14.block).mono hb14.size)
  have HX_14 := Lib.hid (HX_13.out.below hb14)
  have HS2_14 := Lib.hid (HS2_13.out.below hb14)
  have HN2_14 := Lib.hid (own_below HN2_13.out hb14)
  have HQ2_14 := Lib.hid (own_below HQ2_13.out hb14)
  have HY_14 := Lib.hid (HY_13.out.below hb14)
  have aX_14 := HX_14.out.1
  have bX_14 := HX_14.out.2.1
  have aY_14 := HY_14.out.1
  have bY_14 := HY_14.out.2.1
  have hs14 := hb14.size
  have HB_14 := Lib.hid (HB_13.out.trans (hb14.mono HB_13.out.size))
  clear aX_13 bX_13
  clear aY_13 bY_13
  clear hb14
  go_wp2_with fail
  refine (eqClaimS us2 us3 (He2.out.trans He3.out.symm) _ _ _ _ _ HS2_14.out.rd HS3_14.out.rd (Nat.le_refl _) (Nat.le_refl _)).mono ?_
  rintro e w15 ⟨rfl, hb15⟩
  have HA_15 := Lib.hid ((HA_14.out.below (w' := w15) hb15.block).mono hb15.size)
  have HM_15 := Lib.hid ((HM_14.out.below (w' := w15) hb15.block).mono hb15.size)
  have HP_15 := Lib.hid ((HP_14.out.below (w' := w15) hb15.block).mono hb15.size)
  have HX_15 := Lib.hid (HX_14.out.below hb15)
  have HS2_15 := Lib.hid (HS2_14.out.below hb15)
  have HN2_15 := Lib.hid (own_below HN2_14.out hb15)
  have HQ2_15 := Lib.hid (own_below HQ2_14.out hb15)
  have HY_15 := Lib.hid (HY_14.out.below hb15)
  have HS3_15 := Lib.hid (HS3_14.out.below hb15)
  have aX_15 := HX_15.out.1
  have bX_15 := HX_15.out.2.1
  have aY_15 := HY_15.out.1
  have bY_15 := HY_15.out.2.1
  have hs15 := hb15.size
  have HB_15 := Lib.hid (HB_14.out.trans (hb15.mono HB_14.out.size))
  clear aX_14 bX_14
  clear aY_14 bY_14
  clear hb15
  go_wp2_with fail
  refine (toMarkS z2 hlz _ _ _ HM_15.out (Nat.le_refl _)).mono ?_
  rintro e w16 ⟨m3, rfl, ho3, hb16⟩
  have HN3_16 := Lib.hid ho3
  clear ho3
  have HA_16 := Lib.hid ((HA_15.out.below (w' := w16) hb16.block).mono hb16.size)
  have HM_16 := Lib.hid ((HM_15.out.below (w' := w16) hb16.block).mono hb16.size)
  have HP_16 := Lib.hid ((HP_15.out.below (w' := w16) hb16.block).mono hb16.size)
  have HX_16 := Lib.hid (HX_15.out.below hb16)
  have HN2_16 := Lib.hid (own_below HN2_15.out hb16)
  have HQ2_16 := Lib.hid (own_below HQ2_15.out hb16)
  have HY_16 := Lib.hid (HY_15.out.below hb16)
  have aX_16 := HX_16.out.1
  have bX_16 := HX_16.out.2.1
  have aY_16 := HY_16.out.1
  have bY_16 := HY_16.out.2.1
  have hs16 := hb16.size
  have HB_16 := Lib.hid (HB_15.out.trans (hb16.mono HB_15.out.size))
  clear aX_15 bX_15
  clear aY_15 bY_15
  clear hb16
  go_wp2_with fail
  refine (eqMarkS z2 z2 _ _ _ _ _ (RdMarks.of_own HN2_16.out Hi.out) (RdMarks.of_own HN3_16.out Hi.out) (Nat.le_refl _) (Nat.le_refl _)).mono ?_
  rintro e w17 ⟨rfl, hb17⟩
  rw [show decide (z2 = z2) = true from by simp]
  have HA_17 := Lib.hid ((HA_16.out.below (w' := w17) hb17.block).mono hb17.size)
  have HM_17 := Lib.hid ((HM_16.out.below (w' := w17) hb17.block).mono hb17.size)
  have HP_17 := Lib.hid ((HP_16.out.below (w' := w17) hb17.block).mono hb17.size)
  have HX_17 := Lib.hid (HX_16.out.below hb17)
  have HN2_17 := Lib.hid (own_below HN2_16.out hb17)
  have HQ2_17 := Lib.hid (own_below HQ2_16.out hb17)
  have HY_17 := Lib.hid (HY_16.out.below hb17)
  have HN3_17 := Lib.hid (own_below HN3_16.out hb17)
  have aX_17 := HX_17.out.1
  have bX_17 := HX_17.out.2.1
  have aY_17 := HY_17.out.1
  have bY_17 := HY_17.out.2.1
  have hs17 := hb17.size
  have HB_17 := Lib.hid (HB_16.out.trans (hb17.mono HB_16.out.size))
  clear aX_16 bX_16
  clear aY_16 bY_16
  clear hb17
  go_wp2_with fail
  go_region_held3 (fun w' => w'.cell? ⟨w1.heap.size, 0, none⟩ = some (.int .i64 k3) ∧ w'.cell? ⟨w1.heap.size, 1, none⟩ = some (.slice po z3.length pc) ∧ w'.cell? ⟨w11.heap.size, 0, none⟩ = some (.int .i64 k3) ∧ w'.cell? ⟨w11.heap.size, 1, none⟩ = some (.slice fo z3.length fc))
    (first | (refine ⟨?_, ?_, ?_, ?_⟩ <;> first | go_keep | assumption) | assumption)
    (first
      | (go_at_call 11
         (with_reducible refine (toProof k3 z3 hlp w17.heap.size _ _ ?_ ?_).mono ?_)
         · exact HP_17.out
         · exact Nat.le_refl _
         rintro e w18 ⟨q3, rfl, ho3, hb18'⟩
         go_must (have hb18 : Below w17.heap.size w17 w18 := by first | exact hb18' | exact below_undrewS hb18' | exact below_undrewN hb18'
                  clear hb18'
                  have HQ3_18 := Lib.hid ho3
                  clear ho3
                  have HA_18 := Lib.hid ((HA_17.out.below (w' := w18) hb18.block).mono hb18.size)
                  have HM_18 := Lib.hid ((HM_17.out.below (w' := w18) hb18.block).mono hb18.size)
                  have HP_18 := Lib.hid ((HP_17.out.below (w' := w18) hb18.block).mono hb18.size)
                  have HX_18 := Lib.hid (HX_17.out.below hb18)
                  have HQ2_18 := Lib.hid (own_below HQ2_17.out hb18)
                  have HY_18 := Lib.hid (HY_17.out.below hb18)
                  have aX_18 := HX_18.out.1
                  have bX_18 := HX_18.out.2.1
                  have aY_18 := HY_18.out.1
                  have bY_18 := HY_18.out.2.1
                  have hs18 : w17.heap.size ≤ w18.heap.size := hb18.size
                  have HB_18 := Lib.hid (HB_17.out.trans (hb18.mono HB_17.out.size))
                  clear hb18))
      | (go_at_call 15
         (with_reducible refine (eqProof k3 z3 w18.heap.size w18.heap.size _ _ _ ?_ ?_ ?_ ?_).mono ?_)
         · exact RdSplits.of_own HQ2_18.out Hs64.out
         · exact RdSplits.of_own HQ3_18.out Hs64.out
         · exact Nat.le_refl _
         · exact Nat.le_refl _
         rintro e w19 ⟨rfl, hb19'⟩
         go_must (have hb19 : Below w18.heap.size w18 w19 := by first | exact hb19' | exact below_undrewS hb19' | exact below_undrewN hb19'
                  clear hb19'
                  have HA_19 := Lib.hid ((HA_18.out.below (w' := w19) hb19.block).mono hb19.size)
                  have HM_19 := Lib.hid ((HM_18.out.below (w' := w19) hb19.block).mono hb19.size)
                  have HP_19 := Lib.hid ((HP_18.out.below (w' := w19) hb19.block).mono hb19.size)
                  have HX_19 := Lib.hid (HX_18.out.below hb19)
                  have HQ2_19 := Lib.hid (own_below HQ2_18.out hb19)
                  have HY_19 := Lib.hid (HY_18.out.below hb19)
                  have HQ3_19 := Lib.hid (own_below HQ3_18.out hb19)
                  have aX_19 := HX_19.out.1
                  have bX_19 := HX_19.out.2.1
                  have aY_19 := HY_19.out.1
                  have bY_19 := HY_19.out.2.1
                  have hs19 : w18.heap.size ≤ w19.heap.size := hb19.size
                  have HB_19 := Lib.hid (HB_18.out.trans (hb19.mono HB_18.out.size))
                  clear hb19))
      | fail)
  try clear aX_17 bX_17
  try clear aY_17 bY_17
  try clear aX_18 bX_18
  try clear aY_18 bY_18
  all_goals
    go_wp2
    go_ret
    exact ⟨rfl, by first | exact HB_19.out | exact below_drewS HB_19.out | exact below_drewN HB_19.out _ | exact below_drew1 HB_19.out⟩

set_option maxRecDepth 100000 in
theorem lifted (os : Os) (started : os.Started) (H : Type) (enc : TypeId × Value → H) :
    ReturnsInHanded {} Tryd.checked os 3 .any (fun w args => (Rows.fnExactProofTextSpec.pre enc Tryd.prog Tryd.f3 Rows.fnExactProofTextRow.domain false w args ∧ laidMet Tryd.prog tabs w) ∧ sizedMet enc Tryd.prog Tryd.f3 (OpenSpec.ofChange Rows.fnExactProofTextSpec) false w args) (Rows.fnExactProofTextSpec.post enc Tryd.prog Tryd.f3 false true false false) := by
  refine returnsInHanded_of_change_and (C := Tryd.checked) (X := fun w _ => laidMet Tryd.prog tabs w) (fun _ _ _ hh h => h.of_heap hh) Tryd.own started (by kernel_rfl) Tryd.func3
    (ChangeSpec.witness_at (enc := enc) (C := Tryd.checked) (os := os) (X := fun w _ => laidMet Tryd.prog tabs w) false (laidWorld os) #[.int .i64 0, .slice none 0 0, .slice none 0 0, .agg #[.int .i64 0, .slice none 0 0]] 8 rfl (by kernel_rfl) (by kernel_rfl) (by kernel_rfl) (by kernel_rfl) (by kernel_rfl) (laidWorld_met os _)) ?_
  intro W base args ds gs before hval0 hW hcnd _ hL _
  have hval : ∀ (j : Nat) t v, Tryd.f3.params[j]? = some t → args[j]? = some v → Value.okWide Tryd.prog W .any base t v := hval0
  have hW' := hW
  obtain ⟨p, q, hA0, hV, rfl, hfz, hnd⟩ := hW
  have hA : DataW.TrodAll enc Tryd.prog W 0 (fun _ => true) true Tryd.f3.params.toList args.toList ds p := hA0
  rw [Tryd.params3] at hA hval
  obtain ⟨v0, vs0, d0, ds0, p0, q0, hargs, rfl, rfl, h0, r0⟩ := trodAll_cons hA
  obtain ⟨v1, vs1, d1, ds1, p1, q1, rfl, rfl, rfl, h1, r1⟩ := trodAll_cons r0
  obtain ⟨v2, vs2, d2, ds2, p2, q2, rfl, rfl, rfl, h2, r2⟩ := trodAll_cons r1
  obtain ⟨v3, vs3, d3, ds3, p3, q3, rfl, rfl, rfl, h3, r3⟩ := trodAll_cons r2
  obtain ⟨rfl, rfl, rfl⟩ := trodAll_nil r3
  obtain rfl : args = #[v0, v1, v2, v3] := by cases args; simp_all
  obtain ⟨rfl, rfl⟩ := trodVars_none hV
  obtain ⟨a0, rfl, rfl, rfl, w0⟩ := open_int Tryd.underlying3 (hval 0 3 v0 rfl rfl) h0
  obtain ⟨a1, len1, cap1, rfl⟩ := okWide_slice Tryd.underlying22 (hval 1 22 v1 rfl rfl)
  have k1 := h1
  have lt1 : ∀ x ∈ p1, x.block < W.heap.size := by obtain ⟨m, hm⟩ := k1; exact DataW.trod_lt m _ _ _ hm
  obtain ⟨z1, e1, w1⟩ : ∃ qs, len1 = qs.length ∧ RdStory W W.heap.size (.slice a1 len1 cap1) qs := by
    obtain ⟨fuel, hf⟩ := h1
    exact open_story Tryd.underlying22 Tryd.underlying51 (by kernel_rfl) rfl rfl (by kernel_rfl) (by kernel_rfl) Tryd.underlying3 Tryd.underlying23 Tryd.underlying61 (by kernel_rfl) rfl rfl (by kernel_rfl) (by kernel_rfl) Tryd.underlying3 Tryd.underlying3 hf
  obtain ⟨a2, len2, cap2, rfl⟩ := okWide_slice Tryd.underlying23 (hval 2 23 v2 rfl rfl)
  have k2 := h2
  have lt2 : ∀ x ∈ p2, x.block < W.heap.size := by obtain ⟨m, hm⟩ := k2; exact DataW.trod_lt m _ _ _ hm
  obtain ⟨z2, w2⟩ : ∃ zs, IsMarks W a2 len2 cap2 zs := by
    obtain ⟨fuel, hf⟩ := h2
    exact open_marks Tryd.underlying23 Tryd.underlying61 (by kernel_rfl) rfl rfl (by kernel_rfl) (by kernel_rfl) Tryd.underlying3 Tryd.underlying3 hf
  have k3 := h3
  have lt3 : ∀ x ∈ p3, x.block < W.heap.size := by obtain ⟨m, hm⟩ := k3; exact DataW.trod_lt m _ _ _ hm
  obtain ⟨c3, a3, z3, rfl, wi3, w3⟩ := open_proof Tryd.underlying26 (by kernel_rfl) (by kernel_rfl) Tryd.underlying3 Tryd.underlying24 Tryd.underlying87 (by kernel_rfl) rfl rfl rfl (by kernel_rfl) (by kernel_rfl) (by kernel_rfl) Tryd.underlying3 Tryd.underlying3 Tryd.underlying3 (hval 3 26 v3 rfl rfl) h3
  clear hA0 hval0
  refine (walk a0 _ _ _ _ _ _ _ W w0 w1 (RdMarks.of_row w2) wi3 w3).mono fun e W' ⟨he, bel⟩ => ?_
  subst he
  exact ⟨_, rfl, _, _, _, [], _, [], hW', trodAll_mk1 (shut_bool Tryd.underlying4 _), (trodAll_cons_mk (shut_int Tryd.underlying3 w0) (trodAll_cons_mk (Below.trod Tryd.laidOut (by kernel_rfl) (of_decide_eq_true (by kernel_rfl)) k1 bel lt1) (trodAll_cons_mk (Below.trod Tryd.laidOut (by kernel_rfl) (of_decide_eq_true (by kernel_rfl)) k2 bel lt2) (trodAll_cons_mk (Below.trod Tryd.laidOut (by kernel_rfl) (of_decide_eq_true (by kernel_rfl)) k3 bel lt3) trodAll_mk0)))), rfl, bel.frame _, fun h => by cases h⟩

theorem closed : joinedFacts Tryd.pinned.checked.prog 3 Tryd.f3 Rows.fnExactProofTextSpec Rows.fnExactProofTextRow = true := by
  unfold joinedFacts
  exact (and_tt (and_tt (and_tt (and_tt (and_tt (and_tt (and_tt (and_tt (and_tt (and_tt (and_tt (and_tt (and_tt (and_tt (and_tt (and_tt (and_tt (and_tt (and_tt (and_tt (and_tt (and_tt (and_tt (and_tt (and_tt (and_tt (and_tt (and_tt (and_tt (and_tt (and_tt (by kernel_rfl) (by kernel_rfl)) (by kernel_rfl)) (by kernel_rfl)) (by kernel_rfl)) (by kernel_rfl)) (by kernel_rfl)) (by kernel_rfl)) (by kernel_rfl)) (by kernel_rfl)) (by kernel_rfl)) (by kernel_rfl)) (by kernel_rfl)) (by kernel_rfl)) (by kernel_rfl)) (by kernel_rfl)) (by kernel_rfl)) (by kernel_rfl)) (by kernel_rfl)) (by kernel_rfl)) (by kernel_rfl)) (by kernel_rfl)) (by kernel_rfl)) (by kernel_rfl)) (by kernel_rfl)) Tryd.mayEnter0) (lifted_tt Tryd.lifts0 rfl)) (make_tt Tryd.make0 rfl)) (by kernel_rfl)) (by kernel_rfl)) (by kernel_rfl)) (by kernel_rfl))
theorem over : Rows.fnExactProofTextRow.holds Tryd.pinned (OpenSpec.ofChange Rows.fnExactProofTextSpec) :=
  OpenClaim.holds_of_wide 3 Tryd.f3 rfl rfl rfl rfl rfl rfl rfl ⟨rfl, rfl, rfl, rfl, rfl⟩ rfl rfl rfl rfl rfl (by kernel_rfl) Tryd.func3 closed
    (of_decide_eq_true (by kernel_rfl)) (by unfold Func.isWrapper; first | (rw [if_pos (by decide +kernel)]; kernel_rfl) | (rw [if_neg (by decide +kernel)]; exact ⟨rfl, rfl⟩))
    (fun os started H enc _ => lifted os started H enc)

theorem proved : Rows.FnExactProofTextCardSaid :=
  Claim7.holds_tied_plain_at .later [] [.data, .data, .data] true Rows.fnExactProofTextCard.stood.harness false
    over (fun _ h => by cases h) (by kernel_rfl) (fun _ h => by cases h) fnExactProofText_row_tie rfl ⟨rfl, rfl⟩ (by kernel_rfl) rfl
    (fun f fn hf hfn => by
      obtain rfl : f = 3 := Option.some.inj ((show Tryd.prog.funcNamed "loop.example/tellersandliars/laws.FnExactProofText" = some 3 by kernel_rfl).symm.trans hf) |>.symm
      obtain rfl : fn = Tryd.f3 := (Option.some.inj (Tryd.func3.symm.trans hfn)).symm
      exact ⟨by kernel_rfl, fun j t ht => by
        rw [Tryd.params3] at ht
        have h3 : t = 3 ∨ t = 22 ∨ t = 23 ∨ t = 26 := by
          rcases j with _ | _ | _ | _ | j
          · left; simpa using ht.symm
          · right; left; simpa using ht.symm
          · right; right; left; simpa using ht.symm
          · right; right; right; simpa using ht.symm
          · simp at ht
        rcases h3 with rfl | rfl | rfl | rfl
        · exact (show Tryd.prog.wantsStandIn 3 = false by kernel_rfl)
        · exact (show Tryd.prog.wantsStandIn 22 = false by kernel_rfl)
        · exact (show Tryd.prog.wantsStandIn 23 = false by kernel_rfl)
        · exact (show Tryd.prog.wantsStandIn 26 = false by kernel_rfl)⟩)
    (by kernel_rfl)
end Go.Proofs.YtefmoljipbbmmaaDoor.fnExactProofText
