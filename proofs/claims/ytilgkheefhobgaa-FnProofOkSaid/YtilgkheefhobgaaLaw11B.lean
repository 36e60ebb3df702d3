/- A law of stage 11: what is proved follows, and further claims do not harm it. It answers true, whatever the code. No condition. -/
import Derived.Test.YtilgkheefhobgaaDrawPu
import Derived.Test.YtilgkheefhobgaaMerged34
import Derived.Test.YtilgkheefhobgaaMerged27
import Derived.Test.YtilgkheefhobgaaMerged10
import Derived.Deep.RegionHeld3
import Derived.Deep.Cut
import Derived.Test.YtilgkheefhobgaaOneU
namespace Go.Proofs.Ytilgkheefhobgaa
open Go.RowKit Go.Joins
theorem below_gB {B : Nat} {w w1 w2 : World} {row : Option Nat} (h : Below B w w1) (hg : w1.grownBy w2 row) (hB : B ≤ w1.heap.size) (hr : ∀ k, row = some k → B ≤ k) : Below B w w2 :=
  h.trans ⟨hg.os, hg.tape, hg.output, hg.size, fun i hi => hg.block i (by omega) (fun e => by have := hr i e.symm; omega)⟩
theorem StoryMore11 (p : Int) (qs : List QC) (q : QC) (B : Nat) (v : Value) (w : World) (hr : RdStory w B v (qs ++ [q])) (hB : B ≤ w.heap.size) :
    Calls Try.prog 10 #[.int .i64 p, v] w fun e w' => e = .returned (.bool (storyOk p (qs.map (·.2) ++ [q.2]))) ∧ Below w.heap.size w w' := by
  have h := specStoryOk p _ B v w hr hB
  rw [map_more] at h
  exact h
theorem ProofMore11 (p fi : Int) (qs : List QC) (q : QC) (ms : List (Int × Int)) (sp : List Sp3) (B : Nat) (v u pv : Value) (w : World) (hr : RdStory w B v (qs ++ [q])) (hr' : RdMarks w B u ms) (hp : RdSplits w B pv sp) (hB : B ≤ w.heap.size) (h64 : I64 fi) :
    Calls Try.prog 16 #[.int .i64 p, v, u, .agg #[.int .i64 fi, pv]] w fun e w' => e = .returned (.bool (provesF p (qs.map (·.2) ++ [q.2]) ms sp fi)) ∧ Below w.heap.size w w' := by
  have h := implProofOk p fi _ ms sp B v u pv w hr hr' hp hB h64
  rw [map_more] at h
  exact h
end Go.Proofs.Ytilgkheefhobgaa
namespace Go.Proofs.Ytilgkheefhobgaa.fnProofOk
open Go.ChangeShapes Go.WideShapes Go.ChangeAt Go.RowKit Go.Joins
attribute [local irreducible] holds tabN tabV holdsV sameV followsV alwaysV matterV mirV mirOk mcells tmOf claimOk mayT mayV ctabV ctabN storyV storyOk storyN storyT ctermV ctermL denyV denyOk ccells clashV followsF provesF findF foundS foundG tbF readF textF nats8 scells
open Go.ChangeMaps (open_string shut_string)
set_option linter.unusedVariables false
set_option maxRecDepth 100000 in
set_option maxHeartbeats 8000000 in
theorem walk (a0 : Value) (n0 : Nat) (w : World) (w0 : RdBytes w w.heap.size a0 n0) :
    Calls Try.prog 4 #[a0] w fun e w' => e = .returned (.bool true) ∧ Below w.heap.size w w' := by
  have hr := w0
  by_cases hbig : n0 ≤ 1048576
  case neg =>
    obtain ⟨ao, cap, rfl, hl, hm, hc⟩ := w0
    have hbig' := code_big hbig
    unfold maxLen at hm
    clear hc hr hbig
    go_enter Try.func4, Try.ntmps4
    go_wp2
    go_ret
    exact ⟨rfl, Below.refl _ _⟩
  have hbig' : (n0 : Int) ≤ 1048576 := by omega
  clear hbig
  obtain ⟨ao, cap, rfl, hl, hm, hc⟩ := w0
  have Hr := Lib.hid hr
  clear hc hr hl hm
  go_enter Try.func4, Try.ntmps4
  go_wp2_with fail
  refine (drawProofOk _ _ _ Hr.out).mono ?_
  rintro e w1 ⟨p, v, qs, g, cap, ms, fi, pv, sp, hp1, hp4, rfl, hst, hqs, hq7, hown, hi, hn, hpo, hs64, hl16, hfi, hB1⟩
  have HS1 := Lib.hid hst.rd
  have HM1 := Lib.hid (RdMarks.of_own hown hi)
  have HP1 := Lib.hid (RdSplits.of_own hpo hs64)
  obtain ⟨qo, qcap, rfl⟩ := own_len hst.1
  obtain ⟨po, pcap, rfl⟩ := own_len hpo
  clear hst hown hi hpo
  obtain ⟨w2, hw2, xP, yP, hb2, hs2⟩ := new_two w1 (.int .i64 fi) (.slice po sp.length pcap) 34
  have hs12 := hb2.size
  have HS2 := Lib.hid ((HS1.out.below (w' := w2) hb2.block).mono hb2.size)
  have HM2 := Lib.hid ((HM1.out.below (w' := w2) hb2.block).mono hb2.size)
  have HP2 := Lib.hid ((HP1.out.below (w' := w2) hb2.block).mono hb2.size)
  have hB2 : Below w.heap.size w w2 := hB1.trans (hb2.mono hB1.size)
  have hszP : w1.heap.size < w2.heap.size := hs2
  clear hb2 hs2
  obtain ⟨ic, hci, hcz0, hcz1, hcz2⟩ := info_parts Try.infoC
  have Ci := Lib.hid hci; clear hci
  have Cz0 := Lib.hid hcz0; clear hcz0
  have Cz1 := Lib.hid hcz1; clear hcz1
  have Cz2 := Lib.hid hcz2; clear hcz2
  have hpr := fun B u u2 pv W h h2 h3 h4 => implProofOk p fi qs ms sp B u u2 pv W h h2 h3 h4 hfi
  have hps := fun B u u2 pv W h h2 h3 h4 => specProofOk p fi qs ms sp B u u2 pv W h h2 h3 h4
  have hfo := fun B u u2 W h h2 h3 => implFollowsFrom p qs ms B u u2 W h h2 h3
  have HFI := Lib.hid hfi
  clear hs64 hl16 hfi
  cases hp : provesF p (qs.map (·.2)) ms sp fi with
  | false =>
    rw [hp] at hpr hps
    have Hpr := Lib.hid hpr
    have Hps := Lib.hid hps
    clear hpr hps hfo hp
    go_upto_region 4 with fail
    rw [← hw2]
    clear hw2
    go_wp2_with fail
    refine (Hpr.out _ _ _ _ _ HS2.out HM2.out HP2.out (Nat.le_refl _)).mono ?_
    rintro e w3 ⟨rfl, hb3⟩
    have hs23 := hb3.size
    have HS3 := Lib.hid ((HS2.out.below (w' := w3) hb3.block).mono hb3.size)
    have HM3 := Lib.hid ((HM2.out.below (w' := w3) hb3.block).mono hb3.size)
    have HP3 := Lib.hid ((HP2.out.below (w' := w3) hb3.block).mono hb3.size)
    have hB3 : Below w.heap.size w w3 := hB2.trans (hb3.mono hB2.size)
    have xP' := (hb3.cell (p := ⟨w1.heap.size, 0, none⟩) (by show w1.heap.size < w2.heap.size; omega)).trans xP
    have yP' := (hb3.cell (p := ⟨w1.heap.size, 1, none⟩) (by show w1.heap.size < w2.heap.size; omega)).trans yP
    clear xP yP
    have xP := xP'
    have yP := yP'
    clear xP' yP'
    clear hb3
    go_wp2_with fail
    refine (Hps.out _ _ _ _ _ HS3.out HM3.out HP3.out (Nat.le_refl _)).mono ?_
    rintro e w4 ⟨rfl, hb4⟩
    have hs34 := hb4.size
    have HS4 := Lib.hid ((HS3.out.below (w' := w4) hb4.block).mono hb4.size)
    have HM4 := Lib.hid ((HM3.out.below (w' := w4) hb4.block).mono hb4.size)
    have HP4 := Lib.hid ((HP3.out.below (w' := w4) hb4.block).mono hb4.size)
    have hB4 : Below w.heap.size w w4 := hB3.trans (hb4.mono hB3.size)
    have xP' := (hb4.cell (p := ⟨w1.heap.size, 0, none⟩) (by show w1.heap.size < w3.heap.size; omega)).trans xP
    have yP' := (hb4.cell (p := ⟨w1.heap.size, 1, none⟩) (by show w1.heap.size < w3.heap.size; omega)).trans yP
    clear xP yP
    have xP := xP'
    have yP := yP'
    clear xP' yP'
    clear hb4
    go_wp2_with fail
    refine (alive _).mono ?_
    rintro e w' ⟨rfl, rfl⟩
    go_wp2
    go_ret
    exact ⟨rfl, hB4⟩
  | true =>
  have hsok := (provesF_iff.1 hp).1
  rw [proves_follows hp] at hfo
  rw [hp] at hpr hps
  have Hpr := Lib.hid hpr
  have Hps := Lib.hid hps
  have Hfo := Lib.hid hfo
  clear hpr hps hfo
  go_upto_region 4 with fail
  rw [← hw2]
  clear hw2
  go_wp2_with fail
  refine (Hpr.out _ _ _ _ _ HS2.out HM2.out HP2.out (Nat.le_refl _)).mono ?_
  rintro e w3 ⟨rfl, hb3⟩
  have hs23 := hb3.size
  have HS3 := Lib.hid ((HS2.out.below (w' := w3) hb3.block).mono hb3.size)
  have HM3 := Lib.hid ((HM2.out.below (w' := w3) hb3.block).mono hb3.size)
  have HP3 := Lib.hid ((HP2.out.below (w' := w3) hb3.block).mono hb3.size)
  have hB3 : Below w.heap.size w w3 := hB2.trans (hb3.mono hB2.size)
  have xP' := (hb3.cell (p := ⟨w1.heap.size, 0, none⟩) (by show w1.heap.size < w2.heap.size; omega)).trans xP
  have yP' := (hb3.cell (p := ⟨w1.heap.size, 1, none⟩) (by show w1.heap.size < w2.heap.size; omega)).trans yP
  clear xP yP
  have xP := xP'
  have yP := yP'
  clear xP' yP'
  clear hb3
  go_wp2_with fail
  refine (Hps.out _ _ _ _ _ HS3.out HM3.out HP3.out (Nat.le_refl _)).mono ?_
  rintro e w4 ⟨rfl, hb4⟩
  have hs34 := hb4.size
  have HS4 := Lib.hid ((HS3.out.below (w' := w4) hb4.block).mono hb4.size)
  have HM4 := Lib.hid ((HM3.out.below (w' := w4) hb4.block).mono hb4.size)
  have HP4 := Lib.hid ((HP3.out.below (w' := w4) hb4.block).mono hb4.size)
  have hB4 : Below w.heap.size w w4 := hB3.trans (hb4.mono hB3.size)
  have xP' := (hb4.cell (p := ⟨w1.heap.size, 0, none⟩) (by show w1.heap.size < w3.heap.size; omega)).trans xP
  have yP' := (hb4.cell (p := ⟨w1.heap.size, 1, none⟩) (by show w1.heap.size < w3.heap.size; omega)).trans yP
  clear xP yP
  have xP := xP'
  have yP := yP'
  clear xP' yP'
  clear hb4
  clear Hpr Hps
  have hown40 : (w4.alloc (.cells #[] TC)).ownsRow w4.heap.size TC 2 (.slice (some ⟨w4.heap.size, 0, none⟩) 0 0) 0 [] := World.ownsRow_made _ _ 0 (Nat.le_refl _) (by unfold maxLen; omega) rfl
  have hb40 : Below w4.heap.size w4 (w4.alloc (.cells #[] TC)) := (Below.refl _ _).alloc (Nat.le_refl _) _
  have Hq40 := Lib.hid (HS4.out.below (w' := w4.alloc (.cells #[] TC)) hb40.block)
  have Hown40 := Lib.hid hown40
  have Hb40 := Lib.hid hb40
  clear hown40 hb40
  by_cases h0 : qs.length = 0
  · have h0i : ¬ (0 : Int) < (qs.length : Int) := by omega
    have hq0 : qs = [] := List.eq_nil_of_length_eq_zero h0
    have hso2 := fun B u W h h2 => specStoryOk p [] B u W h h2
    have hpr2 := fun B u u2 pv W h h2 h3 h4 => implProofOk p fi [] ms sp B u u2 pv W h h2 h3 h4 HFI.out
    rw [show storyOk p (([] : List QC).map (·.2)) = true by rw [← hq0]; exact hsok] at hso2
    rw [show provesF p (([] : List QC).map (·.2)) ms sp fi = true by rw [← hq0]; exact hp] at hpr2
    have Hso2 := Lib.hid hso2
    have Hpr2 := Lib.hid hpr2
    have Hq0 := Lib.hid hq0
    clear hso2 hpr2 hq0 hp hsok h0
    go_wp2_with (first
      | (at_builtin; refine wpList_append_story rfl (.tmp 34) (.tmp 35) rfl Ci.out Cz0.out Cz1.out Cz2.out rfl rfl Hown40.out Hq40.out (by omega) (by simp) ?_
         go_must (intro v8 w8 hown8 hgr8 _
                  have hb8 := below_gB Hb40.out hgr8 (by simp) (fun q hq => (Hown40.out.lt q hq).1)
                  have HS8 : Hid (RdStory w8 w8.heap.size v8 []) := rdStory_own (by rw [Nat.zero_add, List.nil_append, Hq0.out] at hown8; exact hown8) rfl (fun q hq => by simp at hq)
                  have HO8 := Lib.hid ((HS4.out.below (w' := w8) hb8.block).mono hb8.size)
                  have HM8 := Lib.hid ((HM4.out.below (w' := w8) hb8.block).mono hb8.size)
                  have HP8 := Lib.hid ((HP4.out.below (w' := w8) hb8.block).mono hb8.size)
                  have hB8 : Below w.heap.size w w8 := hB4.trans (hb8.mono hB4.size)
                  have hs48 := hb8.size
                  have xP' := (hb8.cell (p := ⟨w1.heap.size, 0, none⟩) (by show w1.heap.size < w4.heap.size; omega)).trans xP
                  have yP' := (hb8.cell (p := ⟨w1.heap.size, 1, none⟩) (by show w1.heap.size < w4.heap.size; omega)).trans yP
                  clear xP yP
                  have xP := xP'
                  have yP := yP'
                  clear xP' yP'
                  clear hown8 hgr8 hb8))
      | fail)
    go_wp2_with fail
    refine (Hfo.out _ _ _ _ HO8.out HM8.out (Nat.le_refl _)).mono ?_
    rintro e w9 ⟨rfl, hb9⟩
    have hs89 := hb9.size
    have HS9 := Lib.hid ((HS8.out.below (w' := w9) hb9.block).mono hb9.size)
    have HM9 := Lib.hid ((HM8.out.below (w' := w9) hb9.block).mono hb9.size)
    have HP9 := Lib.hid ((HP8.out.below (w' := w9) hb9.block).mono hb9.size)
    have hB9 : Below w.heap.size w w9 := hB8.trans (hb9.mono hB8.size)
    have xP' := (hb9.cell (p := ⟨w1.heap.size, 0, none⟩) (by show w1.heap.size < w8.heap.size; omega)).trans xP
    have yP' := (hb9.cell (p := ⟨w1.heap.size, 1, none⟩) (by show w1.heap.size < w8.heap.size; omega)).trans yP
    clear xP yP
    have xP := xP'
    have yP := yP'
    clear xP' yP'
    clear hb9
    go_wp2_with fail
    refine (Hso2.out _ _ _ HS9.out (Nat.le_refl _)).mono ?_
    rintro e w10 ⟨rfl, hb10⟩
    have hs90 := hb10.size
    have HS10 := Lib.hid ((HS9.out.below (w' := w10) hb10.block).mono hb10.size)
    have HM10 := Lib.hid ((HM9.out.below (w' := w10) hb10.block).mono hb10.size)
    have HP10 := Lib.hid ((HP9.out.below (w' := w10) hb10.block).mono hb10.size)
    have hB10 : Below w.heap.size w w10 := hB9.trans (hb10.mono hB9.size)
    have xP' := (hb10.cell (p := ⟨w1.heap.size, 0, none⟩) (by show w1.heap.size < w9.heap.size; omega)).trans xP
    have yP' := (hb10.cell (p := ⟨w1.heap.size, 1, none⟩) (by show w1.heap.size < w9.heap.size; omega)).trans yP
    clear xP yP
    have xP := xP'
    have yP := yP'
    clear xP' yP'
    clear hb10
    go_wp2_with fail
    refine (Hpr2.out _ _ _ _ _ HS10.out HM10.out HP10.out (Nat.le_refl _)).mono ?_
    rintro e w11 ⟨rfl, hb11⟩
    have hB11 : Below w.heap.size w w11 := hB10.trans (hb11.mono hB10.size)
    clear hb11
    go_wp2
    go_ret
    exact ⟨rfl, hB11⟩
  · have h0i : (0 : Int) < (qs.length : Int) := by omega
    obtain ⟨ao', cap', hv', hal, ham, _, hac⟩ := HS4.out
    obtain ⟨b, off, hao, hb, hc1, hc2⟩ := hac 0 (by omega)
    have hvo : qo = some ⟨b, off, none⟩ := by
      injection hv' with hv1 hv2 hv3
      rw [hv1, hao]
    subst hvo
    have hz := HS4.out.get (j := 0) (by omega)
    have hso2 := StoryMore11 p qs (qs.getD 0 qc0)
    have hpr2 := fun B v u pv w hr hr' hp hB => ProofMore11 p fi qs (qs.getD 0 qc0) ms sp B v u pv w hr hr' hp hB HFI.out
    have hmore := proves_more (r := [(qs.getD 0 qc0).2]) hp
    have hcap : 0 < qs.length ∧ qs.length ≤ qcap := by
      injection hv' with _ _ h3
      omega
    clear hac hal ham hv' hao hp hsok
    rw [show off + 0 * 2 = off by omega] at hc1
    rw [show off + 0 * 2 + 1 = off + 1 by omega] at hc2
    generalize qs.getD 0 qc0 = c0 at *
    generalize storyOk p (qs.map (·.2) ++ [c0.2]) = o2 at *
    generalize provesF p (qs.map (·.2) ++ [c0.2]) ms sp fi = c2 at *
    obtain ⟨uc, kc, mc⟩ := c0
    dsimp only at hc1 hc2 hz
    have Hz := Lib.hid hz
    have hone : uc.oneCell' = true := by
      obtain ⟨a, c, hv, _⟩ := hz.1
      rw [hv]; rfl
    have Hso2 := Lib.hid hso2
    have Hpr2 := Lib.hid hpr2
    clear hz hso2 hpr2
    go_wp2_with (first
      | (at_builtin; refine wpList_append_story rfl (.tmp 34) (.tmp 35) rfl Ci.out Cz0.out Cz1.out Cz2.out rfl rfl Hown40.out Hq40.out (by omega) (by simp) ?_
         go_must (intro v7 w7 hown7 hgr7 _
                  have hb7 := below_gB Hb40.out hgr7 (by simp) (fun q hq => (Hown40.out.lt q hq).1)
                  have hs7 := hb7.size
                  rw [Nat.zero_add, List.nil_append] at hown7
                  have Hown7 := Lib.hid hown7
                  have Hb7 := Lib.hid hb7
                  have d1 := (hb7.cell (p := ⟨b, off, none⟩) hb).trans hc1
                  have d2 := (hb7.cell (p := ⟨b, off + 1, none⟩) hb).trans hc2
                  clear hown7 hgr7 hb7))
      | (at_builtin; refine wpList_append_own _ rfl (.tmp 40) (.tmp 44) 23 rfl w4.heap.size TC ic (.agg #[.int .i64 0, .slice none 0 0]) 2 32 Try.underlying23 Ci.out Cz0.out Cz1.out Cz2.out rfl (by decide) _ _ _ rfl (Hown7.out.alloc _) ⟨w7.heap.size, 0, none⟩ 1 1 (ccells [(uc, (kc, mc))]) rfl (by rw [ccells_length]; rfl) (newsC _ _ rfl _ _ _ _) (ccells_one (by simpa using hone)) (by unfold maxLen; omega) (by omega) (by simp; omega) ?_
         go_must (intro v8 w8 hown8 hgr8 _
                  have hb8 := below_gB (Hb7.out.alloc hs7 _) hgr8 (by simp; omega) (fun q hq => (Hown7.out.lt q hq).1)
                  have HS8 := Lib.hid (rdStory_more (q := (uc, (kc, mc))) HS4.out hb8 ⟨(Hz.out.1.below (w' := w8) hb8.block).mono hb8.size, Hz.out.2⟩ hown8)
                  have HO8 := Lib.hid ((HS4.out.below (w' := w8) hb8.block).mono hb8.size)
                  have HM8 := Lib.hid ((HM4.out.below (w' := w8) hb8.block).mono hb8.size)
                  have HP8 := Lib.hid ((HP4.out.below (w' := w8) hb8.block).mono hb8.size)
                  have hB8 : Below w.heap.size w w8 := hB4.trans (hb8.mono hB4.size)
                  have hs48 := hb8.size
                  have xP' := (hb8.cell (p := ⟨w1.heap.size, 0, none⟩) (by show w1.heap.size < w4.heap.size; omega)).trans xP
                  have yP' := (hb8.cell (p := ⟨w1.heap.size, 1, none⟩) (by show w1.heap.size < w4.heap.size; omega)).trans yP
                  clear xP yP
                  have xP := xP'
                  have yP := yP'
                  clear xP' yP'
                  clear hown8 hgr8 hb8))
      | fail)
    go_wp2_with fail
    refine (Hfo.out _ _ _ _ HO8.out HM8.out (Nat.le_refl _)).mono ?_
    rintro e w9 ⟨rfl, hb9⟩
    have hs89 := hb9.size
    have HS9 := Lib.hid ((HS8.out.below (w' := w9) hb9.block).mono hb9.size)
    have HM9 := Lib.hid ((HM8.out.below (w' := w9) hb9.block).mono hb9.size)
    have HP9 := Lib.hid ((HP8.out.below (w' := w9) hb9.block).mono hb9.size)
    have hB9 : Below w.heap.size w w9 := hB8.trans (hb9.mono hB8.size)
    have xP' := (hb9.cell (p := ⟨w1.heap.size, 0, none⟩) (by show w1.heap.size < w8.heap.size; omega)).trans xP
    have yP' := (hb9.cell (p := ⟨w1.heap.size, 1, none⟩) (by show w1.heap.size < w8.heap.size; omega)).trans yP
    clear xP yP
    have xP := xP'
    have yP := yP'
    clear xP' yP'
    clear hb9
    go_wp2_with fail
    refine (Hso2.out _ _ _ HS9.out (Nat.le_refl _)).mono ?_
    rintro e w10 ⟨rfl, hb10⟩
    have hs90 := hb10.size
    have HS10 := Lib.hid ((HS9.out.below (w' := w10) hb10.block).mono hb10.size)
    have HM10 := Lib.hid ((HM9.out.below (w' := w10) hb10.block).mono hb10.size)
    have HP10 := Lib.hid ((HP9.out.below (w' := w10) hb10.block).mono hb10.size)
    have hB10 : Below w.heap.size w w10 := hB9.trans (hb10.mono hB9.size)
    have xP' := (hb10.cell (p := ⟨w1.heap.size, 0, none⟩) (by show w1.heap.size < w9.heap.size; omega)).trans xP
    have yP' := (hb10.cell (p := ⟨w1.heap.size, 1, none⟩) (by show w1.heap.size < w9.heap.size; omega)).trans yP
    clear xP yP
    have xP := xP'
    have yP := yP'
    clear xP' yP'
    clear hb10
    cases o2 with
    | false =>
      go_wp2
      go_ret
      exact ⟨rfl, hB10⟩
    | true =>
      have hc2t := hmore rfl
      subst hc2t
      go_wp2_with fail
      refine (Hpr2.out _ _ _ _ _ HS10.out HM10.out HP10.out (Nat.le_refl _)).mono ?_
      rintro e w11 ⟨rfl, hb11⟩
      have hB11 : Below w.heap.size w w11 := hB10.trans (hb11.mono hB10.size)
      clear hb11
      go_wp2
      go_ret
      exact ⟨rfl, hB11⟩

set_option maxRecDepth 100000 in
theorem lifted (os : Os) (started : os.Started) (H : Type) (enc : TypeId × Value → H) :
    ReturnsInHanded {} Try.checked os 4 .any (Rows.fnProofOkSpec.pre6 enc Try.prog Try.f4 Rows.fnProofOkRow.domain false) (Rows.fnProofOkSpec.post enc Try.prog Try.f4 false true false false) := by
  refine returnsInHanded_of_change (C := Try.checked) Try.own started (by kernel_rfl) Try.func4
    (ChangeSpec.witness6 (enc := enc) (C := Try.checked) false ⟨#[], #[.slice none 0 0], []⟩ 8 (by kernel_rfl) (by kernel_rfl) (by kernel_rfl) (by kernel_rfl)) ?_
  intro W base args ds gs before hval0 hW hcnd _
  have hval : ∀ (j : Nat) t v, Try.f4.params[j]? = some t → args[j]? = some v → Value.okWide Try.prog W .any base t v := hval0
  have hW' := hW
  obtain ⟨p, q, hA0, hV, rfl, hfz, hnd⟩ := hW
  have hA : DataW.TrodAll enc Try.prog W 0 (fun _ => true) true Try.f4.params.toList args.toList ds p := hA0
  rw [Try.params4] at hA hval
  obtain ⟨v0, vs0, d0, ds0, p0, q0, hargs, rfl, rfl, h0, r0⟩ := trodAll_cons hA
  obtain ⟨rfl, rfl, rfl⟩ := trodAll_nil r0
  obtain rfl : args = #[v0] := by cases args; simp_all
  obtain ⟨rfl, rfl⟩ := trodVars_none hV
  obtain ⟨a0, len0, cap0, rfl⟩ := okWide_slice Try.underlying22 (hval 0 22 v0 rfl rfl)
  have k0 := h0
  have lt0 : ∀ x ∈ p0, x.block < W.heap.size := by obtain ⟨m, hm⟩ := k0; exact DataW.trod_lt m _ _ _ hm
  obtain ⟨z0, w0⟩ : ∃ zs, IsRow .u8 W a0 len0 cap0 zs := by
    obtain ⟨fuel, hf⟩ := h0
    rcases open_ints Try.underlying22 Try.underlying5 (by kernel_rfl) hf with ⟨hcs, _⟩ | ⟨x, l, c, zs, hcs, _, hl, hm, hz, _, hcell, hwz⟩
    · simp [Value.cells] at hcs
      obtain ⟨rfl, rfl, rfl⟩ := hcs
      exact ⟨[], .inl ⟨rfl, rfl, rfl, rfl⟩⟩
    · simp [Value.cells] at hcs
      obtain ⟨rfl, rfl, rfl⟩ := hcs
      exact ⟨zs, .inr ⟨_, rfl, hl, hm, by simpa using hz, hcell, hwz⟩⟩
  clear hA0 hval0
  refine (walk _ _ W (RdBytes.of_row w0)).mono fun e W' ⟨he, bel⟩ => ?_
  subst he
  exact ⟨_, rfl, _, _, _, [], _, [], hW', trodAll_mk1 (shut_bool Try.underlying4 _), (trodAll_cons_mk (Below.trod Try.laidOut (by kernel_rfl) (of_decide_eq_true (by kernel_rfl)) k0 bel lt0) trodAll_mk0), rfl, bel.frame _, fun h => by cases h⟩

theorem closed : joinedFacts Try.pinned.checked.prog 4 Try.f4 Rows.fnProofOkSpec Rows.fnProofOkRow = true := by
  unfold joinedFacts
  exact (and_tt (and_tt (and_tt (and_tt (and_tt (and_tt (and_tt (and_tt (and_tt (and_tt (and_tt (and_tt (and_tt (and_tt (and_tt (and_tt (and_tt (and_tt (and_tt (and_tt (and_tt (and_tt (and_tt (and_tt (and_tt (and_tt (and_tt (and_tt (and_tt (and_tt (and_tt (by kernel_rfl) (by kernel_rfl)) (by kernel_rfl)) (by kernel_rfl)) (by kernel_rfl)) (by kernel_rfl)) (by kernel_rfl)) (by kernel_rfl)) (by kernel_rfl)) (by kernel_rfl)) (by kernel_rfl)) (by kernel_rfl)) (by kernel_rfl)) (by kernel_rfl)) (by kernel_rfl)) (by kernel_rfl)) (by kernel_rfl)) (by kernel_rfl)) (by kernel_rfl)) (by kernel_rfl)) (by kernel_rfl)) (by kernel_rfl)) (by kernel_rfl)) (by kernel_rfl)) (by kernel_rfl)) Try.mayEnter0) (lifted_tt Try.lifts0 rfl)) (make_tt Try.make0 rfl)) (by kernel_rfl)) (by kernel_rfl)) (by kernel_rfl)) (by kernel_rfl))
theorem over : Rows.fnProofOkRow.holds Try.pinned (OpenSpec.ofChange Rows.fnProofOkSpec) :=
  OpenClaim.holds_of_wide 4 Try.f4 rfl rfl rfl rfl rfl rfl rfl ⟨rfl, rfl, rfl, rfl, rfl⟩ rfl rfl rfl rfl rfl (by kernel_rfl) Try.func4 closed
    (of_decide_eq_true (by kernel_rfl)) (by unfold Func.isWrapper; first | (rw [if_pos (by decide +kernel)]; kernel_rfl) | (rw [if_neg (by decide +kernel)]; exact ⟨rfl, rfl⟩))
    (fun os started H enc _ => lifted os started H enc)

theorem proved : Rows.FnProofOkSaid := over
end Go.Proofs.Ytilgkheefhobgaa.fnProofOk

