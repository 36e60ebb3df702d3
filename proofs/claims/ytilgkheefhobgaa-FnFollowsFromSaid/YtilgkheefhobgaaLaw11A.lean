/- A law of stage 11: what follows from a story follows from longer ones. It answers true, whatever the code. No condition. -/
import Derived.Test.YtilgkheefhobgaaDrawPu
import Derived.Test.YtilgkheefhobgaaMerged34
import Derived.Test.YtilgkheefhobgaaMerged27
import Derived.Test.YtilgkheefhobgaaMerged10
import Derived.Deep.RegionHeld3
import Derived.Deep.Cut
import Derived.Test.YtilgkheefhobgaaOneU
import Derived.Test.YtilgkheefhobgaaOneI
import Derived.Test.YtilgkheefhobgaaTruthI
namespace Go.Proofs.Ytilgkheefhobgaa
open Go.RowKit Go.Joins
theorem below_gA {B : Nat} {w w1 w2 : World} {row : Option Nat} (h : Below B w w1) (hg : w1.grownBy w2 row) (hB : B ≤ w1.heap.size) (hr : ∀ k, row = some k → B ≤ k) : Below B w w2 :=
  h.trans ⟨hg.os, hg.tape, hg.output, hg.size, fun i hi => hg.block i (by omega) (fun e => by have := hr i e.symm; omega)⟩
theorem foll_less {p : Int} {qs : List QC} {ms : List (Int × Int)} (m : Nat) (h : followsF p ((qs.take m).map (·.2)) ms = true) (hs : storyOk p (qs.map (·.2)) = true) : followsF p (qs.map (·.2)) ms = true := by
  have e : qs.map (·.2) = (qs.take m).map (·.2) ++ (qs.drop m).map (·.2) := by rw [← List.map_append, List.take_append_drop]
  rw [e] at hs ⊢
  exact follows_more h hs
theorem rdStory_nil11 (W : World) (B : Nat) (a : Option Addr) : RdStory W B (.slice a 0 0) [] :=
  ⟨a, 0, rfl, Nat.le_refl _, by unfold maxLen; omega, fun q hq => by simp at hq, fun j hj => by simp at hj⟩
theorem foll_empty (p : Int) (ms : List (Int × Int)) (ht : termOk p ms = true) (B : Nat) (u : Value) (w : World) (a : Option Addr) (hr : RdMarks w B u ms) (hB : B ≤ w.heap.size) :
    Calls Try.prog 8 #[.int .i64 p, .slice a 0 0, u] w fun e w' => e = .returned (.bool (alwaysV p ms)) ∧ Below w.heap.size w w' := by
  have h := implFollowsFrom p [] ms B (.slice a 0 0) u w (rdStory_nil11 w B a) hr hB
  rw [List.map_nil, follows_nil ht] at h
  exact h
theorem rdStory_take11 {w : World} {B n cap m : Nat} {ao : Option Addr} {qs : List QC} (h : RdStory w B (.slice ao n cap) qs) (hm : m ≤ qs.length) : RdStory w B (.slice ao m cap) (qs.take m) := by
  obtain ⟨ao', cap', hv, hl, hmx, hi, hc⟩ := h
  cases hv
  have e : (qs.take m).length = m := by simp; omega
  refine ⟨ao, cap, by rw [e], by omega, hmx, fun q hq => hi q (List.mem_of_mem_take hq), fun j hj => ?_⟩
  rw [e] at hj
  obtain ⟨b, off, ha, hb, h1, h2⟩ := hc j (by omega)
  have eg : (qs.take m).getD j qc0 = qs.getD j qc0 := by simp [List.getD_eq_getElem?_getD, hj]
  rw [eg]
  exact ⟨b, off, ha, hb, h1, h2⟩
end Go.Proofs.Ytilgkheefhobgaa
namespace Go.Proofs.Ytilgkheefhobgaa.fnFollowsFrom
open Go.ChangeShapes Go.WideShapes Go.ChangeAt Go.RowKit Go.Joins
attribute [local irreducible] holds tabN tabV holdsV sameV followsV alwaysV matterV mirV mirOk mcells tmOf claimOk mayT mayV ctabV ctabN storyV storyOk storyN storyT ctermV ctermL denyV denyOk ccells clashV followsF provesF findF foundS foundG tbF readF textF nats8 scells
open Go.ChangeMaps (open_string shut_string)
set_option linter.unusedVariables false
set_option maxRecDepth 100000 in
set_option maxHeartbeats 8000000 in
theorem walk (a0 : Value) (n0 : Nat) (w : World) (w0 : RdBytes w w.heap.size a0 n0) :
    Calls Try.prog 3 #[a0] w fun e w' => e = .returned (.bool true) ∧ Below w.heap.size w w' := by
  have hr := w0
  by_cases hbig : n0 ≤ 1048576
  case neg =>
    obtain ⟨ao, cap, rfl, hl, hm, hc⟩ := w0
    have hbig' := code_big hbig
    unfold maxLen at hm
    clear hc hr hbig
    go_enter Try.func3, Try.ntmps3
    go_wp2
    go_ret
    exact ⟨rfl, Below.refl _ _⟩
  have hbig' : (n0 : Int) ≤ 1048576 := by omega
  clear hbig
  obtain ⟨ao, cap, rfl, hl, hm, hc⟩ := w0
  have Hr := Lib.hid hr
  clear hc hr hl hm
  go_enter Try.func3, Try.ntmps3
  go_wp2_with fail
  refine (drawFollowsFrom _ _ _ Hr.out).mono ?_
  rintro e w1 ⟨p, v, qs, g, cap, ms, hp1, hp4, rfl, hst, hqs, hq7, hown, hi, hn, hB1⟩
  have HS1 := Lib.hid hst.rd
  have HM1 := Lib.hid (RdMarks.of_own hown hi)
  obtain ⟨qo, qcap, rfl⟩ := own_len hst.1
  clear hst hown hi
  have hvc : qs.length ≤ qcap ∧ qcap ≤ maxLen := by
    obtain ⟨_, _, hv', h1, h2, _⟩ := HS1.out
    injection hv' with _ _ h3
    omega
  unfold maxLen at hvc
  obtain ⟨ic, hci, hcz0, hcz1, hcz2⟩ := info_parts Try.infoC
  have Ci := Lib.hid hci; clear hci
  have Cz0 := Lib.hid hcz0; clear hcz0
  have Cz1 := Lib.hid hcz1; clear hcz1
  have Cz2 := Lib.hid hcz2; clear hcz2
  have hfo := fun B u u2 W h h2 h3 => implFollowsFrom p qs ms B u u2 W h h2 h3
  have hfs := fun B u u2 W h h2 h3 => specFollowsFrom p qs ms B B u u2 W h h2 h3 h3
  have hso := fun B u W h h2 => specStoryOk p qs B u W h h2
  have hto := fun B u W h => specTermOk p ms B u W h
  have hal := fun B u W h h2 => implAlwaysOk p ms B u W h h2
  have hcl := fun B u W h h2 => implClashOk p qs B u W h h2
  cases hsok : storyOk p (qs.map (·.2)) with
  | false =>
    have htok := 0
    rw [followsF_no1 hsok] at hfo hfs
    rw [hsok] at hso
    have Hfo := Lib.hid hfo
    have Hfs := Lib.hid hfs
    have Hso := Lib.hid hso
    have Hto := Lib.hid hto
    clear hfo hfs hso hto hsok htok hal hcl
    go_wp2_with fail
    refine (Hfo.out _ _ _ _ HS1.out HM1.out (Nat.le_refl _)).mono ?_
    rintro e w2 ⟨rfl, hb2⟩
    have HS2 := Lib.hid ((HS1.out.below (w' := w2) hb2.block).mono hb2.size)
    have HM2 := Lib.hid ((HM1.out.below (w' := w2) hb2.block).mono hb2.size)
    have hB2 : Below w.heap.size w w2 := hB1.trans (hb2.mono hB1.size)
    clear hb2
    go_wp2_with fail
    refine (Hfs.out _ _ _ _ HS2.out HM2.out (Nat.le_refl _)).mono ?_
    rintro e w3 ⟨rfl, hb3⟩
    have HS3 := Lib.hid ((HS2.out.below (w' := w3) hb3.block).mono hb3.size)
    have HM3 := Lib.hid ((HM2.out.below (w' := w3) hb3.block).mono hb3.size)
    have hB3 : Below w.heap.size w w3 := hB2.trans (hb3.mono hB2.size)
    clear hb3
    go_wp2_with fail
    refine (Hso.out _ _ _ HS3.out (Nat.le_refl _)).mono ?_
    rintro e w4 ⟨rfl, hb4⟩
    have HS4 := Lib.hid ((HS3.out.below (w' := w4) hb4.block).mono hb4.size)
    have HM4 := Lib.hid ((HM3.out.below (w' := w4) hb4.block).mono hb4.size)
    have hB4 : Below w.heap.size w w4 := hB3.trans (hb4.mono hB3.size)
    clear hb4
    go_wp2_with fail
    refine (alive _).mono ?_
    rintro e w' ⟨rfl, rfl⟩
    go_wp2
    go_ret
    exact ⟨rfl, hB4⟩
  | true =>
  cases htok : termOk p ms with
  | false =>
    rw [followsF_no2 htok] at hfo hfs
    rw [hsok] at hso
    rw [htok] at hto
    have Hfo := Lib.hid hfo
    have Hfs := Lib.hid hfs
    have Hso := Lib.hid hso
    have Hto := Lib.hid hto
    clear hfo hfs hso hto hsok htok hal hcl
    go_wp2_with fail
    refine (Hfo.out _ _ _ _ HS1.out HM1.out (Nat.le_refl _)).mono ?_
    rintro e w2 ⟨rfl, hb2⟩
    have HS2 := Lib.hid ((HS1.out.below (w' := w2) hb2.block).mono hb2.size)
    have HM2 := Lib.hid ((HM1.out.below (w' := w2) hb2.block).mono hb2.size)
    have hB2 : Below w.heap.size w w2 := hB1.trans (hb2.mono hB1.size)
    clear hb2
    go_wp2_with fail
    refine (Hfs.out _ _ _ _ HS2.out HM2.out (Nat.le_refl _)).mono ?_
    rintro e w3 ⟨rfl, hb3⟩
    have HS3 := Lib.hid ((HS2.out.below (w' := w3) hb3.block).mono hb3.size)
    have HM3 := Lib.hid ((HM2.out.below (w' := w3) hb3.block).mono hb3.size)
    have hB3 : Below w.heap.size w w3 := hB2.trans (hb3.mono hB2.size)
    clear hb3
    go_wp2_with fail
    refine (Hso.out _ _ _ HS3.out (Nat.le_refl _)).mono ?_
    rintro e w4 ⟨rfl, hb4⟩
    have HS4 := Lib.hid ((HS3.out.below (w' := w4) hb4.block).mono hb4.size)
    have HM4 := Lib.hid ((HM3.out.below (w' := w4) hb4.block).mono hb4.size)
    have hB4 : Below w.heap.size w w4 := hB3.trans (hb4.mono hB3.size)
    clear hb4
    go_wp2_with fail
    refine (Hto.out _ _ _ HM4.out).mono ?_
    rintro e w5 ⟨rfl, hw5⟩
    have hb5 : Below w4.heap.size w4 w5 := by rw [← hw5]; exact Below.refl _ _
    clear hw5
    have HS5 := Lib.hid ((HS4.out.below (w' := w5) hb5.block).mono hb5.size)
    have HM5 := Lib.hid ((HM4.out.below (w' := w5) hb5.block).mono hb5.size)
    have hB5 : Below w.heap.size w w5 := hB4.trans (hb5.mono hB4.size)
    clear hb5
    go_wp2_with fail
    refine (alive _).mono ?_
    rintro e w' ⟨rfl, rfl⟩
    go_wp2
    go_ret
    exact ⟨rfl, hB5⟩
  | true =>
  rw [hsok] at hso
  rw [htok] at hto
  have hnil := foll_empty p ms htok
  have hclo := fun h => clash_follows (p := p) (s := qs.map (·.2)) (ms := ms) hsok htok h
  generalize clashV p (qs.map (·.2)) = cl at *
  generalize alwaysV p ms = al at *
  cases ho : followsF p (qs.map (·.2)) ms with
  | false =>
    rw [ho] at hfo hfs hclo
    obtain rfl : cl = false := by cases cl with | false => rfl | true => exact absurd (hclo rfl) (by decide)
    have Hfo := Lib.hid hfo
    have Hfs := Lib.hid hfs
    have Hso := Lib.hid hso
    have Hto := Lib.hid hto
    have Hal := Lib.hid hal
    have Hcl := Lib.hid hcl
    have Hnil := Lib.hid hnil
    clear hfo hfs hso hto hal hcl hnil hclo
    go_wp2_with fail
    refine (Hfo.out _ _ _ _ HS1.out HM1.out (Nat.le_refl _)).mono ?_
    rintro e w2 ⟨rfl, hb2⟩
    have HS2 := Lib.hid ((HS1.out.below (w' := w2) hb2.block).mono hb2.size)
    have HM2 := Lib.hid ((HM1.out.below (w' := w2) hb2.block).mono hb2.size)
    have hB2 : Below w.heap.size w w2 := hB1.trans (hb2.mono hB1.size)
    clear hb2
    go_wp2_with fail
    refine (Hfs.out _ _ _ _ HS2.out HM2.out (Nat.le_refl _)).mono ?_
    rintro e w3 ⟨rfl, hb3⟩
    have HS3 := Lib.hid ((HS2.out.below (w' := w3) hb3.block).mono hb3.size)
    have HM3 := Lib.hid ((HM2.out.below (w' := w3) hb3.block).mono hb3.size)
    have hB3 : Below w.heap.size w w3 := hB2.trans (hb3.mono hB2.size)
    clear hb3
    go_wp2_with fail
    refine (Hso.out _ _ _ HS3.out (Nat.le_refl _)).mono ?_
    rintro e w4 ⟨rfl, hb4⟩
    have HS4 := Lib.hid ((HS3.out.below (w' := w4) hb4.block).mono hb4.size)
    have HM4 := Lib.hid ((HM3.out.below (w' := w4) hb4.block).mono hb4.size)
    have hB4 : Below w.heap.size w w4 := hB3.trans (hb4.mono hB3.size)
    clear hb4
    go_wp2_with fail
    refine (Hto.out _ _ _ HM4.out).mono ?_
    rintro e w5 ⟨rfl, hw5⟩
    have hb5 : Below w4.heap.size w4 w5 := by rw [← hw5]; exact Below.refl _ _
    clear hw5
    have HS5 := Lib.hid ((HS4.out.below (w' := w5) hb5.block).mono hb5.size)
    have HM5 := Lib.hid ((HM4.out.below (w' := w5) hb5.block).mono hb5.size)
    have hB5 : Below w.heap.size w w5 := hB4.trans (hb5.mono hB4.size)
    clear hb5
    have hown50 : (w5.alloc (.cells #[] TC)).ownsRow w5.heap.size TC 2 (.slice (some ⟨w5.heap.size, 0, none⟩) 0 0) 0 [] := World.ownsRow_made _ _ 0 (Nat.le_refl _) (by unfold maxLen; omega) rfl
    have hb50 : Below w5.heap.size w5 (w5.alloc (.cells #[] TC)) := (Below.refl _ _).alloc (Nat.le_refl _) _
    have Hq50 := Lib.hid (HS5.out.below (w' := w5.alloc (.cells #[] TC)) hb50.block)
    have Hown50 := Lib.hid hown50
    have Hb50 := Lib.hid hb50
    clear hown50 hb50
    by_cases h0 : qs.length = 0
    · have h0i : ¬ (0 : Int) < (qs.length : Int) := by omega
      have hq0 : qs = [] := List.eq_nil_of_length_eq_zero h0
      have hle := fun B u u2 W h h2 h3 => implFollowsFrom p (qs.take (qs.length - 1)) ms B u u2 W h h2 h3
      have hfl := fun h => foll_less (p := p) (qs := qs) (ms := ms) (qs.length - 1) h hsok
      rw [ho] at hfl
      generalize followsF p ((qs.take (qs.length - 1)).map (·.2)) ms = fl at *
      obtain rfl : fl = false := by cases fl with | false => rfl | true => exact absurd (hfl rfl) (by decide)
      have Hle := Lib.hid hle
      have Hq0 := Lib.hid hq0
      clear hq0 h0 hle hfl ho hsok htok
      go_wp2_with (first
        | (at_builtin; refine wpList_append_story rfl (.tmp 42) (.tmp 43) rfl Ci.out Cz0.out Cz1.out Cz2.out rfl rfl Hown50.out Hq50.out (by omega) (by simp) ?_
           go_must (intro v8 w8 hown8 hgr8 _
                    have hb8 := below_gA Hb50.out hgr8 (by simp) (fun q hq => (Hown50.out.lt q hq).1)
                    have HL8 : Hid (RdStory w8 w8.heap.size v8 (qs.take (qs.length - 1))) := rdStory_own (by rw [Nat.zero_add, List.nil_append, Hq0.out] at hown8; rw [Hq0.out]; exact hown8) rfl (fun q hq => by rw [Hq0.out] at hq; simp at hq)
                    rw [Nat.zero_add] at hown8
                    obtain ⟨a8, c8, hv8⟩ := own_len hown8
                    subst hv8
                    have HS8 := Lib.hid ((HS5.out.below (w' := w8) hb8.block).mono hb8.size)
                    have HM8 := Lib.hid ((HM5.out.below (w' := w8) hb8.block).mono hb8.size)
                    have hB8 : Below w.heap.size w w8 := hB5.trans (hb8.mono hB5.size)
                    clear hb8
                    have hn : Below w8.heap.size w8 (w8.alloc (.cells #[] TC)) := (Below.refl _ _).alloc (Nat.le_refl _) _
                    have HMn := Lib.hid ((HM8.out.below (w' := w8.alloc (.cells #[] TC)) hn.block).mono hn.size)
                    have Hn := Lib.hid hn
                    clear hn
                    clear hown8 hgr8))
        | fail)
      refine (Hnil.out _ _ _ _ HMn.out (Nat.le_refl _)).mono ?_
      rintro e wa ⟨rfl, hba'⟩
      have hba : Below w8.heap.size w8 wa := Hn.out.trans (hba'.mono Hn.out.size)
      clear hba'
      have HSa := Lib.hid ((HS8.out.below (w' := wa) hba.block).mono hba.size)
      have HMa := Lib.hid ((HM8.out.below (w' := wa) hba.block).mono hba.size)
      have HLa := Lib.hid ((HL8.out.below (w' := wa) hba.block).mono hba.size)
      have hBa : Below w.heap.size w wa := hB8.trans (hba.mono hB8.size)
      clear hba
      go_wp2_with fail
      refine (Hal.out _ _ _ HMa.out (Nat.le_refl _)).mono ?_
      rintro e wb ⟨rfl, hbb⟩
      have HSb := Lib.hid ((HSa.out.below (w' := wb) hbb.block).mono hbb.size)
      have HMb := Lib.hid ((HMa.out.below (w' := wb) hbb.block).mono hbb.size)
      have HLb := Lib.hid ((HLa.out.below (w' := wb) hbb.block).mono hbb.size)
      have hBb : Below w.heap.size w wb := hBa.trans (hbb.mono hBa.size)
      clear hbb
      cases al with
      | false =>
        go_wp2_with fail
        refine (Hle.out _ _ _ _ HLb.out HMb.out (Nat.le_refl _)).mono ?_
        rintro e wc ⟨rfl, hbc⟩
        have HSc := Lib.hid ((HSb.out.below (w' := wc) hbc.block).mono hbc.size)
        have hBc : Below w.heap.size w wc := hBb.trans (hbc.mono hBb.size)
        clear hbc
        go_wp2_with fail
        refine (Hcl.out _ _ _ HSc.out (Nat.le_refl _)).mono ?_
        rintro e wd ⟨rfl, hbd⟩
        have hBd : Below w.heap.size w wd := hBc.trans (hbd.mono hBc.size)
        clear hbd
        go_wp2_with fail
        refine (alive _).mono ?_
        rintro e w' ⟨rfl, rfl⟩
        go_wp2
        go_ret
        exact ⟨rfl, hBd⟩
      | true =>
        go_wp2_with fail
        refine (Hle.out _ _ _ _ HLb.out HMb.out (Nat.le_refl _)).mono ?_
        rintro e wc ⟨rfl, hbc⟩
        have HSc := Lib.hid ((HSb.out.below (w' := wc) hbc.block).mono hbc.size)
        have hBc : Below w.heap.size w wc := hBb.trans (hbc.mono hBb.size)
        clear hbc
        go_wp2_with fail
        refine (Hcl.out _ _ _ HSc.out (Nat.le_refl _)).mono ?_
        rintro e wd ⟨rfl, hbd⟩
        have hBd : Below w.heap.size w wd := hBc.trans (hbd.mono hBc.size)
        clear hbd
        go_wp2_with fail
        refine (alive _).mono ?_
        rintro e w' ⟨rfl, rfl⟩
        go_wp2
        go_ret
        exact ⟨rfl, hBd⟩
    · have h0i : (0 : Int) < (qs.length : Int) := by omega
      obtain ⟨m, hm⟩ : ∃ m, m = qs.length - 1 := ⟨_, rfl⟩
      have hle := fun B u u2 W h h2 h3 => implFollowsFrom p (qs.take m) ms B u u2 W h h2 h3
      have hfl := fun h => foll_less (p := p) (qs := qs) (ms := ms) m h hsok
      rw [ho] at hfl
      have Hqt5 := Lib.hid (rdStory_take11 HS5.out (show m ≤ qs.length by omega))
      have Htl : Hid ((qs.take m).length = m) := by unfold Hid; simp; omega
      generalize followsF p ((qs.take m).map (·.2)) ms = fl at *
      obtain rfl : fl = false := by cases fl with | false => rfl | true => exact absurd (hfl rfl) (by decide)
      have Hle := Lib.hid hle
      have hi1 : IntKind.i64.wrap ((qs.length : Int) - 1) = (m : Int) := by rw [IntWalk.i64_in _ (by omega)]; omega
      have hi2 : (0 : Int) ≤ (m : Int) := by omega
      have hi3 : (m : Int) ≤ (qcap : Int) := by omega
      have hi4 : m ≤ qcap := by omega
      have hi5 : (m : Int) ≤ (qs.length : Int) := by omega
      have hi6 : ¬ qcap = 0 := by omega
      have hi7 : (qs.length : Int) - 1 = (m : Int) := by omega
      have hq7' : m ≤ 7 := by omega
      clear hm hle hfl ho hsok htok
      go_wp2_with (first
        | (at_builtin; refine wpList_append_story rfl (.tmp 42) (.tmp 43) rfl Ci.out Cz0.out Cz1.out Cz2.out rfl rfl Hown50.out Hq50.out (by omega) (by simp) ?_
           go_must (intro v8 w8 hown8 hgr8 _
                    have hb8 := below_gA Hb50.out hgr8 (by simp) (fun q hq => (Hown50.out.lt q hq).1)
                    have hs8 := hb8.size
                    have Hqt8 := Lib.hid (Hqt5.out.below (w' := w8) (fun q hq => hb8.block q hq))
                    have Hown80 := Lib.hid (show (w8.alloc (.cells #[] TC)).ownsRow w8.heap.size TC 2 (.slice (some ⟨w8.heap.size, 0, none⟩) 0 0) 0 [] from World.ownsRow_made _ _ 0 (Nat.le_refl _) (by unfold maxLen; omega) rfl)
                    have hb80 : Below w8.heap.size w8 (w8.alloc (.cells #[] TC)) := (Below.refl _ _).alloc (Nat.le_refl _) _
                    have Hb80 := Lib.hid hb80
                    have Hq80 := Lib.hid (Hqt8.out.below (w' := w8.alloc (.cells #[] TC)) (fun q hq => hb80.block q (by omega)))
                    rw [Nat.zero_add] at hown8
                    obtain ⟨a8, c8, hv8⟩ := own_len hown8
                    subst hv8
                    have HS8 := Lib.hid ((HS5.out.below (w' := w8) hb8.block).mono hb8.size)
                    have HM8 := Lib.hid ((HM5.out.below (w' := w8) hb8.block).mono hb8.size)
                    have hB8 : Below w.heap.size w w8 := hB5.trans (hb8.mono hB5.size)
                    clear hb8
                    clear hown8 hgr8 hb80))
        | (at_builtin; refine wpList_append_story rfl (.tmp 48) (.tmp 53) rfl Ci.out Cz0.out Cz1.out Cz2.out rfl rfl Hown80.out Hq80.out (by have := Htl.out; omega) (by simp) ?_
           go_must (intro v9 w9 hown9 hgr9 _
                    have hb9 := below_gA Hb80.out hgr9 (by simp) (fun q hq => (Hown80.out.lt q hq).1)
                    have hs9 := hb9.size
                    rw [Nat.zero_add, List.nil_append] at hown9
                    have HL9 : Hid (RdStory w9 w9.heap.size v9 (qs.take m)) := rdStory_own hown9 rfl (fun q hq => ⟨(((Hqt8.out.marks q hq).1.below (w' := w9) (fun r hr => hb9.block r (by omega))).mono (by omega)), (Hqt8.out.marks q hq).2⟩)
                    rw [Htl.out] at hown9
                    obtain ⟨a9, c9, hv9⟩ := own_len hown9
                    subst hv9
                    have HS9 := Lib.hid ((HS8.out.below (w' := w9) hb9.block).mono hb9.size)
                    have HM9 := Lib.hid ((HM8.out.below (w' := w9) hb9.block).mono hb9.size)
                    have hB9 : Below w.heap.size w w9 := hB8.trans (hb9.mono hB8.size)
                    clear hb9
                    have hn : Below w9.heap.size w9 (w9.alloc (.cells #[] TC)) := (Below.refl _ _).alloc (Nat.le_refl _) _
                    have HMn := Lib.hid ((HM9.out.below (w' := w9.alloc (.cells #[] TC)) hn.block).mono hn.size)
                    have Hn := Lib.hid hn
                    clear hn
                    clear hown9 hgr9))
        | fail)
      refine (Hnil.out _ _ _ _ HMn.out (Nat.le_refl _)).mono ?_
      rintro e wa ⟨rfl, hba'⟩
      have hba : Below w9.heap.size w9 wa := Hn.out.trans (hba'.mono Hn.out.size)
      clear hba'
      have HSa := Lib.hid ((HS9.out.below (w' := wa) hba.block).mono hba.size)
      have HMa := Lib.hid ((HM9.out.below (w' := wa) hba.block).mono hba.size)
      have HLa := Lib.hid ((HL9.out.below (w' := wa) hba.block).mono hba.size)
      have hBa : Below w.heap.size w wa := hB9.trans (hba.mono hB9.size)
      clear hba
      go_wp2_with fail
      refine (Hal.out _ _ _ HMa.out (Nat.le_refl _)).mono ?_
      rintro e wb ⟨rfl, hbb⟩
      have HSb := Lib.hid ((HSa.out.below (w' := wb) hbb.block).mono hbb.size)
      have HMb := Lib.hid ((HMa.out.below (w' := wb) hbb.block).mono hbb.size)
      have HLb := Lib.hid ((HLa.out.below (w' := wb) hbb.block).mono hbb.size)
      have hBb : Below w.heap.size w wb := hBa.trans (hbb.mono hBa.size)
      clear hbb
      cases al with
      | false =>
        go_wp2_with fail
        refine (Hle.out _ _ _ _ HLb.out HMb.out (Nat.le_refl _)).mono ?_
        rintro e wc ⟨rfl, hbc⟩
        have HSc := Lib.hid ((HSb.out.below (w' := wc) hbc.block).mono hbc.size)
        have hBc : Below w.heap.size w wc := hBb.trans (hbc.mono hBb.size)
        clear hbc
        go_wp2_with fail
        refine (Hcl.out _ _ _ HSc.out (Nat.le_refl _)).mono ?_
        rintro e wd ⟨rfl, hbd⟩
        have hBd : Below w.heap.size w wd := hBc.trans (hbd.mono hBc.size)
        clear hbd
        go_wp2_with fail
        refine (alive _).mono ?_
        rintro e w' ⟨rfl, rfl⟩
        go_wp2
        go_ret
        exact ⟨rfl, hBd⟩
      | true =>
        go_wp2_with fail
        refine (Hle.out _ _ _ _ HLb.out HMb.out (Nat.le_refl _)).mono ?_
        rintro e wc ⟨rfl, hbc⟩
        have HSc := Lib.hid ((HSb.out.below (w' := wc) hbc.block).mono hbc.size)
        have hBc : Below w.heap.size w wc := hBb.trans (hbc.mono hBb.size)
        clear hbc
        go_wp2_with fail
        refine (Hcl.out _ _ _ HSc.out (Nat.le_refl _)).mono ?_
        rintro e wd ⟨rfl, hbd⟩
        have hBd : Below w.heap.size w wd := hBc.trans (hbd.mono hBc.size)
        clear hbd
        go_wp2_with fail
        refine (alive _).mono ?_
        rintro e w' ⟨rfl, rfl⟩
        go_wp2
        go_ret
        exact ⟨rfl, hBd⟩
  | true =>
    rw [ho] at hfo hfs hclo
    have Hfo := Lib.hid hfo
    have Hfs := Lib.hid hfs
    have Hso := Lib.hid hso
    have Hto := Lib.hid hto
    have Hal := Lib.hid hal
    have Hcl := Lib.hid hcl
    have Hnil := Lib.hid hnil
    clear hfo hfs hso hto hal hcl hnil hclo
    go_wp2_with fail
    refine (Hfo.out _ _ _ _ HS1.out HM1.out (Nat.le_refl _)).mono ?_
    rintro e w2 ⟨rfl, hb2⟩
    have HS2 := Lib.hid ((HS1.out.below (w' := w2) hb2.block).mono hb2.size)
    have HM2 := Lib.hid ((HM1.out.below (w' := w2) hb2.block).mono hb2.size)
    have hB2 : Below w.heap.size w w2 := hB1.trans (hb2.mono hB1.size)
    clear hb2
    go_wp2_with fail
    refine (Hfs.out _ _ _ _ HS2.out HM2.out (Nat.le_refl _)).mono ?_
    rintro e w3 ⟨rfl, hb3⟩
    have HS3 := Lib.hid ((HS2.out.below (w' := w3) hb3.block).mono hb3.size)
    have HM3 := Lib.hid ((HM2.out.below (w' := w3) hb3.block).mono hb3.size)
    have hB3 : Below w.heap.size w w3 := hB2.trans (hb3.mono hB2.size)
    clear hb3
    go_wp2_with fail
    refine (Hso.out _ _ _ HS3.out (Nat.le_refl _)).mono ?_
    rintro e w4 ⟨rfl, hb4⟩
    have HS4 := Lib.hid ((HS3.out.below (w' := w4) hb4.block).mono hb4.size)
    have HM4 := Lib.hid ((HM3.out.below (w' := w4) hb4.block).mono hb4.size)
    have hB4 : Below w.heap.size w w4 := hB3.trans (hb4.mono hB3.size)
    clear hb4
    go_wp2_with fail
    refine (Hto.out _ _ _ HM4.out).mono ?_
    rintro e w5 ⟨rfl, hw5⟩
    have hb5 : Below w4.heap.size w4 w5 := by rw [← hw5]; exact Below.refl _ _
    clear hw5
    have HS5 := Lib.hid ((HS4.out.below (w' := w5) hb5.block).mono hb5.size)
    have HM5 := Lib.hid ((HM4.out.below (w' := w5) hb5.block).mono hb5.size)
    have hB5 : Below w.heap.size w w5 := hB4.trans (hb5.mono hB4.size)
    clear hb5
    have hown50 : (w5.alloc (.cells #[] TC)).ownsRow w5.heap.size TC 2 (.slice (some ⟨w5.heap.size, 0, none⟩) 0 0) 0 [] := World.ownsRow_made _ _ 0 (Nat.le_refl _) (by unfold maxLen; omega) rfl
    have hb50 : Below w5.heap.size w5 (w5.alloc (.cells #[] TC)) := (Below.refl _ _).alloc (Nat.le_refl _) _
    have Hq50 := Lib.hid (HS5.out.below (w' := w5.alloc (.cells #[] TC)) hb50.block)
    have Hown50 := Lib.hid hown50
    have Hb50 := Lib.hid hb50
    clear hown50 hb50
    by_cases h0 : qs.length = 0
    · have h0i : ¬ (0 : Int) < (qs.length : Int) := by omega
      have hq0 : qs = [] := List.eq_nil_of_length_eq_zero h0
      have hle := fun B u u2 W h h2 h3 => implFollowsFrom p (qs.take (qs.length - 1)) ms B u u2 W h h2 h3
      have hfl := fun h => foll_less (p := p) (qs := qs) (ms := ms) (qs.length - 1) h hsok
      rw [ho] at hfl
      generalize followsF p ((qs.take (qs.length - 1)).map (·.2)) ms = fl at *
      have Hle := Lib.hid hle
      have Hq0 := Lib.hid hq0
      clear hq0 h0 hle hfl ho hsok htok
      go_wp2_with (first
        | (at_builtin; refine wpList_append_story rfl (.tmp 42) (.tmp 43) rfl Ci.out Cz0.out Cz1.out Cz2.out rfl rfl Hown50.out Hq50.out (by omega) (by simp) ?_
           go_must (intro v8 w8 hown8 hgr8 _
                    have hb8 := below_gA Hb50.out hgr8 (by simp) (fun q hq => (Hown50.out.lt q hq).1)
                    have HL8 : Hid (RdStory w8 w8.heap.size v8 (qs.take (qs.length - 1))) := rdStory_own (by rw [Nat.zero_add, List.nil_append, Hq0.out] at hown8; rw [Hq0.out]; exact hown8) rfl (fun q hq => by rw [Hq0.out] at hq; simp at hq)
                    rw [Nat.zero_add] at hown8
                    obtain ⟨a8, c8, hv8⟩ := own_len hown8
                    subst hv8
                    have HS8 := Lib.hid ((HS5.out.below (w' := w8) hb8.block).mono hb8.size)
                    have HM8 := Lib.hid ((HM5.out.below (w' := w8) hb8.block).mono hb8.size)
                    have hB8 : Below w.heap.size w w8 := hB5.trans (hb8.mono hB5.size)
                    clear hb8
                    have hn : Below w8.heap.size w8 (w8.alloc (.cells #[] TC)) := (Below.refl _ _).alloc (Nat.le_refl _) _
                    have HMn := Lib.hid ((HM8.out.below (w' := w8.alloc (.cells #[] TC)) hn.block).mono hn.size)
                    have Hn := Lib.hid hn
                    clear hn
                    clear hown8 hgr8))
        | fail)
      refine (Hnil.out _ _ _ _ HMn.out (Nat.le_refl _)).mono ?_
      rintro e wa ⟨rfl, hba'⟩
      have hba : Below w8.heap.size w8 wa := Hn.out.trans (hba'.mono Hn.out.size)
      clear hba'
      have HSa := Lib.hid ((HS8.out.below (w' := wa) hba.block).mono hba.size)
      have HMa := Lib.hid ((HM8.out.below (w' := wa) hba.block).mono hba.size)
      have HLa := Lib.hid ((HL8.out.below (w' := wa) hba.block).mono hba.size)
      have hBa : Below w.heap.size w wa := hB8.trans (hba.mono hB8.size)
      clear hba
      go_wp2_with fail
      refine (Hal.out _ _ _ HMa.out (Nat.le_refl _)).mono ?_
      rintro e wb ⟨rfl, hbb⟩
      have HSb := Lib.hid ((HSa.out.below (w' := wb) hbb.block).mono hbb.size)
      have HMb := Lib.hid ((HMa.out.below (w' := wb) hbb.block).mono hbb.size)
      have HLb := Lib.hid ((HLa.out.below (w' := wb) hbb.block).mono hbb.size)
      have hBb : Below w.heap.size w wb := hBa.trans (hbb.mono hBa.size)
      clear hbb
      cases al with
      | false =>
        go_wp2_with fail
        refine (Hle.out _ _ _ _ HLb.out HMb.out (Nat.le_refl _)).mono ?_
        rintro e wc ⟨rfl, hbc⟩
        have HSc := Lib.hid ((HSb.out.below (w' := wc) hbc.block).mono hbc.size)
        have hBc : Below w.heap.size w wc := hBb.trans (hbc.mono hBb.size)
        clear hbc
        cases fl with
        | false =>
          go_wp2_with fail
          refine (Hcl.out _ _ _ HSc.out (Nat.le_refl _)).mono ?_
          rintro e wd ⟨rfl, hbd⟩
          have hBd : Below w.heap.size w wd := hBc.trans (hbd.mono hBc.size)
          clear hbd
          cases cl with
          | false =>
            go_wp2_with fail
            refine (alive _).mono ?_
            rintro e w' ⟨rfl, rfl⟩
            go_wp2
            go_ret
            exact ⟨rfl, hBd⟩
          | true =>
            go_wp2_with fail
            refine (alive _).mono ?_
            rintro e w' ⟨rfl, rfl⟩
            go_wp2
            go_ret
            exact ⟨rfl, hBd⟩
        | true =>
          go_wp2_with fail
          refine (Hcl.out _ _ _ HSc.out (Nat.le_refl _)).mono ?_
          rintro e wd ⟨rfl, hbd⟩
          have hBd : Below w.heap.size w wd := hBc.trans (hbd.mono hBc.size)
          clear hbd
          cases cl with
          | false =>
            go_wp2_with fail
            refine (alive _).mono ?_
            rintro e w' ⟨rfl, rfl⟩
            go_wp2
            go_ret
            exact ⟨rfl, hBd⟩
          | true =>
            go_wp2_with fail
            refine (alive _).mono ?_
            rintro e w' ⟨rfl, rfl⟩
            go_wp2
            go_ret
            exact ⟨rfl, hBd⟩
      | true =>
        go_wp2_with fail
        refine (Hle.out _ _ _ _ HLb.out HMb.out (Nat.le_refl _)).mono ?_
        rintro e wc ⟨rfl, hbc⟩
        have HSc := Lib.hid ((HSb.out.below (w' := wc) hbc.block).mono hbc.size)
        have hBc : Below w.heap.size w wc := hBb.trans (hbc.mono hBb.size)
        clear hbc
        cases fl with
        | false =>
          go_wp2_with fail
          refine (Hcl.out _ _ _ HSc.out (Nat.le_refl _)).mono ?_
          rintro e wd ⟨rfl, hbd⟩
          have hBd : Below w.heap.size w wd := hBc.trans (hbd.mono hBc.size)
          clear hbd
          cases cl with
          | false =>
            go_wp2_with fail
            refine (alive _).mono ?_
            rintro e w' ⟨rfl, rfl⟩
            go_wp2
            go_ret
            exact ⟨rfl, hBd⟩
          | true =>
            go_wp2_with fail
            refine (alive _).mono ?_
            rintro e w' ⟨rfl, rfl⟩
            go_wp2
            go_ret
            exact ⟨rfl, hBd⟩
        | true =>
          go_wp2_with fail
          refine (Hcl.out _ _ _ HSc.out (Nat.le_refl _)).mono ?_
          rintro e wd ⟨rfl, hbd⟩
          have hBd : Below w.heap.size w wd := hBc.trans (hbd.mono hBc.size)
          clear hbd
          cases cl with
          | false =>
            go_wp2_with fail
            refine (alive _).mono ?_
            rintro e w' ⟨rfl, rfl⟩
            go_wp2
            go_ret
            exact ⟨rfl, hBd⟩
          | true =>
            go_wp2_with fail
            refine (alive _).mono ?_
            rintro e w' ⟨rfl, rfl⟩
            go_wp2
            go_ret
            exact ⟨rfl, hBd⟩
    · have h0i : (0 : Int) < (qs.length : Int) := by omega
      obtain ⟨m, hm⟩ : ∃ m, m = qs.length - 1 := ⟨_, rfl⟩
      have hle := fun B u u2 W h h2 h3 => implFollowsFrom p (qs.take m) ms B u u2 W h h2 h3
      have hfl := fun h => foll_less (p := p) (qs := qs) (ms := ms) m h hsok
      rw [ho] at hfl
      have Hqt5 := Lib.hid (rdStory_take11 HS5.out (show m ≤ qs.length by omega))
      have Htl : Hid ((qs.take m).length = m) := by unfold Hid; simp; omega
      generalize followsF p ((qs.take m).map (·.2)) ms = fl at *
      have Hle := Lib.hid hle
      have hi1 : IntKind.i64.wrap ((qs.length : Int) - 1) = (m : Int) := by rw [IntWalk.i64_in _ (by omega)]; omega
      have hi2 : (0 : Int) ≤ (m : Int) := by omega
      have hi3 : (m : Int) ≤ (qcap : Int) := by omega
      have hi4 : m ≤ qcap := by omega
      have hi5 : (m : Int) ≤ (qs.length : Int) := by omega
      have hi6 : ¬ qcap = 0 := by omega
      have hi7 : (qs.length : Int) - 1 = (m : Int) := by omega
      have hq7' : m ≤ 7 := by omega
      clear hm hle hfl ho hsok htok
      go_wp2_with (first
        | (at_builtin; refine wpList_append_story rfl (.tmp 42) (.tmp 43) rfl Ci.out Cz0.out Cz1.out Cz2.out rfl rfl Hown50.out Hq50.out (by omega) (by simp) ?_
           go_must (intro v8 w8 hown8 hgr8 _
                    have hb8 := below_gA Hb50.out hgr8 (by simp) (fun q hq => (Hown50.out.lt q hq).1)
                    have hs8 := hb8.size
                    have Hqt8 := Lib.hid (Hqt5.out.below (w' := w8) (fun q hq => hb8.block q hq))
                    have Hown80 := Lib.hid (show (w8.alloc (.cells #[] TC)).ownsRow w8.heap.size TC 2 (.slice (some ⟨w8.heap.size, 0, none⟩) 0 0) 0 [] from World.ownsRow_made _ _ 0 (Nat.le_refl _) (by unfold maxLen; omega) rfl)
                    have hb80 : Below w8.heap.size w8 (w8.alloc (.cells #[] TC)) := (Below.refl _ _).alloc (Nat.le_refl _) _
                    have Hb80 := Lib.hid hb80
                    have Hq80 := Lib.hid (Hqt8.out.below (w' := w8.alloc (.cells #[] TC)) (fun q hq => hb80.block q (by omega)))
                    rw [Nat.zero_add] at hown8
                    obtain ⟨a8, c8, hv8⟩ := own_len hown8
                    subst hv8
                    have HS8 := Lib.hid ((HS5.out.below (w' := w8) hb8.block).mono hb8.size)
                    have HM8 := Lib.hid ((HM5.out.below (w' := w8) hb8.block).mono hb8.size)
                    have hB8 : Below w.heap.size w w8 := hB5.trans (hb8.mono hB5.size)
                    clear hb8
                    clear hown8 hgr8 hb80))
        | (at_builtin; refine wpList_append_story rfl (.tmp 48) (.tmp 53) rfl Ci.out Cz0.out Cz1.out Cz2.out rfl rfl Hown80.out Hq80.out (by have := Htl.out; omega) (by simp) ?_
           go_must (intro v9 w9 hown9 hgr9 _
                    have hb9 := below_gA Hb80.out hgr9 (by simp) (fun q hq => (Hown80.out.lt q hq).1)
                    have hs9 := hb9.size
                    rw [Nat.zero_add, List.nil_append] at hown9
                    have HL9 : Hid (RdStory w9 w9.heap.size v9 (qs.take m)) := rdStory_own hown9 rfl (fun q hq => ⟨(((Hqt8.out.marks q hq).1.below (w' := w9) (fun r hr => hb9.block r (by omega))).mono (by omega)), (Hqt8.out.marks q hq).2⟩)
                    rw [Htl.out] at hown9
                    obtain ⟨a9, c9, hv9⟩ := own_len hown9
                    subst hv9
                    have HS9 := Lib.hid ((HS8.out.below (w' := w9) hb9.block).mono hb9.size)
                    have HM9 := Lib.hid ((HM8.out.below (w' := w9) hb9.block).mono hb9.size)
                    have hB9 : Below w.heap.size w w9 := hB8.trans (hb9.mono hB8.size)
                    clear hb9
                    have hn : Below w9.heap.size w9 (w9.alloc (.cells #[] TC)) := (Below.refl _ _).alloc (Nat.le_refl _) _
                    have HMn := Lib.hid ((HM9.out.below (w' := w9.alloc (.cells #[] TC)) hn.block).mono hn.size)
                    have Hn := Lib.hid hn
                    clear hn
                    clear hown9 hgr9))
        | fail)
      refine (Hnil.out _ _ _ _ HMn.out (Nat.le_refl _)).mono ?_
      rintro e wa ⟨rfl, hba'⟩
      have hba : Below w9.heap.size w9 wa := Hn.out.trans (hba'.mono Hn.out.size)
      clear hba'
      have HSa := Lib.hid ((HS9.out.below (w' := wa) hba.block).mono hba.size)
      have HMa := Lib.hid ((HM9.out.below (w' := wa) hba.block).mono hba.size)
      have HLa := Lib.hid ((HL9.out.below (w' := wa) hba.block).mono hba.size)
      have hBa : Below w.heap.size w wa := hB9.trans (hba.mono hB9.size)
      clear hba
      go_wp2_with fail
      refine (Hal.out _ _ _ HMa.out (Nat.le_refl _)).mono ?_
      rintro e wb ⟨rfl, hbb⟩
      have HSb := Lib.hid ((HSa.out.below (w' := wb) hbb.block).mono hbb.size)
      have HMb := Lib.hid ((HMa.out.below (w' := wb) hbb.block).mono hbb.size)
      have HLb := Lib.hid ((HLa.out.below (w' := wb) hbb.block).mono hbb.size)
      have hBb : Below w.heap.size w wb := hBa.trans (hbb.mono hBa.size)
      clear hbb
      cases al with
      | false =>
        go_wp2_with fail
        refine (Hle.out _ _ _ _ HLb.out HMb.out (Nat.le_refl _)).mono ?_
        rintro e wc ⟨rfl, hbc⟩
        have HSc := Lib.hid ((HSb.out.below (w' := wc) hbc.block).mono hbc.size)
        have hBc : Below w.heap.size w wc := hBb.trans (hbc.mono hBb.size)
        clear hbc
        cases fl with
        | false =>
          go_wp2_with fail
          refine (Hcl.out _ _ _ HSc.out (Nat.le_refl _)).mono ?_
          rintro e wd ⟨rfl, hbd⟩
          have hBd : Below w.heap.size w wd := hBc.trans (hbd.mono hBc.size)
          clear hbd
          cases cl with
          | false =>
            go_wp2_with fail
            refine (alive _).mono ?_
            rintro e w' ⟨rfl, rfl⟩
            go_wp2
            go_ret
            exact ⟨rfl, hBd⟩
          | true =>
            go_wp2_with fail
            refine (alive _).mono ?_
            rintro e w' ⟨rfl, rfl⟩
            go_wp2
            go_ret
            exact ⟨rfl, hBd⟩
        | true =>
          go_wp2_with fail
          refine (Hcl.out _ _ _ HSc.out (Nat.le_refl _)).mono ?_
          rintro e wd ⟨rfl, hbd⟩
          have hBd : Below w.heap.size w wd := hBc.trans (hbd.mono hBc.size)
          clear hbd
          cases cl with
          | false =>
            go_wp2_with fail
            refine (alive _).mono ?_
            rintro e w' ⟨rfl, rfl⟩
            go_wp2
            go_ret
            exact ⟨rfl, hBd⟩
          | true =>
            go_wp2_with fail
            refine (alive _).mono ?_
            rintro e w' ⟨rfl, rfl⟩
            go_wp2
            go_ret
            exact ⟨rfl, hBd⟩
      | true =>
        go_wp2_with fail
        refine (Hle.out _ _ _ _ HLb.out HMb.out (Nat.le_refl _)).mono ?_
        rintro e wc ⟨rfl, hbc⟩
        have HSc := Lib.hid ((HSb.out.below (w' := wc) hbc.block).mono hbc.size)
        have hBc : Below w.heap.size w wc := hBb.trans (hbc.mono hBb.size)
        clear hbc
        cases fl with
        | false =>
          go_wp2_with fail
          refine (Hcl.out _ _ _ HSc.out (Nat.le_refl _)).mono ?_
          rintro e wd ⟨rfl, hbd⟩
          have hBd : Below w.heap.size w wd := hBc.trans (hbd.mono hBc.size)
          clear hbd
          cases cl with
          | false =>
            go_wp2_with fail
            refine (alive _).mono ?_
            rintro e w' ⟨rfl, rfl⟩
            go_wp2
            go_ret
            exact ⟨rfl, hBd⟩
          | true =>
            go_wp2_with fail
            refine (alive _).mono ?_
            rintro e w' ⟨rfl, rfl⟩
            go_wp2
            go_ret
            exact ⟨rfl, hBd⟩
        | true =>
          go_wp2_with fail
          refine (Hcl.out _ _ _ HSc.out (Nat.le_refl _)).mono ?_
          rintro e wd ⟨rfl, hbd⟩
          have hBd : Below w.heap.size w wd := hBc.trans (hbd.mono hBc.size)
          clear hbd
          cases cl with
          | false =>
            go_wp2_with fail
            refine (alive _).mono ?_
            rintro e w' ⟨rfl, rfl⟩
            go_wp2
            go_ret
            exact ⟨rfl, hBd⟩
          | true =>
            go_wp2_with fail
            refine (alive _).mono ?_
            rintro e w' ⟨rfl, rfl⟩
            go_wp2
            go_ret
            exact ⟨rfl, hBd⟩

set_option maxRecDepth 100000 in
theorem lifted (os : Os) (started : os.Started) (H : Type) (enc : TypeId × Value → H) :
    ReturnsInHanded {} Try.checked os 3 .any (Rows.fnFollowsFromSpec.pre6 enc Try.prog Try.f3 Rows.fnFollowsFromRow.domain false) (Rows.fnFollowsFromSpec.post enc Try.prog Try.f3 false true false false) := by
  refine returnsInHanded_of_change (C := Try.checked) Try.own started (by kernel_rfl) Try.func3
    (ChangeSpec.witness6 (enc := enc) (C := Try.checked) false ⟨#[], #[.slice none 0 0], []⟩ 8 (by kernel_rfl) (by kernel_rfl) (by kernel_rfl) (by kernel_rfl)) ?_
  intro W base args ds gs before hval0 hW hcnd _
  have hval : ∀ (j : Nat) t v, Try.f3.params[j]? = some t → args[j]? = some v → Value.okWide Try.prog W .any base t v := hval0
  have hW' := hW
  obtain ⟨p, q, hA0, hV, rfl, hfz, hnd⟩ := hW
  have hA : DataW.TrodAll enc Try.prog W 0 (fun _ => true) true Try.f3.params.toList args.toList ds p := hA0
  rw [Try.params3] at hA hval
  obtain ⟨v0, vs0, d0, ds0, p0, q0, hargs, rfl, rfl, h0, r0⟩ := trodAll_cons hA
  obtain ⟨rfl, rfl, rfl⟩ := trodAll_nil r0
  obtain rfl : args = #[v0] := by cases args; simp_all
  obtain ⟨rfl, rfl⟩ := trodVars_none hV
  obtain ⟨a0, len0, cap0, rfl⟩ := okWide_slice Try.underlying22 (hval 0 22 v0 rfl rfl)
  have k0 := h0
  have lt0 : ∀ x ∈ p0, x.block < W.heap.size := by obtain ⟨m, hm⟩ := k0; exact DataW.trod_lt m _ _ _ hm
  obtain ⟨z0, w0⟩ : ∃ zs, IsRow .u8 W a0 len0 cap0 zs := by
    obtain ⟨fuel, hf⟩ := h0
    rcases open_ints Try.underlying22 Try.underlying5 (by kernel_rfl) hf with ⟨hcs, _⟩ | ⟨x, l, c, zs, hcs, _, hl, hm, hz, _, hcell, hwz⟩
    · simp [Value.cells] at hcs
      obtain ⟨rfl, rfl, rfl⟩ := hcs
      exact ⟨[], .inl ⟨rfl, rfl, rfl, rfl⟩⟩
    · simp [Value.cells] at hcs
      obtain ⟨rfl, rfl, rfl⟩ := hcs
      exact ⟨zs, .inr ⟨_, rfl, hl, hm, by simpa using hz, hcell, hwz⟩⟩
  clear hA0 hval0
  refine (walk _ _ W (RdBytes.of_row w0)).mono fun e W' ⟨he, bel⟩ => ?_
  subst he
  exact ⟨_, rfl, _, _, _, [], _, [], hW', trodAll_mk1 (shut_bool Try.underlying4 _), (trodAll_cons_mk (Below.trod Try.laidOut (by kernel_rfl) (of_decide_eq_true (by kernel_rfl)) k0 bel lt0) trodAll_mk0), rfl, bel.frame _, fun h => by cases h⟩

theorem closed : joinedFacts Try.pinned.checked.prog 3 Try.f3 Rows.fnFollowsFromSpec Rows.fnFollowsFromRow = true := by
  unfold joinedFacts
  exact (and_tt (and_tt (and_tt (and_tt (and_tt (and_tt (and_tt (and_tt (and_tt (and_tt (and_tt (and_tt (and_tt (and_tt (and_tt (and_tt (and_tt (and_tt (and_tt (and_tt (and_tt (and_tt (and_tt (and_tt (and_tt (and_tt (and_tt (and_tt (and_tt (and_tt (and_tt (by kernel_rfl) (by kernel_rfl)) (by kernel_rfl)) (by kernel_rfl)) (by kernel_rfl)) (by kernel_rfl)) (by kernel_rfl)) (by kernel_rfl)) (by kernel_rfl)) (by kernel_rfl)) (by kernel_rfl)) (by kernel_rfl)) (by kernel_rfl)) (by kernel_rfl)) (by kernel_rfl)) (by kernel_rfl)) (by kernel_rfl)) (by kernel_rfl)) (by kernel_rfl)) (by kernel_rfl)) (by kernel_rfl)) (by kernel_rfl)) (by kernel_rfl)) (by kernel_rfl)) (by kernel_rfl)) Try.mayEnter0) (lifted_tt Try.lifts0 rfl)) (make_tt Try.make0 rfl)) (by kernel_rfl)) (by kernel_rfl)) (by kernel_rfl)) (by kernel_rfl))
theorem over : Rows.fnFollowsFromRow.holds Try.pinned (OpenSpec.ofChange Rows.fnFollowsFromSpec) :=
  OpenClaim.holds_of_wide 3 Try.f3 rfl rfl rfl rfl rfl rfl rfl ⟨rfl, rfl, rfl, rfl, rfl⟩ rfl rfl rfl rfl rfl (by kernel_rfl) Try.func3 closed
    (of_decide_eq_true (by kernel_rfl)) (by unfold Func.isWrapper; first | (rw [if_pos (by decide +kernel)]; kernel_rfl) | (rw [if_neg (by decide +kernel)]; exact ⟨rfl, rfl⟩))
    (fun os started H enc _ => lifted os started H enc)

theorem proved : Rows.FnFollowsFromSaid := over
end Go.Proofs.Ytilgkheefhobgaa.fnFollowsFrom

