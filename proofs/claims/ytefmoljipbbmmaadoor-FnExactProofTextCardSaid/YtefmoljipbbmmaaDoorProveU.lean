/- Contracts of the reference's proofs by cases: checks by induction; what is a proof. -/
import Derived.Test.YtefmoljipbbmmaaDoorProveT
import Derived.Test.YtefmoljipbbmmaaDoorProveQ
namespace Go.Proofs.YtefmoljipbbmmaaDoor
open Go.RowKit Go.Joins
theorem specChecks (P : Nat) (qs : List QC) (ms : List (Int × Int)) (hok : storyOk (P : Int) (qs.map (·.2)) = true) (ht : termOk (P : Int) ms = true) (sp : List Sp3) (h15 : sp.length ≤ 15) (fi : Int) : ∀ (f : Nat) (g : Int) (kn : List Int), kn.length = P → g < sp.length → (g < 0 → 1 ≤ f) → (0 ≤ g → sp.length - g.toNat < f) → ∀ (B : Nat) (v u pv kv : Value) (w : World), RdStory w B v qs → RdMarks w B u ms → RdSplits w B pv sp → RdInts w B kv kn → B ≤ w.heap.size →
      Calls Tryd.prog 40 #[.int .i64 (P : Int), v, u, .agg #[.int .i64 fi, pv], .int .i64 g, kv] w fun e w' => e = .returned (.tuple #[.int .i64 (chkN (checks P (hfV P ms) (clL P (qs.map (·.2))) sp f g kn)), .bool (checks P (hfV P ms) (clL P (qs.map (·.2))) sp f g kn).isSome]) ∧ Below w.heap.size w w' := by
  intro f
  induction f with
  | zero =>
    intro g kn _ _ h1 h2
    by_cases hg : g < 0
    · have := h1 hg; omega
    · have := h2 (by omega); omega
  | succ f ih =>
    intro g kn hl hg h1 h2 B v u pv kv w hr hr' hp hk hB
    by_cases hgn : g < 0
    · exact specChecks_leaf P qs ms hok ht sp fi f kn hl g hgn B v u pv kv w hr hr' hk hB
    · obtain ⟨G, rfl⟩ := Int.eq_ofNat_of_zero_le (show 0 ≤ g by omega)
      exact specChecks_node P qs ms ht sp h15 fi f ih G (by omega) (by have := h2 (by omega); rw [Int.toNat_natCast] at this; omega) kn hl B v u pv kv w hr hr' hp hk hB
theorem proves_no1 {p : Int} {s : List Cl} {ms : List (Int × Int)} {sp : List Sp3} {fi : Int} (h : storyOk p s = false) : provesF p s ms sp fi = false := by unfold provesF; rw [h]; rfl
theorem proves_no2 {p : Int} {s : List Cl} {ms : List (Int × Int)} {sp : List Sp3} {fi : Int} (h : termOk p ms = false) : provesF p s ms sp fi = false := by unfold provesF; rw [h]; simp
theorem proves_no3 {p : Int} {s : List Cl} {ms : List (Int × Int)} {sp : List Sp3} {fi : Int} (h : ¬ (sp.length ≤ 15 ∧ fi ≤ 0 ∧ ¬ (fi = 0 ∧ sp.length = 0))) : provesF p s ms sp fi = false := by
  cases hp : provesF p s ms sp fi with
  | false => rfl
  | true =>
    have := proofV_iff.1 (provesF_iff.1 hp).2.2
    exact absurd ⟨this.1, this.2.1, this.2.2.1⟩ h
theorem proves_yes {p : Int} {s : List Cl} {ms : List (Int × Int)} {sp : List Sp3} {fi : Int} (hs : storyOk p s = true) (ht : termOk p ms = true) (h : sp.length ≤ 15 ∧ fi ≤ 0 ∧ ¬ (fi = 0 ∧ sp.length = 0)) :
    provesF p s ms sp fi = (decide (checks p.toNat (hfV p ms) (clL p s) sp (sp.length + 1) fi (noneK p.toNat) = some sp.length) && onceB sp) := by
  rw [Bool.eq_iff_iff, provesF_iff, proofV_iff, Bool.and_eq_true, decide_eq_true_eq]
  constructor
  · rintro ⟨_, _, _, _, _, h1⟩; exact h1
  · intro h1; exact ⟨hs, ht, h.1, h.2.1, h.2.2, h1⟩
theorem chk_dec (C : Option Nat) (n : Nat) : decide (C = some n) = (C.isSome && decide (chkN C = (n : Int))) := by
  cases C with
  | none => simp
  | some a => rw [chkN_some, Bool.eq_iff_iff]; simp; omega
attribute [local irreducible] holds tabN tabV holdsV sameV followsV alwaysV matterV claimOk mayT mayV ctabV ctabN storyV storyOk storyN storyT ctermV ctermL followsF agreeN agreeB closeB chkN checks nextOk ints hfV clL provesF onceB proofV noneK
set_option maxRecDepth 100000 in
set_option maxHeartbeats 8000000 in
theorem specProofOk (p fi : Int) (qs : List QC) (ms : List (Int × Int)) (sp : List Sp3) (B : Nat) (v u pv : Value) (w : World) (hr : RdStory w B v qs) (hr' : RdMarks w B u ms) (hp : RdSplits w B pv sp) (hB : B ≤ w.heap.size) :
    Calls Tryd.prog 24 #[.int .i64 p, v, u, .agg #[.int .i64 fi, pv]] w fun e w' => e = .returned (.bool (provesF p (qs.map (·.2)) ms sp fi)) ∧ Below w.heap.size w w' := by
  have hsc := fun w h hB => specStoryOk p qs B v w h hB
  have htc := fun w h => specTermOk p ms B u w h
  have Hp := Lib.hid hp
  obtain ⟨po, pcap, rfl, hple, hpm, _⟩ := hp
  unfold maxLen at hpm
  have Hr := Lib.hid hr
  have Hm := Lib.hid hr'
  clear hr hr'
  obtain ⟨wo, rfl⟩ : ∃ wo : World, wo = w := ⟨_, rfl⟩
  cases hok : storyOk p (qs.map (·.2)) with
  | false =>
    have Hf := Lib.hid (proves_no1 (ms := ms) (sp := sp) (fi := fi) hok)
    rw [hok] at hsc
    have Hsc := Lib.hid hsc
    clear hok hsc htc
    generalize hn : sp.length = n at *
    clear hn
    go_enter Tryd.func24, Tryd.ntmps24
    go_upto_region 1 with fail
    obtain ⟨w2, hw2, f1, f2, hbw, hsz⟩ := new_two wo (.int .i64 fi) (.slice po n pcap) 37
    rw [← hw2]
    have Hr2 := Lib.hid (Hr.out.below (w' := w2) (fun q hq => hbw.block q (by omega)))
    have hB2 : B ≤ w2.heap.size := by omega
    have Hbw := Lib.hid hbw
    clear hw2 hbw
    go_wp2_with fail
    refine (Hsc.out _ Hr2.out hB2).mono ?_
    rintro e w3 ⟨rfl, hb3⟩
    have Hb3 := Lib.hid (Hbw.out.trans (hb3.mono Hbw.out.size)); clear hb3
    go_wp2
    go_ret
    exact ⟨by rw [Hf.out]; rfl, Hb3.out⟩
  | true =>
  cases ht : termOk p ms with
  | false =>
    have Hf := Lib.hid (proves_no2 (s := qs.map (·.2)) (sp := sp) (fi := fi) ht)
    rw [hok] at hsc
    rw [ht] at htc
    have Hsc := Lib.hid hsc
    have Htc := Lib.hid htc
    clear hok hsc htc ht
    generalize hn : sp.length = n at *
    clear hn
    go_enter Tryd.func24, Tryd.ntmps24
    go_upto_region 1 with fail
    obtain ⟨w2, hw2, f1, f2, hbw, hsz⟩ := new_two wo (.int .i64 fi) (.slice po n pcap) 37
    rw [← hw2]
    have Hr2 := Lib.hid (Hr.out.below (w' := w2) (fun q hq => hbw.block q (by omega)))
    have Hm2 := Lib.hid (Hm.out.below (w' := w2) (fun q hq => hbw.block q (by omega)))
    have hB2 : B ≤ w2.heap.size := by omega
    have Hbw := Lib.hid hbw
    clear hw2 hbw
    go_wp2_with fail
    refine (Hsc.out _ Hr2.out hB2).mono ?_
    rintro e w3 ⟨rfl, hb3⟩
    have Hm3 := Lib.hid (Hm2.out.below (w' := w3) (fun q hq => hb3.block q (by omega)))
    have Hb3 := Lib.hid (Hbw.out.trans (hb3.mono Hbw.out.size)); clear hb3
    go_wp2_with fail
    refine (Htc.out _ Hm3.out).mono ?_
    rintro e w' ⟨rfl, rfl⟩
    go_wp2
    go_ret
    exact ⟨by rw [Hf.out]; rfl, Hb3.out⟩
  | true =>
  have hp14 := p_of ht
  obtain ⟨P, rfl⟩ := Int.eq_ofNat_of_zero_le (show 0 ≤ p by omega)
  by_cases hgood : sp.length ≤ 15 ∧ fi ≤ 0 ∧ ¬ (fi = 0 ∧ sp.length = 0)
  case neg =>
    have Hf := Lib.hid (proves_no3 (p := (P : Int)) (s := qs.map (·.2)) (ms := ms) hgood)
    rw [hok] at hsc
    rw [ht] at htc
    have Hsc := Lib.hid hsc
    have Htc := Lib.hid htc
    clear hok hsc htc ht hp14
    generalize hn : sp.length = n at *
    clear hn
    go_enter Tryd.func24, Tryd.ntmps24
    go_upto_region 1 with fail
    obtain ⟨w2, hw2, f1, f2, hbw, hsz⟩ := new_two wo (.int .i64 fi) (.slice po n pcap) 37
    rw [← hw2]
    have Hr2 := Lib.hid (Hr.out.below (w' := w2) (fun q hq => hbw.block q (by omega)))
    have Hm2 := Lib.hid (Hm.out.below (w' := w2) (fun q hq => hbw.block q (by omega)))
    have hB2 : B ≤ w2.heap.size := by omega
    have Hbw := Lib.hid hbw
    clear hw2 hbw
    go_wp2_with fail
    refine (Hsc.out _ Hr2.out hB2).mono ?_
    rintro e w3 ⟨rfl, hb3⟩
    have Hm3 := Lib.hid (Hm2.out.below (w' := w3) (fun q hq => hb3.block q (by omega)))
    have m1 := (hb3.cell (p := ⟨wo.heap.size, 0, none⟩) hsz).trans f1
    have m2 := (hb3.cell (p := ⟨wo.heap.size, 1, none⟩) hsz).trans f2
    have Hb3 := Lib.hid (Hbw.out.trans (hb3.mono Hbw.out.size)); clear hb3
    go_wp2_with fail
    refine (Htc.out _ Hm3.out).mono ?_
    rintro e w' ⟨rfl, rfl⟩
    by_cases h15 : n ≤ 15
    · by_cases h0 : fi ≤ 0
      · obtain ⟨rfl, rfl⟩ : fi = 0 ∧ n = 0 := by
          by_cases hq : fi = 0 ∧ n = 0
          · exact hq
          · exact absurd ⟨h15, h0, hq⟩ hgood
        clear hgood
        go_wp2
        go_ret
        exact ⟨by rw [Hf.out]; rfl, Hb3.out⟩
      · clear hgood
        go_wp2
        go_ret
        exact ⟨by rw [Hf.out]; rfl, Hb3.out⟩
    · clear hgood
      go_wp2
      go_ret
      exact ⟨by rw [Hf.out]; rfl, Hb3.out⟩
  obtain ⟨h15, h0, h00⟩ := hgood
  have hy := proves_yes hok ht ⟨h15, h0, h00⟩
  rw [Int.toNat_natCast] at hy
  have hck := fun kv w h1 h2 h3 h4 h5 => specChecks P qs ms hok ht sp h15 fi (sp.length + 1) fi (noneK P) (noneK_len P) (by omega) (by omega) (by omega) w.heap.size v u (.slice po sp.length pcap) kv w h1 h2 h3 h4 h5
  rw [chk_dec] at hy
  have Hck := Lib.hid hck
  have Hone := Lib.hid (fun w h hB => specOnce sp fi h15 B (.slice po sp.length pcap) w h hB)
  have Hnt := Lib.hid (fun w => specNothing P (by omega) w)
  have Hnl : Hid ((noneK P).length = P) := noneK_len P
  rw [hok] at hsc
  rw [ht] at htc
  have Hsc := Lib.hid hsc
  have Htc := Lib.hid htc
  have Hf := Lib.hid hy
  clear hsc htc hok ht hck hp14 hy
  generalize provesF (P : Int) (qs.map (·.2)) ms sp fi = R at *
  generalize checks P (hfV (P : Int) ms) (clL (P : Int) (qs.map (·.2))) sp (sp.length + 1) fi (noneK P) = C at *
  generalize onceB sp = O at *
  generalize noneK P = kn at *
  generalize chkN C = cn at *
  generalize C.isSome = co at *
  generalize hn : sp.length = n at *
  clear hn
  have hway : (fi < 0 ∧ ¬ fi = 0) ∨ (fi = 0 ∧ ¬ n = 0) := by omega
  clear h0 h00
  rcases hway with ⟨hw1, hw2⟩ | ⟨rfl, hw2⟩
  · go_enter Tryd.func24, Tryd.ntmps24
    go_upto_region 1 with fail
    obtain ⟨w2, hw2, f1, f2, hbw, hsz⟩ := new_two wo (.int .i64 fi) (.slice po n pcap) 37
    rw [← hw2]
    have Hr2 := Lib.hid (Hr.out.below (w' := w2) (fun q hq => hbw.block q (by omega)))
    have Hm2 := Lib.hid (Hm.out.below (w' := w2) (fun q hq => hbw.block q (by omega)))
    have Hp2 := Lib.hid (Hp.out.below (w' := w2) (fun q hq => hbw.block q (by omega)))
    have hB2 : B ≤ w2.heap.size := by omega
    have hgs : wo.heap.size < w2.heap.size := hsz
    have Hbw := Lib.hid hbw
    clear hw2 hbw
    go_wp2_with fail
    refine (Hsc.out _ Hr2.out hB2).mono ?_
    rintro e w3 ⟨rfl, hb3⟩
    have Hr3 := Lib.hid (Hr2.out.below (w' := w3) (fun q hq => hb3.block q (by omega)))
    have Hm3 := Lib.hid (Hm2.out.below (w' := w3) (fun q hq => hb3.block q (by omega)))
    have Hp3 := Lib.hid (Hp2.out.below (w' := w3) (fun q hq => hb3.block q (by omega)))
    have m1 := (hb3.cell (p := ⟨wo.heap.size, 0, none⟩) hgs).trans f1
    have m2 := (hb3.cell (p := ⟨wo.heap.size, 1, none⟩) hgs).trans f2
    have hs3 := hb3.size
    have Hb3 := Lib.hid (Hbw.out.trans (hb3.mono (by omega))); clear hb3 f1 f2
    go_wp2_with fail
    refine (Htc.out _ Hm3.out).mono ?_
    rintro e w' ⟨rfl, rfl⟩
    go_wp2_with fail
    go_region_held3 (fun w' => w'.cell? ⟨wo.heap.size, 0, none⟩ = some (.int .i64 fi) ∧ w'.cell? ⟨wo.heap.size, 1, none⟩ = some (.slice po n pcap))
      (first | (refine ⟨?_, ?_⟩ <;> first | assumption | go_keep) | assumption)
      (first
        | (go_at_call 41
           (with_reducible refine (Hnt.out _).mono ?_)
           rintro e w5 ⟨kv, rfl, hown, hb5'⟩
           go_must (have hb5 : Below w3.heap.size w3 w5 := by first | exact hb5' | exact below_undrewS hb5' | exact below_undrewN hb5'
                    have Hown := Lib.hid (own_mono hown (Nat.le_refl _))
                    have n1 := (hb5.cell (p := ⟨wo.heap.size, 0, none⟩) (by show wo.heap.size < w3.heap.size; omega)).trans m1
                    have n2 := (hb5.cell (p := ⟨wo.heap.size, 1, none⟩) (by show wo.heap.size < w3.heap.size; omega)).trans m2
                    have hs5 := hb5.size
                    have hk5 := rd_own_ints Hnl.out hown
                    have Hcall := Lib.hid (Hck.out kv w5 ((Hr3.out.below (w' := w5) (fun q hq => hb5.block q (by omega))).mono (by omega)) ((Hm3.out.below (w' := w5) (fun q hq => hb5.block q (by omega))).mono (by omega)) ((Hp3.out.below (w' := w5) (fun q hq => hb5.block q (by omega))).mono (by omega)) hk5 (Nat.le_refl _))
                    have Hb5 := Lib.hid hb5
                    clear hb5 hb5' hown hk5))
        | (go_at_call 40
           (with_reducible refine Hcall.out.mono ?_)
           rintro e w6 ⟨rfl, hb6'⟩
           go_must (have hb6 : Below w5.heap.size w5 w6 := by first | exact hb6' | exact below_undrewS hb6' | exact below_undrewN hb6'
                    have k1 := (hb6.cell (p := ⟨wo.heap.size, 0, none⟩) (by show wo.heap.size < w5.heap.size; omega)).trans n1
                    have k2 := (hb6.cell (p := ⟨wo.heap.size, 1, none⟩) (by show wo.heap.size < w5.heap.size; omega)).trans n2
                    have hb36 := Hb5.out.trans (hb6.mono (by omega))
                    have Hb6 := Lib.hid (Hb3.out.trans (hb36.mono (by omega)))
                    have Hp6 := Lib.hid (Hp3.out.below (w' := w6) (fun q hq => hb36.block q (by omega)))
                    have hB6 : B ≤ w6.heap.size := by have := hb36.size; omega
                    clear hb6 hb6' hb36))
        | fail)
    cases co
    · go_wp2
      go_ret
      exact ⟨by rw [Hf.out]; rfl, Hb6.out⟩
    · by_cases hcn : cn = (n : Int)
      · have Hf' : Hid (R = O) := by unfold Hid; rw [Hf.out, decide_eq_true hcn]; rfl
        have hcb : (cn == (n : Int)) = true := by rw [beq_iff_eq]; exact hcn
        clear hcn
        go_wp2_with fail
        refine (Hone.out _ Hp6.out hB6).mono ?_
        rintro e w7 ⟨rfl, hb7⟩
        have Hb7 := Lib.hid (Hb6.out.trans (hb7.mono Hb6.out.size)); clear hb7
        go_wp2
        go_ret
        exact ⟨by rw [Hf'.out]; rfl, Hb7.out⟩
      · have Hf' : Hid (R = false) := by unfold Hid; rw [Hf.out, decide_eq_false hcn]; rfl
        have hcb : (cn == (n : Int)) = false := by rw [beq_eq_false_iff_ne]; exact hcn
        clear hcn
        go_wp2
        go_ret
        exact ⟨by rw [Hf'.out]; rfl, Hb6.out⟩
  · have hw3 : ¬ (n : Int) = 0 := by omega
    have hw4 : ((n : Int) == 0) = false := by rw [beq_eq_false_iff_ne]; exact hw3
    go_enter Tryd.func24, Tryd.ntmps24
    go_upto_region 1 with fail
    obtain ⟨w2, hw2, f1, f2, hbw, hsz⟩ := new_two wo (.int .i64 0) (.slice po n pcap) 37
    rw [← hw2]
    have Hr2 := Lib.hid (Hr.out.below (w' := w2) (fun q hq => hbw.block q (by omega)))
    have Hm2 := Lib.hid (Hm.out.below (w' := w2) (fun q hq => hbw.block q (by omega)))
    have Hp2 := Lib.hid (Hp.out.below (w' := w2) (fun q hq => hbw.block q (by omega)))
    have hB2 : B ≤ w2.heap.size := by omega
    have hgs : wo.heap.size < w2.heap.size := hsz
    have Hbw := Lib.hid hbw
    clear hw2 hbw
    go_wp2_with fail
    refine (Hsc.out _ Hr2.out hB2).mono ?_
    rintro e w3 ⟨rfl, hb3⟩
    have Hr3 := Lib.hid (Hr2.out.below (w' := w3) (fun q hq => hb3.block q (by omega)))
    have Hm3 := Lib.hid (Hm2.out.below (w' := w3) (fun q hq => hb3.block q (by omega)))
    have Hp3 := Lib.hid (Hp2.out.below (w' := w3) (fun q hq => hb3.block q (by omega)))
    have m1 := (hb3.cell (p := ⟨wo.heap.size, 0, none⟩) hgs).trans f1
    have m2 := (hb3.cell (p := ⟨wo.heap.size, 1, none⟩) hgs).trans f2
    have hs3 := hb3.size
    have Hb3 := Lib.hid (Hbw.out.trans (hb3.mono (by omega))); clear hb3 f1 f2
    go_wp2_with fail
    refine (Htc.out _ Hm3.out).mono ?_
    rintro e w' ⟨rfl, rfl⟩
    go_wp2_with fail
    go_region_held3 (fun w' => w'.cell? ⟨wo.heap.size, 0, none⟩ = some (.int .i64 0) ∧ w'.cell? ⟨wo.heap.size, 1, none⟩ = some (.slice po n pcap))
      (first | (refine ⟨?_, ?_⟩ <;> first | assumption | go_keep) | assumption)
      (first
        | (go_at_call 41
           (with_reducible refine (Hnt.out _).mono ?_)
           rintro e w5 ⟨kv, rfl, hown, hb5'⟩
           go_must (have hb5 : Below w3.heap.size w3 w5 := by first | exact hb5' | exact below_undrewS hb5' | exact below_undrewN hb5'
                    have Hown := Lib.hid (own_mono hown (Nat.le_refl _))
                    have n1 := (hb5.cell (p := ⟨wo.heap.size, 0, none⟩) (by show wo.heap.size < w3.heap.size; omega)).trans m1
                    have n2 := (hb5.cell (p := ⟨wo.heap.size, 1, none⟩) (by show wo.heap.size < w3.heap.size; omega)).trans m2
                    have hs5 := hb5.size
                    have hk5 := rd_own_ints Hnl.out hown
                    have Hcall := Lib.hid (Hck.out kv w5 ((Hr3.out.below (w' := w5) (fun q hq => hb5.block q (by omega))).mono (by omega)) ((Hm3.out.below (w' := w5) (fun q hq => hb5.block q (by omega))).mono (by omega)) ((Hp3.out.below (w' := w5) (fun q hq => hb5.block q (by omega))).mono (by omega)) hk5 (Nat.le_refl _))
                    have Hb5 := Lib.hid hb5
                    clear hb5 hb5' hown hk5))
        | (go_at_call 40
           (with_reducible refine Hcall.out.mono ?_)
           rintro e w6 ⟨rfl, hb6'⟩
           go_must (have hb6 : Below w5.heap.size w5 w6 := by first | exact hb6' | exact below_undrewS hb6' | exact below_undrewN hb6'
                    have k1 := (hb6.cell (p := ⟨wo.heap.size, 0, none⟩) (by show wo.heap.size < w5.heap.size; omega)).trans n1
                    have k2 := (hb6.cell (p := ⟨wo.heap.size, 1, none⟩) (by show wo.heap.size < w5.heap.size; omega)).trans n2
                    have hb36 := Hb5.out.trans (hb6.mono (by omega))
                    have Hb6 := Lib.hid (Hb3.out.trans (hb36.mono (by omega)))
                    have Hp6 := Lib.hid (Hp3.out.below (w' := w6) (fun q hq => hb36.block q (by omega)))
                    have hB6 : B ≤ w6.heap.size := by have := hb36.size; omega
                    clear hb6 hb6' hb36))
        | fail)
    cases co
    · go_wp2
      go_ret
      exact ⟨by rw [Hf.out]; rfl, Hb6.out⟩
    · by_cases hcn : cn = (n : Int)
      · have Hf' : Hid (R = O) := by unfold Hid; rw [Hf.out, decide_eq_true hcn]; rfl
        have hcb : (cn == (n : Int)) = true := by rw [beq_iff_eq]; exact hcn
        clear hcn
        go_wp2_with fail
        refine (Hone.out _ Hp6.out hB6).mono ?_
        rintro e w7 ⟨rfl, hb7⟩
        have Hb7 := Lib.hid (Hb6.out.trans (hb7.mono Hb6.out.size)); clear hb7
        go_wp2
        go_ret
        exact ⟨by rw [Hf'.out]; rfl, Hb7.out⟩
      · have Hf' : Hid (R = false) := by unfold Hid; rw [Hf.out, decide_eq_false hcn]; rfl
        have hcb : (cn == (n : Int)) = false := by rw [beq_eq_false_iff_ne]; exact hcn
        clear hcn
        go_wp2
        go_ret
        exact ⟨by rw [Hf'.out]; rfl, Hb6.out⟩
end Go.Proofs.YtefmoljipbbmmaaDoor
