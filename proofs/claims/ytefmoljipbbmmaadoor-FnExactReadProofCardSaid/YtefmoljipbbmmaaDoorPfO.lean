/- Contract of the program's ProofOk. -/
import Derived.Test.YtefmoljipbbmmaaDoorPfC
import Derived.Test.YtefmoljipbbmmaaDoorTruthI
import Derived.Test.YtefmoljipbbmmaaDoorProveQ
namespace Go.Proofs.YtefmoljipbbmmaaDoor
open Go.RowKit Go.Joins
attribute [local irreducible] holds tabN tabV holdsV sameV followsV alwaysV matterV claimOk mayT mayV ctabV ctabN storyV storyOk storyN storyT ctermV ctermL clT intsN agreeN closeB closeT hfV clL walkF KnOk ProvesOut followsF provesF
theorem provesF_no1 {p : Int} {s : List Cl} {ms : List (Int × Int)} {sp : List Sp3} {fi : Int} (h : storyOk p s = false) : provesF p s ms sp fi = false := by unfold provesF; rw [h]; rfl
theorem provesF_no2 {p : Int} {s : List Cl} {ms : List (Int × Int)} {sp : List Sp3} {fi : Int} (h : termOk p ms = false) : provesF p s ms sp fi = false := by unfold provesF; rw [h]; simp
theorem provesF_no3 {p : Int} {s : List Cl} {ms : List (Int × Int)} {sp : List Sp3} {fi : Int} (h : ¬ sp.length ≤ 15) : provesF p s ms sp fi = false := by
  cases hp : provesF p s ms sp fi with
  | false => rfl
  | true => exact absurd (proofV_iff.1 (provesF_iff.1 hp).2.2).1 h
theorem provesF_walk {P : Nat} {s : List Cl} {ms : List (Int × Int)} {sp : List Sp3} {fi : Int} (hs : storyOk P s = true) (ht : termOk P ms = true) (hl : sp.length ≤ 15) :
    provesF P s ms sp fi = decide (walkF P (hfV P ms) (clL P s) sp (sp.length + 1) 0 (-1) fi (noneK P) = some (2 ^ sp.length - 1)) := by
  rw [Bool.eq_iff_iff, decide_eq_true_eq, walk_proof hl, provesF_iff, Int.toNat_natCast]
  exact ⟨fun h => h.2.2, fun h => ⟨hs, ht, h⟩⟩
theorem proves_i64 {p : Int} {s : List Cl} {ms : List (Int × Int)} {sp : List Sp3} {fi : Int} (h : provesF p s ms sp fi = true) : I64 fi := by
  obtain ⟨h1, _, h3⟩ := provesF_iff.1 h
  obtain ⟨_, h4, _, h5, _⟩ := proofV_iff.1 h3
  have h6 := (storyOk_iff.1 h1).2.2
  by_cases h0 : fi < 0
  · by_cases hg : fi = -1
    · exact I64_small (by omega) (by omega)
    · rw [checks_leaf h0] at h5
      split at h5
      · rename_i hc
        have := ((close_claim hg).1 hc).1
        rw [clL_len] at this
        exact I64_small (by omega) (by omega)
      · cases h5
  · exact I64_small (by omega) (by omega)
theorem find_i64 (p : Int) (s : List Cl) (ms : List (Int × Int)) : I64 (foundG (findF p s ms)) := by
  cases h : findF p s ms with
  | none => exact I64_small (by decide) (by decide)
  | some t => exact proves_i64 (find_proof h)
theorem read_i64 (p : Int) (s : List Cl) (ms : List (Int × Int)) (bs : List Nat) : I64 (foundG (readF p s ms bs)) := by
  cases h : readF p s ms bs with
  | none => exact I64_small (by decide) (by decide)
  | some t => exact proves_i64 (readF_iff.1 h).2.2
/-- what lies when a proof is checked: the checker in a block of its own, what it reads elsewhere, and the proof's variable -/
def CheckIn (wo : World) (fi : Int) (P T : Nat) (Z : List Nat) (sp : List Sp3) (sv c : Value) (wr : World) : Prop :=
  ∃ (b : Nat) (co : Option Addr) (cc : Nat), c = .pointer (some ⟨b, 0, none⟩) ∧ Box5 wr b (.int .i64 P) (.int .i64 T) (.slice co Z.length cc) sv (.int .i64 0) ∧ KeepsT wr b (.slice co Z.length cc) Z ∧ KeepsS wr b sv sp ∧ Box wr wo.heap.size (.int .i64 fi) sv ∧ wo.heap.size < b ∧ Below wo.heap.size wo wr
theorem checkA {wo w4 : World} {fi : Int} {P T : Nat} {Z : List Nat} {sp : List Sp3} {sv : Value} {co : Option Addr} {cc B base : Nat} (ty : TypeId) (ho : w4.ownsRow base 3 1 (.slice co Z.length cc) Z.length (intsN Z)) (h6 : Z.length ≤ 6) (hz : ∀ j, Z.getD j 0 < 65536)
    (hp : RdSplits w4 B sv sp) (hB : B ≤ w4.heap.size) (hx : Box w4 wo.heap.size (.int .i64 fi) sv) (hb : Below wo.heap.size wo w4) :
    CheckIn wo fi P T Z sp sv (.pointer (some ⟨w4.heap.size, 0, none⟩)) (w4.alloc (.cells #[.int .i64 P, .int .i64 T, .slice co Z.length cc, sv, .int .i64 0] ty)) := by
  obtain ⟨wz, hwz, hxz, hbz, hsz⟩ := Box5.new w4 (.int .i64 P) (.int .i64 T) (.slice co Z.length cc) sv (.int .i64 0) ty
  rw [← hwz]
  exact ⟨w4.heap.size, co, cc, rfl, hxz, KeepsT.of ((RdTabs.of_own ho h6 hz).below hbz.block) (Nat.le_refl _) (by omega), KeepsS.of (hp.below (fun k hk => hbz.block k (by omega))) hB (by omega), hx.below hbz, hx.2.2.2.2, hb.trans (hbz.mono (by have := hx.2.2.2.2; omega))⟩
theorem checkB {wo w4 : World} {fi : Int} {P T g : Nat} {Z : List Nat} {sp : List Sp3} {sv a0 a1 a2 a3 a4 : Value} {co : Option Addr} {cc B base : Nat} (hx5 : Box5 w4 g a0 a1 a2 a3 a4) (ho : w4.ownsRow base 3 1 (.slice co Z.length cc) Z.length (intsN Z)) (hbase : g < base) (h6 : Z.length ≤ 6) (hz : ∀ j, Z.getD j 0 < 65536)
    (hp : RdSplits w4 B sv sp) (hB : B ≤ g) (hx : Box w4 wo.heap.size (.int .i64 fi) sv) (hg0 : wo.heap.size < g) (hb : Below wo.heap.size wo w4) :
    CheckIn wo fi P T Z sp sv (.pointer (some ⟨g, 0, none⟩)) (((((w4.setCell ⟨g, 0, none⟩ (.int .i64 P)).setCell ⟨g, 1, none⟩ (.int .i64 T)).setCell ⟨g, 2, none⟩ (.slice co Z.length cc)).setCell ⟨g, 3, none⟩ sv).setCell ⟨g, 4, none⟩ (.int .i64 0)) := by
  obtain ⟨b0, e0⟩ := hx5.set0 (.int .i64 P)
  obtain ⟨b1, e1⟩ := b0.set1 (.int .i64 T)
  obtain ⟨b2, e2⟩ := b1.set2 (.slice co Z.length cc)
  obtain ⟨b3, e3⟩ := b2.set3 sv
  obtain ⟨b4, e4⟩ := b3.set4 (.int .i64 0)
  have hg := grown_trans (grown_trans (grown_trans (grown_trans e0 e1) e2) e3) e4
  exact ⟨g, co, cc, rfl, b4, KeepsT.own (own_row ho hg hbase) h6 hz hbase, KeepsS.of (hp.below (fun k hk => hg.block k (by have := hx5.lt; omega) (fun e => by cases e; omega))) hB b4.lt, hx.grown hg (by intro e; cases e; omega), hg0, below_grown_rowP hb hg (by have := hx5.lt; omega) (fun q hq => by cases hq; omega)⟩
set_option maxRecDepth 100000 in
set_option maxHeartbeats 8000000 in
theorem implProofOk (p fi : Int) (qs : List QC) (ms : List (Int × Int)) (sp : List Sp3) (B : Nat) (v u pv : Value) (w : World) (hr : RdStory w B v qs) (hr' : RdMarks w B u ms) (hp : RdSplits w B pv sp) (hB : B ≤ w.heap.size) (h64 : I64 fi) :
    Calls Tryd.prog 29 #[.int .i64 p, v, u, .agg #[.int .i64 fi, pv]] w fun e w' => e = .returned (.bool (provesF p (qs.map (·.2)) ms sp fi)) ∧ Below w.heap.size w w' := by
  have Hso := Lib.hid (fun w h hB => implStoryOk p qs B v w h hB)
  have Hto := Lib.hid (fun w h hB => implTermOk p ms B u w h hB)
  obtain ⟨po, pcap, rfl, hple, hpm, hs64, _⟩ := id hp
  unfold maxLen at hpm
  have Hr := Lib.hid hr
  have Hm := Lib.hid hr'
  have Hp := Lib.hid hp
  have H64 := Lib.hid h64
  clear hr hr' hp h64
  obtain ⟨wo, rfl⟩ : ∃ wo : World, wo = w := ⟨_, rfl⟩
  obtain ⟨w1, hw1, hx1, hb1, hs1⟩ := Box.new wo (.int .i64 fi) (.slice po sp.length pcap) 37
  have Hr1 := Lib.hid (Hr.out.below (w' := w1) (fun q hq => hb1.block q (by omega)))
  have Hm1 := Lib.hid (Hm.out.below (w' := w1) (fun q hq => hb1.block q (by omega)))
  have Hp1 := Lib.hid (Hp.out.below (w' := w1) (fun q hq => hb1.block q (by omega)))
  have Hb1 := Lib.hid hb1
  have HX1 := Lib.hid hx1
  have hB1 : B ≤ w1.heap.size := by omega
  have Hs1 := Lib.hid hs1
  clear hb1 hs1 Hr Hm Hp
  cases hok : storyOk p (qs.map (·.2)) with
  | false =>
    have Hf := Lib.hid (provesF_no1 (ms := ms) (sp := sp) (fi := fi) hok)
    rw [hok] at Hso
    clear hok hs64
    generalize sp.length = L at *
    obtain ⟨x1, x2, x3, x4, x5⟩ := hx1
    go_enter Tryd.func29, Tryd.ntmps29
    go_upto_region 1 with fail
    rw [← hw1]
    clear hw1
    go_wp2_with fail
    refine (Hso.out _ Hr1.out hB1).mono ?_
    rintro e w2 ⟨rfl, hb2⟩
    have Hb2 := Lib.hid (Hb1.out.trans (hb2.mono Hb1.out.size)); clear hb2
    go_wp2
    go_ret
    exact ⟨by rw [Hf.out]; rfl, Hb2.out⟩
  | true =>
  cases ht : termOk p ms with
  | false =>
    have Hf := Lib.hid (provesF_no2 (s := qs.map (·.2)) (sp := sp) (fi := fi) ht)
    rw [hok] at Hso
    rw [ht] at Hto
    clear hok ht hs64
    generalize sp.length = L at *
    obtain ⟨x1, x2, x3, x4, x5⟩ := hx1
    go_enter Tryd.func29, Tryd.ntmps29
    go_upto_region 1 with fail
    rw [← hw1]
    clear hw1
    go_wp2_with fail
    refine (Hso.out _ Hr1.out hB1).mono ?_
    rintro e w2 ⟨rfl, hb2⟩
    have hB2 : B ≤ w2.heap.size := Nat.le_trans hB1 hb2.size
    have Hm2 := Lib.hid (Hm1.out.below (w' := w2) (fun q hq => hb2.block q (by omega)))
    have Hb2 := Lib.hid (Hb1.out.trans (hb2.mono Hb1.out.size)); clear hb2
    go_wp2_with fail
    refine (Hto.out _ Hm2.out hB2).mono ?_
    rintro e w3 ⟨rfl, hb3⟩
    have Hb3 := Lib.hid (Hb2.out.trans (hb3.mono Hb2.out.size)); clear hb3
    go_wp2
    go_ret
    exact ⟨by rw [Hf.out]; rfl, Hb3.out⟩
  | true =>
  rw [hok] at Hso
  rw [ht] at Hto
  obtain ⟨x1, x2, x3, x4, x5⟩ := hx1
  by_cases hl : sp.length ≤ 15
  case neg =>
    have Hf := Lib.hid (provesF_no3 (p := p) (s := qs.map (·.2)) (ms := ms) (fi := fi) hl)
    clear hok ht hs64
    generalize sp.length = L at *
    have hlI : (15 : Int) < (L : Int) := by omega
    go_enter Tryd.func29, Tryd.ntmps29
    go_upto_region 1 with fail
    rw [← hw1]
    clear hw1
    go_wp2_with fail
    refine (Hso.out _ Hr1.out hB1).mono ?_
    rintro e w2 ⟨rfl, hb2⟩
    have hB2 : B ≤ w2.heap.size := Nat.le_trans hB1 hb2.size
    have Hm2 := Lib.hid (Hm1.out.below (w' := w2) (fun q hq => hb2.block q (by omega)))
    have HX2 := Lib.hid (HX1.out.below hb2)
    have Hb2 := Lib.hid (Hb1.out.trans (hb2.mono Hb1.out.size)); clear hb2 x1 x2 x3 x4 x5
    go_wp2_with fail
    refine (Hto.out _ Hm2.out hB2).mono ?_
    rintro e w3 ⟨rfl, hb3⟩
    obtain ⟨x1, x2, x3, x4, x5⟩ := HX2.out.below hb3
    have Hb3 := Lib.hid (Hb2.out.trans (hb3.mono Hb2.out.size)); clear hb3
    go_wp2
    go_ret
    exact ⟨by rw [Hf.out]; rfl, Hb3.out⟩
  obtain ⟨h1, h4⟩ := p_of ht
  obtain ⟨P, rfl⟩ := Int.eq_ofNat_of_zero_le (show 0 ≤ p by omega)
  have Hf := Lib.hid (provesF_walk (fi := fi) hok ht hl)
  have Hgr := Lib.hid (fun w h h' hB => implGroundsOf (P : Int) qs ms hok ht B v u w h h' hB)
  have Hall := Lib.hid (fun w => implAllWorlds (P : Int) h1 h4 w)
  have hAll : allV (P : Int) = ((agreeN (P : Int) (noneK P) : Nat) : Int) := by
    have := agree_all h1
    rw [Int.toNat_natCast] at this
    rw [this]; unfold allV; rw [Int.toNat_natCast]
  rw [hAll] at Hall
  have HT : Hid (tabN (P : Int) ms < 65536) := tabN_lt ht
  have HZ6 : Hid ((clT (P : Int) (qs.map (·.2))).length ≤ 6) := by unfold Hid; rw [clT_len]; exact (storyOk_iff.1 hok).2.2
  have HZb : Hid (∀ j, (clT (P : Int) (qs.map (·.2))).getD j 0 < 65536) := clT_lt h1 h4
  have hpv := implProves P (tabN (P : Int) ms) (by omega) (by omega) (clT (P : Int) (qs.map (·.2))) HT (hfV P ms) (clL P (qs.map (·.2))) sp hl hs64 (fun g kn hg => by
    have := close_T (p := (P : Int)) (s := qs.map (·.2)) (ms := ms) (kn := kn) hg
    rwa [Int.toNat_natCast] at this) (sp.length + 1)
  unfold ProvesC at hpv
  have Hpv := Lib.hid (hpv 0 (-1) fi (noneK P) (KnOk.none P) (by decide) (fun _ => by omega) (fun _ _ => by omega) (by omega) (by omega) H64.out)
  clear hpv hAll hok ht
  generalize hR : walkF P (hfV (P : Int) ms) (clL (P : Int) (qs.map (·.2))) sp (sp.length + 1) 0 (-1) fi (noneK P) = R at *
  generalize clT (P : Int) (qs.map (·.2)) = Z at *
  generalize tabN (P : Int) ms = T at *
  generalize agreeN (P : Int) (noneK P) = A at *
  clear hR hs64
  have hN : (2 : Nat) ^ sp.length < 65536 := Nat.pow_lt_pow_right (a := 2) (n := 16) (by decide) (by omega)
  generalize sp.length = L at *
  go_enter Tryd.func29, Tryd.ntmps29
  go_upto_region 1 with fail
  rw [← hw1]
  clear hw1
  go_wp2_with fail
  refine (Hso.out _ Hr1.out hB1).mono ?_
  rintro e w2 ⟨rfl, hb2⟩
  have hB2 : B ≤ w2.heap.size := Nat.le_trans hB1 hb2.size
  have Hm2 := Lib.hid (Hm1.out.below (w' := w2) (fun q hq => hb2.block q (by omega)))
  have Hr2 := Lib.hid (Hr1.out.below (w' := w2) (fun q hq => hb2.block q (by omega)))
  have Hp2 := Lib.hid (Hp1.out.below (w' := w2) (fun q hq => hb2.block q (by omega)))
  have HX2 := Lib.hid (HX1.out.below hb2)
  have Hb2 := Lib.hid (Hb1.out.trans (hb2.mono Hb1.out.size)); clear hb2 x1 x2 x3 x4 x5
  go_wp2_with fail
  refine (Hto.out _ Hm2.out hB2).mono ?_
  rintro e w3 ⟨rfl, hb3⟩
  have hB3 : B ≤ w3.heap.size := Nat.le_trans hB2 hb3.size
  have Hm3 := Lib.hid (Hm2.out.below (w' := w3) (fun q hq => hb3.block q (by omega)))
  have Hr3 := Lib.hid (Hr2.out.below (w' := w3) (fun q hq => hb3.block q (by omega)))
  have Hp3 := Lib.hid (Hp2.out.below (w' := w3) (fun q hq => hb3.block q (by omega)))
  have HX3 := Lib.hid (HX2.out.below hb3)
  obtain ⟨x1, x2, x3, x4, x5⟩ := HX2.out.below hb3
  have Hb3 := Lib.hid (Hb2.out.trans (hb3.mono Hb2.out.size)); clear hb3
  go_upto_region 3 with fail
  go_cut [9] from 10 (fun c wr => CheckIn wo fi P T Z sp (.slice po L pcap) c wr)
  case first =>
    have HY3 := Lib.hid (HX3.out.alloc (.cells #[.int .i64 0, .int .i64 0, .slice none 0 0, .slice none 0 0, .int .i64 0] 92))
    have Hr3a := Lib.hid (Hr3.out.below (w' := w3.alloc (.cells #[.int .i64 0, .int .i64 0, .slice none 0 0, .slice none 0 0, .int .i64 0] 92)) (fun q hq => Below.heap_alloc w3 _ q (Nat.lt_of_lt_of_le hq hB3)))
    have Hm3a := Lib.hid (Hm3.out.below (w' := w3.alloc (.cells #[.int .i64 0, .int .i64 0, .slice none 0 0, .slice none 0 0, .int .i64 0] 92)) (fun q hq => Below.heap_alloc w3 _ q (Nat.lt_of_lt_of_le hq hB3)))
    have Hp3a := Lib.hid (Hp3.out.below (w' := w3.alloc (.cells #[.int .i64 0, .int .i64 0, .slice none 0 0, .slice none 0 0, .int .i64 0] 92)) (fun q hq => Below.heap_alloc w3 _ q (Nat.lt_of_lt_of_le hq hB3)))
    have HZ3 : Hid (Box5 (w3.alloc (.cells #[.int .i64 0, .int .i64 0, .slice none 0 0, .slice none 0 0, .int .i64 0] 92)) w3.heap.size (.int .i64 0) (.int .i64 0) (.slice none 0 0) (.slice none 0 0) (.int .i64 0)) := by
      obtain ⟨wz, hwz, hz, _, _⟩ := Box5.new w3 (.int .i64 0) (.int .i64 0) (.slice none 0 0) (.slice none 0 0) (.int .i64 0) 92
      rw [hwz] at hz
      exact hz
    go_region_law
      (first
        | (go_simp
           go_at_call 47
           refine (Hgr.out _ (by exact Hr3.out) (by exact Hm3.out) (by exact hB3)).mono ?_
           rintro e w4 ⟨cv, rfl, ho4, hb4'⟩
           have hb4 : Below w3.heap.size w3 w4 := by first | exact hb4' | exact below_undrewS hb4' | exact below_undrewN hb4'
           go_must (have hx4 := HX3.out.below hb4
                    have HX4 := Lib.hid hx4
                    obtain ⟨co, cc, hcv⟩ := own_len ho4
                    subst hcv
                    obtain ⟨x1, x2, x3, x4, x5⟩ := hx4
                    have HC := Lib.hid (checkA (P := P) (T := T) 92 ho4 HZ6.out HZb.out (Hp3.out.below (w' := w4) (fun k hk => hb4.block k (by omega))) (by have := hb4.size; omega) HX4.out (Hb3.out.trans (hb4.mono Hb3.out.size)))
                    clear hb4' hb4 ho4))
        | (go_simp
           go_at_call 47
           refine (Hgr.out _ (by exact Hr3a.out) (by exact Hm3a.out) (by simp; omega)).mono ?_
           rintro e w4 ⟨cv, rfl, ho4, hb4'⟩
           have hb4 : Below (w3.heap.size + 1) (w3.alloc (.cells #[.int .i64 0, .int .i64 0, .slice none 0 0, .slice none 0 0, .int .i64 0] 92)) w4 := by first | simpa using hb4' | simpa using below_undrewS hb4'
           have ho4' : w4.ownsRow (w3.heap.size + 1) 3 1 cv Z.length (intsN Z) := by simpa using ho4
           go_must (have hx0 := HX3.out.2.2.2.2
                    have hx4 := HY3.out.belowAt hb4 (by omega)
                    have hz4 := HZ3.out.belowAt hb4 (by omega)
                    obtain ⟨co, cc, hcv⟩ := own_len ho4
                    subst hcv
                    have HC := Lib.hid (checkB (P := P) (T := T) hz4 ho4' (by omega) HZ6.out HZb.out (Hp3a.out.below (w' := w4) (fun k hk => hb4.block k (by omega))) hB3 hx4 hx0 ((Hb3.out.alloc (by omega) _).trans (hb4.mono (by omega))))
                    obtain ⟨x1, x2, x3, x4, x5⟩ := hx4
                    obtain ⟨z1, z2, z3, z4, z5, z6, z7, z8, z9, z10, z11⟩ := hz4
                    clear hb4' ho4 ho4' hb4))
        | fail)
    all_goals
      go_wp2
      go_meet
      case rel => exact HC.out
  case rest =>
    obtain ⟨b, co, cc, rfl, hx5, hkt, hks, hx, hlt, hbw⟩ := hcut
    have hcall : ∀ W, (W = wc ∨ W = wc.drew ∨ W = wc.drew.drew) → Calls Tryd.prog 48 #[.pointer (some ⟨b, 0, none⟩), .int .i64 A, .int .i64 (-1), .int .i64 fi] W fun e w' => e = .returned (.bool R.isSome) ∧ wc.grownBy w' (some b) ∧ ∃ m' : Nat, Box5 w' b (.int .i64 P) (.int .i64 T) (.slice co Z.length cc) (.slice po L pcap) (.int .i64 m') ∧ ∀ x : Nat, R = some x → m' = x := fun W hW => by
      rcases hW with rfl | rfl | rfl
      · exact (Hpv.out b (.slice co Z.length cc) (.slice po L pcap) _ hx5 hkt hks).mono fun _ _ h => h.out
      · exact (Hpv.out b (.slice co Z.length cc) (.slice po L pcap) wc.drew hx5 hkt.drew hks.drew).mono fun _ _ h => ⟨h.out.1, grownBy_drew0 h.out.2.1, h.out.2.2⟩
      · exact (Hpv.out b (.slice co Z.length cc) (.slice po L pcap) wc.drew.drew hx5 hkt.drew.drew hks.drew.drew).mono fun _ _ h => ⟨h.out.1, grownBy_drew0 (grownBy_drew0 h.out.2.1), h.out.2.2⟩
    have Hcall := Lib.hid hcall
    have HXc := Lib.hid hx
    have Hbw := Lib.hid hbw
    have hx5lt := hx5.lt
    clear x1 x2 x3 x4 x5 hcall hx5 hkt hks hbw HX2 HX3 HX1 Hp1 Hp2 Hp3 Hr1 Hr2 Hr3 Hm1 Hm2 Hm3 Hgr Hpv Hso Hto
    obtain ⟨x1, x2, x3, x4, x5⟩ := hx
    have hNpos : 0 < 2 ^ L := Nat.two_pow_pos L
    obtain ⟨hsh1, hsh2⟩ := shl_pow hl
    have hmin : min L 64 = L := Nat.min_eq_left (by omega)
    have hmin2 : (2 : Int) ^ min L 64 = 2 ^ L := by rw [hmin]
    generalize hNN : 2 ^ L = N at *
    have hN' : N ≤ 9223372036854775807 := Nat.le_trans (Nat.le_of_lt hN) (by decide)
    have hN1 : 1 ≤ N := hNpos
    have HN := Lib.hid hN
    clear hN hNpos hNN
    have hfin : ∀ (o : Bool) (w' : World), wc.grownBy w' (some b) → Below wo.heap.size wo w' := fun o w' hg => below_grown_rowP Hbw.out hg (by omega) (fun q hq => by cases hq; omega)
    have Hfin := Lib.hid hfin
    clear hfin
    cases R with
    | none =>
      have Hf' : Hid (provesF (P : Int) (qs.map (·.2)) ms sp fi = false) := by rw [Hf.out]; rfl
      go_upto_region 4 with fail
      first
        | (go_region_with
            (first
              | (go_at_call 49
                 refine (Hall.out _).mono ?_
                 rintro e w6 ⟨rfl, rfl⟩
                 go_must (skip))
              | (go_at_call 48
                 refine (Hcall.out _ (by first | exact .inl rfl | exact .inr (.inl rfl) | exact .inr (.inr rfl))).mono ?_
                 rintro e w6 ⟨rfl, hg6, m6, hy6, _⟩
                 rw [show (none : Option Nat).isSome = false from rfl]
                 go_must (have Hb6 := Lib.hid (Hfin.out true _ hg6)))
              | fail))
        | fail
      all_goals
        go_wp2
        go_ret
        exact ⟨by rw [Hf'.out]; rfl, Hb6.out⟩
    | some m' =>
      have Hf' : Hid (provesF (P : Int) (qs.map (·.2)) ms sp fi = decide (m' = N - 1)) := by
        unfold Hid; rw [Hf.out, Bool.eq_iff_iff, decide_eq_true_eq, decide_eq_true_eq, Option.some.injEq]
      obtain ⟨hsub, hsub2⟩ := sub_one_w hN1 HN.out
      generalize N - 1 = N1 at *
      clear HN hN' hN1
      go_upto_region 4 with fail
      go_region_law
        (first
          | (go_simp
             go_at_call 49
             refine (Hall.out _).mono ?_
             rintro e w6 ⟨rfl, rfl⟩
             go_must (skip))
          | (go_simp
             go_at_call 48
             refine (Hcall.out _ (by first | exact .inl rfl | exact .inr (.inl rfl) | exact .inr (.inr rfl))).mono ?_
             rintro e w6 ⟨rfl, hg6, m6, hy6, hm6⟩
             rw [show (some m' : Option Nat).isSome = true from rfl]
             go_must (have Hb6 := Lib.hid (Hfin.out true _ hg6)
                      obtain rfl : m6 = m' := hm6 m' rfl
                      obtain ⟨y1, y2, y3, y4, y5, y6, y7, y8, y9, y10, y11⟩ := hy6
                      obtain ⟨z1, z2, z3, z4, z5⟩ := HXc.out.grown hg6 (by intro e; cases e; omega)
                      clear hg6 hm6))
          | fail)
      all_goals
        go_wp2
        go_ret
        refine ⟨ret_bool ?_, by first | exact Hb6.out | exact below_drew1 Hb6.out | exact below_drewN Hb6.out _⟩
        rw [Hf'.out, Bool.eq_iff_iff]; first | (simp; done) | (simp; omega)
end Go.Proofs.YtefmoljipbbmmaaDoor
