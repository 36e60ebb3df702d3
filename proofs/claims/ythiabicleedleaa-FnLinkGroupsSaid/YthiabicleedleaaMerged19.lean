/- Texts of a proof, merged: MadeI, DrawN, DrawC, DrawS, DrawZ. -/
import Derived.Test.YthiabicleedleaaMerged18
import Derived.Test.YthiabicleedleaaMerged13
import Derived.Deep.RegionLaw
import Derived.Test.YthiabicleedleaaDrawM
import Derived.Test.YthiabicleedleaaMerged9
import Derived.Deep.RegionHeld3
import Derived.Deep.Cut
import Derived.OwnWalk
import Derived.Test.YthiabicleedleaaMerged8
import Derived.Test.YthiabicleedleaaMerged6
/- Contracts of the program's stories made for a world. -/
namespace Go.Proofs.Ythiabicleedleaa
open Go.RowKit Go.Joins
theorem made_may {p x : Int} {k : Nat} {ms : List (Int × Int)} (hw : wOk p x = true) (h : mayV p ((k : Int), ms) x = true) : madeC p x.toNat k ms = some ((k : Int), ms) ∧ ms.length ≤ 13 := by
  cases hc : claimOk p ((k : Int), ms) with
  | false => rw [mayV_no hc] at h; cases h
  | true =>
    rw [mayV_yes hc hw] at h
    exact ⟨madeC_may hc h, (claimOk_iff.1 hc).2.2.2⟩
theorem made_deny {p x : Int} {k : Nat} {ms : List (Int × Int)} (hw : wOk p x = true) (h : mayV p ((k : Int), ms) x = false) : denyV p ((k : Int), ms) = (madeC p x.toNat k ms).getD (0, []) ∧ denyOk p ((k : Int), ms) = (madeC p x.toNat k ms).isSome := by
  cases hc : claimOk p ((k : Int), ms) with
  | false =>
    rw [madeC_noclaim hc]
    exact ⟨(denyOk_no hc).2, (denyOk_no hc).1⟩
  | true =>
    rw [mayV_yes hc hw] at h
    cases hd : denyOk p ((k : Int), ms) with
    | false =>
      rw [madeC_nodeny hc h hd]
      exact ⟨by unfold denyV; rw [hd]; rfl, rfl⟩
    | true =>
      rw [madeC_deny hc h hd]
      exact ⟨rfl, rfl⟩
theorem made_wf {p : Int} {X k : Nat} {ms : List (Int × Int)} (hi : I64s ms) (hk : I64 (k : Int)) {c : Cl} (h : madeC p X k ms = some c) : I64s c.2 ∧ I64 c.1 := by
  unfold madeC at h
  split at h
  · split at h
    · cases h; exact ⟨hi, hk⟩
    · split at h
      · cases h; exact deny_wf hi hk
      · cases h
  · cases h
attribute [local irreducible] holds tabN tabV holdsV sameV followsV alwaysV matterV claimOk mayT mayV ctabV ctabN storyV storyOk storyN storyT ctermV ctermL denyV denyOk madeC madeK madeF mcells
set_option maxRecDepth 100000 in
set_option maxHeartbeats 8000000 in
theorem implSaid (p x : Int) (k : Nat) (ms : List (Int × Int)) (hw : wOk p x = true) (B : Nat) (u : Value) (w : World) (hr : RdMarks w B u ms) (hB : B ≤ w.heap.size) :
    Calls Try.prog 39 #[.int .i64 p, .agg #[.int .i64 (k : Int), u], .int .i64 x] w (ClaimOut ((madeC p x.toNat k ms).getD (0, [])) (madeC p x.toNat k ms).isSome w) := by
  obtain ⟨uo, uc, rfl⟩ : ∃ uo uc, u = .slice uo ms.length uc := by
    obtain ⟨a, c, h, _⟩ := hr
    exact ⟨a, c, h⟩
  obtain ⟨w2, hw2, hx2, hy2, hb2, hs2⟩ := two_boxes w (k : Int) (.slice uo ms.length uc)
  have Hr2 := Lib.hid (hr.below (w' := w2) (fun q hq => hb2.block q (by omega)))
  have hB2 : B ≤ w2.heap.size := by omega
  have hms := fun w h hB => implMaySay p (k : Int) x ms B (.slice uo ms.length uc) w h hB
  have HX2 := Lib.hid hx2
  have HY2 := Lib.hid hy2
  have HB2 := Lib.hid hb2
  obtain ⟨x1, x2, x3, x4, x5⟩ := hx2
  clear hy2 hb2 hr
  cases hm : mayV p ((k : Int), ms) x with
  | false =>
    obtain ⟨e1, e2⟩ := made_deny hw hm
    have Hd := Lib.hid (fun w h hB => implDenyClaim p (k : Int) ms B (.slice uo ms.length uc) w h hB)
    rw [e1, e2] at Hd
    rw [hm] at hms
    have Hms := Lib.hid hms
    clear hms hm hw e1 e2
    generalize madeC p x.toNat k ms = mc at *
    have Hfin : Hid (∀ {w3 : World} {a b : Value}, Box w3 (w.heap.size + 1) a b → Below w.heap.size w w3 → ∀ v, w3.ownsRow w2.heap.size TM 2 v (mc.getD (0, [])).2.length (mcells (mc.getD (0, [])).2) → ∃ w4, w4 = (w3.setCell ⟨w.heap.size + 1, 0, none⟩ (.int .i64 (mc.getD (0, [])).1)).setCell ⟨w.heap.size + 1, 1, none⟩ v ∧ Box w4 (w.heap.size + 1) (.int .i64 (mc.getD (0, [])).1) v ∧ ClaimOut (mc.getD (0, [])) mc.isSome w (.returned (.tuple #[.agg #[.int .i64 (mc.getD (0, [])).1, v], .bool mc.isSome])) w4) := fun hx hb v ho => by
      obtain ⟨w6, e6, h6, g6⟩ := hx.set (.int .i64 (mc.getD (0, [])).1) v
      exact ⟨w6, e6, h6, v, rfl, own_mono (own_row ho g6 (by omega)) (by omega), below_rowD hb g6 (fun q hq => by cases hq; omega)⟩
    generalize mc.getD (0, []) = c at *
    generalize mc.isSome = o at *
    obtain ⟨ck, cm⟩ := c
    unfold ClaimOut at Hd
    dsimp only at Hd Hfin
    go_enter Try.func39, Try.ntmps39
    go_upto_region 1 with fail
    rw [← hw2]
    clear hw2
    go_wp2_with fail
    refine (Hms.out _ Hr2.out hB2).mono ?_
    rintro e w3 ⟨rfl, hb3⟩
    obtain ⟨q1, q2, q3, q4, q5⟩ := HX2.out.below hb3
    have Hr3 := Lib.hid (Hr2.out.below (w' := w3) (fun q hq => hb3.block q (by omega)))
    have HB3 := Lib.hid (HB2.out.trans (hb3.mono (by omega)))
    have HY3 := Lib.hid (HY2.out.below hb3)
    have hB3 : B ≤ w3.heap.size := by have := hb3.size; omega
    have hs3 := hb3.size
    clear hb3 x1 x2 x3 x4 x5
    go_wp2_with fail
    refine (Hd.out _ Hr3.out hB3).mono ?_
    rintro e w4 ⟨v4, rfl, hown4, hb4⟩
    obtain ⟨fo, fc, hf⟩ := own_len hown4
    subst hf
    have hy4 := HY3.out.below hb4
    obtain ⟨w7, e7, hx7, hout⟩ := Hfin.out hy4 (HB3.out.trans (hb4.mono (by omega))) _ (own_mono hown4 (by omega))
    have E7 := Lib.hid e7
    have Hout := Lib.hid hout
    obtain ⟨y1, y2, y3, y4, y5⟩ := hy4
    clear e7 hout hb4 hown4 q1 q2 q3 q4 q5
    go_wp2
    rw [← E7.out]
    obtain ⟨z1, z2, _⟩ := hx7
    exact bodyPost_ret (by simp [results, Try.results39, go_sem, z1, z2]) rfl Hout.out
  | true =>
    obtain ⟨e1, e2⟩ := made_may hw hm
    have Hd := Lib.hid (fun w h hB => implClone ms B (.slice uo ms.length uc) w h hB (by omega))
    rw [e1]
    rw [hm] at hms
    have Hms := Lib.hid hms
    clear hms hm hw e1
    unfold RowOut at Hd
    go_enter Try.func39, Try.ntmps39
    go_upto_region 1 with fail
    rw [← hw2]
    clear hw2
    go_wp2_with fail
    refine (Hms.out _ Hr2.out hB2).mono ?_
    rintro e w3 ⟨rfl, hb3⟩
    have HX3 := Lib.hid (HX2.out.below hb3)
    obtain ⟨q1, q2, q3, q4, q5⟩ := HX3.out
    have Hr3 := Lib.hid (Hr2.out.below (w' := w3) (fun q hq => hb3.block q (by omega)))
    have HB3 := Lib.hid (HB2.out.trans (hb3.mono (by omega)))
    have HY3 := Lib.hid (HY2.out.below hb3)
    have hB3 : B ≤ w3.heap.size := by have := hb3.size; omega
    have hs3 := hb3.size
    clear hb3 x1 x2 x3 x4 x5
    go_upto_region 2 with fail
    go_region_law
      (first
        | (go_simp
           go_at_call 62
           refine (Hd.out _ (by first | exact Hr3.out | exact Hr3.out.below (fun _ _ => rfl)) (by first | exact hB3 | (simp; omega))).mono ?_
           rintro e w4 ⟨v4, rfl, hown4', hb4'⟩
           have hb4 : Below w3.heap.size w3 w4 := by first | exact hb4' | exact below_undrewS hb4' | exact below_undrewN hb4'
           go_must (have hown4 : w4.ownsRow w3.heap.size TM 2 v4 ms.length (mcells ms) := hown4'
                    obtain ⟨fo, fc, hf⟩ := own_len hown4
                    subst hf
                    have hy4 := HY3.out.below hb4
                    obtain ⟨w7, e7, hx7, hout⟩ := claim_some (w := w) (base := w2.heap.size) (g := w.heap.size + 1) (k := (k : Int)) (ms := ms) (c := ((k : Int), ms)) (o := true) (by omega) (by omega) hy4 (HB3.out.trans (hb4.mono (by omega))) (own_mono hown4 (by omega)) ⟨rfl, rfl⟩
                    have E7 := Lib.hid e7
                    have Hout := Lib.hid hout
                    have Hx7 := Lib.hid hx7
                    obtain ⟨y1, y2, y3, y4, y5⟩ := hy4
                    obtain ⟨q1, q2, q3, q4, q5⟩ := HX3.out.below hb4
                    clear e7 hout hx7 hb4 hb4' hown4 hown4'))
        | fail)
    all_goals
      rw [← E7.out]
      obtain ⟨z1, z2, _⟩ := Hx7.out
      clear y1 y2 y3 y4 y5 q1 q2 q3 q4 q5
      go_wp2
      exact bodyPost_ret (by simp [results, Try.results39, go_sem, z1, z2]) rfl Hout.out
set_option maxRecDepth 100000 in
set_option maxHeartbeats 8000000 in
theorem implMadeStory (p x : Int) (rs : List RT) (_ : ∀ r ∈ rs, r.2.length ≤ 2000000) (B : Nat) (v : Value) (w : World) (hr : RdTerms w B v rs) (hB : B ≤ w.heap.size) :
    Calls Try.prog 10 #[.int .i64 p, .int .i64 x, v] w (StoryOut ((madeF p x (rs.map (·.2))).getD []) (madeF p x (rs.map (·.2))).isSome w) := by
  obtain ⟨ic, hci, hcz0, hcz1, hcz2⟩ := info_parts Try.infoC12
  have Ci := Lib.hid hci; clear hci
  have Cz0 := Lib.hid hcz0; clear hcz0
  have Cz1 := Lib.hid hcz1; clear hcz1
  have Cz2 := Lib.hid hcz2; clear hcz2
  obtain ⟨wo, rfl⟩ : ∃ wo : World, wo = w := ⟨_, rfl⟩
  obtain ⟨lo, lc, rfl, hll, hlm⟩ : ∃ lo lc, v = .slice lo rs.length lc ∧ rs.length ≤ lc ∧ lc ≤ maxLen := by
    obtain ⟨a, c, h1, h2, h3, _⟩ := hr; exact ⟨a, c, h1, h2, h3⟩
  unfold maxLen at hlm
  have hst0 : ∀ w', StoryIn w' wo.heap.size wo.heap.size (.slice none 0 0) [] := fun w' => ⟨World.ownsRow_nil _ _ _ _, fun q hq => by simp at hq⟩
  have Hst0 := Lib.hid hst0; clear hst0

  have hwo := fun w => implWorldOk p x w
  cases hw : wOk p x with
  | false =>
    have Hf : Hid (madeF p x (rs.map (·.2)) = none) := by unfold Hid madeF; rw [hw]; rfl
    rw [hw] at hwo
    have Hw := Lib.hid hwo
    clear hr hw hwo
    go_enter Try.func10, Try.ntmps10
    go_wp2_with fail
    refine (Hw.out _).mono ?_
    rintro e w' ⟨rfl, rfl⟩
    go_wp2
    go_ret2
    exact ⟨_, [], by rw [Hf.out]; rfl, by rw [Hf.out]; rfl, Hst0.out _, List.Pairwise.nil, Below.refl _ _⟩
  | true =>
  have hsd := fun (k : Nat) (ms : List (Int × Int)) => implSaid p x k ms hw
  rw [hw] at hwo
  have Hwo := Lib.hid hwo
  clear hwo
  by_cases hlen : (rs.length : Int) ≤ p
  case neg =>
    have Hf : Hid (madeF p x (rs.map (·.2)) = none) := by unfold Hid madeF; rw [hw, List.length_map, decide_eq_false hlen]; rfl
    have hgt : p < (rs.length : Int) := by omega
    clear hr hw hlen hsd
    go_enter Try.func10, Try.ntmps10
    go_wp2_with fail
    refine (Hwo.out _).mono ?_
    rintro e w' ⟨rfl, rfl⟩
    go_wp2
    go_ret2
    exact ⟨_, [], by rw [Hf.out]; rfl, by rw [Hf.out]; rfl, Hst0.out _, List.Pairwise.nil, Below.refl _ _⟩
  obtain ⟨hp1, hp4, hx0, hx16⟩ := wOk_lt hw
  obtain ⟨X, rfl⟩ := Int.eq_ofNat_of_zero_le hx0
  have hgt : ¬ p < (rs.length : Int) := by omega
  have Hf0 : Hid (madeF p (X : Int) (rs.map (·.2)) = madeK p X (rs.map (·.2)) rs.length) := by unfold Hid madeF; rw [hw, List.length_map, decide_eq_true hlen, Int.toNat_natCast]; rfl
  have Hbad : Hid (∀ k, k < rs.length → madeC p X k (rs.getD k rt0).2 = none → madeF p (X : Int) (rs.map (·.2)) = none) := fun k hk hc => by
    rw [Hf0.out]
    refine madeK_none (k := k) ?_ _ hk
    rw [show (rs.map (·.2)).getD k [] = (rs.getD k rt0).2 by simp [List.getD, hk]]
    exact hc
  have Hgood : Hid (∀ k, k < rs.length → ∀ l c, madeK p X (rs.map (·.2)) k = some l → madeC p X k (rs.getD k rt0).2 = some c → madeK p X (rs.map (·.2)) (k + 1) = some (l ++ [c])) := fun k hk l c hl hc => by
    refine madeK_some hl ?_
    rw [show (rs.map (·.2)).getD k [] = (rs.getD k rt0).2 by simp [List.getD, hk]]
    exact hc
  have Hk0 : Hid (madeK p X (rs.map (·.2)) 0 = some []) := by unfold Hid madeK; rfl
  simp only [Int.toNat_natCast] at hsd
  have Hsd := Lib.hid hsd
  have Hr := Lib.hid hr
  have hlen4 : rs.length ≤ 4 := by omega
  clear hr hw hlen hsd hx0 hx16 hp1 hp4
  generalize madeK p X (rs.map (·.2)) = MK at *
  generalize madeF p (X : Int) (rs.map (·.2)) = MF at *
  go_enter Try.func10, Try.ntmps10
  go_wp2_with fail
  refine (Hwo.out _).mono ?_
  rintro e w' ⟨rfl, rfl⟩
  go_wp2
  go_loopw [8, 9, 10, 11, 12, 25] (fun u _ _ _ _ i wr => ∃ (k : Nat) (us : List QC), k ≤ rs.length ∧ us.length = k ∧ i = .int .i64 k ∧ MK k = some (us.map (·.2)) ∧ (∃ ao cp, u = .slice ao k cp) ∧ StoryIn wr wo.heap.size wo.heap.size u us ∧ Apart us ∧ Below wo.heap.size wo wr) (fun _ _ _ _ _ i _ => rs.length - (intOf i).toNat)
  case atStart => exact ⟨0, [], Nat.zero_le _, rfl, rfl, Hk0.out, ⟨_, _, rfl⟩, Hst0.out _, List.Pairwise.nil, Below.refl _ _⟩
  case round =>
    obtain ⟨k, us, hk, hul, rfl, hmk, ⟨uo, uc, rfl⟩, hst, hap, hbel⟩ := hrel
    by_cases hlt : k < rs.length
    · have Hrs := Lib.hid (Hr.out.below (w' := wr) (fun q hq => hbel.block q (by omega)))
      have hmr := Hrs.out.get hlt
      obtain ⟨ao', cap', hv', _, _, _, hc0⟩ := Hrs.out
      obtain ⟨b, off, hao, hb, hc1⟩ := hc0 k hlt
      injection hv' with hv1 hv2 hv3
      subst hv1 hv3
      subst hao
      have hbadk := Hbad.out k hlt
      have hgoodk := Hgood.out k hlt
      clear hc0 hv2
      generalize rs.getD k rt0 = q at *
      obtain ⟨u, ms⟩ := q
      dsimp only at hc1 hmr hbadk hgoodk
      have hwr : wo.heap.size ≤ wr.heap.size := hbel.size
      have hi64 : I64s ms := by obtain ⟨_, _, _, _, _, hi, _⟩ := hmr; exact hi
      have hkI : I64 (k : Int) := I64_small (by omega) (by omega)
      have Hwf := Lib.hid (fun c h => made_wf (p := p) (X := X) (c := c) hi64 hkI h)
      have Hsk := Lib.hid (Hsd.out k ms B u wr hmr (by omega))
      obtain ⟨mo, mp, rfl⟩ : ∃ mo mp, u = .slice mo ms.length mp := by
        obtain ⟨a, c, h, _⟩ := hmr
        exact ⟨a, c, h⟩
      have Hst := Lib.hid hst
      have Hap := Lib.hid hap
      have Hbel := Lib.hid hbel
      have Hmk := Lib.hid hmk
      have Hgk := Lib.hid hgoodk
      have Hbk := Lib.hid hbadk
      clear hmr hgoodk hbadk hmk hst hap hbel hi64 hkI Hsd
      generalize madeC p X k ms = mc at *
      go_wp2_with fail
      refine Hsk.out.mono ?_
      rintro e wn ⟨vc, rfl, hown, hbn⟩
      cases mc with
      | none =>
        have Hf := Lib.hid (Hbk.out rfl)
        have hb4 := Hbel.out.trans (hbn.mono hwr)
        change wn.ownsRow wr.heap.size TM 2 vc 0 (mcells []) at hown
        obtain ⟨wC, hwC, hx, hbC, _⟩ := Box.new wn (.int .i64 0) vc TC
        have HbC := Lib.hid (hb4.trans (hbC.mono hb4.size))
        obtain ⟨fo, fc, hf⟩ := own_len hown
        subst hf
        clear hown hbn hb4 hx hbC
        go_upto_region 8 with fail
        rw [← hwC]
        clear hwC
        go_wp2
        go_ret2
        exact ⟨_, [], by rw [Hf.out]; rfl, by rw [Hf.out]; rfl, Hst0.out _, List.Pairwise.nil, HbC.out⟩
      | some c =>
        have Hnext := Lib.hid (Hgk.out _ _ Hmk.out rfl)
        have Hki := Lib.hid (Hwf.out c rfl)
        obtain ⟨ck, cm⟩ := c
        change wn.ownsRow wr.heap.size TM 2 vc cm.length (mcells cm) at hown
        obtain ⟨fo, fc, hf⟩ := own_len hown
        subst hf
        obtain ⟨wC, hwC, hx, hbC, _⟩ := Box.new wn (.int .i64 ck) (.slice fo cm.length fc) TC
        have HbC := hbn.trans (hbC.mono hbn.size)
        have HoC := own_below hown hbC
        have hwC' := Lib.hid hwC
        have hbC2 := Hbel.out.trans (HbC.mono hwr)
        have hsC := hbC2.size
        have Hall := Lib.hid (fun v' w5 h1 h2 => story_pushed (w5 := w5) (v' := v') (u := .slice fo cm.length fc) (k := ck) (ms := cm) (o := .cells #[.int .i64 ck, .slice fo cm.length fc] TC) hbC2 (Hst.out.below HbC) Hap.out (fun r hr k hk => ((Hst.out.2 r hr).1.lt k hk).2) HoC hwr Hki.out.1 Hki.out.2 h1 h2)
        have HstC := Lib.hid ((Hst.out.below HbC).1)
        have Hx := Lib.hid hx
        clear hbC2 HbC HoC hbn hbC hown hwC hx
        go_upto_region 8 with fail
        rw [← hwC'.out]
        clear hwC'
        obtain ⟨z1, z2, z3, z4, z5⟩ := Hx.out
        go_wp2_with (at_builtin; refine wpList_append_own _ rfl _ _ 26 rfl wo.heap.size TC ic (.agg #[.int .i64 0, .slice none 0 0]) 2 32 Try.underlying26 Ci.out Cz0.out Cz1.out Cz2.out rfl (by decide) _ _ _ rfl (HstC.out.alloc _) ⟨wC.heap.size, 0, none⟩ 1 1 (ccells [(.slice fo cm.length fc, (ck, cm))]) rfl rfl (newsC _ _ rfl _ _ _ _) (ccells_one (by simp [Value.oneCell'])) (by unfold maxLen; omega) (by omega) (by simp; omega) ?_)
        intro v' w5' hown' hgrow _
        have Hout := Lib.hid (Hall.out v' w5' (by rw [hul]; exact hown') hgrow)
        obtain ⟨ao', cp', rfl⟩ := own_len hown'
        clear hown' hgrow Hall HstC
        go_wp2
        go_roundw
        case rel => exact ⟨k + 1, us ++ [(.slice fo cm.length fc, (ck, cm))], by omega, by simp [hul], by go_num, by rw [List.map_append]; exact Hnext.out, ⟨ao', cp', by simp⟩, Hout.out.1, Hout.out.2.1, Hout.out.2.2⟩
        case measure => simp [intOf]; omega
    · obtain rfl : k = rs.length := by omega
      have Hst := Lib.hid hst
      have Hap := Lib.hid hap
      have Hbel := Lib.hid hbel
      have Hmf : Hid (MF = some (us.map (·.2))) := by unfold Hid; rw [Hf0.out]; exact hmk
      clear hst hmk hap hbel
      go_wp2
      go_ret2
      exact ⟨_, us, by rw [Hmf.out]; rfl, by rw [Hmf.out]; rfl, Hst.out, Hap.out, Hbel.out⟩
end Go.Proofs.Ythiabicleedleaa
/- The reference model's draws of a number of people and a term. -/
namespace Go.Proofs.Ythiabicleedleaa
open Go.RowKit Go.Joins

/-- a number of people and a row of marks; the reader is at most at c -/
def DrewT (b c : Nat) (w : World) (e : Ending) (w' : World) : Prop :=
  ∃ (p : Int) (g n cap : Nat) (ms : List (Int × Int)), 1 ≤ p ∧ p ≤ 8 ∧ e = .returned (.tuple #[.int .i64 p, .slice (some ⟨g, 0, none⟩) n cap]) ∧ ms.length = n ∧ w'.ownsRow w.heap.size TM 2 (.slice (some ⟨g, 0, none⟩) n cap) n (mcells ms) ∧ I64s ms ∧ n ≤ 20 ∧ Rd w' b c ∧ w.grownBy w' (some b)
/-- what a draw of a number of people and a row of marks hands back -/
def OutT (w : World) (e : Ending) (w' : World) : Prop :=
  ∃ (p : Int) (g n cap : Nat) (ms : List (Int × Int)), 1 ≤ p ∧ p ≤ 8 ∧ e = .returned (.tuple #[.int .i64 p, .slice (some ⟨g, 0, none⟩) n cap]) ∧ ms.length = n ∧ w'.ownsRow w.heap.size TM 2 (.slice (some ⟨g, 0, none⟩) n cap) n (mcells ms) ∧ I64s ms ∧ n ≤ 20 ∧ Below w.heap.size w w'






end Go.Proofs.Ythiabicleedleaa
/- The reference model's draws of claims and stories. -/
namespace Go.Proofs.Ythiabicleedleaa
open Go.RowKit Go.Joins
/-- what a draw of a number of people and a claim hands back -/
def OutC (w : World) (e : Ending) (w' : World) : Prop :=
  ∃ (p k : Int) (g cap : Nat) (ms : List (Int × Int)), 1 ≤ p ∧ p ≤ 8 ∧ e = .returned (.tuple #[.int .i64 p, .agg #[.int .i64 k, .slice (some ⟨g, 0, none⟩) ms.length cap]]) ∧ w'.ownsRow w.heap.size TM 2 (.slice (some ⟨g, 0, none⟩) ms.length cap) ms.length (mcells ms) ∧ I64s ms ∧ ms.length ≤ 20 ∧ -1 ≤ k ∧ k ≤ 4 ∧ Below w.heap.size w w'
theorem RdBytes.up {w w1 : World} {a : Value} {n : Nat} (h : RdBytes w w.heap.size a n) (hb : Below w.heap.size w w1) : RdBytes w1 w1.heap.size a n := by
  obtain ⟨ao, cap, hv, hl, hm, hc⟩ := h.below (fun k hk => hb.block k hk)
  refine ⟨ao, cap, hv, hl, hm, fun j hj => ?_⟩
  obtain ⟨b, off, ha, hlt, hz⟩ := hc j hj
  exact ⟨b, off, ha, by have := hb.size; omega, hz⟩
theorem below_row {w w1 w2 : World} {row : Option Nat} (h : Below w.heap.size w w1) (hg : w1.grownBy w2 row) (hr : ∀ k, row = some k → w.heap.size ≤ k) : Below w.heap.size w w2 :=
  h.grown hg h.size hr
/-- what a draw of a number of people, a claim and a world hands back -/
def OutCX (w : World) (e : Ending) (w' : World) : Prop :=
  ∃ (p k : Int) (g cap : Nat) (ms : List (Int × Int)) (x : Int), 1 ≤ p ∧ p ≤ 4 ∧ e = .returned (.tuple #[.int .i64 p, .agg #[.int .i64 k, .slice (some ⟨g, 0, none⟩) ms.length cap], .int .i64 x]) ∧ w'.ownsRow w.heap.size TM 2 (.slice (some ⟨g, 0, none⟩) ms.length cap) ms.length (mcells ms) ∧ I64s ms ∧ ms.length ≤ 20 ∧ -1 ≤ k ∧ k ≤ 4 ∧ 0 ≤ x ∧ x ≤ 100 ∧ Below w.heap.size w w'
end Go.Proofs.Ythiabicleedleaa
/- The reference model's draws of stories. -/
namespace Go.Proofs.Ythiabicleedleaa
open Go.RowKit Go.Joins
def QSmall (qs : List QC) : Prop := ∀ q ∈ qs, q.2.2.length ≤ 20 ∧ -1 ≤ q.2.1 ∧ q.2.1 ≤ 4
theorem QSmall.snoc {qs : List QC} {q : QC} (h : QSmall qs) (hq : q.2.2.length ≤ 20 ∧ -1 ≤ q.2.1 ∧ q.2.1 ≤ 4) : QSmall (qs ++ [q]) := by
  intro r hr
  rcases List.mem_append.1 hr with hr | hr
  · exact h r hr
  · simp at hr; subst hr; exact hq
/-- one claim more: how a round ends -/
theorem claim_added {w w4 w5 : World} {b : Nat} {v v' u : Value} {qs : List QC} {k : Int} {ms : List (Int × Int)} {c : Nat} {o : Obj} (hb : b < w.heap.size) (hs : StoryIn w4 w.heap.size w.heap.size v qs) (hq : QSmall qs)
    (hu : w4.ownsRow w.heap.size TM 2 u ms.length (mcells ms)) (hi : I64s ms) (hn : ms.length ≤ 20) (hk1 : -1 ≤ k) (hk4 : k ≤ 4) (hG : w.grownBy w4 (some b)) (hr : Rd w4 b c)
    (hown : w5.ownsRow w.heap.size TC 2 v' (qs.length + 1) (ccells qs ++ ccells [(u, (k, ms))])) (hg : (w4.alloc o).grownBy w5 v.ownBlock) :
    StoryIn w5 w.heap.size w.heap.size v' (qs ++ [(u, (k, ms))]) ∧ QSmall (qs ++ [(u, (k, ms))]) ∧ w.grownBy w5 (some b) ∧ Rd w5 b c := by
  refine ⟨(hs.alloc o).push ⟨hu.alloc o, hi, show I64 k from I64_small (by omega) (by omega)⟩ hown hg, hq.snoc ⟨hn, hk1, hk4⟩, ?_, ?_⟩
  · exact grown_own (only_alloc hG _) hg fun q hq => (hs.1.lt q hq).1
  · exact (hr.alloc _).grown hg (own_row_block hs.1 hb)
/-- what a draw of a number of people and a story hands back -/
def OutS (w : World) (e : Ending) (w' : World) : Prop :=
  ∃ (p : Int) (v : Value) (qs : List QC), -4 ≤ p ∧ p ≤ 8 ∧ e = .returned (.tuple #[.int .i64 p, v]) ∧ StoryIn w' w.heap.size w.heap.size v qs ∧ QSmall qs ∧ qs.length ≤ 7 ∧ Below w.heap.size w w'
end Go.Proofs.Ythiabicleedleaa
/- The reference model's draws of links. -/
namespace Go.Proofs.Ythiabicleedleaa
open Go.RowKit Go.Joins
abbrev TL : TypeId := 48
abbrev TLs : TypeId := 43
theorem Try.infoL : (Try.prog.info? TL).map (fun i => (i.zero, i.size, i.bytes)) = some (some (.agg #[.int .i64 0, .int .i64 0, .bool false]), 3, 24) := by kernel_rfl
theorem add_zero12 (g j : Nat) : (⟨g, 0, none⟩ : Addr).add j = ⟨g, j, none⟩ := by simp [Addr.add]; omega
theorem newsL (W : World) (g : Nat) (hg : g = W.heap.size) (a b : Int) (t : Bool) : ∀ (j : Nat) (u' : Value), (lcells [(a, b, t)])[j]? = some u' → (W.alloc (.cells #[.int .i64 a, .int .i64 b, .bool t] TL)).cell? ((⟨g, 0, none⟩ : Addr).add j) = some u' := by
  intro j x hj
  subst hg
  rw [add_zero12, cell_of_row _ W.heap.size j _ TL (0, 0) (heap_alloc_new W _), ← hj]
  simp [lcells]
/-- numbers that are drawn are small -/
def LSmall (ls : List Lk) : Prop := ∀ l ∈ ls, 0 ≤ l.1 ∧ l.1 ≤ 4 ∧ 0 ≤ l.2.1 ∧ l.2.1 ≤ 8
theorem LSmall.snoc {ls : List Lk} {l : Lk} (h : LSmall ls) (hl : 0 ≤ l.1 ∧ l.1 ≤ 4 ∧ 0 ≤ l.2.1 ∧ l.2.1 ≤ 8) : LSmall (ls ++ [l]) := by
  intro r hr
  rcases List.mem_append.1 hr with hr | hr
  · exact h r hr
  · simp at hr; subst hr; exact hl
theorem LSmall.i64 {ls : List Lk} (h : LSmall ls) : L64 ls := fun l hl => by
  have := h l hl
  exact ⟨I64_small (by omega) (by omega), I64_small (by omega) (by omega)⟩
/-- what a draw of a number of people and links hands back -/
def DrewL (b c : Nat) (w : World) (e : Ending) (w' : World) : Prop :=
  ∃ (p : Int) (v : Value) (ls : List Lk), 1 ≤ p ∧ p ≤ 8 ∧ e = .returned (.tuple #[.int .i64 p, v]) ∧ w'.ownsRow w.heap.size TL 3 v ls.length (lcells ls) ∧ LSmall ls ∧ ls.length ≤ 8 ∧ Rd w' b c ∧ w.grownBy w' (some b)
def OutL12 (w : World) (e : Ending) (w' : World) : Prop :=
  ∃ (p : Int) (v : Value) (ls : List Lk), 0 ≤ p ∧ p ≤ 8 ∧ e = .returned (.tuple #[.int .i64 p, v]) ∧ w'.ownsRow w.heap.size TL 3 v ls.length (lcells ls) ∧ LSmall ls ∧ ls.length ≤ 8 ∧ Below w.heap.size w w'
theorem div_cases {z m : Int} (h0 : 0 ≤ z) (h1 : z < m + 1) (_hm : 0 < m) (hm2 : 1 < m) : z.tdiv m = 0 ∨ z.tdiv m = 1 := by
  rw [Int.tdiv_eq_ediv_of_nonneg h0]
  by_cases h : z = m
  · right; rw [h]; exact Int.ediv_self (by omega)
  · left; exact Int.ediv_eq_zero_of_lt h0 (by omega)
set_option maxRecDepth 100000 in
set_option maxHeartbeats 8000000 in
theorem l20Links (b c : Nat) (w : World) (hrd : Rd w b c) (hc : c ≤ 1000000) :
    Calls Try.prog 51 #[.pointer (some ⟨b, 0, none⟩)] w (DrewL b (c + 50) w) := by
  obtain ⟨ii, hi, hz0, hz1, hz2⟩ := info_parts Try.infoL
  have Hi := Lib.hid hi; clear hi
  have Hz0 := Lib.hid hz0; clear hz0
  have Hz1 := Lib.hid hz1; clear hz1
  have Hz2 := Lib.hid hz2; clear hz2
  have hbw := hrd.lt
  go_enter Try.func51, Try.ntmps51
  go_wp2_with fail
  refine (pick 4 b c _ hrd (by omega) (by omega) (by omega)).mono ?_
  rintro e w1 ⟨x, hx0, hxp, rfl, hrd1, hg1⟩
  have hP1 : 1 ≤ 1 + x := by omega
  have hP4 : 1 + x ≤ 4 := by omega
  have hs1 := hg1.size
  have hown1 : (w1.alloc (.cells #[] TL)).ownsRow w.heap.size TL 3 (.slice (some ⟨w1.heap.size, 0, none⟩) 0 0) 0 (lcells []) := World.ownsRow_made _ _ 0 hs1 (by unfold maxLen; omega) rfl
  have hrd1' := hrd1.alloc (.cells #[] TL)
  have hG1 := only_alloc hg1 (.cells #[] TL)
  clear hrd hrd1 hg1 hx0 hxp
  go_wp2_with fail
  generalize 1 + x = p at *
  refine (pick 6 b (c + 1) _ hrd1' (by omega) (by omega) (by omega)).mono ?_
  rintro e w2 ⟨y, hy0, hy6, rfl, hrd2, hg2⟩
  have hG2 := grownBy_trans hG1 hg2
  have hown2 := own_row hown1 hg2 hbw
  obtain ⟨Y, rfl⟩ := Int.eq_ofNat_of_zero_le hy0
  clear hg2 hG1 hown1 hrd1'
  go_wp2_with fail
  refine (pick 40 b (c + 1 + 1) _ hrd2 (by omega) (by omega) (by omega)).mono ?_
  rintro e w3 ⟨z, hz0', hz40, rfl, hrd3, hg3⟩
  have hG3 := grownBy_trans hG2 hg3
  have hown3 := own_row hown2 hg3 hbw
  have hz39 := div_cases (m := 39) hz0' (by omega) (by omega) (by omega)
  have hzd : z / 39 = z.tdiv 39 := (Int.tdiv_eq_ediv_of_nonneg hz0').symm
  obtain ⟨Z, hZ⟩ : ∃ Z : Int, z.tdiv 39 = Z := ⟨_, rfl⟩
  rw [hZ] at hz39 hzd
  obtain ⟨K, hK, hK8⟩ : ∃ K : Nat, ((Y : Int) + Z * 3) = (K : Int) ∧ K ≤ 8 := ⟨Y + Z.toNat * 3, by omega, by omega⟩
  have Hg := Lib.hid (And.intro hG3 (And.intro hown3 hrd3))
  clear hg3 hG2 hown2 hrd2 hG3 hown3 hrd3
  go_wp2
  go_loopw [5, 6] (fun v i wr => ∃ (j : Nat) (ls : List Lk), j + ls.length ≤ 8 ∧ i = .int .i64 j ∧ (∃ ao cp, v = .slice ao ls.length cp) ∧ wr.ownsRow w.heap.size TL 3 v ls.length (lcells ls) ∧ LSmall ls ∧ Rd wr b (c + 3 + 4 * ls.length) ∧ w.grownBy wr (some b))
    (fun _ i _ => (intOf i).toNat)
  case atStart => exact ⟨K, [], by simp <;> omega, by rw [← hK], ⟨_, _, rfl⟩, Hg.out.2.1, fun l hl => by simp at hl, Hg.out.2.2, Hg.out.1⟩
  case round =>
    clear Hg hy0 hy6 hz0' hz40 hz39 hzd hZ hK
    obtain ⟨j, ls, hj, rfl, ⟨ao, cp, rfl⟩, hown, hls, hrk, hGk⟩ := hrel
    by_cases hlt : 0 < j
    · obtain ⟨j, rfl⟩ : ∃ i, j = i + 1 := ⟨j - 1, by omega⟩
      have Hls := Lib.hid hls
      clear hls
      go_wp2_with fail
      refine (pick p b _ _ hrk hP1 (by omega) (by omega)).mono ?_
      rintro e w4 ⟨a, ha0, hap, rfl, hrd4, hg4⟩
      have hG4 := grownBy_trans hGk hg4
      have hown4 := own_row hown hg4 hbw
      clear hg4 hrk hGk hown
      go_wp2_with fail
      refine (pick p b _ _ hrd4 hP1 (by omega) (by omega)).mono ?_
      rintro e w5 ⟨d, hd0, hdp, rfl, hrd5, hg5⟩
      have hG5 := grownBy_trans hG4 hg5
      have hown5 := own_row hown4 hg5 hbw
      clear hg5 hG4 hown4 hrd4
      go_wp2_with fail
      refine (pick 90 b _ _ hrd5 (by omega) (by omega) (by omega)).mono ?_
      rintro e w6 ⟨z, hz0', hz90, rfl, hrd6, hg6⟩
      have hG6 := grownBy_trans hG5 hg6
      have hown6 := own_row hown5 hg6 hbw
      have hz89 := div_cases (m := 89) hz0' (by omega) (by omega) (by omega)
      have hzd : z / 89 = z.tdiv 89 := (Int.tdiv_eq_ediv_of_nonneg hz0').symm
      obtain ⟨Z, hZ⟩ : ∃ Z : Int, z.tdiv 89 = Z := ⟨_, rfl⟩
      rw [hZ] at hz89 hzd
      clear hg6 hG5 hown5 hrd5
      go_wp2_with fail
      refine (pick 2 b _ _ hrd6 (by omega) (by omega) (by omega)).mono ?_
      rintro e w7 ⟨t, ht0, ht2, rfl, hrd7, hg7⟩
      have hG7 := grownBy_trans hG6 hg7
      have hown7 := own_row hown6 hg7 hbw
      have hs7 := hG7.size
      have hls8 : ls.length ≤ 8 := by omega
      have Hown7 := Lib.hid hown7
      have HG7 := Lib.hid hG7
      have Hrd7 := Lib.hid hrd7
      clear hg7 hG6 hown6 hrd6 hG7 hown7 hrd7
      obtain ⟨q, hq, hq0, hq8⟩ : ∃ q : Int, d + Z * 4 = q ∧ 0 ≤ q ∧ q ≤ 8 := ⟨_, rfl, by omega, by omega⟩
      obtain ⟨tb, htb⟩ : ∃ tb : Bool, (t == 0) = tb := ⟨_, rfl⟩
      have Hsm := Lib.hid (Hls.out.snoc (l := (a, q, tb)) ⟨ha0, by show a ≤ 4; omega, hq0, hq8⟩)
      go_wp2_with (first
        | (at_builtin; refine wpList_append_own _ rfl _ _ TLs rfl w.heap.size TL ii (.agg #[.int .i64 0, .int .i64 0, .bool false]) 3 24 Try.underlying43 Hi.out Hz0.out Hz1.out Hz2.out rfl (by decide) _ _ _ rfl (Hown7.out.alloc _) ⟨w7.heap.size, 0, none⟩ 1 1 (lcells [(a, q, tb)]) rfl rfl (by first | exact newsL _ _ rfl _ _ _ | (rw [← hq]; exact newsL _ _ rfl _ _ _)) (lcells_one _) (by unfold maxLen; omega) (by omega) (by simp; omega) ?_
           go_must (intro v8 w8 hown8 hgr8 _
                    have hb8 : b < w7.heap.size := by omega
                    have hG8 := grown_own (only_alloc HG7.out _) hgr8 (fun q hq => (Hown7.out.lt q hq).1)
                    have hrd8 := (Hrd7.out.alloc _).grown hgr8 (own_row_block Hown7.out hbw)
                    obtain ⟨f8, c8, hv8⟩ := own_len hown8
                    subst hv8
                    rw [← lcells_append] at hown8
                    have HG8 := Lib.hid hG8
                    have Hrd8 := Lib.hid hrd8
                    have Hown8 := Lib.hid hown8
                    clear hown8 hgr8 hG8 hrd8))
        | fail)
      go_wp2
      go_roundw
      case rel => exact ⟨j, ls ++ [(a, q, tb)], by simp; omega, by go_num, ⟨f8, c8, by simp⟩, by simpa using Hown8.out, Hsm.out, Hrd8.out.mono (by simp; omega), HG8.out⟩
      case measure => simp [intOf]
    · obtain rfl : j = 0 := by omega
      have hls8 : ls.length ≤ 8 := by omega
      have hrk' := hrk.mono (show c + 3 + 4 * ls.length ≤ c + 40 by omega)
      clear hrk
      rw [show ((0 : Nat) : Int) = 0 from rfl]
      go_wp2_with fail
      refine (pick 60 b (c + 40) _ hrk' (by omega) (by omega) (by omega)).mono ?_
      rintro e w6 ⟨z, hz0', hz60, rfl, hrd6, hg6⟩
      have hz59 := div_cases (m := 59) hz0' (by omega) (by omega) (by omega)
      have hzd : z / 59 = z.tdiv 59 := (Int.tdiv_eq_ediv_of_nonneg hz0').symm
      obtain ⟨Z, hZ⟩ : ∃ Z : Int, z.tdiv 59 = Z := ⟨_, rfl⟩
      rw [hZ] at hz59 hzd
      obtain ⟨q, hq, hq1, hq8⟩ : ∃ q : Int, p + Z * 4 = q ∧ 1 ≤ q ∧ q ≤ 8 := ⟨_, rfl, by omega, by omega⟩
      have Hout := Lib.hid (show w6.ownsRow w.heap.size TL 3 (.slice ao ls.length cp) ls.length (lcells ls) ∧ Rd w6 b (c + 40 + 1) ∧ w.grownBy w6 (some b) from ⟨own_row hown hg6 hbw, hrd6, grownBy_trans hGk hg6⟩)
      clear hg6 hGk hown hrk' hrd6
      go_wp2
      go_ret2
      exact ⟨q, _, ls, hq1, hq8, by rw [← hq]; rfl, Hout.out.1, hls, hls8, Hout.out.2.1.mono (by omega), Hout.out.2.2⟩
set_option maxHeartbeats 1000000 in
theorem drawLinkStory (a : Value) (n : Nat) (w : World) (hr : RdBytes w w.heap.size a n) :
    Calls Try.prog 22 #[a] w (OutL12 w) := by
  go_enter Try.func22, Try.ntmps22
  go_wp2_with fail
  refine (l20Open _ _ _ hr).mono ?_
  rintro e w2 ⟨b, rfl, hb, hrd, hbel⟩
  have hs2 := hbel.size
  go_wp2_with fail
  refine (l20Links b 0 _ hrd (by omega)).mono ?_
  rintro e w3 ⟨p, v, ls, hp1, hp8, rfl, hown, hls, hl8, hrd3, hg3⟩
  have Hout := Lib.hid (show w3.ownsRow w.heap.size TL 3 v ls.length (lcells ls) ∧ Below w.heap.size w w3 from ⟨own_mono hown (by omega), below_of_grown hbel (by omega) hg3⟩)
  clear hown hg3 hbel hrd hrd3
  go_wp2
  go_ret2
  exact ⟨p, v, ls, by omega, hp8, rfl, Hout.out.1, hls, hl8, Hout.out.2⟩
set_option maxHeartbeats 1000000 in
theorem drawLinkGroups (a : Value) (n : Nat) (w : World) (hr : RdBytes w w.heap.size a n) :
    Calls Try.prog 27 #[a] w (OutL12 w) := by
  go_enter Try.func27, Try.ntmps27
  go_wp2_with fail
  refine (l20Open _ _ _ hr).mono ?_
  rintro e w2 ⟨b, rfl, hb, hrd, hbel⟩
  have hs2 := hbel.size
  go_wp2_with fail
  refine (l20Links b 0 _ hrd (by omega)).mono ?_
  rintro e w3 ⟨p, v, ls, hp1, hp8, rfl, hown, hls, hl8, hrd3, hg3⟩
  have Hout := Lib.hid (show w3.ownsRow w.heap.size TL 3 v ls.length (lcells ls) ∧ Below w.heap.size w w3 from ⟨own_mono hown (by omega), below_of_grown hbel (by omega) hg3⟩)
  clear hown hg3 hbel hrd hrd3
  go_wp2
  go_ret2
  exact ⟨p, v, ls, by omega, hp8, rfl, Hout.out.1, hls, hl8, Hout.out.2⟩
set_option maxHeartbeats 1000000 in
theorem drawLinkWorlds (a : Value) (n : Nat) (w : World) (hr : RdBytes w w.heap.size a n) :
    Calls Try.prog 31 #[a] w (OutL12 w) := by
  go_enter Try.func31, Try.ntmps31
  go_wp2_with fail
  refine (l20Open _ _ _ hr).mono ?_
  rintro e w2 ⟨b, rfl, hb, hrd, hbel⟩
  have hs2 := hbel.size
  go_wp2_with fail
  refine (l20Links b 0 _ hrd (by omega)).mono ?_
  rintro e w3 ⟨p, v, ls, hp1, hp8, rfl, hown, hls, hl8, hrd3, hg3⟩
  have Hout := Lib.hid (show w3.ownsRow w.heap.size TL 3 v ls.length (lcells ls) ∧ Below w.heap.size w w3 from ⟨own_mono hown (by omega), below_of_grown hbel (by omega) hg3⟩)
  clear hown hg3 hbel hrd hrd3
  go_wp2
  go_ret2
  exact ⟨p, v, ls, by omega, hp8, rfl, Hout.out.1, hls, hl8, Hout.out.2⟩
set_option maxHeartbeats 1000000 in
theorem drawLinksOk (a : Value) (n : Nat) (w : World) (hr : RdBytes w w.heap.size a n) :
    Calls Try.prog 19 #[a] w (OutL12 w) := by
  go_enter Try.func19, Try.ntmps19
  go_wp2_with fail
  refine (l20Open _ _ _ hr).mono ?_
  rintro e w2 ⟨b, rfl, hb, hrd, hbel⟩
  have hs2 := hbel.size
  have hbw := hrd.lt
  go_wp2_with fail
  refine (l20Links b 0 _ hrd (by omega)).mono ?_
  rintro e w3 ⟨p, v, ls, hp1, hp8, rfl, hown, hls, hl8, hrd3, hg3⟩
  go_wp2_with fail
  refine (pick 4 b _ _ hrd3 (by omega) (by omega) (by omega)).mono ?_
  rintro e w4 ⟨z, hz0', hz4, rfl, hrd4, hg4⟩
  have hz3 := div_cases (m := 3) hz0' (by omega) (by omega) (by omega)
  have hzd : z / 3 = z.tdiv 3 := (Int.tdiv_eq_ediv_of_nonneg hz0').symm
  obtain ⟨Z, hZ⟩ : ∃ Z : Int, z.tdiv 3 = Z := ⟨_, rfl⟩
  rw [hZ] at hz3 hzd
  obtain ⟨q, hq, hq0, hq8⟩ : ∃ q : Int, p - Z = q ∧ 0 ≤ q ∧ q ≤ 8 := ⟨_, rfl, by omega, by omega⟩
  have Hout := Lib.hid (show w4.ownsRow w.heap.size TL 3 v ls.length (lcells ls) ∧ Below w.heap.size w w4 from ⟨own_mono (own_row hown hg4 (by omega)) (by omega), below_of_grown hbel (by omega) (grownBy_trans hg3 hg4)⟩)
  clear hown hg3 hg4 hbel hrd hrd3 hrd4
  go_wp2
  go_ret2
  exact ⟨q, v, ls, hq0, hq8, by rw [← hq]; rfl, Hout.out.1, hls, hl8, Hout.out.2⟩
end Go.Proofs.Ythiabicleedleaa
