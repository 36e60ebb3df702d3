/- Texts of a proof, merged: MadeS, Clone, MadeI, TermsX, FrameC. -/
import Derived.Test.YtngkgdoefpgnoaaMerged20
import Derived.Test.YtngkgdoefpgnoaaMerged14
import Derived.Test.YtngkgdoefpgnoaaMerged16
import Derived.Deep.RegionLaw
import Derived.Test.YtngkgdoefpgnoaaMerged17
import Derived.Test.YtngkgdoefpgnoaaMerged6
import Derived.Test.YtngkgdoefpgnoaaMerged19
import Derived.OwnWalk
import Derived.Test.YtngkgdoefpgnoaaMerged8
import Derived.Lib.SmallJoins
/- Contract of the reference's stories made for a world. -/
namespace Go.Proofs.Ytngkgdoefpgnoaa
open Go.RowKit Go.Joins
theorem madeC_noclaim {p : Int} {X k : Nat} {ms : List (Int × Int)} (h : claimOk p ((k : Int), ms) = false) : madeC p X k ms = none := by unfold madeC; rw [h]; rfl
theorem madeC_may {p : Int} {X k : Nat} {ms : List (Int × Int)} (h : claimOk p ((k : Int), ms) = true) (hm : mayT p ((k : Int), ms) X = true) : madeC p X k ms = some ((k : Int), ms) := by unfold madeC; rw [h, hm]; rfl
theorem madeC_nodeny {p : Int} {X k : Nat} {ms : List (Int × Int)} (h : claimOk p ((k : Int), ms) = true) (hm : mayT p ((k : Int), ms) X = false) (hd : denyOk p ((k : Int), ms) = false) : madeC p X k ms = none := by unfold madeC; rw [h, hm, hd]; rfl
theorem madeC_deny {p : Int} {X k : Nat} {ms : List (Int × Int)} (h : claimOk p ((k : Int), ms) = true) (hm : mayT p ((k : Int), ms) X = false) (hd : denyOk p ((k : Int), ms) = true) : madeC p X k ms = some (denyV p ((k : Int), ms)) := by unfold madeC; rw [h, hm, hd]; rfl
theorem deny_wf {p k : Int} {ms : List (Int × Int)} (hi : I64s ms) (hk : I64 k) : I64s (denyV p (k, ms)).2 ∧ I64 (denyV p (k, ms)).1 := by
  unfold denyV
  split
  · unfold denyL
    exact ⟨I64s_append hi (I64s_one (I64_small (by omega) (by omega)) (I64_small (by omega) (by omega))), hk⟩
  · exact ⟨fun m hm => by simp at hm, I64_small (by show (-100 : Int) ≤ 0; omega) (by show (0 : Int) ≤ 100; omega)⟩
attribute [local irreducible] holds tabN tabV holdsV sameV followsV alwaysV matterV claimOk mayT mayV ctabV ctabN storyV storyOk storyN storyT ctermV ctermL denyV denyOk madeC madeK madeF mcells
set_option maxRecDepth 100000 in
set_option maxHeartbeats 8000000 in
theorem specMadeStory (p x : Int) (rs : List RT) (hsz : ∀ r ∈ rs, r.2.length ≤ 2000000) (B : Nat) (v : Value) (w : World) (hr : RdTerms w B v rs) (hB : B ≤ w.heap.size) :
    Calls Try.prog 9 #[.int .i64 p, .int .i64 x, v] w (StoryOut ((madeF p x (rs.map (·.2))).getD []) (madeF p x (rs.map (·.2))).isSome w) := by
  obtain ⟨ic, hci, hcz0, hcz1, hcz2⟩ := info_parts Try.infoC12
  have Ci := Lib.hid hci; clear hci
  have Cz0 := Lib.hid hcz0; clear hcz0
  have Cz1 := Lib.hid hcz1; clear hcz1
  have Cz2 := Lib.hid hcz2; clear hcz2
  obtain ⟨im, hmi, hmz0, hmz1, hmz2⟩ := info_parts Try.infoM12
  have Mi := Lib.hid hmi; clear hmi
  have Mz0 := Lib.hid hmz0; clear hmz0
  have Mz1 := Lib.hid hmz1; clear hmz1
  have Mz2 := Lib.hid hmz2; clear hmz2
  obtain ⟨wo, rfl⟩ : ∃ wo : World, wo = w := ⟨_, rfl⟩
  have hown0 : (wo.alloc (.cells #[] TC)).ownsRow wo.heap.size TC 2 (.slice (some ⟨wo.heap.size, 0, none⟩) 0 0) 0 [] := World.ownsRow_made _ _ 0 (Nat.le_refl _) (by unfold maxLen; omega) rfl
  have hb0 : Below wo.heap.size wo (wo.alloc (.cells #[] TC)) := (Below.refl _ _).alloc (Nat.le_refl _) _
  have hst0 : StoryIn (wo.alloc (.cells #[] TC)) wo.heap.size wo.heap.size (.slice (some ⟨wo.heap.size, 0, none⟩) 0 0) [] := ⟨hown0, fun q hq => by simp at hq⟩
  obtain ⟨lo, lc, rfl, hll, hlm⟩ : ∃ lo lc, v = .slice lo rs.length lc ∧ rs.length ≤ lc ∧ lc ≤ maxLen := by
    obtain ⟨a, c, h1, h2, h3, _⟩ := hr; exact ⟨a, c, h1, h2, h3⟩
  unfold maxLen at hlm
  have Hb0 := Lib.hid hb0
  have Hst0 := Lib.hid hst0
  have Hsz := Lib.hid hsz
  clear hown0 hb0 hst0 hsz
  cases hw : wOk p x with
  | false =>
    have Hf : Hid (madeF p x (rs.map (·.2)) = none) := by unfold Hid madeF; rw [hw]; rfl
    have Hw := Lib.hid hw
    clear hr hw
    go_enter Try.func9, Try.ntmps9
    go_wp2_with fail
    refine (specWorldOk p x _).mono ?_
    rintro e w' ⟨rfl, rfl⟩
    rw [Hw.out]
    go_wp2
    go_ret2
    exact ⟨_, [], by rw [Hf.out]; rfl, by rw [Hf.out]; rfl, Hst0.out, List.Pairwise.nil, Hb0.out⟩
  | true =>
  by_cases hlen : (rs.length : Int) ≤ p
  case neg =>
    have Hf : Hid (madeF p x (rs.map (·.2)) = none) := by unfold Hid madeF; rw [hw, List.length_map, decide_eq_false hlen]; rfl
    have hgt : p < (rs.length : Int) := by omega
    have Hw := Lib.hid hw
    clear hr hw hlen
    go_enter Try.func9, Try.ntmps9
    go_wp2_with fail
    refine (specWorldOk p x _).mono ?_
    rintro e w' ⟨rfl, rfl⟩
    rw [Hw.out]
    go_wp2
    go_ret2
    exact ⟨_, [], by rw [Hf.out]; rfl, by rw [Hf.out]; rfl, Hst0.out, List.Pairwise.nil, Hb0.out⟩
  obtain ⟨hp1, hp4, hx0, hx16⟩ := wOk_lt hw
  obtain ⟨X, rfl⟩ := Int.eq_ofNat_of_zero_le hx0
  have hX16 : X < 16 := by omega
  have hgt : ¬ p < (rs.length : Int) := by omega
  have Hf0 : Hid (madeF p (X : Int) (rs.map (·.2)) = madeK p X (rs.map (·.2)) rs.length) := by unfold Hid madeF; rw [hw, List.length_map, decide_eq_true hlen, Int.toNat_natCast]; rfl
  have Hbad : Hid (∀ k, k < rs.length → madeC p X k (rs.getD k rt0).2 = none → madeF p (X : Int) (rs.map (·.2)) = none) := fun k hk hc => by
    rw [Hf0.out]
    refine madeK_none (k := k) ?_ _ hk
    rw [show (rs.map (·.2)).getD k [] = (rs.getD k rt0).2 by simp [List.getD, hk]]
    exact hc
  have Hgood : Hid (∀ k, k < rs.length → ∀ l c, madeK p X (rs.map (·.2)) k = some l → madeC p X k (rs.getD k rt0).2 = some c → madeK p X (rs.map (·.2)) (k + 1) = some (l ++ [c])) := fun k hk l c hl hc => by
    refine madeK_some hl ?_
    rw [show (rs.map (·.2)).getD k [] = (rs.getD k rt0).2 by simp [List.getD, hk]]
    exact hc
  have Hk0 : Hid (madeK p X (rs.map (·.2)) 0 = some []) := by unfold Hid madeK; rfl
  have Hw := Lib.hid hw
  have Hr := Lib.hid hr
  have hlen4 : rs.length ≤ 4 := by omega
  clear hr hw hlen
  generalize madeK p X (rs.map (·.2)) = MK at *
  generalize madeF p (X : Int) (rs.map (·.2)) = MF at *
  go_enter Try.func9, Try.ntmps9
  go_wp2_with fail
  refine (specWorldOk p (X : Int) _).mono ?_
  rintro e w' ⟨rfl, rfl⟩
  rw [Hw.out]
  go_wp2
  go_loopw [8, 9, 10, 11, 12] (fun u i _ _ _ wr => ∃ (k : Nat) (us : List QC), k ≤ rs.length ∧ us.length = k ∧ i = .int .i64 k ∧ MK k = some (us.map (·.2)) ∧ (∃ ao cp, u = .slice ao k cp) ∧ StoryIn wr wo.heap.size wo.heap.size u us ∧ Apart us ∧ Below wo.heap.size wo wr) (fun _ i _ _ _ _ => rs.length - (intOf i).toNat)
  case atStart => exact ⟨0, [], Nat.zero_le _, rfl, rfl, Hk0.out, ⟨_, _, rfl⟩, Hst0.out, List.Pairwise.nil, Hb0.out⟩
  case round =>
    obtain ⟨k, us, hk, hul, rfl, hmk, ⟨uo, uc, rfl⟩, hst, hap, hbel⟩ := hrel
    by_cases hlt : k < rs.length
    · have Hrs := Lib.hid (Hr.out.below (w' := wr) (fun q hq => hbel.block q (by omega)))
      have hmr := Hrs.out.get hlt
      obtain ⟨ao', cap', hv', _, _, _, hc0⟩ := Hrs.out
      obtain ⟨b, off, hao, hb, hc1⟩ := hc0 k hlt
      injection hv' with hv1 hv2 hv3
      subst hv1 hv3
      subst hao
      have hms := Hsz.out (rs.getD k rt0) (by rw [show rs.getD k rt0 = rs[k] by simp [List.getD, hlt]]; exact List.getElem_mem hlt)
      have hbadk := Hbad.out k hlt
      have hgoodk := Hgood.out k hlt
      clear hc0 hv2
      generalize rs.getD k rt0 = q at *
      obtain ⟨u, ms⟩ := q
      dsimp only at hc1 hmr hms hbadk hgoodk
      have hwr : wo.heap.size ≤ wr.heap.size := hbel.size
      have hbw : b < wr.heap.size := by omega
      have hi64 : I64s ms := by obtain ⟨_, _, _, _, _, hi, _⟩ := hmr; exact hi
      have hkI : I64 (k : Int) := I64_small (by omega) (by omega)
      have hbn : Below wr.heap.size wr (wr.alloc (.cells #[] TM)) := (Below.refl _ _).alloc (Nat.le_refl _) _
      have Hnew := Lib.hid (show (wr.alloc (.cells #[] TM)).ownsRow wr.heap.size TM 2 (.slice (some ⟨wr.heap.size, 0, none⟩) 0 0) 0 [] from World.ownsRow_made _ _ 0 (Nat.le_refl _) (by unfold maxLen; omega) rfl)
      have Hrd := Lib.hid (hmr.below (w' := wr.alloc (.cells #[] TM)) (fun q hq => hbn.block q (by omega)))
      have Hbn := Lib.hid hbn
      have Hgk := Lib.hid hgoodk
      have Hbk := Lib.hid hbadk
      have Hmk := Lib.hid hmk
      have Hst := Lib.hid hst
      have Hap := Lib.hid hap
      have Hbel := Lib.hid hbel
      clear hmr hbn hgoodk hbadk hmk hst hap hbel
      go_upto_region 8 with (first
        | (at_builtin; refine wpList_append_marks12 rfl (.tmp 32) (.tmp 36) rfl Mi.out Mz0.out Mz1.out Mz2.out rfl rfl Hnew.out Hrd.out (by omega) (by simp) ?_
           go_must (intro v2 w2 hown2 hgr2 _
                    rw [Nat.zero_add, List.nil_append] at hown2
                    have hb2 : Below wr.heap.size wr w2 := Hbn.out.grown hgr2 (by simp) (fun q hq => (Hnew.out.lt q hq).1)
                    obtain ⟨fo, fc, hv2⟩ := own_len hown2
                    subst hv2
                    have Hown2 := Lib.hid hown2
                    have Hb2 := Lib.hid hb2
                    clear hown2 hgr2 hb2))
        | fail)
      obtain ⟨w3, hw3, hx3, hb3, hs3⟩ := Box.new w2 (.int .i64 (k : Int)) (.slice fo ms.length fc) TC
      rw [← hw3]
      have Hown3 := Lib.hid (own_below Hown2.out hb3)
      have Hb3 := Lib.hid (Hb2.out.trans (hb3.mono Hb2.out.size))
      have HX3 := Lib.hid hx3
      obtain ⟨x1, x2, x3, x4, x5⟩ := hx3
      have hs23 := Hb2.out.size
      have hg3 := hs3
      clear hw3 hb3
      have hcl := fun w h hB => specClaimOk p (k : Int) ms w3.heap.size (.slice fo ms.length fc) w h hB
      cases hok : claimOk p ((k : Int), ms) with
      | false =>
        have Hf := Lib.hid (Hbk.out (madeC_noclaim hok))
        rw [hok] at hcl
        have Hcl := Lib.hid hcl
        clear hcl hok
        go_wp2_with fail
        refine (Hcl.out _ (RdMarks.of_own Hown3.out hi64) (Nat.le_refl _)).mono ?_
        rintro e w4 ⟨rfl, hb4⟩
        have Hb4 := Lib.hid (Hb3.out.trans (hb4.mono Hb3.out.size))
        clear hb4
        have HB4x := Lib.hid (Hbel.out.trans (Hb4.out.mono hwr))
        go_wp2
        go_ret2
        have hbx := HB4x.out.size
        exact ⟨_, [], by rw [Hf.out]; rfl, by rw [Hf.out]; rfl, ⟨World.ownsRow_made _ _ 0 (by first | omega | (simp; omega)) (by unfold maxLen; omega) rfl, fun q hq => by simp at hq⟩, List.Pairwise.nil, by first | exact HB4x.out.alloc hbx _ | exact (HB4x.out.alloc hbx _).alloc (by simp; omega) _⟩
      | true =>
        have hm13 : ms.length ≤ 13 := (claimOk_iff.1 hok).2.2.2
        have Hmay := Lib.hid (fun w h hB => specMayT hok X hX16 w3.heap.size (.slice fo ms.length fc) w h hB)
        rw [hok] at hcl
        have Hcl := Lib.hid hcl
        clear hcl
        cases hmay : mayT p ((k : Int), ms) X with
        | true =>
          have Hnext := Lib.hid (Hgk.out _ _ Hmk.out (madeC_may hok hmay))
          rw [hmay] at Hmay
          have Hki : Hid (I64s ms ∧ I64 (k : Int)) := ⟨hi64, hkI⟩
          clear hok hmay
          go_wp2_with fail
          refine (Hcl.out _ (RdMarks.of_own Hown3.out hi64) (Nat.le_refl _)).mono ?_
          rintro e w4 ⟨rfl, hb4⟩
          have Hown4 := Lib.hid (own_below Hown3.out hb4)
          have Hrd4 := Lib.hid ((RdMarks.of_own Hown3.out hi64).below (w' := w4) hb4.block)
          have hs4 := hb4.size
          obtain ⟨x1, x2, x3, x4, x5⟩ := HX3.out.below hb4
          have HX4 := Lib.hid (HX3.out.below hb4)
          have Hb4 := Lib.hid (Hb3.out.trans (hb4.mono Hb3.out.size))
          clear hb4
          go_wp2_with fail
          refine (Hmay.out _ Hrd4.out hs4).mono ?_
          rintro e wC ⟨rfl, hb5⟩
          have HoC := own_below Hown4.out hb5
          have HbC := Hb4.out.trans (hb5.mono Hb4.out.size)
          obtain ⟨x1, x2, x3, x4, x5⟩ := HX4.out.below hb5
          clear hb5
          obtain ⟨dk, hdk⟩ : ∃ dk : Int, dk = (k : Int) := ⟨_, rfl⟩
          obtain ⟨dm, hdm⟩ : ∃ dm, dm = ms := ⟨_, rfl⟩
          rw [← hdk, ← hdm] at Hnext
          rw [← hdk] at x1
          subst hdm
          rw [← hdk] at Hki
          clear hdk
          have hbC2 := Hbel.out.trans (HbC.mono hwr)
          have hsC := hbC2.size
          have Hall := Lib.hid (fun v' w5 h1 h2 => story_pushed (w5 := w5) (v' := v') (u := .slice fo dm.length fc) (k := dk) (ms := dm) (o := .cells #[.int .i64 dk, .slice fo dm.length fc] TC) hbC2 (Hst.out.below HbC) Hap.out (fun r hr k hk => ((Hst.out.2 r hr).1.lt k hk).2) HoC hwr Hki.out.1 Hki.out.2 h1 h2)
          have HstC := Lib.hid ((Hst.out.below HbC).1)
          clear hbC2 HbC HoC
          go_wp2_with (at_builtin; refine wpList_append_own _ rfl _ _ 24 rfl wo.heap.size TC ic (.agg #[.int .i64 0, .slice none 0 0]) 2 32 Try.underlying24 Ci.out Cz0.out Cz1.out Cz2.out rfl (by decide) _ _ _ rfl (HstC.out.alloc _) ⟨wC.heap.size, 0, none⟩ 1 1 (ccells [(.slice fo dm.length fc, (dk, dm))]) rfl rfl (newsC _ _ rfl _ _ _ _) (ccells_one (by simp [Value.oneCell'])) (by unfold maxLen; omega) (by omega) (by simp; omega) ?_)
          intro v' w5 hown' hgrow _
          have Hout := Lib.hid (Hall.out v' w5 (by rw [hul]; exact hown') hgrow)
          obtain ⟨ao', cp', rfl⟩ := own_len hown'
          clear hown' hgrow Hall HstC
          go_wp2
          go_roundw
          case rel => exact ⟨k + 1, us ++ [(.slice fo dm.length fc, (dk, dm))], by omega, by simp [hul], by go_num, by rw [List.map_append]; exact Hnext.out, ⟨ao', cp', by simp⟩, Hout.out.1, Hout.out.2.1, Hout.out.2.2⟩
          case measure => simp [intOf]; omega
        | false =>
        have hdw := deny_wf (p := p) (k := (k : Int)) hi64 hkI
        have Hdn := Lib.hid (fun w h hB => specDenyClaim p (k : Int) ms w3.heap.size (.slice fo ms.length fc) w h hB (by omega))
        rw [hmay] at Hmay
        cases hd : denyOk p ((k : Int), ms) with
        | false =>
          have Hf := Lib.hid (Hbk.out (madeC_nodeny hok hmay hd))
          rw [hd] at Hdn
          unfold ClaimOut at Hdn
          generalize denyV p ((k : Int), ms) = dd at *
          obtain ⟨dk, dm⟩ := dd
          dsimp only at Hdn
          clear hok hmay hd hdw
          go_wp2_with fail
          refine (Hcl.out _ (RdMarks.of_own Hown3.out hi64) (Nat.le_refl _)).mono ?_
          rintro e w4 ⟨rfl, hb4⟩
          have Hrd4 := Lib.hid ((RdMarks.of_own Hown3.out hi64).below (w' := w4) hb4.block)
          have hs4 := hb4.size
          obtain ⟨x1, x2, x3, x4, x5⟩ := HX3.out.below hb4
          have HX4 := Lib.hid (HX3.out.below hb4)
          have Hb4 := Lib.hid (Hb3.out.trans (hb4.mono Hb3.out.size))
          clear hb4
          go_wp2_with fail
          refine (Hmay.out _ Hrd4.out hs4).mono ?_
          rintro e w6 ⟨rfl, hb6⟩
          have Hrd6 := Lib.hid (Hrd4.out.below (w' := w6) (fun q hq => hb6.block q (by omega)))
          have hs6 : w3.heap.size ≤ w6.heap.size := by have := hb6.size; omega
          obtain ⟨x1, x2, x3, x4, x5⟩ := HX4.out.below hb6
          have Hb6 := Lib.hid (Hb4.out.trans (hb6.mono Hb4.out.size))
          clear hb6
          go_wp2_with fail
          refine (Hdn.out _ Hrd6.out hs6).mono ?_
          rintro e w7 ⟨v7, rfl, hown7, hb7⟩
          obtain ⟨f7, c7, hv7⟩ := own_len hown7
          subst hv7
          have Hb7 := Lib.hid (Hb6.out.trans (hb7.mono Hb6.out.size))
          clear hb7 hown7
          go_upto_region 12 with fail
          obtain ⟨w8, hw8, hx8, hb8, hs8⟩ := Box.new w7 (.int .i64 dk) (.slice f7 dm.length c7) TC
          rw [← hw8]
          have Hb8 := Lib.hid (Hb7.out.trans (hb8.mono Hb7.out.size))
          clear hw8 hx8 hb8
          have HB8x := Lib.hid (Hbel.out.trans (Hb8.out.mono hwr))
          go_wp2
          go_ret2
          have hbx := HB8x.out.size
          exact ⟨_, [], by rw [Hf.out]; rfl, by rw [Hf.out]; rfl, ⟨World.ownsRow_made _ _ 0 (by first | omega | (simp; omega)) (by unfold maxLen; omega) rfl, fun q hq => by simp at hq⟩, List.Pairwise.nil, by first | exact HB8x.out.alloc hbx _ | exact (HB8x.out.alloc hbx _).alloc (by simp; omega) _⟩
        | true =>
          have Hnext := Lib.hid (Hgk.out _ _ Hmk.out (madeC_deny hok hmay hd))
          rw [hd] at Hdn
          unfold ClaimOut at Hdn
          generalize denyV p ((k : Int), ms) = dd at *
          obtain ⟨dk, dm⟩ := dd
          dsimp only at Hdn hdw
          have Hki : Hid (I64s dm ∧ I64 dk) := hdw
          clear hok hmay hd hdw
          go_wp2_with fail
          refine (Hcl.out _ (RdMarks.of_own Hown3.out hi64) (Nat.le_refl _)).mono ?_
          rintro e w4 ⟨rfl, hb4⟩
          have Hrd4 := Lib.hid ((RdMarks.of_own Hown3.out hi64).below (w' := w4) hb4.block)
          have hs4 := hb4.size
          obtain ⟨x1, x2, x3, x4, x5⟩ := HX3.out.below hb4
          have HX4 := Lib.hid (HX3.out.below hb4)
          have Hb4 := Lib.hid (Hb3.out.trans (hb4.mono Hb3.out.size))
          clear hb4
          go_wp2_with fail
          refine (Hmay.out _ Hrd4.out hs4).mono ?_
          rintro e w6 ⟨rfl, hb6⟩
          have Hrd6 := Lib.hid (Hrd4.out.below (w' := w6) (fun q hq => hb6.block q (by omega)))
          have hs6 : w3.heap.size ≤ w6.heap.size := by have := hb6.size; omega
          obtain ⟨x1, x2, x3, x4, x5⟩ := HX4.out.below hb6
          have HX6 := Lib.hid (HX4.out.below hb6)
          have Hb6 := Lib.hid (Hb4.out.trans (hb6.mono Hb4.out.size))
          clear hb6
          go_wp2_with fail
          refine (Hdn.out _ Hrd6.out hs6).mono ?_
          rintro e w7 ⟨v7, rfl, hown7, hb7⟩
          obtain ⟨fo, fc, hv7⟩ := own_len hown7
          subst hv7
          have hs7 := hb7.size
          go_upto_region 12 with fail
          obtain ⟨w8, hw8, hx8, hb8, hs8⟩ := Box.new w7 (.int .i64 dk) (.slice fo dm.length fc) TC
          rw [← hw8]
          have hy8 := (HX6.out.below hb7).below hb8
          have hown8 := own_below hown7 hb8
          have hb38 := Hb6.out.trans ((hb7.trans (hb8.mono hb7.size)).mono Hb6.out.size)
          obtain ⟨z1, z2, z3, z4, z5⟩ := hx8
          obtain ⟨x1, x2, x3, x4, x5⟩ := hy8
          obtain ⟨wC, eC, hxC, hgC⟩ := Box.set (w := w8) (g := w2.heap.size) ⟨x1, x2, x3, x4, x5⟩ (.int .i64 dk) (.slice fo dm.length fc)
          have HoC := own_row (own_mono (base := w2.heap.size + 1) hown8 (by omega)) hgC (by omega)
          have HbC := hb38.grown hgC (by have := hb38.size; omega) (fun q hq => by cases hq; omega)
          have HoC := own_mono (base := wr.heap.size) HoC (by omega)
          have EC := Lib.hid eC
          have HXC := Lib.hid hxC
          have HoC' := Lib.hid HoC
          have HbC' := Lib.hid HbC
          clear hw8 hb7 hb8 hown7 hown8 hb38 hgC eC hxC HoC HbC
          go_upto_region 15 with fail
          rw [← EC.out]
          clear x1 x2 x3 x4 x5 z1 z2 z3 z4 z5
          obtain ⟨x1, x2, x3, x4, x5⟩ := HXC.out
          have HoC := HoC'.out
          have HbC := HbC'.out
          have hbC2 := Hbel.out.trans (HbC.mono hwr)
          have hsC := hbC2.size
          have Hall := Lib.hid (fun v' w5 h1 h2 => story_pushed (w5 := w5) (v' := v') (u := .slice fo dm.length fc) (k := dk) (ms := dm) (o := .cells #[.int .i64 dk, .slice fo dm.length fc] TC) hbC2 (Hst.out.below HbC) Hap.out (fun r hr k hk => ((Hst.out.2 r hr).1.lt k hk).2) HoC hwr Hki.out.1 Hki.out.2 h1 h2)
          have HstC := Lib.hid ((Hst.out.below HbC).1)
          clear hbC2 HbC HoC
          go_wp2_with (at_builtin; refine wpList_append_own _ rfl _ _ 24 rfl wo.heap.size TC ic (.agg #[.int .i64 0, .slice none 0 0]) 2 32 Try.underlying24 Ci.out Cz0.out Cz1.out Cz2.out rfl (by decide) _ _ _ rfl (HstC.out.alloc _) ⟨wC.heap.size, 0, none⟩ 1 1 (ccells [(.slice fo dm.length fc, (dk, dm))]) rfl rfl (newsC _ _ rfl _ _ _ _) (ccells_one (by simp [Value.oneCell'])) (by unfold maxLen; omega) (by omega) (by simp; omega) ?_)
          intro v' w5 hown' hgrow _
          have Hout := Lib.hid (Hall.out v' w5 (by rw [hul]; exact hown') hgrow)
          obtain ⟨ao', cp', rfl⟩ := own_len hown'
          clear hown' hgrow Hall HstC
          go_wp2
          go_roundw
          case rel => exact ⟨k + 1, us ++ [(.slice fo dm.length fc, (dk, dm))], by omega, by simp [hul], by go_num, by rw [List.map_append]; exact Hnext.out, ⟨ao', cp', by simp⟩, Hout.out.1, Hout.out.2.1, Hout.out.2.2⟩
          case measure => simp [intOf]; omega
    · obtain rfl : k = rs.length := by omega
      have Hst := Lib.hid hst
      have Hap := Lib.hid hap
      have Hbel := Lib.hid hbel
      have Hmf : Hid (MF = some (us.map (·.2))) := by unfold Hid; rw [Hf0.out]; exact hmk
      clear hst hmk hap hbel
      go_wp2
      go_ret2
      exact ⟨_, us, by rw [Hmf.out]; rfl, by rw [Hmf.out]; rfl, Hst.out, Hap.out, Hbel.out⟩
end Go.Proofs.Ytngkgdoefpgnoaa
/- Contract of slices.Clone at rows of marks: a new row of the same marks. -/
namespace Go.Proofs.Ytngkgdoefpgnoaa
open Go.RowKit Go.Joins
theorem below_grownC {B : Nat} {w w1 w2 : World} {row : Option Nat} (h : Below B w w1) (hg : w1.grownBy w2 row) (hB : B ≤ w1.heap.size) (hr : ∀ k, row = some k → B ≤ k) : Below B w w2 :=
  h.trans ⟨hg.os, hg.tape, hg.output, hg.size, fun i hi => hg.block i (by omega) (fun e => by have := hr i e.symm; omega)⟩
theorem mcells_nilI : mcells [] = [] := rfl
set_option maxRecDepth 100000 in
set_option maxHeartbeats 1000000 in
theorem implClone (ms : List (Int × Int)) (B : Nat) (u : Value) (w : World) (hr : RdMarks w B u ms) (hB : B ≤ w.heap.size) (hl : ms.length ≤ 1000) :
    Calls Try.prog 61 #[u] w (RowOut ms w) := by
  obtain ⟨im, hmi, hmz0, hmz1, hmz2⟩ := info_parts Try.infoM
  have Hr := Lib.hid hr
  obtain ⟨ao, cap, rfl, hlc, hcm, _, hc⟩ := hr
  cases ao with
  | none =>
    have h0 : ms = [] := by
      cases ms with
      | nil => rfl
      | cons m r =>
        obtain ⟨_, _, he, _⟩ := hc 0 (by simp)
        cases he
    subst h0
    clear Hr hc hmi hmz0 hmz1 hmz2
    have qT : ∀ (w : World), (binOp .eql 51 (.slice none 0 cap) (.slice none 0 0)).run Try.prog w = .ok (.bool true) w := fun w => Lib.run_eql_slice_nil w _ _ none _ _ _ _ Try.underlying51
    go_enter Try.func61, Try.ntmps61
    go_wp2
    go_ret
    exact ⟨_, rfl, by rw [mcells_nilI]; exact World.ownsRow_nil _ _ _ _, Below.refl _ _⟩
  | some a =>
    have hb1 : Below w.heap.size w (w.alloc (.cells #[] TM)) := (Below.refl _ _).alloc (Nat.le_refl _) _
    have hmade : (w.alloc (.cells #[] TM)).ownsRow w.heap.size TM 2 (.slice (some ⟨w.heap.size, 0, none⟩) 0 0) 0 [] := World.ownsRow_made _ _ 0 (Nat.le_refl _) (by unfold maxLen; omega) rfl
    obtain ⟨v4, w4, hrun, hown4, hgr4, _⟩ := append_rd hmi hmz0 hmz1 hmz2 hmade (Hr.out.below (w' := w.alloc (.cells #[] TM)) (fun q hq => hb1.block q (by omega))) (by omega) (by simp)
    have hb4 := below_grownC hb1 hgr4 (by simp) (fun q hq => by cases hq; exact Nat.le_refl _)
    rw [Nat.zero_add, List.nil_append] at hown4
    have Hrun := Lib.hid hrun
    have Hown4 := Lib.hid hown4
    have Hb4 := Lib.hid hb4
    clear hrun hown4 hb4 hgr4 hmade hb1 hc Hr hmi hmz0 hmz1 hmz2
    have qT : ∀ (w : World), (binOp .eql 51 (.slice (some a) ms.length cap) (.slice none 0 0)).run Try.prog w = .ok (.bool false) w := fun w => Lib.run_eql_slice_nil w _ _ (some a) _ _ _ _ Try.underlying51
    go_enter Try.func61, Try.ntmps61
    go_wp2_with (first
      | (at_builtin; refine Lib.wpList_append_run _ rfl _ _ _ _ rfl _ _ rfl rfl _ _ Hrun.out ?_)
      | fail)
    go_wp2
    go_ret
    exact ⟨_, rfl, Hown4.out, Hb4.out⟩
end Go.Proofs.Ytngkgdoefpgnoaa
/- Contracts of the program's stories made for a world. -/
namespace Go.Proofs.Ytngkgdoefpgnoaa
open Go.RowKit Go.Joins
theorem made_may {p x : Int} {k : Nat} {ms : List (Int × Int)} (hw : wOk p x = true) (h : mayV p ((k : Int), ms) x = true) : madeC p x.toNat k ms = some ((k : Int), ms) ∧ ms.length ≤ 13 := by
  cases hc : claimOk p ((k : Int), ms) with
  | false => rw [mayV_no hc] at h; cases h
  | true =>
    rw [mayV_yes hc hw] at h
    exact ⟨madeC_may hc h, (claimOk_iff.1 hc).2.2.2⟩
theorem made_deny {p x : Int} {k : Nat} {ms : List (Int × Int)} (hw : wOk p x = true) (h : mayV p ((k : Int), ms) x = false) : denyV p ((k : Int), ms) = (madeC p x.toNat k ms).getD (0, []) ∧ denyOk p ((k : Int), ms) = (madeC p x.toNat k ms).isSome := by
  cases hc : claimOk p ((k : Int), ms) with
  | false =>
    rw [madeC_noclaim hc]
    exact ⟨(denyOk_no hc).2, (denyOk_no hc).1⟩
  | true =>
    rw [mayV_yes hc hw] at h
    cases hd : denyOk p ((k : Int), ms) with
    | false =>
      rw [madeC_nodeny hc h hd]
      exact ⟨by unfold denyV; rw [hd]; rfl, rfl⟩
    | true =>
      rw [madeC_deny hc h hd]
      exact ⟨rfl, rfl⟩
theorem made_wf {p : Int} {X k : Nat} {ms : List (Int × Int)} (hi : I64s ms) (hk : I64 (k : Int)) {c : Cl} (h : madeC p X k ms = some c) : I64s c.2 ∧ I64 c.1 := by
  unfold madeC at h
  split at h
  · split at h
    · cases h; exact ⟨hi, hk⟩
    · split at h
      · cases h; exact deny_wf hi hk
      · cases h
  · cases h
attribute [local irreducible] holds tabN tabV holdsV sameV followsV alwaysV matterV claimOk mayT mayV ctabV ctabN storyV storyOk storyN storyT ctermV ctermL denyV denyOk madeC madeK madeF mcells
set_option maxRecDepth 100000 in
set_option maxHeartbeats 8000000 in
theorem implSaid (p x : Int) (k : Nat) (ms : List (Int × Int)) (hw : wOk p x = true) (B : Nat) (u : Value) (w : World) (hr : RdMarks w B u ms) (hB : B ≤ w.heap.size) :
    Calls Try.prog 39 #[.int .i64 p, .agg #[.int .i64 (k : Int), u], .int .i64 x] w (ClaimOut ((madeC p x.toNat k ms).getD (0, [])) (madeC p x.toNat k ms).isSome w) := by
  obtain ⟨uo, uc, rfl⟩ : ∃ uo uc, u = .slice uo ms.length uc := by
    obtain ⟨a, c, h, _⟩ := hr
    exact ⟨a, c, h⟩
  obtain ⟨w2, hw2, hx2, hy2, hb2, hs2⟩ := two_boxes w (k : Int) (.slice uo ms.length uc)
  have Hr2 := Lib.hid (hr.below (w' := w2) (fun q hq => hb2.block q (by omega)))
  have hB2 : B ≤ w2.heap.size := by omega
  have hms := fun w h hB => implMaySay p (k : Int) x ms B (.slice uo ms.length uc) w h hB
  have HX2 := Lib.hid hx2
  have HY2 := Lib.hid hy2
  have HB2 := Lib.hid hb2
  obtain ⟨x1, x2, x3, x4, x5⟩ := hx2
  clear hy2 hb2 hr
  cases hm : mayV p ((k : Int), ms) x with
  | false =>
    obtain ⟨e1, e2⟩ := made_deny hw hm
    have Hd := Lib.hid (fun w h hB => implDenyClaim p (k : Int) ms B (.slice uo ms.length uc) w h hB)
    rw [e1, e2] at Hd
    rw [hm] at hms
    have Hms := Lib.hid hms
    clear hms hm hw e1 e2
    generalize madeC p x.toNat k ms = mc at *
    have Hfin : Hid (∀ {w3 : World} {a b : Value}, Box w3 (w.heap.size + 1) a b → Below w.heap.size w w3 → ∀ v, w3.ownsRow w2.heap.size TM 2 v (mc.getD (0, [])).2.length (mcells (mc.getD (0, [])).2) → ∃ w4, w4 = (w3.setCell ⟨w.heap.size + 1, 0, none⟩ (.int .i64 (mc.getD (0, [])).1)).setCell ⟨w.heap.size + 1, 1, none⟩ v ∧ Box w4 (w.heap.size + 1) (.int .i64 (mc.getD (0, [])).1) v ∧ ClaimOut (mc.getD (0, [])) mc.isSome w (.returned (.tuple #[.agg #[.int .i64 (mc.getD (0, [])).1, v], .bool mc.isSome])) w4) := fun hx hb v ho => by
      obtain ⟨w6, e6, h6, g6⟩ := hx.set (.int .i64 (mc.getD (0, [])).1) v
      exact ⟨w6, e6, h6, v, rfl, own_mono (own_row ho g6 (by omega)) (by omega), below_rowD hb g6 (fun q hq => by cases hq; omega)⟩
    generalize mc.getD (0, []) = c at *
    generalize mc.isSome = o at *
    obtain ⟨ck, cm⟩ := c
    unfold ClaimOut at Hd
    dsimp only at Hd Hfin
    go_enter Try.func39, Try.ntmps39
    go_upto_region 1 with fail
    rw [← hw2]
    clear hw2
    go_wp2_with fail
    refine (Hms.out _ Hr2.out hB2).mono ?_
    rintro e w3 ⟨rfl, hb3⟩
    obtain ⟨q1, q2, q3, q4, q5⟩ := HX2.out.below hb3
    have Hr3 := Lib.hid (Hr2.out.below (w' := w3) (fun q hq => hb3.block q (by omega)))
    have HB3 := Lib.hid (HB2.out.trans (hb3.mono (by omega)))
    have HY3 := Lib.hid (HY2.out.below hb3)
    have hB3 : B ≤ w3.heap.size := by have := hb3.size; omega
    have hs3 := hb3.size
    clear hb3 x1 x2 x3 x4 x5
    go_wp2_with fail
    refine (Hd.out _ Hr3.out hB3).mono ?_
    rintro e w4 ⟨v4, rfl, hown4, hb4⟩
    obtain ⟨fo, fc, hf⟩ := own_len hown4
    subst hf
    have hy4 := HY3.out.below hb4
    obtain ⟨w7, e7, hx7, hout⟩ := Hfin.out hy4 (HB3.out.trans (hb4.mono (by omega))) _ (own_mono hown4 (by omega))
    have E7 := Lib.hid e7
    have Hout := Lib.hid hout
    obtain ⟨y1, y2, y3, y4, y5⟩ := hy4
    clear e7 hout hb4 hown4 q1 q2 q3 q4 q5
    go_wp2
    rw [← E7.out]
    obtain ⟨z1, z2, _⟩ := hx7
    exact bodyPost_ret (by simp [results, Try.results39, go_sem, z1, z2]) rfl Hout.out
  | true =>
    obtain ⟨e1, e2⟩ := made_may hw hm
    have Hd := Lib.hid (fun w h hB => implClone ms B (.slice uo ms.length uc) w h hB (by omega))
    rw [e1]
    rw [hm] at hms
    have Hms := Lib.hid hms
    clear hms hm hw e1
    unfold RowOut at Hd
    go_enter Try.func39, Try.ntmps39
    go_upto_region 1 with fail
    rw [← hw2]
    clear hw2
    go_wp2_with fail
    refine (Hms.out _ Hr2.out hB2).mono ?_
    rintro e w3 ⟨rfl, hb3⟩
    have HX3 := Lib.hid (HX2.out.below hb3)
    obtain ⟨q1, q2, q3, q4, q5⟩ := HX3.out
    have Hr3 := Lib.hid (Hr2.out.below (w' := w3) (fun q hq => hb3.block q (by omega)))
    have HB3 := Lib.hid (HB2.out.trans (hb3.mono (by omega)))
    have HY3 := Lib.hid (HY2.out.below hb3)
    have hB3 : B ≤ w3.heap.size := by have := hb3.size; omega
    have hs3 := hb3.size
    clear hb3 x1 x2 x3 x4 x5
    go_upto_region 2 with fail
    go_region_law
      (first
        | (go_simp
           go_at_call 61
           refine (Hd.out _ (by first | exact Hr3.out | exact Hr3.out.below (fun _ _ => rfl)) (by first | exact hB3 | (simp; omega))).mono ?_
           rintro e w4 ⟨v4, rfl, hown4', hb4'⟩
           have hb4 : Below w3.heap.size w3 w4 := by first | exact hb4' | exact below_undrewS hb4' | exact below_undrewN hb4'
           go_must (have hown4 : w4.ownsRow w3.heap.size TM 2 v4 ms.length (mcells ms) := hown4'
                    obtain ⟨fo, fc, hf⟩ := own_len hown4
                    subst hf
                    have hy4 := HY3.out.below hb4
                    obtain ⟨w7, e7, hx7, hout⟩ := claim_some (w := w) (base := w2.heap.size) (g := w.heap.size + 1) (k := (k : Int)) (ms := ms) (c := ((k : Int), ms)) (o := true) (by omega) (by omega) hy4 (HB3.out.trans (hb4.mono (by omega))) (own_mono hown4 (by omega)) ⟨rfl, rfl⟩
                    have E7 := Lib.hid e7
                    have Hout := Lib.hid hout
                    have Hx7 := Lib.hid hx7
                    obtain ⟨y1, y2, y3, y4, y5⟩ := hy4
                    obtain ⟨q1, q2, q3, q4, q5⟩ := HX3.out.below hb4
                    clear e7 hout hx7 hb4 hb4' hown4 hown4'))
        | fail)
    all_goals
      rw [← E7.out]
      obtain ⟨z1, z2, _⟩ := Hx7.out
      clear y1 y2 y3 y4 y5 q1 q2 q3 q4 q5
      go_wp2
      exact bodyPost_ret (by simp [results, Try.results39, go_sem, z1, z2]) rfl Hout.out
set_option maxRecDepth 100000 in
set_option maxHeartbeats 8000000 in
theorem implMadeStory (p x : Int) (rs : List RT) (_ : ∀ r ∈ rs, r.2.length ≤ 2000000) (B : Nat) (v : Value) (w : World) (hr : RdTerms w B v rs) (hB : B ≤ w.heap.size) :
    Calls Try.prog 11 #[.int .i64 p, .int .i64 x, v] w (StoryOut ((madeF p x (rs.map (·.2))).getD []) (madeF p x (rs.map (·.2))).isSome w) := by
  obtain ⟨ic, hci, hcz0, hcz1, hcz2⟩ := info_parts Try.infoC12
  have Ci := Lib.hid hci; clear hci
  have Cz0 := Lib.hid hcz0; clear hcz0
  have Cz1 := Lib.hid hcz1; clear hcz1
  have Cz2 := Lib.hid hcz2; clear hcz2
  obtain ⟨wo, rfl⟩ : ∃ wo : World, wo = w := ⟨_, rfl⟩
  obtain ⟨lo, lc, rfl, hll, hlm⟩ : ∃ lo lc, v = .slice lo rs.length lc ∧ rs.length ≤ lc ∧ lc ≤ maxLen := by
    obtain ⟨a, c, h1, h2, h3, _⟩ := hr; exact ⟨a, c, h1, h2, h3⟩
  unfold maxLen at hlm
  have hst0 : ∀ w', StoryIn w' wo.heap.size wo.heap.size (.slice none 0 0) [] := fun w' => ⟨World.ownsRow_nil _ _ _ _, fun q hq => by simp at hq⟩
  have Hst0 := Lib.hid hst0; clear hst0

  have hwo := fun w => implWorldOk p x w
  cases hw : wOk p x with
  | false =>
    have Hf : Hid (madeF p x (rs.map (·.2)) = none) := by unfold Hid madeF; rw [hw]; rfl
    rw [hw] at hwo
    have Hw := Lib.hid hwo
    clear hr hw hwo
    go_enter Try.func11, Try.ntmps11
    go_wp2_with fail
    refine (Hw.out _).mono ?_
    rintro e w' ⟨rfl, rfl⟩
    go_wp2
    go_ret2
    exact ⟨_, [], by rw [Hf.out]; rfl, by rw [Hf.out]; rfl, Hst0.out _, List.Pairwise.nil, Below.refl _ _⟩
  | true =>
  have hsd := fun (k : Nat) (ms : List (Int × Int)) => implSaid p x k ms hw
  rw [hw] at hwo
  have Hwo := Lib.hid hwo
  clear hwo
  by_cases hlen : (rs.length : Int) ≤ p
  case neg =>
    have Hf : Hid (madeF p x (rs.map (·.2)) = none) := by unfold Hid madeF; rw [hw, List.length_map, decide_eq_false hlen]; rfl
    have hgt : p < (rs.length : Int) := by omega
    clear hr hw hlen hsd
    go_enter Try.func11, Try.ntmps11
    go_wp2_with fail
    refine (Hwo.out _).mono ?_
    rintro e w' ⟨rfl, rfl⟩
    go_wp2
    go_ret2
    exact ⟨_, [], by rw [Hf.out]; rfl, by rw [Hf.out]; rfl, Hst0.out _, List.Pairwise.nil, Below.refl _ _⟩
  obtain ⟨hp1, hp4, hx0, hx16⟩ := wOk_lt hw
  obtain ⟨X, rfl⟩ := Int.eq_ofNat_of_zero_le hx0
  have hgt : ¬ p < (rs.length : Int) := by omega
  have Hf0 : Hid (madeF p (X : Int) (rs.map (·.2)) = madeK p X (rs.map (·.2)) rs.length) := by unfold Hid madeF; rw [hw, List.length_map, decide_eq_true hlen, Int.toNat_natCast]; rfl
  have Hbad : Hid (∀ k, k < rs.length → madeC p X k (rs.getD k rt0).2 = none → madeF p (X : Int) (rs.map (·.2)) = none) := fun k hk hc => by
    rw [Hf0.out]
    refine madeK_none (k := k) ?_ _ hk
    rw [show (rs.map (·.2)).getD k [] = (rs.getD k rt0).2 by simp [List.getD, hk]]
    exact hc
  have Hgood : Hid (∀ k, k < rs.length → ∀ l c, madeK p X (rs.map (·.2)) k = some l → madeC p X k (rs.getD k rt0).2 = some c → madeK p X (rs.map (·.2)) (k + 1) = some (l ++ [c])) := fun k hk l c hl hc => by
    refine madeK_some hl ?_
    rw [show (rs.map (·.2)).getD k [] = (rs.getD k rt0).2 by simp [List.getD, hk]]
    exact hc
  have Hk0 : Hid (madeK p X (rs.map (·.2)) 0 = some []) := by unfold Hid madeK; rfl
  simp only [Int.toNat_natCast] at hsd
  have Hsd := Lib.hid hsd
  have Hr := Lib.hid hr
  have hlen4 : rs.length ≤ 4 := by omega
  clear hr hw hlen hsd hx0 hx16 hp1 hp4
  generalize madeK p X (rs.map (·.2)) = MK at *
  generalize madeF p (X : Int) (rs.map (·.2)) = MF at *
  go_enter Try.func11, Try.ntmps11
  go_wp2_with fail
  refine (Hwo.out _).mono ?_
  rintro e w' ⟨rfl, rfl⟩
  go_wp2
  go_loopw [8, 9, 10, 11, 12, 25] (fun u _ _ _ _ i wr => ∃ (k : Nat) (us : List QC), k ≤ rs.length ∧ us.length = k ∧ i = .int .i64 k ∧ MK k = some (us.map (·.2)) ∧ (∃ ao cp, u = .slice ao k cp) ∧ StoryIn wr wo.heap.size wo.heap.size u us ∧ Apart us ∧ Below wo.heap.size wo wr) (fun _ _ _ _ _ i _ => rs.length - (intOf i).toNat)
  case atStart => exact ⟨0, [], Nat.zero_le _, rfl, rfl, Hk0.out, ⟨_, _, rfl⟩, Hst0.out _, List.Pairwise.nil, Below.refl _ _⟩
  case round =>
    obtain ⟨k, us, hk, hul, rfl, hmk, ⟨uo, uc, rfl⟩, hst, hap, hbel⟩ := hrel
    by_cases hlt : k < rs.length
    · have Hrs := Lib.hid (Hr.out.below (w' := wr) (fun q hq => hbel.block q (by omega)))
      have hmr := Hrs.out.get hlt
      obtain ⟨ao', cap', hv', _, _, _, hc0⟩ := Hrs.out
      obtain ⟨b, off, hao, hb, hc1⟩ := hc0 k hlt
      injection hv' with hv1 hv2 hv3
      subst hv1 hv3
      subst hao
      have hbadk := Hbad.out k hlt
      have hgoodk := Hgood.out k hlt
      clear hc0 hv2
      generalize rs.getD k rt0 = q at *
      obtain ⟨u, ms⟩ := q
      dsimp only at hc1 hmr hbadk hgoodk
      have hwr : wo.heap.size ≤ wr.heap.size := hbel.size
      have hi64 : I64s ms := by obtain ⟨_, _, _, _, _, hi, _⟩ := hmr; exact hi
      have hkI : I64 (k : Int) := I64_small (by omega) (by omega)
      have Hwf := Lib.hid (fun c h => made_wf (p := p) (X := X) (c := c) hi64 hkI h)
      have Hsk := Lib.hid (Hsd.out k ms B u wr hmr (by omega))
      obtain ⟨mo, mp, rfl⟩ : ∃ mo mp, u = .slice mo ms.length mp := by
        obtain ⟨a, c, h, _⟩ := hmr
        exact ⟨a, c, h⟩
      have Hst := Lib.hid hst
      have Hap := Lib.hid hap
      have Hbel := Lib.hid hbel
      have Hmk := Lib.hid hmk
      have Hgk := Lib.hid hgoodk
      have Hbk := Lib.hid hbadk
      clear hmr hgoodk hbadk hmk hst hap hbel hi64 hkI Hsd
      generalize madeC p X k ms = mc at *
      go_wp2_with fail
      refine Hsk.out.mono ?_
      rintro e wn ⟨vc, rfl, hown, hbn⟩
      cases mc with
      | none =>
        have Hf := Lib.hid (Hbk.out rfl)
        have hb4 := Hbel.out.trans (hbn.mono hwr)
        change wn.ownsRow wr.heap.size TM 2 vc 0 (mcells []) at hown
        obtain ⟨wC, hwC, hx, hbC, _⟩ := Box.new wn (.int .i64 0) vc TC
        have HbC := Lib.hid (hb4.trans (hbC.mono hb4.size))
        obtain ⟨fo, fc, hf⟩ := own_len hown
        subst hf
        clear hown hbn hb4 hx hbC
        go_upto_region 8 with fail
        rw [← hwC]
        clear hwC
        go_wp2
        go_ret2
        exact ⟨_, [], by rw [Hf.out]; rfl, by rw [Hf.out]; rfl, Hst0.out _, List.Pairwise.nil, HbC.out⟩
      | some c =>
        have Hnext := Lib.hid (Hgk.out _ _ Hmk.out rfl)
        have Hki := Lib.hid (Hwf.out c rfl)
        obtain ⟨ck, cm⟩ := c
        change wn.ownsRow wr.heap.size TM 2 vc cm.length (mcells cm) at hown
        obtain ⟨fo, fc, hf⟩ := own_len hown
        subst hf
        obtain ⟨wC, hwC, hx, hbC, _⟩ := Box.new wn (.int .i64 ck) (.slice fo cm.length fc) TC
        have HbC := hbn.trans (hbC.mono hbn.size)
        have HoC := own_below hown hbC
        have hwC' := Lib.hid hwC
        have hbC2 := Hbel.out.trans (HbC.mono hwr)
        have hsC := hbC2.size
        have Hall := Lib.hid (fun v' w5 h1 h2 => story_pushed (w5 := w5) (v' := v') (u := .slice fo cm.length fc) (k := ck) (ms := cm) (o := .cells #[.int .i64 ck, .slice fo cm.length fc] TC) hbC2 (Hst.out.below HbC) Hap.out (fun r hr k hk => ((Hst.out.2 r hr).1.lt k hk).2) HoC hwr Hki.out.1 Hki.out.2 h1 h2)
        have HstC := Lib.hid ((Hst.out.below HbC).1)
        have Hx := Lib.hid hx
        clear hbC2 HbC HoC hbn hbC hown hwC hx
        go_upto_region 8 with fail
        rw [← hwC'.out]
        clear hwC'
        obtain ⟨z1, z2, z3, z4, z5⟩ := Hx.out
        go_wp2_with (at_builtin; refine wpList_append_own _ rfl _ _ 24 rfl wo.heap.size TC ic (.agg #[.int .i64 0, .slice none 0 0]) 2 32 Try.underlying24 Ci.out Cz0.out Cz1.out Cz2.out rfl (by decide) _ _ _ rfl (HstC.out.alloc _) ⟨wC.heap.size, 0, none⟩ 1 1 (ccells [(.slice fo cm.length fc, (ck, cm))]) rfl rfl (newsC _ _ rfl _ _ _ _) (ccells_one (by simp [Value.oneCell'])) (by unfold maxLen; omega) (by omega) (by simp; omega) ?_)
        intro v' w5' hown' hgrow _
        have Hout := Lib.hid (Hall.out v' w5' (by rw [hul]; exact hown') hgrow)
        obtain ⟨ao', cp', rfl⟩ := own_len hown'
        clear hown' hgrow Hall HstC
        go_wp2
        go_roundw
        case rel => exact ⟨k + 1, us ++ [(.slice fo cm.length fc, (ck, cm))], by omega, by simp [hul], by go_num, by rw [List.map_append]; exact Hnext.out, ⟨ao', cp', by simp⟩, Hout.out.1, Hout.out.2.1, Hout.out.2.2⟩
        case measure => simp [intOf]; omega
    · obtain rfl : k = rs.length := by omega
      have Hst := Lib.hid hst
      have Hap := Lib.hid hap
      have Hbel := Lib.hid hbel
      have Hmf : Hid (MF = some (us.map (·.2))) := by unfold Hid; rw [Hf0.out]; exact hmk
      clear hst hmk hap hbel
      go_wp2
      go_ret2
      exact ⟨_, us, by rw [Hmf.out]; rfl, by rw [Hmf.out]; rfl, Hst.out, Hap.out, Hbel.out⟩
end Go.Proofs.Ytngkgdoefpgnoaa
/- Contracts of the laws' own helpers over rows of rows of marks. -/
namespace Go.Proofs.Ytngkgdoefpgnoaa
open Go.RowKit Go.Joins
theorem TermsIn.below {w w' : World} {base : Nat} {v : Value} {rs : List RT} (h : TermsIn w base v rs) (hb : Below w.heap.size w w') : TermsIn w' base v rs :=
  ⟨own_below h.1 hb, fun q hq => ⟨own_below (h.2 q hq).1 hb, (h.2 q hq).2⟩⟩
def FarT (a b : Value) : Prop := a.ownBlock = none ∨ a.ownBlock ≠ b.ownBlock
theorem FarT.symm {a b : Value} (h : FarT a b) : FarT b a := by
  unfold FarT at *
  rcases h with h | h
  · cases hb : b.ownBlock with
    | none => exact .inl rfl
    | some g => right; rw [h]; simp
  · exact .inr (Ne.symm h)
def ApartT (rs : List RT) : Prop := rs.Pairwise fun a b => FarT a.1 b.1
theorem ApartT.nil : ApartT [] := List.Pairwise.nil
theorem ApartT.push {rs : List RT} {q : RT} (h : ApartT rs) (hq : ∀ r ∈ rs, FarT r.1 q.1) : ApartT (rs ++ [q]) := by
  unfold ApartT
  rw [List.pairwise_append]
  exact ⟨h, List.pairwise_singleton _ _, fun a ha b hb => by rw [List.mem_singleton] at hb; subst hb; exact hq a ha⟩
theorem ApartT.ne {rs : List RT} (h : ApartT rs) {i j : Nat} (hi : i < rs.length) (hj : j < rs.length) (hne : i ≠ j) : FarT (rs[i]).1 (rs[j]).1 := by
  rcases Nat.lt_or_gt_of_ne hne with h1 | h1
  · exact List.pairwise_iff_getElem.1 h i j hi hj h1
  · exact (List.pairwise_iff_getElem.1 h j i hj hi h1).symm
set_option maxRecDepth 100000 in
set_option maxHeartbeats 1000000 in
theorem szMarkSS (rs : List RT) (B : Nat) (v : Value) (w : World) (hr : RdTerms w B v rs) :
    Calls Try.prog 8 #[v, .int .i64 1048576] w fun e w' => (∃ r : Int, e = .returned (.int .i64 r) ∧ (r < 0 ∨ (0 ≤ r ∧ rs.length ≤ 1048576 ∧ ∀ j, j < rs.length → (rs.getD j rt0).2.length ≤ 1048576))) ∧ w = w' := by
  have Hx := Lib.hid hr
  obtain ⟨ao, cap, rfl, hal, ham, _, hac0⟩ := hr
  have hac := Lib.hid hac0; clear hac0
  unfold maxLen at ham
  by_cases hlen : (rs.length : Int) ≤ 1048576
  case neg =>
    have h' : 1048576 - (rs.length : Int) < 0 := by omega
    go_enter Try.func8, Try.ntmps8
    go_wp2
    go_ret
    exact ⟨⟨_, rfl, .inl (by omega)⟩, rfl⟩
  have h' : ¬ 1048576 - (rs.length : Int) < 0 := by omega
  go_enter Try.func8, Try.ntmps8
  go_wp2
  go_loop [1, 4, 5] (fun l _ i => ∃ (j : Nat) (left : Int), j ≤ rs.length ∧ i = .int .i64 j ∧ l = .int .i64 left ∧ 0 ≤ left ∧ left ≤ 1048576 ∧ Hid (∀ k, k < j → (rs.getD k rt0).2.length ≤ 1048576)) (fun _ _ i => rs.length - (intOf i).toNat)
  case atStart => exact ⟨0, _, Nat.zero_le _, rfl, rfl, by omega, by omega, fun k hk => by omega⟩
  case round =>
    obtain ⟨j, left, hj, rfl, rfl, hl0, hl1, hall⟩ := hrel
    by_cases hlt : j < rs.length
    · obtain ⟨b1, o1, rfl, hb1, hc1⟩ := hac.out j hlt
      have hm := Hx.out.get hlt
      obtain ⟨uo, uc, hu, hul, hum⟩ : ∃ uo uc, (rs.getD j rt0).1 = .slice uo (rs.getD j rt0).2.length uc ∧ (rs.getD j rt0).2.length ≤ uc ∧ uc ≤ maxLen := by
        obtain ⟨uo, uc, h1, h2, h3, _⟩ := hm
        exact ⟨uo, uc, h1, h2, h3⟩
      unfold maxLen at hum
      obtain ⟨m, hme⟩ : ∃ m, m = (rs.getD j rt0).2.length := ⟨_, rfl⟩
      rw [← hme] at hu hul
      rw [hu] at hc1
      have Hme := Lib.hid hme
      clear hm hu hme
      have hmn : (m : Int) ≤ 9223372036854775807 := by omega
      go_wp2_with fail
      refine (szMarkS_at uo m uc left hmn hl0 hl1 _).mono ?_
      rintro e w2 ⟨⟨r, rfl, hr⟩, rfl⟩
      by_cases hneg : r < 0
      · go_wp2
        go_ret
        exact ⟨⟨_, rfl, .inl (by omega)⟩, rfl⟩
      · have hr' : 0 ≤ r ∧ r ≤ left ∧ m ≤ 1048576 := by rcases hr with h | h; omega; exact h
        have Hall : Hid (∀ k, k < j + 1 → (rs.getD k rt0).2.length ≤ 1048576) := fun k hk => by
          by_cases e : k < j
          · exact hall.out k e
          · obtain rfl : k = j := by omega
            rw [← Hme.out]; exact hr'.2.2
        obtain ⟨hr0, hr1, _⟩ := hr'
        have Hlr := Lib.hid (show 0 ≤ r ∧ r ≤ 1048576 from ⟨hr0, by omega⟩)
        clear hr hl0 hl1 hr1 hall
        go_wp2
        go_round
        case rel => exact ⟨j + 1, r, by omega, by go_num, rfl, Hlr.out.1, Hlr.out.2, Hall⟩
        case measure => simp [intOf]; omega
    · obtain rfl : j = rs.length := by omega
      have Hlr := Lib.hid hl0
      clear hl0 hl1
      go_wp2
      go_ret
      exact ⟨⟨_, rfl, .inr ⟨Hlr.out, by omega, hall.out⟩⟩, rfl⟩
theorem Try.infoS8 : (Try.prog.info? TS).map (fun i => (i.zero, i.size, i.bytes)) = some (some (.slice none 0 0), 1, 24) := by kernel_rfl
def nilT : Value := .slice none 0 0
theorem terms_set (xs : List Value) (n k : Nat) (hk : xs.length = k) (hn : k < n) (u : Value) : (xs ++ List.replicate (n - k) nilT).set k u = (xs ++ [u]) ++ List.replicate (n - (k + 1)) nilT := by
  subst hk
  rw [show n - xs.length = (n - (xs.length + 1)) + 1 by omega, List.replicate_succ, List.set_append_right _ _ (Nat.le_refl _), Nat.sub_self, List.append_assoc]
  rfl
theorem terms_snoc (rs : List RT) {k : Nat} (hk : k < rs.length) : (rs.map (·.2)).take (k + 1) = (rs.map (·.2)).take k ++ [(rs.getD k rt0).2] := by
  rw [List.take_succ_eq_append_getElem (by simpa using hk)]
  simp [List.getD, hk]
/-- rows of rows of the call's own, no two in one block -/
def OutTT (s : Ts) (w : World) (e : Ending) (w' : World) : Prop := ∃ v rs, e = .returned v ∧ rs.map (·.2) = s ∧ TermsIn w' w.heap.size v rs ∧ ApartT rs ∧ Below w.heap.size w w'
set_option maxRecDepth 100000 in
set_option maxHeartbeats 2000000 in
theorem toMarkSS (rs : List RT) (hsz : rs.length ≤ 1048576) (hrz : Hid (∀ j, j < rs.length → (rs.getD j rt0).2.length ≤ 1048576)) (B : Nat) (v : Value) (w : World) (hr : RdTerms w B v rs) (hB : B ≤ w.heap.size) :
    Calls Try.prog 10 #[v] w (OutTT (rs.map (·.2)) w) := by
  have Hx := Lib.hid hr
  have Hi64 : Hid (∀ ms ∈ rs.map (·.2), I64s ms) := fun ms hms => by
    obtain ⟨r, hr1, rfl⟩ := List.mem_map.1 hms
    obtain ⟨_, _, _, _, _, hi, _⟩ := hr
    obtain ⟨_, _, _, _, _, h, _⟩ := hi r hr1
    exact h
  obtain ⟨ao, acap, rfl, hal, ham, _, hac0⟩ := hr
  obtain ⟨i0, hi, hz0, hz1, hz2⟩ := info_parts Try.infoS8
  have hac := Lib.hid hac0; clear hac0
  unfold maxLen at ham
  have Htk := Lib.hid (fun k hk => terms_snoc rs (k := k) hk)
  have Hta : Hid ((rs.map (·.2)).take rs.length = rs.map (·.2)) := by unfold Hid; rw [List.take_of_length_le (by simp)]
  generalize hn : rs.length = n at *
  have Hn := Lib.hid hn; clear hn
  go_enter Try.func10, Try.ntmps10
  go_wp2_with (at_make; refine wpList_make_full _ rfl _ _ 27 rfl w.heap.size TS i0 (.slice none 0 0) 1 Try.underlying27 hi hz0 hz1 _ _ _ _ n rfl rfl rfl rfl ?b1 ?b2 ?b3 ?_)
  case b1 => first | omega | (rw [hz2]; omega)
  case b2 => unfold maxLen; omega
  try (case b3 => exact Nat.le_refl _)
  have Hi := Lib.hid hi; clear hi
  have Hz0 := Lib.hid hz0; clear hz0
  have Hz1 := Lib.hid hz1; clear hz1
  have Hz2 := Lib.hid hz2; clear hz2
  intro w1 hown hgrow
  have hb1 : Below w.heap.size w w1 := (Below.refl _ _).grown hgrow (Nat.le_refl _) (fun k hk => by cases hk)
  have hs1 : w.heap.size < w1.heap.size := (hown.lt w.heap.size rfl).2
  clear hgrow
  obtain ⟨g, hg⟩ : ∃ g, g = w.heap.size := ⟨_, rfl⟩
  rw [← hg] at hown hb1 hs1
  rw [← hg]
  have Hg := Lib.hid hg; clear hg
  have hown0 : w1.ownsRow g TS 1 (.slice (some ⟨g, 0, none⟩) n n) n (([] : List RT).map (·.1) ++ List.replicate (n - 0) nilT) := by
    have e : (madeCells #[Value.slice none 0 0] n).toList = ([] : List RT).map (·.1) ++ List.replicate (n - 0) nilT := by
      rw [toList_madeCells_one]; simp [nilT]
    rw [← e]; simpa [Value.cells] using hown
  clear hown
  go_wp2
  go_loopw [4] (fun i wr => ∃ (k : Nat) (ds : List RT), k ≤ n ∧ i = .int .i64 k ∧ ds.length = k ∧ Hid (ds.map (·.2) = (rs.map (·.2)).take k) ∧ wr.ownsRow g TS 1 (.slice (some ⟨g, 0, none⟩) n n) n (ds.map (·.1) ++ List.replicate (n - k) nilT) ∧ Hid (∀ r ∈ ds, wr.ownsRow (g + 1) TM 2 r.1 r.2.length (mcells r.2)) ∧ ApartT ds ∧ Below g w wr ∧ g < wr.heap.size) (fun i _ => n - (intOf i).toNat)
  case atStart => exact ⟨0, [], Nat.zero_le _, rfl, rfl, rfl, hown0, fun r hr => by simp at hr, ApartT.nil, hb1, hs1⟩
  case round =>
    obtain ⟨k, ds, hk, rfl, hdl, hds, hown, hrows, hap, hbr, hsr⟩ := hrel
    by_cases hlt : k < n
    · obtain ⟨b1, o1, rfl, hbB, hc1⟩ := hac.out k hlt
      have hrk := Hx.out.get (by rw [Hn.out]; exact hlt)
      have hzk := hrz.out k hlt
      have htk := Htk.out k hlt
      have hsrc : wr.cell? ⟨b1, o1 + k, none⟩ = some (rs.getD k rt0).1 := by rw [← hc1]; exact hbr.cell (p := ⟨b1, o1 + k, none⟩) (by show b1 < g; have := Hg.out; omega)
      generalize rs.getD k rt0 = q at *
      obtain ⟨u, zs⟩ := q
      dsimp only at hrk hzk htk hsrc
      have Hrk := Lib.hid (hrk.below (w' := wr) (fun q hq => hbr.block q (by have := Hg.out; omega)))
      obtain ⟨uo, uc, rfl, _, _, _⟩ := hrk
      have Htk1 := Lib.hid htk
      have hBr : B ≤ wr.heap.size := by have := Hg.out; omega
      have Hown := Lib.hid hown
      have Hap := Lib.hid hap
      have Hbr := Lib.hid hbr
      clear hc1 htk hown hap hbr
      go_wp2_with fail
      refine (toMarkS zs (by omega) B _ _ Hrk.out hBr).mono ?_
      rintro e w2 ⟨v2, rfl, ho2, hb2⟩
      obtain ⟨fo, fc, rfl⟩ := own_len ho2
      have hs2 := hb2.size
      have hown2 := own_below Hown.out hb2
      have hst := hown2.stored k (.slice fo zs.length fc)
      rw [terms_set _ _ _ (by simpa using hdl) hlt] at hst
      have hfz := hown2.frozenAt k
      obtain ⟨uu, hcu⟩ : ∃ uu, w2.cell? ⟨g, k, none⟩ = some uu := ⟨_, by rw [hown2.cellAt k (by omega)]; exact List.getElem?_eq_getElem (by simp [hdl]; omega)⟩
      obtain ⟨hst1, hst2⟩ := hst
      have hnew : (w2.setCell ⟨g, k, none⟩ (.slice fo zs.length fc)).ownsRow (g + 1) TM 2 (.slice fo zs.length fc) zs.length (mcells zs) := own_row (own_mono ho2 (show g + 1 ≤ wr.heap.size by omega)) hst2 (by omega)
      have hold : ∀ r ∈ ds, (w2.setCell ⟨g, k, none⟩ (.slice fo zs.length fc)).ownsRow (g + 1) TM 2 r.1 r.2.length (mcells r.2) := fun r hr => own_row (own_below (hrows.out r hr) hb2) hst2 (by omega)
      have hfar : ∀ r ∈ ds, FarT r.1 (.slice fo zs.length fc) := fun r hr => by
        unfold FarT
        cases hro : r.1.ownBlock with
        | none => exact .inl rfl
        | some x =>
          right
          intro he
          have h1 := ((hrows.out r hr).lt x hro).2
          have h2 := (ho2.lt x he.symm).1
          omega
      have Hst1 : Hid ((w2.setCell ⟨g, k, none⟩ (.slice fo zs.length fc)).ownsRow g TS 1 (.slice (some ⟨g, 0, none⟩) n n) n ((ds ++ [(Value.slice fo zs.length fc, zs)]).map (·.1) ++ List.replicate (n - (k + 1)) nilT)) := by
        unfold Hid; rw [List.map_append]; exact hst1
      have Hrows : Hid (∀ r ∈ ds ++ [(Value.slice fo zs.length fc, zs)], (w2.setCell ⟨g, k, none⟩ (.slice fo zs.length fc)).ownsRow (g + 1) TM 2 r.1 r.2.length (mcells r.2)) := fun r hr => by
        rcases List.mem_append.1 hr with hr | hr
        · exact hold r hr
        · rw [List.mem_singleton] at hr; subst hr; exact hnew
      have Hap2 := Lib.hid (Hap.out.push (q := (Value.slice fo zs.length fc, zs)) hfar)
      have Hb3 : Hid (Below g w (w2.setCell ⟨g, k, none⟩ (.slice fo zs.length fc))) := (Hbr.out.trans (hb2.mono (by omega))).setCell (Nat.le_refl _) _
      have Hs3 : Hid (g < (w2.setCell ⟨g, k, none⟩ (.slice fo zs.length fc)).heap.size) := by unfold Hid; simp; omega
      have Hds : Hid ((ds ++ [(Value.slice fo zs.length fc, zs)]).map (·.2) = (rs.map (·.2)).take (k + 1)) := by unfold Hid; rw [Htk1.out, List.map_append, hds.out]; rfl
      clear hst1 hst2 hnew hold hfar ho2 hb2 hown2 hrows
      go_wp2
      go_roundw
      case rel => exact ⟨k + 1, ds ++ [(Value.slice fo zs.length fc, zs)], by omega, by go_num, by simp [hdl], Hds.out, Hst1.out, Hrows.out, Hap2.out, Hb3.out, Hs3.out⟩
      case measure => simp [intOf]; omega
    · obtain rfl : k = n := Nat.le_antisymm hk (Nat.le_of_not_lt hlt)
      go_wp2
      go_ret
      have h1 : Hid (ds.map (·.1) ++ List.replicate (k - k) nilT = ds.map (·.1)) := by unfold Hid; rw [Nat.sub_self]; simp
      rw [h1.out] at hown
      have hg := Hg.out
      subst hg
      refine ⟨_, ds, rfl, by rw [hds.out]; exact Hta.out, ⟨by rw [hdl]; exact hown, fun r hr => ⟨own_mono (hrows.out r hr) (by omega), Hi64.out r.2 (by rw [← Hta.out, ← hds.out]; exact List.mem_map_of_mem hr)⟩⟩, hap, hbr⟩
theorem rt_same {rs ss : List RT} (he : rs.map (·.2) = ss.map (·.2)) : rs.length = ss.length ∧ ∀ j, (rs.getD j rt0).2 = (ss.getD j rt0).2 := by
  refine ⟨by have := congrArg List.length he; simpa using this, fun j => ?_⟩
  have h := congrArg (fun l => l.getD j []) he
  by_cases hj : j < rs.length
  · have hj2 : j < ss.length := by have := congrArg List.length he; simp at this; omega
    simpa [List.getD, hj, hj2] using h
  · have hj2 : ss.length ≤ j := by have := congrArg List.length he; simp at this; omega
    simp [List.getD, show rs.length ≤ j by omega, hj2]
set_option maxRecDepth 100000 in
set_option maxHeartbeats 2000000 in
theorem eqMarkSS (rs ss : List RT) (he : rs.map (·.2) = ss.map (·.2)) (B B' : Nat) (a b : Value) (w : World) (hx : RdTerms w B a rs) (hy : RdTerms w B' b ss) (hB : B ≤ w.heap.size) (hB' : B' ≤ w.heap.size) :
    Calls Try.prog 13 #[a, b] w fun e w' => e = .returned (.bool true) ∧ Below w.heap.size w w' := by
  obtain ⟨hlen, heq⟩ := rt_same he
  have Hx := Lib.hid hx
  have Hy := Lib.hid hy
  obtain ⟨ao, acap, rfl, hal, ham, _, hac0⟩ := hx
  obtain ⟨bo, bcap, rfl, hbl, hbm, _, hbc0⟩ := hy
  rw [← hlen] at hbl
  have hac := Lib.hid hac0; clear hac0
  have hbc : Hid (∀ (j : Nat), j < rs.length → ∃ b off, bo = some ⟨b, off, none⟩ ∧ b < B' ∧ w.cell? ⟨b, off + j, none⟩ = some (ss.getD j rt0).1) := fun j hj => hbc0 j (by omega)
  have Hrs : Hid (∀ j, j < rs.length → RdMarks w B (rs.getD j rt0).1 (rs.getD j rt0).2) := fun j hj => Hx.out.get hj
  have Hss : Hid (∀ j, j < rs.length → RdMarks w B' (ss.getD j rt0).1 (rs.getD j rt0).2) := fun j hj => by rw [heq j]; exact Hy.out.get (by omega)
  unfold maxLen at ham hbm
  rw [← hlen]
  clear hbc0 heq he Hx Hy
  generalize rs.length = n at *
  clear hlen
  obtain ⟨wo, rfl⟩ : ∃ wo : World, wo = w := ⟨_, rfl⟩
  go_enter Try.func13, Try.ntmps13
  go_wp2
  go_loopw [5] (fun i wr => ∃ k : Nat, k ≤ n ∧ i = .int .i64 k ∧ Below wo.heap.size wo wr) (fun i _ => n - (intOf i).toNat)
  case atStart => exact ⟨0, Nat.zero_le _, rfl, Below.refl _ _⟩
  case round =>
    obtain ⟨k, hk, rfl, hbr⟩ := hrel
    by_cases hlt : k < n
    · obtain ⟨b1, o1, rfl, hl1, hc1⟩ := hac.out k hlt
      obtain ⟨b2, o2, rfl, hl2, hc2⟩ := hbc.out k hlt
      have hr1 := (Hrs.out k hlt).below (w' := wr) (fun q hq => hbr.block q (by omega))
      have hr2 := (Hss.out k hlt).below (w' := wr) (fun q hq => hbr.block q (by omega))
      have hc1' := (hbr.cell (p := ⟨b1, o1 + k, none⟩) (by show b1 < _; omega)).trans hc1
      have hc2' := (hbr.cell (p := ⟨b2, o2 + k, none⟩) (by show b2 < _; omega)).trans hc2
      have hsr := hbr.size
      generalize (rs.getD k rt0).1 = u1 at *
      generalize (ss.getD k rt0).1 = u2 at *
      generalize (rs.getD k rt0).2 = ms at *
      have Hr1 := Lib.hid hr1
      have Hr2 := Lib.hid hr2
      obtain ⟨f1, c1, rfl, _, _, _⟩ := hr1
      obtain ⟨f2, c2, rfl, _, _, _⟩ := hr2
      have hBr : B ≤ wr.heap.size := by omega
      have hBr' : B' ≤ wr.heap.size := by omega
      have Hcall := Lib.hid (fun W (h1 : RdMarks W B (.slice f1 ms.length c1) ms) (h2 : RdMarks W B' (.slice f2 ms.length c2) ms) h3 h4 => eqMarkS ms ms B B' _ _ W h1 h2 h3 h4)
      rw [show decide (ms = ms) = true from by simp] at Hcall
      have Hbr := Lib.hid hbr
      have hb1w : b1 < wr.heap.size := by omega
      have hb2w : b2 < wr.heap.size := by omega
      clear hc1 hc2 hbr
      go_upto_region 6 with fail
      go_region_held3 (fun w' => w'.cell? ⟨b1, o1 + k, none⟩ = some (.slice f1 ms.length c1) ∧ w'.cell? ⟨b2, o2 + k, none⟩ = some (.slice f2 ms.length c2))
        (first | (refine ⟨?_, ?_⟩ <;> first | go_keep | assumption) | assumption)
        (first
          | (go_at_call 41
             (with_reducible refine (Hcall.out _ ?_ ?_ ?_ ?_).mono ?_)
             · exact Hr1.out
             · exact Hr2.out
             · exact hBr
             · exact hBr'
             rintro e w2 ⟨rfl, hb2'⟩
             go_must (have hb2 : Below wr.heap.size wr w2 := by first | exact hb2' | exact below_undrewS hb2' | exact below_undrewN hb2'
                      clear hb2'
                      have q1 := (hb2.cell (p := ⟨b1, o1 + k, none⟩) hb1w).trans hc1'
                      have q2 := (hb2.cell (p := ⟨b2, o2 + k, none⟩) hb2w).trans hc2'
                      have Hb2 := Lib.hid (Hbr.out.trans (hb2.mono hsr))
                      clear hb2))
          | fail)
      all_goals go_wp2
      all_goals
        go_roundw
        case rel => exact ⟨k + 1, by omega, by go_num, by first | exact Hb2.out | exact below_drew1 Hb2.out | exact below_drewN Hb2.out _⟩
        case measure => simp [intOf]; omega
    · obtain rfl : k = n := Nat.le_antisymm hk (Nat.le_of_not_lt hlt)
      have Hbr := Lib.hid hbr
      clear hbr
      go_wp2
      go_ret
      exact ⟨rfl, Hbr.out⟩
/-- rows of one's own, whatever they read, each in a block from lo to hi -/
def OwnTT (w : World) (lo hi : Nat) (rs : List RT) : Prop := ∀ r ∈ rs, (∃ cs, cs.length = r.2.length * 2 ∧ ∃ ms : List (Int × Int), ms.length = r.2.length ∧ cs = mcells ms ∧ w.ownsRow lo TM 2 r.1 r.2.length cs) ∧ ∀ k, r.1.ownBlock = some k → k < hi
set_option maxRecDepth 100000 in
set_option maxHeartbeats 2000000 in
theorem markMarkSS (rs : List RT) (hrl : rs.length ≤ 1048576) (hrz : Hid (∀ j, j < rs.length → (rs.getD j rt0).2.length ≤ 1048576)) (lo hi : Nat) (v : Value) (w : World) (hr : TermsIn w lo v rs) (hap : ApartT rs) (hhi : ∀ r ∈ rs, ∀ k, r.1.ownBlock = some k → k < hi) (hvo : ∀ k, v.ownBlock = some k → k < hi) :
    Calls Try.prog 14 #[v, .int .i64 1] w fun e w' => (∃ K : Nat, e = .returned (.int .i64 K)) ∧ Kept lo hi w w' := by
  obtain ⟨ho, hq⟩ := hr
  have Hcell : Hid (∀ j, j < rs.length → ∃ g, v.ownBlock = some g ∧ g < w.heap.size ∧ (∃ cap, v = .slice (some ⟨g, 0, none⟩) rs.length cap ∧ rs.length ≤ cap ∧ cap ≤ maxLen) ∧ w.cell? ⟨g, j, none⟩ = some (rs.getD j rt0).1) := fun j hj => by
    obtain ⟨g, cap, rfl⟩ := ownsRow_form ho (by omega)
    have hc := own_cap ho
    refine ⟨g, rfl, (ho.lt g rfl).2, ⟨cap, rfl, hc.1, hc.2⟩, ?_⟩
    rw [ho.cellAt j (by omega)]
    simp [List.getD, hj]
  obtain ⟨vo, vc, rfl⟩ := own_len ho
  have hOwn : OwnTT w lo hi rs := fun r hr => ⟨⟨_, mcells_length _, r.2, rfl, rfl, (hq r hr).1⟩, hhi r hr⟩
  have Hap := Lib.hid hap
  have Htm : Hid (∀ j, j < rs.length → rs.getD j rt0 ∈ rs) := fun j hj => by rw [show rs.getD j rt0 = rs[j] by simp [List.getD, hj]]; exact List.getElem_mem hj
  have Hne : Hid (∀ k, (Value.slice vo rs.length vc).ownBlock = some k → ∀ r ∈ rs, r.1.ownBlock ≠ some k) := fun k hk r hr => by
    have h := own_ne (hq r hr).1 ho (fun e => TS_TM e.symm)
    rcases h with h | h
    · rw [h]; simp
    · rw [hk] at h; exact h
  clear hap hq ho hhi hvo
  obtain ⟨wo, rfl⟩ : ∃ wo : World, wo = w := ⟨_, rfl⟩
  go_enter Try.func14, Try.ntmps14
  go_wp2
  go_loopw [1, 5] (fun q i wr => ∃ j K : Nat, j ≤ rs.length ∧ i = .int .i64 j ∧ q = .int .i64 K ∧ K ≤ 1 + j * 2097152 ∧ OwnTT wr lo hi rs ∧ Kept lo hi wo wr ∧ (∀ i, (Value.slice vo rs.length vc).ownBlock = some i → wr.heap[i]? = wo.heap[i]?)) (fun _ i _ => rs.length - (intOf i).toNat)
  case atStart => exact ⟨0, 1, Nat.zero_le _, rfl, rfl, by omega, hOwn, ⟨rfl, rfl, rfl, Nat.le_refl _, fun _ _ _ => rfl⟩, fun _ _ => rfl⟩
  case round =>
    obtain ⟨j, K, hj, rfl, rfl, hK, hown, hkept, hsame⟩ := hrel
    clear hOwn
    by_cases hlt : j < rs.length
    · obtain ⟨g, hg, hgw, ⟨cap, hv, hlc, hcm⟩, hc0⟩ := Hcell.out j hlt
      have hsz := hkept.2.2.2.1
      have hmem := Htm.out j hlt
      have hz := hrz.out j hlt
      obtain ⟨⟨cs, hcs, ms, hml, rfl, hrow⟩, hbk⟩ := hown _ hmem
      have hcell : wr.cell? ⟨g, j, none⟩ = some (rs.getD j rt0).1 := by
        rw [← hc0]
        exact World.cell?_of_block (hsame g hg)
      have Hown2 : Hid (∀ w2, w2.ownsRow lo TM 2 (rs.getD j rt0).1 ms.length (mcells (lay K ms.length)) → wr.grownBy w2 (rs.getD j rt0).1.ownBlock → OwnTT w2 lo hi rs ∧ Kept lo hi wo w2 ∧ (∀ i, (Value.slice vo rs.length vc).ownBlock = some i → w2.heap[i]? = wo.heap[i]?)) := fun w2 h2 hg2 => by
        refine ⟨fun r hr => ⟨?_, (hown r hr).2⟩, ?_, fun i hi => ?_⟩
        · obtain ⟨i, hi, rfl⟩ := List.getElem_of_mem hr
          by_cases hij : i = j
          · subst hij
            have e : rs[i] = rs.getD i rt0 := by simp [List.getD, hi]
            rw [e]
            exact ⟨mcells (lay K ms.length), by rw [mcells_length, lay_length, hml], lay K ms.length, by rw [lay_length, hml], rfl, by rw [← hml]; exact h2⟩
          · obtain ⟨cs, h3, ms', h4, h5, h6⟩ := (hown _ hr).1
            refine ⟨cs, h3, ms', h4, h5, h6.kept hg2 ?_⟩
            have hf := Hap.out.ne hi hlt hij
            rw [show rs.getD j rt0 = rs[j] by simp [List.getD, hlt]]
            exact hf
        · refine ⟨hg2.os.trans hkept.1, hg2.tape.trans hkept.2.1, hg2.output.trans hkept.2.2.1, Nat.le_trans hkept.2.2.2.1 hg2.size, fun i hi hout => ?_⟩
          have h1 := hkept.2.2.2.2 i hi hout
          rw [← h1]
          refine hg2.block i (by have := hkept.2.2.2.1; omega) (fun e => ?_)
          have a := (hrow.lt i e.symm).1
          have b := hbk i e.symm
          omega
        · have h1 := hsame i hi
          rw [← h1]
          have hlt2 : i < wr.heap.size := by
            have h9 := hi
            rw [hg] at h9
            cases h9
            omega
          exact hg2.block i hlt2 (fun e => Hne.out i hi _ hmem e.symm)
      have Hrow := Lib.hid hrow
      clear hown hkept hsame hc0 hmem hbk hcs
      obtain ⟨uo, uc, hu⟩ : ∃ a c, (rs.getD j rt0).1 = .slice a ms.length c := by rw [hml]; exact own_len hrow
      rw [← hml] at Hrow
      generalize hU : (rs.getD j rt0).1 = U at *
      subst hu
      rw [← hml] at hz
      clear hml hrow hU
      cases hv
      unfold maxLen at hcm
      have hK2 : K ≤ 4398046511104 := by omega
      have hKn : K + ms.length * 2 ≤ 1 + (j + 1) * 2097152 := by omega
      generalize hm : ms.length = m at *
      have Hm := Lib.hid hm
      clear hm hK
      go_wp2_with fail
      refine (markMarkS ms K (by rw [Hm.out]; omega) lo _ _ (by rw [Hm.out]; exact Hrow.out)).mono ?_
      rintro e w2 ⟨rfl, ho2, hg2⟩
      rw [Hm.out] at ho2
      rw [Hm.out]
      obtain ⟨n1, n2, n3⟩ := Hown2.out w2 ho2 hg2
      have N1 := Lib.hid n1
      have N2 := Lib.hid n2
      have N3 := Lib.hid n3
      clear n1 n2 n3 ho2 hg2
      go_wp2
      go_roundw
      case rel => exact ⟨j + 1, K + m * 2, by omega, by go_num, rfl, hKn, N1.out, N2.out, N3.out⟩
      case measure => simp [intOf]; omega
    · obtain rfl : j = rs.length := Nat.le_antisymm hj (Nat.le_of_not_lt hlt)
      have Hk := Lib.hid hkept
      clear hkept hown hsame
      go_wp2
      go_ret
      exact ⟨⟨K, rfl⟩, Hk.out⟩
end Go.Proofs.Ytngkgdoefpgnoaa
/- The frame's part for arguments that are a claim, or a slice of claims. -/
namespace Go.Proofs.Ytngkgdoefpgnoaa
open Go.RowKit Go.ChangeShapes Go.WideShapes Go.Deep Go.Joins
section
variable {H : Type} {enc : TypeId × Value → H} {P : Program} {w : World} {base : Nat} {spare : Nat → Bool} {held : Bool}
theorem open_marks1 {t e : TypeId} {f0 f1 : Field} {fuel : Nat} {v : Value} {x : DataW H × List MemPlace} (ht : P.underlying t = some (.slice e)) (he : P.underlying e = some (.struct #[f0, f1]))
    (ce : P.cellsOf e = 2) (o0 : f0.offset = 0) (o1 : f1.offset = 1) (c0 : P.cellsOf f0.type = 1) (c1 : P.cellsOf f1.type = 1)
    (i0 : P.underlying f0.type = some (.int .i64)) (i1 : P.underlying f1.type = some (.int .i64))
    (h : DataW.trod enc P w base spare held fuel t [v] = some x) : ∃ ms, RdMarks w w.heap.size v ms := by
  obtain ⟨a, len, cap, rfl⟩ : ∃ a len cap, v = .slice a len cap := by
    rcases open_slice_pairs ht he ce o0 o1 c0 c1 h with ⟨hcs, _⟩ | ⟨y, l, c, m, n, V0, V1, D0, D1, P0, P1, hcs, _⟩
    · exact ⟨_, _, _, by simpa using hcs⟩
    · exact ⟨_, _, _, by simpa using hcs⟩
  obtain ⟨ms, hms⟩ := open_marks ht he ce o0 o1 c0 c1 i0 i1 (show DataW.trod enc P w base spare held fuel t (Value.slice a len cap).cells.toList = some x from h)
  exact ⟨ms, RdMarks.of_row hms⟩
theorem open_claim {r : Reach} {b0 : Nat} {t e : TypeId} {f0 f1 g0 g1 : Field} {v : Value} {d : DataW H} {p : List MemPlace} (hs : P.underlying t = some (.struct #[f0, f1])) (hone : oneCellFields P #[f0, f1] = true) (hC : P.cellsOf t = 2)
    (i0 : P.underlying f0.type = some (.int .i64)) (ht : P.underlying f1.type = some (.slice e)) (he : P.underlying e = some (.struct #[g0, g1]))
    (ce : P.cellsOf e = 2) (o0 : g0.offset = 0) (o1 : g1.offset = 1) (c0 : P.cellsOf g0.type = 1) (c1 : P.cellsOf g1.type = 1)
    (j0 : P.underlying g0.type = some (.int .i64)) (j1 : P.underlying g1.type = some (.int .i64))
    (hv : Value.okWide P w r b0 t v) (h : DataW.Trod enc P w base spare held t v d p) :
    ∃ (k : Int) (u : Value) (ms : List (Int × Int)), v = .agg #[.int .i64 k, u] ∧ I64 k ∧ RdMarks w w.heap.size u ms := by
  obtain ⟨v0, v1, y0, y1, n, rfl, _, _, h0, h1⟩ := open_agg2 hs hone hC hv h
  obtain ⟨k, e0, _, w0⟩ := DataW.trod_int i0 h0
  obtain ⟨ms, hms⟩ := open_marks1 ht he ce o0 o1 c0 c1 j0 j1 h1
  exact ⟨k, v1, ms, by simp at e0; rw [e0], I64_of_wf w0, hms⟩
theorem open_story {t s e : TypeId} {f0 f1 g0 g1 : Field} {fuel len cap : Nat} {a : Option Addr} {x : DataW H × List MemPlace} (hl : P.underlying t = some (.slice s)) (hs : P.underlying s = some (.struct #[f0, f1]))
    (cs : P.cellsOf s = 2) (q0 : f0.offset = 0) (q1 : f1.offset = 1) (d0 : P.cellsOf f0.type = 1) (d1 : P.cellsOf f1.type = 1)
    (i0 : P.underlying f0.type = some (.int .i64)) (ht : P.underlying f1.type = some (.slice e)) (he : P.underlying e = some (.struct #[g0, g1]))
    (ce : P.cellsOf e = 2) (o0 : g0.offset = 0) (o1 : g1.offset = 1) (c0 : P.cellsOf g0.type = 1) (c1 : P.cellsOf g1.type = 1)
    (j0 : P.underlying g0.type = some (.int .i64)) (j1 : P.underlying g1.type = some (.int .i64))
    (h : DataW.trod enc P w base spare held fuel t (Value.slice a len cap).cells.toList = some x) : ∃ qs, len = qs.length ∧ RdStory w w.heap.size (.slice a len cap) qs := by
  rcases open_slice_pairs hl hs cs q0 q1 d0 d1 h with ⟨hcs, _⟩ | ⟨y, l, c, m, n, V0, V1, D0, D1, P0, P1, hcs, _, hlc, hm, hmm, _, hat⟩
  · simp [Value.cells] at hcs
    obtain ⟨rfl, rfl, rfl⟩ := hcs
    exact ⟨[], rfl, none, 0, rfl, Nat.le_refl _, by unfold maxLen; omega, fun q hq => by simp at hq, fun j hj => by simp at hj⟩
  · simp [Value.cells] at hcs
    obtain ⟨rfl, rfl, rfl⟩ := hcs
    have hlm : len ≤ m := by rw [hmm]; split <;> omega
    have each : ∀ i, i < len → ∃ q : QC, V0 i = .int .i64 q.2.1 ∧ V1 i = q.1 ∧ RdMarks w w.heap.size q.1 q.2.2 ∧ I64 q.2.1 := by
      intro i hi
      obtain ⟨_, _, h0, h1⟩ := hat i (by omega)
      obtain ⟨n0, e0, _, w0⟩ := DataW.trod_int i0 h0
      obtain ⟨ms, hms⟩ := open_marks1 ht he ce o0 o1 c0 c1 j0 j1 h1
      exact ⟨(V1 i, (n0, ms)), by simpa using e0, rfl, hms, I64_of_wf w0⟩
    obtain ⟨q, hq⟩ := choose_lt each
    have hlen : ((List.range len).map q).length = len := by simp
    refine ⟨(List.range len).map q, hlen.symm, some y, cap, by rw [hlen], by omega, hm, ?_, fun i hi => ?_⟩
    · intro z hz
      obtain ⟨i, hi, rfl⟩ := List.mem_map.1 hz
      exact (hq i (List.mem_range.1 hi)).2.2
    · rw [hlen] at hi
      obtain ⟨h1, h2, _, _⟩ := hat i (by omega)
      have h0 := (hat 0 (by omega)).1
      rw [Nat.zero_mul] at h0
      obtain ⟨e0, e1, _, _⟩ := hq i hi
      have e : ((List.range len).map q).getD i qc0 = q i := by simp [List.getD, hi]
      rw [e, ← e0, ← e1]
      obtain ⟨b, off, rfl, hb, hc1⟩ := cell_add h0 h1
      obtain ⟨b', off', he', _, hc2⟩ := cell_add h0 h2
      cases he'
      exact ⟨b, off, rfl, hb, hc1, by rw [Nat.add_assoc]; exact hc2⟩
end
end Go.Proofs.Ytngkgdoefpgnoaa
