/- Exact law of stage 12: the story of links. No condition. -/
import Derived.Test.YtngkgdoefpgnoaaMerged19
import Derived.Test.YtngkgdoefpgnoaaMerged17
import Derived.Test.YtngkgdoefpgnoaaMerged20
import Derived.Test.YtngkgdoefpgnoaaMerged4
import Derived.Deep.RegionHeld3
import Derived.Deep.Cut
import Derived.WalkKit
import Derived.ProofKit
namespace Go.Proofs.Ytngkgdoefpgnoaa
open Go.RowKit Go.Joins
theorem links_bound {us : List QC} {p : Int} {ls : List Lk} (he : us.map (·.2) = linkS p ls) : us.length ≤ 1048576 ∧ ∀ q ∈ us, q.2.2.length ≤ 1048576 := by
  have hlen := congrArg List.length he
  cases hok : linksOk p ls with
  | false =>
    rw [linkS_no hok] at hlen
    simp at hlen
    subst hlen
    simp
  | true =>
    obtain ⟨_, _, _, h6⟩ := linksOk_iff.1 hok
    rw [linkS_yes hok] at hlen he
    simp at hlen
    refine ⟨by omega, fun q hq => ?_⟩
    have h1 : q.2 ∈ us.map (·.2) := List.mem_map.2 ⟨q, hq, rfl⟩
    rw [he] at h1
    obtain ⟨l, hl, e⟩ := List.mem_map.1 h1
    have := (kind_I64 (link_kind hok hl)).2.2
    rw [← e]
    unfold linkC
    omega
end Go.Proofs.Ytngkgdoefpgnoaa
namespace Go.Proofs.Ytngkgdoefpgnoaa.fnExactLinkStory
open Go.ChangeShapes Go.WideShapes Go.ChangeAt Go.RowKit Go.Joins
attribute [local irreducible] holds tabN tabV holdsV sameV followsV alwaysV matterV mirV mirOk mcells tmOf claimOk mayT mayV ctabV ctabN storyV storyOk storyN storyT ctermV ctermL denyV denyOk ccells linksOk linkS linkC grpF grpL lwV lcells lay laidC ctot
open Go.ChangeMaps (open_string shut_string)
set_option linter.unusedVariables false
set_option maxRecDepth 100000 in
set_option maxHeartbeats 8000000 in
theorem walk (a0 : Int) (a1 : Value) (z1 : List Lk) (w : World) (w0 : (Lit.int .i64 a0).wf = true) (w1 : RdLinks w w.heap.size a1 z1) :
    Calls Try.prog 5 #[.int .i64 a0, a1] w fun e w' => e = .returned (.bool true) ∧ Below w.heap.size w w' := by
  have HA := Lib.hid w1
  obtain ⟨mo, mc, rfl, hmn⟩ : ∃ mo mc, a1 = .slice mo z1.length mc ∧ (z1.length : Int) ≤ 9223372036854775807 := by
    obtain ⟨a, c, h1, h2, h3, _⟩ := w1
    unfold maxLen at h3
    exact ⟨a, c, h1, by omega⟩
  have Hl64 := Lib.hid w1.l64
  clear w1
  have hs := fun B v W h h2 => specLinkStory a0 z1 B v W h h2
  have hp := fun B v W h h2 => implLinkStory a0 z1 B v W h h2
  have hbd := fun us he => links_bound (us := us) (p := a0) (ls := z1) he
  unfold StoryOut at hs hp
  generalize linkS a0 z1 = S at *
  generalize linksOk a0 z1 = oo at *
  have hoo : (oo != oo) = false := by simp
  have Hs := Lib.hid hs
  have Hp := Lib.hid hp
  have Hbd := Lib.hid hbd
  clear hs hp hbd
  obtain ⟨w1, rfl⟩ : ∃ w1 : World, w1 = w := ⟨_, rfl⟩
  have HB_1 := Lib.hid (Below.refl w1.heap.size w1)
  have HA_1 := HA
  go_enter Try.func5, Try.ntmps5
  go_wp2_with fail
  refine (szLinkS mo z1.length mc 1048576 hmn (by omega) (by omega) _).mono ?_
  rintro e w' ⟨⟨r, rfl, hrr⟩, rfl⟩
  by_cases hnegr : r < 0
  case pos =>
    clear hrr
    go_wp2
    go_ret
    exact ⟨rfl, HB_1.out⟩
  have hrr3 : 0 ≤ r ∧ r ≤ 1048576 ∧ z1.length ≤ 1048576 := by
    rcases hrr with h | h
    · omega
    · exact h
  obtain ⟨hr20, _, hlz⟩ := hrr3
  clear hrr
  go_wp2_with fail
  refine (toLinkS z1 hlz _ _ _ HA_1.out (Nat.le_refl _)).mono ?_
  rintro e w2 ⟨m1, rfl, ho1, hb2⟩
  have HN1_2 := Lib.hid ho1
  clear ho1
  have HA_2 := Lib.hid ((HA_1.out.below (w' := w2) hb2.block).mono hb2.size)
  have hs2 := hb2.size
  have HB_2 := Lib.hid (HB_1.out.trans (hb2.mono HB_1.out.size))
  clear hb2
  go_wp2_with fail
  refine (Hs.out _ _ _ (RdLinks.of_own HN1_2.out Hl64.out) (Nat.le_refl _)).mono ?_
  rintro e w3 ⟨vV, usV, rfl, heV, hstV, hapV, hb3⟩
  have HV_3 := Lib.hid hstV
  have HeV := Lib.hid heV
  have HapV := Lib.hid hapV
  have HVl := Lib.hid (StoryIn.inside hstV)
  clear hstV heV hapV
  have HA_3 := Lib.hid ((HA_2.out.below (w' := w3) hb3.block).mono hb3.size)
  have HN1_3 := Lib.hid (own_below HN1_2.out hb3)
  have hs3 := hb3.size
  have HB_3 := Lib.hid (HB_2.out.trans (hb3.mono HB_2.out.size))
  clear hb3
  go_wp2_with fail
  refine (toLinkS z1 hlz _ _ _ HA_3.out (Nat.le_refl _)).mono ?_
  rintro e w4 ⟨m2, rfl, ho2, hb4⟩
  have HN2_4 := Lib.hid ho2
  clear ho2
  have HA_4 := Lib.hid ((HA_3.out.below (w' := w4) hb4.block).mono hb4.size)
  have HV_4 := Lib.hid (HV_3.out.below hb4)
  have hs4 := hb4.size
  have HB_4 := Lib.hid (HB_3.out.trans (hb4.mono HB_3.out.size))
  clear hb4
  have HN2lo := Lib.hid (show ∀ k, m2.ownBlock = some k → w3.heap.size ≤ k ∧ k < w4.heap.size from HN2_4.out.lt)
  go_wp2_with fail
  refine (Hp.out _ _ _ (RdLinks.of_own HN2_4.out Hl64.out) (Nat.le_refl _)).mono ?_
  rintro e w5 ⟨vG, usG, rfl, heG, hstG, hapG, hb5⟩
  have HG_5 := Lib.hid hstG
  have HeG := Lib.hid heG
  have HapG := Lib.hid hapG
  have HGl := Lib.hid (StoryIn.inside hstG)
  clear hstG heG hapG
  have HA_5 := Lib.hid ((HA_4.out.below (w' := w5) hb5.block).mono hb5.size)
  have HV_5 := Lib.hid (HV_4.out.below hb5)
  have HN2_5 := Lib.hid (own_below HN2_4.out hb5)
  have hs5 := hb5.size
  have HB_5 := Lib.hid (HB_4.out.trans (hb5.mono HB_4.out.size))
  clear hb5
  go_wp2_with fail
  refine (eqClaimS usG usV (HeG.out.trans HeV.out.symm) _ _ _ _ _ HG_5.out.rd HV_5.out.rd (Nat.le_refl _) (Nat.le_refl _)).mono ?_
  rintro e w6 ⟨rfl, hb6⟩
  have HA_6 := Lib.hid ((HA_5.out.below (w' := w6) hb6.block).mono hb6.size)
  have HV_6 := Lib.hid (HV_5.out.below hb6)
  have HN2_6 := Lib.hid (own_below HN2_5.out hb6)
  have HG_6 := Lib.hid (HG_5.out.below hb6)
  have hs6 := hb6.size
  have HB_6 := Lib.hid (HB_5.out.trans (hb6.mono HB_5.out.size))
  clear hb6
  go_wp2_with fail
  refine (toLinkS z1 hlz _ _ _ HA_6.out (Nat.le_refl _)).mono ?_
  rintro e w7 ⟨m3, rfl, ho3, hb7⟩
  have HN3_7 := Lib.hid ho3
  clear ho3
  have HA_7 := Lib.hid ((HA_6.out.below (w' := w7) hb7.block).mono hb7.size)
  have HV_7 := Lib.hid (HV_6.out.below hb7)
  have HN2_7 := Lib.hid (own_below HN2_6.out hb7)
  have HG_7 := Lib.hid (HG_6.out.below hb7)
  have hs7 := hb7.size
  have HB_7 := Lib.hid (HB_6.out.trans (hb7.mono HB_6.out.size))
  clear hb7
  go_wp2_with fail
  refine (eqLinkS z1 _ _ _ _ _ (RdLinks.of_own HN2_7.out Hl64.out) (RdLinks.of_own HN3_7.out Hl64.out) (Nat.le_refl _) (Nat.le_refl _)).mono ?_
  rintro e w8 ⟨rfl, hb8⟩
  have HA_8 := Lib.hid ((HA_7.out.below (w' := w8) hb8.block).mono hb8.size)
  have HV_8 := Lib.hid (HV_7.out.below hb8)
  have HN2_8 := Lib.hid (own_below HN2_7.out hb8)
  have HG_8 := Lib.hid (HG_7.out.below hb8)
  have HN3_8 := Lib.hid (own_below HN3_7.out hb8)
  have hs8 := hb8.size
  have HB_8 := Lib.hid (HB_7.out.trans (hb8.mono HB_7.out.size))
  clear hb8
  go_wp2_with fail
  refine (markLinkS z1.length (by omega) _ _ _ (lcells_length _) _ HN2_8.out).mono ?_
  rintro e w9 ⟨rfl, hg9⟩
  have hk9 : Kept w3.heap.size w4.heap.size w8 w9 := Kept.of_grown hg9 HN2lo.out
  clear hg9
  have HB_9 := Lib.hid (hk9.below HB_8.out (by omega) HB_8.out.size)
  have hs9 : w8.heap.size ≤ w9.heap.size := hk9.size
  have HA_9 := Lib.hid ((HA.out.below (w' := w9) HB_9.out.block).mono HB_9.out.size)
  have HV_9 := Lib.hid (hk9.story HV_8.out (fun k hk => by have := HVl.out.1 k hk; omega) (fun q hq k hk => by have := HVl.out.2 q hq k hk; omega))
  have HG_9 := Lib.hid (hk9.story HG_8.out (fun k hk => by have := HGl.out.1 k hk; omega) (fun q hq k hk => by have := HGl.out.2 q hq k hk; omega))
  clear hk9
  have hkk : (0 : Int) ≤ ((1 + z1.length * 3 : Nat) : Int) := by omega
  generalize ((1 + z1.length * 3 : Nat) : Int) = KK at *
  have hKd : decide (KK < 0) = false := decide_eq_false (by omega)
  go_wp2_with fail
  refine (eqClaimS usG usV (HeG.out.trans HeV.out.symm) _ _ _ _ _ HG_9.out.rd HV_9.out.rd (Nat.le_refl _) (Nat.le_refl _)).mono ?_
  rintro e w10 ⟨rfl, hb10⟩
  have HA_10 := Lib.hid ((HA_9.out.below (w' := w10) hb10.block).mono hb10.size)
  have HV_10 := Lib.hid (HV_9.out.below hb10)
  have HG_10 := Lib.hid (HG_9.out.below hb10)
  have hs10 := hb10.size
  have HB_10 := Lib.hid (HB_9.out.trans (hb10.mono HB_9.out.size))
  clear hb10
  have hct := ctot_bound usG (Hbd.out usG HeG.out).1 (Hbd.out usG HeG.out).2
  go_wp2_with fail
  refine (markClaimS usG 1 (by omega) _ _ _ _ HG_10.out HapG.out).mono ?_
  rintro e w11 ⟨rfl, hl11, ho11⟩
  have Hrd_11 := Lib.hid hl11.rd
  have hk11 : Kept w4.heap.size w5.heap.size w10 w11 := Kept.of_only ho11 HGl.out.1 HGl.out.2
  clear ho11 hl11
  have HB_11 := Lib.hid (hk11.below HB_10.out (by omega) HB_10.out.size)
  have hs11 : w10.heap.size ≤ w11.heap.size := hk11.size
  have HA_11 := Lib.hid ((HA.out.below (w' := w11) HB_11.out.block).mono HB_11.out.size)
  have HV_11 := Lib.hid (hk11.story HV_10.out (fun k hk => by have := HVl.out.1 k hk; omega) (fun q hq k hk => by have := HVl.out.2 q hq k hk; omega))
  clear hk11
  have Hh := Lib.hid (fun W h => heldClaimS usG 1 (by omega) w11.heap.size vG W h)
  have hm0 : (0 : Int) ≤ ((1 + ctot usG : Nat) : Int) := by omega
  generalize hMM : 1 + ctot usG = Mm at *
  clear hMM hct
  go_wp2_with fail
  refine (Hh.out _ Hrd_11.out).mono ?_
  rintro e w' ⟨rfl, rfl⟩
  go_wp2_with fail
  refine (toLinkS z1 hlz _ _ _ HA_11.out (Nat.le_refl _)).mono ?_
  rintro e w12 ⟨m4, rfl, ho4, hb12⟩
  have HN4_12 := Lib.hid ho4
  clear ho4
  have HA_12 := Lib.hid ((HA_11.out.below (w' := w12) hb12.block).mono hb12.size)
  have HV_12 := Lib.hid (HV_11.out.below hb12)
  have hs12 := hb12.size
  have HB_12 := Lib.hid (HB_11.out.trans (hb12.mono HB_11.out.size))
  have HBK_12 := Lib.hid hb12
  clear hb12
  go_wp2_with fail
  refine (Hp.out _ _ _ (RdLinks.of_own HN4_12.out Hl64.out) (Nat.le_refl _)).mono ?_
  rintro e w13 ⟨vH, usH, rfl, heH, hstH, hapH, hb13⟩
  have HH_13 := Lib.hid hstH
  have HeH := Lib.hid heH
  have HapH := Lib.hid hapH
  have HHl := Lib.hid (StoryIn.inside hstH)
  clear hstH heH hapH
  have HA_13 := Lib.hid ((HA_12.out.below (w' := w13) hb13.block).mono hb13.size)
  have HV_13 := Lib.hid (HV_12.out.below hb13)
  have HN4_13 := Lib.hid (own_below HN4_12.out hb13)
  have hs13 := hb13.size
  have HB_13 := Lib.hid (HB_12.out.trans (hb13.mono HB_12.out.size))
  have HBK_13 := Lib.hid (HBK_12.out.trans (hb13.mono HBK_12.out.size))
  clear hb13
  go_wp2_with fail
  refine (eqClaimS usH usV (HeH.out.trans HeV.out.symm) _ _ _ _ _ HH_13.out.rd HV_13.out.rd (Nat.le_refl _) (Nat.le_refl _)).mono ?_
  rintro e w14 ⟨rfl, hb14⟩
  have HA_14 := Lib.hid ((HA_13.out.below (w' := w14) hb14.block).mono hb14.size)
  have HV_14 := Lib.hid (HV_13.out.below hb14)
  have HN4_14 := Lib.hid (own_below HN4_13.out hb14)
  have HH_14 := Lib.hid (HH_13.out.below hb14)
  have hs14 := hb14.size
  have HB_14 := Lib.hid (HB_13.out.trans (hb14.mono HB_13.out.size))
  have HBK_14 := Lib.hid (HBK_13.out.trans (hb14.mono HBK_13.out.size))
  clear hb14
  have Hre := Lib.hid (Hrd_11.out.below (w' := w14) (fun q hq => HBK_14.out.block q hq))
  go_wp2_with fail
  refine (Hh.out _ Hre.out).mono ?_
  rintro e w' ⟨rfl, rfl⟩
  go_wp2
  go_ret
  exact ⟨rfl, HB_14.out⟩

set_option maxRecDepth 100000 in
theorem lifted (os : Os) (started : os.Started) (H : Type) (enc : TypeId × Value → H) :
    ReturnsInHanded {} Try.checked os 5 .any (Rows.fnExactLinkStorySpec.pre6 enc Try.prog Try.f5 Rows.fnExactLinkStoryRow.domain false) (Rows.fnExactLinkStorySpec.post enc Try.prog Try.f5 false true false false) := by
  refine returnsInHanded_of_change (C := Try.checked) Try.own started (by kernel_rfl) Try.func5
    (ChangeSpec.witness6 (enc := enc) (C := Try.checked) false ⟨#[], #[.int .i64 0, .slice none 0 0], []⟩ 8 (by kernel_rfl) (by kernel_rfl) (by kernel_rfl) (by kernel_rfl)) ?_
  intro W base args ds gs before hval0 hW hcnd _
  have hval : ∀ (j : Nat) t v, Try.f5.params[j]? = some t → args[j]? = some v → Value.okWide Try.prog W .any base t v := hval0
  have hW' := hW
  obtain ⟨p, q, hA0, hV, rfl, hfz, hnd⟩ := hW
  have hA : DataW.TrodAll enc Try.prog W 0 (fun _ => true) true Try.f5.params.toList args.toList ds p := hA0
  rw [Try.params5] at hA hval
  obtain ⟨v0, vs0, d0, ds0, p0, q0, hargs, rfl, rfl, h0, r0⟩ := trodAll_cons hA
  obtain ⟨v1, vs1, d1, ds1, p1, q1, rfl, rfl, rfl, h1, r1⟩ := trodAll_cons r0
  obtain ⟨rfl, rfl, rfl⟩ := trodAll_nil r1
  obtain rfl : args = #[v0, v1] := by cases args; simp_all
  obtain ⟨rfl, rfl⟩ := trodVars_none hV
  obtain ⟨a0, rfl, rfl, rfl, w0⟩ := open_int Try.underlying3 (hval 0 3 v0 rfl rfl) h0
  obtain ⟨a1, len1, cap1, rfl⟩ := okWide_slice Try.underlying34 (hval 1 34 v1 rfl rfl)
  have k1 := h1
  have lt1 : ∀ x ∈ p1, x.block < W.heap.size := by obtain ⟨m, hm⟩ := k1; exact DataW.trod_lt m _ _ _ hm
  obtain ⟨z1, e1, w1⟩ : ∃ ls, len1 = List.length ls ∧ RdLinks W W.heap.size (.slice a1 len1 cap1) ls := by
    obtain ⟨fuel, hf⟩ := h1
    exact open_links Try.underlying34 Try.underlying67 (by kernel_rfl) rfl rfl rfl (by kernel_rfl) (by kernel_rfl) (by kernel_rfl) Try.underlying3 Try.underlying3 Try.underlying4 hf
  clear hA0 hval0
  refine (walk a0 _ _ W w0 w1).mono fun e W' ⟨he, bel⟩ => ?_
  subst he
  exact ⟨_, rfl, _, _, _, [], _, [], hW', trodAll_mk1 (shut_bool Try.underlying4 _), (trodAll_cons_mk (shut_int Try.underlying3 w0) (trodAll_cons_mk (Below.trod Try.laidOut (by kernel_rfl) (of_decide_eq_true (by kernel_rfl)) k1 bel lt1) trodAll_mk0)), rfl, bel.frame _, fun h => by cases h⟩

theorem closed : joinedFacts Try.pinned.checked.prog 5 Try.f5 Rows.fnExactLinkStorySpec Rows.fnExactLinkStoryRow = true := by
  unfold joinedFacts
  exact (and_tt (and_tt (and_tt (and_tt (and_tt (and_tt (and_tt (and_tt (and_tt (and_tt (and_tt (and_tt (and_tt (and_tt (and_tt (and_tt (and_tt (and_tt (and_tt (and_tt (and_tt (and_tt (and_tt (and_tt (and_tt (and_tt (and_tt (and_tt (and_tt (and_tt (and_tt (by kernel_rfl) (by kernel_rfl)) (by kernel_rfl)) (by kernel_rfl)) (by kernel_rfl)) (by kernel_rfl)) (by kernel_rfl)) (by kernel_rfl)) (by kernel_rfl)) (by kernel_rfl)) (by kernel_rfl)) (by kernel_rfl)) (by kernel_rfl)) (by kernel_rfl)) (by kernel_rfl)) (by kernel_rfl)) (by kernel_rfl)) (by kernel_rfl)) (by kernel_rfl)) (by kernel_rfl)) (by kernel_rfl)) (by kernel_rfl)) (by kernel_rfl)) (by kernel_rfl)) (by kernel_rfl)) Try.mayEnter0) (lifted_tt Try.lifts0 rfl)) (make_tt Try.make0 rfl)) (by kernel_rfl)) (by kernel_rfl)) (by kernel_rfl)) (by kernel_rfl))
theorem over : Rows.fnExactLinkStoryRow.holds Try.pinned (OpenSpec.ofChange Rows.fnExactLinkStorySpec) :=
  OpenClaim.holds_of_wide 5 Try.f5 rfl rfl rfl rfl rfl rfl rfl ⟨rfl, rfl, rfl, rfl, rfl⟩ rfl rfl rfl rfl rfl (by kernel_rfl) Try.func5 closed
    (of_decide_eq_true (by kernel_rfl)) (by unfold Func.isWrapper; first | (rw [if_pos (by decide +kernel)]; kernel_rfl) | (rw [if_neg (by decide +kernel)]; exact ⟨rfl, rfl⟩))
    (fun os started H enc _ => lifted os started H enc)

theorem proved : Rows.FnExactLinkStorySaid := over
end Go.Proofs.Ytngkgdoefpgnoaa.fnExactLinkStory

