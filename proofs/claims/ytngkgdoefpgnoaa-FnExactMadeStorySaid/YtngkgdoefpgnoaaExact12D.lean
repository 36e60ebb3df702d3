/- Exact law of stage 12: stories made for a world. No condition. -/
import Derived.Test.YtngkgdoefpgnoaaMerged21
import Derived.Test.YtngkgdoefpgnoaaMerged19
import Derived.Test.YtngkgdoefpgnoaaMerged17
import Derived.Test.YtngkgdoefpgnoaaFrameW
import Derived.Test.YtngkgdoefpgnoaaMerged4
import Derived.Deep.RegionHeld3
import Derived.Deep.Cut
import Derived.WalkKit
import Derived.ProofKit
namespace Go.Proofs.Ytngkgdoefpgnoaa
open Go.RowKit Go.Joins
theorem RdTerms.mono9 {w w' : World} {v : Value} {rs : List RT} (h : RdTerms w w.heap.size v rs) (hb : Below w.heap.size w w') : RdTerms w' w'.heap.size v rs := (h.below hb.block).mono hb.size
/-- both, over terms that say the same as those that came in -/
theorem MadeStory_spec (p x : Int) (us zs : List RT) (he : us.map (·.2) = zs.map (·.2)) (hz : ∀ j, j < zs.length → (zs.getD j rt0).2.length ≤ 1048576) (B : Nat) (v : Value) (w : World) (hr : RdTerms w B v us) (hB : B ≤ w.heap.size) :
    Calls Try.prog 9 #[.int .i64 p, .int .i64 x, v] w (StoryOut ((madeF p x (zs.map (·.2))).getD []) (madeF p x (zs.map (·.2))).isSome w) := by
  rw [← he]
  refine specMadeStory p x us (fun r hr => ?_) B v w hr hB
  obtain ⟨i, hi, rfl⟩ := List.getElem_of_mem hr
  obtain ⟨h1, h2⟩ := rt_same he
  have := h2 i
  rw [show us.getD i rt0 = us[i] by simp [List.getD, hi]] at this
  rw [this]
  have := hz i (by omega)
  omega
theorem MadeStory_impl (p x : Int) (us zs : List RT) (he : us.map (·.2) = zs.map (·.2)) (hz : ∀ j, j < zs.length → (zs.getD j rt0).2.length ≤ 1048576) (B : Nat) (v : Value) (w : World) (hr : RdTerms w B v us) (hB : B ≤ w.heap.size) :
    Calls Try.prog 11 #[.int .i64 p, .int .i64 x, v] w (StoryOut ((madeF p x (zs.map (·.2))).getD []) (madeF p x (zs.map (·.2))).isSome w) := by
  rw [← he]
  refine implMadeStory p x us (fun r hr => ?_) B v w hr hB
  obtain ⟨i, hi, rfl⟩ := List.getElem_of_mem hr
  obtain ⟨h1, h2⟩ := rt_same he
  have := h2 i
  rw [show us.getD i rt0 = us[i] by simp [List.getD, hi]] at this
  rw [this]
  have := hz i (by omega)
  omega
theorem madeC_short {p : Int} {X k : Nat} {ms : List (Int × Int)} {c : Cl} (h : madeC p X k ms = some c) : c.2.length ≤ 14 := by
  unfold madeC at h
  cases hc : claimOk p ((k : Int), ms) with
  | false => rw [hc] at h; cases h
  | true =>
    rw [hc, if_pos rfl] at h
    have h13 := (claimOk_iff.1 hc).2.2.2
    dsimp only at h13
    cases hm : mayT p ((k : Int), ms) X with
    | true =>
      rw [hm, if_pos rfl] at h
      cases h
      show ms.length ≤ 14
      omega
    | false =>
      rw [hm, if_neg (by decide)] at h
      cases hd : denyOk p ((k : Int), ms) with
      | false => rw [hd] at h; cases h
      | true =>
        rw [hd, if_pos rfl] at h
        have e : denyV p ((k : Int), ms) = ((k : Int), ms ++ [(2, 0)]) := by unfold denyV; rw [hd]; rfl
        rw [e] at h
        cases h
        show (ms ++ [(2, 0)]).length ≤ 14
        rw [List.length_append]
        simp
        omega
theorem madeK_short {p : Int} {X : Nat} {ts : Ts} : ∀ (k : Nat) (l : List Cl), madeK p X ts k = some l → l.length = k ∧ ∀ c ∈ l, c.2.length ≤ 14
  | 0, l, h => by
    cases h
    exact ⟨rfl, fun c hc => by simp at hc⟩
  | k + 1, l, h => by
    rw [madeK] at h
    cases hl : madeK p X ts k with
    | none => rw [hl] at h; cases h
    | some l0 =>
      cases hc : madeC p X k (ts.getD k []) with
      | none => rw [hl, hc] at h; cases h
      | some c =>
        rw [hl, hc] at h
        cases h
        obtain ⟨a1, a2⟩ := madeK_short k l0 hl
        refine ⟨by simp [a1], fun d hd => ?_⟩
        rcases List.mem_append.1 hd with hd | hd
        · exact a2 d hd
        · rw [List.mem_singleton] at hd; subst hd; exact madeC_short hc
theorem made_bound {us : List QC} {p x : Int} {ts : Ts} (he : us.map (·.2) = (madeF p x ts).getD []) : us.length ≤ 1048576 ∧ ∀ q ∈ us, q.2.2.length ≤ 1048576 := by
  have hlen := congrArg List.length he
  rw [List.length_map] at hlen
  have hb : ((madeF p x ts).getD []).length ≤ 4 ∧ ∀ c ∈ (madeF p x ts).getD [], c.2.length ≤ 14 := by
    cases hm : madeF p x ts with
    | none => simp
    | some S =>
      unfold madeF at hm
      cases hw : (wOk p x && decide ((ts.length : Int) ≤ p)) with
      | false => rw [hw] at hm; cases hm
      | true =>
        rw [hw, if_pos rfl] at hm
        rw [Bool.and_eq_true, decide_eq_true_eq] at hw
        have h4 := (wOk_lt hw.1).2.1
        obtain ⟨a1, a2⟩ := madeK_short _ _ hm
        exact ⟨by show S.length ≤ 4; omega, a2⟩
  refine ⟨by omega, fun q hq => ?_⟩
  have h1 : q.2 ∈ us.map (·.2) := List.mem_map.2 ⟨q, hq, rfl⟩
  rw [he] at h1
  have := hb.2 _ h1
  omega
end Go.Proofs.Ytngkgdoefpgnoaa
namespace Go.Proofs.Ytngkgdoefpgnoaa.fnExactMadeStory
open Go.ChangeShapes Go.WideShapes Go.ChangeAt Go.RowKit Go.Joins
attribute [local irreducible] holds tabN tabV holdsV sameV followsV alwaysV matterV mirV mirOk mcells tmOf claimOk mayT mayV ctabV ctabN storyV storyOk storyN storyT ctermV ctermL denyV denyOk ccells madeC madeK madeF lay laidC ctot
open Go.ChangeMaps (open_string shut_string)
set_option linter.unusedVariables false
set_option maxRecDepth 100000 in
set_option maxHeartbeats 8000000 in
theorem walk (a0 : Int) (a1 : Int) (a2 : Value) (z2 : List RT) (w : World) (w0 : (Lit.int .i64 a0).wf = true) (w1 : (Lit.int .i64 a1).wf = true) (w2 : RdTerms w w.heap.size a2 z2) :
    Calls Try.prog 3 #[.int .i64 a0, .int .i64 a1, a2] w fun e w' => e = .returned (.bool true) ∧ Below w.heap.size w w' := by
  have HA := Lib.hid w2
  clear w2
  have hs := fun us he hz B v W h h2 => MadeStory_spec a0 a1 us z2 he hz B v W h h2
  have hp := fun us he hz B v W h h2 => MadeStory_impl a0 a1 us z2 he hz B v W h h2
  have hbd := fun us he => made_bound (us := us) (p := a0) (x := a1) (ts := z2.map (·.2)) he
  unfold StoryOut at hs hp
  generalize (madeF a0 a1 (z2.map (·.2))).getD [] = S at *
  generalize (madeF a0 a1 (z2.map (·.2))).isSome = oo at *
  have hoo : (oo != oo) = false := by simp
  have Hs := Lib.hid hs
  have Hp := Lib.hid hp
  have Hbd := Lib.hid hbd
  clear hs hp hbd
  obtain ⟨mo, mc, hv2⟩ : ∃ mo mc, a2 = .slice mo z2.length mc := by
    obtain ⟨a, c, h1, _⟩ := HA.out
    exact ⟨a, c, h1⟩
  subst hv2
  obtain ⟨w1, rfl⟩ : ∃ w1 : World, w1 = w := ⟨_, rfl⟩
  have HB_1 := Lib.hid (Below.refl w1.heap.size w1)
  have HA_1 := HA
  go_enter Try.func3, Try.ntmps3
  go_wp2_with fail
  refine (szMarkSS z2 _ _ _ HA_1.out).mono ?_
  rintro e w' ⟨⟨r, rfl, hrr⟩, rfl⟩
  by_cases hnegr : r < 0
  case pos =>
    clear hrr
    go_wp2
    go_ret
    exact ⟨rfl, HB_1.out⟩
  have hrr3 : 0 ≤ r ∧ z2.length ≤ 1048576 ∧ ∀ j, j < z2.length → (z2.getD j rt0).2.length ≤ 1048576 := by
    rcases hrr with h | h
    · omega
    · exact h
  obtain ⟨hr20, hlz, hlz2⟩ := hrr3
  have Hlz := Lib.hid hlz2
  clear hrr hlz2
  go_wp2_with fail
  refine (toMarkSS z2 hlz Hlz _ _ _ HA_1.out (Nat.le_refl _)).mono ?_
  rintro e w2 ⟨m1, rs1, rfl, he1, ht1, ha1, hb2⟩
  have HN1_2 := Lib.hid ht1
  have HE1 := Lib.hid he1
  have HP1 := Lib.hid ha1
  have HN1lo := Lib.hid (show (∀ k, m1.ownBlock = some k → w1.heap.size ≤ k ∧ k < w2.heap.size) ∧ ∀ r ∈ rs1, ∀ k, r.1.ownBlock = some k → w1.heap.size ≤ k ∧ k < w2.heap.size from ⟨ht1.1.lt, fun r hr => (ht1.2 r hr).1.lt⟩)
  obtain ⟨fo1, fc1, hf1⟩ := own_len ht1.1
  subst hf1
  clear ht1 he1 ha1
  have HA_2 := Lib.hid ((HA_1.out.below (w' := w2) hb2.block).mono hb2.size)
  have hs2 := hb2.size
  have HB_2 := Lib.hid (HB_1.out.trans (hb2.mono HB_1.out.size))
  clear hb2
  go_wp2_with fail
  refine (Hs.out rs1 HE1.out Hlz.out _ _ _ HN1_2.out.rd (Nat.le_refl _)).mono ?_
  rintro e w3 ⟨vV, usV, rfl, heV, hstV, hapV, hb3⟩
  have HV_3 := Lib.hid hstV
  have HeV := Lib.hid heV
  have HapV := Lib.hid hapV
  have HVl := Lib.hid (StoryIn.inside hstV)
  clear hstV heV hapV
  have HA_3 := Lib.hid ((HA_2.out.below (w' := w3) hb3.block).mono hb3.size)
  have HN1_3 := Lib.hid (HN1_2.out.below hb3)
  have hs3 := hb3.size
  have HB_3 := Lib.hid (HB_2.out.trans (hb3.mono HB_2.out.size))
  clear hb3
  go_wp2_with fail
  refine (toMarkSS z2 hlz Hlz _ _ _ HA_3.out (Nat.le_refl _)).mono ?_
  rintro e w4 ⟨m2, rs2, rfl, he2, ht2, ha2, hb4⟩
  have HN2_4 := Lib.hid ht2
  have HE2 := Lib.hid he2
  have HP2 := Lib.hid ha2
  have HN2lo := Lib.hid (show (∀ k, m2.ownBlock = some k → w3.heap.size ≤ k ∧ k < w4.heap.size) ∧ ∀ r ∈ rs2, ∀ k, r.1.ownBlock = some k → w3.heap.size ≤ k ∧ k < w4.heap.size from ⟨ht2.1.lt, fun r hr => (ht2.2 r hr).1.lt⟩)
  obtain ⟨fo2, fc2, hf2⟩ := own_len ht2.1
  subst hf2
  clear ht2 he2 ha2
  have HA_4 := Lib.hid ((HA_3.out.below (w' := w4) hb4.block).mono hb4.size)
  have HV_4 := Lib.hid (HV_3.out.below hb4)
  have hs4 := hb4.size
  have HB_4 := Lib.hid (HB_3.out.trans (hb4.mono HB_3.out.size))
  clear hb4
  go_wp2_with fail
  refine (Hp.out rs2 HE2.out Hlz.out _ _ _ HN2_4.out.rd (Nat.le_refl _)).mono ?_
  rintro e w5 ⟨vG, usG, rfl, heG, hstG, hapG, hb5⟩
  have HG_5 := Lib.hid hstG
  have HeG := Lib.hid heG
  have HapG := Lib.hid hapG
  have HGl := Lib.hid (StoryIn.inside hstG)
  clear hstG heG hapG
  have HA_5 := Lib.hid ((HA_4.out.below (w' := w5) hb5.block).mono hb5.size)
  have HV_5 := Lib.hid (HV_4.out.below hb5)
  have HN2_5 := Lib.hid (HN2_4.out.below hb5)
  have hs5 := hb5.size
  have HB_5 := Lib.hid (HB_4.out.trans (hb5.mono HB_4.out.size))
  clear hb5
  go_wp2_with fail
  refine (eqClaimS usG usV (HeG.out.trans HeV.out.symm) _ _ _ _ _ HG_5.out.rd HV_5.out.rd (Nat.le_refl _) (Nat.le_refl _)).mono ?_
  rintro e w6 ⟨rfl, hb6⟩
  have HA_6 := Lib.hid ((HA_5.out.below (w' := w6) hb6.block).mono hb6.size)
  have HV_6 := Lib.hid (HV_5.out.below hb6)
  have HN2_6 := Lib.hid (HN2_5.out.below hb6)
  have HG_6 := Lib.hid (HG_5.out.below hb6)
  have hs6 := hb6.size
  have HB_6 := Lib.hid (HB_5.out.trans (hb6.mono HB_5.out.size))
  clear hb6
  go_wp2_with fail
  refine (toMarkSS z2 hlz Hlz _ _ _ HA_6.out (Nat.le_refl _)).mono ?_
  rintro e w7 ⟨m3, rs3, rfl, he3, ht3, ha3, hb7⟩
  have HN3_7 := Lib.hid ht3
  have HE3 := Lib.hid he3
  have HP3 := Lib.hid ha3
  have HN3lo := Lib.hid (show (∀ k, m3.ownBlock = some k → w6.heap.size ≤ k ∧ k < w7.heap.size) ∧ ∀ r ∈ rs3, ∀ k, r.1.ownBlock = some k → w6.heap.size ≤ k ∧ k < w7.heap.size from ⟨ht3.1.lt, fun r hr => (ht3.2 r hr).1.lt⟩)
  obtain ⟨fo3, fc3, hf3⟩ := own_len ht3.1
  subst hf3
  clear ht3 he3 ha3
  have HA_7 := Lib.hid ((HA_6.out.below (w' := w7) hb7.block).mono hb7.size)
  have HV_7 := Lib.hid (HV_6.out.below hb7)
  have HN2_7 := Lib.hid (HN2_6.out.below hb7)
  have HG_7 := Lib.hid (HG_6.out.below hb7)
  have hs7 := hb7.size
  have HB_7 := Lib.hid (HB_6.out.trans (hb7.mono HB_6.out.size))
  clear hb7
  go_wp2_with fail
  refine (eqMarkSS rs2 rs3 (HE2.out.trans HE3.out.symm) _ _ _ _ _ HN2_7.out.rd HN3_7.out.rd (Nat.le_refl _) (Nat.le_refl _)).mono ?_
  rintro e w8 ⟨rfl, hb8⟩
  have HA_8 := Lib.hid ((HA_7.out.below (w' := w8) hb8.block).mono hb8.size)
  have HV_8 := Lib.hid (HV_7.out.below hb8)
  have HN2_8 := Lib.hid (HN2_7.out.below hb8)
  have HG_8 := Lib.hid (HG_7.out.below hb8)
  have HN3_8 := Lib.hid (HN3_7.out.below hb8)
  have hs8 := hb8.size
  have HB_8 := Lib.hid (HB_7.out.trans (hb8.mono HB_7.out.size))
  clear hb8
  have hln2 : rs2.length = z2.length := (rt_same HE2.out).1
  have Hlz2 : Hid (∀ j, j < rs2.length → (rs2.getD j rt0).2.length ≤ 1048576) := fun j hj => by rw [(rt_same HE2.out).2 j]; exact Hlz.out j (by omega)
  have hms := markMarkSS rs2 (by omega) Hlz2 w3.heap.size w4.heap.size _ w8 HN2_8.out HP2.out (fun r hr k hk => (HN2lo.out.2 r hr k hk).2) (fun k hk => (HN2lo.out.1 k hk).2)
  have Hms := Lib.hid hms
  clear hms hln2
  go_wp2_with fail
  refine Hms.out.mono ?_
  rintro e w9 ⟨⟨KK, rfl⟩, hk9⟩
  have HB_9 := Lib.hid (hk9.below HB_8.out (by omega) HB_8.out.size)
  have hs9 : w8.heap.size ≤ w9.heap.size := hk9.size
  have HA_9 := Lib.hid ((HA.out.below (w' := w9) HB_9.out.block).mono HB_9.out.size)
  have HV_9 := Lib.hid (hk9.story HV_8.out (fun k hk => by have := HVl.out.1 k hk; omega) (fun q hq k hk => by have := HVl.out.2 q hq k hk; omega))
  have HG_9 := Lib.hid (hk9.story HG_8.out (fun k hk => by have := HGl.out.1 k hk; omega) (fun q hq k hk => by have := HGl.out.2 q hq k hk; omega))
  clear hk9
  have hKd : decide ((KK : Int) < 0) = false := decide_eq_false (by omega)
  have hKn : ¬ (KK : Int) < 0 := by omega
  go_wp2_with fail
  refine (eqClaimS usG usV (HeG.out.trans HeV.out.symm) _ _ _ _ _ HG_9.out.rd HV_9.out.rd (Nat.le_refl _) (Nat.le_refl _)).mono ?_
  rintro e w10 ⟨rfl, hb10⟩
  have HA_10 := Lib.hid ((HA_9.out.below (w' := w10) hb10.block).mono hb10.size)
  have HV_10 := Lib.hid (HV_9.out.below hb10)
  have HG_10 := Lib.hid (HG_9.out.below hb10)
  have hs10 := hb10.size
  have HB_10 := Lib.hid (HB_9.out.trans (hb10.mono HB_9.out.size))
  clear hb10
  have hct := ctot_bound usG (Hbd.out usG HeG.out).1 (Hbd.out usG HeG.out).2
  go_wp2_with fail
  refine (markClaimS usG 1 (by omega) _ _ _ _ HG_10.out HapG.out).mono ?_
  rintro e w11 ⟨rfl, hl11, ho11⟩
  have Hrd_11 := Lib.hid hl11.rd
  have hk11 : Kept w4.heap.size w5.heap.size w10 w11 := Kept.of_only ho11 HGl.out.1 HGl.out.2
  clear ho11 hl11
  have HB_11 := Lib.hid (hk11.below HB_10.out (by omega) HB_10.out.size)
  have hs11 : w10.heap.size ≤ w11.heap.size := hk11.size
  have HA_11 := Lib.hid ((HA.out.below (w' := w11) HB_11.out.block).mono HB_11.out.size)
  have HV_11 := Lib.hid (hk11.story HV_10.out (fun k hk => by have := HVl.out.1 k hk; omega) (fun q hq k hk => by have := HVl.out.2 q hq k hk; omega))
  clear hk11
  have Hh := Lib.hid (fun W h => heldClaimS usG 1 (by omega) w11.heap.size vG W h)
  have hm0 : (0 : Int) ≤ ((1 + ctot usG : Nat) : Int) := by omega
  generalize hMM : 1 + ctot usG = Mm at *
  clear hMM hct
  go_wp2_with fail
  refine (Hh.out _ Hrd_11.out).mono ?_
  rintro e w' ⟨rfl, rfl⟩
  go_wp2_with fail
  refine (toMarkSS z2 hlz Hlz _ _ _ HA_11.out (Nat.le_refl _)).mono ?_
  rintro e w12 ⟨m4, rs4, rfl, he4, ht4, ha4, hb12⟩
  have HN4_12 := Lib.hid ht4
  have HE4 := Lib.hid he4
  have HP4 := Lib.hid ha4
  have HN4lo := Lib.hid (show (∀ k, m4.ownBlock = some k → w11.heap.size ≤ k ∧ k < w12.heap.size) ∧ ∀ r ∈ rs4, ∀ k, r.1.ownBlock = some k → w11.heap.size ≤ k ∧ k < w12.heap.size from ⟨ht4.1.lt, fun r hr => (ht4.2 r hr).1.lt⟩)
  obtain ⟨fo4, fc4, hf4⟩ := own_len ht4.1
  subst hf4
  clear ht4 he4 ha4
  have HA_12 := Lib.hid ((HA_11.out.below (w' := w12) hb12.block).mono hb12.size)
  have HV_12 := Lib.hid (HV_11.out.below hb12)
  have hs12 := hb12.size
  have HB_12 := Lib.hid (HB_11.out.trans (hb12.mono HB_11.out.size))
  have HBK_12 := Lib.hid hb12
  clear hb12
  go_wp2_with fail
  refine (Hp.out rs4 HE4.out Hlz.out _ _ _ HN4_12.out.rd (Nat.le_refl _)).mono ?_
  rintro e w13 ⟨vH, usH, rfl, heH, hstH, hapH, hb13⟩
  have HH_13 := Lib.hid hstH
  have HeH := Lib.hid heH
  have HapH := Lib.hid hapH
  have HHl := Lib.hid (StoryIn.inside hstH)
  clear hstH heH hapH
  have HA_13 := Lib.hid ((HA_12.out.below (w' := w13) hb13.block).mono hb13.size)
  have HV_13 := Lib.hid (HV_12.out.below hb13)
  have HN4_13 := Lib.hid (HN4_12.out.below hb13)
  have hs13 := hb13.size
  have HB_13 := Lib.hid (HB_12.out.trans (hb13.mono HB_12.out.size))
  have HBK_13 := Lib.hid (HBK_12.out.trans (hb13.mono HBK_12.out.size))
  clear hb13
  go_wp2_with fail
  refine (eqClaimS usH usV (HeH.out.trans HeV.out.symm) _ _ _ _ _ HH_13.out.rd HV_13.out.rd (Nat.le_refl _) (Nat.le_refl _)).mono ?_
  rintro e w14 ⟨rfl, hb14⟩
  have HA_14 := Lib.hid ((HA_13.out.below (w' := w14) hb14.block).mono hb14.size)
  have HV_14 := Lib.hid (HV_13.out.below hb14)
  have HN4_14 := Lib.hid (HN4_13.out.below hb14)
  have HH_14 := Lib.hid (HH_13.out.below hb14)
  have hs14 := hb14.size
  have HB_14 := Lib.hid (HB_13.out.trans (hb14.mono HB_13.out.size))
  have HBK_14 := Lib.hid (HBK_13.out.trans (hb14.mono HBK_13.out.size))
  clear hb14
  have Hre := Lib.hid (Hrd_11.out.below (w' := w14) (fun q hq => HBK_14.out.block q hq))
  go_wp2_with fail
  refine (Hh.out _ Hre.out).mono ?_
  rintro e w' ⟨rfl, rfl⟩
  go_wp2
  go_ret
  exact ⟨rfl, HB_14.out⟩

set_option maxRecDepth 100000 in
theorem lifted (os : Os) (started : os.Started) (H : Type) (enc : TypeId × Value → H) :
    ReturnsInHanded {} Try.checked os 3 .any (Rows.fnExactMadeStorySpec.pre6 enc Try.prog Try.f3 Rows.fnExactMadeStoryRow.domain false) (Rows.fnExactMadeStorySpec.post enc Try.prog Try.f3 false true false false) := by
  refine returnsInHanded_of_change (C := Try.checked) Try.own started (by kernel_rfl) Try.func3
    (ChangeSpec.witness6 (enc := enc) (C := Try.checked) false ⟨#[], #[.int .i64 0, .int .i64 0, .slice none 0 0], []⟩ 8 (by kernel_rfl) (by kernel_rfl) (by kernel_rfl) (by kernel_rfl)) ?_
  intro W base args ds gs before hval0 hW hcnd _
  have hval : ∀ (j : Nat) t v, Try.f3.params[j]? = some t → args[j]? = some v → Value.okWide Try.prog W .any base t v := hval0
  have hW' := hW
  obtain ⟨p, q, hA0, hV, rfl, hfz, hnd⟩ := hW
  have hA : DataW.TrodAll enc Try.prog W 0 (fun _ => true) true Try.f3.params.toList args.toList ds p := hA0
  rw [Try.params3] at hA hval
  obtain ⟨v0, vs0, d0, ds0, p0, q0, hargs, rfl, rfl, h0, r0⟩ := trodAll_cons hA
  obtain ⟨v1, vs1, d1, ds1, p1, q1, rfl, rfl, rfl, h1, r1⟩ := trodAll_cons r0
  obtain ⟨v2, vs2, d2, ds2, p2, q2, rfl, rfl, rfl, h2, r2⟩ := trodAll_cons r1
  obtain ⟨rfl, rfl, rfl⟩ := trodAll_nil r2
  obtain rfl : args = #[v0, v1, v2] := by cases args; simp_all
  obtain ⟨rfl, rfl⟩ := trodVars_none hV
  obtain ⟨a0, rfl, rfl, rfl, w0⟩ := open_int Try.underlying3 (hval 0 3 v0 rfl rfl) h0
  obtain ⟨a1, rfl, rfl, rfl, w1⟩ := open_int Try.underlying3 (hval 1 3 v1 rfl rfl) h1
  obtain ⟨a2, len2, cap2, rfl⟩ := okWide_slice Try.underlying22 (hval 2 22 v2 rfl rfl)
  have k2 := h2
  have lt2 : ∀ x ∈ p2, x.block < W.heap.size := by obtain ⟨m, hm⟩ := k2; exact DataW.trod_lt m _ _ _ hm
  obtain ⟨z2, e2, w2⟩ : ∃ qs, len2 = List.length qs ∧ RdTerms W W.heap.size (.slice a2 len2 cap2) qs := by
    obtain ⟨fuel, hf⟩ := h2
    exact open_terms Try.underlying22 (by kernel_rfl) Try.underlying49 Try.underlying80 (by kernel_rfl) rfl rfl (by kernel_rfl) (by kernel_rfl) Try.underlying3 Try.underlying3 hf
  clear hA0 hval0
  refine (walk a0 a1 _ _ W w0 w1 w2).mono fun e W' ⟨he, bel⟩ => ?_
  subst he
  exact ⟨_, rfl, _, _, _, [], _, [], hW', trodAll_mk1 (shut_bool Try.underlying4 _), (trodAll_cons_mk (shut_int Try.underlying3 w0) (trodAll_cons_mk (shut_int Try.underlying3 w1) (trodAll_cons_mk (Below.trod Try.laidOut (by kernel_rfl) (of_decide_eq_true (by kernel_rfl)) k2 bel lt2) trodAll_mk0))), rfl, bel.frame _, fun h => by cases h⟩

theorem closed : joinedFacts Try.pinned.checked.prog 3 Try.f3 Rows.fnExactMadeStorySpec Rows.fnExactMadeStoryRow = true := by
  unfold joinedFacts
  exact (and_tt (and_tt (and_tt (and_tt (and_tt (and_tt (and_tt (and_tt (and_tt (and_tt (and_tt (and_tt (and_tt (and_tt (and_tt (and_tt (and_tt (and_tt (and_tt (and_tt (and_tt (and_tt (and_tt (and_tt (and_tt (and_tt (and_tt (and_tt (and_tt (and_tt (and_tt (by kernel_rfl) (by kernel_rfl)) (by kernel_rfl)) (by kernel_rfl)) (by kernel_rfl)) (by kernel_rfl)) (by kernel_rfl)) (by kernel_rfl)) (by kernel_rfl)) (by kernel_rfl)) (by kernel_rfl)) (by kernel_rfl)) (by kernel_rfl)) (by kernel_rfl)) (by kernel_rfl)) (by kernel_rfl)) (by kernel_rfl)) (by kernel_rfl)) (by kernel_rfl)) (by kernel_rfl)) (by kernel_rfl)) (by kernel_rfl)) (by kernel_rfl)) (by kernel_rfl)) (by kernel_rfl)) Try.mayEnter0) (lifted_tt Try.lifts0 rfl)) (make_tt Try.make0 rfl)) (by kernel_rfl)) (by kernel_rfl)) (by kernel_rfl)) (by kernel_rfl))
theorem over : Rows.fnExactMadeStoryRow.holds Try.pinned (OpenSpec.ofChange Rows.fnExactMadeStorySpec) :=
  OpenClaim.holds_of_wide 3 Try.f3 rfl rfl rfl rfl rfl rfl rfl ⟨rfl, rfl, rfl, rfl, rfl⟩ rfl rfl rfl rfl rfl (by kernel_rfl) Try.func3 closed
    (of_decide_eq_true (by kernel_rfl)) (by unfold Func.isWrapper; first | (rw [if_pos (by decide +kernel)]; kernel_rfl) | (rw [if_neg (by decide +kernel)]; exact ⟨rfl, rfl⟩))
    (fun os started H enc _ => lifted os started H enc)

theorem proved : Rows.FnExactMadeStorySaid := over
end Go.Proofs.Ytngkgdoefpgnoaa.fnExactMadeStory

