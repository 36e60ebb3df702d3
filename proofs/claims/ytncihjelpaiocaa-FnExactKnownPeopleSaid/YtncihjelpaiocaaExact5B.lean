/- Exact laws of stage 5: known people and needless claims. No condition. -/
import Derived.Test.YtncihjelpaiocaaOneI
import Derived.Test.YtncihjelpaiocaaOneT
import Derived.Test.YtncihjelpaiocaaClaimG
import Derived.Test.YtncihjelpaiocaaFrameC
namespace Go.Proofs.Ytncihjelpaiocaa
open Go.RowKit
theorem KnownPeople_len (p : Int) (s : List Cl) : (knownL p s).length ≤ 1000000 := by
  unfold knownL
  rw [knownL_len]
  split
  · omega
  · rename_i h
    have := story_people h
    omega
theorem KnownPeople_spec (p : Int) (us zs : List QC) (he : us.map (·.2) = zs.map (·.2)) (B : Nat) (v : Value) (w : World) (hr : RdStory w B v us) (hB : B ≤ w.heap.size) :
    Calls Try.prog 26 #[.int .i64 p, v] w fun e w' => ∃ u, e = .returned u ∧ w'.ownsRow w.heap.size 3 1 u (knownL p (zs.map (·.2))).length (ints (knownL p (zs.map (·.2)))) ∧ Below w.heap.size w w' := by
  rw [← he]
  exact specKnownPeople p us B v w hr hB
theorem KnownPeople_impl (p : Int) (us zs : List QC) (he : us.map (·.2) = zs.map (·.2)) (B : Nat) (v : Value) (w : World) (hr : RdStory w B v us) (hB : B ≤ w.heap.size) :
    Calls Try.prog 22 #[.int .i64 p, v] w fun e w' => ∃ u, e = .returned u ∧ w'.ownsRow w.heap.size 3 1 u (knownL p (zs.map (·.2))).length (ints (knownL p (zs.map (·.2)))) ∧ Below w.heap.size w w' := by
  rw [← he]
  exact implKnownPeople p us B v w hr hB
end Go.Proofs.Ytncihjelpaiocaa
namespace Go.Proofs.Ytncihjelpaiocaa.fnExactKnownPeople
open Go.ChangeShapes Go.WideShapes Go.ChangeAt Go.RowKit
attribute [local irreducible] holds tabN tabV holdsV sameV followsV alwaysV matterV mirV mirOk mcells tmOf claimOk mayT mayV ctabV ctabN storyV storyOk storyN storyT ctermV ctermL denyV denyOk ccells clashV onlyOk onlyN knownF knownL knownK cntK swl needB needF needL leastR leastV woL
open Go.ChangeMaps (open_string shut_string)
set_option linter.unusedVariables false
set_option maxRecDepth 100000 in
set_option maxHeartbeats 8000000 in
theorem walk (a0 : Int) (a1 : Value) (z1 : List QC) (w : World) (w0 : (Lit.int .i64 a0).wf = true) (w1 : RdStory w w.heap.size a1 z1) :
    Calls Try.prog 11 #[.int .i64 a0, a1] w fun e w' => e = .returned (.bool true) ∧ Below w.heap.size w w' := by
  have Hr := Lib.hid w1
  have hs := fun us (he : us.map (·.2) = z1.map (·.2)) B u W h h2 => KnownPeople_spec a0 us z1 he B u W h h2
  have hp := fun us (he : us.map (·.2) = z1.map (·.2)) B u W h h2 => KnownPeople_impl a0 us z1 he B u W h h2
  have hlen : (knownL a0 (z1.map (·.2))).length ≤ 1000000 := KnownPeople_len a0 (z1.map (·.2)) 
  generalize knownL a0 (z1.map (·.2)) = zs at *
  have Hs := Lib.hid hs
  have Hp := Lib.hid hp
  have Hlen := Lib.hid hlen
  clear hs hp w1 hlen
  go_enter Try.func11, Try.ntmps11
  go_wp2_with fail
  refine (szClaimS z1 _ _ _ Hr.out (Nat.le_refl _)).mono ?_
  rintro e w2 ⟨⟨r, rfl, hrr⟩, hb2⟩
  have hB2 : Below w.heap.size w w2 := hb2
  have HR2 := Lib.hid (Hr.out.kept5 hB2)
  clear hb2
  by_cases hneg : r < 0
  case pos =>
    clear hrr
    go_wp2
    go_ret
    exact ⟨rfl, hB2⟩
  have hrr2 : 0 ≤ r ∧ z1.length ≤ 1048576 ∧ ∀ j, j < z1.length → (z1.getD j qc0).2.2.length ≤ 1048576 := by
    rcases hrr with h | h
    · omega
    · exact h
  obtain ⟨_, hlq, hlm⟩ := hrr2
  have Hlm := Lib.hid hlm
  clear hrr hlm
  go_wp2_with fail
  refine (toClaimS z1 hlq Hlm.out _ _ _ HR2.out (Nat.le_refl _)).mono ?_
  rintro e w3 ⟨v1, us1, rfl, he1, hst1, hb3⟩
  have HS1 := Lib.hid hst1
  have He1 := Lib.hid he1
  clear hst1 he1
  have hs3 := hb3.size
  have hB3 : Below w.heap.size w w3 := hB2.trans (hb3.mono hB2.size)
  have HR3 := Lib.hid (Hr.out.kept5 hB3)
  clear hb3
  go_wp2_with fail
  refine (Hs.out us1 He1.out _ _ _ HS1.out.rd (Nat.le_refl _)).mono ?_
  rintro e w4 ⟨vs, rfl, hown4, hb4⟩
  have HV4 := Lib.hid hown4
  have hs4 := hb4.size
  have hB4 : Below w.heap.size w w4 := hB3.trans (hb4.mono hB3.size)
  have HR4 := Lib.hid (Hr.out.kept5 hB4)
  clear hb4 hown4
  go_wp2_with fail
  refine (toClaimSA z1 hlq Hlm.out _ _ _ HR4.out (Nat.le_refl _)).mono ?_
  rintro e w5 ⟨v2, us2, rfl, he2, hst2, hap, hb5⟩
  have HS2 := Lib.hid hst2
  have He2 := Lib.hid he2
  clear hst2 he2
  have Hap := Lib.hid hap
  have HV5 := Lib.hid (own_below HV4.out hb5)
  have HV4l := Lib.hid (fun k (hk : vs.ownBlock = some k) => (HV4.out.lt k hk).2)
  have hs5 := hb5.size
  have hB5 : Below w.heap.size w w5 := hB4.trans (hb5.mono hB4.size)
  have HR5 := Lib.hid (Hr.out.kept5 hB5)
  clear hb5 hap
  go_wp2_with fail
  refine (Hp.out us2 He2.out _ _ _ HS2.out.rd (Nat.le_refl _)).mono ?_
  rintro e w6 ⟨vi, rfl, hown6, hb6⟩
  have HV6 := Lib.hid (own_below HV5.out hb6)
  have HI6 := Lib.hid hown6
  have HS2_6 := Lib.hid (HS2.out.below hb6)
  have HS2l := Lib.hid (StoryIn.inside HS2.out)
  have hs6 := hb6.size
  have hB6 : Below w.heap.size w w6 := hB5.trans (hb6.mono hB5.size)
  have HR6 := Lib.hid (Hr.out.kept5 hB6)
  clear hb6 hown6
  go_wp2_with fail
  refine (eqIntS zs zs _ _ _ _ _ (RdInts.of_own HI6.out) (RdInts.of_own HV6.out)).mono ?_
  rintro e w7 ⟨rfl, n7, rfl⟩
  rw [show decide (zs = zs) = true from by simp]
  have hb7 : Below w6.heap.size w6 (w6.drewN n7) := below_drewN (Below.refl _ _) n7
  obtain ⟨w7, hw7⟩ : ∃ W, W = w6.drewN n7 := ⟨_, rfl⟩
  rw [← hw7] at hb7 ⊢
  have HV7 := Lib.hid (own_below HV6.out hb7)
  have HI7 := Lib.hid (own_below HI6.out hb7)
  have HS2_7 := Lib.hid (HS2_6.out.below hb7)
  have hs7 := hb7.size
  have hB7 : Below w.heap.size w w7 := hB6.trans (hb7.mono hB6.size)
  have HR7 := Lib.hid (Hr.out.kept5 hB7)
  clear hb7 hw7
  go_wp2_with fail
  refine (toClaimS z1 hlq Hlm.out _ _ _ HR7.out (Nat.le_refl _)).mono ?_
  rintro e w8 ⟨v3, us3, rfl, he3, hst3, hb8⟩
  have HS3 := Lib.hid hst3
  have He3 := Lib.hid he3
  clear hst3 he3
  have HV8 := Lib.hid (own_below HV7.out hb8)
  have HI8 := Lib.hid (own_below HI7.out hb8)
  have HS2_8 := Lib.hid (HS2_7.out.below hb8)
  have hs8 := hb8.size
  have hB8 : Below w.heap.size w w8 := hB7.trans (hb8.mono hB7.size)
  have HR8 := Lib.hid (Hr.out.kept5 hB8)
  clear hb8
  go_wp2_with fail
  refine (eqClaimS us2 us3 (He2.out.trans He3.out.symm) _ _ _ _ _ HS2_8.out.rd HS3.out.rd (Nat.le_refl _) (Nat.le_refl _)).mono ?_
  rintro e w9 ⟨rfl, hb9⟩
  have HV9 := Lib.hid (own_below HV8.out hb9)
  have HI9 := Lib.hid (own_below HI8.out hb9)
  have HS2_9 := Lib.hid (HS2_8.out.below hb9)
  have hs9 := hb9.size
  have hB9 : Below w.heap.size w w9 := hB8.trans (hb9.mono hB8.size)
  have HR9 := Lib.hid (Hr.out.kept5 hB9)
  have Hct := Lib.hid (ctot_bound us2 (story_bound He2.out hlq Hlm.out).1 (story_bound He2.out hlq Hlm.out).2)
  clear hb9
  go_wp2_with fail
  refine (markClaimS us2 1 (by have := Hct.out; omega) _ _ _ _ HS2_9.out Hap.out).mono ?_
  rintro e w10 ⟨rfl, _, ho10⟩
  have hb10 : Below w4.heap.size w9 w10 := ho10.below (fun k hk => (HS2l.out.1 k hk).1) (fun q hq k hk => (HS2l.out.2 q hq k hk).1)
  have HV10 := Lib.hid (own_only HV9.out ho10 (fun k hk e => by have := HV4l.out k hk; have := (HS2l.out.1 k e.symm).1; omega) (fun k hk q hq e => by have := HV4l.out k hk; have := (HS2l.out.2 q hq k e.symm).1; omega))
  have HI10 := Lib.hid (own_only HI9.out ho10 (fun k hk e => by have := (HI6.out.lt k hk).1; have := (HS2l.out.1 k e.symm).2; omega) (fun k hk q hq e => by have := (HI6.out.lt k hk).1; have := (HS2l.out.2 q hq k e.symm).2; omega))
  have hs10 := ho10.2.2.2.1
  have hB10 : Below w.heap.size w w10 := hB9.trans (hb10.mono hB4.size)
  have HR10 := Lib.hid (Hr.out.kept5 hB10)
  clear hb10 ho10
  generalize 1 + ctot us2 = K at *
  go_wp2_with fail
  refine (eqIntS zs zs _ _ _ _ _ (RdInts.of_own HI10.out) (RdInts.of_own HV10.out)).mono ?_
  rintro e w11 ⟨rfl, n11, rfl⟩
  rw [show decide (zs = zs) = true from by simp]
  have hb11 : Below w10.heap.size w10 (w10.drewN n11) := below_drewN (Below.refl _ _) n11
  obtain ⟨w11, hw11⟩ : ∃ W, W = w10.drewN n11 := ⟨_, rfl⟩
  rw [← hw11] at hb11 ⊢
  have HV11 := Lib.hid (own_below HV10.out hb11)
  have HI11 := Lib.hid (own_below HI10.out hb11)
  have hs11 := hb11.size
  have hB11 : Below w.heap.size w w11 := hB10.trans (hb11.mono hB10.size)
  have HR11 := Lib.hid (Hr.out.kept5 hB11)
  clear hb11 hw11
  go_wp2_with fail
  refine (markIntS zs 1 (by have := Hlen.out; omega) _ _ _ HI11.out).mono ?_
  rintro e w12 ⟨rfl, hown12, hg12⟩
  have HI12 := Lib.hid hown12
  have HV12 := Lib.hid (HV11.out.kept hg12 (own_apart (fun k hk => HV4l.out k hk) (fun k hk => by have := (HI11.out.lt k hk).1; omega)))
  have hB12 : Below w.heap.size w w12 := below_grown_row hB11 hg12 hB11.size (fun k hk => by have := (HI11.out.lt k hk).1; have := hB5.size; omega)
  have HR12 := Lib.hid (Hr.out.kept5 hB12)
  clear hown12 hg12
  generalize hn : zs.length = n at *
  have Hn := Lib.hid hn; clear hn
  have hrd12 : Hid (RdInts w12 w12.heap.size vi ((List.range n).map fun j => ((1 + j : Nat) : Int))) := RdInts.of_own (by simpa [ints] using HI12.out)
  go_wp2_with fail
  refine (heldIntS n 1 (by have := Hlen.out; omega) _ _ _ hrd12.out).mono ?_
  rintro e w13 ⟨rfl, rfl⟩
  go_wp2_with fail
  refine (toClaimS z1 hlq Hlm.out _ _ _ HR12.out (Nat.le_refl _)).mono ?_
  rintro e w14 ⟨v4, us4, rfl, he4, hst4, hb14⟩
  have HS4 := Lib.hid hst4
  have He4 := Lib.hid he4
  clear hst4 he4
  have HV14 := Lib.hid (own_below HV12.out hb14)
  have Hrd14 := Lib.hid (hrd12.out.below (w' := w14) (below_block hb14 (Nat.le_refl _)))
  have hs14 := hb14.size
  have hB14 : Below w.heap.size w w14 := hB12.trans (hb14.mono hB12.size)
  clear hb14
  go_wp2_with fail
  refine (Hp.out us4 He4.out _ _ _ HS4.out.rd (Nat.le_refl _)).mono ?_
  rintro e w15 ⟨vh, rfl, hown15, hb15⟩
  have HV15 := Lib.hid (own_below HV14.out hb15)
  have HH15 := Lib.hid hown15
  have Hrd15 := Lib.hid (Hrd14.out.below (w' := w15) (below_block hb15 hs14))
  have hB15 : Below w.heap.size w w15 := hB14.trans (hb15.mono hB14.size)
  clear hb15 hown15
  go_wp2_with fail
  refine (eqIntS zs zs _ _ _ _ _ (RdInts.of_own (by rw [Hn.out]; exact HH15.out)) (RdInts.of_own (by rw [Hn.out]; exact HV15.out))).mono ?_
  rintro e w16 ⟨rfl, n16, rfl⟩
  rw [show decide (zs = zs) = true from by simp]
  go_wp2_with fail
  refine (heldIntS n 1 (by have := Hlen.out; omega) _ _ _ (Hrd15.out.below (w' := w15.drewN n16) (fun _ _ => rfl))).mono ?_
  rintro e w17 ⟨rfl, rfl⟩
  go_wp2
  go_ret
  exact ⟨rfl, below_drewN hB15 _⟩

set_option maxRecDepth 100000 in
theorem lifted (os : Os) (started : os.Started) (H : Type) (enc : TypeId × Value → H) :
    ReturnsInHanded {} Try.checked os 11 .any (Rows.fnExactKnownPeopleSpec.pre6 enc Try.prog Try.f11 Rows.fnExactKnownPeopleRow.domain false) (Rows.fnExactKnownPeopleSpec.post enc Try.prog Try.f11 false true false false) := by
  refine returnsInHanded_of_change (C := Try.checked) Try.own started (by kernel_rfl) Try.func11
    (ChangeSpec.witness6 (enc := enc) (C := Try.checked) false ⟨#[], #[.int .i64 0, .slice none 0 0], []⟩ 8 (by kernel_rfl) (by kernel_rfl) (by kernel_rfl) (by kernel_rfl)) ?_
  intro W base args ds gs before hval0 hW hcnd _
  have hval : ∀ (j : Nat) t v, Try.f11.params[j]? = some t → args[j]? = some v → Value.okWide Try.prog W .any base t v := hval0
  have hW' := hW
  obtain ⟨p, q, hA0, hV, rfl, hfz, hnd⟩ := hW
  have hA : DataW.TrodAll enc Try.prog W 0 (fun _ => true) true Try.f11.params.toList args.toList ds p := hA0
  rw [Try.params11] at hA hval
  obtain ⟨v0, vs0, d0, ds0, p0, q0, hargs, rfl, rfl, h0, r0⟩ := trodAll_cons hA
  obtain ⟨v1, vs1, d1, ds1, p1, q1, rfl, rfl, rfl, h1, r1⟩ := trodAll_cons r0
  obtain ⟨rfl, rfl, rfl⟩ := trodAll_nil r1
  obtain rfl : args = #[v0, v1] := by cases args; simp_all
  obtain ⟨rfl, rfl⟩ := trodVars_none hV
  obtain ⟨a0, rfl, rfl, rfl, w0⟩ := open_int Try.underlying3 (hval 0 3 v0 rfl rfl) h0
  obtain ⟨a1, len1, cap1, rfl⟩ := okWide_slice Try.underlying47 (hval 1 47 v1 rfl rfl)
  have k1 := h1
  have lt1 : ∀ x ∈ p1, x.block < W.heap.size := by obtain ⟨m, hm⟩ := k1; exact DataW.trod_lt m _ _ _ hm
  obtain ⟨z1, e1, w1⟩ : ∃ qs, len1 = qs.length ∧ RdStory W W.heap.size (.slice a1 len1 cap1) qs := by
    obtain ⟨fuel, hf⟩ := h1
    exact open_story Try.underlying47 Try.underlying70 (by kernel_rfl) rfl rfl (by kernel_rfl) (by kernel_rfl) Try.underlying3 Try.underlying68 Try.underlying95 (by kernel_rfl) rfl rfl (by kernel_rfl) (by kernel_rfl) Try.underlying3 Try.underlying3 hf
  clear hA0 hval0
  refine (walk a0 _ _ W w0 w1).mono fun e W' ⟨he, bel⟩ => ?_
  subst he
  exact ⟨_, rfl, _, _, _, [], _, [], hW', trodAll_mk1 (shut_bool Try.underlying4 _), (trodAll_cons_mk (shut_int Try.underlying3 w0) (trodAll_cons_mk (Below.trod Try.laidOut (by kernel_rfl) (of_decide_eq_true (by kernel_rfl)) k1 bel lt1) trodAll_mk0)), rfl, bel.frame _, fun h => by cases h⟩

theorem closed : joinedFacts Try.pinned.checked.prog 11 Try.f11 Rows.fnExactKnownPeopleSpec Rows.fnExactKnownPeopleRow = true := by
  unfold joinedFacts
  exact (and_tt (and_tt (and_tt (and_tt (and_tt (and_tt (and_tt (and_tt (and_tt (and_tt (and_tt (and_tt (and_tt (and_tt (and_tt (and_tt (and_tt (and_tt (and_tt (and_tt (and_tt (and_tt (and_tt (and_tt (and_tt (and_tt (and_tt (and_tt (and_tt (and_tt (and_tt (by kernel_rfl) (by kernel_rfl)) (by kernel_rfl)) (by kernel_rfl)) (by kernel_rfl)) (by kernel_rfl)) (by kernel_rfl)) (by kernel_rfl)) (by kernel_rfl)) (by kernel_rfl)) (by kernel_rfl)) (by kernel_rfl)) (by kernel_rfl)) (by kernel_rfl)) (by kernel_rfl)) (by kernel_rfl)) (by kernel_rfl)) (by kernel_rfl)) (by kernel_rfl)) (by kernel_rfl)) (by kernel_rfl)) (by kernel_rfl)) (by kernel_rfl)) (by kernel_rfl)) (by kernel_rfl)) Try.mayEnter0) (lifted_tt Try.lifts0 rfl)) (make_tt Try.make0 rfl)) (by kernel_rfl)) (by kernel_rfl)) (by kernel_rfl)) (by kernel_rfl))
theorem over : Rows.fnExactKnownPeopleRow.holds Try.pinned (OpenSpec.ofChange Rows.fnExactKnownPeopleSpec) :=
  OpenClaim.holds_of_wide 11 Try.f11 rfl rfl rfl rfl rfl rfl rfl ⟨rfl, rfl, rfl, rfl, rfl⟩ rfl rfl rfl rfl rfl (by kernel_rfl) Try.func11 closed
    (of_decide_eq_true (by kernel_rfl)) (by unfold Func.isWrapper; first | (rw [if_pos (by decide +kernel)]; kernel_rfl) | (rw [if_neg (by decide +kernel)]; exact ⟨rfl, rfl⟩))
    (fun os started H enc _ => lifted os started H enc)

theorem proved : Rows.FnExactKnownPeopleSaid := over
end Go.Proofs.Ytncihjelpaiocaa.fnExactKnownPeople

namespace Go.Proofs.Ytncihjelpaiocaa
open Go.RowKit
theorem NeedlessClaims_len (p : Int) (s : List Cl) : (nums (needL p s)).length ≤ 1000000 := by
  rw [nums_length]
  cases h : storyOk p s with
  | false => rw [needL_no h]; simp
  | true =>
    rw [needL_yes h]
    have h1 := needF_len p s s.length
    have h2 := (storyOk_iff.1 h).2.2
    omega
theorem NeedlessClaims_spec (p : Int) (us zs : List QC) (he : us.map (·.2) = zs.map (·.2)) (B : Nat) (v : Value) (w : World) (hr : RdStory w B v us) (hB : B ≤ w.heap.size) :
    Calls Try.prog 31 #[.int .i64 p, v] w fun e w' => ∃ u, e = .returned u ∧ w'.ownsRow w.heap.size 3 1 u (nums (needL p (zs.map (·.2)))).length (ints (nums (needL p (zs.map (·.2))))) ∧ Below w.heap.size w w' := by
  rw [← he]
  rw [nums_length, show ints (nums (needL p (us.map (·.2)))) = vals (needL p (us.map (·.2))) from (vals_nums _).symm]
  exact specNeedless p us B v w hr hB
theorem NeedlessClaims_impl (p : Int) (us zs : List QC) (he : us.map (·.2) = zs.map (·.2)) (B : Nat) (v : Value) (w : World) (hr : RdStory w B v us) (hB : B ≤ w.heap.size) :
    Calls Try.prog 30 #[.int .i64 p, v] w fun e w' => ∃ u, e = .returned u ∧ w'.ownsRow w.heap.size 3 1 u (nums (needL p (zs.map (·.2)))).length (ints (nums (needL p (zs.map (·.2))))) ∧ Below w.heap.size w w' := by
  rw [← he]
  rw [nums_length, show ints (nums (needL p (us.map (·.2)))) = vals (needL p (us.map (·.2))) from (vals_nums _).symm]
  exact implNeedless p us B v w hr hB
end Go.Proofs.Ytncihjelpaiocaa
namespace Go.Proofs.Ytncihjelpaiocaa.fnExactNeedlessClaims
open Go.ChangeShapes Go.WideShapes Go.ChangeAt Go.RowKit
attribute [local irreducible] holds tabN tabV holdsV sameV followsV alwaysV matterV mirV mirOk mcells tmOf claimOk mayT mayV ctabV ctabN storyV storyOk storyN storyT ctermV ctermL denyV denyOk ccells clashV onlyOk onlyN knownF knownL knownK cntK swl needB needF needL leastR leastV woL
open Go.ChangeMaps (open_string shut_string)
set_option linter.unusedVariables false
set_option maxRecDepth 100000 in
set_option maxHeartbeats 8000000 in
theorem walk (a0 : Int) (a1 : Value) (z1 : List QC) (w : World) (w0 : (Lit.int .i64 a0).wf = true) (w1 : RdStory w w.heap.size a1 z1) :
    Calls Try.prog 12 #[.int .i64 a0, a1] w fun e w' => e = .returned (.bool true) ∧ Below w.heap.size w w' := by
  have Hr := Lib.hid w1
  have hs := fun us (he : us.map (·.2) = z1.map (·.2)) B u W h h2 => NeedlessClaims_spec a0 us z1 he B u W h h2
  have hp := fun us (he : us.map (·.2) = z1.map (·.2)) B u W h h2 => NeedlessClaims_impl a0 us z1 he B u W h h2
  have hlen : (nums (needL a0 (z1.map (·.2)))).length ≤ 1000000 := NeedlessClaims_len a0 (z1.map (·.2)) 
  generalize nums (needL a0 (z1.map (·.2))) = zs at *
  have Hs := Lib.hid hs
  have Hp := Lib.hid hp
  have Hlen := Lib.hid hlen
  clear hs hp w1 hlen
  go_enter Try.func12, Try.ntmps12
  go_wp2_with fail
  refine (szClaimS z1 _ _ _ Hr.out (Nat.le_refl _)).mono ?_
  rintro e w2 ⟨⟨r, rfl, hrr⟩, hb2⟩
  have hB2 : Below w.heap.size w w2 := hb2
  have HR2 := Lib.hid (Hr.out.kept5 hB2)
  clear hb2
  by_cases hneg : r < 0
  case pos =>
    clear hrr
    go_wp2
    go_ret
    exact ⟨rfl, hB2⟩
  have hrr2 : 0 ≤ r ∧ z1.length ≤ 1048576 ∧ ∀ j, j < z1.length → (z1.getD j qc0).2.2.length ≤ 1048576 := by
    rcases hrr with h | h
    · omega
    · exact h
  obtain ⟨_, hlq, hlm⟩ := hrr2
  have Hlm := Lib.hid hlm
  clear hrr hlm
  go_wp2_with fail
  refine (toClaimS z1 hlq Hlm.out _ _ _ HR2.out (Nat.le_refl _)).mono ?_
  rintro e w3 ⟨v1, us1, rfl, he1, hst1, hb3⟩
  have HS1 := Lib.hid hst1
  have He1 := Lib.hid he1
  clear hst1 he1
  have hs3 := hb3.size
  have hB3 : Below w.heap.size w w3 := hB2.trans (hb3.mono hB2.size)
  have HR3 := Lib.hid (Hr.out.kept5 hB3)
  clear hb3
  go_wp2_with fail
  refine (Hs.out us1 He1.out _ _ _ HS1.out.rd (Nat.le_refl _)).mono ?_
  rintro e w4 ⟨vs, rfl, hown4, hb4⟩
  have HV4 := Lib.hid hown4
  have hs4 := hb4.size
  have hB4 : Below w.heap.size w w4 := hB3.trans (hb4.mono hB3.size)
  have HR4 := Lib.hid (Hr.out.kept5 hB4)
  clear hb4 hown4
  go_wp2_with fail
  refine (toClaimSA z1 hlq Hlm.out _ _ _ HR4.out (Nat.le_refl _)).mono ?_
  rintro e w5 ⟨v2, us2, rfl, he2, hst2, hap, hb5⟩
  have HS2 := Lib.hid hst2
  have He2 := Lib.hid he2
  clear hst2 he2
  have Hap := Lib.hid hap
  have HV5 := Lib.hid (own_below HV4.out hb5)
  have HV4l := Lib.hid (fun k (hk : vs.ownBlock = some k) => (HV4.out.lt k hk).2)
  have hs5 := hb5.size
  have hB5 : Below w.heap.size w w5 := hB4.trans (hb5.mono hB4.size)
  have HR5 := Lib.hid (Hr.out.kept5 hB5)
  clear hb5 hap
  go_wp2_with fail
  refine (Hp.out us2 He2.out _ _ _ HS2.out.rd (Nat.le_refl _)).mono ?_
  rintro e w6 ⟨vi, rfl, hown6, hb6⟩
  have HV6 := Lib.hid (own_below HV5.out hb6)
  have HI6 := Lib.hid hown6
  have HS2_6 := Lib.hid (HS2.out.below hb6)
  have HS2l := Lib.hid (StoryIn.inside HS2.out)
  have hs6 := hb6.size
  have hB6 : Below w.heap.size w w6 := hB5.trans (hb6.mono hB5.size)
  have HR6 := Lib.hid (Hr.out.kept5 hB6)
  clear hb6 hown6
  go_wp2_with fail
  refine (eqIntS zs zs _ _ _ _ _ (RdInts.of_own HI6.out) (RdInts.of_own HV6.out)).mono ?_
  rintro e w7 ⟨rfl, n7, rfl⟩
  rw [show decide (zs = zs) = true from by simp]
  have hb7 : Below w6.heap.size w6 (w6.drewN n7) := below_drewN (Below.refl _ _) n7
  obtain ⟨w7, hw7⟩ : ∃ W, W = w6.drewN n7 := ⟨_, rfl⟩
  rw [← hw7] at hb7 ⊢
  have HV7 := Lib.hid (own_below HV6.out hb7)
  have HI7 := Lib.hid (own_below HI6.out hb7)
  have HS2_7 := Lib.hid (HS2_6.out.below hb7)
  have hs7 := hb7.size
  have hB7 : Below w.heap.size w w7 := hB6.trans (hb7.mono hB6.size)
  have HR7 := Lib.hid (Hr.out.kept5 hB7)
  clear hb7 hw7
  go_wp2_with fail
  refine (toClaimS z1 hlq Hlm.out _ _ _ HR7.out (Nat.le_refl _)).mono ?_
  rintro e w8 ⟨v3, us3, rfl, he3, hst3, hb8⟩
  have HS3 := Lib.hid hst3
  have He3 := Lib.hid he3
  clear hst3 he3
  have HV8 := Lib.hid (own_below HV7.out hb8)
  have HI8 := Lib.hid (own_below HI7.out hb8)
  have HS2_8 := Lib.hid (HS2_7.out.below hb8)
  have hs8 := hb8.size
  have hB8 : Below w.heap.size w w8 := hB7.trans (hb8.mono hB7.size)
  have HR8 := Lib.hid (Hr.out.kept5 hB8)
  clear hb8
  go_wp2_with fail
  refine (eqClaimS us2 us3 (He2.out.trans He3.out.symm) _ _ _ _ _ HS2_8.out.rd HS3.out.rd (Nat.le_refl _) (Nat.le_refl _)).mono ?_
  rintro e w9 ⟨rfl, hb9⟩
  have HV9 := Lib.hid (own_below HV8.out hb9)
  have HI9 := Lib.hid (own_below HI8.out hb9)
  have HS2_9 := Lib.hid (HS2_8.out.below hb9)
  have hs9 := hb9.size
  have hB9 : Below w.heap.size w w9 := hB8.trans (hb9.mono hB8.size)
  have HR9 := Lib.hid (Hr.out.kept5 hB9)
  have Hct := Lib.hid (ctot_bound us2 (story_bound He2.out hlq Hlm.out).1 (story_bound He2.out hlq Hlm.out).2)
  clear hb9
  go_wp2_with fail
  refine (markClaimS us2 1 (by have := Hct.out; omega) _ _ _ _ HS2_9.out Hap.out).mono ?_
  rintro e w10 ⟨rfl, _, ho10⟩
  have hb10 : Below w4.heap.size w9 w10 := ho10.below (fun k hk => (HS2l.out.1 k hk).1) (fun q hq k hk => (HS2l.out.2 q hq k hk).1)
  have HV10 := Lib.hid (own_only HV9.out ho10 (fun k hk e => by have := HV4l.out k hk; have := (HS2l.out.1 k e.symm).1; omega) (fun k hk q hq e => by have := HV4l.out k hk; have := (HS2l.out.2 q hq k e.symm).1; omega))
  have HI10 := Lib.hid (own_only HI9.out ho10 (fun k hk e => by have := (HI6.out.lt k hk).1; have := (HS2l.out.1 k e.symm).2; omega) (fun k hk q hq e => by have := (HI6.out.lt k hk).1; have := (HS2l.out.2 q hq k e.symm).2; omega))
  have hs10 := ho10.2.2.2.1
  have hB10 : Below w.heap.size w w10 := hB9.trans (hb10.mono hB4.size)
  have HR10 := Lib.hid (Hr.out.kept5 hB10)
  clear hb10 ho10
  generalize 1 + ctot us2 = K at *
  go_wp2_with fail
  refine (eqIntS zs zs _ _ _ _ _ (RdInts.of_own HI10.out) (RdInts.of_own HV10.out)).mono ?_
  rintro e w11 ⟨rfl, n11, rfl⟩
  rw [show decide (zs = zs) = true from by simp]
  have hb11 : Below w10.heap.size w10 (w10.drewN n11) := below_drewN (Below.refl _ _) n11
  obtain ⟨w11, hw11⟩ : ∃ W, W = w10.drewN n11 := ⟨_, rfl⟩
  rw [← hw11] at hb11 ⊢
  have HV11 := Lib.hid (own_below HV10.out hb11)
  have HI11 := Lib.hid (own_below HI10.out hb11)
  have hs11 := hb11.size
  have hB11 : Below w.heap.size w w11 := hB10.trans (hb11.mono hB10.size)
  have HR11 := Lib.hid (Hr.out.kept5 hB11)
  clear hb11 hw11
  go_wp2_with fail
  refine (markIntS zs 1 (by have := Hlen.out; omega) _ _ _ HI11.out).mono ?_
  rintro e w12 ⟨rfl, hown12, hg12⟩
  have HI12 := Lib.hid hown12
  have HV12 := Lib.hid (HV11.out.kept hg12 (own_apart (fun k hk => HV4l.out k hk) (fun k hk => by have := (HI11.out.lt k hk).1; omega)))
  have hB12 : Below w.heap.size w w12 := below_grown_row hB11 hg12 hB11.size (fun k hk => by have := (HI11.out.lt k hk).1; have := hB5.size; omega)
  have HR12 := Lib.hid (Hr.out.kept5 hB12)
  clear hown12 hg12
  generalize hn : zs.length = n at *
  have Hn := Lib.hid hn; clear hn
  have hrd12 : Hid (RdInts w12 w12.heap.size vi ((List.range n).map fun j => ((1 + j : Nat) : Int))) := RdInts.of_own (by simpa [ints] using HI12.out)
  go_wp2_with fail
  refine (heldIntS n 1 (by have := Hlen.out; omega) _ _ _ hrd12.out).mono ?_
  rintro e w13 ⟨rfl, rfl⟩
  go_wp2_with fail
  refine (toClaimS z1 hlq Hlm.out _ _ _ HR12.out (Nat.le_refl _)).mono ?_
  rintro e w14 ⟨v4, us4, rfl, he4, hst4, hb14⟩
  have HS4 := Lib.hid hst4
  have He4 := Lib.hid he4
  clear hst4 he4
  have HV14 := Lib.hid (own_below HV12.out hb14)
  have Hrd14 := Lib.hid (hrd12.out.below (w' := w14) (below_block hb14 (Nat.le_refl _)))
  have hs14 := hb14.size
  have hB14 : Below w.heap.size w w14 := hB12.trans (hb14.mono hB12.size)
  clear hb14
  go_wp2_with fail
  refine (Hp.out us4 He4.out _ _ _ HS4.out.rd (Nat.le_refl _)).mono ?_
  rintro e w15 ⟨vh, rfl, hown15, hb15⟩
  have HV15 := Lib.hid (own_below HV14.out hb15)
  have HH15 := Lib.hid hown15
  have Hrd15 := Lib.hid (Hrd14.out.below (w' := w15) (below_block hb15 hs14))
  have hB15 : Below w.heap.size w w15 := hB14.trans (hb15.mono hB14.size)
  clear hb15 hown15
  go_wp2_with fail
  refine (eqIntS zs zs _ _ _ _ _ (RdInts.of_own (by rw [Hn.out]; exact HH15.out)) (RdInts.of_own (by rw [Hn.out]; exact HV15.out))).mono ?_
  rintro e w16 ⟨rfl, n16, rfl⟩
  rw [show decide (zs = zs) = true from by simp]
  go_wp2_with fail
  refine (heldIntS n 1 (by have := Hlen.out; omega) _ _ _ (Hrd15.out.below (w' := w15.drewN n16) (fun _ _ => rfl))).mono ?_
  rintro e w17 ⟨rfl, rfl⟩
  go_wp2
  go_ret
  exact ⟨rfl, below_drewN hB15 _⟩

set_option maxRecDepth 100000 in
theorem lifted (os : Os) (started : os.Started) (H : Type) (enc : TypeId × Value → H) :
    ReturnsInHanded {} Try.checked os 12 .any (Rows.fnExactNeedlessClaimsSpec.pre6 enc Try.prog Try.f12 Rows.fnExactNeedlessClaimsRow.domain false) (Rows.fnExactNeedlessClaimsSpec.post enc Try.prog Try.f12 false true false false) := by
  refine returnsInHanded_of_change (C := Try.checked) Try.own started (by kernel_rfl) Try.func12
    (ChangeSpec.witness6 (enc := enc) (C := Try.checked) false ⟨#[], #[.int .i64 0, .slice none 0 0], []⟩ 8 (by kernel_rfl) (by kernel_rfl) (by kernel_rfl) (by kernel_rfl)) ?_
  intro W base args ds gs before hval0 hW hcnd _
  have hval : ∀ (j : Nat) t v, Try.f12.params[j]? = some t → args[j]? = some v → Value.okWide Try.prog W .any base t v := hval0
  have hW' := hW
  obtain ⟨p, q, hA0, hV, rfl, hfz, hnd⟩ := hW
  have hA : DataW.TrodAll enc Try.prog W 0 (fun _ => true) true Try.f12.params.toList args.toList ds p := hA0
  rw [Try.params12] at hA hval
  obtain ⟨v0, vs0, d0, ds0, p0, q0, hargs, rfl, rfl, h0, r0⟩ := trodAll_cons hA
  obtain ⟨v1, vs1, d1, ds1, p1, q1, rfl, rfl, rfl, h1, r1⟩ := trodAll_cons r0
  obtain ⟨rfl, rfl, rfl⟩ := trodAll_nil r1
  obtain rfl : args = #[v0, v1] := by cases args; simp_all
  obtain ⟨rfl, rfl⟩ := trodVars_none hV
  obtain ⟨a0, rfl, rfl, rfl, w0⟩ := open_int Try.underlying3 (hval 0 3 v0 rfl rfl) h0
  obtain ⟨a1, len1, cap1, rfl⟩ := okWide_slice Try.underlying47 (hval 1 47 v1 rfl rfl)
  have k1 := h1
  have lt1 : ∀ x ∈ p1, x.block < W.heap.size := by obtain ⟨m, hm⟩ := k1; exact DataW.trod_lt m _ _ _ hm
  obtain ⟨z1, e1, w1⟩ : ∃ qs, len1 = qs.length ∧ RdStory W W.heap.size (.slice a1 len1 cap1) qs := by
    obtain ⟨fuel, hf⟩ := h1
    exact open_story Try.underlying47 Try.underlying70 (by kernel_rfl) rfl rfl (by kernel_rfl) (by kernel_rfl) Try.underlying3 Try.underlying68 Try.underlying95 (by kernel_rfl) rfl rfl (by kernel_rfl) (by kernel_rfl) Try.underlying3 Try.underlying3 hf
  clear hA0 hval0
  refine (walk a0 _ _ W w0 w1).mono fun e W' ⟨he, bel⟩ => ?_
  subst he
  exact ⟨_, rfl, _, _, _, [], _, [], hW', trodAll_mk1 (shut_bool Try.underlying4 _), (trodAll_cons_mk (shut_int Try.underlying3 w0) (trodAll_cons_mk (Below.trod Try.laidOut (by kernel_rfl) (of_decide_eq_true (by kernel_rfl)) k1 bel lt1) trodAll_mk0)), rfl, bel.frame _, fun h => by cases h⟩

theorem closed : joinedFacts Try.pinned.checked.prog 12 Try.f12 Rows.fnExactNeedlessClaimsSpec Rows.fnExactNeedlessClaimsRow = true := by
  unfold joinedFacts
  exact (and_tt (and_tt (and_tt (and_tt (and_tt (and_tt (and_tt (and_tt (and_tt (and_tt (and_tt (and_tt (and_tt (and_tt (and_tt (and_tt (and_tt (and_tt (and_tt (and_tt (and_tt (and_tt (and_tt (and_tt (and_tt (and_tt (and_tt (and_tt (and_tt (and_tt (and_tt (by kernel_rfl) (by kernel_rfl)) (by kernel_rfl)) (by kernel_rfl)) (by kernel_rfl)) (by kernel_rfl)) (by kernel_rfl)) (by kernel_rfl)) (by kernel_rfl)) (by kernel_rfl)) (by kernel_rfl)) (by kernel_rfl)) (by kernel_rfl)) (by kernel_rfl)) (by kernel_rfl)) (by kernel_rfl)) (by kernel_rfl)) (by kernel_rfl)) (by kernel_rfl)) (by kernel_rfl)) (by kernel_rfl)) (by kernel_rfl)) (by kernel_rfl)) (by kernel_rfl)) (by kernel_rfl)) Try.mayEnter0) (lifted_tt Try.lifts0 rfl)) (make_tt Try.make0 rfl)) (by kernel_rfl)) (by kernel_rfl)) (by kernel_rfl)) (by kernel_rfl))
theorem over : Rows.fnExactNeedlessClaimsRow.holds Try.pinned (OpenSpec.ofChange Rows.fnExactNeedlessClaimsSpec) :=
  OpenClaim.holds_of_wide 12 Try.f12 rfl rfl rfl rfl rfl rfl rfl ⟨rfl, rfl, rfl, rfl, rfl⟩ rfl rfl rfl rfl rfl (by kernel_rfl) Try.func12 closed
    (of_decide_eq_true (by kernel_rfl)) (by unfold Func.isWrapper; first | (rw [if_pos (by decide +kernel)]; kernel_rfl) | (rw [if_neg (by decide +kernel)]; exact ⟨rfl, rfl⟩))
    (fun os started H enc _ => lifted os started H enc)

theorem proved : Rows.FnExactNeedlessClaimsSaid := over
end Go.Proofs.Ytncihjelpaiocaa.fnExactNeedlessClaims

