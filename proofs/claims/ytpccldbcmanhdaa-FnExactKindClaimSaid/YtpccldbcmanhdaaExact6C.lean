/- Exact law of stage 6: claims of kinds, in memory of their own. No condition. -/
import Derived.Test.YtpccldbcmanhdaaOddI
import Derived.Test.YtpccldbcmanhdaaClaimE
import Derived.Test.YtpccldbcmanhdaaClaimH
import Derived.Test.YtpccldbcmanhdaaFrameC
import Derived.Deep.RegionHeld3
import Derived.Deep.Cut
namespace Go.Proofs.Ytpccldbcmanhdaa
open Go.RowKit
theorem kind_len6 (p k l : Int) (t : Bool) : (kindV p k l t).2.length ≤ 15 := by
  unfold kindV
  split
  · unfold kindL
    cases t <;> simp
  · simp
theorem kind_I646 (p k l : Int) (t : Bool) (hl : I64 l) : I64s (kindV p k l t).2 := by
  have e0 : I64 0 := I64_small (by omega) (by omega)
  have e2 : I64 2 := I64_small (by omega) (by omega)
  unfold kindV
  split
  · unfold kindL
    cases t with
    | true => exact I64s_one e0 hl
    | false => exact I64s_two e0 hl e2 e0
  · intro m hm; simp at hm
end Go.Proofs.Ytpccldbcmanhdaa
namespace Go.Proofs.Ytpccldbcmanhdaa.fnExactKindClaim
open Go.ChangeShapes Go.WideShapes Go.ChangeAt Go.RowKit
attribute [local irreducible] holds tabN tabV holdsV sameV followsV alwaysV matterV mirV mirOk mcells tmOf claimOk mayT mayV ctabV ctabN storyV storyOk storyN storyT ctermV ctermL denyV denyOk ccells sayV neverV alwsV nestOk nestV kindOk kindV lay
open Go.ChangeMaps (open_string shut_string)
set_option linter.unusedVariables false
set_option maxRecDepth 100000 in
set_option maxHeartbeats 8000000 in
theorem walk (a0 : Int) (a1 : Int) (a2 : Int) (a3 : Bool) (w : World) (w0 : (Lit.int .i64 a0).wf = true) (w1 : (Lit.int .i64 a1).wf = true) (w2 : (Lit.int .i64 a2).wf = true) :
    Calls Try.prog 12 #[.int .i64 a0, .int .i64 a1, .int .i64 a2, .bool a3] w fun e w' => e = .returned (.bool true) ∧ Below w.heap.size w w' := by
  obtain ⟨w3, hw3⟩ : ∃ w3 : World, w3 = w := ⟨_, rfl⟩
  have hs := fun W => specKindClaim a0 a1 a2 a3 (I64_of_wf w2) W
  have hp := fun W => implKindClaim a0 a1 a2 a3 (I64_of_wf w2) W
  have hxl0 := kind_len6 a0 a1 a2 a3
  have Hxi0 := Lib.hid (kind_I646 a0 a1 a2 a3 (I64_of_wf w2))
  generalize kindV a0 a1 a2 a3 = dd at *
  obtain ⟨dk, xs⟩ := dd
  have hxl : xs.length ≤ 15 := hxl0
  have Hxi : Hid (I64s xs) := Hxi0.out
  generalize kindOk a0 a1 a2 a3 = oo at *
  have hoo : (oo != oo) = false := by simp
  have hoo2 : (oo == oo) = true := by simp
  have Hs := Lib.hid hs
  have Hp := Lib.hid hp
  have HB3 : Hid (Below w.heap.size w w3) := by rw [hw3]; exact Below.refl _ _
  rw [← hw3]
  have HW3e := Lib.hid hw3
  clear hs hp hxl0 Hxi0 w0 w1 w2 hw3
  go_enter Try.func12, Try.ntmps12
  go_wp2_with fail
  refine (Hs.out _).mono ?_
  rintro e w4 ⟨vW, rfl, hoW, hb4⟩
  have hsz4 := hb4.size
  have HB4 := Lib.hid (HB3.out.trans (hb4.mono HB3.out.size))
  obtain ⟨fW, gW, hfW⟩ := own_len hoW
  subst hfW
  clear hb4
  clear HB3
  go_upto_region 2 with fail
  obtain ⟨w5, hw5, hn5, hb5, hsz5⟩ := Box.new w4 (.int .i64 dk) (.slice fW xs.length gW) TC
  have HW5 := Lib.hid (own_below hoW hb5)
  have HYW5 := Lib.hid hn5
  have aYW5 := HYW5.out.1
  have bYW5 := HYW5.out.2.1
  rw [← hw5]
  have HWlo : Hid (∀ k, (Value.slice fW xs.length gW).ownBlock = some k → w3.heap.size ≤ k ∧ k < w4.heap.size) := hoW.lt
  have HB5 := Lib.hid (HB4.out.trans (hb5.mono HB4.out.size))
  clear hw5 hn5 hb5 hoW
  clear HB4
  go_wp2_with fail
  refine (Hp.out _).mono ?_
  rintro e w6 ⟨vG, rfl, hoG, hb6⟩
  have hsz6 := hb6.size
  have HYW6 := Lib.hid (HYW5.out.below hb6)
  have aYW6 := HYW6.out.1
  have bYW6 := HYW6.out.2.1
  have HW6 := Lib.hid (own_below HW5.out hb6)
  have HB6 := Lib.hid (HB5.out.trans (hb6.mono HB5.out.size))
  obtain ⟨fG, gG, hfG⟩ := own_len hoG
  subst hfG
  clear hb6
  clear HYW5 aYW5 bYW5 HW5 HB5
  go_upto_region 3 with fail
  obtain ⟨w7, hw7, hn7, hb7, hsz7⟩ := Box.new w6 (.int .i64 dk) (.slice fG xs.length gG) TC
  have HG7 := Lib.hid (own_below hoG hb7)
  have HYG7 := Lib.hid hn7
  have aYG7 := HYG7.out.1
  have bYG7 := HYG7.out.2.1
  rw [← hw7]
  have HGlo : Hid (∀ k, (Value.slice fG xs.length gG).ownBlock = some k → w5.heap.size ≤ k ∧ k < w6.heap.size) := hoG.lt
  have HYW7 := Lib.hid (HYW6.out.below hb7)
  have aYW7 := HYW7.out.1
  have bYW7 := HYW7.out.2.1
  have HW7 := Lib.hid (own_below HW6.out hb7)
  have HB7 := Lib.hid (HB6.out.trans (hb7.mono HB6.out.size))
  clear hw7 hn7 hb7 hoG
  clear HYW6 aYW6 bYW6 HW6 HB6
  go_wp2_with fail
  refine (eqClaim dk xs _ _ _ _ _ (RdMarks.of_own HG7.out Hxi.out) (RdMarks.of_own HW7.out Hxi.out) (Nat.le_refl _) (Nat.le_refl _)).mono ?_
  rintro e w8 ⟨rfl, hb8⟩
  have HYW8 := Lib.hid (HYW7.out.below hb8)
  have aYW8 := HYW8.out.1
  have bYW8 := HYW8.out.2.1
  have HYG8 := Lib.hid (HYG7.out.below hb8)
  have aYG8 := HYG8.out.1
  have bYG8 := HYG8.out.2.1
  have HW8 := Lib.hid (own_below HW7.out hb8)
  have HG8 := Lib.hid (own_below HG7.out hb8)
  have HB8 := Lib.hid (HB7.out.trans (hb8.mono HB7.out.size))
  clear hb8
  clear HYW7 aYW7 bYW7 HYG7 aYG7 bYG7 HW7 HG7 HB7
  go_wp2_with fail
  refine (markClaimH dk xs 1 (by omega) _ _ _ (by exact HG8.out)).mono ?_
  rintro e w9 ⟨rfl, hown9, hg9'⟩
  have hg9 : w8.grownBy w9 (Value.slice fG xs.length gG).ownBlock := by first | exact hg9' | exact grownBy_drew0 hg9' | exact grownBy_drewX hg9'
  have hw3s : w3.heap.size = w.heap.size := by rw [HW3e.out]
  have hwo5 : w.heap.size ≤ w5.heap.size := by omega
  have HB9 := Lib.hid (HB8.out.grown hg9 HB8.out.size (fun k hk => by have := (HGlo.out k hk).1; omega))
  have HW9 := Lib.hid (HW8.out.kept hg9 (own_apart (s := w5.heap.size) (fun k hk => by have := (HWlo.out k hk).2; omega) (fun k hk => (HGlo.out k hk).1)))
  have HYW9 := Lib.hid (HYW8.out.grown hg9 (fun e => by have := (HGlo.out _ e).1; omega))
  have aYW9 := HYW9.out.1
  have bYW9 := HYW9.out.2.1
  have HYG9 := Lib.hid (HYG8.out.grown hg9 (fun e => by have := (HGlo.out _ e).2; omega))
  have aYG9 := HYG9.out.1
  have bYG9 := HYG9.out.2.1
  generalize hn : xs.length = n at *
  have Hn := Lib.hid hn; clear hn
  have Hrd9 : Hid (RdMarks w9 w9.heap.size (.slice fG n gG) (lay 1 n)) := RdMarks.of_own (by rw [lay_length]; exact hown9) (lay_I64 (by omega))
  clear hg9 hg9' hown9 HYW8 HYG8 HW8 HG8 HB8 aYW8 bYW8 aYG8 bYG8
  have hm9 : (0 : Int) ≤ ((1 + n * 2 : Nat) : Int) := by omega
  generalize hM : 1 + n * 2 = M at *
  have HM := Lib.hid hM; clear hM
  go_wp2_with fail
  refine (heldClaimH dk n 1 (by omega) _ _ _ Hrd9.out (Nat.le_refl _)).mono ?_
  rintro e w10 ⟨rfl, hb10⟩
  rw [HM.out]
  have HYW10 := Lib.hid (HYW9.out.below hb10)
  have aYW10 := HYW10.out.1
  have bYW10 := HYW10.out.2.1
  have HYG10 := Lib.hid (HYG9.out.below hb10)
  have aYG10 := HYG10.out.1
  have bYG10 := HYG10.out.2.1
  have HW10 := Lib.hid (own_below HW9.out hb10)
  have Hrd10 := Lib.hid (Hrd9.out.kept hb10)
  have HB10 := Lib.hid (HB9.out.trans (hb10.mono HB9.out.size))
  clear hb10
  clear HYW9 aYW9 bYW9 HYG9 aYG9 bYG9 HW9 HB9 Hrd9
  go_wp2_with fail
  refine (Hp.out _).mono ?_
  rintro e w11 ⟨vV, rfl, hoV, hb11⟩
  have hsz11 := hb11.size
  rw [show (dk, xs).2.length = n from Hn.out] at hoV
  have HYW11 := Lib.hid (HYW10.out.below hb11)
  have aYW11 := HYW11.out.1
  have bYW11 := HYW11.out.2.1
  have HYG11 := Lib.hid (HYG10.out.below hb11)
  have aYG11 := HYG11.out.1
  have bYG11 := HYG11.out.2.1
  have HW11 := Lib.hid (own_below HW10.out hb11)
  have Hrd11 := Lib.hid (Hrd10.out.kept hb11)
  have HB11 := Lib.hid (HB10.out.trans (hb11.mono HB10.out.size))
  obtain ⟨fV, gV, hfV⟩ := own_len hoV
  subst hfV
  clear hb11
  clear HYW10 aYW10 bYW10 HYG10 aYG10 bYG10 HW10 HB10 Hrd10
  go_upto_region 14 with fail
  obtain ⟨w12, hw12, hn12, hb12, hsz12⟩ := Box.new w11 (.int .i64 dk) (.slice fV n gV) TC
  have HV12 := Lib.hid (own_below hoV hb12)
  have HYV12 := Lib.hid hn12
  have aYV12 := HYV12.out.1
  have bYV12 := HYV12.out.2.1
  rw [← hw12]
  have HVlo : Hid (∀ k, (Value.slice fV n gV).ownBlock = some k → w10.heap.size ≤ k ∧ k < w11.heap.size) := hoV.lt
  have HYW12 := Lib.hid (HYW11.out.below hb12)
  have aYW12 := HYW12.out.1
  have bYW12 := HYW12.out.2.1
  have HYG12 := Lib.hid (HYG11.out.below hb12)
  have aYG12 := HYG12.out.1
  have bYG12 := HYG12.out.2.1
  have HW12 := Lib.hid (own_below HW11.out hb12)
  have Hrd12 := Lib.hid (Hrd11.out.kept hb12)
  have HB12 := Lib.hid (HB11.out.trans (hb12.mono HB11.out.size))
  clear hw12 hn12 hb12 hoV
  clear HYW11 aYW11 bYW11 HYG11 aYG11 bYG11 HW11 HB11 Hrd11
  have HV12' : Hid (w12.ownsRow w10.heap.size TM 2 (.slice fV n gV) xs.length (mcells xs)) := by unfold Hid; rw [Hn.out]; exact HV12.out
  have HW12' : Hid (w12.ownsRow w3.heap.size TM 2 (.slice fW n gW) xs.length (mcells xs)) := by unfold Hid; rw [Hn.out]; exact HW12.out
  go_wp2_with fail
  refine (eqClaim dk xs _ _ _ _ _ (RdMarks.of_own HV12'.out Hxi.out) (RdMarks.of_own HW12'.out Hxi.out) (Nat.le_refl _) (Nat.le_refl _)).mono ?_
  rintro e w13 ⟨rfl, hb13⟩
  have HYG13 := Lib.hid (HYG12.out.below hb13)
  have aYG13 := HYG13.out.1
  have bYG13 := HYG13.out.2.1
  have Hrd13 := Lib.hid (Hrd12.out.kept hb13)
  have HB13 := Lib.hid (HB12.out.trans (hb13.mono HB12.out.size))
  clear hb13 HV12' HW12' HV12 HYV12 aYV12 bYV12
  clear HYW12 aYW12 bYW12 HYG12 aYG12 bYG12 HW12 HB12 Hrd12
  go_wp2_with fail
  refine (heldClaimH dk n 1 (by omega) _ _ _ Hrd13.out (Nat.le_refl _)).mono ?_
  rintro e w14 ⟨rfl, hb14⟩
  rw [HM.out]
  have HYG14 := Lib.hid (HYG13.out.below hb14)
  have aYG14 := HYG14.out.1
  have bYG14 := HYG14.out.2.1
  have Hrd14 := Lib.hid (Hrd13.out.kept hb14)
  have HB14 := Lib.hid (HB13.out.trans (hb14.mono HB13.out.size))
  clear hb14
  clear HYG13 aYG13 bYG13 HB13 Hrd13
  go_wp2
  go_ret
  exact ⟨rfl, by have h := HB14.out; rw [← HW3e.out] at h; exact h⟩

set_option maxRecDepth 100000 in
theorem lifted (os : Os) (started : os.Started) (H : Type) (enc : TypeId × Value → H) :
    ReturnsInHanded {} Try.checked os 12 .any (Rows.fnExactKindClaimSpec.pre6 enc Try.prog Try.f12 Rows.fnExactKindClaimRow.domain false) (Rows.fnExactKindClaimSpec.post enc Try.prog Try.f12 false true false false) := by
  refine returnsInHanded_of_change (C := Try.checked) Try.own started (by kernel_rfl) Try.func12
    (ChangeSpec.witness6 (enc := enc) (C := Try.checked) false ⟨#[], #[.int .i64 0, .int .i64 0, .int .i64 0, .bool false], []⟩ 8 (by kernel_rfl) (by kernel_rfl) (by kernel_rfl) (by kernel_rfl)) ?_
  intro W base args ds gs before hval0 hW hcnd _
  have hval : ∀ (j : Nat) t v, Try.f12.params[j]? = some t → args[j]? = some v → Value.okWide Try.prog W .any base t v := hval0
  have hW' := hW
  obtain ⟨p, q, hA0, hV, rfl, hfz, hnd⟩ := hW
  have hA : DataW.TrodAll enc Try.prog W 0 (fun _ => true) true Try.f12.params.toList args.toList ds p := hA0
  rw [Try.params12] at hA hval
  obtain ⟨v0, vs0, d0, ds0, p0, q0, hargs, rfl, rfl, h0, r0⟩ := trodAll_cons hA
  obtain ⟨v1, vs1, d1, ds1, p1, q1, rfl, rfl, rfl, h1, r1⟩ := trodAll_cons r0
  obtain ⟨v2, vs2, d2, ds2, p2, q2, rfl, rfl, rfl, h2, r2⟩ := trodAll_cons r1
  obtain ⟨v3, vs3, d3, ds3, p3, q3, rfl, rfl, rfl, h3, r3⟩ := trodAll_cons r2
  obtain ⟨rfl, rfl, rfl⟩ := trodAll_nil r3
  obtain rfl : args = #[v0, v1, v2, v3] := by cases args; simp_all
  obtain ⟨rfl, rfl⟩ := trodVars_none hV
  obtain ⟨a0, rfl, rfl, rfl, w0⟩ := open_int Try.underlying3 (hval 0 3 v0 rfl rfl) h0
  obtain ⟨a1, rfl, rfl, rfl, w1⟩ := open_int Try.underlying3 (hval 1 3 v1 rfl rfl) h1
  obtain ⟨a2, rfl, rfl, rfl, w2⟩ := open_int Try.underlying3 (hval 2 3 v2 rfl rfl) h2
  obtain ⟨a3, rfl, rfl, rfl⟩ := open_bool Try.underlying4 (hval 3 4 v3 rfl rfl) h3
  clear hA0 hval0
  refine (walk a0 a1 a2 a3 W w0 w1 w2).mono fun e W' ⟨he, bel⟩ => ?_
  subst he
  exact ⟨_, rfl, _, _, _, [], _, [], hW', trodAll_mk1 (shut_bool Try.underlying4 _), (trodAll_cons_mk (shut_int Try.underlying3 w0) (trodAll_cons_mk (shut_int Try.underlying3 w1) (trodAll_cons_mk (shut_int Try.underlying3 w2) (trodAll_cons_mk (shut_bool Try.underlying4 a3) trodAll_mk0)))), rfl, bel.frame _, fun h => by cases h⟩

theorem closed : joinedFacts Try.pinned.checked.prog 12 Try.f12 Rows.fnExactKindClaimSpec Rows.fnExactKindClaimRow = true := by
  unfold joinedFacts
  exact (and_tt (and_tt (and_tt (and_tt (and_tt (and_tt (and_tt (and_tt (and_tt (and_tt (and_tt (and_tt (and_tt (and_tt (and_tt (and_tt (and_tt (and_tt (and_tt (and_tt (and_tt (and_tt (and_tt (and_tt (and_tt (and_tt (and_tt (and_tt (and_tt (and_tt (and_tt (by kernel_rfl) (by kernel_rfl)) (by kernel_rfl)) (by kernel_rfl)) (by kernel_rfl)) (by kernel_rfl)) (by kernel_rfl)) (by kernel_rfl)) (by kernel_rfl)) (by kernel_rfl)) (by kernel_rfl)) (by kernel_rfl)) (by kernel_rfl)) (by kernel_rfl)) (by kernel_rfl)) (by kernel_rfl)) (by kernel_rfl)) (by kernel_rfl)) (by kernel_rfl)) (by kernel_rfl)) (by kernel_rfl)) (by kernel_rfl)) (by kernel_rfl)) (by kernel_rfl)) (by kernel_rfl)) Try.mayEnter0) (lifted_tt Try.lifts0 rfl)) (make_tt Try.make0 rfl)) (by kernel_rfl)) (by kernel_rfl)) (by kernel_rfl)) (by kernel_rfl))
theorem over : Rows.fnExactKindClaimRow.holds Try.pinned (OpenSpec.ofChange Rows.fnExactKindClaimSpec) :=
  OpenClaim.holds_of_wide 12 Try.f12 rfl rfl rfl rfl rfl rfl rfl ⟨rfl, rfl, rfl, rfl, rfl⟩ rfl rfl rfl rfl rfl (by kernel_rfl) Try.func12 closed
    (of_decide_eq_true (by kernel_rfl)) (by unfold Func.isWrapper; first | (rw [if_pos (by decide +kernel)]; kernel_rfl) | (rw [if_neg (by decide +kernel)]; exact ⟨rfl, rfl⟩))
    (fun os started H enc _ => lifted os started H enc)

theorem proved : Rows.FnExactKindClaimSaid := over
end Go.Proofs.Ytpccldbcmanhdaa.fnExactKindClaim

