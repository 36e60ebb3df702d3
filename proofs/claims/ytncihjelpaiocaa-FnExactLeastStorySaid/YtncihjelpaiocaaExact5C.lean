/- The exact law of stage 5's least stories. No condition. -/
import Derived.Test.YtncihjelpaiocaaOneI
import Derived.Test.YtncihjelpaiocaaOneU
import Derived.Test.YtncihjelpaiocaaClaimG
import Derived.Test.YtncihjelpaiocaaClaimF
import Derived.Test.YtncihjelpaiocaaFrameC
namespace Go.Proofs.Ytncihjelpaiocaa
open Go.RowKit
theorem least_bounds (p : Int) (s : List Cl) : (leastV p s).length ≤ 6 ∧ ∀ c ∈ leastV p s, c.2.length ≤ 13 := by
  cases h : storyOk p s with
  | false => rw [leastV_no h]; simp
  | true =>
    obtain ⟨h1, _, h3⟩ := storyOk_iff.1 (least_all h).1
    exact ⟨h3, fun c hc => (claimOk_iff.1 (h1 c hc)).2.2.2⟩
theorem story_bound2 {us : List QC} {LL : List Cl} (he : us.map (·.2) = LL) (h : LL.length ≤ 6 ∧ ∀ c ∈ LL, c.2.length ≤ 13) : us.length ≤ 1048576 ∧ ∀ q ∈ us, q.2.2.length ≤ 1048576 := by
  have hlen := congrArg List.length he
  simp at hlen
  refine ⟨by omega, fun q hq => ?_⟩
  have h1 : q.2 ∈ us.map (·.2) := List.mem_map.2 ⟨q, hq, rfl⟩
  rw [he] at h1
  have := h.2 _ h1
  omega
/-- a story stays where another one alone is written into -/
theorem StoryIn.only {w w' : World} {base ib m M : Nat} {v vv : Value} {us zs : List QC} (h : StoryIn w base ib v us) (ho : OnlyIn zs vv w w') (h1 : ∀ k, vv.ownBlock = some k → m ≤ k ∧ k < M) (h2 : ∀ q ∈ zs, ∀ k, q.1.ownBlock = some k → m ≤ k ∧ k < M)
    (hd : ((∀ k, v.ownBlock = some k → k < m) ∧ ∀ q ∈ us, ∀ k, q.1.ownBlock = some k → k < m) ∨ ((∀ k, v.ownBlock = some k → M ≤ k) ∧ ∀ q ∈ us, ∀ k, q.1.ownBlock = some k → M ≤ k)) : StoryIn w' base ib v us := by
  have far : ∀ k, (k < m ∨ M ≤ k) → some k ≠ vv.ownBlock ∧ ∀ q ∈ zs, some k ≠ q.1.ownBlock := fun k hk =>
    ⟨fun e => by have := h1 k e.symm; omega, fun q hq e => by have := h2 q hq k e.symm; omega⟩
  refine ⟨own_only h.1 ho (fun k hk => (far k ?_).1) (fun k hk => (far k ?_).2), fun q hq => ⟨own_only (h.2 q hq).1 ho (fun k hk => (far k ?_).1) (fun k hk => (far k ?_).2), (h.2 q hq).2⟩⟩
  · exact hd.elim (fun h => .inl (h.1 k hk)) (fun h => .inr (h.1 k hk))
  · exact hd.elim (fun h => .inl (h.1 k hk)) (fun h => .inr (h.1 k hk))
  · exact hd.elim (fun h => .inl (h.2 q hq k hk)) (fun h => .inr (h.2 q hq k hk))
  · exact hd.elim (fun h => .inl (h.2 q hq k hk)) (fun h => .inr (h.2 q hq k hk))
theorem LeastStory_spec (p : Int) (us zs : List QC) (he : us.map (·.2) = zs.map (·.2)) (B : Nat) (v : Value) (w : World) (hr : RdStory w B v us) (hB : B ≤ w.heap.size) :
    Calls Try.prog 36 #[.int .i64 p, v] w fun e w' => ∃ u ys, e = .returned (.tuple #[u, .bool (storyOk p (zs.map (·.2)))]) ∧ ys.map (·.2) = leastV p (zs.map (·.2)) ∧ StoryIn w' w.heap.size w.heap.size u ys ∧ Below w.heap.size w w' := by
  rw [← he]
  exact specLeast p us B v w hr hB
theorem LeastStory_impl (p : Int) (us zs : List QC) (he : us.map (·.2) = zs.map (·.2)) (B : Nat) (v : Value) (w : World) (hr : RdStory w B v us) (hB : B ≤ w.heap.size) :
    Calls Try.prog 35 #[.int .i64 p, v] w fun e w' => ∃ u ys, e = .returned (.tuple #[u, .bool (storyOk p (zs.map (·.2)))]) ∧ ys.map (·.2) = leastV p (zs.map (·.2)) ∧ StoryIn w' w.heap.size w.heap.size u ys ∧ Apart ys ∧ Below w.heap.size w w' := by
  rw [← he]
  exact implLeast p us B v w hr hB
end Go.Proofs.Ytncihjelpaiocaa
namespace Go.Proofs.Ytncihjelpaiocaa.fnExactLeastStory
open Go.ChangeShapes Go.WideShapes Go.ChangeAt Go.RowKit
attribute [local irreducible] holds tabN tabV holdsV sameV followsV alwaysV matterV mirV mirOk mcells tmOf claimOk mayT mayV ctabV ctabN storyV storyOk storyN storyT ctermV ctermL denyV denyOk ccells clashV onlyOk onlyN knownF knownL knownK cntK swl needB needF needL leastR leastV woL
open Go.ChangeMaps (open_string shut_string)
set_option linter.unusedVariables false
set_option maxRecDepth 100000 in
set_option maxHeartbeats 8000000 in
theorem walk (a0 : Int) (a1 : Value) (z1 : List QC) (w : World) (w0 : (Lit.int .i64 a0).wf = true) (w1 : RdStory w w.heap.size a1 z1) :
    Calls Try.prog 13 #[.int .i64 a0, a1] w fun e w' => e = .returned (.bool true) ∧ Below w.heap.size w w' := by
  have Hr := Lib.hid w1
  have hs := fun us (he : us.map (·.2) = z1.map (·.2)) B u W h h2 => LeastStory_spec a0 us z1 he B u W h h2
  have hp := fun us (he : us.map (·.2) = z1.map (·.2)) B u W h h2 => LeastStory_impl a0 us z1 he B u W h h2
  have Hlb := Lib.hid (least_bounds a0 (z1.map (·.2)))
  generalize leastV a0 (z1.map (·.2)) = LL at *
  generalize storyOk a0 (z1.map (·.2)) = o at *
  have Hs := Lib.hid hs
  have Hp := Lib.hid hp
  clear hs hp w1
  go_enter Try.func13, Try.ntmps13
  go_wp2_with fail
  refine (szClaimS z1 _ _ _ Hr.out (Nat.le_refl _)).mono ?_
  rintro e w2 ⟨⟨r, rfl, hrr⟩, hb2⟩
  have hB2 : Below w.heap.size w w2 := hb2
  have HR2 := Lib.hid (Hr.out.kept5 hB2)
  clear hb2
  by_cases hneg : r < 0
  case pos =>
    clear hrr
    go_wp2
    go_ret
    exact ⟨rfl, hB2⟩
  have hrr2 : 0 ≤ r ∧ z1.length ≤ 1048576 ∧ ∀ j, j < z1.length → (z1.getD j qc0).2.2.length ≤ 1048576 := by
    rcases hrr with h | h
    · omega
    · exact h
  obtain ⟨_, hlq, hlm⟩ := hrr2
  have Hlm := Lib.hid hlm
  clear hrr hlm
  go_wp2_with fail
  refine (toClaimS z1 hlq Hlm.out _ _ _ HR2.out (Nat.le_refl _)).mono ?_
  rintro e w3 ⟨v1, us1, rfl, he1, hst1, hb3⟩
  have HS1 := Lib.hid hst1
  have He1 := Lib.hid he1
  clear hst1 he1
  have hs3 := hb3.size
  have hB3 : Below w.heap.size w w3 := hB2.trans (hb3.mono hB2.size)
  have HR3 := Lib.hid (Hr.out.kept5 hB3)
  clear hb3
  go_wp2_with fail
  refine (Hs.out us1 He1.out _ _ _ HS1.out.rd (Nat.le_refl _)).mono ?_
  rintro e w4 ⟨vs, ys, rfl, hey, hown4, hb4⟩
  have HV4 := Lib.hid hown4
  have Hey := Lib.hid hey
  have HV4l := Lib.hid (StoryIn.inside hown4)
  have hs4 := hb4.size
  have hB4 : Below w.heap.size w w4 := hB3.trans (hb4.mono hB3.size)
  have HR4 := Lib.hid (Hr.out.kept5 hB4)
  clear hb4 hown4 hey
  go_wp2_with fail
  refine (toClaimSA z1 hlq Hlm.out _ _ _ HR4.out (Nat.le_refl _)).mono ?_
  rintro e w5 ⟨v2, us2, rfl, he2, hst2, hap, hb5⟩
  have HS2 := Lib.hid hst2
  have He2 := Lib.hid he2
  clear hst2 he2
  have Hap := Lib.hid hap
  have HV5 := Lib.hid (HV4.out.below hb5)
  have hs5 := hb5.size
  have hB5 : Below w.heap.size w w5 := hB4.trans (hb5.mono hB4.size)
  have HR5 := Lib.hid (Hr.out.kept5 hB5)
  clear hb5 hap
  go_wp2_with fail
  refine (Hp.out us2 He2.out _ _ _ HS2.out.rd (Nat.le_refl _)).mono ?_
  rintro e w6 ⟨vi, zs, rfl, hez, hown6, hapz, hb6⟩
  have HV6 := Lib.hid (HV5.out.below hb6)
  have HI6 := Lib.hid hown6
  have HI6l := Lib.hid (StoryIn.inside hown6)
  have Hez := Lib.hid hez
  have Hapz := Lib.hid hapz
  have HS2_6 := Lib.hid (HS2.out.below hb6)
  have HS2l := Lib.hid (StoryIn.inside HS2.out)
  have hs6 := hb6.size
  have hB6 : Below w.heap.size w w6 := hB5.trans (hb6.mono hB5.size)
  have HR6 := Lib.hid (Hr.out.kept5 hB6)
  clear hb6 hown6 hez hapz
  have Hzy : Hid (zs.map (·.2) = ys.map (·.2)) := Hez.out.trans Hey.out.symm
  have Hcz := Lib.hid (ctot_bound zs (story_bound2 Hez.out Hlb.out).1 (story_bound2 Hez.out Hlb.out).2)
  go_wp2_with fail
  refine (eqClaimS zs ys Hzy.out _ _ _ _ _ HI6.out.rd HV6.out.rd (Nat.le_refl _) (Nat.le_refl _)).mono ?_
  rintro e w7 ⟨rfl, hb7⟩
  have HV7 := Lib.hid (HV6.out.below hb7)
  have HI7 := Lib.hid (HI6.out.below hb7)
  have HS2_7 := Lib.hid (HS2_6.out.below hb7)
  have hs7 := hb7.size
  have hB7 : Below w.heap.size w w7 := hB6.trans (hb7.mono hB6.size)
  have HR7 := Lib.hid (Hr.out.kept5 hB7)
  clear hb7
  go_wp2_with fail
  refine (toClaimS z1 hlq Hlm.out _ _ _ HR7.out (Nat.le_refl _)).mono ?_
  rintro e w8 ⟨v3, us3, rfl, he3, hst3, hb8⟩
  have HS3 := Lib.hid hst3
  have He3 := Lib.hid he3
  clear hst3 he3
  have HV8 := Lib.hid (HV7.out.below hb8)
  have HI8 := Lib.hid (HI7.out.below hb8)
  have HS2_8 := Lib.hid (HS2_7.out.below hb8)
  have hs8 := hb8.size
  have hB8 : Below w.heap.size w w8 := hB7.trans (hb8.mono hB7.size)
  have HR8 := Lib.hid (Hr.out.kept5 hB8)
  clear hb8
  go_wp2_with fail
  refine (eqClaimS us2 us3 (He2.out.trans He3.out.symm) _ _ _ _ _ HS2_8.out.rd HS3.out.rd (Nat.le_refl _) (Nat.le_refl _)).mono ?_
  rintro e w9 ⟨rfl, hb9⟩
  have HV9 := Lib.hid (HV8.out.below hb9)
  have HI9 := Lib.hid (HI8.out.below hb9)
  have HS2_9 := Lib.hid (HS2_8.out.below hb9)
  have hs9 := hb9.size
  have hB9 : Below w.heap.size w w9 := hB8.trans (hb9.mono hB8.size)
  have HR9 := Lib.hid (Hr.out.kept5 hB9)
  have Hct := Lib.hid (ctot_bound us2 (story_bound He2.out hlq Hlm.out).1 (story_bound He2.out hlq Hlm.out).2)
  clear hb9
  go_wp2_with fail
  refine (markClaimS us2 1 (by have := Hct.out; omega) _ _ _ _ HS2_9.out Hap.out).mono ?_
  rintro e w10 ⟨rfl, _, ho10⟩
  have hb10 : Below w4.heap.size w9 w10 := ho10.below (fun k hk => (HS2l.out.1 k hk).1) (fun q hq k hk => (HS2l.out.2 q hq k hk).1)
  have HV10 := Lib.hid (HV9.out.only ho10 (m := w4.heap.size) (M := w5.heap.size) HS2l.out.1 HS2l.out.2 (.inl ⟨fun k hk => (HV4l.out.1 k hk).2, fun q hq k hk => (HV4l.out.2 q hq k hk).2⟩))
  have HI10 := Lib.hid (HI9.out.only ho10 (m := w4.heap.size) (M := w5.heap.size) HS2l.out.1 HS2l.out.2 (.inr ⟨fun k hk => (HI6l.out.1 k hk).1, fun q hq k hk => (HI6l.out.2 q hq k hk).1⟩))
  have hs10 := ho10.2.2.2.1
  have hB10 : Below w.heap.size w w10 := hB9.trans (hb10.mono hB4.size)
  have HR10 := Lib.hid (Hr.out.kept5 hB10)
  clear hb10 ho10
  generalize 1 + ctot us2 = K at *
  go_wp2_with fail
  refine (eqClaimS zs ys Hzy.out _ _ _ _ _ HI10.out.rd HV10.out.rd (Nat.le_refl _) (Nat.le_refl _)).mono ?_
  rintro e w11 ⟨rfl, hb11⟩
  have HV11 := Lib.hid (HV10.out.below hb11)
  have HI11 := Lib.hid (HI10.out.below hb11)
  have hs11 := hb11.size
  have hB11 : Below w.heap.size w w11 := hB10.trans (hb11.mono hB10.size)
  have HR11 := Lib.hid (Hr.out.kept5 hB11)
  clear hb11
  go_wp2_with fail
  refine (markClaimS zs 1 (by have := Hcz.out; omega) _ _ _ _ HI11.out Hapz.out).mono ?_
  rintro e w12 ⟨rfl, hl12, ho12⟩
  have HI12 := Lib.hid hl12
  have hb12 : Below w5.heap.size w11 w12 := ho12.below (fun k hk => (HI6l.out.1 k hk).1) (fun q hq k hk => (HI6l.out.2 q hq k hk).1)
  have HV12 := Lib.hid (HV11.out.only ho12 (m := w5.heap.size) (M := w6.heap.size) HI6l.out.1 HI6l.out.2 (.inl ⟨fun k hk => by have := (HV4l.out.1 k hk).2; omega, fun q hq k hk => by have := (HV4l.out.2 q hq k hk).2; omega⟩))
  have hs12 := ho12.2.2.2.1
  have hB12 : Below w.heap.size w w12 := hB11.trans (hb12.mono hB5.size)
  have HR12 := Lib.hid (Hr.out.kept5 hB12)
  clear hb12 ho12 hl12
  have Hh12 := Lib.hid (fun W h => heldClaimS zs 1 (by have := Hcz.out; omega) w12.heap.size vi W h)
  generalize hM : 1 + ctot zs = M at *
  clear hM
  go_wp2_with fail
  refine (Hh12.out _ HI12.out.rd).mono ?_
  rintro e w13 ⟨rfl, rfl⟩
  go_wp2_with fail
  refine (toClaimS z1 hlq Hlm.out _ _ _ HR12.out (Nat.le_refl _)).mono ?_
  rintro e w14 ⟨v4, us4, rfl, he4, hst4, hb14⟩
  have HS4 := Lib.hid hst4
  have He4 := Lib.hid he4
  clear hst4 he4
  have HV14 := Lib.hid (HV12.out.below hb14)
  have Hrd14 := Lib.hid (HI12.out.rd.below (w' := w14) hb14.block)
  have hs14 := hb14.size
  have hB14 : Below w.heap.size w w14 := hB12.trans (hb14.mono hB12.size)
  clear hb14
  go_wp2_with fail
  refine (Hp.out us4 He4.out _ _ _ HS4.out.rd (Nat.le_refl _)).mono ?_
  rintro e w15 ⟨vh, hs15l, rfl, heh, hown15, _, hb15⟩
  have HV15 := Lib.hid (HV14.out.below hb15)
  have HH15 := Lib.hid hown15
  have Heh := Lib.hid (heh.trans Hey.out.symm)
  have Hrd15 := Lib.hid (Hrd14.out.below (w' := w15) (fun q hq => hb15.block q (by omega)))
  have hs15 := hb15.size
  have hB15 : Below w.heap.size w w15 := hB14.trans (hb15.mono hB14.size)
  clear hb15 hown15 heh
  go_wp2_with fail
  refine (eqClaimS hs15l ys Heh.out _ _ _ _ _ HH15.out.rd HV15.out.rd (Nat.le_refl _) (Nat.le_refl _)).mono ?_
  rintro e w16 ⟨rfl, hb16⟩
  have Hrd16 := Lib.hid (Hrd15.out.below (w' := w16) (fun q hq => hb16.block q (by omega)))
  have hB16 : Below w.heap.size w w16 := hB15.trans (hb16.mono hB15.size)
  clear hb16
  go_wp2_with fail
  refine (Hh12.out _ Hrd16.out).mono ?_
  rintro e w17 ⟨rfl, rfl⟩
  go_wp2
  go_ret
  exact ⟨rfl, hB16⟩

set_option maxRecDepth 100000 in
theorem lifted (os : Os) (started : os.Started) (H : Type) (enc : TypeId × Value → H) :
    ReturnsInHanded {} Try.checked os 13 .any (Rows.fnExactLeastStorySpec.pre6 enc Try.prog Try.f13 Rows.fnExactLeastStoryRow.domain false) (Rows.fnExactLeastStorySpec.post enc Try.prog Try.f13 false true false false) := by
  refine returnsInHanded_of_change (C := Try.checked) Try.own started (by kernel_rfl) Try.func13
    (ChangeSpec.witness6 (enc := enc) (C := Try.checked) false ⟨#[], #[.int .i64 0, .slice none 0 0], []⟩ 8 (by kernel_rfl) (by kernel_rfl) (by kernel_rfl) (by kernel_rfl)) ?_
  intro W base args ds gs before hval0 hW hcnd _
  have hval : ∀ (j : Nat) t v, Try.f13.params[j]? = some t → args[j]? = some v → Value.okWide Try.prog W .any base t v := hval0
  have hW' := hW
  obtain ⟨p, q, hA0, hV, rfl, hfz, hnd⟩ := hW
  have hA : DataW.TrodAll enc Try.prog W 0 (fun _ => true) true Try.f13.params.toList args.toList ds p := hA0
  rw [Try.params13] at hA hval
  obtain ⟨v0, vs0, d0, ds0, p0, q0, hargs, rfl, rfl, h0, r0⟩ := trodAll_cons hA
  obtain ⟨v1, vs1, d1, ds1, p1, q1, rfl, rfl, rfl, h1, r1⟩ := trodAll_cons r0
  obtain ⟨rfl, rfl, rfl⟩ := trodAll_nil r1
  obtain rfl : args = #[v0, v1] := by cases args; simp_all
  obtain ⟨rfl, rfl⟩ := trodVars_none hV
  obtain ⟨a0, rfl, rfl, rfl, w0⟩ := open_int Try.underlying3 (hval 0 3 v0 rfl rfl) h0
  obtain ⟨a1, len1, cap1, rfl⟩ := okWide_slice Try.underlying47 (hval 1 47 v1 rfl rfl)
  have k1 := h1
  have lt1 : ∀ x ∈ p1, x.block < W.heap.size := by obtain ⟨m, hm⟩ := k1; exact DataW.trod_lt m _ _ _ hm
  obtain ⟨z1, e1, w1⟩ : ∃ qs, len1 = qs.length ∧ RdStory W W.heap.size (.slice a1 len1 cap1) qs := by
    obtain ⟨fuel, hf⟩ := h1
    exact open_story Try.underlying47 Try.underlying70 (by kernel_rfl) rfl rfl (by kernel_rfl) (by kernel_rfl) Try.underlying3 Try.underlying68 Try.underlying95 (by kernel_rfl) rfl rfl (by kernel_rfl) (by kernel_rfl) Try.underlying3 Try.underlying3 hf
  clear hA0 hval0
  refine (walk a0 _ _ W w0 w1).mono fun e W' ⟨he, bel⟩ => ?_
  subst he
  exact ⟨_, rfl, _, _, _, [], _, [], hW', trodAll_mk1 (shut_bool Try.underlying4 _), (trodAll_cons_mk (shut_int Try.underlying3 w0) (trodAll_cons_mk (Below.trod Try.laidOut (by kernel_rfl) (of_decide_eq_true (by kernel_rfl)) k1 bel lt1) trodAll_mk0)), rfl, bel.frame _, fun h => by cases h⟩

theorem closed : joinedFacts Try.pinned.checked.prog 13 Try.f13 Rows.fnExactLeastStorySpec Rows.fnExactLeastStoryRow = true := by
  unfold joinedFacts
  exact (and_tt (and_tt (and_tt (and_tt (and_tt (and_tt (and_tt (and_tt (and_tt (and_tt (and_tt (and_tt (and_tt (and_tt (and_tt (and_tt (and_tt (and_tt (and_tt (and_tt (and_tt (and_tt (and_tt (and_tt (and_tt (and_tt (and_tt (and_tt (and_tt (and_tt (and_tt (by kernel_rfl) (by kernel_rfl)) (by kernel_rfl)) (by kernel_rfl)) (by kernel_rfl)) (by kernel_rfl)) (by kernel_rfl)) (by kernel_rfl)) (by kernel_rfl)) (by kernel_rfl)) (by kernel_rfl)) (by kernel_rfl)) (by kernel_rfl)) (by kernel_rfl)) (by kernel_rfl)) (by kernel_rfl)) (by kernel_rfl)) (by kernel_rfl)) (by kernel_rfl)) (by kernel_rfl)) (by kernel_rfl)) (by kernel_rfl)) (by kernel_rfl)) (by kernel_rfl)) (by kernel_rfl)) Try.mayEnter0) (lifted_tt Try.lifts0 rfl)) (make_tt Try.make0 rfl)) (by kernel_rfl)) (by kernel_rfl)) (by kernel_rfl)) (by kernel_rfl))
theorem over : Rows.fnExactLeastStoryRow.holds Try.pinned (OpenSpec.ofChange Rows.fnExactLeastStorySpec) :=
  OpenClaim.holds_of_wide 13 Try.f13 rfl rfl rfl rfl rfl rfl rfl ⟨rfl, rfl, rfl, rfl, rfl⟩ rfl rfl rfl rfl rfl (by kernel_rfl) Try.func13 closed
    (of_decide_eq_true (by kernel_rfl)) (by unfold Func.isWrapper; first | (rw [if_pos (by decide +kernel)]; kernel_rfl) | (rw [if_neg (by decide +kernel)]; exact ⟨rfl, rfl⟩))
    (fun os started H enc _ => lifted os started H enc)

theorem proved : Rows.FnExactLeastStorySaid := over
end Go.Proofs.Ytncihjelpaiocaa.fnExactLeastStory

