/- A law of stage 5: least stories tell the same, and need all. It answers true, whatever the code. No condition. -/
import Derived.Test.YtncihjelpaiocaaDrawV
import Derived.Test.YtncihjelpaiocaaOneI
import Derived.Test.YtncihjelpaiocaaClaimI
import Derived.Test.YtncihjelpaiocaaOneU
import Derived.Test.YtncihjelpaiocaaClaimF
import Derived.Test.YtncihjelpaiocaaLawsA
import Derived.Deep.RegionHeld3
import Derived.Deep.Cut
namespace Go.Proofs.Ytncihjelpaiocaa.fnLeastStory
open Go.ChangeShapes Go.WideShapes Go.ChangeAt Go.RowKit Go.Joins
attribute [local irreducible] holds tabN tabV holdsV sameV followsV alwaysV matterV mirV mirOk mcells tmOf claimOk mayT mayV ctabV ctabN storyV storyOk storyN storyT ctermV ctermL denyV denyOk ccells clashV onlyOk onlyN knownF knownL knownK cntK swl needB needF needL leastR leastV woL
open Go.ChangeMaps (open_string shut_string)
set_option linter.unusedVariables false
set_option maxRecDepth 100000 in
set_option maxHeartbeats 4000000 in
theorem walk (a0 : Value) (n0 : Nat) (w : World) (w0 : RdBytes w w.heap.size a0 n0) :
    Calls Try.prog 7 #[a0] w fun e w' => e = .returned (.bool true) ∧ Below w.heap.size w w' := by
  have hr := w0
  by_cases hbig : n0 ≤ 1048576
  case neg =>
    obtain ⟨ao, cap, rfl, hl, hm, hc⟩ := w0
    have hbig' := code_big hbig
    unfold maxLen at hm
    clear hc hr hbig
    go_enter Try.func7, Try.ntmps7
    go_wp2
    go_ret
    exact ⟨rfl, Below.refl _ _⟩
  have hbig' : (n0 : Int) ≤ 1048576 := by omega
  clear hbig
  obtain ⟨ao, cap, rfl, hl, hm, hc⟩ := w0
  have Hr := Lib.hid hr
  clear hc hr hl hm
  go_enter Try.func7, Try.ntmps7
  go_wp2_with fail
  refine (drawLeastStory _ _ _ Hr.out).mono ?_
  rintro e w1 ⟨p, v, qs, hp4', hp8, rfl, hst, hqs, hq7, hB1⟩
  have HS1 := Lib.hid hst
  obtain ⟨vo, vc, hvf⟩ := own_len hst.1
  subst hvf
  have hvc : qs.length ≤ vc := by
    rcases hst.1.2 with ⟨h0, hz⟩ | ⟨g', cap', cur, h0, _, _, h1, _⟩
    · injection h0 with _ h2 h3; omega
    · injection h0 with _ h2 h3; omega
  clear hst
  have HQ_1 := HS1
  have Hil := Lib.hid (fun B u W h h2 => implLeast p qs B u W h h2)
  have Hsl := Lib.hid (fun B u W h h2 => specLeast p qs B u W h h2)
  have Hio := Lib.hid (fun B u W h h2 => implStoryOk p qs B u W h h2)
  have Hit := Lib.hid (fun B u W h h2 => implStoryTable p qs B u W h h2)
  cases hok : storyOk p (qs.map (·.2)) with
  | false =>
    rw [hok] at Hil Hsl Hio
    rw [leastV_no hok] at Hil Hsl
    clear hok hvc Hit
    go_wp2_with fail
    refine (Hil.out _ _ _ HQ_1.out.rd (Nat.le_refl _)).mono ?_
    rintro e w2 ⟨u2, zs, rfl, hez, hstz, _, hb2⟩
    have HZ_2 := Lib.hid hstz
    have EZ := Lib.hid hez
    obtain ⟨aZ, cZ, hvZ⟩ := own_len hstz.1
    subst hvZ
    clear hstz hez
    have HQ_2 := Lib.hid (HQ_1.out.below hb2)
    have hs2 := hb2.size
    have hB2 : Below w.heap.size w w2 := hB1.trans (hb2.mono hB1.size)
    clear hb2
    go_wp2_with fail
    refine (Hsl.out _ _ _ HQ_2.out.rd (Nat.le_refl _)).mono ?_
    rintro e w3 ⟨u3, ys, rfl, hey, hsty, hb3⟩
    have HY_3 := Lib.hid hsty
    have EY := Lib.hid hey
    obtain ⟨aY, cY, hvY⟩ := own_len hsty.1
    subst hvY
    clear hsty hey
    have HQ_3 := Lib.hid (HQ_2.out.below hb3)
    have HZ_3 := Lib.hid (HZ_2.out.below hb3)
    have hs3 := hb3.size
    have hB3 : Below w.heap.size w w3 := hB2.trans (hb3.mono hB2.size)
    clear hb3
    go_wp2_with fail
    refine (sameStory zs ys (EZ.out.trans EY.out.symm) _ _ _ _ _ HZ_3.out.rd HY_3.out.rd (Nat.le_refl _) (Nat.le_refl _)).mono ?_
    rintro e w4 ⟨rfl, hb4⟩
    have HQ_4 := Lib.hid (HQ_3.out.below hb4)
    have hs4 := hb4.size
    have hB4 : Below w.heap.size w w4 := hB3.trans (hb4.mono hB3.size)
    clear hb4
    have hz0 : zs.length = 0 := by
      have := congrArg List.length EZ.out
      simpa using this
    rw [hz0]
    go_wp2_with fail
    refine (Hio.out _ _ _ HQ_4.out.rd (Nat.le_refl _)).mono ?_
    rintro e w5 ⟨rfl, hb5⟩
    have hs5 := hb5.size
    have hB5 : Below w.heap.size w w5 := hB4.trans (hb5.mono hB4.size)
    clear hb5
    go_wp2_with fail
    refine (alive _).mono ?_
    rintro e w' ⟨rfl, rfl⟩
    go_wp2
    go_ret
    exact ⟨rfl, hB5⟩
  | true =>
  obtain ⟨hl1, hl2, hl3, hl4⟩ := least_all hok
  rw [hok] at Hil Hsl
  rw [storyV_yes hok] at Hit
  have Hl1 := Lib.hid hl1
  have Hl3 := Lib.hid hl3
  have Hl4 := Lib.hid hl4
  have Hl2 := Lib.hid hl2
  clear hl1 hl2 hl3 hl4 hok hvc Hio
  generalize leastV p (qs.map (·.2)) = LL at *
  generalize storyN p (qs.map (·.2)) = T at *
  go_wp2_with fail
  refine (Hil.out _ _ _ HQ_1.out.rd (Nat.le_refl _)).mono ?_
  rintro e w2 ⟨u2, zs, rfl, hez, hstz, _, hb2⟩
  have HZ_2 := Lib.hid hstz
  have EZ := Lib.hid hez
  obtain ⟨aZ, cZ, hvZ⟩ := own_len hstz.1
  subst hvZ
  clear hstz hez
  have HQ_2 := Lib.hid (HQ_1.out.below hb2)
  have hs2 := hb2.size
  have hB2 : Below w.heap.size w w2 := hB1.trans (hb2.mono hB1.size)
  clear hb2
  go_wp2_with fail
  refine (Hsl.out _ _ _ HQ_2.out.rd (Nat.le_refl _)).mono ?_
  rintro e w3 ⟨u3, ys, rfl, hey, hsty, hb3⟩
  have HY_3 := Lib.hid hsty
  have EY := Lib.hid hey
  obtain ⟨aY, cY, hvY⟩ := own_len hsty.1
  subst hvY
  clear hsty hey
  have HQ_3 := Lib.hid (HQ_2.out.below hb3)
  have HZ_3 := Lib.hid (HZ_2.out.below hb3)
  have hs3 := hb3.size
  have hB3 : Below w.heap.size w w3 := hB2.trans (hb3.mono hB2.size)
  clear hb3
  have Hil2 := Lib.hid (fun B u W h h2 => implLeast p zs B u W h h2)
  have Hiz := Lib.hid (fun B u W h h2 => implStoryTable p zs B u W h h2)
  have Hnz := Lib.hid (fun B u W h h2 => implNeedless p zs B u W h h2)
  rw [EZ.out, Hl1.out, Hl4.out] at Hil2
  rw [EZ.out, storyV_yes Hl1.out, Hl2.out] at Hiz
  rw [EZ.out, Hl3.out] at Hnz
  go_wp2_with fail
  refine (sameStory zs ys (EZ.out.trans EY.out.symm) _ _ _ _ _ HZ_3.out.rd HY_3.out.rd (Nat.le_refl _) (Nat.le_refl _)).mono ?_
  rintro e w4 ⟨rfl, hb4⟩
  have HQ_4 := Lib.hid (HQ_3.out.below hb4)
  have HZ_4 := Lib.hid (HZ_3.out.below hb4)
  have hs4 := hb4.size
  have hB4 : Below w.heap.size w w4 := hB3.trans (hb4.mono hB3.size)
  clear hb4
  go_wp2_with fail
  refine (Hil2.out _ _ _ HZ_4.out.rd (Nat.le_refl _)).mono ?_
  rintro e w5 ⟨u5, xs, rfl, hex, hstx, _, hb5⟩
  have HX_5 := Lib.hid hstx
  have EX := Lib.hid hex
  obtain ⟨aX, cX, hvX⟩ := own_len hstx.1
  subst hvX
  clear hstx hex
  have HQ_5 := Lib.hid (HQ_4.out.below hb5)
  have HZ_5 := Lib.hid (HZ_4.out.below hb5)
  have hs5 := hb5.size
  have hB5 : Below w.heap.size w w5 := hB4.trans (hb5.mono hB4.size)
  clear hb5
  go_wp2_with fail
  refine (Hiz.out _ _ _ HZ_5.out.rd (Nat.le_refl _)).mono ?_
  rintro e w6 ⟨rfl, hb6⟩
  have HQ_6 := Lib.hid (HQ_5.out.below hb6)
  have HZ_6 := Lib.hid (HZ_5.out.below hb6)
  have HX_6 := Lib.hid (HX_5.out.below hb6)
  have hs6 := hb6.size
  have hB6 : Below w.heap.size w w6 := hB5.trans (hb6.mono hB5.size)
  clear hb6
  go_wp2_with fail
  refine (Hit.out _ _ _ HQ_6.out.rd (Nat.le_refl _)).mono ?_
  rintro e w7 ⟨rfl, hb7⟩
  have HZ_7 := Lib.hid (HZ_6.out.below hb7)
  have HX_7 := Lib.hid (HX_6.out.below hb7)
  have hs7 := hb7.size
  have hB7 : Below w.heap.size w w7 := hB6.trans (hb7.mono hB6.size)
  clear hb7
  go_wp2_with fail
  refine (Hnz.out _ _ _ HZ_7.out.rd (Nat.le_refl _)).mono ?_
  rintro e w8 ⟨un, rfl, hown, hb8⟩
  obtain ⟨an, cn, hvn⟩ := own_len hown
  subst hvn
  clear hown
  have HZ_8 := Lib.hid (HZ_7.out.below hb8)
  have HX_8 := Lib.hid (HX_7.out.below hb8)
  have hs8 := hb8.size
  have hB8 : Below w.heap.size w w8 := hB7.trans (hb8.mono hB7.size)
  clear hb8
  go_wp2_with fail
  refine (sameStory xs zs (EX.out.trans EZ.out.symm) _ _ _ _ _ HX_8.out.rd HZ_8.out.rd (Nat.le_refl _) (Nat.le_refl _)).mono ?_
  rintro e w9 ⟨rfl, hb9⟩
  have HZ_9 := Lib.hid (HZ_8.out.below hb9)
  have hs9 := hb9.size
  have hB9 : Below w.heap.size w w9 := hB8.trans (hb9.mono hB8.size)
  clear hb9
  go_wp2_with fail
  refine (Hiz.out _ _ _ HZ_9.out.rd (Nat.le_refl _)).mono ?_
  rintro e w10 ⟨rfl, hb10⟩
  have hs10 := hb10.size
  have hB10 : Below w.heap.size w w10 := hB9.trans (hb10.mono hB9.size)
  clear hb10
  go_wp2
  go_ret
  exact ⟨rfl, hB10⟩

set_option maxRecDepth 100000 in
theorem lifted (os : Os) (started : os.Started) (H : Type) (enc : TypeId × Value → H) :
    ReturnsInHanded {} Try.checked os 7 .any (Rows.fnLeastStorySpec.pre6 enc Try.prog Try.f7 Rows.fnLeastStoryRow.domain false) (Rows.fnLeastStorySpec.post enc Try.prog Try.f7 false true false false) := by
  refine returnsInHanded_of_change (C := Try.checked) Try.own started (by kernel_rfl) Try.func7
    (ChangeSpec.witness6 (enc := enc) (C := Try.checked) false ⟨#[], #[.slice none 0 0], []⟩ 8 (by kernel_rfl) (by kernel_rfl) (by kernel_rfl) (by kernel_rfl)) ?_
  intro W base args ds gs before hval0 hW hcnd _
  have hval : ∀ (j : Nat) t v, Try.f7.params[j]? = some t → args[j]? = some v → Value.okWide Try.prog W .any base t v := hval0
  have hW' := hW
  obtain ⟨p, q, hA0, hV, rfl, hfz, hnd⟩ := hW
  have hA : DataW.TrodAll enc Try.prog W 0 (fun _ => true) true Try.f7.params.toList args.toList ds p := hA0
  rw [Try.params7] at hA hval
  obtain ⟨v0, vs0, d0, ds0, p0, q0, hargs, rfl, rfl, h0, r0⟩ := trodAll_cons hA
  obtain ⟨rfl, rfl, rfl⟩ := trodAll_nil r0
  obtain rfl : args = #[v0] := by cases args; simp_all
  obtain ⟨rfl, rfl⟩ := trodVars_none hV
  obtain ⟨a0, len0, cap0, rfl⟩ := okWide_slice Try.underlying22 (hval 0 22 v0 rfl rfl)
  have k0 := h0
  have lt0 : ∀ x ∈ p0, x.block < W.heap.size := by obtain ⟨m, hm⟩ := k0; exact DataW.trod_lt m _ _ _ hm
  obtain ⟨z0, w0⟩ : ∃ zs, IsRow .u8 W a0 len0 cap0 zs := by
    obtain ⟨fuel, hf⟩ := h0
    rcases open_ints Try.underlying22 Try.underlying5 (by kernel_rfl) hf with ⟨hcs, _⟩ | ⟨x, l, c, zs, hcs, _, hl, hm, hz, _, hcell, hwz⟩
    · simp [Value.cells] at hcs
      obtain ⟨rfl, rfl, rfl⟩ := hcs
      exact ⟨[], .inl ⟨rfl, rfl, rfl, rfl⟩⟩
    · simp [Value.cells] at hcs
      obtain ⟨rfl, rfl, rfl⟩ := hcs
      exact ⟨zs, .inr ⟨_, rfl, hl, hm, by simpa using hz, hcell, hwz⟩⟩
  clear hA0 hval0
  refine (walk _ _ W (RdBytes.of_row w0)).mono fun e W' ⟨he, bel⟩ => ?_
  subst he
  exact ⟨_, rfl, _, _, _, [], _, [], hW', trodAll_mk1 (shut_bool Try.underlying4 _), (trodAll_cons_mk (Below.trod Try.laidOut (by kernel_rfl) (of_decide_eq_true (by kernel_rfl)) k0 bel lt0) trodAll_mk0), rfl, bel.frame _, fun h => by cases h⟩

theorem closed : joinedFacts Try.pinned.checked.prog 7 Try.f7 Rows.fnLeastStorySpec Rows.fnLeastStoryRow = true := by
  unfold joinedFacts
  exact (and_tt (and_tt (and_tt (and_tt (and_tt (and_tt (and_tt (and_tt (and_tt (and_tt (and_tt (and_tt (and_tt (and_tt (and_tt (and_tt (and_tt (and_tt (and_tt (and_tt (and_tt (and_tt (and_tt (and_tt (and_tt (and_tt (and_tt (and_tt (and_tt (and_tt (and_tt (by kernel_rfl) (by kernel_rfl)) (by kernel_rfl)) (by kernel_rfl)) (by kernel_rfl)) (by kernel_rfl)) (by kernel_rfl)) (by kernel_rfl)) (by kernel_rfl)) (by kernel_rfl)) (by kernel_rfl)) (by kernel_rfl)) (by kernel_rfl)) (by kernel_rfl)) (by kernel_rfl)) (by kernel_rfl)) (by kernel_rfl)) (by kernel_rfl)) (by kernel_rfl)) (by kernel_rfl)) (by kernel_rfl)) (by kernel_rfl)) (by kernel_rfl)) (by kernel_rfl)) (by kernel_rfl)) Try.mayEnter0) (lifted_tt Try.lifts0 rfl)) (make_tt Try.make0 rfl)) (by kernel_rfl)) (by kernel_rfl)) (by kernel_rfl)) (by kernel_rfl))
theorem over : Rows.fnLeastStoryRow.holds Try.pinned (OpenSpec.ofChange Rows.fnLeastStorySpec) :=
  OpenClaim.holds_of_wide 7 Try.f7 rfl rfl rfl rfl rfl rfl rfl ⟨rfl, rfl, rfl, rfl, rfl⟩ rfl rfl rfl rfl rfl (by kernel_rfl) Try.func7 closed
    (of_decide_eq_true (by kernel_rfl)) (by unfold Func.isWrapper; first | (rw [if_pos (by decide +kernel)]; kernel_rfl) | (rw [if_neg (by decide +kernel)]; exact ⟨rfl, rfl⟩))
    (fun os started H enc _ => lifted os started H enc)

theorem proved : Rows.FnLeastStorySaid := over
end Go.Proofs.Ytncihjelpaiocaa.fnLeastStory

