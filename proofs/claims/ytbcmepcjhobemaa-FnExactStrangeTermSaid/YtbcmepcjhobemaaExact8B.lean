/- Exact law of stage 8: strange questions, in memory of their own. No condition. -/
import Derived.Test.YtbcmepcjhobemaaMarksH
import Derived.Test.YtbcmepcjhobemaaStrI
import Derived.Test.YtbcmepcjhobemaaFrameM
namespace Go.Proofs.Ytbcmepcjhobemaa
open Go.RowKit
theorem str_len8 (p k : Int) (ms : List (Int × Int)) : (strV p k ms).length ≤ 15 := by
  unfold strV
  cases h : strOk p k ms with
  | false => rw [if_neg (by simp)]; simp
  | true =>
    rw [if_pos rfl]
    exact (termOk_iff.1 (str_parts h).2.2.1).2.1
theorem I64s_strV8 {p k : Int} {ms : List (Int × Int)} (hi : I64s ms) : I64s (strV p k ms) := by
  unfold strV
  cases h : strOk p k ms with
  | false => rw [if_neg (by simp)]; intro m hm; simp at hm
  | true =>
    rw [if_pos rfl]
    obtain ⟨h1, h2, h3, h4⟩ := l8V_iff.1 (str_parts h).1
    exact I64s_str8 (I64_small (by omega) (by omega)) (I64_small (by omega) (by omega)) hi
end Go.Proofs.Ytbcmepcjhobemaa
namespace Go.Proofs.Ytbcmepcjhobemaa.fnExactStrangeTerm
open Go.ChangeShapes Go.WideShapes Go.ChangeAt Go.RowKit
attribute [local irreducible] lay claimOk ctermV ctermL strV strOk strL mcells
open Go.ChangeMaps (open_string shut_string)
set_option linter.unusedVariables false
set_option maxRecDepth 100000 in
set_option maxHeartbeats 4000000 in
theorem walk (a0 : Int) (a1 : Int) (a2 : Value) (z2 : List (Int × Int)) (w : World) (w0 : (Lit.int .i64 a0).wf = true) (w1 : (Lit.int .i64 a1).wf = true) (w2 : RdMarks w w.heap.size a2 z2) :
    Calls Try.prog 8 #[.int .i64 a0, .int .i64 a1, a2] w fun e w' => e = .returned (.bool true) ∧ Below w.heap.size w w' := by
  have WF := w1
  obtain ⟨ao, cap, rfl, hl, hm, hi, hc⟩ := w2
  by_cases hlen : 1048576 < z2.length
  · unfold maxLen at hm
    have hm' : (z2.length : Int) ≤ 9223372036854775807 := by omega
    have hsz : Hid ((if z2.length ≤ 1048576 then 1048576 - (z2.length : Int) else -1) = -1) := by unfold Hid; rw [if_neg (by omega)]
    clear hc hi
    go_enter Try.func8, Try.ntmps8
    go_wp2_with fail
    refine (szMarkS _ _ _ hm' _).mono ?_
    rintro e w' ⟨rfl, rfl⟩
    rw [hsz.out]
    go_wp2
    go_ret
    exact ⟨rfl, Below.refl _ _⟩
  · have hr : RdMarks w w.heap.size (.slice ao z2.length cap) z2 := ⟨ao, cap, rfl, hl, hm, hi, hc⟩
    have hm' : (z2.length : Int) ≤ 9223372036854775807 := by omega
    have hlen2 : z2.length ≤ 1048576 := by omega
    have hsz : Hid ((if z2.length ≤ 1048576 then 1048576 - (z2.length : Int) else -1) = 1048576 - (z2.length : Int)) := by unfold Hid; rw [if_pos hlen2]
    have hlen3 : (z2.length : Int) ≤ 1048576 := by omega
    have Hi := Lib.hid hi
    have Hr := Lib.hid hr
    clear hlen hc hr hl hm hi
    go_enter Try.func8, Try.ntmps8
    go_wp2_with fail
    refine (szMarkS _ _ _ hm' _).mono ?_
    rintro e w' ⟨rfl, rfl⟩
    rw [hsz.out]
    go_wp2_with fail
    refine (toMarkS z2 hlen2 _ _ _ Hr.out (Nat.le_refl _)).mono ?_
    rintro e w1 ⟨v1, rfl, hown1, hb1⟩
    have Hown1 := Lib.hid hown1; clear hown1
    have hxl := str_len8 a0 a1 z2
    have hxi := I64s_strV8 (p := a0) (k := a1) Hi.out
    go_wp2_with fail
    refine (specStrangeTerm a0 a1 z2 (I64_of_wf WF) (by omega) _ _ _ (RdMarks.of_own Hown1.out Hi.out) (Nat.le_refl _)).mono ?_
    rintro e w2 ⟨vw, rfl, hownw, hb2⟩
    have hB2 : Below w.heap.size w w2 := hb1.trans (hb2.mono hb1.size)
    have Hr2 := Lib.hid (Hr.out.kept hB2)
    have Hwlo : Hid (∀ k, vw.ownBlock = some k → k < w2.heap.size) := fun k hk => (hownw.lt k hk).2
    go_wp2_with fail
    refine (toMarkS z2 hlen2 _ _ _ Hr2.out (Nat.le_refl _)).mono ?_
    rintro e w3 ⟨v3, rfl, hown3, hb3⟩
    have hB3 : Below w.heap.size w w3 := hB2.trans (hb3.mono hB2.size)
    have Hr3 := Lib.hid (Hr2.out.kept hb3)
    have hownw3 := own_below hownw hb3
    have hs23 := hb3.size
    have H3 : Hid (∀ k, v3.ownBlock = some k → w2.heap.size ≤ k ∧ k < w3.heap.size) := hown3.lt
    have Hown3 := Lib.hid hown3
    clear hownw hb2 hb3 hown3
    go_wp2_with fail
    refine (implStrangeTerm a0 a1 z2 (I64_of_wf WF) (by omega) _ _ _ (RdMarks.of_own Hown3.out Hi.out) (Nat.le_refl _)).mono ?_
    rintro e w4 ⟨vg, rfl, howng, hb4⟩
    have hB4 : Below w.heap.size w w4 := hB3.trans (hb4.mono hB3.size)
    have Hr4 := Lib.hid (Hr3.out.kept hb4)
    have hownw4 := own_below hownw3 hb4
    have hown34 := own_below Hown3.out hb4
    have Hglo : Hid (∀ k, vg.ownBlock = some k → w3.heap.size ≤ k) := fun k hk => (howng.lt k hk).1
    have Hxs : Hid (strV a0 a1 z2 = strV a0 a1 z2) := rfl
    generalize hxs : strV a0 a1 z2 = xs at *
    clear Hxs
    have Hxs := Lib.hid hxs; clear hxs
    have Hxi := Lib.hid hxi; clear hxi
    have Hownw4 := Lib.hid hownw4
    have Howng4 := Lib.hid howng
    have Hown34 := Lib.hid hown34
    clear hb4 hownw3 hownw4 howng hown34 Hown3 Hr2 Hr3 Hown1
    go_wp2_with fail
    refine (eqMarkS xs xs _ _ _ _ _ (RdMarks.of_own Howng4.out Hxi.out) (RdMarks.of_own Hownw4.out Hxi.out) (Nat.le_refl _) (Nat.le_refl _)).mono ?_
    rintro e w5 ⟨rfl, hb5⟩
    rw [show decide (xs = xs) = true from by simp]
    have hB5 : Below w.heap.size w w5 := hB4.trans (hb5.mono hB4.size)
    have Hr5 := Lib.hid (Hr4.out.kept hb5)
    have Hownw5 := Lib.hid (own_below Hownw4.out hb5)
    have Howng5 := Lib.hid (own_below Howng4.out hb5)
    have Hown35 := Lib.hid (own_below Hown34.out hb5)
    clear hb5 Hr4 Hownw4 Howng4 Hown34
    go_wp2_with fail
    refine (toMarkS z2 hlen2 _ _ _ Hr5.out (Nat.le_refl _)).mono ?_
    rintro e w6 ⟨v6, rfl, hown6, hb6⟩
    have hB6 : Below w.heap.size w w6 := hB5.trans (hb6.mono hB5.size)
    have Hr6 := Lib.hid (Hr5.out.kept hb6)
    have Hown6 := Lib.hid hown6
    have Hownw6 := Lib.hid (own_below Hownw5.out hb6)
    have Howng6 := Lib.hid (own_below Howng5.out hb6)
    have Hown36 := Lib.hid (own_below Hown35.out hb6)
    clear hb6 hown6 Hr5 Hownw5 Howng5 Hown35
    go_wp2_with fail
    refine (eqMarkS z2 z2 _ _ _ _ _ (RdMarks.of_own Hown36.out Hi.out) (RdMarks.of_own Hown6.out Hi.out) (Nat.le_refl _) (Nat.le_refl _)).mono ?_
    rintro e w7 ⟨rfl, hb7⟩
    rw [show decide (z2 = z2) = true from by simp]
    have hB7 : Below w.heap.size w w7 := hB6.trans (hb7.mono hB6.size)
    have Hr7 := Lib.hid (Hr6.out.kept hb7)
    have Hownw7 := Lib.hid (own_below Hownw6.out hb7)
    have Howng7 := Lib.hid (own_below Howng6.out hb7)
    have Hown37 := Lib.hid (own_below Hown36.out hb7)
    clear hb7 Hr6 Hown6 Hownw6 Howng6 Hown36
    go_wp2_with fail
    refine (markMarkS z2 1 (by omega) _ _ _ Hown37.out).mono ?_
    rintro e w8 ⟨rfl, hown8, hg8⟩
    have hs2 := hB2.size
    have hB8 : Below w.heap.size w w8 := hB7.grown hg8 hB7.size (fun k hk => by have := (H3.out k hk).1; omega)
    have Hr8 : Hid (RdMarks w8 w8.heap.size (.slice ao z2.length cap) z2) := (Hr.out.kept hB8)
    have Hownw8 := Lib.hid (Hownw7.out.kept hg8 (own_apart (fun k hk => Hwlo.out k hk) (fun k hk => (H3.out k hk).1)))
    have Howng8 := Lib.hid (Howng7.out.kept hg8 (own_apart' (fun k hk => Hglo.out k hk) (fun k hk => (H3.out k hk).2)))
    clear hg8 hown8 Hr7 Hownw7 Howng7 Hown37
    have hk8 : (0 : Int) ≤ ((1 + z2.length * 2 : Nat) : Int) := by omega
    generalize 1 + z2.length * 2 = K at *
    go_wp2_with fail
    refine (eqMarkS xs xs _ _ _ _ _ (RdMarks.of_own Howng8.out Hxi.out) (RdMarks.of_own Hownw8.out Hxi.out) (Nat.le_refl _) (Nat.le_refl _)).mono ?_
    rintro e w9 ⟨rfl, hb9⟩
    rw [show decide (xs = xs) = true from by simp]
    have hB9 : Below w.heap.size w w9 := hB8.trans (hb9.mono hB8.size)
    have Hr9 := Lib.hid (Hr8.out.kept hb9)
    have Hownw9 := Lib.hid (own_below Hownw8.out hb9)
    have Howng9 := Lib.hid (own_below Howng8.out hb9)
    clear hb9 Hr8 Hownw8 Howng8
    go_wp2_with fail
    refine (markMarkS xs 1 (by omega) _ _ _ Howng9.out).mono ?_
    rintro e w10 ⟨rfl, hown10, hg10⟩
    have hs3 := hB3.size
    have hB10 : Below w.heap.size w w10 := hB9.grown hg10 hB9.size (fun k hk => by have := Hglo.out k hk; omega)
    have Hr10 : Hid (RdMarks w10 w10.heap.size (.slice ao z2.length cap) z2) := (Hr.out.kept hB10)
    have Hownw10 := Lib.hid (Hownw9.out.kept hg10 (own_apart (fun k hk => Nat.lt_of_lt_of_le (Hwlo.out k hk) hs23) (fun k hk => Hglo.out k hk)))
    generalize hn : xs.length = n at *
    have Hn := Lib.hid hn; clear hn
    have Hrd10 : Hid (RdMarks w10 w10.heap.size vg (lay 1 n)) := RdMarks.of_own (by rw [lay_length]; exact hown10) (lay_I64 (by omega))
    clear hg10 hown10 Hr9 Hownw9 Howng9
    have hm10 : (0 : Int) ≤ ((1 + n * 2 : Nat) : Int) := by omega
    generalize hM : 1 + n * 2 = M at *
    have HM := Lib.hid hM; clear hM
    go_wp2_with fail
    refine (heldMarkS n 1 (by omega) _ _ _ Hrd10.out).mono ?_
    rintro e w10' ⟨rfl, rfl⟩
    rw [HM.out]
    go_wp2_with fail
    refine (toMarkS z2 hlen2 _ _ _ Hr10.out (Nat.le_refl _)).mono ?_
    rintro e w11 ⟨v11, rfl, hown11, hb11⟩
    have hB11 : Below w.heap.size w w11 := hB10.trans (hb11.mono hB10.size)
    have Hown11 := Lib.hid hown11
    have Hownw11 := Lib.hid (own_below Hownw10.out hb11)
    have Hrd11 := Lib.hid (Hrd10.out.kept hb11)
    clear hb11 hown11 Hownw10 Hrd10 Hr10
    go_wp2_with fail
    refine (implStrangeTerm a0 a1 z2 (I64_of_wf WF) (by omega) _ _ _ (RdMarks.of_own Hown11.out Hi.out) (Nat.le_refl _)).mono ?_
    rintro e w12 ⟨vh, rfl, hownh, hb12⟩
    rw [Hxs.out, Hn.out] at hownh
    have hB12 : Below w.heap.size w w12 := hB11.trans (hb12.mono hB11.size)
    have Hownh : Hid (w12.ownsRow w11.heap.size TM 2 vh xs.length (mcells xs)) := by unfold Hid; rw [Hn.out]; exact hownh
    have Hownw12 : Hid (w12.ownsRow w1.heap.size TM 2 vw xs.length (mcells xs)) := by unfold Hid; rw [Hn.out]; exact own_below Hownw11.out hb12
    have Hrd12 := Lib.hid (Hrd11.out.kept hb12)
    clear hb12 hownh Hownw11 Hrd11 Hown11
    go_wp2_with fail
    refine (eqMarkS xs xs _ _ _ _ _ (RdMarks.of_own Hownh.out Hxi.out) (RdMarks.of_own Hownw12.out Hxi.out) (Nat.le_refl _) (Nat.le_refl _)).mono ?_
    rintro e w13 ⟨rfl, hb13⟩
    rw [show decide (xs = xs) = true from by simp]
    have hB13 : Below w.heap.size w w13 := hB12.trans (hb13.mono hB12.size)
    have Hrd13 := Lib.hid (Hrd12.out.kept hb13)
    clear hb13 Hrd12 Hownh Hownw12
    go_wp2_with fail
    refine (heldMarkS n 1 (by omega) _ _ _ Hrd13.out).mono ?_
    rintro e w14 ⟨rfl, rfl⟩
    rw [HM.out]
    go_wp2
    go_ret
    exact ⟨rfl, hB13⟩

set_option maxRecDepth 100000 in
theorem lifted (os : Os) (started : os.Started) (H : Type) (enc : TypeId × Value → H) :
    ReturnsInHanded {} Try.checked os 8 .any (Rows.fnExactStrangeTermSpec.pre6 enc Try.prog Try.f8 Rows.fnExactStrangeTermRow.domain false) (Rows.fnExactStrangeTermSpec.post enc Try.prog Try.f8 false true false false) := by
  refine returnsInHanded_of_change (C := Try.checked) Try.own started (by kernel_rfl) Try.func8
    (ChangeSpec.witness6 (enc := enc) (C := Try.checked) false ⟨#[], #[.int .i64 0, .int .i64 0, .slice none 0 0], []⟩ 8 (by kernel_rfl) (by kernel_rfl) (by kernel_rfl) (by kernel_rfl)) ?_
  intro W base args ds gs before hval0 hW hcnd _
  have hval : ∀ (j : Nat) t v, Try.f8.params[j]? = some t → args[j]? = some v → Value.okWide Try.prog W .any base t v := hval0
  have hW' := hW
  obtain ⟨p, q, hA0, hV, rfl, hfz, hnd⟩ := hW
  have hA : DataW.TrodAll enc Try.prog W 0 (fun _ => true) true Try.f8.params.toList args.toList ds p := hA0
  rw [Try.params8] at hA hval
  obtain ⟨v0, vs0, d0, ds0, p0, q0, hargs, rfl, rfl, h0, r0⟩ := trodAll_cons hA
  obtain ⟨v1, vs1, d1, ds1, p1, q1, rfl, rfl, rfl, h1, r1⟩ := trodAll_cons r0
  obtain ⟨v2, vs2, d2, ds2, p2, q2, rfl, rfl, rfl, h2, r2⟩ := trodAll_cons r1
  obtain ⟨rfl, rfl, rfl⟩ := trodAll_nil r2
  obtain rfl : args = #[v0, v1, v2] := by cases args; simp_all
  obtain ⟨rfl, rfl⟩ := trodVars_none hV
  obtain ⟨a0, rfl, rfl, rfl, w0⟩ := open_int Try.underlying3 (hval 0 3 v0 rfl rfl) h0
  obtain ⟨a1, rfl, rfl, rfl, w1⟩ := open_int Try.underlying3 (hval 1 3 v1 rfl rfl) h1
  obtain ⟨a2, len2, cap2, rfl⟩ := okWide_slice Try.underlying39 (hval 2 39 v2 rfl rfl)
  have k2 := h2
  have lt2 : ∀ x ∈ p2, x.block < W.heap.size := by obtain ⟨m, hm⟩ := k2; exact DataW.trod_lt m _ _ _ hm
  obtain ⟨z2, w2⟩ : ∃ zs, IsMarks W a2 len2 cap2 zs := by
    obtain ⟨fuel, hf⟩ := h2
    exact open_marks Try.underlying39 Try.underlying62 (by kernel_rfl) rfl rfl (by kernel_rfl) (by kernel_rfl) Try.underlying3 Try.underlying3 hf
  clear hA0 hval0
  refine (walk a0 a1 _ _ W w0 w1 (RdMarks.of_row w2)).mono fun e W' ⟨he, bel⟩ => ?_
  subst he
  exact ⟨_, rfl, _, _, _, [], _, [], hW', trodAll_mk1 (shut_bool Try.underlying4 _), (trodAll_cons_mk (shut_int Try.underlying3 w0) (trodAll_cons_mk (shut_int Try.underlying3 w1) (trodAll_cons_mk (Below.trod Try.laidOut (by kernel_rfl) (of_decide_eq_true (by kernel_rfl)) k2 bel lt2) trodAll_mk0))), rfl, bel.frame _, fun h => by cases h⟩

theorem closed : joinedFacts Try.pinned.checked.prog 8 Try.f8 Rows.fnExactStrangeTermSpec Rows.fnExactStrangeTermRow = true := by
  unfold joinedFacts
  exact (and_tt (and_tt (and_tt (and_tt (and_tt (and_tt (and_tt (and_tt (and_tt (and_tt (and_tt (and_tt (and_tt (and_tt (and_tt (and_tt (and_tt (and_tt (and_tt (and_tt (and_tt (and_tt (and_tt (and_tt (and_tt (and_tt (and_tt (and_tt (and_tt (and_tt (and_tt (by kernel_rfl) (by kernel_rfl)) (by kernel_rfl)) (by kernel_rfl)) (by kernel_rfl)) (by kernel_rfl)) (by kernel_rfl)) (by kernel_rfl)) (by kernel_rfl)) (by kernel_rfl)) (by kernel_rfl)) (by kernel_rfl)) (by kernel_rfl)) (by kernel_rfl)) (by kernel_rfl)) (by kernel_rfl)) (by kernel_rfl)) (by kernel_rfl)) (by kernel_rfl)) (by kernel_rfl)) (by kernel_rfl)) (by kernel_rfl)) (by kernel_rfl)) (by kernel_rfl)) (by kernel_rfl)) Try.mayEnter0) (lifted_tt Try.lifts0 rfl)) (make_tt Try.make0 rfl)) (by kernel_rfl)) (by kernel_rfl)) (by kernel_rfl)) (by kernel_rfl))
theorem over : Rows.fnExactStrangeTermRow.holds Try.pinned (OpenSpec.ofChange Rows.fnExactStrangeTermSpec) :=
  OpenClaim.holds_of_wide 8 Try.f8 rfl rfl rfl rfl rfl rfl rfl ⟨rfl, rfl, rfl, rfl, rfl⟩ rfl rfl rfl rfl rfl (by kernel_rfl) Try.func8 closed
    (of_decide_eq_true (by kernel_rfl)) (by unfold Func.isWrapper; first | (rw [if_pos (by decide +kernel)]; kernel_rfl) | (rw [if_neg (by decide +kernel)]; exact ⟨rfl, rfl⟩))
    (fun os started H enc _ => lifted os started H enc)

theorem proved : Rows.FnExactStrangeTermSaid := over
end Go.Proofs.Ytbcmepcjhobemaa.fnExactStrangeTerm

