/- Exact law of stage 4: the term of a claim, in memory of its own. No condition. -/
import Derived.Test.YtdkhpcceogeaeaaClaimI
import Derived.Test.YtdkhpcceogeaeaaClaimE
import Derived.Test.YtdkhpcceogeaeaaFrameC
import Derived.Test.YtdkhpcceogeaeaaMarksH
import Derived.Deep.RegionHeld3
import Derived.Deep.Cut
namespace Go.Proofs.Ytdkhpcceogeaeaa
open Go.RowKit
theorem cterm_len (p k : Int) (ms : List (Int × Int)) : (ctermV p (k, ms)).length ≤ 15 := by
  cases h : claimOk p (k, ms) with
  | false => rw [ctermV_no h]; simp
  | true =>
    rw [ctermV_yes h, (ctermL_ok h).2.2]
    have := (claimOk_iff.1 h).2.2.2
    dsimp only at this ⊢
    omega
theorem cterm_I64 (p k : Int) (ms : List (Int × Int)) (hi : I64s ms) (hk : I64 k) : I64s (ctermV p (k, ms)) := by
  cases h : claimOk p (k, ms) with
  | false => rw [ctermV_no h]; intro m hm; simp at hm
  | true =>
    rw [ctermV_yes h]
    unfold ctermL
    exact I64s_append (I64s_append (xs := [(0, k)]) (I64s_one (I64_small (by omega) (by omega)) hk) hi) (I64s_one (I64_small (by omega) (by omega)) (I64_small (by omega) (by omega)))
set_option maxHeartbeats 1000000 in
theorem markClaim (k : Int) (zs : List (Int × Int)) (k0 : Nat) (hk0 : zs.length * 2 + k0 ≤ 4611686018427387904) (base : Nat) (a : Value) (w : World) (hx : w.ownsRow base TM 2 a zs.length (mcells zs)) :
    Calls Try.prog 21 #[.agg #[.int .i64 k, a], .int .i64 k0] w fun e w' => e = .returned (.int .i64 ((k0 + zs.length * 2 : Nat) : Int)) ∧
      w'.ownsRow base TM 2 a zs.length (mcells (lay k0 zs.length)) ∧ w.grownBy w' a.ownBlock := by
  have Hm := Lib.hid (markMarkS zs k0 hk0 base a _ (hx.alloc (.cells #[.int .i64 k, a] TC)))
  go_enter Try.func21, Try.ntmps21
  go_wp2_with fail
  refine Hm.out.mono ?_
  rintro e w' ⟨rfl, hown, hg⟩
  have Hout := Lib.hid (And.intro hown (grown_trans (only_alloc (World.grownBy.refl _ _) _) hg))
  clear hown hg
  go_wp2
  go_ret
  exact ⟨rfl, Hout.out.1, Hout.out.2⟩
end Go.Proofs.Ytdkhpcceogeaeaa
namespace Go.Proofs.Ytdkhpcceogeaeaa.fnExactClaimTerm
open Go.ChangeShapes Go.WideShapes Go.ChangeAt Go.RowKit
attribute [local irreducible] holds tabN tabV holdsV sameV followsV alwaysV matterV mirV mirOk mcells tmOf claimOk mayT mayV ctabV ctabN storyV storyOk storyN storyT ctermV ctermL denyV denyOk ccells lay
open Go.ChangeMaps (open_string shut_string)
set_option linter.unusedVariables false
set_option maxRecDepth 100000 in
set_option maxHeartbeats 8000000 in
theorem walk (a0 : Int) (k1 : Int) (a1 : Value) (z1 : List (Int × Int)) (w : World) (w0 : (Lit.int .i64 a0).wf = true) (wi1 : I64 k1) (w1 : RdMarks w w.heap.size a1 z1) :
    Calls Try.prog 5 #[.int .i64 a0, .agg #[.int .i64 k1, a1]] w fun e w' => e = .returned (.bool true) ∧ Below w.heap.size w w' := by
  have hr := w1
  obtain ⟨ao, cap, rfl, hl, hm, hi, hc⟩ := w1
  unfold maxLen at hm
  have hm' : (z1.length : Int) ≤ 9223372036854775807 := by omega
  have Hi := Lib.hid hi
  have Hr := Lib.hid hr
  have hs := fun (B : Nat) (v : Value) (W : World) h h2 => specClaimTerm a0 k1 z1 B v W h h2
  have hp := fun (B : Nat) (v : Value) (W : World) h h2 => implClaimTerm a0 k1 z1 B v W h h2
  have Hs := Lib.hid hs
  have Hp := Lib.hid hp
  have hxl := cterm_len a0 k1 z1
  have Hxi := Lib.hid (cterm_I64 a0 k1 z1 hi wi1)
  generalize ctermV a0 (k1, z1) = xs at *
  clear hs hp hr hi hc hl
  obtain ⟨w2, hw2, hx2, hb2, hsz2⟩ := Box.new w (.int .i64 k1) (.slice ao z1.length cap) 24
  have HX2 := Lib.hid hx2
  have aX2 := HX2.out.1
  have bX2 := HX2.out.2.1
  have hB2 : Below w.heap.size w w2 := hb2
  clear hx2 hb2
  by_cases hlen : z1.length ≤ 1048576
  case neg =>
    have hsz : Hid ((if z1.length ≤ 1048576 then 1048576 - (z1.length : Int) else -1) = -1) := if_neg hlen
    go_enter Try.func5, Try.ntmps5
    go_upto_region 1 with fail
    rw [← hw2]
    clear hw2
    go_wp2_with fail
    refine (szClaim k1 ao z1.length cap hm' _).mono ?_
    rintro e w3 ⟨rfl, hb3⟩
    rw [hsz.out]
    have hB3 : Below w.heap.size w w3 := hB2.trans (hb3.mono hB2.size)
    clear hb3
    go_wp2
    go_ret
    exact ⟨rfl, hB3⟩
  have hsz : Hid ((if z1.length ≤ 1048576 then 1048576 - (z1.length : Int) else -1) = 1048576 - (z1.length : Int)) := if_pos hlen
  have hlen3 : (z1.length : Int) ≤ 1048576 := by omega
  go_enter Try.func5, Try.ntmps5
  go_upto_region 1 with fail
  rw [← hw2]
  clear hw2
  go_wp2_with fail
  refine (szClaim k1 ao z1.length cap hm' _).mono ?_
  rintro e w3 ⟨rfl, hb3⟩
  rw [hsz.out]
  have HX3 := Lib.hid (HX2.out.below hb3)
  have aX3 := HX3.out.1
  have bX3 := HX3.out.2.1
  have hB3 : Below w.heap.size w w3 := hB2.trans (hb3.mono hB2.size)
  have HR3 := Lib.hid (Hr.out.kept hB3)
  clear hb3 aX2 bX2
  go_wp2_with fail
  refine (toClaim k1 z1 hlen _ _ _ HR3.out (Nat.le_refl _)).mono ?_
  rintro e w4 ⟨v4, rfl, hown4, hb4⟩
  have HX4 := Lib.hid (HX3.out.below hb4)
  have aX4 := HX4.out.1
  have bX4 := HX4.out.2.1
  have hB4 : Below w.heap.size w w4 := hB3.trans (hb4.mono hB3.size)
  have HR4 := Lib.hid (Hr.out.kept hB4)
  clear hb4 aX3 bX3
  go_wp2_with fail
  refine (Hs.out _ _ _ (RdMarks.of_own hown4 Hi.out) (Nat.le_refl _)).mono ?_
  rintro e w5 ⟨vw, rfl, hownw, hb5⟩
  have HW5 := Lib.hid hownw
  have Hwlo : Hid (∀ k, vw.ownBlock = some k → k < w5.heap.size) := fun k hk => (hownw.lt k hk).2
  clear hown4 hownw
  have HX5 := Lib.hid (HX4.out.below hb5)
  have aX5 := HX5.out.1
  have bX5 := HX5.out.2.1
  have hB5 : Below w.heap.size w w5 := hB4.trans (hb5.mono hB4.size)
  have HR5 := Lib.hid (Hr.out.kept hB5)
  clear hb5 aX4 bX4
  go_wp2_with fail
  refine (toClaim k1 z1 hlen _ _ _ HR5.out (Nat.le_refl _)).mono ?_
  rintro e w6 ⟨v6, rfl, hown6, hb6⟩
  obtain ⟨vo, vc, hvf⟩ := own_len hown6
  subst hvf
  have Holo : Hid (∀ k, (Value.slice vo z1.length vc).ownBlock = some k → w5.heap.size ≤ k ∧ k < w6.heap.size) := hown6.lt
  have hs56 := hb6.size
  have HX6 := Lib.hid (HX5.out.below hb6)
  have aX6 := HX6.out.1
  have bX6 := HX6.out.2.1
  have HW6 := Lib.hid (own_below HW5.out hb6)
  have hB6 : Below w.heap.size w w6 := hB5.trans (hb6.mono hB5.size)
  have HR6 := Lib.hid (Hr.out.kept hB6)
  clear hb6 aX5 bX5
  go_upto_region 7 with fail
  obtain ⟨w7, hw7, hy7, hb7, hsz7⟩ := Box.new w6 (.int .i64 k1) (.slice vo z1.length vc) TC
  have HO7 := Lib.hid (own_below hown6 hb7)
  have HY7 := Lib.hid hy7
  have aY7 := HY7.out.1
  have bY7 := HY7.out.2.1
  rw [← hw7]
  clear hown6 hy7 hw7
  have HX7 := Lib.hid (HX6.out.below hb7)
  have aX7 := HX7.out.1
  have bX7 := HX7.out.2.1
  have HW7 := Lib.hid (own_below HW6.out hb7)
  have hB7 : Below w.heap.size w w7 := hB6.trans (hb7.mono hB6.size)
  have HR7 := Lib.hid (Hr.out.kept hB7)
  clear hb7 aX6 bX6
  go_wp2_with fail
  refine (Hp.out _ _ _ (RdMarks.of_own HO7.out Hi.out) (Nat.le_refl _)).mono ?_
  rintro e w8 ⟨vg, rfl, howng, hb8⟩
  have HG8 := Lib.hid howng
  have Hglo : Hid (∀ k, vg.ownBlock = some k → w7.heap.size ≤ k) := fun k hk => (howng.lt k hk).1
  clear howng
  have HX8 := Lib.hid (HX7.out.below hb8)
  have aX8 := HX8.out.1
  have bX8 := HX8.out.2.1
  have HY8 := Lib.hid (HY7.out.below hb8)
  have aY8 := HY8.out.1
  have bY8 := HY8.out.2.1
  have HO8 := Lib.hid (own_below HO7.out hb8)
  have HW8 := Lib.hid (own_below HW7.out hb8)
  have hB8 : Below w.heap.size w w8 := hB7.trans (hb8.mono hB7.size)
  have HR8 := Lib.hid (Hr.out.kept hB8)
  clear hb8 aX7 bX7 aY7 bY7
  go_wp2_with fail
  refine (eqMarkS xs xs _ _ _ _ _ (RdMarks.of_own HG8.out Hxi.out) (RdMarks.of_own HW8.out Hxi.out) (Nat.le_refl _) (Nat.le_refl _)).mono ?_
  rintro e w9 ⟨rfl, hb9⟩
  rw [show decide (xs = xs) = true from by simp]
  have HX9 := Lib.hid (HX8.out.below hb9)
  have aX9 := HX9.out.1
  have bX9 := HX9.out.2.1
  have HY9 := Lib.hid (HY8.out.below hb9)
  have aY9 := HY9.out.1
  have bY9 := HY9.out.2.1
  have HO9 := Lib.hid (own_below HO8.out hb9)
  have HW9 := Lib.hid (own_below HW8.out hb9)
  have HG9 := Lib.hid (own_below HG8.out hb9)
  have hB9 : Below w.heap.size w w9 := hB8.trans (hb9.mono hB8.size)
  have HR9 := Lib.hid (Hr.out.kept hB9)
  clear hb9 aX8 bX8 aY8 bY8
  have HB9 := Lib.hid hB9
  have hs25 : w.heap.size + 1 ≤ w5.heap.size := by have := hB5.size; have := HX5.out.2.2.2.2; omega
  have hs67 : w6.heap.size < w7.heap.size := hsz7
  clear hB2 hB3 hB4 hB5 hB6 hB7 hB8 hB9 HX2 HX3 HX4 HX5 HX6 HX7 HX8 HY7 HY8 HO7 HO8 HW5 HW6 HW7 HW8 HG8 HR3 HR4 HR5 HR6 HR7 HR8 Hs hsz
  go_wp2_with fail
  go_region_held3 (fun w' => w'.cell? ⟨w6.heap.size, 0, none⟩ = some (.int .i64 k1) ∧ w'.cell? ⟨w6.heap.size, 1, none⟩ = some (.slice vo z1.length vc) ∧ w'.cell? ⟨w.heap.size, 0, none⟩ = some (.int .i64 k1) ∧ w'.cell? ⟨w.heap.size, 1, none⟩ = some (.slice ao z1.length cap))
    (first | (refine ⟨?_, ?_, ?_, ?_⟩ <;> first | go_keep | assumption) | assumption)
    (first
      | (go_at_call 13
         (with_reducible refine (toClaim k1 z1 hlen w9.heap.size _ _ ?_ ?_).mono ?_)
         · exact HR9.out
         · exact Nat.le_refl _
         rintro e w10 ⟨v10, rfl, hown10, hb10'⟩
         go_must (have hb10 : Below w9.heap.size w9 w10 := by first | exact hb10' | exact below_undrewS hb10' | exact below_undrewN hb10'
                  clear hb10'
                  have HX10 := Lib.hid (HX9.out.below hb10)
                  have aX10 := HX10.out.1
                  have bX10 := HX10.out.2.1
                  have HY10 := Lib.hid (HY9.out.below hb10)
                  have aY10 := HY10.out.1
                  have bY10 := HY10.out.2.1
                  have HO10 := Lib.hid (own_below HO9.out hb10)
                  have HW10 := Lib.hid (own_below HW9.out hb10)
                  have HG10 := Lib.hid (own_below HG9.out hb10)
                  have HV10 := Lib.hid hown10
                  have HB10 := Lib.hid (HB9.out.trans (hb10.mono HB9.out.size))
                  clear hb10 hown10))
      | (go_at_call 15
         (with_reducible refine (eqClaim k1 z1 w10.heap.size w10.heap.size _ _ _ ?_ ?_ ?_ ?_).mono ?_)
         · exact RdMarks.of_own HO10.out Hi.out
         · exact RdMarks.of_own HV10.out Hi.out
         · exact Nat.le_refl _
         · exact Nat.le_refl _
         rintro e w11 ⟨rfl, hb11'⟩
         go_must (have hb11 : Below w10.heap.size w10 w11 := by first | exact hb11' | exact below_undrewS hb11' | exact below_undrewN hb11'
                  clear hb11'
                  have HX11 := Lib.hid (HX10.out.below hb11)
                  have aX11 := HX11.out.1
                  have bX11 := HX11.out.2.1
                  have HY11 := Lib.hid (HY10.out.below hb11)
                  have aY11 := HY11.out.1
                  have bY11 := HY11.out.2.1
                  have HO11 := Lib.hid (own_below HO10.out hb11)
                  have HW11 := Lib.hid (own_below HW10.out hb11)
                  have HG11 := Lib.hid (own_below HG10.out hb11)
                  have HB11 := Lib.hid (HB10.out.trans (hb11.mono HB10.out.size))
                  clear hb11))
      | fail)
  clear HX9 HX10 HY9 HY10 HO9 HO10 HW9 HW10 HG9 HG10 HV10 HR9 HB9 HB10
  go_wp2_with fail
  refine (markClaim k1 z1 1 (by omega) _ _ _ (by exact HO11.out)).mono ?_
  rintro e w12 ⟨rfl, hown12, hg12'⟩
  have hg12 : w11.grownBy w12 (Value.slice vo z1.length vc).ownBlock := by first | exact hg12' | exact grownBy_drew0 hg12' | exact grownBy_drewX hg12'
  have hB12 : Below w.heap.size w w12 := HB11.out.grown hg12 HB11.out.size (fun k hk => by have := (Holo.out k hk).1; omega)
  have HW12 := Lib.hid (HW11.out.kept hg12 (own_apart (fun k hk => Hwlo.out k hk) (fun k hk => (Holo.out k hk).1)))
  have HG12 := Lib.hid (HG11.out.kept hg12 (own_apart' (s := w7.heap.size) (fun k hk => Hglo.out k hk) (fun k hk => by have := (Holo.out k hk).2; omega)))
  have HX12 := Lib.hid (HX11.out.grown hg12 (fun e => by have := (Holo.out _ e).1; omega))
  have aX12 := HX12.out.1
  have bX12 := HX12.out.2.1
  clear hg12 hg12' hown12 aX11 bX11 aY11 bY11 HX11 HY11 HO11 HW11 HG11 HB11
  have hk12 : (0 : Int) ≤ ((1 + z1.length * 2 : Nat) : Int) := by omega
  generalize 1 + z1.length * 2 = K at *
  go_wp2_with fail
  refine (eqMarkS xs xs _ _ _ _ _ (RdMarks.of_own HG12.out Hxi.out) (RdMarks.of_own HW12.out Hxi.out) (Nat.le_refl _) (Nat.le_refl _)).mono ?_
  rintro e w13 ⟨rfl, hb13⟩
  rw [show decide (xs = xs) = true from by simp]
  have HX13 := Lib.hid (HX12.out.below hb13)
  have aX13 := HX13.out.1
  have bX13 := HX13.out.2.1
  have HW13 := Lib.hid (own_below HW12.out hb13)
  have HG13 := Lib.hid (own_below HG12.out hb13)
  have hB13 : Below w.heap.size w w13 := hB12.trans (hb13.mono hB12.size)
  clear hb13 aX12 bX12
  go_wp2_with fail
  refine (markMarkS xs 1 (by omega) _ _ _ HG13.out).mono ?_
  rintro e w14 ⟨rfl, hown14, hg14⟩
  have hB14 : Below w.heap.size w w14 := hB13.grown hg14 hB13.size (fun k hk => by have := Hglo.out k hk; omega)
  have HX14 := Lib.hid (HX13.out.grown hg14 (fun e => by have := Hglo.out _ e; omega))
  have aX14 := HX14.out.1
  have bX14 := HX14.out.2.1
  have HW14 := Lib.hid (HW13.out.kept hg14 (own_apart (s := w5.heap.size) (fun k hk => Hwlo.out k hk) (fun k hk => by have := Hglo.out k hk; omega)))
  have HR14 := Lib.hid (Hr.out.kept hB14)
  generalize hn : xs.length = n at *
  have Hn := Lib.hid hn; clear hn
  have Hrd14 : Hid (RdMarks w14 w14.heap.size vg (lay 1 n)) := RdMarks.of_own (by rw [lay_length]; exact hown14) (lay_I64 (by omega))
  clear hg14 hown14 aX13 bX13 HX13 HW13 HG13
  have hm14 : (0 : Int) ≤ ((1 + n * 2 : Nat) : Int) := by omega
  generalize hM : 1 + n * 2 = M at *
  have HM := Lib.hid hM; clear hM
  go_wp2_with fail
  refine (heldMarkS n 1 (by omega) _ _ _ Hrd14.out).mono ?_
  rintro e w14' ⟨rfl, rfl⟩
  rw [HM.out]
  go_wp2_with fail
  refine (toClaim k1 z1 hlen _ _ _ HR14.out (Nat.le_refl _)).mono ?_
  rintro e w15 ⟨v15, rfl, hown15, hb15⟩
  have hB15 : Below w.heap.size w w15 := hB14.trans (hb15.mono hB14.size)
  have HV15 := Lib.hid hown15
  have HW15 := Lib.hid (own_below HW14.out hb15)
  have Hrd15 := Lib.hid (Hrd14.out.kept hb15)
  clear hb15 hown15 aX14 bX14 HX14 HW14 Hrd14
  go_wp2_with fail
  refine (Hp.out _ _ _ (RdMarks.of_own HV15.out Hi.out) (Nat.le_refl _)).mono ?_
  rintro e w16 ⟨vh, rfl, hownh, hb16⟩
  rw [Hn.out] at hownh
  have hB16 : Below w.heap.size w w16 := hB15.trans (hb16.mono hB15.size)
  have HH16 : Hid (w16.ownsRow w15.heap.size TM 2 vh xs.length (mcells xs)) := by unfold Hid; rw [Hn.out]; exact hownh
  have HW16 : Hid (w16.ownsRow w4.heap.size TM 2 vw xs.length (mcells xs)) := by unfold Hid; rw [Hn.out]; exact own_below HW15.out hb16
  have Hrd16 := Lib.hid (Hrd15.out.kept hb16)
  clear hb16 hownh HW15 Hrd15 HV15
  go_wp2_with fail
  refine (eqMarkS xs xs _ _ _ _ _ (RdMarks.of_own HH16.out Hxi.out) (RdMarks.of_own HW16.out Hxi.out) (Nat.le_refl _) (Nat.le_refl _)).mono ?_
  rintro e w17 ⟨rfl, hb17⟩
  rw [show decide (xs = xs) = true from by simp]
  have hB17 : Below w.heap.size w w17 := hB16.trans (hb17.mono hB16.size)
  have Hrd17 := Lib.hid (Hrd16.out.kept hb17)
  clear hb17 Hrd16 HH16 HW16
  go_wp2_with fail
  refine (heldMarkS n 1 (by omega) _ _ _ Hrd17.out).mono ?_
  rintro e w18 ⟨rfl, rfl⟩
  rw [HM.out]
  go_wp2
  go_ret
  exact ⟨rfl, hB17⟩

set_option maxRecDepth 100000 in
theorem lifted (os : Os) (started : os.Started) (H : Type) (enc : TypeId × Value → H) :
    ReturnsInHanded {} Try.checked os 5 .any (Rows.fnExactClaimTermSpec.pre6 enc Try.prog Try.f5 Rows.fnExactClaimTermRow.domain false) (Rows.fnExactClaimTermSpec.post enc Try.prog Try.f5 false true false false) := by
  refine returnsInHanded_of_change (C := Try.checked) Try.own started (by kernel_rfl) Try.func5
    (ChangeSpec.witness6 (enc := enc) (C := Try.checked) false ⟨#[], #[.int .i64 0, .agg #[.int .i64 0, .slice none 0 0]], []⟩ 8 (by kernel_rfl) (by kernel_rfl) (by kernel_rfl) (by kernel_rfl)) ?_
  intro W base args ds gs before hval0 hW hcnd _
  have hval : ∀ (j : Nat) t v, Try.f5.params[j]? = some t → args[j]? = some v → Value.okWide Try.prog W .any base t v := hval0
  have hW' := hW
  obtain ⟨p, q, hA0, hV, rfl, hfz, hnd⟩ := hW
  have hA : DataW.TrodAll enc Try.prog W 0 (fun _ => true) true Try.f5.params.toList args.toList ds p := hA0
  rw [Try.params5] at hA hval
  obtain ⟨v0, vs0, d0, ds0, p0, q0, hargs, rfl, rfl, h0, r0⟩ := trodAll_cons hA
  obtain ⟨v1, vs1, d1, ds1, p1, q1, rfl, rfl, rfl, h1, r1⟩ := trodAll_cons r0
  obtain ⟨rfl, rfl, rfl⟩ := trodAll_nil r1
  obtain rfl : args = #[v0, v1] := by cases args; simp_all
  obtain ⟨rfl, rfl⟩ := trodVars_none hV
  obtain ⟨a0, rfl, rfl, rfl, w0⟩ := open_int Try.underlying3 (hval 0 3 v0 rfl rfl) h0
  have k1 := h1
  have lt1 : ∀ x ∈ p1, x.block < W.heap.size := by obtain ⟨m, hm⟩ := k1; exact DataW.trod_lt m _ _ _ hm
  obtain ⟨c1, a1, z1, rfl, wi1, w1⟩ := open_claim Try.underlying24 (by kernel_rfl) (by kernel_rfl) Try.underlying3 Try.underlying22 Try.underlying67 (by kernel_rfl) rfl rfl (by kernel_rfl) (by kernel_rfl) Try.underlying3 Try.underlying3 (hval 1 24 v1 rfl rfl) h1
  clear hA0 hval0
  refine (walk a0 _ _ _ W w0 wi1 w1).mono fun e W' ⟨he, bel⟩ => ?_
  subst he
  exact ⟨_, rfl, _, _, _, [], _, [], hW', trodAll_mk1 (shut_bool Try.underlying4 _), (trodAll_cons_mk (shut_int Try.underlying3 w0) (trodAll_cons_mk (Below.trod Try.laidOut (by kernel_rfl) (of_decide_eq_true (by kernel_rfl)) k1 bel lt1) trodAll_mk0)), rfl, bel.frame _, fun h => by cases h⟩

theorem closed : joinedFacts Try.pinned.checked.prog 5 Try.f5 Rows.fnExactClaimTermSpec Rows.fnExactClaimTermRow = true := by
  unfold joinedFacts
  exact (and_tt (and_tt (and_tt (and_tt (and_tt (and_tt (and_tt (and_tt (and_tt (and_tt (and_tt (and_tt (and_tt (and_tt (and_tt (and_tt (and_tt (and_tt (and_tt (and_tt (and_tt (and_tt (and_tt (and_tt (and_tt (and_tt (and_tt (and_tt (and_tt (and_tt (and_tt (by kernel_rfl) (by kernel_rfl)) (by kernel_rfl)) (by kernel_rfl)) (by kernel_rfl)) (by kernel_rfl)) (by kernel_rfl)) (by kernel_rfl)) (by kernel_rfl)) (by kernel_rfl)) (by kernel_rfl)) (by kernel_rfl)) (by kernel_rfl)) (by kernel_rfl)) (by kernel_rfl)) (by kernel_rfl)) (by kernel_rfl)) (by kernel_rfl)) (by kernel_rfl)) (by kernel_rfl)) (by kernel_rfl)) (by kernel_rfl)) (by kernel_rfl)) (by kernel_rfl)) (by kernel_rfl)) Try.mayEnter0) (lifted_tt Try.lifts0 rfl)) (make_tt Try.make0 rfl)) (by kernel_rfl)) (by kernel_rfl)) (by kernel_rfl)) (by kernel_rfl))
theorem over : Rows.fnExactClaimTermRow.holds Try.pinned (OpenSpec.ofChange Rows.fnExactClaimTermSpec) :=
  OpenClaim.holds_of_wide 5 Try.f5 rfl rfl rfl rfl rfl rfl rfl ⟨rfl, rfl, rfl, rfl, rfl⟩ rfl rfl rfl rfl rfl (by kernel_rfl) Try.func5 closed
    (of_decide_eq_true (by kernel_rfl)) (by unfold Func.isWrapper; first | (rw [if_pos (by decide +kernel)]; kernel_rfl) | (rw [if_neg (by decide +kernel)]; exact ⟨rfl, rfl⟩))
    (fun os started H enc _ => lifted os started H enc)

theorem proved : Rows.FnExactClaimTermSaid := over
end Go.Proofs.Ytdkhpcceogeaeaa.fnExactClaimTerm

