/- Exact law of stage 4: the denial of a claim, in memory of its own. No condition. -/
import Derived.Test.YtpccldbcmanhdaaExact4C
import Derived.Test.YtpccldbcmanhdaaClaimH
import Derived.Test.YtpccldbcmanhdaaClaimDs
namespace Go.Proofs.Ytpccldbcmanhdaa
open Go.RowKit
theorem deny_len (p k : Int) (ms : List (Int × Int)) : (denyV p (k, ms)).2.length ≤ 15 := by
  unfold denyV
  split
  · rename_i h
    have h2 : claimOk p (k, ms ++ [(2, 0)]) = true := (denyOk_both h).2
    have h3 := (claimOk_iff.1 h2).2.2.2
    have h4 : (ms ++ [((2 : Int), (0 : Int))]).length ≤ 15 := Nat.le_trans h3 (by omega)
    exact h4
  · simp
theorem deny_I64 (p k : Int) (ms : List (Int × Int)) (hi : I64s ms) : I64s (denyV p (k, ms)).2 := by
  unfold denyV
  split
  · exact I64s_append hi (I64s_one (I64_small (by omega) (by omega)) (I64_small (by omega) (by omega)))
  · intro m hm; simp at hm
set_option maxHeartbeats 1000000 in
theorem heldClaim (k : Int) (n k0 : Nat) (hk0 : n * 2 + k0 ≤ 4611686018427387904) (B : Nat) (a : Value) (w : World) (hx : RdMarks w B a (lay k0 n)) (hB : B ≤ w.heap.size) :
    Calls Try.prog 45 #[.agg #[.int .i64 k, a], .int .i64 k0] w fun e w' => e = .returned (.int .i64 ((k0 + n * 2 : Nat) : Int)) ∧ Below w.heap.size w w' := by
  go_enter Try.func45, Try.ntmps45
  go_upto_region 1 with fail
  obtain ⟨w2, hw2, hx2, hb2, hsz2⟩ := Box.new w (.int .i64 k) a TC
  have Hm := Lib.hid (heldMarkS n k0 hk0 B a w2 (hx.below (w' := w2) (fun q hq => hb2.block q (by omega))))
  have aX := hx2.1
  have bX := hx2.2.1
  rw [← hw2]
  clear hw2
  have h0 : (0 : Int) ≤ ((k0 + n * 2 : Nat) : Int) := by omega
  generalize hK : k0 + n * 2 = K at *
  have HK := Lib.hid hK
  clear hK
  go_wp2_with fail
  refine Hm.out.mono ?_
  rintro e w' ⟨rfl, rfl⟩
  go_wp2
  go_ret
  exact ⟨by rw [HK.out]; rfl, hb2⟩
end Go.Proofs.Ytpccldbcmanhdaa
namespace Go.Proofs.Ytpccldbcmanhdaa.fnExactDenyClaim
open Go.ChangeShapes Go.WideShapes Go.ChangeAt Go.RowKit
attribute [local irreducible] holds tabN tabV holdsV sameV followsV alwaysV matterV mirV mirOk mcells tmOf claimOk mayT mayV ctabV ctabN storyV storyOk storyN storyT ctermV ctermL denyV denyOk ccells lay
open Go.ChangeMaps (open_string shut_string)
set_option linter.unusedVariables false
set_option maxRecDepth 100000 in
set_option maxHeartbeats 8000000 in
theorem walk (a0 : Int) (k1 : Int) (a1 : Value) (z1 : List (Int × Int)) (w : World) (w0 : (Lit.int .i64 a0).wf = true) (wi1 : I64 k1) (w1 : RdMarks w w.heap.size a1 z1) :
    Calls Try.prog 16 #[.int .i64 a0, .agg #[.int .i64 k1, a1]] w fun e w' => e = .returned (.bool true) ∧ Below w.heap.size w w' := by
  have hr := w1
  obtain ⟨ao, cap, rfl, hl, hm, hi, hc⟩ := w1
  unfold maxLen at hm
  have hm' : (z1.length : Int) ≤ 9223372036854775807 := by omega
  have Hi := Lib.hid hi
  have Hr := Lib.hid hr
  have hs := fun (hl : z1.length ≤ 9000000) (B : Nat) (v : Value) (W : World) h h2 => specDenyClaim a0 k1 z1 B v W h h2 hl
  have hp := fun (B : Nat) (v : Value) (W : World) h h2 => implDenyClaim a0 k1 z1 B v W h h2
  have Hs := Lib.hid hs
  have Hp := Lib.hid hp
  have hxl0 := deny_len a0 k1 z1
  have Hxi0 := Lib.hid (deny_I64 a0 k1 z1 hi)
  clear hs hp hr hi hc hl
  obtain ⟨w2, hw2, hx2, hb2, hsz2⟩ := Box.new w (.int .i64 k1) (.slice ao z1.length cap) 46
  have HX2 := Lib.hid hx2
  have aX2 := HX2.out.1
  have bX2 := HX2.out.2.1
  have hB2 : Below w.heap.size w w2 := hb2
  clear hx2 hb2
  by_cases hlen : z1.length ≤ 1048576
  case neg =>
    have hsz : Hid ((if z1.length ≤ 1048576 then 1048576 - (z1.length : Int) else -1) = -1) := if_neg hlen
    go_enter Try.func16, Try.ntmps16
    go_upto_region 1 with fail
    rw [← hw2]
    clear hw2
    go_wp2_with fail
    refine (szClaim k1 ao z1.length cap hm' _).mono ?_
    rintro e w3 ⟨rfl, hb3⟩
    rw [hsz.out]
    have hB3 : Below w.heap.size w w3 := hB2.trans (hb3.mono hB2.size)
    clear hb3
    go_wp2
    go_ret
    exact ⟨rfl, hB3⟩
  have hsz : Hid ((if z1.length ≤ 1048576 then 1048576 - (z1.length : Int) else -1) = 1048576 - (z1.length : Int)) := if_pos hlen
  have hlen3 : (z1.length : Int) ≤ 1048576 := by omega
  generalize denyV a0 (k1, z1) = dd at *
  obtain ⟨dk, xs⟩ := dd
  have hxl : xs.length ≤ 15 := hxl0
  have Hxi : Hid (I64s xs) := Hxi0.out
  clear hxl0 Hxi0
  generalize denyOk a0 (k1, z1) = oo at *
  have hoo : (oo != oo) = false := by simp
  have hoo2 : (oo == oo) = true := by simp
  go_enter Try.func16, Try.ntmps16
  go_upto_region 1 with fail
  rw [← hw2]
  clear hw2
  go_wp2_with fail
  refine (szClaim k1 ao z1.length cap hm' _).mono ?_
  rintro e w3 ⟨rfl, hb3⟩
  rw [hsz.out]
  have HX3 := Lib.hid (HX2.out.below hb3)
  have aX3 := HX3.out.1
  have bX3 := HX3.out.2.1
  have hB3 : Below w.heap.size w w3 := hB2.trans (hb3.mono hB2.size)
  have HR3 := Lib.hid (Hr.out.kept hB3)
  clear hb3 aX2 bX2
  go_wp2_with fail
  refine (toClaim k1 z1 hlen _ _ _ HR3.out (Nat.le_refl _)).mono ?_
  rintro e w4 ⟨v4, rfl, hown4, hb4⟩
  have HX4 := Lib.hid (HX3.out.below hb4)
  have aX4 := HX4.out.1
  have bX4 := HX4.out.2.1
  have hB4 : Below w.heap.size w w4 := hB3.trans (hb4.mono hB3.size)
  have HR4 := Lib.hid (Hr.out.kept hB4)
  clear hb4 aX3 bX3
  go_wp2_with fail
  refine (Hs.out (by omega) _ _ _ (RdMarks.of_own hown4 Hi.out) (Nat.le_refl _)).mono ?_
  rintro e w5 ⟨vW, rfl, hoW, hb5⟩
  have hsz5q : w4.heap.size ≤ w5.heap.size := hb5.size
  have HX5 := Lib.hid (HX4.out.below hb5)
  have aX5 := HX5.out.1
  have bX5 := HX5.out.2.1
  have hB5 : Below w.heap.size w w5 := hB4.trans (hb5.mono hB4.size)
  have HR5 := Lib.hid (Hr.out.kept hB5)
  obtain ⟨fW, gW, hfW⟩ := own_len hoW
  subst hfW
  clear hb5 aX4 bX4
  go_upto_region 6 with fail
  obtain ⟨w6, hw6, hn6, hb6, hsz6⟩ := Box.new w5 (.int .i64 dk) (.slice fW xs.length gW) TC
  have HW6 := Lib.hid (own_below hoW hb6)
  have HYW6 := Lib.hid hn6
  have aYW6 := HYW6.out.1
  have bYW6 := HYW6.out.2.1
  rw [← hw6]
  have HWlo : Hid (∀ k, (Value.slice fW xs.length gW).ownBlock = some k → w4.heap.size ≤ k ∧ k < w5.heap.size) := hoW.lt
  have hsz45 : w4.heap.size ≤ w5.heap.size := hsz5q
  clear hw6 hn6 hoW hsz5q
  have HX6 := Lib.hid (HX5.out.below hb6)
  have aX6 := HX6.out.1
  have bX6 := HX6.out.2.1
  have hB6 : Below w.heap.size w w6 := hB5.trans (hb6.mono hB5.size)
  have HR6 := Lib.hid (Hr.out.kept hB6)
  clear hb6 aX5 bX5
  go_wp2_with fail
  refine (toClaim k1 z1 hlen _ _ _ HR6.out (Nat.le_refl _)).mono ?_
  rintro e w7 ⟨vO, rfl, hoO, hb7⟩
  have hsz7q : w6.heap.size ≤ w7.heap.size := hb7.size
  have HX7 := Lib.hid (HX6.out.below hb7)
  have aX7 := HX7.out.1
  have bX7 := HX7.out.2.1
  have HYW7 := Lib.hid (HYW6.out.below hb7)
  have aYW7 := HYW7.out.1
  have bYW7 := HYW7.out.2.1
  have HW7 := Lib.hid (own_below HW6.out hb7)
  have hB7 : Below w.heap.size w w7 := hB6.trans (hb7.mono hB6.size)
  have HR7 := Lib.hid (Hr.out.kept hB7)
  obtain ⟨fO, gO, hfO⟩ := own_len hoO
  subst hfO
  clear hb7 aX6 bX6 aYW6 bYW6
  go_upto_region 7 with fail
  obtain ⟨w8, hw8, hn8, hb8, hsz8⟩ := Box.new w7 (.int .i64 k1) (.slice fO z1.length gO) TC
  have HO8 := Lib.hid (own_below hoO hb8)
  have HYO8 := Lib.hid hn8
  have aYO8 := HYO8.out.1
  have bYO8 := HYO8.out.2.1
  rw [← hw8]
  have HOlo : Hid (∀ k, (Value.slice fO z1.length gO).ownBlock = some k → w6.heap.size ≤ k ∧ k < w7.heap.size) := hoO.lt
  have hsz67 : w6.heap.size ≤ w7.heap.size := hsz7q
  clear hw8 hn8 hoO hsz7q
  have HX8 := Lib.hid (HX7.out.below hb8)
  have aX8 := HX8.out.1
  have bX8 := HX8.out.2.1
  have HYW8 := Lib.hid (HYW7.out.below hb8)
  have aYW8 := HYW8.out.1
  have bYW8 := HYW8.out.2.1
  have HW8 := Lib.hid (own_below HW7.out hb8)
  have hB8 : Below w.heap.size w w8 := hB7.trans (hb8.mono hB7.size)
  have HR8 := Lib.hid (Hr.out.kept hB8)
  clear hb8 aX7 bX7 aYW7 bYW7
  go_wp2_with fail
  refine (Hp.out _ _ _ (RdMarks.of_own HO8.out Hi.out) (Nat.le_refl _)).mono ?_
  rintro e w9 ⟨vG, rfl, hoG, hb9⟩
  have hsz9q : w8.heap.size ≤ w9.heap.size := hb9.size
  have HX9 := Lib.hid (HX8.out.below hb9)
  have aX9 := HX9.out.1
  have bX9 := HX9.out.2.1
  have HYW9 := Lib.hid (HYW8.out.below hb9)
  have aYW9 := HYW9.out.1
  have bYW9 := HYW9.out.2.1
  have HYO9 := Lib.hid (HYO8.out.below hb9)
  have aYO9 := HYO9.out.1
  have bYO9 := HYO9.out.2.1
  have HW9 := Lib.hid (own_below HW8.out hb9)
  have HO9 := Lib.hid (own_below HO8.out hb9)
  have hB9 : Below w.heap.size w w9 := hB8.trans (hb9.mono hB8.size)
  have HR9 := Lib.hid (Hr.out.kept hB9)
  obtain ⟨fG, gG, hfG⟩ := own_len hoG
  subst hfG
  clear hb9 aX8 bX8 aYW8 bYW8 aYO8 bYO8
  go_upto_region 8 with fail
  obtain ⟨w10, hw10, hn10, hb10, hsz10⟩ := Box.new w9 (.int .i64 dk) (.slice fG xs.length gG) TC
  have HG10 := Lib.hid (own_below hoG hb10)
  have HYG10 := Lib.hid hn10
  have aYG10 := HYG10.out.1
  have bYG10 := HYG10.out.2.1
  rw [← hw10]
  have HGlo : Hid (∀ k, (Value.slice fG xs.length gG).ownBlock = some k → w8.heap.size ≤ k ∧ k < w9.heap.size) := hoG.lt
  have hsz89 : w8.heap.size ≤ w9.heap.size := hsz9q
  clear hw10 hn10 hoG hsz9q
  have HX10 := Lib.hid (HX9.out.below hb10)
  have aX10 := HX10.out.1
  have bX10 := HX10.out.2.1
  have HYW10 := Lib.hid (HYW9.out.below hb10)
  have aYW10 := HYW10.out.1
  have bYW10 := HYW10.out.2.1
  have HYO10 := Lib.hid (HYO9.out.below hb10)
  have aYO10 := HYO10.out.1
  have bYO10 := HYO10.out.2.1
  have HW10 := Lib.hid (own_below HW9.out hb10)
  have HO10 := Lib.hid (own_below HO9.out hb10)
  have hB10 : Below w.heap.size w w10 := hB9.trans (hb10.mono hB9.size)
  have HR10 := Lib.hid (Hr.out.kept hB10)
  clear hb10 aX9 bX9 aYW9 bYW9 aYO9 bYO9
  have HB10 := Lib.hid hB10
  have hs58 : w.heap.size + 1 ≤ w5.heap.size := by have := hB5.size; have := HX5.out.2.2.2.2; omega
  have hs57 : w5.heap.size < w6.heap.size := hsz6
  have hs67 : w6.heap.size ≤ w7.heap.size := hsz67
  have hs78 : w7.heap.size < w8.heap.size := hsz8
  have hs89 : w8.heap.size ≤ w9.heap.size := hsz89
  have hs910 : w9.heap.size < w10.heap.size := hsz10
  clear hB2 hB3 hB4 hB5 hB6 hB7 hB8 hB9 hB10 hsz6 hsz8 hsz10 hsz67 hsz89 Hs hsz
  go_wp2_with fail
  refine (eqClaim dk xs _ _ _ _ _ (RdMarks.of_own HG10.out Hxi.out) (RdMarks.of_own HW10.out Hxi.out) (Nat.le_refl _) (Nat.le_refl _)).mono ?_
  rintro e w11 ⟨rfl, hb11⟩
  have HX11 := Lib.hid (HX10.out.below hb11)
  have aX11 := HX11.out.1
  have bX11 := HX11.out.2.1
  have HYW11 := Lib.hid (HYW10.out.below hb11)
  have aYW11 := HYW11.out.1
  have bYW11 := HYW11.out.2.1
  have HYO11 := Lib.hid (HYO10.out.below hb11)
  have aYO11 := HYO11.out.1
  have bYO11 := HYO11.out.2.1
  have HYG11 := Lib.hid (HYG10.out.below hb11)
  have aYG11 := HYG11.out.1
  have bYG11 := HYG11.out.2.1
  have HW11 := Lib.hid (own_below HW10.out hb11)
  have HO11 := Lib.hid (own_below HO10.out hb11)
  have HG11 := Lib.hid (own_below HG10.out hb11)
  have HB11 := Lib.hid (HB10.out.trans (hb11.mono HB10.out.size))
  clear hb11
  clear HX10 HYW10 HYO10 HYG10 HW10 HO10 HG10 HB10
  clear aX10 bX10 aYW10 bYW10 aYO10 bYO10 aYG10 bYG10
  have HR11 := Lib.hid (Hr.out.kept HB11.out)
  go_wp2_with fail
  go_region_held3 (fun w' => w'.cell? ⟨w7.heap.size, 0, none⟩ = some (.int .i64 k1) ∧ w'.cell? ⟨w7.heap.size, 1, none⟩ = some (.slice fO z1.length gO) ∧ w'.cell? ⟨w.heap.size, 0, none⟩ = some (.int .i64 k1) ∧ w'.cell? ⟨w.heap.size, 1, none⟩ = some (.slice ao z1.length cap))
    (first | (refine ⟨?_, ?_, ?_, ?_⟩ <;> first | go_keep | assumption) | assumption)
    (first
      | (go_at_call 42
         (with_reducible refine (toClaim k1 z1 hlen w11.heap.size _ _ ?_ ?_).mono ?_)
         · exact HR11.out
         · exact Nat.le_refl _
         rintro e w12 ⟨v12, rfl, hown12, hb12'⟩
         go_must (have hb12 : Below w11.heap.size w11 w12 := by first | exact hb12' | exact below_undrewS hb12' | exact below_undrewN hb12'
                  clear hb12'
                  have HX12 := Lib.hid (HX11.out.below hb12)
                  have aX12 := HX12.out.1
                  have bX12 := HX12.out.2.1
                  have HYW12 := Lib.hid (HYW11.out.below hb12)
                  have aYW12 := HYW12.out.1
                  have bYW12 := HYW12.out.2.1
                  have HYO12 := Lib.hid (HYO11.out.below hb12)
                  have aYO12 := HYO12.out.1
                  have bYO12 := HYO12.out.2.1
                  have HYG12 := Lib.hid (HYG11.out.below hb12)
                  have aYG12 := HYG12.out.1
                  have bYG12 := HYG12.out.2.1
                  have HW12 := Lib.hid (own_below HW11.out hb12)
                  have HO12 := Lib.hid (own_below HO11.out hb12)
                  have HG12 := Lib.hid (own_below HG11.out hb12)
                  have HB12 := Lib.hid (HB11.out.trans (hb12.mono HB11.out.size))
                  have HV12 := Lib.hid hown12
                  clear hb12))
      | (go_at_call 43
         (with_reducible refine (eqClaim k1 z1 w12.heap.size w12.heap.size _ _ _ ?_ ?_ ?_ ?_).mono ?_)
         · exact RdMarks.of_own HO12.out Hi.out
         · exact RdMarks.of_own HV12.out Hi.out
         · exact Nat.le_refl _
         · exact Nat.le_refl _
         rintro e w13 ⟨rfl, hb13'⟩
         go_must (have hb13 : Below w12.heap.size w12 w13 := by first | exact hb13' | exact below_undrewS hb13' | exact below_undrewN hb13'
                  clear hb13'
                  have HX13 := Lib.hid (HX12.out.below hb13)
                  have aX13 := HX13.out.1
                  have bX13 := HX13.out.2.1
                  have HYW13 := Lib.hid (HYW12.out.below hb13)
                  have aYW13 := HYW13.out.1
                  have bYW13 := HYW13.out.2.1
                  have HYO13 := Lib.hid (HYO12.out.below hb13)
                  have aYO13 := HYO13.out.1
                  have bYO13 := HYO13.out.2.1
                  have HYG13 := Lib.hid (HYG12.out.below hb13)
                  have aYG13 := HYG13.out.1
                  have bYG13 := HYG13.out.2.1
                  have HW13 := Lib.hid (own_below HW12.out hb13)
                  have HO13 := Lib.hid (own_below HO12.out hb13)
                  have HG13 := Lib.hid (own_below HG12.out hb13)
                  have HB13 := Lib.hid (HB12.out.trans (hb13.mono HB12.out.size))
                  clear hb13))
      | fail)
  clear HX11 HYW11 HYO11 HYG11 HW11 HO11 HG11 HB11 HR11
  clear HX12 HYW12 HYO12 HYG12 HW12 HO12 HG12 HB12 HV12
  clear aX11 bX11 aYW11 bYW11 aYO11 bYO11 aYG11 bYG11
  clear aX12 bX12 aYW12 bYW12 aYO12 bYO12 aYG12 bYG12
  go_wp2_with fail
  refine (markClaimH k1 z1 1 (by omega) _ _ _ (by exact HO13.out)).mono ?_
  rintro e w14 ⟨rfl, hown14, hg14'⟩
  have hg14 : w13.grownBy w14 (Value.slice fO z1.length gO).ownBlock := by first | exact hg14' | exact grownBy_drew0 hg14' | exact grownBy_drewX hg14'
  have HB14 := Lib.hid (HB13.out.grown hg14 HB13.out.size (fun k hk => by have := (HOlo.out k hk).1; omega))
  have HW14 := Lib.hid (HW13.out.kept hg14 (own_apart (s := w6.heap.size) (fun k hk => by have := (HWlo.out k hk).2; omega) (fun k hk => (HOlo.out k hk).1)))
  have HG14 := Lib.hid (HG13.out.kept hg14 (own_apart' (s := w8.heap.size) (fun k hk => (HGlo.out k hk).1) (fun k hk => by have := (HOlo.out k hk).2; omega)))
  have HX14 := Lib.hid (HX13.out.grown hg14 (fun e => by have := (HOlo.out _ e).1; omega))
  have aX14 := HX14.out.1
  have bX14 := HX14.out.2.1
  have HYW14 := Lib.hid (HYW13.out.grown hg14 (fun e => by have := (HOlo.out _ e).1; omega))
  have aYW14 := HYW14.out.1
  have bYW14 := HYW14.out.2.1
  have HYG14 := Lib.hid (HYG13.out.grown hg14 (fun e => by have := (HOlo.out _ e).2; omega))
  have aYG14 := HYG14.out.1
  have bYG14 := HYG14.out.2.1
  clear hg14 hg14' hown14 HX13 HYW13 HYO13 HYG13 HO13 HW13 HG13 HB13
  clear aX13 bX13 aYW13 bYW13 aYO13 bYO13 aYG13 bYG13
  have hk14 : (0 : Int) ≤ ((1 + z1.length * 2 : Nat) : Int) := by omega
  generalize hK : ((1 + z1.length * 2 : Nat) : Int) = K at *
  clear hK
  have hKd : decide (K < 0) = false := decide_eq_false (by omega)
  go_wp2_with fail
  refine (eqClaim dk xs _ _ _ _ _ (RdMarks.of_own HG14.out Hxi.out) (RdMarks.of_own HW14.out Hxi.out) (Nat.le_refl _) (Nat.le_refl _)).mono ?_
  rintro e w15 ⟨rfl, hb15⟩
  have HX15 := Lib.hid (HX14.out.below hb15)
  have aX15 := HX15.out.1
  have bX15 := HX15.out.2.1
  have HYW15 := Lib.hid (HYW14.out.below hb15)
  have aYW15 := HYW15.out.1
  have bYW15 := HYW15.out.2.1
  have HYG15 := Lib.hid (HYG14.out.below hb15)
  have aYG15 := HYG15.out.1
  have bYG15 := HYG15.out.2.1
  have HW15 := Lib.hid (own_below HW14.out hb15)
  have HG15 := Lib.hid (own_below HG14.out hb15)
  have HB15 := Lib.hid (HB14.out.trans (hb15.mono HB14.out.size))
  clear hb15
  clear HX14 HYW14 HYG14 HW14 HG14 HB14
  clear aX14 bX14 aYW14 bYW14 aYG14 bYG14
  go_wp2_with fail
  refine (markClaimH dk xs 1 (by omega) _ _ _ (by exact HG15.out)).mono ?_
  rintro e w16 ⟨rfl, hown16, hg16'⟩
  have hg16 : w15.grownBy w16 (Value.slice fG xs.length gG).ownBlock := by first | exact hg16' | exact grownBy_drew0 hg16' | exact grownBy_drewX hg16'
  have HB16 := Lib.hid (HB15.out.grown hg16 HB15.out.size (fun k hk => by have := (HGlo.out k hk).1; omega))
  have HW16 := Lib.hid (HW15.out.kept hg16 (own_apart (s := w8.heap.size) (fun k hk => by have := (HWlo.out k hk).2; omega) (fun k hk => (HGlo.out k hk).1)))
  have HX16 := Lib.hid (HX15.out.grown hg16 (fun e => by have := (HGlo.out _ e).1; omega))
  have aX16 := HX16.out.1
  have bX16 := HX16.out.2.1
  have HYW16 := Lib.hid (HYW15.out.grown hg16 (fun e => by have := (HGlo.out _ e).1; omega))
  have aYW16 := HYW16.out.1
  have bYW16 := HYW16.out.2.1
  have HYG16 := Lib.hid (HYG15.out.grown hg16 (fun e => by have := (HGlo.out _ e).2; omega))
  have aYG16 := HYG16.out.1
  have bYG16 := HYG16.out.2.1
  have HR16 := Lib.hid (Hr.out.kept HB16.out)
  generalize hn : xs.length = n at *
  have Hn := Lib.hid hn; clear hn
  have Hrd16 : Hid (RdMarks w16 w16.heap.size (.slice fG n gG) (lay 1 n)) := RdMarks.of_own (by rw [lay_length]; exact hown16) (lay_I64 (by omega))
  clear hg16 hg16' hown16 HX15 HYW15 HYG15 HW15 HG15 HB15
  clear aX15 bX15 aYW15 bYW15 aYG15 bYG15
  have hm16 : (0 : Int) ≤ ((1 + n * 2 : Nat) : Int) := by omega
  generalize hM : 1 + n * 2 = M at *
  have HM := Lib.hid hM; clear hM
  go_wp2_with fail
  refine (heldClaim dk n 1 (by omega) _ _ _ Hrd16.out (Nat.le_refl _)).mono ?_
  rintro e w17 ⟨rfl, hb17⟩
  rw [HM.out]
  have HX17 := Lib.hid (HX16.out.below hb17)
  have aX17 := HX17.out.1
  have bX17 := HX17.out.2.1
  have HYW17 := Lib.hid (HYW16.out.below hb17)
  have aYW17 := HYW17.out.1
  have bYW17 := HYW17.out.2.1
  have HYG17 := Lib.hid (HYG16.out.below hb17)
  have aYG17 := HYG17.out.1
  have bYG17 := HYG17.out.2.1
  have HW17 := Lib.hid (own_below HW16.out hb17)
  have HB17 := Lib.hid (HB16.out.trans (hb17.mono HB16.out.size))
  have HR17 := Lib.hid (Hr.out.kept HB17.out)
  have Hrd17 := Lib.hid (Hrd16.out.kept hb17)
  clear hb17
  clear HX16 HYW16 HYG16 HW16 HB16 HR16 Hrd16
  clear aX16 bX16 aYW16 bYW16 aYG16 bYG16
  go_wp2_with fail
  refine (toClaim k1 z1 hlen _ _ _ HR17.out (Nat.le_refl _)).mono ?_
  rintro e w18 ⟨v18, rfl, hown18, hb18⟩
  have HX18 := Lib.hid (HX17.out.below hb18)
  have aX18 := HX18.out.1
  have bX18 := HX18.out.2.1
  have HYW18 := Lib.hid (HYW17.out.below hb18)
  have aYW18 := HYW18.out.1
  have bYW18 := HYW18.out.2.1
  have HYG18 := Lib.hid (HYG17.out.below hb18)
  have aYG18 := HYG18.out.1
  have bYG18 := HYG18.out.2.1
  have HW18 := Lib.hid (own_below HW17.out hb18)
  have HB18 := Lib.hid (HB17.out.trans (hb18.mono HB17.out.size))
  have Hrd18 := Lib.hid (Hrd17.out.kept hb18)
  have HV18 := Lib.hid hown18
  clear hb18 hown18
  clear HX17 HYW17 HYG17 HW17 HB17 Hrd17 HR17
  clear aX17 bX17 aYW17 bYW17 aYG17 bYG17
  go_wp2_with fail
  refine (Hp.out _ _ _ (RdMarks.of_own HV18.out Hi.out) (Nat.le_refl _)).mono ?_
  rintro e w19 ⟨vV, rfl, hoV, hb19⟩
  rw [show (dk, xs).2.length = n from Hn.out] at hoV
  have HX19 := Lib.hid (HX18.out.below hb19)
  have aX19 := HX19.out.1
  have bX19 := HX19.out.2.1
  have HYW19 := Lib.hid (HYW18.out.below hb19)
  have aYW19 := HYW19.out.1
  have bYW19 := HYW19.out.2.1
  have HYG19 := Lib.hid (HYG18.out.below hb19)
  have aYG19 := HYG19.out.1
  have bYG19 := HYG19.out.2.1
  have HW19 := Lib.hid (own_below HW18.out hb19)
  have HB19 := Lib.hid (HB18.out.trans (hb19.mono HB18.out.size))
  have Hrd19 := Lib.hid (Hrd18.out.kept hb19)
  obtain ⟨fV, gV, hfV⟩ := own_len hoV
  subst hfV
  clear hb19
  clear HX18 HYW18 HYG18 HW18 HB18 Hrd18 HV18
  clear aX18 bX18 aYW18 bYW18 aYG18 bYG18
  go_upto_region 25 with fail
  obtain ⟨w20, hw20, hn20, hb20, hsz20⟩ := Box.new w19 (.int .i64 dk) (.slice fV n gV) TC
  have HV20 := Lib.hid (own_below hoV hb20)
  have HYV20 := Lib.hid hn20
  have aYV20 := HYV20.out.1
  have bYV20 := HYV20.out.2.1
  rw [← hw20]
  clear hw20 hn20 hoV
  have HX20 := Lib.hid (HX19.out.below hb20)
  have aX20 := HX20.out.1
  have bX20 := HX20.out.2.1
  have HYW20 := Lib.hid (HYW19.out.below hb20)
  have aYW20 := HYW20.out.1
  have bYW20 := HYW20.out.2.1
  have HYG20 := Lib.hid (HYG19.out.below hb20)
  have aYG20 := HYG20.out.1
  have bYG20 := HYG20.out.2.1
  have HW20 := Lib.hid (own_below HW19.out hb20)
  have HB20 := Lib.hid (HB19.out.trans (hb20.mono HB19.out.size))
  have Hrd20 := Lib.hid (Hrd19.out.kept hb20)
  clear hb20
  clear HX19 HYW19 HYG19 HW19 HB19 Hrd19
  clear aX19 bX19 aYW19 bYW19 aYG19 bYG19
  have HV20' : Hid (w20.ownsRow w18.heap.size TM 2 (.slice fV n gV) xs.length (mcells xs)) := by unfold Hid; rw [Hn.out]; exact HV20.out
  have HW20' : Hid (w20.ownsRow w4.heap.size TM 2 (.slice fW n gW) xs.length (mcells xs)) := by unfold Hid; rw [Hn.out]; exact HW20.out
  go_wp2_with fail
  refine (eqClaim dk xs _ _ _ _ _ (RdMarks.of_own HV20'.out Hxi.out) (RdMarks.of_own HW20'.out Hxi.out) (Nat.le_refl _) (Nat.le_refl _)).mono ?_
  rintro e w21 ⟨rfl, hb21⟩
  have HX21 := Lib.hid (HX20.out.below hb21)
  have aX21 := HX21.out.1
  have bX21 := HX21.out.2.1
  have HYW21 := Lib.hid (HYW20.out.below hb21)
  have aYW21 := HYW21.out.1
  have bYW21 := HYW21.out.2.1
  have HYG21 := Lib.hid (HYG20.out.below hb21)
  have aYG21 := HYG21.out.1
  have bYG21 := HYG21.out.2.1
  have HB21 := Lib.hid (HB20.out.trans (hb21.mono HB20.out.size))
  have Hrd21 := Lib.hid (Hrd20.out.kept hb21)
  clear hb21 HV20 HV20' HW20' HYV20 aYV20 bYV20
  clear HX20 HYW20 HYG20 HW20 HB20 Hrd20
  clear aX20 bX20 aYW20 bYW20 aYG20 bYG20
  go_wp2_with fail
  refine (heldClaim dk n 1 (by omega) _ _ _ Hrd21.out (Nat.le_refl _)).mono ?_
  rintro e w22 ⟨rfl, hb22⟩
  rw [HM.out]
  have HX22 := Lib.hid (HX21.out.below hb22)
  have aX22 := HX22.out.1
  have bX22 := HX22.out.2.1
  have HYW22 := Lib.hid (HYW21.out.below hb22)
  have aYW22 := HYW22.out.1
  have bYW22 := HYW22.out.2.1
  have HYG22 := Lib.hid (HYG21.out.below hb22)
  have aYG22 := HYG22.out.1
  have bYG22 := HYG22.out.2.1
  have HB22 := Lib.hid (HB21.out.trans (hb22.mono HB21.out.size))
  have Hrd22 := Lib.hid (Hrd21.out.kept hb22)
  clear hb22
  clear HX21 HYW21 HYG21 HB21 Hrd21
  clear aX21 bX21 aYW21 bYW21 aYG21 bYG21
  go_wp2
  go_ret
  exact ⟨rfl, HB22.out⟩

set_option maxRecDepth 100000 in
theorem lifted (os : Os) (started : os.Started) (H : Type) (enc : TypeId × Value → H) :
    ReturnsInHanded {} Try.checked os 16 .any (Rows.fnExactDenyClaimSpec.pre6 enc Try.prog Try.f16 Rows.fnExactDenyClaimRow.domain false) (Rows.fnExactDenyClaimSpec.post enc Try.prog Try.f16 false true false false) := by
  refine returnsInHanded_of_change (C := Try.checked) Try.own started (by kernel_rfl) Try.func16
    (ChangeSpec.witness6 (enc := enc) (C := Try.checked) false ⟨#[], #[.int .i64 0, .agg #[.int .i64 0, .slice none 0 0]], []⟩ 8 (by kernel_rfl) (by kernel_rfl) (by kernel_rfl) (by kernel_rfl)) ?_
  intro W base args ds gs before hval0 hW hcnd _
  have hval : ∀ (j : Nat) t v, Try.f16.params[j]? = some t → args[j]? = some v → Value.okWide Try.prog W .any base t v := hval0
  have hW' := hW
  obtain ⟨p, q, hA0, hV, rfl, hfz, hnd⟩ := hW
  have hA : DataW.TrodAll enc Try.prog W 0 (fun _ => true) true Try.f16.params.toList args.toList ds p := hA0
  rw [Try.params16] at hA hval
  obtain ⟨v0, vs0, d0, ds0, p0, q0, hargs, rfl, rfl, h0, r0⟩ := trodAll_cons hA
  obtain ⟨v1, vs1, d1, ds1, p1, q1, rfl, rfl, rfl, h1, r1⟩ := trodAll_cons r0
  obtain ⟨rfl, rfl, rfl⟩ := trodAll_nil r1
  obtain rfl : args = #[v0, v1] := by cases args; simp_all
  obtain ⟨rfl, rfl⟩ := trodVars_none hV
  obtain ⟨a0, rfl, rfl, rfl, w0⟩ := open_int Try.underlying3 (hval 0 3 v0 rfl rfl) h0
  have k1 := h1
  have lt1 : ∀ x ∈ p1, x.block < W.heap.size := by obtain ⟨m, hm⟩ := k1; exact DataW.trod_lt m _ _ _ hm
  obtain ⟨c1, a1, z1, rfl, wi1, w1⟩ := open_claim Try.underlying46 (by kernel_rfl) (by kernel_rfl) Try.underlying3 Try.underlying44 Try.underlying88 (by kernel_rfl) rfl rfl (by kernel_rfl) (by kernel_rfl) Try.underlying3 Try.underlying3 (hval 1 46 v1 rfl rfl) h1
  clear hA0 hval0
  refine (walk a0 _ _ _ W w0 wi1 w1).mono fun e W' ⟨he, bel⟩ => ?_
  subst he
  exact ⟨_, rfl, _, _, _, [], _, [], hW', trodAll_mk1 (shut_bool Try.underlying4 _), (trodAll_cons_mk (shut_int Try.underlying3 w0) (trodAll_cons_mk (Below.trod Try.laidOut (by kernel_rfl) (of_decide_eq_true (by kernel_rfl)) k1 bel lt1) trodAll_mk0)), rfl, bel.frame _, fun h => by cases h⟩

theorem closed : joinedFacts Try.pinned.checked.prog 16 Try.f16 Rows.fnExactDenyClaimSpec Rows.fnExactDenyClaimRow = true := by
  unfold joinedFacts
  exact (and_tt (and_tt (and_tt (and_tt (and_tt (and_tt (and_tt (and_tt (and_tt (and_tt (and_tt (and_tt (and_tt (and_tt (and_tt (and_tt (and_tt (and_tt (and_tt (and_tt (and_tt (and_tt (and_tt (and_tt (and_tt (and_tt (and_tt (and_tt (and_tt (and_tt (and_tt (by kernel_rfl) (by kernel_rfl)) (by kernel_rfl)) (by kernel_rfl)) (by kernel_rfl)) (by kernel_rfl)) (by kernel_rfl)) (by kernel_rfl)) (by kernel_rfl)) (by kernel_rfl)) (by kernel_rfl)) (by kernel_rfl)) (by kernel_rfl)) (by kernel_rfl)) (by kernel_rfl)) (by kernel_rfl)) (by kernel_rfl)) (by kernel_rfl)) (by kernel_rfl)) (by kernel_rfl)) (by kernel_rfl)) (by kernel_rfl)) (by kernel_rfl)) (by kernel_rfl)) (by kernel_rfl)) Try.mayEnter0) (lifted_tt Try.lifts0 rfl)) (make_tt Try.make0 rfl)) (by kernel_rfl)) (by kernel_rfl)) (by kernel_rfl)) (by kernel_rfl))
theorem over : Rows.fnExactDenyClaimRow.holds Try.pinned (OpenSpec.ofChange Rows.fnExactDenyClaimSpec) :=
  OpenClaim.holds_of_wide 16 Try.f16 rfl rfl rfl rfl rfl rfl rfl ⟨rfl, rfl, rfl, rfl, rfl⟩ rfl rfl rfl rfl rfl (by kernel_rfl) Try.func16 closed
    (of_decide_eq_true (by kernel_rfl)) (by unfold Func.isWrapper; first | (rw [if_pos (by decide +kernel)]; kernel_rfl) | (rw [if_neg (by decide +kernel)]; exact ⟨rfl, rfl⟩))
    (fun os started H enc _ => lifted os started H enc)

theorem proved : Rows.FnExactDenyClaimSaid := over
end Go.Proofs.Ytpccldbcmanhdaa.fnExactDenyClaim

