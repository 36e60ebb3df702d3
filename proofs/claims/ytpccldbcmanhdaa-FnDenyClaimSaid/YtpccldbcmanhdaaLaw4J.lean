/- A law of stage 4: denied twice it is the same. It answers true, whatever the code. No condition. -/
import Derived.Test.YtpccldbcmanhdaaDrawS
import Derived.Test.YtpccldbcmanhdaaDrawH
import Derived.Test.YtpccldbcmanhdaaMirrorS
import Derived.Test.YtpccldbcmanhdaaTruthI
import Derived.Test.YtpccldbcmanhdaaClaimDs
import Derived.Test.YtpccldbcmanhdaaClaimE
import Derived.Test.YtpccldbcmanhdaaLawsA
import Derived.Deep.RegionHeld3
import Derived.Deep.Cut
namespace Go.Proofs.Ytpccldbcmanhdaa
open Go.RowKit
theorem denyV_no {p : Int} {c : Cl} (h : denyOk p c = false) : denyV p c = (0, []) := by unfold denyV; rw [h]; rfl
theorem denyV_is {p k : Int} {ms : List (Int × Int)} (h : denyOk p (k, ms) = true) : denyV p (k, ms) = (k, ms ++ [(2, 0)]) := by unfold denyV; rw [if_pos h]; rfl
theorem deny_I64j (p k : Int) (ms : List (Int × Int)) (hi : I64s ms) : I64s (denyV p (k, ms)).2 := by
  unfold denyV
  split
  · exact I64s_append hi (I64s_one (I64_small (by omega) (by omega)) (I64_small (by omega) (by omega)))
  · intro m hm; simp at hm
end Go.Proofs.Ytpccldbcmanhdaa
namespace Go.Proofs.Ytpccldbcmanhdaa.fnDenyClaim
open Go.ChangeShapes Go.WideShapes Go.ChangeAt Go.RowKit Go.Joins
attribute [local irreducible] holds tabN tabV holdsV sameV followsV alwaysV matterV mirV mirOk mcells tmOf claimOk mayT mayV ctabV ctabN storyV storyOk storyN storyT ctermV ctermL denyV denyOk ccells
open Go.ChangeMaps (open_string shut_string)
set_option linter.unusedVariables false
set_option maxRecDepth 100000 in
set_option maxHeartbeats 8000000 in
theorem walk (a0 : Value) (n0 : Nat) (w : World) (w0 : RdBytes w w.heap.size a0 n0) :
    Calls Try.prog 15 #[a0] w fun e w' => e = .returned (.bool true) ∧ Below w.heap.size w w' := by
  have hr := w0
  by_cases hbig : n0 ≤ 1048576
  case neg =>
    obtain ⟨ao, cap, rfl, hl, hm, hc⟩ := w0
    have hbig' := code_big hbig
    unfold maxLen at hm
    clear hc hr hbig
    go_enter Try.func15, Try.ntmps15
    go_wp2
    go_ret
    exact ⟨rfl, Below.refl _ _⟩
  have hbig' : (n0 : Int) ≤ 1048576 := by omega
  clear hbig
  obtain ⟨ao, cap, rfl, hl, hm, hc⟩ := w0
  have Hr := Lib.hid hr
  clear hc hr hl hm
  go_enter Try.func15, Try.ntmps15
  go_wp2_with fail
  refine (drawDenyClaim _ _ _ Hr.out).mono ?_
  rintro e w1 ⟨p, k, g, cp, ms, hp1, hp8, rfl, hown, hi, hn20, hk1, hk4, hB1⟩
  have Hi := Lib.hid hi
  go_upto_region 4 with fail
  obtain ⟨w2, hw2, hx2, hb2, hsz2⟩ := Box.new w1 (.int .i64 k) (.slice (some ⟨g, 0, none⟩) ms.length cp) TC
  have HO2 := Lib.hid (show w2.ownsRow w.heap.size TM 2 (.slice (some ⟨g, 0, none⟩) ms.length cp) ms.length (mcells ms) by rw [hw2]; exact hown.alloc _)
  have hB2 : Below w.heap.size w w2 := hB1.trans (hb2.mono hB1.size)
  have HX2 := Lib.hid hx2
  have aX2 := HX2.out.1
  have bX2 := HX2.out.2.1
  rw [← hw2]
  clear hw2 hown hi hb2 hx2 hB1
  have him := fun B u W h h2 => implDenyClaim p k ms B u W h h2
  have hsp := fun B u W h h2 => specDenyClaim p k ms B u W h h2 (by omega)
  cases hmay : denyOk p (k, ms) with
  | false =>
    obtain ⟨ns, hns, hdn⟩ : ∃ ns : List (Int × Int), ns = [] ∧ denyV p (k, ms) = (0, ns) := ⟨[], rfl, denyV_no hmay⟩
    rw [hmay, hdn] at him hsp
    have Him := Lib.hid him
    have Hsp := Lib.hid hsp
    have hnil : I64s ns := fun m hm => by rw [hns] at hm; simp at hm
    have hn0 : (ns.length : Int) = 0 := by rw [hns]; rfl
    clear him hsp hmay hns hdn
    go_wp2_with fail
    refine (Him.out _ _ _ (RdMarks.of_own HO2.out Hi.out) (Nat.le_refl _)).mono ?_
    rintro e w3 ⟨vA, rfl, hoA, hb3⟩
    have HX3 := Lib.hid (HX2.out.below hb3)
    have aX3 := HX3.out.1
    have bX3 := HX3.out.2.1
    have HO3 := Lib.hid (own_below HO2.out hb3)
    have hB3 : Below w.heap.size w w3 := hB2.trans (hb3.mono hB2.size)
    obtain ⟨fA, gA, hfA⟩ := own_len hoA
    subst hfA
    clear hb3 aX2 bX2
    go_upto_region 5 with fail
    obtain ⟨w4, hw4, hn4, hb4, hsz4⟩ := Box.new w3 (.int .i64 0) (.slice fA ns.length gA) TC
    have HX4 := Lib.hid (HX3.out.below hb4)
    have aX4 := HX4.out.1
    have bX4 := HX4.out.2.1
    have HO4 := Lib.hid (own_below HO3.out hb4)
    have hB4 : Below w.heap.size w w4 := hB3.trans (hb4.mono hB3.size)
    have HRA4 := Lib.hid (own_below hoA hb4)
    have HA4 := Lib.hid hn4
    have aA4 := HA4.out.1
    have bA4 := HA4.out.2.1
    rw [← hw4]
    clear hw4 hn4 hb4 hoA aX3 bX3
    go_wp2_with fail
    refine (Hsp.out _ _ _ (RdMarks.of_own HO4.out Hi.out) (Nat.le_refl _)).mono ?_
    rintro e w5 ⟨vC, rfl, hoC, hb5⟩
    have HX5 := Lib.hid (HX4.out.below hb5)
    have aX5 := HX5.out.1
    have bX5 := HX5.out.2.1
    have HA5 := Lib.hid (HA4.out.below hb5)
    have aA5 := HA5.out.1
    have bA5 := HA5.out.2.1
    have HO5 := Lib.hid (own_below HO4.out hb5)
    have HRA5 := Lib.hid (own_below HRA4.out hb5)
    have hB5 : Below w.heap.size w w5 := hB4.trans (hb5.mono hB4.size)
    obtain ⟨fC, gC, hfC⟩ := own_len hoC
    subst hfC
    clear hb5 aX4 bX4 aA4 bA4
    go_upto_region 6 with fail
    obtain ⟨w6, hw6, hn6, hb6, hsz6⟩ := Box.new w5 (.int .i64 0) (.slice fC ns.length gC) TC
    have HX6 := Lib.hid (HX5.out.below hb6)
    have aX6 := HX6.out.1
    have bX6 := HX6.out.2.1
    have HA6 := Lib.hid (HA5.out.below hb6)
    have aA6 := HA6.out.1
    have bA6 := HA6.out.2.1
    have HO6 := Lib.hid (own_below HO5.out hb6)
    have HRA6 := Lib.hid (own_below HRA5.out hb6)
    have hB6 : Below w.heap.size w w6 := hB5.trans (hb6.mono hB5.size)
    have HRC6 := Lib.hid (own_below hoC hb6)
    have HC6 := Lib.hid hn6
    have aC6 := HC6.out.1
    have bC6 := HC6.out.2.1
    rw [← hw6]
    clear hw6 hn6 hb6 hoC aX5 bX5 aA5 bA5
    go_wp2_with fail
    refine (sameClaim 0 ns _ _ _ _ _ (RdMarks.of_own HRA6.out hnil) (RdMarks.of_own HRC6.out hnil) (Nat.le_refl _) (Nat.le_refl _)).mono ?_
    rintro e w7 ⟨rfl, hb7⟩
    have HX7 := Lib.hid (HX6.out.below hb7)
    have aX7 := HX7.out.1
    have bX7 := HX7.out.2.1
    have HA7 := Lib.hid (HA6.out.below hb7)
    have aA7 := HA7.out.1
    have bA7 := HA7.out.2.1
    have HC7 := Lib.hid (HC6.out.below hb7)
    have aC7 := HC7.out.1
    have bC7 := HC7.out.2.1
    have HO7 := Lib.hid (own_below HO6.out hb7)
    have hB7 : Below w.heap.size w w7 := hB6.trans (hb7.mono hB6.size)
    clear hb7 aX6 bX6 aA6 bA6 aC6 bC6
    go_wp2_with fail
    refine (alive _).mono ?_
    rintro e w' ⟨rfl, rfl⟩
    go_wp2
    go_ret
    exact ⟨rfl, hB7⟩
  | true =>
    rw [hmay, denyV_is hmay] at him hsp
    obtain ⟨hok, hok2⟩ := denyOk_both hmay
    have hok2' : claimOk p (k, ms ++ [(2, 0)]) = true := hok2
    have hxl : (ms ++ [((2 : Int), (0 : Int))]).length = ms.length + 1 := by simp
    have Hxi := Lib.hid (I64s_append Hi.out (I64s_one (k := 2) (x := 0) (I64_small (by omega) (by omega)) (I64_small (by omega) (by omega))))
    have h22 : denyOk p (k, ms ++ [(2, 0)]) = true → ctabV p (denyV p (k, ms ++ [(2, 0)])) = ctabV p (k, ms) := fun h => by
      rw [denyV_is h]
      exact ctabV_deny2 (c := (k, ms)) hmay h
    have Hdz := Lib.hid (deny_I64j p k (ms ++ [(2, 0)]) Hxi.out)
    have hoc := fun B u W h h2 => implClaimOk p k (ms ++ [(2, 0)]) B u W h h2
    rw [hok2'] at hoc
    have Hz := Lib.hid (fun B u W h h2 => implDenyClaim p k (ms ++ [(2, 0)]) B u W h h2)
    have Hct := Lib.hid (fun B u W h h2 => implClaimTable p k ms B u W h h2)
    generalize ms ++ [((2 : Int), (0 : Int))] = xs at *
    have Him := Lib.hid him
    have Hsp := Lib.hid hsp
    have Hoc := Lib.hid hoc
    have H22 := Lib.hid h22
    have hxl2 : (xs.length : Int) = (ms.length : Int) + 1 := by omega
    have hxe : ((xs.length : Int) == (ms.length : Int) + 1) = true := by rw [beq_iff_eq]; exact hxl2
    have hls : IntKind.i64.wrap ((ms.length : Int) + 1) = (ms.length : Int) + 1 := IntWalk.i64_in _ (by omega)
    clear him hsp hmay hoc h22 hok hok2 hok2' hxl
    go_wp2_with fail
    refine (Him.out _ _ _ (RdMarks.of_own HO2.out Hi.out) (Nat.le_refl _)).mono ?_
    rintro e w3 ⟨vA, rfl, hoA, hb3⟩
    have HX3 := Lib.hid (HX2.out.below hb3)
    have aX3 := HX3.out.1
    have bX3 := HX3.out.2.1
    have HO3 := Lib.hid (own_below HO2.out hb3)
    have hB3 : Below w.heap.size w w3 := hB2.trans (hb3.mono hB2.size)
    obtain ⟨fA, gA, hfA⟩ := own_len hoA
    subst hfA
    clear hb3 aX2 bX2
    go_upto_region 5 with fail
    obtain ⟨w4, hw4, hn4, hb4, hsz4⟩ := Box.new w3 (.int .i64 k) (.slice fA xs.length gA) TC
    have HX4 := Lib.hid (HX3.out.below hb4)
    have aX4 := HX4.out.1
    have bX4 := HX4.out.2.1
    have HO4 := Lib.hid (own_below HO3.out hb4)
    have hB4 : Below w.heap.size w w4 := hB3.trans (hb4.mono hB3.size)
    have HRA4 := Lib.hid (own_below hoA hb4)
    have HA4 := Lib.hid hn4
    have aA4 := HA4.out.1
    have bA4 := HA4.out.2.1
    rw [← hw4]
    clear hw4 hn4 hb4 hoA aX3 bX3
    go_wp2_with fail
    refine (Hsp.out _ _ _ (RdMarks.of_own HO4.out Hi.out) (Nat.le_refl _)).mono ?_
    rintro e w5 ⟨vC, rfl, hoC, hb5⟩
    have HX5 := Lib.hid (HX4.out.below hb5)
    have aX5 := HX5.out.1
    have bX5 := HX5.out.2.1
    have HA5 := Lib.hid (HA4.out.below hb5)
    have aA5 := HA5.out.1
    have bA5 := HA5.out.2.1
    have HO5 := Lib.hid (own_below HO4.out hb5)
    have HRA5 := Lib.hid (own_below HRA4.out hb5)
    have hB5 : Below w.heap.size w w5 := hB4.trans (hb5.mono hB4.size)
    obtain ⟨fC, gC, hfC⟩ := own_len hoC
    subst hfC
    clear hb5 aX4 bX4 aA4 bA4
    go_upto_region 6 with fail
    obtain ⟨w6, hw6, hn6, hb6, hsz6⟩ := Box.new w5 (.int .i64 k) (.slice fC xs.length gC) TC
    have HX6 := Lib.hid (HX5.out.below hb6)
    have aX6 := HX6.out.1
    have bX6 := HX6.out.2.1
    have HA6 := Lib.hid (HA5.out.below hb6)
    have aA6 := HA6.out.1
    have bA6 := HA6.out.2.1
    have HO6 := Lib.hid (own_below HO5.out hb6)
    have HRA6 := Lib.hid (own_below HRA5.out hb6)
    have hB6 : Below w.heap.size w w6 := hB5.trans (hb6.mono hB5.size)
    have HRC6 := Lib.hid (own_below hoC hb6)
    have HC6 := Lib.hid hn6
    have aC6 := HC6.out.1
    have bC6 := HC6.out.2.1
    rw [← hw6]
    clear hw6 hn6 hb6 hoC aX5 bX5 aA5 bA5
    go_wp2_with fail
    refine (sameClaim k xs _ _ _ _ _ (RdMarks.of_own HRA6.out Hxi.out) (RdMarks.of_own HRC6.out Hxi.out) (Nat.le_refl _) (Nat.le_refl _)).mono ?_
    rintro e w7 ⟨rfl, hb7⟩
    have HX7 := Lib.hid (HX6.out.below hb7)
    have aX7 := HX7.out.1
    have bX7 := HX7.out.2.1
    have HA7 := Lib.hid (HA6.out.below hb7)
    have aA7 := HA7.out.1
    have bA7 := HA7.out.2.1
    have HC7 := Lib.hid (HC6.out.below hb7)
    have aC7 := HC7.out.1
    have bC7 := HC7.out.2.1
    have HO7 := Lib.hid (own_below HO6.out hb7)
    have HRA7 := Lib.hid (own_below HRA6.out hb7)
    have hB7 : Below w.heap.size w w7 := hB6.trans (hb7.mono hB6.size)
    clear hb7 aX6 bX6 aA6 bA6 aC6 bC6
    generalize denyV p (k, xs) = dd at *
    obtain ⟨dk, dms⟩ := dd
    have Hdz' : Hid (I64s dms) := Hdz.out
    have Hzt := Lib.hid (fun B u W h h2 => implClaimTable p dk dms B u W h h2)
    generalize denyOk p (k, xs) = can at *
    go_wp2_with fail
    refine (Hz.out _ _ _ (RdMarks.of_own HRA7.out Hxi.out) (Nat.le_refl _)).mono ?_
    rintro e w8 ⟨vZ, rfl, hoZ, hb8⟩
    have HX8 := Lib.hid (HX7.out.below hb8)
    have aX8 := HX8.out.1
    have bX8 := HX8.out.2.1
    have HA8 := Lib.hid (HA7.out.below hb8)
    have aA8 := HA8.out.1
    have bA8 := HA8.out.2.1
    have HO8 := Lib.hid (own_below HO7.out hb8)
    have HRA8 := Lib.hid (own_below HRA7.out hb8)
    have hB8 : Below w.heap.size w w8 := hB7.trans (hb8.mono hB7.size)
    obtain ⟨fZ, gZ, hfZ⟩ := own_len hoZ
    subst hfZ
    clear hb8 aX7 bX7 aA7 bA7
    go_upto_region 11 with fail
    obtain ⟨w9, hw9, hn9, hb9, hsz9⟩ := Box.new w8 (.int .i64 dk) (.slice fZ dms.length gZ) TC
    have HX9 := Lib.hid (HX8.out.below hb9)
    have aX9 := HX9.out.1
    have bX9 := HX9.out.2.1
    have HA9 := Lib.hid (HA8.out.below hb9)
    have aA9 := HA9.out.1
    have bA9 := HA9.out.2.1
    have HO9 := Lib.hid (own_below HO8.out hb9)
    have HRA9 := Lib.hid (own_below HRA8.out hb9)
    have hB9 : Below w.heap.size w w9 := hB8.trans (hb9.mono hB8.size)
    have HRZ9 := Lib.hid (own_below hoZ hb9)
    have HZ9 := Lib.hid hn9
    have aZ9 := HZ9.out.1
    have bZ9 := HZ9.out.2.1
    rw [← hw9]
    clear hw9 hn9 hb9 hoZ aX8 bX8 aA8 bA8
    generalize ctabV p (dk, dms) = TZ at *
    generalize ctabV p (k, ms) = T at *
    have HB9 := Lib.hid hB9
    clear hB2 hB3 hB4 hB5 hB6 hB7 hB8 hB9 HX2 HX3 HX4 HX5 HX6 HX7 HX8 HO2 HO3 HO4 HO5 HO6 HO7 HO8 HA4 HA5 HA6 HA7 HA8 HC6 HC7 HRA4 HRA5 HRA6 HRA7 HRA8 HRC6 aC7 bC7 Hdz Hz Him Hsp
    cases can with
    | true =>
      have hzz := H22.out rfl
      subst hzz
      clear H22
      refine wp_region_held_drew (S := (fun w' => w'.cell? ⟨w1.heap.size, 0, none⟩ = some (.int .i64 k) ∧ w'.cell? ⟨w1.heap.size, 1, none⟩ = some (.slice (some ⟨g, 0, none⟩) ms.length cp) ∧ w'.cell? ⟨w3.heap.size, 0, none⟩ = some (.int .i64 k) ∧ w'.cell? ⟨w3.heap.size, 1, none⟩ = some (.slice fA xs.length gA) ∧ w'.cell? ⟨w8.heap.size, 0, none⟩ = some (.int .i64 dk) ∧ w'.cell? ⟨w8.heap.size, 1, none⟩ = some (.slice fZ dms.length gZ))) (by kernel_rfl) ?_ (fun hHeld => ?_)
      · (try dsimp only); (first | (refine ⟨?_, ?_, ?_, ?_, ?_, ?_⟩ <;> first | go_keep | assumption) | assumption)
      refine wpAnyH_take (i := 0) (v := ?_) rfl (by kernel_rfl) (by kernel_rfl) (by kernel_rfl) (fun _ _ _ h => h) (Or.inl ⟨by rfl, ?_⟩) (by assumption) ?_
      rotate_left
      · (intro w hSw; (try dsimp only at hSw); go_simp; try with_reducible rfl)
      try simp only [List.getElem_toArray, List.getElem_cons_succ, List.getElem_cons_zero, Act.put, List.setIfInBounds_toArray, List.set_cons_zero, List.set_cons_succ]
      refine wpAnyH_take (i := 1) (v := ?_) rfl (by kernel_rfl) (by kernel_rfl) (by kernel_rfl) (fun _ _ _ h => h) (Or.inl ⟨by rfl, ?_⟩) (by assumption) ?_
      rotate_left
      · (intro w hSw; (try dsimp only at hSw); go_simp; try with_reducible rfl)
      try simp only [List.getElem_toArray, List.getElem_cons_succ, List.getElem_cons_zero, Act.put, List.setIfInBounds_toArray, List.set_cons_zero, List.set_cons_succ]
      refine wpAnyH_ready (rs := [2]) (by kernel_rfl) (by simp) (AllReadyH.cons rfl (fun K hK => ?_) AllReadyH.nil)
      go_simp
      refine (Hoc.out w9.heap.size _ _ ?_ ?_).mono ?_
      · exact RdMarks.of_own HRA9.out Hxi.out
      · exact Nat.le_refl _
      rintro e wa ⟨rfl, hbwa'⟩
      have hbwa : Below w9.heap.size w9 wa := by first | exact hbwa' | exact below_undrewS hbwa' | exact below_undrewN hbwa'
      clear hbwa'
      have HXa := Lib.hid (HX9.out.below hbwa)
      have aXa := HXa.out.1
      have bXa := HXa.out.2.1
      have HAa := Lib.hid (HA9.out.below hbwa)
      have aAa := HAa.out.1
      have bAa := HAa.out.2.1
      have HZa := Lib.hid (HZ9.out.below hbwa)
      have aZa := HZa.out.1
      have bZa := HZa.out.2.1
      have HOa := Lib.hid (own_below HO9.out hbwa)
      have HRZa := Lib.hid (own_below HRZ9.out hbwa)
      have HBa := Lib.hid (HB9.out.trans (hbwa.mono HB9.out.size))
      clear hbwa aX9 bX9 aA9 bA9 aZ9 bZ9
      refine hK.out _ _ ?_ (fun hHeld => ?_)
      · (try dsimp only); (first | (refine ⟨?_, ?_, ?_, ?_, ?_, ?_⟩ <;> first | go_keep | assumption) | assumption)
      clear hK K
      try simp only [List.getElem_toArray, List.getElem_cons_succ, List.getElem_cons_zero, Act.put, List.setIfInBounds_toArray, List.set_cons_zero, List.set_cons_succ]
      refine wpAnyH_take (i := 3) (v := ?_) rfl (by kernel_rfl) (by kernel_rfl) (by kernel_rfl) (fun _ _ _ h => h) (Or.inl ⟨by rfl, ?_⟩) (by assumption) ?_
      rotate_left
      · (intro w hSw; (try dsimp only at hSw); go_simp; try with_reducible rfl)
      try simp only [List.getElem_toArray, List.getElem_cons_succ, List.getElem_cons_zero, Act.put, List.setIfInBounds_toArray, List.set_cons_zero, List.set_cons_succ]
      refine wpAnyH_take (i := 4) (v := ?_) rfl (by kernel_rfl) (by kernel_rfl) (by kernel_rfl) (fun _ _ _ h => h) (Or.inl ⟨by rfl, ?_⟩) (by assumption) ?_
      rotate_left
      · (intro w hSw; (try dsimp only at hSw); go_simp; try with_reducible rfl)
      try simp only [List.getElem_toArray, List.getElem_cons_succ, List.getElem_cons_zero, Act.put, List.setIfInBounds_toArray, List.set_cons_zero, List.set_cons_succ]
      refine wpAnyH_take (i := 5) (v := ?_) rfl (by kernel_rfl) (by kernel_rfl) (by kernel_rfl) (fun _ _ _ h => h) (Or.inl ⟨by rfl, ?_⟩) (by assumption) ?_
      rotate_left
      · (intro w hSw; (try dsimp only at hSw); go_simp; try with_reducible rfl)
      try simp only [List.getElem_toArray, List.getElem_cons_succ, List.getElem_cons_zero, Act.put, List.setIfInBounds_toArray, List.set_cons_zero, List.set_cons_succ]
      refine wpAnyH_take (i := 6) (v := ?_) rfl (by kernel_rfl) (by kernel_rfl) (by kernel_rfl) (fun _ _ _ h => h) (Or.inl ⟨by rfl, ?_⟩) (by assumption) ?_
      rotate_left
      · (intro w hSw; (try dsimp only at hSw); go_simp; try with_reducible rfl)
      try simp only [List.getElem_toArray, List.getElem_cons_succ, List.getElem_cons_zero, Act.put, List.setIfInBounds_toArray, List.set_cons_zero, List.set_cons_succ]
      refine wpAnyH_take (i := 7) (v := ?_) rfl (by kernel_rfl) (by kernel_rfl) (by kernel_rfl) (fun _ _ _ h => h) (Or.inl ⟨by rfl, ?_⟩) (by assumption) ?_
      rotate_left
      · (intro w hSw; (try dsimp only at hSw); go_simp; try with_reducible rfl)
      try simp only [List.getElem_toArray, List.getElem_cons_succ, List.getElem_cons_zero, Act.put, List.setIfInBounds_toArray, List.set_cons_zero, List.set_cons_succ]
      refine wpAnyH_take (i := 8) (v := ?_) rfl (by kernel_rfl) (by kernel_rfl) (by kernel_rfl) (fun _ _ _ h => h) (Or.inl ⟨by rfl, ?_⟩) (by assumption) ?_
      rotate_left
      · (intro w hSw; (try dsimp only at hSw); go_simp; try with_reducible rfl)
      try simp only [List.getElem_toArray, List.getElem_cons_succ, List.getElem_cons_zero, Act.put, List.setIfInBounds_toArray, List.set_cons_zero, List.set_cons_succ]
      refine wpAnyH_take (i := 9) (v := ?_) rfl (by kernel_rfl) (by kernel_rfl) (by kernel_rfl) (fun _ _ _ h => h) (Or.inl ⟨by rfl, ?_⟩) (by assumption) ?_
      rotate_left
      · (intro w hSw; (try dsimp only at hSw); go_simp; try with_reducible rfl)
      try simp only [List.getElem_toArray, List.getElem_cons_succ, List.getElem_cons_zero, Act.put, List.setIfInBounds_toArray, List.set_cons_zero, List.set_cons_succ]
      refine wpAnyH_take (i := 10) (v := ?_) rfl (by kernel_rfl) (by kernel_rfl) (by kernel_rfl) (fun _ _ _ h => h) (Or.inl ⟨by rfl, ?_⟩) (by assumption) ?_
      rotate_left
      · (intro w hSw; (try dsimp only at hSw); go_simp; try with_reducible rfl)
      try simp only [List.getElem_toArray, List.getElem_cons_succ, List.getElem_cons_zero, Act.put, List.setIfInBounds_toArray, List.set_cons_zero, List.set_cons_succ]
      refine wpAnyH_take (i := 11) (v := ?_) rfl (by kernel_rfl) (by kernel_rfl) (by kernel_rfl) (fun _ _ _ h => h) (Or.inl ⟨by rfl, ?_⟩) (by assumption) ?_
      rotate_left
      · (intro w hSw; (try dsimp only at hSw); go_simp; try with_reducible rfl)
      try simp only [List.getElem_toArray, List.getElem_cons_succ, List.getElem_cons_zero, Act.put, List.setIfInBounds_toArray, List.set_cons_zero, List.set_cons_succ]
      refine wpAnyH_take (i := 12) (v := ?_) rfl (by kernel_rfl) (by kernel_rfl) (by kernel_rfl) (fun _ _ _ h => h) (Or.inl ⟨by rfl, ?_⟩) (by assumption) ?_
      rotate_left
      · (intro w hSw; (try dsimp only at hSw); go_simp; try with_reducible rfl)
      try simp only [List.getElem_toArray, List.getElem_cons_succ, List.getElem_cons_zero, Act.put, List.setIfInBounds_toArray, List.set_cons_zero, List.set_cons_succ]
      refine wpAnyH_take (i := 13) (v := ?_) rfl (by kernel_rfl) (by kernel_rfl) (by kernel_rfl) (fun _ _ _ h => h) (Or.inl ⟨by rfl, ?_⟩) (by assumption) ?_
      rotate_left
      · (intro w hSw; (try dsimp only at hSw); go_simp; try with_reducible rfl)
      try simp only [List.getElem_toArray, List.getElem_cons_succ, List.getElem_cons_zero, Act.put, List.setIfInBounds_toArray, List.set_cons_zero, List.set_cons_succ]
      refine wpAnyH_take (i := 14) (v := ?_) rfl (by kernel_rfl) (by kernel_rfl) (by kernel_rfl) (fun _ _ _ h => h) (Or.inl ⟨by rfl, ?_⟩) (by assumption) ?_
      rotate_left
      · (intro w hSw; (try dsimp only at hSw); go_simp; try with_reducible rfl)
      try simp only [List.getElem_toArray, List.getElem_cons_succ, List.getElem_cons_zero, Act.put, List.setIfInBounds_toArray, List.set_cons_zero, List.set_cons_succ]
      refine wpAnyH_take (i := 15) (v := ?_) rfl (by kernel_rfl) (by kernel_rfl) (by kernel_rfl) (fun _ _ _ h => h) (Or.inl ⟨by rfl, ?_⟩) (by assumption) ?_
      rotate_left
      · (intro w hSw; (try dsimp only at hSw); go_simp; try with_reducible rfl)
      try simp only [List.getElem_toArray, List.getElem_cons_succ, List.getElem_cons_zero, Act.put, List.setIfInBounds_toArray, List.set_cons_zero, List.set_cons_succ]
      refine wpAnyH_take (i := 16) (v := ?_) rfl (by kernel_rfl) (by kernel_rfl) (by kernel_rfl) (fun _ _ _ h => h) (Or.inl ⟨by rfl, ?_⟩) (by assumption) ?_
      rotate_left
      · (intro w hSw; (try dsimp only at hSw); go_simp; try with_reducible rfl)
      try simp only [List.getElem_toArray, List.getElem_cons_succ, List.getElem_cons_zero, Act.put, List.setIfInBounds_toArray, List.set_cons_zero, List.set_cons_succ]
      refine wpAnyH_take (i := 17) (v := ?_) rfl (by kernel_rfl) (by kernel_rfl) (by kernel_rfl) (fun _ _ _ h => h) (Or.inl ⟨by rfl, ?_⟩) (by assumption) ?_
      rotate_left
      · (intro w hSw; (try dsimp only at hSw); go_simp; try with_reducible rfl)
      try simp only [List.getElem_toArray, List.getElem_cons_succ, List.getElem_cons_zero, Act.put, List.setIfInBounds_toArray, List.set_cons_zero, List.set_cons_succ]
      refine wpAnyH_take (i := 18) (v := ?_) rfl (by kernel_rfl) (by kernel_rfl) (by kernel_rfl) (fun _ _ _ h => h) (Or.inl ⟨by rfl, ?_⟩) (by assumption) ?_
      rotate_left
      · (intro w hSw; (try dsimp only at hSw); go_simp; try with_reducible rfl)
      try simp only [List.getElem_toArray, List.getElem_cons_succ, List.getElem_cons_zero, Act.put, List.setIfInBounds_toArray, List.set_cons_zero, List.set_cons_succ]
      refine wpAnyH_take (i := 19) (v := ?_) rfl (by kernel_rfl) (by kernel_rfl) (by kernel_rfl) (fun _ _ _ h => h) (Or.inl ⟨by rfl, ?_⟩) (by assumption) ?_
      rotate_left
      · (intro w hSw; (try dsimp only at hSw); go_simp; try with_reducible rfl)
      try simp only [List.getElem_toArray, List.getElem_cons_succ, List.getElem_cons_zero, Act.put, List.setIfInBounds_toArray, List.set_cons_zero, List.set_cons_succ]
      refine wpAnyH_take (i := 20) (v := ?_) rfl (by kernel_rfl) (by kernel_rfl) (by kernel_rfl) (fun _ _ _ h => h) (Or.inl ⟨by rfl, ?_⟩) (by assumption) ?_
      rotate_left
      · (intro w hSw; (try dsimp only at hSw); go_simp; try with_reducible rfl)
      try simp only [List.getElem_toArray, List.getElem_cons_succ, List.getElem_cons_zero, Act.put, List.setIfInBounds_toArray, List.set_cons_zero, List.set_cons_succ]
      refine wpAnyH_take (i := 21) (v := ?_) rfl (by kernel_rfl) (by kernel_rfl) (by kernel_rfl) (fun _ _ _ h => h) (Or.inl ⟨by rfl, ?_⟩) (by assumption) ?_
      rotate_left
      · (intro w hSw; (try dsimp only at hSw); go_simp; try with_reducible rfl)
      try simp only [List.getElem_toArray, List.getElem_cons_succ, List.getElem_cons_zero, Act.put, List.setIfInBounds_toArray, List.set_cons_zero, List.set_cons_succ]
      refine wpAnyH_take (i := 22) (v := ?_) rfl (by kernel_rfl) (by kernel_rfl) (by kernel_rfl) (fun _ _ _ h => h) (Or.inl ⟨by rfl, ?_⟩) (by assumption) ?_
      rotate_left
      · (intro w hSw; (try dsimp only at hSw); go_simp; try with_reducible rfl)
      try simp only [List.getElem_toArray, List.getElem_cons_succ, List.getElem_cons_zero, Act.put, List.setIfInBounds_toArray, List.set_cons_zero, List.set_cons_succ]
      refine wpAnyH_take (i := 23) (v := ?_) rfl (by kernel_rfl) (by kernel_rfl) (by kernel_rfl) (fun _ _ _ h => h) (Or.inl ⟨by rfl, ?_⟩) (by assumption) ?_
      rotate_left
      · (intro w hSw; (try dsimp only at hSw); go_simp; try with_reducible rfl)
      try simp only [List.getElem_toArray, List.getElem_cons_succ, List.getElem_cons_zero, Act.put, List.setIfInBounds_toArray, List.set_cons_zero, List.set_cons_succ]
      refine wpAnyH_take (i := 24) (v := ?_) rfl (by kernel_rfl) (by kernel_rfl) (by kernel_rfl) (fun _ _ _ h => h) (Or.inl ⟨by rfl, ?_⟩) (by assumption) ?_
      rotate_left
      · (intro w hSw; (try dsimp only at hSw); go_simp; try with_reducible rfl)
      try simp only [List.getElem_toArray, List.getElem_cons_succ, List.getElem_cons_zero, Act.put, List.setIfInBounds_toArray, List.set_cons_zero, List.set_cons_succ]
      refine wpAnyH_take (i := 25) (v := ?_) rfl (by kernel_rfl) (by kernel_rfl) (by kernel_rfl) (fun _ _ _ h => h) (Or.inl ⟨by rfl, ?_⟩) (by assumption) ?_
      rotate_left
      · (intro w hSw; (try dsimp only at hSw); go_simp; try with_reducible rfl)
      try simp only [List.getElem_toArray, List.getElem_cons_succ, List.getElem_cons_zero, Act.put, List.setIfInBounds_toArray, List.set_cons_zero, List.set_cons_succ]
      refine wpAnyH_take (i := 27) (v := ?_) rfl (by kernel_rfl) (by kernel_rfl) (by kernel_rfl) (fun _ _ _ h => h) (Or.inl ⟨by rfl, ?_⟩) (by assumption) ?_
      rotate_left
      · (intro w hSw; (try dsimp only at hSw); go_simp; try with_reducible rfl)
      try simp only [List.getElem_toArray, List.getElem_cons_succ, List.getElem_cons_zero, Act.put, List.setIfInBounds_toArray, List.set_cons_zero, List.set_cons_succ]
      refine wpAnyH_take (i := 28) (v := ?_) rfl (by kernel_rfl) (by kernel_rfl) (by kernel_rfl) (fun _ _ _ h => h) (Or.inl ⟨by rfl, ?_⟩) (by assumption) ?_
      rotate_left
      · (intro w hSw; (try dsimp only at hSw); go_simp; try with_reducible rfl)
      try simp only [List.getElem_toArray, List.getElem_cons_succ, List.getElem_cons_zero, Act.put, List.setIfInBounds_toArray, List.set_cons_zero, List.set_cons_succ]
      refine wpAnyH_ready (rs := [26]) (by kernel_rfl) (by simp) (AllReadyH.cons rfl (fun K hK => ?_) AllReadyH.nil)
      go_simp
      refine (Hzt.out wa.heap.size _ _ ?_ ?_).mono ?_
      · exact RdMarks.of_own HRZa.out Hdz'.out
      · exact Nat.le_refl _
      rintro e wb ⟨rfl, hbwb'⟩
      have hbwb : Below wa.heap.size wa wb := by first | exact hbwb' | exact below_undrewS hbwb' | exact below_undrewN hbwb'
      clear hbwb'
      have HXb := Lib.hid (HXa.out.below hbwb)
      have aXb := HXb.out.1
      have bXb := HXb.out.2.1
      have HAb := Lib.hid (HAa.out.below hbwb)
      have aAb := HAb.out.1
      have bAb := HAb.out.2.1
      have HZb := Lib.hid (HZa.out.below hbwb)
      have aZb := HZb.out.1
      have bZb := HZb.out.2.1
      have HOb := Lib.hid (own_below HOa.out hbwb)
      have HRZb := Lib.hid (own_below HRZa.out hbwb)
      have HBb := Lib.hid (HBa.out.trans (hbwb.mono HBa.out.size))
      clear hbwb aXa bXa aAa bAa aZa bZa
      refine hK.out _ _ ?_ (fun hHeld => ?_)
      · (try dsimp only); (first | (refine ⟨?_, ?_, ?_, ?_, ?_, ?_⟩ <;> first | go_keep | assumption) | assumption)
      clear hK K
      try simp only [List.getElem_toArray, List.getElem_cons_succ, List.getElem_cons_zero, Act.put, List.setIfInBounds_toArray, List.set_cons_zero, List.set_cons_succ]
      refine wpAnyH_ready (rs := [29]) (by kernel_rfl) (by simp) (AllReadyH.cons rfl (fun K hK => ?_) AllReadyH.nil)
      go_simp
      refine (Hct.out wb.heap.size _ _ ?_ ?_).mono ?_
      · exact RdMarks.of_own HOb.out Hi.out
      · exact Nat.le_refl _
      rintro e wc ⟨rfl, hbwc'⟩
      have hbwc : Below wb.heap.size wb wc := by first | exact hbwc' | exact below_undrewS hbwc' | exact below_undrewN hbwc'
      clear hbwc'
      have HXc := Lib.hid (HXb.out.below hbwc)
      have aXc := HXc.out.1
      have bXc := HXc.out.2.1
      have HAc := Lib.hid (HAb.out.below hbwc)
      have aAc := HAc.out.1
      have bAc := HAc.out.2.1
      have HZc := Lib.hid (HZb.out.below hbwc)
      have aZc := HZc.out.1
      have bZc := HZc.out.2.1
      have HOc := Lib.hid (own_below HOb.out hbwc)
      have HRZc := Lib.hid (own_below HRZb.out hbwc)
      have HBc := Lib.hid (HBb.out.trans (hbwc.mono HBb.out.size))
      clear hbwc aXb bXb aAb bAb aZb bZb
      refine hK.out _ _ ?_ (fun hHeld => ?_)
      · (try dsimp only); (first | (refine ⟨?_, ?_, ?_, ?_, ?_, ?_⟩ <;> first | go_keep | assumption) | assumption)
      clear hK K
      try simp only [List.getElem_toArray, List.getElem_cons_succ, List.getElem_cons_zero, Act.put, List.setIfInBounds_toArray, List.set_cons_zero, List.set_cons_succ]
      refine wpAnyH_take (i := 30) (v := ?_) rfl (by kernel_rfl) (by kernel_rfl) (by kernel_rfl) (fun _ _ _ h => h) (Or.inl ⟨by rfl, ?_⟩) (by assumption) ?_
      rotate_left
      · (intro w hSw; (try dsimp only at hSw); go_simp; try with_reducible rfl)
      try simp only [List.getElem_toArray, List.getElem_cons_succ, List.getElem_cons_zero, Act.put, List.setIfInBounds_toArray, List.set_cons_zero, List.set_cons_succ]
      refine wpAnyH_take (i := 31) (v := ?_) rfl (by kernel_rfl) (by kernel_rfl) (by kernel_rfl) (fun _ _ _ h => h) (Or.inl ⟨by rfl, ?_⟩) (by assumption) ?_
      rotate_left
      · (intro w hSw; (try dsimp only at hSw); go_simp; try with_reducible rfl)
      try simp only [List.getElem_toArray, List.getElem_cons_succ, List.getElem_cons_zero, Act.put, List.setIfInBounds_toArray, List.set_cons_zero, List.set_cons_succ]
      refine wpAnyH_take (i := 32) (v := ?_) rfl (by kernel_rfl) (by kernel_rfl) (by kernel_rfl) (fun _ _ _ h => h) (Or.inl ⟨by rfl, ?_⟩) (by assumption) ?_
      rotate_left
      · (intro w hSw; (try dsimp only at hSw); go_simp; try with_reducible rfl)
      try simp only [List.getElem_toArray, List.getElem_cons_succ, List.getElem_cons_zero, Act.put, List.setIfInBounds_toArray, List.set_cons_zero, List.set_cons_succ]
      refine wpAnyH_take (i := 33) (v := ?_) rfl (by kernel_rfl) (by kernel_rfl) (by kernel_rfl) (fun _ _ _ h => h) (Or.inl ⟨by rfl, ?_⟩) (by assumption) ?_
      rotate_left
      · (intro w hSw; (try dsimp only at hSw); go_simp; try with_reducible rfl)
      try simp only [List.getElem_toArray, List.getElem_cons_succ, List.getElem_cons_zero, Act.put, List.setIfInBounds_toArray, List.set_cons_zero, List.set_cons_succ]
      refine wpAnyH_done (by kernel_rfl) ?_ _
      go_wp2
      go_ret
      exact ⟨by first | rfl | (simp; done) | exact ret_bool (by simp; omega), by first | exact HBc.out | exact below_drew1 HBc.out | exact below_drewN HBc.out _⟩
    | false =>
      clear H22 Hzt Hct
      refine wp_region_held_drew (S := (fun w' => w'.cell? ⟨w1.heap.size, 0, none⟩ = some (.int .i64 k) ∧ w'.cell? ⟨w1.heap.size, 1, none⟩ = some (.slice (some ⟨g, 0, none⟩) ms.length cp) ∧ w'.cell? ⟨w3.heap.size, 0, none⟩ = some (.int .i64 k) ∧ w'.cell? ⟨w3.heap.size, 1, none⟩ = some (.slice fA xs.length gA) ∧ w'.cell? ⟨w8.heap.size, 0, none⟩ = some (.int .i64 dk) ∧ w'.cell? ⟨w8.heap.size, 1, none⟩ = some (.slice fZ dms.length gZ))) (by kernel_rfl) ?_ (fun hHeld => ?_)
      · (try dsimp only); (first | (refine ⟨?_, ?_, ?_, ?_, ?_, ?_⟩ <;> first | go_keep | assumption) | assumption)
      refine wpAnyH_take (i := 0) (v := ?_) rfl (by kernel_rfl) (by kernel_rfl) (by kernel_rfl) (fun _ _ _ h => h) (Or.inl ⟨by rfl, ?_⟩) (by assumption) ?_
      rotate_left
      · (intro w hSw; (try dsimp only at hSw); go_simp; try with_reducible rfl)
      try simp only [List.getElem_toArray, List.getElem_cons_succ, List.getElem_cons_zero, Act.put, List.setIfInBounds_toArray, List.set_cons_zero, List.set_cons_succ]
      refine wpAnyH_take (i := 1) (v := ?_) rfl (by kernel_rfl) (by kernel_rfl) (by kernel_rfl) (fun _ _ _ h => h) (Or.inl ⟨by rfl, ?_⟩) (by assumption) ?_
      rotate_left
      · (intro w hSw; (try dsimp only at hSw); go_simp; try with_reducible rfl)
      try simp only [List.getElem_toArray, List.getElem_cons_succ, List.getElem_cons_zero, Act.put, List.setIfInBounds_toArray, List.set_cons_zero, List.set_cons_succ]
      refine wpAnyH_ready (rs := [2]) (by kernel_rfl) (by simp) (AllReadyH.cons rfl (fun K hK => ?_) AllReadyH.nil)
      go_simp
      refine (Hoc.out w9.heap.size _ _ ?_ ?_).mono ?_
      · exact RdMarks.of_own HRA9.out Hxi.out
      · exact Nat.le_refl _
      rintro e wa ⟨rfl, hbwa'⟩
      have hbwa : Below w9.heap.size w9 wa := by first | exact hbwa' | exact below_undrewS hbwa' | exact below_undrewN hbwa'
      clear hbwa'
      have HXa := Lib.hid (HX9.out.below hbwa)
      have aXa := HXa.out.1
      have bXa := HXa.out.2.1
      have HAa := Lib.hid (HA9.out.below hbwa)
      have aAa := HAa.out.1
      have bAa := HAa.out.2.1
      have HZa := Lib.hid (HZ9.out.below hbwa)
      have aZa := HZa.out.1
      have bZa := HZa.out.2.1
      have HOa := Lib.hid (own_below HO9.out hbwa)
      have HRZa := Lib.hid (own_below HRZ9.out hbwa)
      have HBa := Lib.hid (HB9.out.trans (hbwa.mono HB9.out.size))
      clear hbwa aX9 bX9 aA9 bA9 aZ9 bZ9
      refine hK.out _ _ ?_ (fun hHeld => ?_)
      · (try dsimp only); (first | (refine ⟨?_, ?_, ?_, ?_, ?_, ?_⟩ <;> first | go_keep | assumption) | assumption)
      clear hK K
      try simp only [List.getElem_toArray, List.getElem_cons_succ, List.getElem_cons_zero, Act.put, List.setIfInBounds_toArray, List.set_cons_zero, List.set_cons_succ]
      refine wpAnyH_take (i := 3) (v := ?_) rfl (by kernel_rfl) (by kernel_rfl) (by kernel_rfl) (fun _ _ _ h => h) (Or.inl ⟨by rfl, ?_⟩) (by assumption) ?_
      rotate_left
      · (intro w hSw; (try dsimp only at hSw); go_simp; try with_reducible rfl)
      try simp only [List.getElem_toArray, List.getElem_cons_succ, List.getElem_cons_zero, Act.put, List.setIfInBounds_toArray, List.set_cons_zero, List.set_cons_succ]
      refine wpAnyH_take (i := 4) (v := ?_) rfl (by kernel_rfl) (by kernel_rfl) (by kernel_rfl) (fun _ _ _ h => h) (Or.inl ⟨by rfl, ?_⟩) (by assumption) ?_
      rotate_left
      · (intro w hSw; (try dsimp only at hSw); go_simp; try with_reducible rfl)
      try simp only [List.getElem_toArray, List.getElem_cons_succ, List.getElem_cons_zero, Act.put, List.setIfInBounds_toArray, List.set_cons_zero, List.set_cons_succ]
      refine wpAnyH_take (i := 5) (v := ?_) rfl (by kernel_rfl) (by kernel_rfl) (by kernel_rfl) (fun _ _ _ h => h) (Or.inl ⟨by rfl, ?_⟩) (by assumption) ?_
      rotate_left
      · (intro w hSw; (try dsimp only at hSw); go_simp; try with_reducible rfl)
      try simp only [List.getElem_toArray, List.getElem_cons_succ, List.getElem_cons_zero, Act.put, List.setIfInBounds_toArray, List.set_cons_zero, List.set_cons_succ]
      refine wpAnyH_take (i := 6) (v := ?_) rfl (by kernel_rfl) (by kernel_rfl) (by kernel_rfl) (fun _ _ _ h => h) (Or.inl ⟨by rfl, ?_⟩) (by assumption) ?_
      rotate_left
      · (intro w hSw; (try dsimp only at hSw); go_simp; try with_reducible rfl)
      try simp only [List.getElem_toArray, List.getElem_cons_succ, List.getElem_cons_zero, Act.put, List.setIfInBounds_toArray, List.set_cons_zero, List.set_cons_succ]
      refine wpAnyH_take (i := 7) (v := ?_) rfl (by kernel_rfl) (by kernel_rfl) (by kernel_rfl) (fun _ _ _ h => h) (Or.inl ⟨by rfl, ?_⟩) (by assumption) ?_
      rotate_left
      · (intro w hSw; (try dsimp only at hSw); go_simp; try with_reducible rfl)
      try simp only [List.getElem_toArray, List.getElem_cons_succ, List.getElem_cons_zero, Act.put, List.setIfInBounds_toArray, List.set_cons_zero, List.set_cons_succ]
      refine wpAnyH_take (i := 8) (v := ?_) rfl (by kernel_rfl) (by kernel_rfl) (by kernel_rfl) (fun _ _ _ h => h) (Or.inl ⟨by rfl, ?_⟩) (by assumption) ?_
      rotate_left
      · (intro w hSw; (try dsimp only at hSw); go_simp; try with_reducible rfl)
      try simp only [List.getElem_toArray, List.getElem_cons_succ, List.getElem_cons_zero, Act.put, List.setIfInBounds_toArray, List.set_cons_zero, List.set_cons_succ]
      refine wpAnyH_take (i := 9) (v := ?_) rfl (by kernel_rfl) (by kernel_rfl) (by kernel_rfl) (fun _ _ _ h => h) (Or.inl ⟨by rfl, ?_⟩) (by assumption) ?_
      rotate_left
      · (intro w hSw; (try dsimp only at hSw); go_simp; try with_reducible rfl)
      try simp only [List.getElem_toArray, List.getElem_cons_succ, List.getElem_cons_zero, Act.put, List.setIfInBounds_toArray, List.set_cons_zero, List.set_cons_succ]
      refine wpAnyH_take (i := 10) (v := ?_) rfl (by kernel_rfl) (by kernel_rfl) (by kernel_rfl) (fun _ _ _ h => h) (Or.inl ⟨by rfl, ?_⟩) (by assumption) ?_
      rotate_left
      · (intro w hSw; (try dsimp only at hSw); go_simp; try with_reducible rfl)
      try simp only [List.getElem_toArray, List.getElem_cons_succ, List.getElem_cons_zero, Act.put, List.setIfInBounds_toArray, List.set_cons_zero, List.set_cons_succ]
      refine wpAnyH_take (i := 11) (v := ?_) rfl (by kernel_rfl) (by kernel_rfl) (by kernel_rfl) (fun _ _ _ h => h) (Or.inl ⟨by rfl, ?_⟩) (by assumption) ?_
      rotate_left
      · (intro w hSw; (try dsimp only at hSw); go_simp; try with_reducible rfl)
      try simp only [List.getElem_toArray, List.getElem_cons_succ, List.getElem_cons_zero, Act.put, List.setIfInBounds_toArray, List.set_cons_zero, List.set_cons_succ]
      refine wpAnyH_take (i := 12) (v := ?_) rfl (by kernel_rfl) (by kernel_rfl) (by kernel_rfl) (fun _ _ _ h => h) (Or.inl ⟨by rfl, ?_⟩) (by assumption) ?_
      rotate_left
      · (intro w hSw; (try dsimp only at hSw); go_simp; try with_reducible rfl)
      try simp only [List.getElem_toArray, List.getElem_cons_succ, List.getElem_cons_zero, Act.put, List.setIfInBounds_toArray, List.set_cons_zero, List.set_cons_succ]
      refine wpAnyH_take (i := 13) (v := ?_) rfl (by kernel_rfl) (by kernel_rfl) (by kernel_rfl) (fun _ _ _ h => h) (Or.inl ⟨by rfl, ?_⟩) (by assumption) ?_
      rotate_left
      · (intro w hSw; (try dsimp only at hSw); go_simp; try with_reducible rfl)
      try simp only [List.getElem_toArray, List.getElem_cons_succ, List.getElem_cons_zero, Act.put, List.setIfInBounds_toArray, List.set_cons_zero, List.set_cons_succ]
      refine wpAnyH_take (i := 14) (v := ?_) rfl (by kernel_rfl) (by kernel_rfl) (by kernel_rfl) (fun _ _ _ h => h) (Or.inl ⟨by rfl, ?_⟩) (by assumption) ?_
      rotate_left
      · (intro w hSw; (try dsimp only at hSw); go_simp; try with_reducible rfl)
      try simp only [List.getElem_toArray, List.getElem_cons_succ, List.getElem_cons_zero, Act.put, List.setIfInBounds_toArray, List.set_cons_zero, List.set_cons_succ]
      refine wpAnyH_take (i := 15) (v := ?_) rfl (by kernel_rfl) (by kernel_rfl) (by kernel_rfl) (fun _ _ _ h => h) (Or.inl ⟨by rfl, ?_⟩) (by assumption) ?_
      rotate_left
      · (intro w hSw; (try dsimp only at hSw); go_simp; try with_reducible rfl)
      try simp only [List.getElem_toArray, List.getElem_cons_succ, List.getElem_cons_zero, Act.put, List.setIfInBounds_toArray, List.set_cons_zero, List.set_cons_succ]
      refine wpAnyH_take (i := 16) (v := ?_) rfl (by kernel_rfl) (by kernel_rfl) (by kernel_rfl) (fun _ _ _ h => h) (Or.inl ⟨by rfl, ?_⟩) (by assumption) ?_
      rotate_left
      · (intro w hSw; (try dsimp only at hSw); go_simp; try with_reducible rfl)
      try simp only [List.getElem_toArray, List.getElem_cons_succ, List.getElem_cons_zero, Act.put, List.setIfInBounds_toArray, List.set_cons_zero, List.set_cons_succ]
      refine wpAnyH_take (i := 17) (v := ?_) rfl (by kernel_rfl) (by kernel_rfl) (by kernel_rfl) (fun _ _ _ h => h) (Or.inl ⟨by rfl, ?_⟩) (by assumption) ?_
      rotate_left
      · (intro w hSw; (try dsimp only at hSw); go_simp; try with_reducible rfl)
      try simp only [List.getElem_toArray, List.getElem_cons_succ, List.getElem_cons_zero, Act.put, List.setIfInBounds_toArray, List.set_cons_zero, List.set_cons_succ]
      refine wpAnyH_take (i := 18) (v := ?_) rfl (by kernel_rfl) (by kernel_rfl) (by kernel_rfl) (fun _ _ _ h => h) (Or.inl ⟨by rfl, ?_⟩) (by assumption) ?_
      rotate_left
      · (intro w hSw; (try dsimp only at hSw); go_simp; try with_reducible rfl)
      try simp only [List.getElem_toArray, List.getElem_cons_succ, List.getElem_cons_zero, Act.put, List.setIfInBounds_toArray, List.set_cons_zero, List.set_cons_succ]
      refine wpAnyH_take (i := 19) (v := ?_) rfl (by kernel_rfl) (by kernel_rfl) (by kernel_rfl) (fun _ _ _ h => h) (Or.inl ⟨by rfl, ?_⟩) (by assumption) ?_
      rotate_left
      · (intro w hSw; (try dsimp only at hSw); go_simp; try with_reducible rfl)
      try simp only [List.getElem_toArray, List.getElem_cons_succ, List.getElem_cons_zero, Act.put, List.setIfInBounds_toArray, List.set_cons_zero, List.set_cons_succ]
      refine wpAnyH_take (i := 20) (v := ?_) rfl (by kernel_rfl) (by kernel_rfl) (by kernel_rfl) (fun _ _ _ h => h) (Or.inl ⟨by rfl, ?_⟩) (by assumption) ?_
      rotate_left
      · (intro w hSw; (try dsimp only at hSw); go_simp; try with_reducible rfl)
      try simp only [List.getElem_toArray, List.getElem_cons_succ, List.getElem_cons_zero, Act.put, List.setIfInBounds_toArray, List.set_cons_zero, List.set_cons_succ]
      refine wpAnyH_take (i := 21) (v := ?_) rfl (by kernel_rfl) (by kernel_rfl) (by kernel_rfl) (fun _ _ _ h => h) (Or.inl ⟨by rfl, ?_⟩) (by assumption) ?_
      rotate_left
      · (intro w hSw; (try dsimp only at hSw); go_simp; try with_reducible rfl)
      try simp only [List.getElem_toArray, List.getElem_cons_succ, List.getElem_cons_zero, Act.put, List.setIfInBounds_toArray, List.set_cons_zero, List.set_cons_succ]
      refine wpAnyH_take (i := 22) (v := ?_) rfl (by kernel_rfl) (by kernel_rfl) (by kernel_rfl) (fun _ _ _ h => h) (Or.inl ⟨by rfl, ?_⟩) (by assumption) ?_
      rotate_left
      · (intro w hSw; (try dsimp only at hSw); go_simp; try with_reducible rfl)
      try simp only [List.getElem_toArray, List.getElem_cons_succ, List.getElem_cons_zero, Act.put, List.setIfInBounds_toArray, List.set_cons_zero, List.set_cons_succ]
      refine wpAnyH_take (i := 23) (v := ?_) rfl (by kernel_rfl) (by kernel_rfl) (by kernel_rfl) (fun _ _ _ h => h) (Or.inl ⟨by rfl, ?_⟩) (by assumption) ?_
      rotate_left
      · (intro w hSw; (try dsimp only at hSw); go_simp; try with_reducible rfl)
      try simp only [List.getElem_toArray, List.getElem_cons_succ, List.getElem_cons_zero, Act.put, List.setIfInBounds_toArray, List.set_cons_zero, List.set_cons_succ]
      refine wpAnyH_take (i := 24) (v := undef) rfl (by kernel_rfl) (by kernel_rfl) (by kernel_rfl) (fun _ _ _ h => h) (Or.inr ⟨by rfl, rfl⟩) (by assumption) ?_
      try simp only [List.getElem_toArray, List.getElem_cons_succ, List.getElem_cons_zero, Act.put, List.setIfInBounds_toArray, List.set_cons_zero, List.set_cons_succ]
      refine wpAnyH_take (i := 25) (v := undef) rfl (by kernel_rfl) (by kernel_rfl) (by kernel_rfl) (fun _ _ _ h => h) (Or.inr ⟨by rfl, rfl⟩) (by assumption) ?_
      try simp only [List.getElem_toArray, List.getElem_cons_succ, List.getElem_cons_zero, Act.put, List.setIfInBounds_toArray, List.set_cons_zero, List.set_cons_succ]
      refine wpAnyH_take (i := 27) (v := undef) rfl (by kernel_rfl) (by kernel_rfl) (by kernel_rfl) (fun _ _ _ h => h) (Or.inr ⟨by rfl, rfl⟩) (by assumption) ?_
      try simp only [List.getElem_toArray, List.getElem_cons_succ, List.getElem_cons_zero, Act.put, List.setIfInBounds_toArray, List.set_cons_zero, List.set_cons_succ]
      refine wpAnyH_take (i := 28) (v := undef) rfl (by kernel_rfl) (by kernel_rfl) (by kernel_rfl) (fun _ _ _ h => h) (Or.inr ⟨by rfl, rfl⟩) (by assumption) ?_
      try simp only [List.getElem_toArray, List.getElem_cons_succ, List.getElem_cons_zero, Act.put, List.setIfInBounds_toArray, List.set_cons_zero, List.set_cons_succ]
      refine wpAnyH_ready (rs := [26]) (by kernel_rfl) (by simp) (AllReadyH.cons rfl (fun K hK => ?_) AllReadyH.nil)
      rw [if_neg (Bool.eq_false_iff.1 (by rfl))]
      refine hK.out _ _ hHeld (fun hHeld => ?_)
      clear hK K
      try simp only [List.getElem_toArray, List.getElem_cons_succ, List.getElem_cons_zero, Act.put, List.setIfInBounds_toArray, List.set_cons_zero, List.set_cons_succ]
      refine wpAnyH_ready (rs := [29]) (by kernel_rfl) (by simp) (AllReadyH.cons rfl (fun K hK => ?_) AllReadyH.nil)
      rw [if_neg (Bool.eq_false_iff.1 (by rfl))]
      refine hK.out _ _ hHeld (fun hHeld => ?_)
      clear hK K
      try simp only [List.getElem_toArray, List.getElem_cons_succ, List.getElem_cons_zero, Act.put, List.setIfInBounds_toArray, List.set_cons_zero, List.set_cons_succ]
      refine wpAnyH_take (i := 30) (v := undef) rfl (by kernel_rfl) (by kernel_rfl) (by kernel_rfl) (fun _ _ _ h => h) (Or.inr ⟨by rfl, rfl⟩) (by assumption) ?_
      try simp only [List.getElem_toArray, List.getElem_cons_succ, List.getElem_cons_zero, Act.put, List.setIfInBounds_toArray, List.set_cons_zero, List.set_cons_succ]
      refine wpAnyH_take (i := 31) (v := ?_) rfl (by kernel_rfl) (by kernel_rfl) (by kernel_rfl) (fun _ _ _ h => h) (Or.inl ⟨by rfl, ?_⟩) (by assumption) ?_
      rotate_left
      · (intro w hSw; (try dsimp only at hSw); go_simp; try with_reducible rfl)
      try simp only [List.getElem_toArray, List.getElem_cons_succ, List.getElem_cons_zero, Act.put, List.setIfInBounds_toArray, List.set_cons_zero, List.set_cons_succ]
      refine wpAnyH_take (i := 32) (v := ?_) rfl (by kernel_rfl) (by kernel_rfl) (by kernel_rfl) (fun _ _ _ h => h) (Or.inl ⟨by rfl, ?_⟩) (by assumption) ?_
      rotate_left
      · (intro w hSw; (try dsimp only at hSw); go_simp; try with_reducible rfl)
      try simp only [List.getElem_toArray, List.getElem_cons_succ, List.getElem_cons_zero, Act.put, List.setIfInBounds_toArray, List.set_cons_zero, List.set_cons_succ]
      refine wpAnyH_take (i := 33) (v := ?_) rfl (by kernel_rfl) (by kernel_rfl) (by kernel_rfl) (fun _ _ _ h => h) (Or.inl ⟨by rfl, ?_⟩) (by assumption) ?_
      rotate_left
      · (intro w hSw; (try dsimp only at hSw); go_simp; try with_reducible rfl)
      try simp only [List.getElem_toArray, List.getElem_cons_succ, List.getElem_cons_zero, Act.put, List.setIfInBounds_toArray, List.set_cons_zero, List.set_cons_succ]
      refine wpAnyH_done (by kernel_rfl) ?_ _
      go_wp2
      go_ret
      exact ⟨by first | rfl | (simp; done) | exact ret_bool (by simp; omega), by first | exact HBa.out | exact below_drew1 HBa.out | exact below_drewN HBa.out _⟩

set_option maxRecDepth 100000 in
theorem lifted (os : Os) (started : os.Started) (H : Type) (enc : TypeId × Value → H) :
    ReturnsInHanded {} Try.checked os 15 .any (Rows.fnDenyClaimSpec.pre6 enc Try.prog Try.f15 Rows.fnDenyClaimRow.domain false) (Rows.fnDenyClaimSpec.post enc Try.prog Try.f15 false true false false) := by
  refine returnsInHanded_of_change (C := Try.checked) Try.own started (by kernel_rfl) Try.func15
    (ChangeSpec.witness6 (enc := enc) (C := Try.checked) false ⟨#[], #[.slice none 0 0], []⟩ 8 (by kernel_rfl) (by kernel_rfl) (by kernel_rfl) (by kernel_rfl)) ?_
  intro W base args ds gs before hval0 hW hcnd _
  have hval : ∀ (j : Nat) t v, Try.f15.params[j]? = some t → args[j]? = some v → Value.okWide Try.prog W .any base t v := hval0
  have hW' := hW
  obtain ⟨p, q, hA0, hV, rfl, hfz, hnd⟩ := hW
  have hA : DataW.TrodAll enc Try.prog W 0 (fun _ => true) true Try.f15.params.toList args.toList ds p := hA0
  rw [Try.params15] at hA hval
  obtain ⟨v0, vs0, d0, ds0, p0, q0, hargs, rfl, rfl, h0, r0⟩ := trodAll_cons hA
  obtain ⟨rfl, rfl, rfl⟩ := trodAll_nil r0
  obtain rfl : args = #[v0] := by cases args; simp_all
  obtain ⟨rfl, rfl⟩ := trodVars_none hV
  obtain ⟨a0, len0, cap0, rfl⟩ := okWide_slice Try.underlying22 (hval 0 22 v0 rfl rfl)
  have k0 := h0
  have lt0 : ∀ x ∈ p0, x.block < W.heap.size := by obtain ⟨m, hm⟩ := k0; exact DataW.trod_lt m _ _ _ hm
  obtain ⟨z0, w0⟩ : ∃ zs, IsRow .u8 W a0 len0 cap0 zs := by
    obtain ⟨fuel, hf⟩ := h0
    rcases open_ints Try.underlying22 Try.underlying5 (by kernel_rfl) hf with ⟨hcs, _⟩ | ⟨x, l, c, zs, hcs, _, hl, hm, hz, _, hcell, hwz⟩
    · simp [Value.cells] at hcs
      obtain ⟨rfl, rfl, rfl⟩ := hcs
      exact ⟨[], .inl ⟨rfl, rfl, rfl, rfl⟩⟩
    · simp [Value.cells] at hcs
      obtain ⟨rfl, rfl, rfl⟩ := hcs
      exact ⟨zs, .inr ⟨_, rfl, hl, hm, by simpa using hz, hcell, hwz⟩⟩
  clear hA0 hval0
  refine (walk _ _ W (RdBytes.of_row w0)).mono fun e W' ⟨he, bel⟩ => ?_
  subst he
  exact ⟨_, rfl, _, _, _, [], _, [], hW', trodAll_mk1 (shut_bool Try.underlying4 _), (trodAll_cons_mk (Below.trod Try.laidOut (by kernel_rfl) (of_decide_eq_true (by kernel_rfl)) k0 bel lt0) trodAll_mk0), rfl, bel.frame _, fun h => by cases h⟩

theorem closed : joinedFacts Try.pinned.checked.prog 15 Try.f15 Rows.fnDenyClaimSpec Rows.fnDenyClaimRow = true := by
  unfold joinedFacts
  exact (and_tt (and_tt (and_tt (and_tt (and_tt (and_tt (and_tt (and_tt (and_tt (and_tt (and_tt (and_tt (and_tt (and_tt (and_tt (and_tt (and_tt (and_tt (and_tt (and_tt (and_tt (and_tt (and_tt (and_tt (and_tt (and_tt (and_tt (and_tt (and_tt (and_tt (and_tt (by kernel_rfl) (by kernel_rfl)) (by kernel_rfl)) (by kernel_rfl)) (by kernel_rfl)) (by kernel_rfl)) (by kernel_rfl)) (by kernel_rfl)) (by kernel_rfl)) (by kernel_rfl)) (by kernel_rfl)) (by kernel_rfl)) (by kernel_rfl)) (by kernel_rfl)) (by kernel_rfl)) (by kernel_rfl)) (by kernel_rfl)) (by kernel_rfl)) (by kernel_rfl)) (by kernel_rfl)) (by kernel_rfl)) (by kernel_rfl)) (by kernel_rfl)) (by kernel_rfl)) (by kernel_rfl)) Try.mayEnter0) (lifted_tt Try.lifts0 rfl)) (make_tt Try.make0 rfl)) (by kernel_rfl)) (by kernel_rfl)) (by kernel_rfl)) (by kernel_rfl))
theorem over : Rows.fnDenyClaimRow.holds Try.pinned (OpenSpec.ofChange Rows.fnDenyClaimSpec) :=
  OpenClaim.holds_of_wide 15 Try.f15 rfl rfl rfl rfl rfl rfl rfl ⟨rfl, rfl, rfl, rfl, rfl⟩ rfl rfl rfl rfl rfl (by kernel_rfl) Try.func15 closed
    (of_decide_eq_true (by kernel_rfl)) (by unfold Func.isWrapper; first | (rw [if_pos (by decide +kernel)]; kernel_rfl) | (rw [if_neg (by decide +kernel)]; exact ⟨rfl, rfl⟩))
    (fun os started H enc _ => lifted os started H enc)

theorem proved : Rows.FnDenyClaimSaid := over
end Go.Proofs.Ytpccldbcmanhdaa.fnDenyClaim

