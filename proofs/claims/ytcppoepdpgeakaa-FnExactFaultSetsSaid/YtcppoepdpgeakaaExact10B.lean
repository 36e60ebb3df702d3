/- Exact law of stage 10: all sets that fit. No condition. -/
import Derived.Test.YtcppoepdpgeakaaFaultI
import Derived.Test.YtcppoepdpgeakaaRowsX
import Derived.Test.YtcppoepdpgeakaaRowsE
import Derived.Test.YtcppoepdpgeakaaRowsM
import Derived.Test.YtcppoepdpgeakaaFrameR
import Derived.WalkKit
import Derived.ProofKit
namespace Go.Proofs.Ytcppoepdpgeakaa
open Go.RowKit Go.Joins
theorem FaultSets_spec (m : Int) (us zs : List RW) (he : us.map (·.2) = zs.map (·.2)) (B : Nat) (v : Value) (w : World) (hr : RdRows w B v us) (hB : B ≤ w.heap.size) :
    Calls Try.prog 17 #[v, .int .i64 m] w (OutN (setsN (zs.map (·.2)) m) w) := by
  rw [← he]
  exact specFaultSets us m B v w hr hB
theorem FaultSets_impl (m : Int) (us zs : List RW) (he : us.map (·.2) = zs.map (·.2)) (B : Nat) (v : Value) (w : World) (hr : RdRows w B v us) (hB : B ≤ w.heap.size) :
    Calls Try.prog 18 #[v, .int .i64 m] w (OutN (setsN (zs.map (·.2)) m) w) := by
  rw [← he]
  exact implFaultSets us m B v w hr hB
theorem vals_ints9 (L : List Nat) : vals L = ints (nums L) := vals_nums L
theorem nums_lenX (L : List Nat) : (nums L).length = L.length := by simp [nums]
theorem keptI10 {w w' : World} {v : Value} {zs : List Int} (h : RdInts w w.heap.size v zs) (hb : Below w.heap.size w w') : RdInts w' w'.heap.size v zs := (h.below hb.block).mono hb.size
theorem far_of {v v' : Value} (h : ∀ k, v.ownBlock = some k → ∀ k', v'.ownBlock = some k' → k ≠ k') : Far9 v v' := by
  unfold Far9
  cases hv : v.ownBlock with
  | none => exact .inl rfl
  | some g =>
    right
    intro he
    exact h g hv g he.symm rfl
end Go.Proofs.Ytcppoepdpgeakaa
namespace Go.Proofs.Ytcppoepdpgeakaa.fnExactFaultSets
open Go.ChangeShapes Go.WideShapes Go.ChangeAt Go.RowKit Go.Joins
attribute [local irreducible] synOk rowOk entOk fitsN fitsK toldE bitI fitsV setsN setsF votesF votesN heads madeE madeRow madeL madeV madeOk sureN onlyFN onlyFOk nums markTo offN runF
open Go.ChangeMaps (open_string shut_string)
set_option linter.unusedVariables false
set_option maxRecDepth 100000 in
set_option maxHeartbeats 8000000 in
theorem walk (a0 : Value) (z0 : List RW) (a1 : Int) (w : World) (w0 : RdRows w w.heap.size a0 z0) (w1 : (Lit.int .i64 a1).wf = true) :
    Calls Try.prog 5 #[a0, .int .i64 a1] w fun e w' => e = .returned (.bool true) ∧ Below w.heap.size w w' := by
  have Hr := Lib.hid w0
  obtain ⟨so, sc, rfl⟩ : ∃ so sc, a0 = .slice so z0.length sc := by obtain ⟨a, c, h, _⟩ := w0; exact ⟨a, c, h⟩
  clear w0
  go_enter Try.func5, Try.ntmps5
  go_wp2_with fail
  refine (szIntSS z0 _ _ _ Hr.out).mono ?_
  rintro e w' ⟨⟨r, rfl, hrr⟩, rfl⟩
  by_cases hneg : r < 0
  case pos =>
    clear hrr
    go_wp2
    go_ret
    exact ⟨rfl, Below.refl _ _⟩
  have hrr2 : 0 ≤ r ∧ z0.length ≤ 1048576 ∧ ∀ j, j < z0.length → (z0.getD j rw0).2.length ≤ 1048576 := by
    rcases hrr with h | h
    · omega
    · exact h
  obtain ⟨_hr0, hl, hlm⟩ := hrr2
  have Hlm := Lib.hid hlm
  obtain ⟨w1, rfl⟩ : ∃ w1 : World, w1 = w := ⟨_, rfl⟩
  have hB1 : Below w1.heap.size w1 w1 := Below.refl _ _
  clear hrr hlm
  have hs := fun us (he : us.map (·.2) = z0.map (·.2)) B u W h h1 => FaultSets_spec a1 us z0 he B u W h h1
  have hp := fun us (he : us.map (·.2) = z0.map (·.2)) B u W h h1 => FaultSets_impl a1 us z0 he B u W h h1
  have hL := sets_small9 (z0.map (·.2)) a1
  generalize setsN (z0.map (·.2)) a1 = L at *
  have hlL : (nums L).length ≤ 32 := by rw [nums_lenX]; exact hL
  have Hs := Lib.hid hs
  have Hp := Lib.hid hp
  have HlL := Lib.hid hlL
  clear hs hp hL hlL
  go_wp2_with fail
  refine (toIntSS z0 hl Hlm _ _ _ (Hr.out.kept hB1) (Nat.le_refl _)).mono ?_
  rintro e w2 ⟨v1, us1, rfl, hu1, hri1, hap1, hb2⟩
  obtain ⟨f1, c1, rfl⟩ := own_len8 hri1.1
  have HS1_2 := Lib.hid hri1
  have HU1 := Lib.hid hu1
  have HA1 := Lib.hid hap1
  clear hri1 hu1 hap1
  have hB2 : Below w1.heap.size w1 w2 := hB1.trans (hb2.mono hB1.size)
  clear hb2
  go_wp2_with fail
  refine (Hs.out us1 HU1.out _ _ _ HS1_2.out.rd (Nat.le_refl _)).mono ?_
  rintro e w3 ⟨gW, rfl, hoW, hb3⟩
  rw [vals_ints9, ← nums_lenX] at hoW
  obtain ⟨gaW, gcW, rfl⟩ := own_len8 hoW
  have HNW_3 := Lib.hid hoW
  clear hoW
  have hB3 : Below w1.heap.size w1 w3 := hB2.trans (hb3.mono hB2.size)
  clear hb3
  have HWhi := Lib.hid (fun (k : Nat) hk => (HNW_3.out.lt k hk).2)
  go_wp2_with fail
  refine (toIntSS z0 hl Hlm _ _ _ (Hr.out.kept hB3) (Nat.le_refl _)).mono ?_
  rintro e w4 ⟨v2, us2, rfl, hu2, hri2, hap2, hb4⟩
  have HS34 := Lib.hid hb4.size
  obtain ⟨f2, c2, rfl⟩ := own_len8 hri2.1
  have HS2_4 := Lib.hid hri2
  have HU2 := Lib.hid hu2
  have HA2 := Lib.hid hap2
  clear hri2 hu2 hap2
  have hB4 : Below w1.heap.size w1 w4 := hB3.trans (hb4.mono hB3.size)
  have HNW_4 := Lib.hid (own_below9 HNW_3.out hb4)
  clear hb4
  have HRlo := Lib.hid (fun (r : RW) hr (k : Nat) (hk : r.1.ownBlock = some k) => ((HS2_4.out.2 r hr).lt k hk))
  go_wp2_with fail
  refine (Hp.out us2 HU2.out _ _ _ HS2_4.out.rd (Nat.le_refl _)).mono ?_
  rintro e w5 ⟨gG, rfl, hoG, hb5⟩
  have HS45 := Lib.hid hb5.size
  rw [vals_ints9, ← nums_lenX] at hoG
  obtain ⟨gaG, gcG, rfl⟩ := own_len8 hoG
  have HNG_5 := Lib.hid hoG
  clear hoG
  have hB5 : Below w1.heap.size w1 w5 := hB4.trans (hb5.mono hB4.size)
  have HS2_5 := Lib.hid (HS2_4.out.below hb5)
  have HNW_5 := Lib.hid (own_below9 HNW_4.out hb5)
  clear hb5
  have HGlo := Lib.hid (fun (k : Nat) hk => (HNG_5.out.lt k hk).1)
  have Heq := Lib.hid (eqIntS (nums L) (nums L) _ _ _ _ w5 (RdInts.of_own HNG_5.out) (RdInts.of_own HNW_5.out))
  rw [decide_eq_true rfl] at Heq
  go_wp2_with fail
  refine (Heq.out).mono ?_
  rintro e w6 ⟨rfl, n6, hw6⟩
  have hb6 : Below w5.heap.size w5 w6 := by rw [← hw6]; exact below_drewN9 (Below.refl _ _) _
  have HS46 := Lib.hid (Nat.le_trans HS45.out hb6.size)
  clear hw6
  have hB6 : Below w1.heap.size w1 w6 := hB5.trans (hb6.mono hB5.size)
  have HS2_6 := Lib.hid (HS2_5.out.below hb6)
  have HNW_6 := Lib.hid (own_below9 HNW_5.out hb6)
  have HNG_6 := Lib.hid (own_below9 HNG_5.out hb6)
  clear hb6
  go_wp2_with fail
  refine (toIntSS z0 hl Hlm _ _ _ (Hr.out.kept hB6) (Nat.le_refl _)).mono ?_
  rintro e w7 ⟨v3, us3, rfl, hu3, hri3, hap3, hb7⟩
  have HS47 := Lib.hid (Nat.le_trans HS46.out hb7.size)
  obtain ⟨f3, c3, rfl⟩ := own_len8 hri3.1
  have HS3_7 := Lib.hid hri3
  have HU3 := Lib.hid hu3
  have HA3 := Lib.hid hap3
  clear hri3 hu3 hap3
  have hB7 : Below w1.heap.size w1 w7 := hB6.trans (hb7.mono hB6.size)
  have HS2_7 := Lib.hid (HS2_6.out.below hb7)
  have HNW_7 := Lib.hid (own_below9 HNW_6.out hb7)
  have HNG_7 := Lib.hid (own_below9 HNG_6.out hb7)
  clear hb7
  have Heq2 := Lib.hid (eqIntSS us2 us3 _ _ _ _ w7 HS2_7.out.rd HS3_7.out.rd)
  rw [decide_eq_true (HU2.out.trans HU3.out.symm)] at Heq2
  go_wp2_with fail
  refine (Heq2.out).mono ?_
  rintro e w8 ⟨rfl, n8, hw8⟩
  have hb8 : Below w7.heap.size w7 w8 := by rw [← hw8]; exact below_drewN9 (Below.refl _ _) _
  have HS48 := Lib.hid (Nat.le_trans HS47.out hb8.size)
  clear hw8
  have hB8 : Below w1.heap.size w1 w8 := hB7.trans (hb8.mono hB7.size)
  have HS2_8 := Lib.hid (HS2_7.out.below hb8)
  have HNW_8 := Lib.hid (own_below9 HNW_7.out hb8)
  have HNG_8 := Lib.hid (own_below9 HNG_7.out hb8)
  clear hb8
  have hl2 : us2.length = z0.length := by have := congrArg List.length HU2.out; simpa using this
  have hz2 : Hid (∀ j, j < us2.length → (us2.getD j rw0).2.length ≤ 1048576) := fun j hj => by
    have := Hlm.out j (by omega)
    rw [← rows_getD8, HU2.out, rows_getD8]; exact this
  have hus : us2.length ≤ 1048576 := by omega
  have HFW := Lib.hid (fun (r : RW) (hr : r ∈ us2) => far_of (v := .slice gaW (nums L).length gcW) (v' := r.1) (fun k hk k' hk' => by
    have h1 := HWhi.out k hk
    have h2 := (HRlo.out r hr k' hk').1
    omega))
  have HFG := Lib.hid (fun (r : RW) (hr : r ∈ us2) => far_of (v := .slice gaG (nums L).length gcG) (v' := r.1) (fun k hk k' hk' => by
    have h1 := HGlo.out k hk
    have h2 := (HRlo.out r hr k' hk').2
    omega))
  have HFWG := Lib.hid (far_of (v := .slice gaW (nums L).length gcW) (v' := .slice gaG (nums L).length gcG) (fun k hk k' hk' => by
    have h1 := HWhi.out k hk
    have h2 := HGlo.out k' hk'
    have h3 : w3.heap.size ≤ w4.heap.size := HS34.out
    omega))
  clear hl2 Heq Heq2
  go_wp2_with fail
  refine (markIntSS us2 1 (by omega) hus hz2 _ _ _ HS2_8.out HA2.out).mono ?_
  rintro e w9 ⟨rfl, _, _, hor⟩
  have HS49 := Lib.hid (Nat.le_trans HS48.out hor.size)
  have HNW_9 := Lib.hid (hor.own HNW_8.out HFW.out)
  have HNG_9 := Lib.hid (hor.own HNG_8.out HFG.out)
  have hB9 : Below w1.heap.size w1 w9 := hB8.trans ((hor.below HS2_8.out (Nat.le_trans HS34.out HS48.out)).mono hB3.size)
  clear hor hus hz2
  generalize offN us2 us2.length = O at *
  have hO : ¬ (((1 + O : Nat) : Int) < 0) := by omega
  have Heq3 := Lib.hid (eqIntS (nums L) (nums L) _ _ _ _ w9 (RdInts.of_own HNG_9.out) (RdInts.of_own HNW_9.out))
  rw [decide_eq_true rfl] at Heq3
  go_wp2_with fail
  refine (Heq3.out).mono ?_
  rintro e w10 ⟨rfl, n10, hw10⟩
  have hb10 : Below w9.heap.size w9 w10 := by rw [← hw10]; exact below_drewN9 (Below.refl _ _) _
  have HS4X := Lib.hid (Nat.le_trans HS49.out hb10.size)
  clear hw10
  have hB10 : Below w1.heap.size w1 w10 := hB9.trans (hb10.mono hB9.size)
  have HNW_10 := Lib.hid (own_below9 HNW_9.out hb10)
  have HNG_10 := Lib.hid (own_below9 HNG_9.out hb10)
  clear hb10
  go_wp2_with fail
  refine (markIntS (nums L) 1 (by have := HlL.out; omega) _ _ _ HNG_10.out).mono ?_
  rintro e w11 ⟨rfl, hog, hg11⟩
  have HNW_11 := Lib.hid (HNW_10.out.kept hg11 HFWG.out)
  have hb11 : Below w4.heap.size w10 w11 := (Below.refl _ _).grown hg11 (by have := HS4X.out; exact this) (fun k hk => (HNG_10.out.lt k hk).1)
  have hB11 : Below w1.heap.size w1 w11 := hB10.trans (hb11.mono hB4.size)
  have Hog := Lib.hid hog
  clear hog hg11 hb11
  generalize hn : (nums L).length = n at *
  have Hn := Lib.hid hn; clear hn
  have HR_11 : Hid (RdInts w11 w11.heap.size (.slice gaG n gcG) ((List.range n).map fun j => ((1 + j : Nat) : Int))) := RdInts.of_own (by simpa [ints] using Hog.out)
  go_wp2_with fail
  refine (heldIntS n 1 (by have := HlL.out; omega) _ _ _ HR_11.out).mono ?_
  rintro e w' ⟨rfl, rfl⟩
  have hnn : ¬ (((1 + n : Nat) : Int) < 0) := by omega
  go_wp2_with fail
  refine (toIntSS z0 hl Hlm _ _ _ (Hr.out.kept hB11) (Nat.le_refl _)).mono ?_
  rintro e w12 ⟨v4, us4, rfl, hu4, hri4, hap4, hb12⟩
  have HB12 := Lib.hid hb12
  obtain ⟨f4, c4, rfl⟩ := own_len8 hri4.1
  have HS4_12 := Lib.hid hri4
  have HU4 := Lib.hid hu4
  have HA4 := Lib.hid hap4
  clear hri4 hu4 hap4
  have hB12 : Below w1.heap.size w1 w12 := hB11.trans (hb12.mono hB11.size)
  have HNW_12 := Lib.hid (own_below9 HNW_11.out hb12)
  clear hb12
  have HR_12 := Lib.hid (keptI10 HR_11.out HB12.out)
  go_wp2_with fail
  refine (Hp.out us4 HU4.out _ _ _ HS4_12.out.rd (Nat.le_refl _)).mono ?_
  rintro e w13 ⟨gH, rfl, hoH, hb13⟩
  rw [vals_ints9, ← nums_lenX, Hn.out] at hoH
  obtain ⟨gaH, gcH, rfl⟩ := own_len8 hoH
  have HNH_13 := Lib.hid hoH
  have HR_13 := Lib.hid (keptI10 HR_12.out hb13)
  clear hoH
  have hB13 : Below w1.heap.size w1 w13 := hB12.trans (hb13.mono hB12.size)
  have HNW_13 := Lib.hid (own_below9 HNW_12.out hb13)
  clear hb13
  have Heq4 := Lib.hid (eqIntS (nums L) (nums L) _ _ _ _ w13 (RdInts.of_own (by rw [Hn.out]; exact HNH_13.out)) (RdInts.of_own (by rw [Hn.out]; exact HNW_13.out)))
  rw [decide_eq_true rfl, ] at Heq4
  go_wp2_with fail
  refine Heq4.out.mono ?_
  rintro e w14 ⟨rfl, n14, hw14⟩
  have hb14 : Below w13.heap.size w13 w14 := by rw [← hw14]; exact below_drewN9 (Below.refl _ _) _
  have HR_14 := Lib.hid (keptI10 HR_13.out hb14)
  have hB14 : Below w1.heap.size w1 w14 := hB13.trans (hb14.mono hB13.size)
  clear hw14 hb14
  go_wp2_with fail
  refine (heldIntS n 1 (by have := HlL.out; omega) _ _ _ HR_14.out).mono ?_
  rintro e w' ⟨rfl, rfl⟩
  go_wp2
  go_ret
  exact ⟨rfl, hB14⟩

set_option maxRecDepth 100000 in
theorem lifted (os : Os) (started : os.Started) (H : Type) (enc : TypeId × Value → H) :
    ReturnsInHanded {} Try.checked os 5 .any (Rows.fnExactFaultSetsSpec.pre6 enc Try.prog Try.f5 Rows.fnExactFaultSetsRow.domain false) (Rows.fnExactFaultSetsSpec.post enc Try.prog Try.f5 false true false false) := by
  refine returnsInHanded_of_change (C := Try.checked) Try.own started (by kernel_rfl) Try.func5
    (ChangeSpec.witness6 (enc := enc) (C := Try.checked) false ⟨#[], #[.slice none 0 0, .int .i64 0], []⟩ 8 (by kernel_rfl) (by kernel_rfl) (by kernel_rfl) (by kernel_rfl)) ?_
  intro W base args ds gs before hval0 hW hcnd _
  have hval : ∀ (j : Nat) t v, Try.f5.params[j]? = some t → args[j]? = some v → Value.okWide Try.prog W .any base t v := hval0
  have hW' := hW
  obtain ⟨p, q, hA0, hV, rfl, hfz, hnd⟩ := hW
  have hA : DataW.TrodAll enc Try.prog W 0 (fun _ => true) true Try.f5.params.toList args.toList ds p := hA0
  rw [Try.params5] at hA hval
  obtain ⟨v0, vs0, d0, ds0, p0, q0, hargs, rfl, rfl, h0, r0⟩ := trodAll_cons hA
  obtain ⟨v1, vs1, d1, ds1, p1, q1, rfl, rfl, rfl, h1, r1⟩ := trodAll_cons r0
  obtain ⟨rfl, rfl, rfl⟩ := trodAll_nil r1
  obtain rfl : args = #[v0, v1] := by cases args; simp_all
  obtain ⟨rfl, rfl⟩ := trodVars_none hV
  obtain ⟨a0, len0, cap0, rfl⟩ := okWide_slice Try.underlying22 (hval 0 22 v0 rfl rfl)
  have k0 := h0
  have lt0 : ∀ x ∈ p0, x.block < W.heap.size := by obtain ⟨m, hm⟩ := k0; exact DataW.trod_lt m _ _ _ hm
  obtain ⟨z0, e0, w0⟩ : ∃ qs, len0 = qs.length ∧ RdRows W W.heap.size (.slice a0 len0 cap0) qs := by
    obtain ⟨fuel, hf⟩ := h0
    exact open_rows Try.underlying22 Try.underlying28 Try.underlying3 (by kernel_rfl) (by kernel_rfl) hf
  obtain ⟨a1, rfl, rfl, rfl, w1⟩ := open_int Try.underlying3 (hval 1 3 v1 rfl rfl) h1
  clear hA0 hval0
  refine (walk _ _ a1 W w0 w1).mono fun e W' ⟨he, bel⟩ => ?_
  subst he
  exact ⟨_, rfl, _, _, _, [], _, [], hW', trodAll_mk1 (shut_bool Try.underlying4 _), (trodAll_cons_mk (Below.trod Try.laidOut (by kernel_rfl) (of_decide_eq_true (by kernel_rfl)) k0 bel lt0) (trodAll_cons_mk (shut_int Try.underlying3 w1) trodAll_mk0)), rfl, bel.frame _, fun h => by cases h⟩

theorem closed : joinedFacts Try.pinned.checked.prog 5 Try.f5 Rows.fnExactFaultSetsSpec Rows.fnExactFaultSetsRow = true := by
  unfold joinedFacts
  exact (and_tt (and_tt (and_tt (and_tt (and_tt (and_tt (and_tt (and_tt (and_tt (and_tt (and_tt (and_tt (and_tt (and_tt (and_tt (and_tt (and_tt (and_tt (and_tt (and_tt (and_tt (and_tt (and_tt (and_tt (and_tt (and_tt (and_tt (and_tt (and_tt (and_tt (and_tt (by kernel_rfl) (by kernel_rfl)) (by kernel_rfl)) (by kernel_rfl)) (by kernel_rfl)) (by kernel_rfl)) (by kernel_rfl)) (by kernel_rfl)) (by kernel_rfl)) (by kernel_rfl)) (by kernel_rfl)) (by kernel_rfl)) (by kernel_rfl)) (by kernel_rfl)) (by kernel_rfl)) (by kernel_rfl)) (by kernel_rfl)) (by kernel_rfl)) (by kernel_rfl)) (by kernel_rfl)) (by kernel_rfl)) (by kernel_rfl)) (by kernel_rfl)) (by kernel_rfl)) (by kernel_rfl)) Try.mayEnter0) (lifted_tt Try.lifts0 rfl)) (make_tt Try.make0 rfl)) (by kernel_rfl)) (by kernel_rfl)) (by kernel_rfl)) (by kernel_rfl))
theorem over : Rows.fnExactFaultSetsRow.holds Try.pinned (OpenSpec.ofChange Rows.fnExactFaultSetsSpec) :=
  OpenClaim.holds_of_wide 5 Try.f5 rfl rfl rfl rfl rfl rfl rfl ⟨rfl, rfl, rfl, rfl, rfl⟩ rfl rfl rfl rfl rfl (by kernel_rfl) Try.func5 closed
    (of_decide_eq_true (by kernel_rfl)) (by unfold Func.isWrapper; first | (rw [if_pos (by decide +kernel)]; kernel_rfl) | (rw [if_neg (by decide +kernel)]; exact ⟨rfl, rfl⟩))
    (fun os started H enc _ => lifted os started H enc)

theorem proved : Rows.FnExactFaultSetsSaid := over
end Go.Proofs.Ytcppoepdpgeakaa.fnExactFaultSets

