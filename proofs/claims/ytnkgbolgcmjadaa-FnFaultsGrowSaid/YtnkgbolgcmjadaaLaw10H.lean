/- A law of stage 10: fewer faults never vanish. It answers true, whatever the code. No condition. -/
import Derived.Test.YtnkgbolgcmjadaaDrawY
import Derived.Test.YtnkgbolgcmjadaaFaultI
import Derived.Test.YtnkgbolgcmjadaaFaultL
import Derived.Test.YtnkgbolgcmjadaaLawsA
import Derived.Deep.RegionHeld3
import Derived.Deep.Cut
import Derived.Test.YtnkgbolgcmjadaaHelpers
namespace Go.Proofs.Ytnkgbolgcmjadaa
open Go.RowKit Go.Joins
theorem RdInts.kept9 {w w' : World} {v : Value} {zs : List Int} (h : RdInts w w.heap.size v zs) (hb : Below w.heap.size w w') : RdInts w' w'.heap.size v zs := (h.below hb.block).mono hb.size
theorem rdNums9 {w : World} {base : Nat} {v : Value} {L : List Nat} (h : w.ownsRow base 3 1 v L.length (vals L)) : RdInts w w.heap.size v (nums L) :=
  RdInts.of_own (e := 3) (base := base) (by rw [show (nums L).length = L.length by simp [nums], ← vals_nums]; exact h)
theorem nums_len9 (L : List Nat) : (nums L).length = L.length := by simp [nums]
theorem nums_one9 (X : Nat) : nums [X] = [(X : Int)] := rfl
theorem nums_inj9 {L M : List Nat} : nums L = nums M ↔ L = M := by
  constructor
  · intro h
    refine List.ext_getElem (by have := congrArg List.length h; rwa [nums_len9, nums_len9] at this) fun j h1 h2 => ?_
    have := congrArg (fun l : List Int => l[j]?) h
    simp only [nums, List.getElem?_map, List.getElem?_eq_getElem h1, List.getElem?_eq_getElem h2, Option.map_some, Option.some.injEq] at this
    exact Int.ofNat_inj.1 this
  · rintro rfl; rfl
end Go.Proofs.Ytnkgbolgcmjadaa
namespace Go.Proofs.Ytnkgbolgcmjadaa.fnFaultsGrow
open Go.ChangeShapes Go.WideShapes Go.ChangeAt Go.RowKit Go.Joins
attribute [local irreducible] synOk rowOk entOk fitsN fitsK toldE bitI fitsV setsN setsF votesF votesN heads madeE madeRow madeL madeV madeOk sureN onlyFN onlyFOk nums
open Go.ChangeMaps (open_string shut_string)
set_option linter.unusedVariables false
set_option maxRecDepth 100000 in
set_option maxHeartbeats 8000000 in
theorem walk (a0 : Value) (n0 : Nat) (w : World) (w0 : RdBytes w w.heap.size a0 n0) :
    Calls Try.prog 10 #[a0] w fun e w' => e = .returned (.bool true) ∧ Below w.heap.size w w' := by
  have hr := w0
  by_cases hbig : n0 ≤ 1048576
  case neg =>
    obtain ⟨ao, cap, rfl, hl, hm, hc⟩ := w0
    have hbig' := code_big hbig
    unfold maxLen at hm
    clear hc hr hbig
    go_enter Try.func10, Try.ntmps10
    go_wp2
    go_ret
    exact ⟨rfl, Below.refl _ _⟩
  have hbig' : (n0 : Int) ≤ 1048576 := by omega
  clear hbig
  obtain ⟨ao, cap, rfl, hl, hm, hc⟩ := w0
  have Hr := Lib.hid hr
  clear hc hr hl hm
  go_enter Try.func10, Try.ntmps10
  go_wp2_with fail
  refine (drawFaultSets _ _ _ Hr.out).mono ?_
  rintro e w1 ⟨v, rs, x, rfl, hri, hsp, hx0, hx1, hB1⟩
  obtain ⟨so, sc, rfl⟩ := own_len9 hri.1
  have HR1 := Lib.hid hri.rd
  have HB1 := Lib.hid hB1
  have hrl := drewS_small hsp
  clear hri hB1
  have Hif := Lib.hid (fun m w h h2 => implFaultSets rs m w.heap.size (.slice so rs.length sc) w h h2)
  have Hsf := Lib.hid (fun B w h h2 => specFaultSets rs (x + 1) B (.slice so rs.length sc) w h h2)
  have Hsub : Hid (∀ j, j < (setsN (rs.map (·.2)) x).length → decide (((setsN (rs.map (·.2)) x).getD j 0 : Int) ∈ nums (setsN (rs.map (·.2)) (x + 1))) = true) := fun j hj => by
    rw [decide_eq_true_eq, nums_mem]
    refine sets_grow ?_
    rw [show (setsN (rs.map (·.2)) x).getD j 0 = (setsN (rs.map (·.2)) x)[j] by simp [List.getD, hj]]
    exact List.getElem_mem hj
  have hll := sets_len (rs.map (·.2)) x
  have HifL := Lib.hid (fun w h h2 => Hif.out x w h h2)
  have HifM := Lib.hid (fun w h h2 => Hif.out (x + 1) w h h2)
  have hs1 := sets_small9 (rs.map (·.2)) x
  have hs2 := sets_small9 (rs.map (·.2)) (x + 1)
  generalize setsN (rs.map (·.2)) x = L at *
  generalize setsN (rs.map (·.2)) (x + 1) = M at *
  clear Hif
  go_wp2_with fail
  refine (HifL.out _ HR1.out (Nat.le_refl _)).mono ?_
  rintro e w2 ⟨vA, rfl, hoA, hb2⟩
  obtain ⟨aA, cA, rfl⟩ := own_len9 hoA
  have HA2 := Lib.hid (rdNums9 hoA)
  clear hoA
  have HR2 := Lib.hid (HR1.out.kept hb2)
  have HB2 := Lib.hid (HB1.out.trans (hb2.mono HB1.out.size))
  clear hb2
  go_wp2_with fail
  refine (HifM.out _ HR2.out (Nat.le_refl _)).mono ?_
  rintro e w3 ⟨vC, rfl, hoC, hb3⟩
  obtain ⟨aC, cC, rfl⟩ := own_len9 hoC
  have HC3 := Lib.hid (rdNums9 hoC)
  clear hoC
  have HR3 := Lib.hid (HR2.out.kept hb3)
  have HB3 := Lib.hid (HB2.out.trans (hb3.mono HB2.out.size))
  have HA3 := Lib.hid (HA2.out.kept9 hb3)
  clear hb3
  have HcA : Hid (∀ j, j < L.length → ∃ b off, aA = some ⟨b, off, none⟩ ∧ w3.cell? ⟨b, off + j, none⟩ = some (.int .i64 (L.getD j 0 : Nat))) := fun j hj => by
    obtain ⟨a, c, hv, _, _, hc⟩ := HA3.out
    obtain ⟨rfl, rfl⟩ : aA = a ∧ cA = c := by rw [nums_len9] at hv; simpa using hv
    obtain ⟨b, off, h1, _, h2⟩ := hc j (by rw [nums_len9]; exact hj)
    refine ⟨b, off, h1, ?_⟩
    rw [h2]
    simp [nums, List.getD, hj]
  have Hhi := Lib.hid (fun z B h => hasInt (nums M) z B (.slice aC M.length cC) w3 h)
  clear HA2
  obtain ⟨wo, rfl⟩ : ∃ wo : World, wo = w3 := ⟨_, rfl⟩
  go_wp2
  go_loop [7] (fun i => ∃ j : Nat, j ≤ L.length ∧ i = .int .i64 j) (fun i => L.length - (intOf i).toNat)
  case atStart => exact ⟨0, Nat.zero_le _, rfl⟩
  case round =>
    obtain ⟨j, hj, rfl⟩ := hrel
    by_cases hlt : j < L.length
    · obtain ⟨b, off, rfl, hc⟩ := HcA.out j hlt
      have hsb := Hsub.out j hlt
      generalize L.getD j 0 = z at *
      have Hh := Lib.hid (fun B h => Hhi.out (z : Int) B h)
      rw [hsb] at Hh
      clear hsb
      go_wp2_with fail
      refine (Hh.out _ HC3.out).mono ?_
      rintro e w' ⟨rfl, rfl⟩
      go_wp2
      go_round
      case rel => exact ⟨j + 1, by omega, by go_num⟩
      case measure => simp [intOf]; omega
    · obtain rfl : j = L.length := Nat.le_antisymm hj (Nat.le_of_not_lt hlt)
      go_wp2_with fail
      refine (Hsf.out _ _ HR3.out (Nat.le_refl _)).mono ?_
      rintro e w4 ⟨vD, rfl, hoD, hb4⟩
      obtain ⟨aD, cD, rfl⟩ := own_len9 hoD
      have HB4 := Lib.hid (HB3.out.trans (hb4.mono HB3.out.size))
      clear hoD hb4
      by_cases hm0 : M.length = 0
      · have hl0 : L.length = 0 := by omega
        rw [hm0, hl0]
        clear hm0 hl0 hll hs1 hs2 hlt hj
        go_wp2_with fail
        refine (alive _).mono ?_
        rintro e w' ⟨rfl, rfl⟩
        go_wp2
        go_ret
        exact ⟨rfl, HB4.out⟩
      · have hm1 : 0 < M.length := by omega
        go_wp2_with fail
        refine (alive _).mono ?_
        rintro e w' ⟨rfl, rfl⟩
        go_wp2
        go_ret
        exact ⟨rfl, HB4.out⟩

set_option maxRecDepth 100000 in
theorem lifted (os : Os) (started : os.Started) (H : Type) (enc : TypeId × Value → H) :
    ReturnsInHanded {} Try.checked os 10 .any (Rows.fnFaultsGrowSpec.pre6 enc Try.prog Try.f10 Rows.fnFaultsGrowRow.domain false) (Rows.fnFaultsGrowSpec.post enc Try.prog Try.f10 false true false false) := by
  refine returnsInHanded_of_change (C := Try.checked) Try.own started (by kernel_rfl) Try.func10
    (ChangeSpec.witness6 (enc := enc) (C := Try.checked) false ⟨#[], #[.slice none 0 0], []⟩ 8 (by kernel_rfl) (by kernel_rfl) (by kernel_rfl) (by kernel_rfl)) ?_
  intro W base args ds gs before hval0 hW hcnd _
  have hval : ∀ (j : Nat) t v, Try.f10.params[j]? = some t → args[j]? = some v → Value.okWide Try.prog W .any base t v := hval0
  have hW' := hW
  obtain ⟨p, q, hA0, hV, rfl, hfz, hnd⟩ := hW
  have hA : DataW.TrodAll enc Try.prog W 0 (fun _ => true) true Try.f10.params.toList args.toList ds p := hA0
  rw [Try.params10] at hA hval
  obtain ⟨v0, vs0, d0, ds0, p0, q0, hargs, rfl, rfl, h0, r0⟩ := trodAll_cons hA
  obtain ⟨rfl, rfl, rfl⟩ := trodAll_nil r0
  obtain rfl : args = #[v0] := by cases args; simp_all
  obtain ⟨rfl, rfl⟩ := trodVars_none hV
  obtain ⟨a0, len0, cap0, rfl⟩ := okWide_slice Try.underlying22 (hval 0 22 v0 rfl rfl)
  have k0 := h0
  have lt0 : ∀ x ∈ p0, x.block < W.heap.size := by obtain ⟨m, hm⟩ := k0; exact DataW.trod_lt m _ _ _ hm
  obtain ⟨z0, w0⟩ : ∃ zs, IsRow .u8 W a0 len0 cap0 zs := by
    obtain ⟨fuel, hf⟩ := h0
    rcases open_ints Try.underlying22 Try.underlying5 (by kernel_rfl) hf with ⟨hcs, _⟩ | ⟨x, l, c, zs, hcs, _, hl, hm, hz, _, hcell, hwz⟩
    · simp [Value.cells] at hcs
      obtain ⟨rfl, rfl, rfl⟩ := hcs
      exact ⟨[], .inl ⟨rfl, rfl, rfl, rfl⟩⟩
    · simp [Value.cells] at hcs
      obtain ⟨rfl, rfl, rfl⟩ := hcs
      exact ⟨zs, .inr ⟨_, rfl, hl, hm, by simpa using hz, hcell, hwz⟩⟩
  clear hA0 hval0
  refine (walk _ _ W (RdBytes.of_row w0)).mono fun e W' ⟨he, bel⟩ => ?_
  subst he
  exact ⟨_, rfl, _, _, _, [], _, [], hW', trodAll_mk1 (shut_bool Try.underlying4 _), (trodAll_cons_mk (Below.trod Try.laidOut (by kernel_rfl) (of_decide_eq_true (by kernel_rfl)) k0 bel lt0) trodAll_mk0), rfl, bel.frame _, fun h => by cases h⟩

theorem closed : joinedFacts Try.pinned.checked.prog 10 Try.f10 Rows.fnFaultsGrowSpec Rows.fnFaultsGrowRow = true := by
  unfold joinedFacts
  exact (and_tt (and_tt (and_tt (and_tt (and_tt (and_tt (and_tt (and_tt (and_tt (and_tt (and_tt (and_tt (and_tt (and_tt (and_tt (and_tt (and_tt (and_tt (and_tt (and_tt (and_tt (and_tt (and_tt (and_tt (and_tt (and_tt (and_tt (and_tt (and_tt (and_tt (and_tt (by kernel_rfl) (by kernel_rfl)) (by kernel_rfl)) (by kernel_rfl)) (by kernel_rfl)) (by kernel_rfl)) (by kernel_rfl)) (by kernel_rfl)) (by kernel_rfl)) (by kernel_rfl)) (by kernel_rfl)) (by kernel_rfl)) (by kernel_rfl)) (by kernel_rfl)) (by kernel_rfl)) (by kernel_rfl)) (by kernel_rfl)) (by kernel_rfl)) (by kernel_rfl)) (by kernel_rfl)) (by kernel_rfl)) (by kernel_rfl)) (by kernel_rfl)) (by kernel_rfl)) (by kernel_rfl)) Try.mayEnter0) (lifted_tt Try.lifts0 rfl)) (make_tt Try.make0 rfl)) (by kernel_rfl)) (by kernel_rfl)) (by kernel_rfl)) (by kernel_rfl))
theorem over : Rows.fnFaultsGrowRow.holds Try.pinned (OpenSpec.ofChange Rows.fnFaultsGrowSpec) :=
  OpenClaim.holds_of_wide 10 Try.f10 rfl rfl rfl rfl rfl rfl rfl ⟨rfl, rfl, rfl, rfl, rfl⟩ rfl rfl rfl rfl rfl (by kernel_rfl) Try.func10 closed
    (of_decide_eq_true (by kernel_rfl)) (by unfold Func.isWrapper; first | (rw [if_pos (by decide +kernel)]; kernel_rfl) | (rw [if_neg (by decide +kernel)]; exact ⟨rfl, rfl⟩))
    (fun os started H enc _ => lifted os started H enc)

theorem proved : Rows.FnFaultsGrowSaid := over
end Go.Proofs.Ytnkgbolgcmjadaa.fnFaultsGrow

