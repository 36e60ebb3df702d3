/- A law of stage 10: fewer than half are always known. It answers true, whatever the code. No condition. -/
import Derived.Test.YtnkgbolgcmjadaaDrawY
import Derived.Test.YtnkgbolgcmjadaaFaultI
import Derived.Test.YtnkgbolgcmjadaaFaultL
import Derived.Test.YtnkgbolgcmjadaaLawsA
import Derived.Deep.RegionHeld3
import Derived.Deep.Cut
namespace Go.Proofs.Ytnkgbolgcmjadaa
open Go.RowKit Go.Joins
theorem RdInts.kept9 {w w' : World} {v : Value} {zs : List Int} (h : RdInts w w.heap.size v zs) (hb : Below w.heap.size w w') : RdInts w' w'.heap.size v zs := (h.below hb.block).mono hb.size
theorem rdNums9 {w : World} {base : Nat} {v : Value} {L : List Nat} (h : w.ownsRow base 3 1 v L.length (vals L)) : RdInts w w.heap.size v (nums L) :=
  RdInts.of_own (e := 3) (base := base) (by rw [show (nums L).length = L.length by simp [nums], ← vals_nums]; exact h)
theorem nums_len9 (L : List Nat) : (nums L).length = L.length := by simp [nums]
theorem nums_one9 (X : Nat) : nums [X] = [(X : Int)] := rfl
theorem nums_inj9 {L M : List Nat} : nums L = nums M ↔ L = M := by
  constructor
  · intro h
    refine List.ext_getElem (by have := congrArg List.length h; rwa [nums_len9, nums_len9] at this) fun j h1 h2 => ?_
    have := congrArg (fun l : List Int => l[j]?) h
    simp only [nums, List.getElem?_map, List.getElem?_eq_getElem h1, List.getElem?_eq_getElem h2, Option.map_some, Option.some.injEq] at this
    exact Int.ofNat_inj.1 this
  · rintro rfl; rfl
end Go.Proofs.Ytnkgbolgcmjadaa
namespace Go.Proofs.Ytnkgbolgcmjadaa.fnOnlyFaults
open Go.ChangeShapes Go.WideShapes Go.ChangeAt Go.RowKit Go.Joins
attribute [local irreducible] synOk rowOk entOk fitsN fitsK toldE bitI fitsV setsN setsF votesF votesN heads madeE madeRow madeL madeV madeOk sureN onlyFN onlyFOk nums
open Go.ChangeMaps (open_string shut_string)
set_option linter.unusedVariables false
set_option maxRecDepth 100000 in
set_option maxHeartbeats 8000000 in
theorem walk (a0 : Value) (n0 : Nat) (w : World) (w0 : RdBytes w w.heap.size a0 n0) :
    Calls Try.prog 7 #[a0] w fun e w' => e = .returned (.bool true) ∧ Below w.heap.size w w' := by
  have hr := w0
  by_cases hbig : n0 ≤ 1048576
  case neg =>
    obtain ⟨ao, cap, rfl, hl, hm, hc⟩ := w0
    have hbig' := code_big hbig
    unfold maxLen at hm
    clear hc hr hbig
    go_enter Try.func7, Try.ntmps7
    go_wp2
    go_ret
    exact ⟨rfl, Below.refl _ _⟩
  have hbig' : (n0 : Int) ≤ 1048576 := by omega
  clear hbig
  obtain ⟨ao, cap, rfl, hl, hm, hc⟩ := w0
  have Hr := Lib.hid hr
  clear hc hr hl hm
  go_enter Try.func7, Try.ntmps7
  go_wp2_with fail
  refine (drawOnlyFaults _ _ _ Hr.out).mono ?_
  rintro e w1 ⟨v, rs, rfl, hri, hsp, hB1⟩
  obtain ⟨so, sc, rfl⟩ := own_len9 hri.1
  have HR1 := Lib.hid hri.rd
  have HB1 := Lib.hid hB1
  have hrl := drewS_small hsp
  clear hri hB1
  have hlen : (rs.map (·.2)).length = rs.length := by simp
  have Hio := Lib.hid (fun w h h2 => implOnlyFaults rs w.heap.size (.slice so rs.length sc) w h h2)
  have Hso := Lib.hid (fun B w h h2 => specOnlyFaults rs B (.slice so rs.length sc) w h h2)
  have Hsu := Lib.hid (fun w => implSureMost (rs.length : Int) w)
  have Hif := Lib.hid (fun m w h h2 => implFaultSets rs m w.heap.size (.slice so rs.length sc) w h h2)
  have Hff := Lib.hid (fun x w h h2 => implFitsFaults rs x w.heap.size (.slice so rs.length sc) w h h2)
  cases hfo : onlyFOk (rs.map (·.2)) with
  | false =>
    obtain ⟨h1, h2⟩ := only_no hfo
    rw [hlen] at h2
    rw [h1, hfo] at Hio Hso
    clear h1 hfo hlen
    go_wp2_with fail
    refine (Hio.out _ HR1.out (Nat.le_refl _)).mono ?_
    rintro e w2 ⟨rfl, hb2⟩
    have HR2 := Lib.hid (HR1.out.kept hb2)
    have HB2 := Lib.hid (HB1.out.trans (hb2.mono HB1.out.size))
    clear hb2
    go_wp2_with fail
    refine (Hso.out _ _ HR2.out (Nat.le_refl _)).mono ?_
    rintro e w3 ⟨rfl, hb3⟩
    have HR3 := Lib.hid (HR2.out.kept hb3)
    have HB3 := Lib.hid (HB2.out.trans (hb3.mono HB2.out.size))
    clear hb3
    go_wp2_with fail
    refine (Hsu.out _).mono ?_
    rintro e w4 ⟨rfl, hb4⟩
    have HR4 := Lib.hid (HR3.out.kept hb4)
    have HB4 := Lib.hid (HB3.out.trans (hb4.mono HB3.out.size))
    clear hb4
    have Hl := Lib.hid (congrArg List.length h2)
    go_wp2_with fail
    refine (Hif.out _ _ HR4.out (Nat.le_refl _)).mono ?_
    rintro e w5 ⟨vA, rfl, hoA, hb5⟩
    obtain ⟨aA, cA, rfl⟩ := own_len9 hoA
    have HA5 := Lib.hid (rdNums9 hoA)
    clear hoA
    have HR5 := Lib.hid (HR4.out.kept hb5)
    have HB5 := Lib.hid (HB4.out.trans (hb5.mono HB4.out.size))
    clear hb5
    have hl0 : (setsN (rs.map (·.2)) (sureN rs.length)).length = 0 := Hl.out
    rw [hl0]
    clear hl0 HA5 h2
    go_wp2_with fail
    refine (alive _).mono ?_
    rintro e w' ⟨rfl, rfl⟩
    go_wp2
    go_ret
    exact ⟨rfl, HB5.out⟩
  | true =>
    obtain ⟨hs, X, h1, h2, h3, h4, h5⟩ := only_set hfo
    have hfv := fitsV_in hs h3
    rw [h5] at hfv
    rw [hlen] at h1
    rw [h2, hfo] at Hio Hso
    have Hff2 := Lib.hid (fun w h h2 => Hff.out (X : Int) w h h2)
    rw [hfv] at Hff2
    clear hfo hlen hs h2 h3 h4 h5 hfv Hff
    go_wp2_with fail
    refine (Hio.out _ HR1.out (Nat.le_refl _)).mono ?_
    rintro e w2 ⟨rfl, hb2⟩
    have HR2 := Lib.hid (HR1.out.kept hb2)
    have HB2 := Lib.hid (HB1.out.trans (hb2.mono HB1.out.size))
    clear hb2
    go_wp2_with fail
    refine (Hso.out _ _ HR2.out (Nat.le_refl _)).mono ?_
    rintro e w3 ⟨rfl, hb3⟩
    have HR3 := Lib.hid (HR2.out.kept hb3)
    have HB3 := Lib.hid (HB2.out.trans (hb3.mono HB2.out.size))
    clear hb3
    go_wp2_with fail
    refine (Hsu.out _).mono ?_
    rintro e w4 ⟨rfl, hb4⟩
    have HR4 := Lib.hid (HR3.out.kept hb4)
    have HB4 := Lib.hid (HB3.out.trans (hb4.mono HB3.out.size))
    clear hb4
    go_wp2_with fail
    refine (Hif.out _ _ HR4.out (Nat.le_refl _)).mono ?_
    rintro e w5 ⟨vA, rfl, hoA, hb5⟩
    obtain ⟨aA, cA, rfl⟩ := own_len9 hoA
    have HA5 := Lib.hid (rdNums9 hoA)
    clear hoA
    have HR5 := Lib.hid (HR4.out.kept hb5)
    have HB5 := Lib.hid (HB4.out.trans (hb5.mono HB4.out.size))
    clear hb5
    have Hl := Lib.hid (congrArg List.length h1)
    have hl1 : (setsN (rs.map (·.2)) (sureN rs.length)).length = 1 := Hl.out
    have HA5' : Hid (RdInts w5 w5.heap.size (.slice aA 1 cA) [(X : Int)]) := by
      unfold Hid
      have := HA5.out
      rw [h1, nums_one9] at this
      exact this
    rw [hl1]
    clear hl1 HA5 h1
    go_wp2_with fail
    refine (Hff2.out _ HR5.out (Nat.le_refl _)).mono ?_
    rintro e w6 ⟨rfl, hb6⟩
    have HA6 := Lib.hid (HA5'.out.kept9 hb6)
    have HB6 := Lib.hid (HB5.out.trans (hb6.mono HB5.out.size))
    clear hb6
    obtain ⟨ax, cx, hax, _, hcx, hcl⟩ := HA6.out
    obtain ⟨bx, ox, hbx, _, hcc⟩ := hcl 0 (by simp)
    rw [Nat.add_zero] at hcc
    have hcc' : w6.cell? ⟨bx, ox, none⟩ = some (.int .i64 (X : Int)) := hcc
    obtain ⟨rfl, rfl⟩ : aA = ax ∧ cA = cx := by simpa using hax
    subst hbx
    unfold maxLen at hcx
    clear hcl hcc hax HA6 HA5'
    go_wp2
    go_ret
    exact ⟨rfl, HB6.out⟩

set_option maxRecDepth 100000 in
theorem lifted (os : Os) (started : os.Started) (H : Type) (enc : TypeId × Value → H) :
    ReturnsInHanded {} Try.checked os 7 .any (Rows.fnOnlyFaultsSpec.pre6 enc Try.prog Try.f7 Rows.fnOnlyFaultsRow.domain false) (Rows.fnOnlyFaultsSpec.post enc Try.prog Try.f7 false true false false) := by
  refine returnsInHanded_of_change (C := Try.checked) Try.own started (by kernel_rfl) Try.func7
    (ChangeSpec.witness6 (enc := enc) (C := Try.checked) false ⟨#[], #[.slice none 0 0], []⟩ 8 (by kernel_rfl) (by kernel_rfl) (by kernel_rfl) (by kernel_rfl)) ?_
  intro W base args ds gs before hval0 hW hcnd _
  have hval : ∀ (j : Nat) t v, Try.f7.params[j]? = some t → args[j]? = some v → Value.okWide Try.prog W .any base t v := hval0
  have hW' := hW
  obtain ⟨p, q, hA0, hV, rfl, hfz, hnd⟩ := hW
  have hA : DataW.TrodAll enc Try.prog W 0 (fun _ => true) true Try.f7.params.toList args.toList ds p := hA0
  rw [Try.params7] at hA hval
  obtain ⟨v0, vs0, d0, ds0, p0, q0, hargs, rfl, rfl, h0, r0⟩ := trodAll_cons hA
  obtain ⟨rfl, rfl, rfl⟩ := trodAll_nil r0
  obtain rfl : args = #[v0] := by cases args; simp_all
  obtain ⟨rfl, rfl⟩ := trodVars_none hV
  obtain ⟨a0, len0, cap0, rfl⟩ := okWide_slice Try.underlying22 (hval 0 22 v0 rfl rfl)
  have k0 := h0
  have lt0 : ∀ x ∈ p0, x.block < W.heap.size := by obtain ⟨m, hm⟩ := k0; exact DataW.trod_lt m _ _ _ hm
  obtain ⟨z0, w0⟩ : ∃ zs, IsRow .u8 W a0 len0 cap0 zs := by
    obtain ⟨fuel, hf⟩ := h0
    rcases open_ints Try.underlying22 Try.underlying5 (by kernel_rfl) hf with ⟨hcs, _⟩ | ⟨x, l, c, zs, hcs, _, hl, hm, hz, _, hcell, hwz⟩
    · simp [Value.cells] at hcs
      obtain ⟨rfl, rfl, rfl⟩ := hcs
      exact ⟨[], .inl ⟨rfl, rfl, rfl, rfl⟩⟩
    · simp [Value.cells] at hcs
      obtain ⟨rfl, rfl, rfl⟩ := hcs
      exact ⟨zs, .inr ⟨_, rfl, hl, hm, by simpa using hz, hcell, hwz⟩⟩
  clear hA0 hval0
  refine (walk _ _ W (RdBytes.of_row w0)).mono fun e W' ⟨he, bel⟩ => ?_
  subst he
  exact ⟨_, rfl, _, _, _, [], _, [], hW', trodAll_mk1 (shut_bool Try.underlying4 _), (trodAll_cons_mk (Below.trod Try.laidOut (by kernel_rfl) (of_decide_eq_true (by kernel_rfl)) k0 bel lt0) trodAll_mk0), rfl, bel.frame _, fun h => by cases h⟩

theorem closed : joinedFacts Try.pinned.checked.prog 7 Try.f7 Rows.fnOnlyFaultsSpec Rows.fnOnlyFaultsRow = true := by
  unfold joinedFacts
  exact (and_tt (and_tt (and_tt (and_tt (and_tt (and_tt (and_tt (and_tt (and_tt (and_tt (and_tt (and_tt (and_tt (and_tt (and_tt (and_tt (and_tt (and_tt (and_tt (and_tt (and_tt (and_tt (and_tt (and_tt (and_tt (and_tt (and_tt (and_tt (and_tt (and_tt (and_tt (by kernel_rfl) (by kernel_rfl)) (by kernel_rfl)) (by kernel_rfl)) (by kernel_rfl)) (by kernel_rfl)) (by kernel_rfl)) (by kernel_rfl)) (by kernel_rfl)) (by kernel_rfl)) (by kernel_rfl)) (by kernel_rfl)) (by kernel_rfl)) (by kernel_rfl)) (by kernel_rfl)) (by kernel_rfl)) (by kernel_rfl)) (by kernel_rfl)) (by kernel_rfl)) (by kernel_rfl)) (by kernel_rfl)) (by kernel_rfl)) (by kernel_rfl)) (by kernel_rfl)) (by kernel_rfl)) Try.mayEnter0) (lifted_tt Try.lifts0 rfl)) (make_tt Try.make0 rfl)) (by kernel_rfl)) (by kernel_rfl)) (by kernel_rfl)) (by kernel_rfl))
theorem over : Rows.fnOnlyFaultsRow.holds Try.pinned (OpenSpec.ofChange Rows.fnOnlyFaultsSpec) :=
  OpenClaim.holds_of_wide 7 Try.f7 rfl rfl rfl rfl rfl rfl rfl ⟨rfl, rfl, rfl, rfl, rfl⟩ rfl rfl rfl rfl rfl (by kernel_rfl) Try.func7 closed
    (of_decide_eq_true (by kernel_rfl)) (by unfold Func.isWrapper; first | (rw [if_pos (by decide +kernel)]; kernel_rfl) | (rw [if_neg (by decide +kernel)]; exact ⟨rfl, rfl⟩))
    (fun os started H enc _ => lifted os started H enc)

theorem proved : Rows.FnOnlyFaultsSaid := over
end Go.Proofs.Ytnkgbolgcmjadaa.fnOnlyFaults

