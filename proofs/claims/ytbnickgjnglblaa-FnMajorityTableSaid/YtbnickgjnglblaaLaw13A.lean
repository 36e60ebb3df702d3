/- A law of stage 13: more tellers than liars is no world and its opposite. It answers true, whatever the code. No condition. -/
import Derived.Test.YtbnickgjnglblaaMerged5
import Derived.Test.YtbnickgjnglblaaMerged13
import Derived.Test.YtbnickgjnglblaaMerged10
import Derived.Test.YtbnickgjnglblaaMerged2
import Derived.Deep.RegionHeld3
import Derived.Deep.Cut
namespace Go.Proofs.Ytbnickgjnglblaa
open Go.RowKit Go.Joins
theorem maj1 : majV 1 = ((2 : Nat) : Int) := by decide +kernel
theorem maj2 : majV 2 = ((8 : Nat) : Int) := by decide +kernel
theorem maj3 : majV 3 = ((232 : Nat) : Int) := by decide +kernel
theorem maj4 : majV 4 = ((59520 : Nat) : Int) := by decide +kernel
theorem opt1 : opt 1 ((2 : Nat) : Int) = ((1 : Nat) : Int) := by decide +kernel
theorem opt2 : opt 2 ((8 : Nat) : Int) = ((1 : Nat) : Int) := by decide +kernel
theorem opt3 : opt 3 ((232 : Nat) : Int) = ((23 : Nat) : Int) := by decide +kernel
theorem opt4 : opt 4 ((59520 : Nat) : Int) = ((279 : Nat) : Int) := by decide +kernel
end Go.Proofs.Ytbnickgjnglblaa
namespace Go.Proofs.Ytbnickgjnglblaa.fnMajorityTable
open Go.ChangeShapes Go.WideShapes Go.ChangeAt Go.RowKit Go.Joins
attribute [local irreducible] heads turned tabOf wl tow opt tabF majN telB telN askN solB lv firstN majV ktV askV leastV ansN lessN holds tmOf mayT mcells nums
open Go.ChangeMaps (open_string shut_string)
set_option linter.unusedVariables false
set_option maxRecDepth 100000 in
set_option maxHeartbeats 8000000 in
theorem walk (a0 : Value) (n0 : Nat) (w : World) (w0 : RdBytes w w.heap.size a0 n0) :
    Calls Try.prog 3 #[a0] w fun e w' => e = .returned (.bool true) ∧ Below w.heap.size w w' := by
  have hr := w0
  by_cases hbig : n0 ≤ 1048576
  case neg =>
    obtain ⟨ao, cap, rfl, hl, hm, hc⟩ := w0
    have hbig' := code_big hbig
    unfold maxLen at hm
    clear hc hr hbig
    go_enter Try.func3, Try.ntmps3
    go_wp2
    go_ret
    exact ⟨rfl, Below.refl _ _⟩
  have hbig' : (n0 : Int) ≤ 1048576 := by omega
  clear hbig
  obtain ⟨ao, cap, rfl, hl, hm, hc⟩ := w0
  have Hr := Lib.hid hr
  clear hc hr hl hm
  go_enter Try.func3, Try.ntmps3
  go_wp2_with fail
  refine (drawMajorityTable _ _ _ Hr.out).mono ?_
  rintro e w1 ⟨p, ⟨hp0, hp5⟩, rfl, hB1⟩
  have him := fun w => implMajority p w
  have hsm := fun w => specMajority p w
  by_cases hp : 1 ≤ p ∧ p ≤ 4
  case neg =>
    rw [majV_no hp] at him hsm
    have Him := Lib.hid him
    have Hsm := Lib.hid hsm
    clear him hsm hp hp0 hp5
    go_wp2_with fail
    refine (Him.out _).mono ?_
    rintro e w2 ⟨rfl, hb2⟩
    have hB2 : Below w.heap.size w w2 := hB1.trans (hb2.mono hB1.size)
    clear hb2
    go_wp2_with fail
    refine (Hsm.out _).mono ?_
    rintro e w' ⟨rfl, rfl⟩
    go_wp2_with fail
    refine (alive _).mono ?_
    rintro e w' ⟨rfl, rfl⟩
    go_wp2
    go_ret
    exact ⟨rfl, hB2⟩

  obtain ⟨h1, h4⟩ := hp
  have hpp : p = 1 ∨ p = 2 ∨ p = 3 ∨ p = 4 := by omega
  obtain ⟨M, U, hM, hU, htok, hand, hsum⟩ : ∃ M U : Nat, majV p = (M : Int) ∧ opt p (M : Int) = (U : Int) ∧ tOk p (M : Int) = true ∧ bits BinOp.and IntKind.i64 (M : Int) (U : Int) = 0 ∧ (p = 1 ∧ M = 2 ∧ U = 1 ∨ p = 2 ∧ M = 8 ∧ U = 1 ∨ p = 3 ∧ M = 232 ∧ U = 23 ∨ p = 4 ∧ M = 59520 ∧ U = 279) := by
    rcases hpp with rfl | rfl | rfl | rfl
    · exact ⟨2, 1, maj1, opt1, by decide +kernel, by decide +kernel, by decide⟩
    · exact ⟨8, 1, maj2, opt2, by decide +kernel, by decide +kernel, by decide⟩
    · exact ⟨232, 23, maj3, opt3, by decide +kernel, by decide +kernel, by decide⟩
    · exact ⟨59520, 279, maj4, opt4, by decide +kernel, by decide +kernel, by decide⟩
  rw [hM] at him hsm
  have ho := fun w => implOppositeTable p (M : Int) w
  rw [hU] at ho
  have hto := fun w => implTableOk p (M : Int) w
  rw [htok] at hto
  have Him := Lib.hid him
  have Hsm := Lib.hid hsm
  have Ho := Lib.hid ho
  have Hto := Lib.hid hto
  clear him hsm ho hto hM hU htok h1 h4 hpp hp0 hp5
  rcases hsum with ⟨rfl, rfl, rfl⟩ | ⟨rfl, rfl, rfl⟩ | ⟨rfl, rfl, rfl⟩ | ⟨rfl, rfl, rfl⟩
  all_goals
    go_wp2_with fail
    refine (Him.out _).mono ?_
    rintro e w2 ⟨rfl, hb2⟩
    have hB2 : Below w.heap.size w w2 := hB1.trans (hb2.mono hB1.size)
    clear hb2
    go_wp2_with fail
    refine (Hsm.out _).mono ?_
    rintro e w' ⟨rfl, rfl⟩
    go_wp2_with fail
    refine (Ho.out _).mono ?_
    rintro e w3 ⟨rfl, hb3⟩
    have hB3 : Below w.heap.size w w3 := hB2.trans (hb3.mono hB2.size)
    clear hb3
    go_wp2_with fail
    refine (Hto.out _).mono ?_
    rintro e w' ⟨rfl, rfl⟩
    go_wp2
    go_ret
    exact ⟨rfl, hB3⟩

set_option maxRecDepth 100000 in
theorem lifted (os : Os) (started : os.Started) (H : Type) (enc : TypeId × Value → H) :
    ReturnsInHanded {} Try.checked os 3 .any (Rows.fnMajorityTableSpec.pre6 enc Try.prog Try.f3 Rows.fnMajorityTableRow.domain false) (Rows.fnMajorityTableSpec.post enc Try.prog Try.f3 false true false false) := by
  refine returnsInHanded_of_change (C := Try.checked) Try.own started (by kernel_rfl) Try.func3
    (ChangeSpec.witness6 (enc := enc) (C := Try.checked) false ⟨#[], #[.slice none 0 0], []⟩ 8 (by kernel_rfl) (by kernel_rfl) (by kernel_rfl) (by kernel_rfl)) ?_
  intro W base args ds gs before hval0 hW hcnd _
  have hval : ∀ (j : Nat) t v, Try.f3.params[j]? = some t → args[j]? = some v → Value.okWide Try.prog W .any base t v := hval0
  have hW' := hW
  obtain ⟨p, q, hA0, hV, rfl, hfz, hnd⟩ := hW
  have hA : DataW.TrodAll enc Try.prog W 0 (fun _ => true) true Try.f3.params.toList args.toList ds p := hA0
  rw [Try.params3] at hA hval
  obtain ⟨v0, vs0, d0, ds0, p0, q0, hargs, rfl, rfl, h0, r0⟩ := trodAll_cons hA
  obtain ⟨rfl, rfl, rfl⟩ := trodAll_nil r0
  obtain rfl : args = #[v0] := by cases args; simp_all
  obtain ⟨rfl, rfl⟩ := trodVars_none hV
  obtain ⟨a0, len0, cap0, rfl⟩ := okWide_slice Try.underlying22 (hval 0 22 v0 rfl rfl)
  have k0 := h0
  have lt0 : ∀ x ∈ p0, x.block < W.heap.size := by obtain ⟨m, hm⟩ := k0; exact DataW.trod_lt m _ _ _ hm
  obtain ⟨z0, w0⟩ : ∃ zs, IsRow .u8 W a0 len0 cap0 zs := by
    obtain ⟨fuel, hf⟩ := h0
    rcases open_ints Try.underlying22 Try.underlying5 (by kernel_rfl) hf with ⟨hcs, _⟩ | ⟨x, l, c, zs, hcs, _, hl, hm, hz, _, hcell, hwz⟩
    · simp [Value.cells] at hcs
      obtain ⟨rfl, rfl, rfl⟩ := hcs
      exact ⟨[], .inl ⟨rfl, rfl, rfl, rfl⟩⟩
    · simp [Value.cells] at hcs
      obtain ⟨rfl, rfl, rfl⟩ := hcs
      exact ⟨zs, .inr ⟨_, rfl, hl, hm, by simpa using hz, hcell, hwz⟩⟩
  clear hA0 hval0
  refine (walk _ _ W (RdBytes.of_row w0)).mono fun e W' ⟨he, bel⟩ => ?_
  subst he
  exact ⟨_, rfl, _, _, _, [], _, [], hW', trodAll_mk1 (shut_bool Try.underlying4 _), (trodAll_cons_mk (Below.trod Try.laidOut (by kernel_rfl) (of_decide_eq_true (by kernel_rfl)) k0 bel lt0) trodAll_mk0), rfl, bel.frame _, fun h => by cases h⟩

theorem closed : joinedFacts Try.pinned.checked.prog 3 Try.f3 Rows.fnMajorityTableSpec Rows.fnMajorityTableRow = true := by
  unfold joinedFacts
  exact (and_tt (and_tt (and_tt (and_tt (and_tt (and_tt (and_tt (and_tt (and_tt (and_tt (and_tt (and_tt (and_tt (and_tt (and_tt (and_tt (and_tt (and_tt (and_tt (and_tt (and_tt (and_tt (and_tt (and_tt (and_tt (and_tt (and_tt (and_tt (and_tt (and_tt (and_tt (by kernel_rfl) (by kernel_rfl)) (by kernel_rfl)) (by kernel_rfl)) (by kernel_rfl)) (by kernel_rfl)) (by kernel_rfl)) (by kernel_rfl)) (by kernel_rfl)) (by kernel_rfl)) (by kernel_rfl)) (by kernel_rfl)) (by kernel_rfl)) (by kernel_rfl)) (by kernel_rfl)) (by kernel_rfl)) (by kernel_rfl)) (by kernel_rfl)) (by kernel_rfl)) (by kernel_rfl)) (by kernel_rfl)) (by kernel_rfl)) (by kernel_rfl)) (by kernel_rfl)) (by kernel_rfl)) Try.mayEnter0) (lifted_tt Try.lifts0 rfl)) (make_tt Try.make0 rfl)) (by kernel_rfl)) (by kernel_rfl)) (by kernel_rfl)) (by kernel_rfl))
theorem over : Rows.fnMajorityTableRow.holds Try.pinned (OpenSpec.ofChange Rows.fnMajorityTableSpec) :=
  OpenClaim.holds_of_wide 3 Try.f3 rfl rfl rfl rfl rfl rfl rfl ⟨rfl, rfl, rfl, rfl, rfl⟩ rfl rfl rfl rfl rfl (by kernel_rfl) Try.func3 closed
    (of_decide_eq_true (by kernel_rfl)) (by unfold Func.isWrapper; first | (rw [if_pos (by decide +kernel)]; kernel_rfl) | (rw [if_neg (by decide +kernel)]; exact ⟨rfl, rfl⟩))
    (fun os started H enc _ => lifted os started H enc)

theorem proved : Rows.FnMajorityTableSaid := over
end Go.Proofs.Ytbnickgjnglblaa.fnMajorityTable

