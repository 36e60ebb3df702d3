/- A law: who says somebody is like oneself says that somebody tells the truth. It answers true, whatever the code. No condition. -/
import Derived.Test.YtcpdcokcckbggaaDrawS
import Derived.Test.YtcpdcokcckbggaaDrawH
import Derived.Test.YtcpdcokcckbggaaMirrorS
import Derived.Test.YtcpdcokcckbggaaTruthI
import Derived.Test.YtcpdcokcckbggaaClaimI
import Derived.Test.YtcpdcokcckbggaaClaimE
import Derived.Test.YtcpdcokcckbggaaLawsA
import Derived.Deep.RegionHeld3
import Derived.Deep.Cut
import Derived.Test.YtcpdcokcckbggaaDrawK
namespace Go.Proofs.Ytcpdcokcckbggaa
open Go.RowKit
/-- a row of three marks, just laid -/
theorem marks_three (W : World) (k l : Int) (hk : I64 k) (hl : I64 l) : RdMarks (W.alloc (.cells #[.int .i64 0, .int .i64 k, .int .i64 0, .int .i64 l, .int .i64 5, .int .i64 0] TM)) (W.alloc (.cells #[.int .i64 0, .int .i64 k, .int .i64 0, .int .i64 l, .int .i64 5, .int .i64 0] TM)).heap.size (.slice (some ⟨W.heap.size, 0, none⟩) 3 3) [(0, k), (0, l), (5, 0)] := by
  have hh := heap_alloc_new W (.cells #[.int .i64 0, .int .i64 k, .int .i64 0, .int .i64 l, .int .i64 5, .int .i64 0] TM)
  have h0 : I64 0 := I64_small (by omega) (by omega)
  have h5 : I64 5 := I64_small (by omega) (by omega)
  refine ⟨_, 3, rfl, Nat.le_refl _, by unfold maxLen; omega, ?_, fun j hj => ⟨W.heap.size, 0, rfl, by simp, ?_, ?_⟩⟩
  · intro q hq
    simp at hq
    rcases hq with rfl | rfl | rfl
    · exact ⟨h0, hk⟩
    · exact ⟨h0, hl⟩
    · exact ⟨h5, h0⟩
  all_goals
    have hj' : j = 0 ∨ j = 1 ∨ j = 2 := by simp at hj; omega
    rcases hj' with rfl | rfl | rfl
    all_goals
      rw [cell_of_row _ _ _ _ _ (0, 0) hh]
      rfl
end Go.Proofs.Ytcpdcokcckbggaa
namespace Go.Proofs.Ytcpdcokcckbggaa.fnOwnKind
open Go.ChangeShapes Go.WideShapes Go.ChangeAt Go.RowKit Go.Joins
attribute [local irreducible] holds tabN tabV holdsV sameV followsV alwaysV matterV mirV mirOk mcells tmOf claimOk mayT mayV ctabV ctabN storyV storyOk storyN storyT ctermV ctermL denyV denyOk ccells
open Go.ChangeMaps (open_string shut_string)
set_option linter.unusedVariables false
set_option maxRecDepth 100000 in
set_option maxHeartbeats 4000000 in
theorem walk (a0 : Value) (n0 : Nat) (w : World) (w0 : RdBytes w w.heap.size a0 n0) :
    Calls Try.prog 12 #[a0] w fun e w' => e = .returned (.bool true) ∧ Below w.heap.size w w' := by
  have hr := w0
  by_cases hbig : n0 ≤ 1048576
  case neg =>
    obtain ⟨ao, cap, rfl, hl, hm, hc⟩ := w0
    have hbig' := code_big hbig
    unfold maxLen at hm
    clear hc hr hbig
    go_enter Try.func12, Try.ntmps12
    go_wp2
    go_ret
    exact ⟨rfl, Below.refl _ _⟩
  have hbig' : (n0 : Int) ≤ 1048576 := by omega
  clear hbig
  obtain ⟨ao, cap, rfl, hl, hm, hc⟩ := w0
  have Hr := Lib.hid hr
  clear hc hr hl hm
  go_enter Try.func12, Try.ntmps12
  go_wp2_with fail
  refine (drawKindClaim _ _ _ Hr.out).mono ?_
  rintro e w1 ⟨p, k, l, t, hp1, hp8, hk0, hk8, hl5, hl3, rfl, hB1⟩
  have Hms : Hid (∃ ms : List (Int × Int), ms = [(0, k), (0, l), (5, 0)]) := ⟨_, rfl⟩
  obtain ⟨ms, hms⟩ := Hms.out
  go_upto_region 5 with fail
  obtain ⟨w2, hw2⟩ : ∃ w2 : World, w2 = w1.alloc (.cells #[.int .i64 0, .int .i64 k, .int .i64 0, .int .i64 l, .int .i64 5, .int .i64 0] TM) := ⟨_, rfl⟩
  have hb2 : Below w1.heap.size w1 w2 := by rw [hw2]; exact (Below.refl _ _).alloc (Nat.le_refl _) _
  have hs2 : w2.heap.size = w1.heap.size + 1 := by rw [hw2]; simp
  have hrd2 : RdMarks w2 w2.heap.size (.slice (some ⟨w1.heap.size, 0, none⟩) 3 3) ms := by rw [hw2, hms]; exact marks_three w1 k l (I64_small (by omega) (by omega)) (I64_small (by omega) (by omega))
  rw [← hw2]
  obtain ⟨w3, hw3, hx3, hb3, hs3⟩ := Box.new w2 (.int .i64 k) (.slice (some ⟨w1.heap.size, 0, none⟩) 3 3) TC
  rw [hs2] at hx3
  rw [← hw3]
  have hB2 : Below w.heap.size w w2 := hB1.trans (hb2.mono hB1.size)
  have hB3 : Below w.heap.size w w3 := hB2.trans (hb3.mono hB2.size)
  have HR3 := Lib.hid (hrd2.kept hb3)
  have HX3 := Lib.hid hx3
  have aX3 := HX3.out.1
  have bX3 := HX3.out.2.1
  have Hev : Hid (claimOk p (k, ms) = true → ctabV p (k, ms) = tabV p [(0, l)]) := fun h => by
    have ht := (claimOk_iff.1 h).2.2.1
    rw [hms] at h ht ⊢
    have hl := termOk_mkOk ht (0, l) (by simp)
    refine own_kind h ?_
    unfold mkOk at hl
    simp at hl
    omega
  have Hct := Lib.hid (fun B u W h h2 => implClaimTable p k ms B u W h h2)
  have Hic := Lib.hid (fun B u W h h2 => implClaimOk p k ms B u W h h2)
  have Htb := Lib.hid (fun (W : World) => implTableOf p [(0, l)] _ _ _ (RdMarks.one W 0 l TM (I64_small (by omega) (by omega)) (I64_small (by omega) (by omega))) (by simp))
  clear hw2 hw3 hx3 hb2 hb3 hrd2 hms hB1 hB2
  go_wp2_with fail
  refine (specClaimOk p k ms _ _ _ HR3.out (Nat.le_refl _)).mono ?_
  rintro e w4 ⟨rfl, hb4⟩
  have HX4 := Lib.hid (HX3.out.below hb4)
  have aX4 := HX4.out.1
  have bX4 := HX4.out.2.1
  have hB4 : Below w.heap.size w w4 := hB3.trans (hb4.mono hB3.size)
  have HR4 := Lib.hid (HR3.out.kept hb4)
  clear hb4 aX3 bX3
  cases hok : claimOk p (k, ms) with
  | false =>
    rw [hok] at Hic
    clear hok
    go_wp2_with fail
    refine (Hic.out _ _ _ HR4.out (Nat.le_refl _)).mono ?_
    rintro e w5 ⟨rfl, hb5⟩
    have HX5 := Lib.hid (HX4.out.below hb5)
    have aX5 := HX5.out.1
    have bX5 := HX5.out.2.1
    have hB5 : Below w.heap.size w w5 := hB4.trans (hb5.mono hB4.size)
    have HR5 := Lib.hid (HR4.out.kept hb5)
    clear hb5 aX4 bX4
    go_wp2_with fail
    refine (alive _).mono ?_
    rintro e w' ⟨rfl, rfl⟩
    go_wp2
    go_ret
    exact ⟨rfl, hB5⟩
  | true =>
  rw [Hev.out hok] at Hct
  clear hok Hev Hic
  generalize tabV p [(0, l)] = T at *
  go_wp2_with fail
  refine (alive _).mono ?_
  rintro e w' ⟨rfl, rfl⟩
  go_wp2_with fail
  refine (Hct.out _ _ _ HR4.out (Nat.le_refl _)).mono ?_
  rintro e w5 ⟨rfl, hb5⟩
  have HX5 := Lib.hid (HX4.out.below hb5)
  have aX5 := HX5.out.1
  have bX5 := HX5.out.2.1
  have hB5 : Below w.heap.size w w5 := hB4.trans (hb5.mono hB4.size)
  have HR5 := Lib.hid (HR4.out.kept hb5)
  clear hb5 aX4 bX4
  go_wp2_with fail
  refine (Htb.out _).mono ?_
  rintro e w6 ⟨rfl, hb6⟩
  have hB6 : Below w.heap.size w w6 := hB5.trans ((((Below.refl _ _).alloc (Nat.le_refl _) _).trans (hb6.mono (by simp))).mono hB5.size)
  clear hb6
  go_wp2
  go_ret
  exact ⟨rfl, hB6⟩

set_option maxRecDepth 100000 in
theorem lifted (os : Os) (started : os.Started) (H : Type) (enc : TypeId × Value → H) :
    ReturnsInHanded {} Try.checked os 12 .any (Rows.fnOwnKindSpec.pre6 enc Try.prog Try.f12 Rows.fnOwnKindRow.domain false) (Rows.fnOwnKindSpec.post enc Try.prog Try.f12 false true false false) := by
  refine returnsInHanded_of_change (C := Try.checked) Try.own started (by kernel_rfl) Try.func12
    (ChangeSpec.witness6 (enc := enc) (C := Try.checked) false ⟨#[], #[.slice none 0 0], []⟩ 8 (by kernel_rfl) (by kernel_rfl) (by kernel_rfl) (by kernel_rfl)) ?_
  intro W base args ds gs before hval0 hW hcnd _
  have hval : ∀ (j : Nat) t v, Try.f12.params[j]? = some t → args[j]? = some v → Value.okWide Try.prog W .any base t v := hval0
  have hW' := hW
  obtain ⟨p, q, hA0, hV, rfl, hfz, hnd⟩ := hW
  have hA : DataW.TrodAll enc Try.prog W 0 (fun _ => true) true Try.f12.params.toList args.toList ds p := hA0
  rw [Try.params12] at hA hval
  obtain ⟨v0, vs0, d0, ds0, p0, q0, hargs, rfl, rfl, h0, r0⟩ := trodAll_cons hA
  obtain ⟨rfl, rfl, rfl⟩ := trodAll_nil r0
  obtain rfl : args = #[v0] := by cases args; simp_all
  obtain ⟨rfl, rfl⟩ := trodVars_none hV
  obtain ⟨a0, len0, cap0, rfl⟩ := okWide_slice Try.underlying22 (hval 0 22 v0 rfl rfl)
  have k0 := h0
  have lt0 : ∀ x ∈ p0, x.block < W.heap.size := by obtain ⟨m, hm⟩ := k0; exact DataW.trod_lt m _ _ _ hm
  obtain ⟨z0, w0⟩ : ∃ zs, IsRow .u8 W a0 len0 cap0 zs := by
    obtain ⟨fuel, hf⟩ := h0
    rcases open_ints Try.underlying22 Try.underlying5 (by kernel_rfl) hf with ⟨hcs, _⟩ | ⟨x, l, c, zs, hcs, _, hl, hm, hz, _, hcell, hwz⟩
    · simp [Value.cells] at hcs
      obtain ⟨rfl, rfl, rfl⟩ := hcs
      exact ⟨[], .inl ⟨rfl, rfl, rfl, rfl⟩⟩
    · simp [Value.cells] at hcs
      obtain ⟨rfl, rfl, rfl⟩ := hcs
      exact ⟨zs, .inr ⟨_, rfl, hl, hm, by simpa using hz, hcell, hwz⟩⟩
  clear hA0 hval0
  refine (walk _ _ W (RdBytes.of_row w0)).mono fun e W' ⟨he, bel⟩ => ?_
  subst he
  exact ⟨_, rfl, _, _, _, [], _, [], hW', trodAll_mk1 (shut_bool Try.underlying4 _), (trodAll_cons_mk (Below.trod Try.laidOut (by kernel_rfl) (of_decide_eq_true (by kernel_rfl)) k0 bel lt0) trodAll_mk0), rfl, bel.frame _, fun h => by cases h⟩

theorem closed : joinedFacts Try.pinned.checked.prog 12 Try.f12 Rows.fnOwnKindSpec Rows.fnOwnKindRow = true := by
  unfold joinedFacts
  exact (and_tt (and_tt (and_tt (and_tt (and_tt (and_tt (and_tt (and_tt (and_tt (and_tt (and_tt (and_tt (and_tt (and_tt (and_tt (and_tt (and_tt (and_tt (and_tt (and_tt (and_tt (and_tt (and_tt (and_tt (and_tt (and_tt (and_tt (and_tt (and_tt (and_tt (and_tt (by kernel_rfl) (by kernel_rfl)) (by kernel_rfl)) (by kernel_rfl)) (by kernel_rfl)) (by kernel_rfl)) (by kernel_rfl)) (by kernel_rfl)) (by kernel_rfl)) (by kernel_rfl)) (by kernel_rfl)) (by kernel_rfl)) (by kernel_rfl)) (by kernel_rfl)) (by kernel_rfl)) (by kernel_rfl)) (by kernel_rfl)) (by kernel_rfl)) (by kernel_rfl)) (by kernel_rfl)) (by kernel_rfl)) (by kernel_rfl)) (by kernel_rfl)) (by kernel_rfl)) (by kernel_rfl)) Try.mayEnter0) (lifted_tt Try.lifts0 rfl)) (make_tt Try.make0 rfl)) (by kernel_rfl)) (by kernel_rfl)) (by kernel_rfl)) (by kernel_rfl))
theorem over : Rows.fnOwnKindRow.holds Try.pinned (OpenSpec.ofChange Rows.fnOwnKindSpec) :=
  OpenClaim.holds_of_wide 12 Try.f12 rfl rfl rfl rfl rfl rfl rfl ⟨rfl, rfl, rfl, rfl, rfl⟩ rfl rfl rfl rfl rfl (by kernel_rfl) Try.func12 closed
    (of_decide_eq_true (by kernel_rfl)) (by unfold Func.isWrapper; first | (rw [if_pos (by decide +kernel)]; kernel_rfl) | (rw [if_neg (by decide +kernel)]; exact ⟨rfl, rfl⟩))
    (fun os started H enc _ => lifted os started H enc)

theorem proved : Rows.FnOwnKindSaid := over
end Go.Proofs.Ytcpdcokcckbggaa.fnOwnKind

