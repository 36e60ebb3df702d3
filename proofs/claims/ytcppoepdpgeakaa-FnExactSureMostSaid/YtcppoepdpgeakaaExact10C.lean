/- Exact laws of stage 10: how many may be broken, and made syndromes. No condition. -/
import Derived.Test.YtcppoepdpgeakaaFaultI
import Derived.Test.YtcppoepdpgeakaaRowsX
import Derived.Test.YtcppoepdpgeakaaRowsE
import Derived.Test.YtcppoepdpgeakaaRowsM
import Derived.Test.YtcppoepdpgeakaaFrameR
import Derived.WalkKit
import Derived.ProofKit
namespace Go.Proofs.Ytcppoepdpgeakaa.fnExactSureMost
open Go.ChangeShapes Go.WideShapes Go.ChangeAt Go.RowKit Go.Joins
attribute [local irreducible] synOk rowOk entOk fitsN fitsK toldE bitI fitsV setsN setsF votesF votesN heads madeE madeRow madeL madeV madeOk sureN onlyFN onlyFOk nums markTo offN runF
open Go.ChangeMaps (open_string shut_string)
set_option linter.unusedVariables false
set_option maxRecDepth 100000 in
set_option maxHeartbeats 4000000 in
theorem walk (a0 : Int) (w : World) (w0 : (Lit.int .i64 a0).wf = true) :
    Calls Try.prog 6 #[.int .i64 a0] w fun e w' => e = .returned (.bool true) ∧ Below w.heap.size w w' := by
  obtain ⟨w1, rfl⟩ : ∃ w1 : World, w1 = w := ⟨_, rfl⟩
  have hB1 : Below w1.heap.size w1 w1 := Below.refl _ _
  have hs := fun w => specSureMost a0 w
  have hp := fun w => implSureMost a0 w
  generalize sureN a0 = T at *
  have Hs := Lib.hid hs
  have Hp := Lib.hid hp
  clear hs hp
  go_enter Try.func6, Try.ntmps6
  go_wp2_with fail
  refine (Hs.out _).mono ?_
  rintro e w' ⟨rfl, rfl⟩
  go_wp2_with fail
  refine (Hp.out _).mono ?_
  rintro e w2 ⟨rfl, hb2⟩
  have hB2 : Below w1.heap.size w1 w2 := hB1.trans (hb2.mono hB1.size)
  clear hb2
  go_wp2
  go_ret
  exact ⟨rfl, hB2⟩

set_option maxRecDepth 100000 in
theorem lifted (os : Os) (started : os.Started) (H : Type) (enc : TypeId × Value → H) :
    ReturnsInHanded {} Try.checked os 6 .any (Rows.fnExactSureMostSpec.pre6 enc Try.prog Try.f6 Rows.fnExactSureMostRow.domain false) (Rows.fnExactSureMostSpec.post enc Try.prog Try.f6 false true false false) := by
  refine returnsInHanded_of_change (C := Try.checked) Try.own started (by kernel_rfl) Try.func6
    (ChangeSpec.witness6 (enc := enc) (C := Try.checked) false ⟨#[], #[.int .i64 0], []⟩ 8 (by kernel_rfl) (by kernel_rfl) (by kernel_rfl) (by kernel_rfl)) ?_
  intro W base args ds gs before hval0 hW hcnd _
  have hval : ∀ (j : Nat) t v, Try.f6.params[j]? = some t → args[j]? = some v → Value.okWide Try.prog W .any base t v := hval0
  have hW' := hW
  obtain ⟨p, q, hA0, hV, rfl, hfz, hnd⟩ := hW
  have hA : DataW.TrodAll enc Try.prog W 0 (fun _ => true) true Try.f6.params.toList args.toList ds p := hA0
  rw [Try.params6] at hA hval
  obtain ⟨v0, vs0, d0, ds0, p0, q0, hargs, rfl, rfl, h0, r0⟩ := trodAll_cons hA
  obtain ⟨rfl, rfl, rfl⟩ := trodAll_nil r0
  obtain rfl : args = #[v0] := by cases args; simp_all
  obtain ⟨rfl, rfl⟩ := trodVars_none hV
  obtain ⟨a0, rfl, rfl, rfl, w0⟩ := open_int Try.underlying3 (hval 0 3 v0 rfl rfl) h0
  clear hA0 hval0
  refine (walk a0 W w0).mono fun e W' ⟨he, bel⟩ => ?_
  subst he
  exact ⟨_, rfl, _, _, _, [], _, [], hW', trodAll_mk1 (shut_bool Try.underlying4 _), (trodAll_cons_mk (shut_int Try.underlying3 w0) trodAll_mk0), rfl, bel.frame _, fun h => by cases h⟩

theorem closed : joinedFacts Try.pinned.checked.prog 6 Try.f6 Rows.fnExactSureMostSpec Rows.fnExactSureMostRow = true := by
  unfold joinedFacts
  exact (and_tt (and_tt (and_tt (and_tt (and_tt (and_tt (and_tt (and_tt (and_tt (and_tt (and_tt (and_tt (and_tt (and_tt (and_tt (and_tt (and_tt (and_tt (and_tt (and_tt (and_tt (and_tt (and_tt (and_tt (and_tt (and_tt (and_tt (and_tt (and_tt (and_tt (and_tt (by kernel_rfl) (by kernel_rfl)) (by kernel_rfl)) (by kernel_rfl)) (by kernel_rfl)) (by kernel_rfl)) (by kernel_rfl)) (by kernel_rfl)) (by kernel_rfl)) (by kernel_rfl)) (by kernel_rfl)) (by kernel_rfl)) (by kernel_rfl)) (by kernel_rfl)) (by kernel_rfl)) (by kernel_rfl)) (by kernel_rfl)) (by kernel_rfl)) (by kernel_rfl)) (by kernel_rfl)) (by kernel_rfl)) (by kernel_rfl)) (by kernel_rfl)) (by kernel_rfl)) (by kernel_rfl)) Try.mayEnter0) (lifted_tt Try.lifts0 rfl)) (make_tt Try.make0 rfl)) (by kernel_rfl)) (by kernel_rfl)) (by kernel_rfl)) (by kernel_rfl))
theorem over : Rows.fnExactSureMostRow.holds Try.pinned (OpenSpec.ofChange Rows.fnExactSureMostSpec) :=
  OpenClaim.holds_of_wide 6 Try.f6 rfl rfl rfl rfl rfl rfl rfl ⟨rfl, rfl, rfl, rfl, rfl⟩ rfl rfl rfl rfl rfl (by kernel_rfl) Try.func6 closed
    (of_decide_eq_true (by kernel_rfl)) (by unfold Func.isWrapper; first | (rw [if_pos (by decide +kernel)]; kernel_rfl) | (rw [if_neg (by decide +kernel)]; exact ⟨rfl, rfl⟩))
    (fun os started H enc _ => lifted os started H enc)

theorem proved : Rows.FnExactSureMostSaid := over
end Go.Proofs.Ytcppoepdpgeakaa.fnExactSureMost

namespace Go.Proofs.Ytcppoepdpgeakaa
open Go.RowKit Go.Joins
theorem made_small10 {rs : List RW} {n x w : Int} (h : rs.map (·.2) = madeV n x w) : rs.length ≤ 1048576 ∧ ∀ j, j < rs.length → (rs.getD j rw0).2.length ≤ 1048576 := by
  cases hok : madeOk n x w with
  | false =>
    rw [madeV_no hok] at h
    have : rs = [] := by simpa using h
    subst this
    exact ⟨Nat.zero_le _, fun j hj => by simp at hj⟩
  | true =>
    unfold madeV at h
    rw [if_pos hok] at h
    unfold madeOk at hok
    rw [Bool.and_eq_true, decide_eq_true_eq] at hok
    have h5 : n.toNat ≤ 5 := by omega
    have hl : rs.length = n.toNat := by have := congrArg List.length h; rw [List.length_map, madeL_len] at this; exact this
    refine ⟨by omega, fun j hj => ?_⟩
    have hm : (rs.getD j rw0).2 ∈ rs.map (·.2) := by rw [rw_at hj]; exact List.mem_map.2 ⟨_, List.getElem_mem hj, rfl⟩
    rw [h] at hm
    unfold madeL at hm
    obtain ⟨k, _, e⟩ := List.mem_map.1 hm
    rw [← e, madeRow_len]
    omega
end Go.Proofs.Ytcppoepdpgeakaa
namespace Go.Proofs.Ytcppoepdpgeakaa
open Go.RowKit Go.Joins
theorem I64_of_wf10 {n : Int} (h : (Lit.int .i64 n).wf = true) : -9223372036854775808 ≤ n ∧ n ≤ 9223372036854775807 := by
  simpa [Lit.wf, IntKind.min, IntKind.max, IntKind.signed, IntKind.bits] using h
end Go.Proofs.Ytcppoepdpgeakaa
namespace Go.Proofs.Ytcppoepdpgeakaa.fnExactMadeSyndrome
open Go.ChangeShapes Go.WideShapes Go.ChangeAt Go.RowKit Go.Joins
attribute [local irreducible] synOk rowOk entOk fitsN fitsK toldE bitI fitsV setsN setsF votesF votesN heads madeE madeRow madeL madeV madeOk sureN onlyFN onlyFOk nums markTo offN runF
open Go.ChangeMaps (open_string shut_string)
set_option linter.unusedVariables false
set_option maxRecDepth 100000 in
set_option maxHeartbeats 4000000 in
theorem walk (a0 : Int) (a1 : Int) (a2 : Int) (w : World) (w0 : (Lit.int .i64 a0).wf = true) (w1 : (Lit.int .i64 a1).wf = true) (w2 : (Lit.int .i64 a2).wf = true) :
    Calls Try.prog 9 #[.int .i64 a0, .int .i64 a1, .int .i64 a2] w fun e w' => e = .returned (.bool true) ∧ Below w.heap.size w w' := by
  have Hwf := Lib.hid (I64_of_wf10 w2)
  clear w0 w1 w2
  have Hs := Lib.hid (fun w => specMadeSyndrome a0 a1 a2 Hwf.out w)
  have Hp := Lib.hid (fun w => implMadeSyndrome a0 a1 a2 Hwf.out w)
  have Hsm := Lib.hid (fun rs (h : rs.map (·.2) = madeV a0 a1 a2) => made_small10 (rs := rs) h)
  generalize madeV a0 a1 a2 = S at *
  go_enter Try.func9, Try.ntmps9
  go_wp2_with fail
  refine (Hs.out _).mono ?_
  rintro e w2 ⟨vW, usW, rfl, huW, hriW, _, hB2⟩
  obtain ⟨fW, cW, rfl⟩ := own_len8 hriW.1
  have HSW2 := Lib.hid hriW
  have HUW := Lib.hid huW
  clear hriW huW
  go_wp2_with fail
  refine (Hp.out _).mono ?_
  rintro e w3 ⟨vG, usG, rfl, huG, hriG, hapG, hb3⟩
  obtain ⟨fG, cG, rfl⟩ := own_len8 hriG.1
  have HSG3 := Lib.hid hriG
  have HUG := Lib.hid huG
  have HAG := Lib.hid hapG
  have HSW3 := Lib.hid (HSW2.out.rd.kept hb3)
  have hB3 : Below w.heap.size w w3 := hB2.trans (hb3.mono hB2.size)
  have Hb3 := Lib.hid hb3
  clear hriG huG hapG hb3
  have Heq := Lib.hid (eqIntSS usG usW _ _ _ _ w3 HSG3.out.rd HSW3.out)
  rw [decide_eq_true (HUG.out.trans HUW.out.symm)] at Heq
  go_wp2_with fail
  refine Heq.out.mono ?_
  rintro e w4 ⟨rfl, n4, hw4⟩
  have hb4 : Below w3.heap.size w3 w4 := by rw [← hw4]; exact below_drewN9 (Below.refl _ _) _
  have HSG4 := Lib.hid (HSG3.out.below hb4)
  have Hb24 := Lib.hid (Hb3.out.trans (hb4.mono Hb3.out.size))
  have hB4 : Below w.heap.size w w4 := hB3.trans (hb4.mono hB3.size)
  obtain ⟨hgl, hgz⟩ := Hsm.out usG HUG.out
  have Hgz := Lib.hid hgz
  clear hw4 hb4 hgz Heq
  go_wp2_with fail
  refine (markIntSS usG 1 (by omega) hgl Hgz _ _ _ HSG4.out HAG.out).mono ?_
  rintro e w5 ⟨rfl, hri5, _, hor⟩
  have hb5 := hor.below HSG4.out Hb24.out.size
  have HR5 : Hid (RdRows w5 w5.heap.size (.slice fG usG.length cG) (markTo 1 usG usG.length)) := hri5.rd
  have HSW5 := Lib.hid (HSW2.out.rd.below (Hb24.out.trans hb5).block)
  have hB5 : Below w.heap.size w w5 := hB4.trans (hb5.mono hB2.size)
  have Hheld := Lib.hid (fun B w h => heldIntSS usG 1 (by omega) hgl Hgz B (.slice fG usG.length cG) w h)
  have Hsz25 : Hid (w2.heap.size ≤ w5.heap.size) := Nat.le_trans Hb24.out.size hor.size
  clear hor hri5 hb5
  generalize offN usG usG.length = O at *
  have hO : ¬ (((1 + O : Nat) : Int) < 0) := by omega
  go_wp2_with fail
  refine (Hheld.out _ _ HR5.out).mono ?_
  rintro e w' ⟨rfl, rfl⟩
  go_wp2_with fail
  refine (Hp.out _).mono ?_
  rintro e w6 ⟨vH, usH, rfl, huH, hriH, _, hb6⟩
  obtain ⟨fH, cH, rfl⟩ := own_len8 hriH.1
  have HSH6 := Lib.hid hriH.rd
  have HUH := Lib.hid huH
  have HR6 := Lib.hid (HR5.out.kept hb6)
  have HSW6 := Lib.hid (HSW5.out.below (fun k hk => hb6.block k (by have := Hsz25.out; omega)))
  have hB6 : Below w.heap.size w w6 := hB5.trans (hb6.mono hB5.size)
  clear hriH huH hb6
  have Heq2 := Lib.hid (eqIntSS usH usW _ _ _ _ w6 HSH6.out HSW6.out)
  rw [decide_eq_true (HUH.out.trans HUW.out.symm)] at Heq2
  go_wp2_with fail
  refine Heq2.out.mono ?_
  rintro e w7 ⟨rfl, n7, hw7⟩
  have hb7 : Below w6.heap.size w6 w7 := by rw [← hw7]; exact below_drewN9 (Below.refl _ _) _
  have HR7 := Lib.hid (HR6.out.kept hb7)
  have hB7 : Below w.heap.size w w7 := hB6.trans (hb7.mono hB6.size)
  clear hw7 hb7
  go_wp2_with fail
  refine (Hheld.out _ _ HR7.out).mono ?_
  rintro e w' ⟨rfl, rfl⟩
  go_wp2
  go_ret
  exact ⟨rfl, hB7⟩

set_option maxRecDepth 100000 in
theorem lifted (os : Os) (started : os.Started) (H : Type) (enc : TypeId × Value → H) :
    ReturnsInHanded {} Try.checked os 9 .any (Rows.fnExactMadeSyndromeSpec.pre6 enc Try.prog Try.f9 Rows.fnExactMadeSyndromeRow.domain false) (Rows.fnExactMadeSyndromeSpec.post enc Try.prog Try.f9 false true false false) := by
  refine returnsInHanded_of_change (C := Try.checked) Try.own started (by kernel_rfl) Try.func9
    (ChangeSpec.witness6 (enc := enc) (C := Try.checked) false ⟨#[], #[.int .i64 0, .int .i64 0, .int .i64 0], []⟩ 8 (by kernel_rfl) (by kernel_rfl) (by kernel_rfl) (by kernel_rfl)) ?_
  intro W base args ds gs before hval0 hW hcnd _
  have hval : ∀ (j : Nat) t v, Try.f9.params[j]? = some t → args[j]? = some v → Value.okWide Try.prog W .any base t v := hval0
  have hW' := hW
  obtain ⟨p, q, hA0, hV, rfl, hfz, hnd⟩ := hW
  have hA : DataW.TrodAll enc Try.prog W 0 (fun _ => true) true Try.f9.params.toList args.toList ds p := hA0
  rw [Try.params9] at hA hval
  obtain ⟨v0, vs0, d0, ds0, p0, q0, hargs, rfl, rfl, h0, r0⟩ := trodAll_cons hA
  obtain ⟨v1, vs1, d1, ds1, p1, q1, rfl, rfl, rfl, h1, r1⟩ := trodAll_cons r0
  obtain ⟨v2, vs2, d2, ds2, p2, q2, rfl, rfl, rfl, h2, r2⟩ := trodAll_cons r1
  obtain ⟨rfl, rfl, rfl⟩ := trodAll_nil r2
  obtain rfl : args = #[v0, v1, v2] := by cases args; simp_all
  obtain ⟨rfl, rfl⟩ := trodVars_none hV
  obtain ⟨a0, rfl, rfl, rfl, w0⟩ := open_int Try.underlying3 (hval 0 3 v0 rfl rfl) h0
  obtain ⟨a1, rfl, rfl, rfl, w1⟩ := open_int Try.underlying3 (hval 1 3 v1 rfl rfl) h1
  obtain ⟨a2, rfl, rfl, rfl, w2⟩ := open_int Try.underlying3 (hval 2 3 v2 rfl rfl) h2
  clear hA0 hval0
  refine (walk a0 a1 a2 W w0 w1 w2).mono fun e W' ⟨he, bel⟩ => ?_
  subst he
  exact ⟨_, rfl, _, _, _, [], _, [], hW', trodAll_mk1 (shut_bool Try.underlying4 _), (trodAll_cons_mk (shut_int Try.underlying3 w0) (trodAll_cons_mk (shut_int Try.underlying3 w1) (trodAll_cons_mk (shut_int Try.underlying3 w2) trodAll_mk0))), rfl, bel.frame _, fun h => by cases h⟩

theorem closed : joinedFacts Try.pinned.checked.prog 9 Try.f9 Rows.fnExactMadeSyndromeSpec Rows.fnExactMadeSyndromeRow = true := by
  unfold joinedFacts
  exact (and_tt (and_tt (and_tt (and_tt (and_tt (and_tt (and_tt (and_tt (and_tt (and_tt (and_tt (and_tt (and_tt (and_tt (and_tt (and_tt (and_tt (and_tt (and_tt (and_tt (and_tt (and_tt (and_tt (and_tt (and_tt (and_tt (and_tt (and_tt (and_tt (and_tt (and_tt (by kernel_rfl) (by kernel_rfl)) (by kernel_rfl)) (by kernel_rfl)) (by kernel_rfl)) (by kernel_rfl)) (by kernel_rfl)) (by kernel_rfl)) (by kernel_rfl)) (by kernel_rfl)) (by kernel_rfl)) (by kernel_rfl)) (by kernel_rfl)) (by kernel_rfl)) (by kernel_rfl)) (by kernel_rfl)) (by kernel_rfl)) (by kernel_rfl)) (by kernel_rfl)) (by kernel_rfl)) (by kernel_rfl)) (by kernel_rfl)) (by kernel_rfl)) (by kernel_rfl)) (by kernel_rfl)) Try.mayEnter0) (lifted_tt Try.lifts0 rfl)) (make_tt Try.make0 rfl)) (by kernel_rfl)) (by kernel_rfl)) (by kernel_rfl)) (by kernel_rfl))
theorem over : Rows.fnExactMadeSyndromeRow.holds Try.pinned (OpenSpec.ofChange Rows.fnExactMadeSyndromeSpec) :=
  OpenClaim.holds_of_wide 9 Try.f9 rfl rfl rfl rfl rfl rfl rfl ⟨rfl, rfl, rfl, rfl, rfl⟩ rfl rfl rfl rfl rfl (by kernel_rfl) Try.func9 closed
    (of_decide_eq_true (by kernel_rfl)) (by unfold Func.isWrapper; first | (rw [if_pos (by decide +kernel)]; kernel_rfl) | (rw [if_neg (by decide +kernel)]; exact ⟨rfl, rfl⟩))
    (fun os started H enc _ => lifted os started H enc)

theorem proved : Rows.FnExactMadeSyndromeSaid := over
end Go.Proofs.Ytcppoepdpgeakaa.fnExactMadeSyndrome

