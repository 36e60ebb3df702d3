/- A law of stage 3: at least so many is at least fewer. It answers true, whatever the code. No condition. -/
import Derived.Test.YtiakelhpmiffdaaDrawH
import Derived.Test.YtiakelhpmiffdaaMirrorS
import Derived.Test.YtiakelhpmiffdaaTruthI
import Derived.Test.YtiakelhpmiffdaaLawsA
import Derived.Deep.RegionHeld3
namespace Go.Proofs.Ytiakelhpmiffdaa
open Go.RowKit
theorem count_grows {P : Nat} (h1 : 1 ≤ P) (h4 : P ≤ 4) {k : Nat} (hk : k ≤ P) : followsV P [(1, ((k + 1 : Nat) : Int))] [(1, (k : Int))] = true ∧ followsV P [(1, (k : Int))] [(1, ((k + 1 : Nat) : Int))] = false := by
  have hp : 1 ≤ (P : Int) ∧ (P : Int) ≤ 4 := by omega
  unfold followsV
  rw [termOk_count hp (show 0 ≤ (k : Int) ∧ (k : Int) ≤ P + 1 by omega), termOk_count hp (show 0 ≤ ((k + 1 : Nat) : Int) ∧ ((k + 1 : Nat) : Int) ≤ P + 1 by omega), tmOf_count hp (show 0 ≤ (k : Int) ∧ (k : Int) ≤ P + 1 by omega), tmOf_count hp (show 0 ≤ ((k + 1 : Nat) : Int) ∧ ((k + 1 : Nat) : Int) ≤ P + 1 by omega)]
  simp only [Bool.true_and, Int.toNat_natCast]
  constructor
  · rw [decide_eq_true_eq]
    intro w _ h
    rw [holds_leaf1, decide_eq_true_eq] at h ⊢
    omega
  · rw [decide_eq_false_iff_not]
    intro h
    have key : ∀ p : Fin 5, ∀ j : Fin 5, j.val ≤ p.val → 2 ^ j.val - 1 < 2 ^ p.val ∧ heads (2 ^ j.val - 1) = j.val := by decide +kernel
    obtain ⟨a, b⟩ := key ⟨P, by omega⟩ ⟨k, by omega⟩ hk
    dsimp only at a b
    have := h (2 ^ k - 1) a (by rw [holds_leaf1, decide_eq_true_eq]; omega)
    rw [holds_leaf1, decide_eq_true_eq] at this
    omega
theorem count_none {P : Nat} (h1 : 1 ≤ P) (h4 : P ≤ 4) : tabV P [(1, ((P + 1 : Nat) : Int))] = 0 := by
  have hp : 1 ≤ (P : Int) ∧ (P : Int) ≤ 4 := by omega
  rw [tabV_yes (termOk_count hp (by omega)), tmOf_count hp (by omega), Int.toNat_natCast]
  have key : ∀ p : Fin 5, ∀ w : Fin 16, w.val < 2 ^ p.val → heads w.val ≤ p.val := by decide +kernel
  have h0 : tabF (2 ^ P) (fun w => holds w (.leaf 1 ((P + 1 : Nat) : Int))) = 0 := by
    refine Nat.eq_of_testBit_eq fun j => ?_
    rw [tabF_bit, Nat.zero_testBit]
    by_cases hj : j < 2 ^ P
    · have h16 := two16 h4
      have := key ⟨P, by omega⟩ ⟨j, by omega⟩ hj
      dsimp only at this
      rw [holds_leaf1, decide_eq_false (show ¬ (((P + 1 : Nat) : Int) ≤ (heads j : Int)) by omega)]; simp
    · rw [decide_eq_false hj]; rfl
  rw [h0]; rfl
end Go.Proofs.Ytiakelhpmiffdaa
namespace Go.Proofs.Ytiakelhpmiffdaa.fnCountGrows
open Go.ChangeShapes Go.WideShapes Go.ChangeAt Go.RowKit Go.Joins
attribute [local irreducible] holds tabN tabV holdsV sameV followsV alwaysV matterV mirV mirOk mcells tmOf
open Go.ChangeMaps (open_string shut_string)
set_option linter.unusedVariables false
set_option maxRecDepth 100000 in
set_option maxHeartbeats 4000000 in
theorem walk (a0 : Value) (n0 : Nat) (w : World) (w0 : RdBytes w w.heap.size a0 n0) :
    Calls Try.prog 9 #[a0] w fun e w' => e = .returned (.bool true) ∧ Below w.heap.size w w' := by
  have hr := w0
  by_cases hbig : n0 ≤ 1048576
  case neg =>
    obtain ⟨ao, cap, rfl, hl, hm, hc⟩ := w0
    have hbig' := code_big hbig
    unfold maxLen at hm
    clear hc hr hbig
    go_enter Try.func9, Try.ntmps9
    go_wp2
    go_ret
    exact ⟨rfl, Below.refl _ _⟩
  have hbig' : (n0 : Int) ≤ 1048576 := by omega
  clear hbig
  obtain ⟨ao, cap, rfl, hl, hm, hc⟩ := w0
  have Hr := Lib.hid hr
  clear hc hr hl hm
  go_enter Try.func9, Try.ntmps9
  go_wp2_with fail
  refine (drawHoldsIn _ _ _ Hr.out).mono ?_
  rintro e w1 ⟨p, g, n, cp, ms, x, hp1, hp8, rfl, hlen, hown, hi, hn, hx0, hx1, hB1⟩
  have hp4 : p ≤ 4 := hp8
  obtain ⟨P, rfl⟩ : ∃ P : Nat, p = P := Int.eq_ofNat_of_zero_le (by omega)
  have hP1 : 1 ≤ P := by omega
  have hP4 : P ≤ 4 := by omega
  clear hlen hown hi hn hx0 hx1 hp1 hp8 hp4
  go_wp2_with fail
  go_loopw [6] (fun i wr => ∃ k : Nat, k ≤ P + 1 ∧ i = .int .i64 k ∧ Below w.heap.size w wr) (fun i _ => P + 1 - (intOf i).toNat)
  case atStart => exact ⟨0, Nat.zero_le _, rfl, hB1⟩
  case round =>
    obtain ⟨k, hk, rfl, hbr⟩ := hrel
    have hsr := hbr.size
    by_cases hlt : k ≤ P
    · have hlt' : (k : Int) ≤ (P : Int) := by omega
      obtain ⟨hf1, hf2⟩ := count_grows hP1 hP4 hlt
      have hw1 : IntKind.i64.wrap ((k : Int) + 1) = ((k + 1 : Nat) : Int) := by rw [IntWalk.i64_in _ (by omega)]; omega
      have Hf1 := Lib.hid hf1
      have Hf2 := Lib.hid hf2
      clear hf1 hf2
      obtain ⟨K1, hK1⟩ : ∃ K1 : Int, K1 = ((k + 1 : Nat) : Int) := ⟨_, rfl⟩
      rw [← hK1] at Hf1 Hf2 hw1
      have hI : I64 K1 := by unfold I64; omega
      have hI0 : I64 (k : Int) := by unfold I64; omega
      have HK1 := Lib.hid hK1; clear hK1
      go_wp2_with fail
      obtain ⟨w2, hw2⟩ : ∃ w2 : World, w2 = (wr.alloc (.cells #[.int .i64 1, .int .i64 k] TM)).alloc (.cells #[.int .i64 1, .int .i64 K1] TM) := ⟨_, rfl⟩
      have r1 : RdMarks w2 w2.heap.size (.slice (some ⟨wr.heap.size, 0, none⟩) 1 1) [(1, (k : Int))] := by
        rw [hw2]
        exact ((RdMarks.one wr 1 k TM (I64_small (by omega) (by omega)) hI0).below (fun q hq => ((Below.refl (wr.heap.size + 1) _).alloc (by simp) _).block q hq)).mono (by simp)
      have r2 : RdMarks w2 w2.heap.size (.slice (some ⟨wr.heap.size + 1, 0, none⟩) 1 1) [(1, K1)] := by
        rw [hw2]
        have h := RdMarks.one (wr.alloc (.cells #[.int .i64 1, .int .i64 k] TM)) 1 K1 TM (I64_small (by omega) (by omega)) hI
        have e : (wr.alloc (.cells #[.int .i64 1, .int .i64 k] TM)).heap.size = wr.heap.size + 1 := by simp
        rw [e] at h
        exact h.mono (by simp)
      have hB2 : Below w.heap.size w w2 := by rw [hw2]; exact (hbr.alloc hsr _).alloc (by simp; omega) _
      rw [← hw2]
      have R1 := Lib.hid r1
      have R2 := Lib.hid r2
      clear hw2 r1 r2
      refine (implFollowsOk (P : Int) [(1, K1)] [(1, (k : Int))] _ _ _ _ _ R2.out R1.out (Nat.le_refl _) (Nat.le_refl _)).mono ?_
      rintro e w3 ⟨rfl, hb3⟩
      rw [Hf1.out]
      have R13 := Lib.hid (R1.out.kept hb3)
      have R23 := Lib.hid (R2.out.kept hb3)
      have hB3 : Below w.heap.size w w3 := hB2.trans (hb3.mono hB2.size)
      clear hb3
      go_wp2_with fail
      refine (implFollowsOk (P : Int) [(1, (k : Int))] [(1, K1)] _ _ _ _ _ R13.out R23.out (Nat.le_refl _) (Nat.le_refl _)).mono ?_
      rintro e w4 ⟨rfl, hb4⟩
      rw [Hf2.out]
      have hB4 : Below w.heap.size w w4 := hB3.trans (hb4.mono hB3.size)
      clear hb4
      go_wp2
      go_roundw
      case rel => exact ⟨k + 1, by omega, by rw [← HK1.out], hB4⟩
      case measure =>
        rw [HK1.out]
        show P + 1 - (((k + 1 : Nat) : Int)).toNat < P + 1 - ((k : Int)).toNat
        omega
    · have hlt' : ¬ (k : Int) ≤ (P : Int) := by omega
      have hnone := count_none hP1 hP4
      have hw1 : IntKind.i64.wrap ((P : Int) + 1) = ((P + 1 : Nat) : Int) := by rw [IntWalk.i64_in _ (by omega)]; omega
      obtain ⟨K1, hK1⟩ : ∃ K1 : Int, K1 = ((P + 1 : Nat) : Int) := ⟨_, rfl⟩
      rw [← hK1] at hnone hw1
      have hI : I64 K1 := by unfold I64; omega
      have Hnone := Lib.hid hnone
      clear hnone hK1
      go_wp2_with fail
      refine (alive _).mono ?_
      rintro e w' ⟨rfl, rfl⟩
      go_wp2_with fail
      refine (implTableOf (P : Int) [(1, K1)] _ _ _ (RdMarks.one wr 1 K1 TM (I64_small (by omega) (by omega)) hI) (by simp)).mono ?_
      rintro e w3 ⟨rfl, hb3⟩
      rw [Hnone.out]
      have hB3 : Below w.heap.size w w3 := (hbr.alloc hsr _).trans (hb3.mono (by simp; omega))
      clear hb3
      go_wp2
      go_ret
      exact ⟨rfl, hB3⟩

set_option maxRecDepth 100000 in
theorem lifted (os : Os) (started : os.Started) (H : Type) (enc : TypeId × Value → H) :
    ReturnsInHanded {} Try.checked os 9 .any (Rows.fnCountGrowsSpec.pre6 enc Try.prog Try.f9 Rows.fnCountGrowsRow.domain false) (Rows.fnCountGrowsSpec.post enc Try.prog Try.f9 false true false false) := by
  refine returnsInHanded_of_change (C := Try.checked) Try.own started (by kernel_rfl) Try.func9
    (ChangeSpec.witness6 (enc := enc) (C := Try.checked) false ⟨#[], #[.slice none 0 0], []⟩ 8 (by kernel_rfl) (by kernel_rfl) (by kernel_rfl) (by kernel_rfl)) ?_
  intro W base args ds gs before hval0 hW hcnd _
  have hval : ∀ (j : Nat) t v, Try.f9.params[j]? = some t → args[j]? = some v → Value.okWide Try.prog W .any base t v := hval0
  have hW' := hW
  obtain ⟨p, q, hA0, hV, rfl, hfz, hnd⟩ := hW
  have hA : DataW.TrodAll enc Try.prog W 0 (fun _ => true) true Try.f9.params.toList args.toList ds p := hA0
  rw [Try.params9] at hA hval
  obtain ⟨v0, vs0, d0, ds0, p0, q0, hargs, rfl, rfl, h0, r0⟩ := trodAll_cons hA
  obtain ⟨rfl, rfl, rfl⟩ := trodAll_nil r0
  obtain rfl : args = #[v0] := by cases args; simp_all
  obtain ⟨rfl, rfl⟩ := trodVars_none hV
  obtain ⟨a0, len0, cap0, rfl⟩ := okWide_slice Try.underlying22 (hval 0 22 v0 rfl rfl)
  have k0 := h0
  have lt0 : ∀ x ∈ p0, x.block < W.heap.size := by obtain ⟨m, hm⟩ := k0; exact DataW.trod_lt m _ _ _ hm
  obtain ⟨z0, w0⟩ : ∃ zs, IsRow .u8 W a0 len0 cap0 zs := by
    obtain ⟨fuel, hf⟩ := h0
    rcases open_ints Try.underlying22 Try.underlying5 (by kernel_rfl) hf with ⟨hcs, _⟩ | ⟨x, l, c, zs, hcs, _, hl, hm, hz, _, hcell, hwz⟩
    · simp [Value.cells] at hcs
      obtain ⟨rfl, rfl, rfl⟩ := hcs
      exact ⟨[], .inl ⟨rfl, rfl, rfl, rfl⟩⟩
    · simp [Value.cells] at hcs
      obtain ⟨rfl, rfl, rfl⟩ := hcs
      exact ⟨zs, .inr ⟨_, rfl, hl, hm, by simpa using hz, hcell, hwz⟩⟩
  clear hA0 hval0
  refine (walk _ _ W (RdBytes.of_row w0)).mono fun e W' ⟨he, bel⟩ => ?_
  subst he
  exact ⟨_, rfl, _, _, _, [], _, [], hW', trodAll_mk1 (shut_bool Try.underlying4 _), (trodAll_cons_mk (Below.trod Try.laidOut (by kernel_rfl) (of_decide_eq_true (by kernel_rfl)) k0 bel lt0) trodAll_mk0), rfl, bel.frame _, fun h => by cases h⟩

theorem closed : joinedFacts Try.pinned.checked.prog 9 Try.f9 Rows.fnCountGrowsSpec Rows.fnCountGrowsRow = true := by
  unfold joinedFacts
  exact (and_tt (and_tt (and_tt (and_tt (and_tt (and_tt (and_tt (and_tt (and_tt (and_tt (and_tt (and_tt (and_tt (and_tt (and_tt (and_tt (and_tt (and_tt (and_tt (and_tt (and_tt (and_tt (and_tt (and_tt (and_tt (and_tt (and_tt (and_tt (and_tt (and_tt (and_tt (by kernel_rfl) (by kernel_rfl)) (by kernel_rfl)) (by kernel_rfl)) (by kernel_rfl)) (by kernel_rfl)) (by kernel_rfl)) (by kernel_rfl)) (by kernel_rfl)) (by kernel_rfl)) (by kernel_rfl)) (by kernel_rfl)) (by kernel_rfl)) (by kernel_rfl)) (by kernel_rfl)) (by kernel_rfl)) (by kernel_rfl)) (by kernel_rfl)) (by kernel_rfl)) (by kernel_rfl)) (by kernel_rfl)) (by kernel_rfl)) (by kernel_rfl)) (by kernel_rfl)) (by kernel_rfl)) Try.mayEnter0) (lifted_tt Try.lifts0 rfl)) (make_tt Try.make0 rfl)) (by kernel_rfl)) (by kernel_rfl)) (by kernel_rfl)) (by kernel_rfl))
theorem over : Rows.fnCountGrowsRow.holds Try.pinned (OpenSpec.ofChange Rows.fnCountGrowsSpec) :=
  OpenClaim.holds_of_wide 9 Try.f9 rfl rfl rfl rfl rfl rfl rfl ⟨rfl, rfl, rfl, rfl, rfl⟩ rfl rfl rfl rfl rfl (by kernel_rfl) Try.func9 closed
    (of_decide_eq_true (by kernel_rfl)) (by unfold Func.isWrapper; first | (rw [if_pos (by decide +kernel)]; kernel_rfl) | (rw [if_neg (by decide +kernel)]; exact ⟨rfl, rfl⟩))
    (fun os started H enc _ => lifted os started H enc)

theorem proved : Rows.FnCountGrowsSaid := over
end Go.Proofs.Ytiakelhpmiffdaa.fnCountGrows

