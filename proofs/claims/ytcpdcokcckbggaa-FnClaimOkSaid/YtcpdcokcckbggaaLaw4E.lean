/- A law of stage 4: everybody can say to tell the truth. It answers true, whatever the code. No condition. -/
import Derived.Test.YtcpdcokcckbggaaDrawS
import Derived.Test.YtcpdcokcckbggaaDrawH
import Derived.Test.YtcpdcokcckbggaaMirrorS
import Derived.Test.YtcpdcokcckbggaaTruthI
import Derived.Test.YtcpdcokcckbggaaClaimI
import Derived.Test.YtcpdcokcckbggaaClaimE
import Derived.Test.YtcpdcokcckbggaaLawsA
import Derived.Deep.RegionHeld3
import Derived.Deep.Cut
namespace Go.Proofs.Ytcpdcokcckbggaa
open Go.RowKit
theorem rdMarks_nil (W : World) (B : Nat) : RdMarks W B (.slice none 0 0) [] :=
  ⟨none, 0, rfl, Nat.le_refl _, by unfold maxLen; omega, fun m hm => by simp at hm, fun j hj => by simp at hj⟩
theorem termOk_nil (p : Int) : termOk p [] = false := by
  cases h : termOk p [] with
  | false => rfl
  | true =>
    obtain ⟨_, _, t, _, ht⟩ := termOk_iff.1 h
    have := post_pos t
    rw [← ht] at this
    simp at this
theorem claim_self {p : Int} (h1 : 1 ≤ p) (h4 : p ≤ 4) : claimOk p (p - 1, [(0, p - 1)]) = true :=
  claimOk_iff.2 ⟨by show 0 ≤ p - 1; omega, by show p - 1 < p; omega, termOk_iff.2 ⟨⟨h1, h4⟩, by simp, .leaf 0 (p - 1), by simp only [Tm.ok]; exact .inl ⟨by trivial, by omega, by omega⟩, rfl⟩, by simp⟩
theorem claim_none {p k : Int} {ms : List (Int × Int)} (h : claimOk p (k, ms) = true) : claimOk p (k, [(1, 0)]) = true := by
  obtain ⟨h1, h2, _, _⟩ := claimOk_iff.1 h
  exact claimOk_iff.2 ⟨h1, h2, termOk_count (p_of_claim h) (by have := p_of_claim h; omega), by simp⟩
end Go.Proofs.Ytcpdcokcckbggaa
namespace Go.Proofs.Ytcpdcokcckbggaa.fnClaimOk
open Go.ChangeShapes Go.WideShapes Go.ChangeAt Go.RowKit Go.Joins
attribute [local irreducible] holds tabN tabV holdsV sameV followsV alwaysV matterV mirV mirOk mcells tmOf claimOk mayT mayV ctabV ctabN storyV storyOk storyN storyT ctermV ctermL denyV denyOk ccells
open Go.ChangeMaps (open_string shut_string)
set_option linter.unusedVariables false
set_option maxRecDepth 100000 in
set_option maxHeartbeats 4000000 in
theorem walk (a0 : Value) (n0 : Nat) (w : World) (w0 : RdBytes w w.heap.size a0 n0) :
    Calls Try.prog 3 #[a0] w fun e w' => e = .returned (.bool true) ∧ Below w.heap.size w w' := by
  have hr := w0
  by_cases hbig : n0 ≤ 1048576
  case neg =>
    obtain ⟨ao, cap, rfl, hl, hm, hc⟩ := w0
    have hbig' := code_big hbig
    unfold maxLen at hm
    clear hc hr hbig
    go_enter Try.func3, Try.ntmps3
    go_wp2
    go_ret
    exact ⟨rfl, Below.refl _ _⟩
  have hbig' : (n0 : Int) ≤ 1048576 := by omega
  clear hbig
  obtain ⟨ao, cap, rfl, hl, hm, hc⟩ := w0
  have Hr := Lib.hid hr
  clear hc hr hl hm
  go_enter Try.func3, Try.ntmps3
  go_wp2_with fail
  refine (drawClaimOk _ _ _ Hr.out).mono ?_
  rintro e w1 ⟨p, k, g, cp, ms, hp1, hp8, rfl, hown, hi, hn20, hk1, hk4, hB1⟩
  have Hi := Lib.hid hi
  go_upto_region 4 with fail
  obtain ⟨w2, hw2, hx2, hb2, hsz2⟩ := Box.new w1 (.int .i64 k) (.slice (some ⟨g, 0, none⟩) ms.length cp) TC
  have HO2 := Lib.hid (show w2.ownsRow w.heap.size TM 2 (.slice (some ⟨g, 0, none⟩) ms.length cp) ms.length (mcells ms) by rw [hw2]; exact hown.alloc _)
  have hB2 : Below w.heap.size w w2 := hB1.trans (hb2.mono hB1.size)
  have HX2 := Lib.hid hx2
  have aX2 := HX2.out.1
  have bX2 := HX2.out.2.1
  rw [← hw2]
  clear hw2 hown hi hb2 hx2 hB1
  have Hic := Lib.hid (fun B u W h h2 => implClaimOk p k ms B u W h h2)
  have Hsc := Lib.hid (fun B u W h h2 => specClaimOk p k ms B u W h h2)
  have Hp := Lib.hid (fun h => p_of_claim (p := p) (c := (k, ms)) h)
  have Hnn : Hid (claimOk p (k, ms) = true → claimOk p (k, [(1, 0)]) = true) := fun h => claim_none h
  generalize claimOk p (k, ms) = o at *
  go_wp2_with fail
  refine (Hic.out _ _ _ (RdMarks.of_own HO2.out Hi.out) (Nat.le_refl _)).mono ?_
  rintro e w3 ⟨rfl, hb3⟩
  have HX3 := Lib.hid (HX2.out.below hb3)
  have aX3 := HX3.out.1
  have bX3 := HX3.out.2.1
  have HO3 := Lib.hid (own_below HO2.out hb3)
  have hB3 : Below w.heap.size w w3 := hB2.trans (hb3.mono hB2.size)
  clear hb3 aX2 bX2
  go_wp2_with fail
  refine (Hsc.out _ _ _ (RdMarks.of_own HO3.out Hi.out) (Nat.le_refl _)).mono ?_
  rintro e w4 ⟨rfl, hb4⟩
  have HX4 := Lib.hid (HX3.out.below hb4)
  have aX4 := HX4.out.1
  have bX4 := HX4.out.2.1
  have HO4 := Lib.hid (own_below HO3.out hb4)
  have hB4 : Below w.heap.size w w4 := hB3.trans (hb4.mono hB3.size)
  clear hb4 aX3 bX3
  clear Hic Hsc
  by_cases h4 : p ≤ 4
  case neg =>
    have h4' : 4 < p := by omega
    cases o with
    | true =>
      have := (Hp.out rfl).2
      omega
    | false =>
      clear h4
      go_wp2_with fail
      refine (alive _).mono ?_
      rintro e w' ⟨rfl, rfl⟩
      go_wp2
      go_ret
      exact ⟨rfl, hB4⟩
  have h1c : claimOk p (p - 1, [(0, p - 1)]) = true := claim_self hp1 h4
  have h2c : claimOk p (0, []) = false := claimOk_no_term (termOk_nil p)
  have Hone := Lib.hid (fun (W : World) => implClaimOk p (p - 1) [(0, p - 1)] _ _ _ (RdMarks.one W 0 (p - 1) TM (I64_small (by omega) (by omega)) (I64_small (by omega) (by omega))) (by simp))
  have Htwo := Lib.hid (fun (W : World) => implClaimOk p k [(1, 0)] _ _ _ (RdMarks.one W 1 0 TM (I64_small (by omega) (by omega)) (I64_small (by omega) (by omega))) (by simp))
  have Hnil := Lib.hid (fun (W : World) => implClaimOk p 0 [] 0 (.slice none 0 0) W (rdMarks_nil W 0) (Nat.zero_le _))
  rw [h1c] at Hone
  rw [h2c] at Hnil
  clear h1c h2c Hp
  go_wp2_with fail
  refine (Hone.out _).mono ?_
  rintro e w5 ⟨rfl, hb5'⟩
  have hb5 : Below w4.heap.size w4 w5 := ((Below.refl _ _).alloc (Nat.le_refl _) _).trans (hb5'.mono (by simp))
  have HX5 := Lib.hid (HX4.out.below hb5)
  have aX5 := HX5.out.1
  have bX5 := HX5.out.2.1
  have HO5 := Lib.hid (own_below HO4.out hb5)
  have hB5 : Below w.heap.size w w5 := hB4.trans (hb5.mono hB4.size)
  clear hb5 hb5' aX4 bX4
  cases o with
  | true =>
    rw [Hnn.out rfl] at Htwo
    clear Hnn
    go_wp2_with fail
    refine (Htwo.out _).mono ?_
    rintro e w6 ⟨rfl, hb6'⟩
    have hb6 : Below w5.heap.size w5 w6 := ((Below.refl _ _).alloc (Nat.le_refl _) _).trans (hb6'.mono (by simp))
    have HX6 := Lib.hid (HX5.out.below hb6)
    have aX6 := HX6.out.1
    have bX6 := HX6.out.2.1
    have HO6 := Lib.hid (own_below HO5.out hb6)
    have hB6 : Below w.heap.size w w6 := hB5.trans (hb6.mono hB5.size)
    clear hb6 hb6' aX5 bX5
    go_wp2_with fail
    refine (Hnil.out _).mono ?_
    rintro e w7 ⟨rfl, hb7⟩
    have HX7 := Lib.hid (HX6.out.below hb7)
    have aX7 := HX7.out.1
    have bX7 := HX7.out.2.1
    have HO7 := Lib.hid (own_below HO6.out hb7)
    have hB7 : Below w.heap.size w w7 := hB6.trans (hb7.mono hB6.size)
    clear hb7 aX6 bX6
    go_wp2_with fail
    refine (sameClaim k ms _ _ _ _ _ (RdMarks.of_own HO7.out Hi.out) (RdMarks.of_own HO7.out Hi.out) (Nat.le_refl _) (Nat.le_refl _)).mono ?_
    rintro e w8 ⟨rfl, hb8⟩
    have HX8 := Lib.hid (HX7.out.below hb8)
    have aX8 := HX8.out.1
    have bX8 := HX8.out.2.1
    have HO8 := Lib.hid (own_below HO7.out hb8)
    have hB8 : Below w.heap.size w w8 := hB7.trans (hb8.mono hB7.size)
    clear hb8 aX7 bX7
    go_wp2
    go_ret
    exact ⟨rfl, hB8⟩
  | false =>
    clear Hnn Htwo
    go_wp2_with fail
    refine (Hnil.out _).mono ?_
    rintro e w6 ⟨rfl, hb6⟩
    have HX6 := Lib.hid (HX5.out.below hb6)
    have aX6 := HX6.out.1
    have bX6 := HX6.out.2.1
    have HO6 := Lib.hid (own_below HO5.out hb6)
    have hB6 : Below w.heap.size w w6 := hB5.trans (hb6.mono hB5.size)
    clear hb6 aX5 bX5
    go_wp2_with fail
    refine (sameClaim k ms _ _ _ _ _ (RdMarks.of_own HO6.out Hi.out) (RdMarks.of_own HO6.out Hi.out) (Nat.le_refl _) (Nat.le_refl _)).mono ?_
    rintro e w7 ⟨rfl, hb7⟩
    have HX7 := Lib.hid (HX6.out.below hb7)
    have aX7 := HX7.out.1
    have bX7 := HX7.out.2.1
    have HO7 := Lib.hid (own_below HO6.out hb7)
    have hB7 : Below w.heap.size w w7 := hB6.trans (hb7.mono hB6.size)
    clear hb7 aX6 bX6
    go_wp2
    go_ret
    exact ⟨rfl, hB7⟩

set_option maxRecDepth 100000 in
theorem lifted (os : Os) (started : os.Started) (H : Type) (enc : TypeId × Value → H) :
    ReturnsInHanded {} Try.checked os 3 .any (Rows.fnClaimOkSpec.pre6 enc Try.prog Try.f3 Rows.fnClaimOkRow.domain false) (Rows.fnClaimOkSpec.post enc Try.prog Try.f3 false true false false) := by
  refine returnsInHanded_of_change (C := Try.checked) Try.own started (by kernel_rfl) Try.func3
    (ChangeSpec.witness6 (enc := enc) (C := Try.checked) false ⟨#[], #[.slice none 0 0], []⟩ 8 (by kernel_rfl) (by kernel_rfl) (by kernel_rfl) (by kernel_rfl)) ?_
  intro W base args ds gs before hval0 hW hcnd _
  have hval : ∀ (j : Nat) t v, Try.f3.params[j]? = some t → args[j]? = some v → Value.okWide Try.prog W .any base t v := hval0
  have hW' := hW
  obtain ⟨p, q, hA0, hV, rfl, hfz, hnd⟩ := hW
  have hA : DataW.TrodAll enc Try.prog W 0 (fun _ => true) true Try.f3.params.toList args.toList ds p := hA0
  rw [Try.params3] at hA hval
  obtain ⟨v0, vs0, d0, ds0, p0, q0, hargs, rfl, rfl, h0, r0⟩ := trodAll_cons hA
  obtain ⟨rfl, rfl, rfl⟩ := trodAll_nil r0
  obtain rfl : args = #[v0] := by cases args; simp_all
  obtain ⟨rfl, rfl⟩ := trodVars_none hV
  obtain ⟨a0, len0, cap0, rfl⟩ := okWide_slice Try.underlying22 (hval 0 22 v0 rfl rfl)
  have k0 := h0
  have lt0 : ∀ x ∈ p0, x.block < W.heap.size := by obtain ⟨m, hm⟩ := k0; exact DataW.trod_lt m _ _ _ hm
  obtain ⟨z0, w0⟩ : ∃ zs, IsRow .u8 W a0 len0 cap0 zs := by
    obtain ⟨fuel, hf⟩ := h0
    rcases open_ints Try.underlying22 Try.underlying5 (by kernel_rfl) hf with ⟨hcs, _⟩ | ⟨x, l, c, zs, hcs, _, hl, hm, hz, _, hcell, hwz⟩
    · simp [Value.cells] at hcs
      obtain ⟨rfl, rfl, rfl⟩ := hcs
      exact ⟨[], .inl ⟨rfl, rfl, rfl, rfl⟩⟩
    · simp [Value.cells] at hcs
      obtain ⟨rfl, rfl, rfl⟩ := hcs
      exact ⟨zs, .inr ⟨_, rfl, hl, hm, by simpa using hz, hcell, hwz⟩⟩
  clear hA0 hval0
  refine (walk _ _ W (RdBytes.of_row w0)).mono fun e W' ⟨he, bel⟩ => ?_
  subst he
  exact ⟨_, rfl, _, _, _, [], _, [], hW', trodAll_mk1 (shut_bool Try.underlying4 _), (trodAll_cons_mk (Below.trod Try.laidOut (by kernel_rfl) (of_decide_eq_true (by kernel_rfl)) k0 bel lt0) trodAll_mk0), rfl, bel.frame _, fun h => by cases h⟩

theorem closed : joinedFacts Try.pinned.checked.prog 3 Try.f3 Rows.fnClaimOkSpec Rows.fnClaimOkRow = true := by
  unfold joinedFacts
  exact (and_tt (and_tt (and_tt (and_tt (and_tt (and_tt (and_tt (and_tt (and_tt (and_tt (and_tt (and_tt (and_tt (and_tt (and_tt (and_tt (and_tt (and_tt (and_tt (and_tt (and_tt (and_tt (and_tt (and_tt (and_tt (and_tt (and_tt (and_tt (and_tt (and_tt (and_tt (by kernel_rfl) (by kernel_rfl)) (by kernel_rfl)) (by kernel_rfl)) (by kernel_rfl)) (by kernel_rfl)) (by kernel_rfl)) (by kernel_rfl)) (by kernel_rfl)) (by kernel_rfl)) (by kernel_rfl)) (by kernel_rfl)) (by kernel_rfl)) (by kernel_rfl)) (by kernel_rfl)) (by kernel_rfl)) (by kernel_rfl)) (by kernel_rfl)) (by kernel_rfl)) (by kernel_rfl)) (by kernel_rfl)) (by kernel_rfl)) (by kernel_rfl)) (by kernel_rfl)) (by kernel_rfl)) Try.mayEnter0) (lifted_tt Try.lifts0 rfl)) (make_tt Try.make0 rfl)) (by kernel_rfl)) (by kernel_rfl)) (by kernel_rfl)) (by kernel_rfl))
theorem over : Rows.fnClaimOkRow.holds Try.pinned (OpenSpec.ofChange Rows.fnClaimOkSpec) :=
  OpenClaim.holds_of_wide 3 Try.f3 rfl rfl rfl rfl rfl rfl rfl ⟨rfl, rfl, rfl, rfl, rfl⟩ rfl rfl rfl rfl rfl (by kernel_rfl) Try.func3 closed
    (of_decide_eq_true (by kernel_rfl)) (by unfold Func.isWrapper; first | (rw [if_pos (by decide +kernel)]; kernel_rfl) | (rw [if_neg (by decide +kernel)]; exact ⟨rfl, rfl⟩))
    (fun os started H enc _ => lifted os started H enc)

theorem proved : Rows.FnClaimOkSaid := over
end Go.Proofs.Ytcpdcokcckbggaa.fnClaimOk

