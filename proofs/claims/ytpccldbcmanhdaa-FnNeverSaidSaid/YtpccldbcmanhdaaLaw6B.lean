/- A law of stage 6: nobody says to be a liar. It answers true, whatever the code. No condition. -/
import Derived.Test.YtpccldbcmanhdaaDrawL
import Derived.Test.YtpccldbcmanhdaaDrawH
import Derived.Test.YtpccldbcmanhdaaOddI
import Derived.Test.YtpccldbcmanhdaaClaimI
import Derived.Test.YtpccldbcmanhdaaLawsA
import Derived.Deep.RegionHeld3
import Derived.Deep.Cut
namespace Go.Proofs.Ytpccldbcmanhdaa
open Go.RowKit
theorem fnNeverSaid_facts {p k : Int} {ms : List (Int × Int)} (h : claimOk p (k, ms) = true) : kindOk p k k false = true ∧ kindV p k k false = (k, [(0, k), (2, 0)]) ∧ neverV p (k, [(0, k), (2, 0)]) = true ∧ sameV p ms [(0, k), (2, 0)] = neverV p (k, ms) ∧ I64s [(0, k), (2, 0)] := by
  have hk : kindOk p k k false = true := own_ok h false
  have hv : kindV p k k false = (k, [(0, k), (2, 0)]) := (kindV_yes hk).2
  obtain ⟨h1, h4, h5, h6, _, _⟩ := kind_ok.1 hk
  have e0 : I64 0 := I64_small (by omega) (by omega)
  have e2 : I64 2 := I64_small (by omega) (by omega)
  have ek : I64 k := I64_small (by omega) (by omega)
  refine ⟨hk, hv, ?_, never_same h, by first | exact I64s_one e0 ek | exact I64s_two e0 ek e2 e0⟩
  have hc : claimOk p (k, [(0, k), (2, 0)]) = true := hk
  have hs : ctabN p (k, [(0, k), (2, 0)]) = _ := kind_self hk
  rw [neverV_yes hc, hs]
  simp
end Go.Proofs.Ytpccldbcmanhdaa
namespace Go.Proofs.Ytpccldbcmanhdaa.fnNeverSaid
open Go.ChangeShapes Go.WideShapes Go.ChangeAt Go.RowKit Go.Joins
attribute [local irreducible] holds tabN tabV holdsV sameV followsV alwaysV matterV mirV mirOk mcells tmOf claimOk mayT mayV ctabV ctabN storyV storyOk storyN storyT ctermV ctermL denyV denyOk ccells sayV neverV alwsV nestOk nestV kindOk kindV
open Go.ChangeMaps (open_string shut_string)
set_option linter.unusedVariables false
set_option maxRecDepth 100000 in
set_option maxHeartbeats 4000000 in
theorem walk (a0 : Value) (n0 : Nat) (w : World) (w0 : RdBytes w w.heap.size a0 n0) :
    Calls Try.prog 4 #[a0] w fun e w' => e = .returned (.bool true) ∧ Below w.heap.size w w' := by
  have hr := w0
  by_cases hbig : n0 ≤ 1048576
  case neg =>
    obtain ⟨ao, cap, rfl, hl, hm, hc⟩ := w0
    have hbig' := code_big hbig
    unfold maxLen at hm
    clear hc hr hbig
    go_enter Try.func4, Try.ntmps4
    go_wp2
    go_ret
    exact ⟨rfl, Below.refl _ _⟩
  have hbig' : (n0 : Int) ≤ 1048576 := by omega
  clear hbig
  obtain ⟨ao, cap, rfl, hl, hm, hc⟩ := w0
  have Hr := Lib.hid hr
  clear hc hr hl hm
  go_enter Try.func4, Try.ntmps4
  go_wp2_with fail
  refine (drawNeverSaid _ _ _ Hr.out).mono ?_
  rintro e w1 ⟨p, k, g, cp, ms, hp1, hp8, rfl, hown, hi, hn20, hk1, hk4, hB1⟩
  have Hi := Lib.hid hi
  go_upto_region 4 with fail
  obtain ⟨w2, hw2, hx2, hb2, hsz2⟩ := Box.new w1 (.int .i64 k) (.slice (some ⟨g, 0, none⟩) ms.length cp) TC
  have HO2 := Lib.hid (show w2.ownsRow w.heap.size TM 2 (.slice (some ⟨g, 0, none⟩) ms.length cp) ms.length (mcells ms) by rw [hw2]; exact hown.alloc _)
  have hB2 : Below w.heap.size w w2 := hB1.trans (hb2.mono hB1.size)
  have HX2 := Lib.hid hx2
  have aX2 := HX2.out.1
  have bX2 := HX2.out.2.1
  rw [← hw2]
  clear hw2 hown hi hb2 hx2 hB1
  have him := fun B u W h h2 => implNeverSaid p k ms B u W h h2
  have hsp := fun B u W h h2 => specNeverSaid p k ms B u W h h2
  have hno := fun (h : claimOk p (k, ms) = false) => neverV_no h
  have hyes := fun (h : claimOk p (k, ms) = true) => fnNeverSaid_facts h
  generalize neverV p (k, ms) = V at *
  have Him := Lib.hid him
  have Hsp := Lib.hid hsp
  have Hok := Lib.hid (fun B u W h h2 => specClaimOk p k ms B u W h h2)
  have Hno := Lib.hid hno
  have Hyes := Lib.hid hyes
  clear him hsp hno hyes
  go_wp2_with fail
  refine (Him.out _ _ _ (RdMarks.of_own HO2.out Hi.out) (Nat.le_refl _)).mono ?_
  rintro e w3 ⟨rfl, hb3⟩
  have HX3 := Lib.hid (HX2.out.below hb3)
  have aX3 := HX3.out.1
  have bX3 := HX3.out.2.1
  have HO3 := Lib.hid (own_below HO2.out hb3)
  have hB3 : Below w.heap.size w w3 := hB2.trans (hb3.mono hB2.size)
  clear hb3 aX2 bX2
  go_wp2_with fail
  refine (Hsp.out _ _ _ (RdMarks.of_own HO3.out Hi.out) (Nat.le_refl _)).mono ?_
  rintro e w4 ⟨rfl, hb4⟩
  have HX4 := Lib.hid (HX3.out.below hb4)
  have aX4 := HX4.out.1
  have bX4 := HX4.out.2.1
  have HO4 := Lib.hid (own_below HO3.out hb4)
  have hB4 : Below w.heap.size w w4 := hB3.trans (hb4.mono hB3.size)
  clear hb4 aX3 bX3
  cases hok : claimOk p (k, ms) with
  | false =>
    have hV := Hno.out hok
    rw [hok] at Hok
    subst hV
    clear hok Hno Hyes Him Hsp
    go_wp2_with fail
    refine (Hok.out _ _ _ (RdMarks.of_own HO4.out Hi.out) (Nat.le_refl _)).mono ?_
    rintro e w5 ⟨rfl, hb5⟩
    have HX5 := Lib.hid (HX4.out.below hb5)
    have aX5 := HX5.out.1
    have bX5 := HX5.out.2.1
    have HO5 := Lib.hid (own_below HO4.out hb5)
    have hB5 : Below w.heap.size w w5 := hB4.trans (hb5.mono hB4.size)
    clear hb5 aX4 bX4
    go_wp2_with fail
    refine (alive _).mono ?_
    rintro e w' ⟨rfl, rfl⟩
    go_wp2
    go_ret
    exact ⟨rfl, hB5⟩
  | true =>
    obtain ⟨hko, hkv, hnv, hsm, hxi⟩ := Hyes.out hok
    rw [hok] at Hok
    clear hok Hno Hyes Him Hsp
    have hkc := fun W => implKindClaim p k k false (I64_small (by omega) (by omega)) W
    rw [hko, hkv] at hkc
    obtain ⟨xs, hxs⟩ : ∃ xs : List (Int × Int), xs = [(0, k), (2, 0)] := ⟨_, rfl⟩
    rw [← hxs] at hkc hnv hsm hxi
    have Hnv := Lib.hid (fun B u W h h2 => implNeverSaid p k xs B u W h h2)
    rw [hnv] at Hnv
    have Hsm := Lib.hid (fun B B' a b W h h2 h3 h4 => implSameOk p ms xs B B' a b W h h2 h3 h4)
    rw [hsm] at Hsm
    have Hkc := Lib.hid hkc
    have Hxi := Lib.hid hxi
    clear hko hkv hnv hsm hxi hkc hxs
    go_wp2_with fail
    refine (Hok.out _ _ _ (RdMarks.of_own HO4.out Hi.out) (Nat.le_refl _)).mono ?_
    rintro e w5 ⟨rfl, hb5⟩
    have HX5 := Lib.hid (HX4.out.below hb5)
    have aX5 := HX5.out.1
    have bX5 := HX5.out.2.1
    have HO5 := Lib.hid (own_below HO4.out hb5)
    have hB5 : Below w.heap.size w w5 := hB4.trans (hb5.mono hB4.size)
    clear hb5 aX4 bX4
    go_wp2_with fail
    refine (Hkc.out _).mono ?_
    rintro e w6 ⟨vA, rfl, hoA, hb6⟩
    have HX6 := Lib.hid (HX5.out.below hb6)
    have aX6 := HX6.out.1
    have bX6 := HX6.out.2.1
    have HO6 := Lib.hid (own_below HO5.out hb6)
    have hB6 : Below w.heap.size w w6 := hB5.trans (hb6.mono hB5.size)
    obtain ⟨fA, gA, hfA⟩ := own_len hoA
    subst hfA
    clear hb6 aX5 bX5
    go_upto_region 10 with fail
    obtain ⟨w7, hw7, hn7, hb7, hsz7⟩ := Box.new w6 (.int .i64 k) (.slice fA xs.length gA) TC
    have HX7 := Lib.hid (HX6.out.below hb7)
    have aX7 := HX7.out.1
    have bX7 := HX7.out.2.1
    have HO7 := Lib.hid (own_below HO6.out hb7)
    have hB7 : Below w.heap.size w w7 := hB6.trans (hb7.mono hB6.size)
    have HRA7 := Lib.hid (own_below hoA hb7)
    have HA7 := Lib.hid hn7
    have aA7 := HA7.out.1
    have bA7 := HA7.out.2.1
    rw [← hw7]
    clear hw7 hn7 hb7 hoA aX6 bX6
    go_wp2_with fail
    refine (Hnv.out _ _ _ (RdMarks.of_own HRA7.out Hxi.out) (Nat.le_refl _)).mono ?_
    rintro e w8 ⟨rfl, hb8⟩
    have HX8 := Lib.hid (HX7.out.below hb8)
    have aX8 := HX8.out.1
    have bX8 := HX8.out.2.1
    have HA8 := Lib.hid (HA7.out.below hb8)
    have aA8 := HA8.out.1
    have bA8 := HA8.out.2.1
    have HO8 := Lib.hid (own_below HO7.out hb8)
    have HRA8 := Lib.hid (own_below HRA7.out hb8)
    have hB8 : Below w.heap.size w w8 := hB7.trans (hb8.mono hB7.size)
    clear hb8 aX7 bX7 aA7 bA7
    go_wp2_with fail
    refine (Hsm.out _ _ _ _ _ (RdMarks.of_own HO8.out Hi.out) (RdMarks.of_own HRA8.out Hxi.out) (Nat.le_refl _) (Nat.le_refl _)).mono ?_
    rintro e w9 ⟨rfl, hb9⟩
    have HX9 := Lib.hid (HX8.out.below hb9)
    have aX9 := HX9.out.1
    have bX9 := HX9.out.2.1
    have HA9 := Lib.hid (HA8.out.below hb9)
    have aA9 := HA9.out.1
    have bA9 := HA9.out.2.1
    have HO9 := Lib.hid (own_below HO8.out hb9)
    have hB9 : Below w.heap.size w w9 := hB8.trans (hb9.mono hB8.size)
    clear hb9 aX8 bX8 aA8 bA8
    cases V
    all_goals
      go_wp2
      go_ret
      exact ⟨rfl, hB9⟩

set_option maxRecDepth 100000 in
theorem lifted (os : Os) (started : os.Started) (H : Type) (enc : TypeId × Value → H) :
    ReturnsInHanded {} Try.checked os 4 .any (Rows.fnNeverSaidSpec.pre6 enc Try.prog Try.f4 Rows.fnNeverSaidRow.domain false) (Rows.fnNeverSaidSpec.post enc Try.prog Try.f4 false true false false) := by
  refine returnsInHanded_of_change (C := Try.checked) Try.own started (by kernel_rfl) Try.func4
    (ChangeSpec.witness6 (enc := enc) (C := Try.checked) false ⟨#[], #[.slice none 0 0], []⟩ 8 (by kernel_rfl) (by kernel_rfl) (by kernel_rfl) (by kernel_rfl)) ?_
  intro W base args ds gs before hval0 hW hcnd _
  have hval : ∀ (j : Nat) t v, Try.f4.params[j]? = some t → args[j]? = some v → Value.okWide Try.prog W .any base t v := hval0
  have hW' := hW
  obtain ⟨p, q, hA0, hV, rfl, hfz, hnd⟩ := hW
  have hA : DataW.TrodAll enc Try.prog W 0 (fun _ => true) true Try.f4.params.toList args.toList ds p := hA0
  rw [Try.params4] at hA hval
  obtain ⟨v0, vs0, d0, ds0, p0, q0, hargs, rfl, rfl, h0, r0⟩ := trodAll_cons hA
  obtain ⟨rfl, rfl, rfl⟩ := trodAll_nil r0
  obtain rfl : args = #[v0] := by cases args; simp_all
  obtain ⟨rfl, rfl⟩ := trodVars_none hV
  obtain ⟨a0, len0, cap0, rfl⟩ := okWide_slice Try.underlying22 (hval 0 22 v0 rfl rfl)
  have k0 := h0
  have lt0 : ∀ x ∈ p0, x.block < W.heap.size := by obtain ⟨m, hm⟩ := k0; exact DataW.trod_lt m _ _ _ hm
  obtain ⟨z0, w0⟩ : ∃ zs, IsRow .u8 W a0 len0 cap0 zs := by
    obtain ⟨fuel, hf⟩ := h0
    rcases open_ints Try.underlying22 Try.underlying5 (by kernel_rfl) hf with ⟨hcs, _⟩ | ⟨x, l, c, zs, hcs, _, hl, hm, hz, _, hcell, hwz⟩
    · simp [Value.cells] at hcs
      obtain ⟨rfl, rfl, rfl⟩ := hcs
      exact ⟨[], .inl ⟨rfl, rfl, rfl, rfl⟩⟩
    · simp [Value.cells] at hcs
      obtain ⟨rfl, rfl, rfl⟩ := hcs
      exact ⟨zs, .inr ⟨_, rfl, hl, hm, by simpa using hz, hcell, hwz⟩⟩
  clear hA0 hval0
  refine (walk _ _ W (RdBytes.of_row w0)).mono fun e W' ⟨he, bel⟩ => ?_
  subst he
  exact ⟨_, rfl, _, _, _, [], _, [], hW', trodAll_mk1 (shut_bool Try.underlying4 _), (trodAll_cons_mk (Below.trod Try.laidOut (by kernel_rfl) (of_decide_eq_true (by kernel_rfl)) k0 bel lt0) trodAll_mk0), rfl, bel.frame _, fun h => by cases h⟩

theorem closed : joinedFacts Try.pinned.checked.prog 4 Try.f4 Rows.fnNeverSaidSpec Rows.fnNeverSaidRow = true := by
  unfold joinedFacts
  exact (and_tt (and_tt (and_tt (and_tt (and_tt (and_tt (and_tt (and_tt (and_tt (and_tt (and_tt (and_tt (and_tt (and_tt (and_tt (and_tt (and_tt (and_tt (and_tt (and_tt (and_tt (and_tt (and_tt (and_tt (and_tt (and_tt (and_tt (and_tt (and_tt (and_tt (and_tt (by kernel_rfl) (by kernel_rfl)) (by kernel_rfl)) (by kernel_rfl)) (by kernel_rfl)) (by kernel_rfl)) (by kernel_rfl)) (by kernel_rfl)) (by kernel_rfl)) (by kernel_rfl)) (by kernel_rfl)) (by kernel_rfl)) (by kernel_rfl)) (by kernel_rfl)) (by kernel_rfl)) (by kernel_rfl)) (by kernel_rfl)) (by kernel_rfl)) (by kernel_rfl)) (by kernel_rfl)) (by kernel_rfl)) (by kernel_rfl)) (by kernel_rfl)) (by kernel_rfl)) (by kernel_rfl)) Try.mayEnter0) (lifted_tt Try.lifts0 rfl)) (make_tt Try.make0 rfl)) (by kernel_rfl)) (by kernel_rfl)) (by kernel_rfl)) (by kernel_rfl))
theorem over : Rows.fnNeverSaidRow.holds Try.pinned (OpenSpec.ofChange Rows.fnNeverSaidSpec) :=
  OpenClaim.holds_of_wide 4 Try.f4 rfl rfl rfl rfl rfl rfl rfl ⟨rfl, rfl, rfl, rfl, rfl⟩ rfl rfl rfl rfl rfl (by kernel_rfl) Try.func4 closed
    (of_decide_eq_true (by kernel_rfl)) (by unfold Func.isWrapper; first | (rw [if_pos (by decide +kernel)]; kernel_rfl) | (rw [if_neg (by decide +kernel)]; exact ⟨rfl, rfl⟩))
    (fun os started H enc _ => lifted os started H enc)

theorem proved : Rows.FnNeverSaidSaid := over
end Go.Proofs.Ytpccldbcmanhdaa.fnNeverSaid

