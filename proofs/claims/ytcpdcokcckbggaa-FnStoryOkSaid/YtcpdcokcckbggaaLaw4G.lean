/- A law of stage 4: stories without claims are stories. It answers true, whatever the code. No condition. -/
import Derived.Test.YtcpdcokcckbggaaDrawS
import Derived.Test.YtcpdcokcckbggaaDrawH
import Derived.Test.YtcpdcokcckbggaaMirrorS
import Derived.Test.YtcpdcokcckbggaaTruthI
import Derived.Test.YtcpdcokcckbggaaClaimI
import Derived.Test.YtcpdcokcckbggaaClaimE
import Derived.Test.YtcpdcokcckbggaaLawsA
import Derived.Deep.RegionHeld3
import Derived.Deep.Cut
import Derived.Test.YtcpdcokcckbggaaClaimF
namespace Go.Proofs.Ytcpdcokcckbggaa
open Go.RowKit
theorem rdStory_nil (W : World) (B : Nat) (a : Option Addr) : RdStory W B (.slice a 0 0) [] :=
  ⟨a, 0, rfl, Nat.le_refl _, by unfold maxLen; omega, fun q hq => by simp at hq, fun j hj => by simp at hj⟩
theorem rdStory_take {w : World} {B n cap m : Nat} {ao : Option Addr} {qs : List QC} (h : RdStory w B (.slice ao n cap) qs) (hm : m ≤ qs.length) : RdStory w B (.slice ao m cap) (qs.take m) := by
  obtain ⟨ao', cap', hv, hl, hmx, hi, hc⟩ := h
  cases hv
  have e : (qs.take m).length = m := by simp; omega
  refine ⟨ao, cap, by rw [e], by omega, hmx, fun q hq => hi q (List.mem_of_mem_take hq), fun j hj => ?_⟩
  rw [e] at hj
  obtain ⟨b, off, ha, hb, h1, h2⟩ := hc j (by omega)
  have eg : (qs.take m).getD j qc0 = qs.getD j qc0 := by simp [List.getD_eq_getElem?_getD, hj]
  rw [eg]
  exact ⟨b, off, ha, hb, h1, h2⟩
end Go.Proofs.Ytcpdcokcckbggaa
namespace Go.Proofs.Ytcpdcokcckbggaa.fnStoryOk
open Go.ChangeShapes Go.WideShapes Go.ChangeAt Go.RowKit Go.Joins
attribute [local irreducible] holds tabN tabV holdsV sameV followsV alwaysV matterV mirV mirOk mcells tmOf claimOk mayT mayV ctabV ctabN storyV storyOk storyN storyT ctermV ctermL denyV denyOk ccells
open Go.ChangeMaps (open_string shut_string)
set_option linter.unusedVariables false
set_option maxRecDepth 100000 in
set_option maxHeartbeats 4000000 in
theorem walk (a0 : Value) (n0 : Nat) (w : World) (w0 : RdBytes w w.heap.size a0 n0) :
    Calls Try.prog 8 #[a0] w fun e w' => e = .returned (.bool true) ∧ Below w.heap.size w w' := by
  have hr := w0
  by_cases hbig : n0 ≤ 1048576
  case neg =>
    obtain ⟨ao, cap, rfl, hl, hm, hc⟩ := w0
    have hbig' := code_big hbig
    unfold maxLen at hm
    clear hc hr hbig
    go_enter Try.func8, Try.ntmps8
    go_wp2
    go_ret
    exact ⟨rfl, Below.refl _ _⟩
  have hbig' : (n0 : Int) ≤ 1048576 := by omega
  clear hbig
  obtain ⟨ao, cap, rfl, hl, hm, hc⟩ := w0
  have Hr := Lib.hid hr
  clear hc hr hl hm
  go_enter Try.func8, Try.ntmps8
  go_wp2_with fail
  refine (drawStoryOk _ _ _ Hr.out).mono ?_
  rintro e w1 ⟨p, v, qs, hp4', hp8, rfl, hst, hqs, hq7, hB1⟩
  have HS1 := Lib.hid hst
  obtain ⟨vo, vc, hvf⟩ := own_len hst.1
  subst hvf
  have hvc : qs.length ≤ vc := by
    rcases hst.1.2 with ⟨h0, hz⟩ | ⟨g', cap', cur, h0, _, _, h1, _⟩
    · injection h0 with _ h2 h3; omega
    · injection h0 with _ h2 h3; omega
  clear hst
  have Hio := Lib.hid (fun B u W h h2 => implStoryOk p qs B u W h h2)
  have Hso := Lib.hid (fun B u W h h2 => specStoryOk p qs B u W h h2)
  have Hp := Lib.hid (fun (h : storyOk p (qs.map (·.2)) = true) => (storyOk_iff.1 h).2.1)
  have Hpre : Hid (storyOk p (qs.map (·.2)) = true → storyOk p ((qs.take (qs.length - 1)).map (·.2)) = true) := fun h => storyOk_sub h (by simp) (fun c hc => by
    obtain ⟨q, hq, rfl⟩ := List.mem_map.1 hc
    exact List.mem_map.2 ⟨q, List.mem_of_mem_take hq, rfl⟩)
  generalize storyOk p (qs.map (·.2)) = o at *
  go_wp2_with fail
  refine (Hio.out _ _ _ HS1.out.rd (Nat.le_refl _)).mono ?_
  rintro e w2 ⟨rfl, hb2⟩
  have hB2 : Below w.heap.size w w2 := hB1.trans (hb2.mono hB1.size)
  have HS2 := Lib.hid (HS1.out.below hb2)
  clear hb2 
  go_wp2_with fail
  refine (Hso.out _ _ _ HS2.out.rd (Nat.le_refl _)).mono ?_
  rintro e w3 ⟨rfl, hb3⟩
  have hB3 : Below w.heap.size w w3 := hB2.trans (hb3.mono hB2.size)
  have HS3 := Lib.hid (HS2.out.below hb3)
  clear hb3 
  clear Hio Hso
  have hpe : pOk p = decide (1 ≤ p ∧ p ≤ 4) := rfl
  by_cases h1 : 1 ≤ p
  case neg =>
    cases o with
    | true =>
      have := Hp.out rfl
      rw [hpe, decide_eq_true_eq] at this
      omega
    | false =>
      clear hpe
      go_wp2_with fail
      refine (alive _).mono ?_
      rintro e w' ⟨rfl, rfl⟩
      go_wp2
      go_ret
      exact ⟨rfl, hB3⟩
  by_cases h4 : p ≤ 4
  case neg =>
    have h4' : 4 < p := by omega
    cases o with
    | true =>
      have := Hp.out rfl
      rw [hpe, decide_eq_true_eq] at this
      omega
    | false =>
      clear hpe h4
      go_wp2_with fail
      refine (alive _).mono ?_
      rintro e w' ⟨rfl, rfl⟩
      go_wp2
      go_ret
      exact ⟨rfl, hB3⟩
  have hnil : storyOk p (([] : List QC).map (·.2)) = true := by
    rw [List.map_nil, storyOk_nil, hpe, decide_eq_true_eq]
    exact ⟨h1, h4⟩
  have Hnil := Lib.hid (fun (W : World) a => implStoryOk p [] 0 (.slice a 0 0) W (rdStory_nil W 0 a) (Nat.zero_le _))
  rw [hnil] at Hnil
  clear hnil hpe Hp
  go_wp2_with fail
  refine (Hnil.out _ _).mono ?_
  rintro e w4 ⟨rfl, hb4'⟩
  have hb4 : Below w3.heap.size w3 w4 := ((Below.refl _ _).alloc (Nat.le_refl _) _).trans (hb4'.mono (by simp))
  have HS4 := Lib.hid (HS3.out.below hb4)
  have hB4 : Below w.heap.size w w4 := hB3.trans (hb4.mono hB3.size)
  clear hb4 hb4'
  go_wp2_with fail
  refine (sameStory qs qs rfl _ _ _ _ _ HS4.out.rd HS4.out.rd (Nat.le_refl _) (Nat.le_refl _)).mono ?_
  rintro e w5 ⟨rfl, hb5⟩
  have hB5 : Below w.heap.size w w5 := hB4.trans (hb5.mono hB4.size)
  have HS5 := Lib.hid (HS4.out.below hb5)
  clear hb5 
  cases o with
  | false =>
    clear Hpre
    go_wp2_with fail
    refine (alive _).mono ?_
    rintro e w' ⟨rfl, rfl⟩
    go_wp2
    go_ret
    exact ⟨rfl, hB5⟩
  | true =>
  have hpr := Hpre.out rfl
  clear Hpre
  by_cases h0 : qs.length = 0
  case pos =>
    have h0' : (qs.length : Int) = 0 := by omega
    go_wp2_with fail
    refine (alive _).mono ?_
    rintro e w' ⟨rfl, rfl⟩
    go_wp2
    go_ret
    exact ⟨rfl, hB5⟩
  have h0' : ¬ (qs.length : Int) = 0 := by omega
  have Hrd := Lib.hid (rdStory_take HS5.out.rd (show qs.length - 1 ≤ qs.length by omega))
  have Hlst := Lib.hid (fun W h h2 => implStoryOk p (qs.take (qs.length - 1)) w5.heap.size (.slice vo (qs.length - 1) vc) W h h2)
  rw [hpr] at Hlst
  obtain ⟨m, hm⟩ : ∃ m, m = qs.length - 1 := ⟨_, rfl⟩
  rw [← hm] at Hrd Hlst
  have hi1 : IntKind.i64.wrap ((qs.length : Int) - 1) = (m : Int) := by rw [IntWalk.i64_in _ (by omega)]; omega
  have hi2 : (0 : Int) ≤ (m : Int) := by omega
  have hi3 : (m : Int) ≤ (vc : Int) := by omega
  have hi4 : m ≤ vc := by omega
  have hi5 : (m : Int) ≤ (qs.length : Int) := by omega
  have hi6 : ¬ vc = 0 := by omega
  have hi7 : (qs.length : Int) - 1 = (m : Int) := by omega
  clear hm hpr
  go_wp2_with fail
  refine (Hlst.out _ Hrd.out (Nat.le_refl _)).mono ?_
  rintro e w6 ⟨rfl, hb6⟩
  have hB6 : Below w.heap.size w w6 := hB5.trans (hb6.mono hB5.size)
  clear hb6
  go_wp2_with fail
  refine (alive _).mono ?_
  rintro e w' ⟨rfl, rfl⟩
  go_wp2
  go_ret
  exact ⟨rfl, hB6⟩

set_option maxRecDepth 100000 in
theorem lifted (os : Os) (started : os.Started) (H : Type) (enc : TypeId × Value → H) :
    ReturnsInHanded {} Try.checked os 8 .any (Rows.fnStoryOkSpec.pre6 enc Try.prog Try.f8 Rows.fnStoryOkRow.domain false) (Rows.fnStoryOkSpec.post enc Try.prog Try.f8 false true false false) := by
  refine returnsInHanded_of_change (C := Try.checked) Try.own started (by kernel_rfl) Try.func8
    (ChangeSpec.witness6 (enc := enc) (C := Try.checked) false ⟨#[], #[.slice none 0 0], []⟩ 8 (by kernel_rfl) (by kernel_rfl) (by kernel_rfl) (by kernel_rfl)) ?_
  intro W base args ds gs before hval0 hW hcnd _
  have hval : ∀ (j : Nat) t v, Try.f8.params[j]? = some t → args[j]? = some v → Value.okWide Try.prog W .any base t v := hval0
  have hW' := hW
  obtain ⟨p, q, hA0, hV, rfl, hfz, hnd⟩ := hW
  have hA : DataW.TrodAll enc Try.prog W 0 (fun _ => true) true Try.f8.params.toList args.toList ds p := hA0
  rw [Try.params8] at hA hval
  obtain ⟨v0, vs0, d0, ds0, p0, q0, hargs, rfl, rfl, h0, r0⟩ := trodAll_cons hA
  obtain ⟨rfl, rfl, rfl⟩ := trodAll_nil r0
  obtain rfl : args = #[v0] := by cases args; simp_all
  obtain ⟨rfl, rfl⟩ := trodVars_none hV
  obtain ⟨a0, len0, cap0, rfl⟩ := okWide_slice Try.underlying22 (hval 0 22 v0 rfl rfl)
  have k0 := h0
  have lt0 : ∀ x ∈ p0, x.block < W.heap.size := by obtain ⟨m, hm⟩ := k0; exact DataW.trod_lt m _ _ _ hm
  obtain ⟨z0, w0⟩ : ∃ zs, IsRow .u8 W a0 len0 cap0 zs := by
    obtain ⟨fuel, hf⟩ := h0
    rcases open_ints Try.underlying22 Try.underlying5 (by kernel_rfl) hf with ⟨hcs, _⟩ | ⟨x, l, c, zs, hcs, _, hl, hm, hz, _, hcell, hwz⟩
    · simp [Value.cells] at hcs
      obtain ⟨rfl, rfl, rfl⟩ := hcs
      exact ⟨[], .inl ⟨rfl, rfl, rfl, rfl⟩⟩
    · simp [Value.cells] at hcs
      obtain ⟨rfl, rfl, rfl⟩ := hcs
      exact ⟨zs, .inr ⟨_, rfl, hl, hm, by simpa using hz, hcell, hwz⟩⟩
  clear hA0 hval0
  refine (walk _ _ W (RdBytes.of_row w0)).mono fun e W' ⟨he, bel⟩ => ?_
  subst he
  exact ⟨_, rfl, _, _, _, [], _, [], hW', trodAll_mk1 (shut_bool Try.underlying4 _), (trodAll_cons_mk (Below.trod Try.laidOut (by kernel_rfl) (of_decide_eq_true (by kernel_rfl)) k0 bel lt0) trodAll_mk0), rfl, bel.frame _, fun h => by cases h⟩

theorem closed : joinedFacts Try.pinned.checked.prog 8 Try.f8 Rows.fnStoryOkSpec Rows.fnStoryOkRow = true := by
  unfold joinedFacts
  exact (and_tt (and_tt (and_tt (and_tt (and_tt (and_tt (and_tt (and_tt (and_tt (and_tt (and_tt (and_tt (and_tt (and_tt (and_tt (and_tt (and_tt (and_tt (and_tt (and_tt (and_tt (and_tt (and_tt (and_tt (and_tt (and_tt (and_tt (and_tt (and_tt (and_tt (and_tt (by kernel_rfl) (by kernel_rfl)) (by kernel_rfl)) (by kernel_rfl)) (by kernel_rfl)) (by kernel_rfl)) (by kernel_rfl)) (by kernel_rfl)) (by kernel_rfl)) (by kernel_rfl)) (by kernel_rfl)) (by kernel_rfl)) (by kernel_rfl)) (by kernel_rfl)) (by kernel_rfl)) (by kernel_rfl)) (by kernel_rfl)) (by kernel_rfl)) (by kernel_rfl)) (by kernel_rfl)) (by kernel_rfl)) (by kernel_rfl)) (by kernel_rfl)) (by kernel_rfl)) (by kernel_rfl)) Try.mayEnter0) (lifted_tt Try.lifts0 rfl)) (make_tt Try.make0 rfl)) (by kernel_rfl)) (by kernel_rfl)) (by kernel_rfl)) (by kernel_rfl))
theorem over : Rows.fnStoryOkRow.holds Try.pinned (OpenSpec.ofChange Rows.fnStoryOkSpec) :=
  OpenClaim.holds_of_wide 8 Try.f8 rfl rfl rfl rfl rfl rfl rfl ⟨rfl, rfl, rfl, rfl, rfl⟩ rfl rfl rfl rfl rfl (by kernel_rfl) Try.func8 closed
    (of_decide_eq_true (by kernel_rfl)) (by unfold Func.isWrapper; first | (rw [if_pos (by decide +kernel)]; kernel_rfl) | (rw [if_neg (by decide +kernel)]; exact ⟨rfl, rfl⟩))
    (fun os started H enc _ => lifted os started H enc)

theorem proved : Rows.FnStoryOkSaid := over
end Go.Proofs.Ytcpdcokcckbggaa.fnStoryOk

