/- A law of stage 3: at least nobody always holds. It answers true, whatever the code. No condition. -/
import Derived.Test.YtcpdcokcckbggaaDrawH
import Derived.Test.YtcpdcokcckbggaaMirrorS
import Derived.Test.YtcpdcokcckbggaaTruthI
import Derived.Test.YtcpdcokcckbggaaLawsA
import Derived.Deep.RegionHeld3
namespace Go.Proofs.Ytcpdcokcckbggaa.fnAlwaysOk
open Go.ChangeShapes Go.WideShapes Go.ChangeAt Go.RowKit Go.Joins
attribute [local irreducible] holds tabN tabV holdsV sameV followsV alwaysV matterV mirV mirOk mcells tmOf
open Go.ChangeMaps (open_string shut_string)
set_option linter.unusedVariables false
set_option maxRecDepth 100000 in
set_option maxHeartbeats 4000000 in
theorem walk (a0 : Value) (n0 : Nat) (w : World) (w0 : RdBytes w w.heap.size a0 n0) :
    Calls Try.prog 13 #[a0] w fun e w' => e = .returned (.bool true) ∧ Below w.heap.size w w' := by
  have hr := w0
  by_cases hbig : n0 ≤ 1048576
  case neg =>
    obtain ⟨ao, cap, rfl, hl, hm, hc⟩ := w0
    have hbig' := code_big hbig
    unfold maxLen at hm
    clear hc hr hbig
    go_enter Try.func13, Try.ntmps13
    go_wp2
    go_ret
    exact ⟨rfl, Below.refl _ _⟩
  have hbig' : (n0 : Int) ≤ 1048576 := by omega
  clear hbig
  obtain ⟨ao, cap, rfl, hl, hm, hc⟩ := w0
  have Hr := Lib.hid hr
  clear hc hr hl hm
  go_enter Try.func13, Try.ntmps13
  go_wp2_with fail
  refine (drawAlwaysOk _ _ _ Hr.out).mono ?_
  rintro e w1 ⟨p, g, n, cp, ms, hp1, hp8, rfl, hlen, hown, hi, hn, hB⟩
  have Hlen := Lib.hid hlen; clear hlen
  have Hi := Lib.hid hi; clear hi
  have hrd : RdMarks w1 w1.heap.size (.slice (some ⟨g, 0, none⟩) n cp) ms := by
    have h0 := RdMarks.of_own (ms := ms) (v := .slice (some ⟨g, 0, none⟩) n cp) (e := TM) (base := w.heap.size) (by rw [Hlen.out]; exact hown) Hi.out
    exact h0
  clear hown
  have Hrd1 := Lib.hid hrd; clear hrd
  have hB1 := hB; clear hB
  go_wp2_with fail
  refine (implAlwaysOk _ ms _ _ _ Hrd1.out (Nat.le_refl _)).mono ?_
  rintro e w2 ⟨rfl, hb2⟩
  have Hrd2 := Lib.hid (Hrd1.out.kept hb2)
  have hB2 : Below w.heap.size w w2 := hB1.trans (hb2.mono hB1.size)
  clear hb2 Hrd1
  have hno : termOk p ms = false → alwaysV p ms = false := alwaysV_no
  have hyes : termOk p ms = true → alwaysV p ms = (decide (matterV p ms = 0) && holdsV p ms 0) := always_matter
  have hsp := fun (B : Nat) (v : Value) (W : World) h h2 => specAlwaysOk p ms B v W h h2
  have hma := fun (B : Nat) (v : Value) (W : World) h h2 => implMatterIn p ms B v W h h2
  have hho := fun (B : Nat) (v : Value) (W : World) h h2 => implHoldsIn p ms 0 B v W h h2
  generalize alwaysV p ms = T at *
  generalize matterV p ms = M at *
  generalize holdsV p ms 0 = H at *
  have Hno := Lib.hid hno; clear hno
  have Hyes := Lib.hid hyes; clear hyes
  have Hsp := Lib.hid hsp; clear hsp
  have Hma := Lib.hid hma; clear hma
  have Hho := Lib.hid hho; clear hho
  go_wp2_with fail
  refine (Hsp.out _ _ _ Hrd2.out (Nat.le_refl _)).mono ?_
  rintro e w3 ⟨rfl, hb3⟩
  have Hrd3 := Lib.hid (Hrd2.out.kept hb3)
  have hB3 : Below w.heap.size w w3 := hB2.trans (hb3.mono hB2.size)
  clear hb3 Hrd2
  go_wp2_with fail
  refine (specTermOk _ ms _ _ _ Hrd3.out).mono ?_
  rintro e w' ⟨rfl, rfl⟩
  cases hok : termOk p ms with
  | false =>
    obtain rfl := Hno.out hok
    clear hok
    go_wp2_with fail
    refine (alive _).mono ?_
    rintro e w' ⟨rfl, rfl⟩
    go_wp2
    go_ret
    exact ⟨rfl, hB3⟩
  | true =>
    have HT := Lib.hid (Hyes.out hok)
    have hal := always_none (p_of hok)
    clear hok
    have Hal := Lib.hid (fun (W : World) => implAlwaysOk p [(1, 0)] _ _ _ (RdMarks.one W 1 0 TM (I64_small (by omega) (by omega)) (I64_small (by omega) (by omega))) (by simp))
    rw [hal] at Hal
    clear hal
    go_wp2_with fail
    refine (Hma.out _ _ _ Hrd3.out (Nat.le_refl _)).mono ?_
    rintro e w4 ⟨rfl, hb4⟩
    have Hrd4 := Lib.hid (Hrd3.out.kept hb4)
    have hB4 : Below w.heap.size w w4 := hB3.trans (hb4.mono hB3.size)
    clear hb4 Hrd3
    by_cases hM : M = 0
    · subst hM
      have hT' : T = H := by rw [HT.out]; simp
      subst hT'
      clear HT
      go_wp2_with fail
      refine (Hho.out _ _ _ Hrd4.out (Nat.le_refl _)).mono ?_
      rintro e w5 ⟨rfl, hb5⟩
      have hB5 : Below w.heap.size w w5 := hB4.trans (hb5.mono hB4.size)
      clear hb5 Hrd4
      cases T
      all_goals
        go_wp2_with fail
        refine (Hal.out _).mono ?_
        rintro e w6 ⟨rfl, hb6⟩
        have hB6 : Below w.heap.size w w6 := (hB5.alloc hB5.size _).trans (hb6.mono (by have := hB5.size; simp; omega))
        go_wp2
        go_ret
        exact ⟨rfl, hB6⟩
    · have hT' : T = false := by rw [HT.out]; simp [hM]
      subst hT'
      have hMb : (M == 0) = false := by rw [beq_eq_false_iff_ne]; exact hM
      clear HT hM
      go_wp2_with fail
      refine (Hal.out _).mono ?_
      rintro e w6 ⟨rfl, hb6⟩
      have hB6 : Below w.heap.size w w6 := (hB4.alloc hB4.size _).trans (hb6.mono (by have := hB4.size; simp; omega))
      go_wp2
      go_ret
      exact ⟨rfl, hB6⟩

set_option maxRecDepth 100000 in
theorem lifted (os : Os) (started : os.Started) (H : Type) (enc : TypeId × Value → H) :
    ReturnsInHanded {} Try.checked os 13 .any (Rows.fnAlwaysOkSpec.pre6 enc Try.prog Try.f13 Rows.fnAlwaysOkRow.domain false) (Rows.fnAlwaysOkSpec.post enc Try.prog Try.f13 false true false false) := by
  refine returnsInHanded_of_change (C := Try.checked) Try.own started (by kernel_rfl) Try.func13
    (ChangeSpec.witness6 (enc := enc) (C := Try.checked) false ⟨#[], #[.slice none 0 0], []⟩ 8 (by kernel_rfl) (by kernel_rfl) (by kernel_rfl) (by kernel_rfl)) ?_
  intro W base args ds gs before hval0 hW hcnd _
  have hval : ∀ (j : Nat) t v, Try.f13.params[j]? = some t → args[j]? = some v → Value.okWide Try.prog W .any base t v := hval0
  have hW' := hW
  obtain ⟨p, q, hA0, hV, rfl, hfz, hnd⟩ := hW
  have hA : DataW.TrodAll enc Try.prog W 0 (fun _ => true) true Try.f13.params.toList args.toList ds p := hA0
  rw [Try.params13] at hA hval
  obtain ⟨v0, vs0, d0, ds0, p0, q0, hargs, rfl, rfl, h0, r0⟩ := trodAll_cons hA
  obtain ⟨rfl, rfl, rfl⟩ := trodAll_nil r0
  obtain rfl : args = #[v0] := by cases args; simp_all
  obtain ⟨rfl, rfl⟩ := trodVars_none hV
  obtain ⟨a0, len0, cap0, rfl⟩ := okWide_slice Try.underlying22 (hval 0 22 v0 rfl rfl)
  have k0 := h0
  have lt0 : ∀ x ∈ p0, x.block < W.heap.size := by obtain ⟨m, hm⟩ := k0; exact DataW.trod_lt m _ _ _ hm
  obtain ⟨z0, w0⟩ : ∃ zs, IsRow .u8 W a0 len0 cap0 zs := by
    obtain ⟨fuel, hf⟩ := h0
    rcases open_ints Try.underlying22 Try.underlying5 (by kernel_rfl) hf with ⟨hcs, _⟩ | ⟨x, l, c, zs, hcs, _, hl, hm, hz, _, hcell, hwz⟩
    · simp [Value.cells] at hcs
      obtain ⟨rfl, rfl, rfl⟩ := hcs
      exact ⟨[], .inl ⟨rfl, rfl, rfl, rfl⟩⟩
    · simp [Value.cells] at hcs
      obtain ⟨rfl, rfl, rfl⟩ := hcs
      exact ⟨zs, .inr ⟨_, rfl, hl, hm, by simpa using hz, hcell, hwz⟩⟩
  clear hA0 hval0
  refine (walk _ _ W (RdBytes.of_row w0)).mono fun e W' ⟨he, bel⟩ => ?_
  subst he
  exact ⟨_, rfl, _, _, _, [], _, [], hW', trodAll_mk1 (shut_bool Try.underlying4 _), (trodAll_cons_mk (Below.trod Try.laidOut (by kernel_rfl) (of_decide_eq_true (by kernel_rfl)) k0 bel lt0) trodAll_mk0), rfl, bel.frame _, fun h => by cases h⟩

theorem closed : joinedFacts Try.pinned.checked.prog 13 Try.f13 Rows.fnAlwaysOkSpec Rows.fnAlwaysOkRow = true := by
  unfold joinedFacts
  exact (and_tt (and_tt (and_tt (and_tt (and_tt (and_tt (and_tt (and_tt (and_tt (and_tt (and_tt (and_tt (and_tt (and_tt (and_tt (and_tt (and_tt (and_tt (and_tt (and_tt (and_tt (and_tt (and_tt (and_tt (and_tt (and_tt (and_tt (and_tt (and_tt (and_tt (and_tt (by kernel_rfl) (by kernel_rfl)) (by kernel_rfl)) (by kernel_rfl)) (by kernel_rfl)) (by kernel_rfl)) (by kernel_rfl)) (by kernel_rfl)) (by kernel_rfl)) (by kernel_rfl)) (by kernel_rfl)) (by kernel_rfl)) (by kernel_rfl)) (by kernel_rfl)) (by kernel_rfl)) (by kernel_rfl)) (by kernel_rfl)) (by kernel_rfl)) (by kernel_rfl)) (by kernel_rfl)) (by kernel_rfl)) (by kernel_rfl)) (by kernel_rfl)) (by kernel_rfl)) (by kernel_rfl)) Try.mayEnter0) (lifted_tt Try.lifts0 rfl)) (make_tt Try.make0 rfl)) (by kernel_rfl)) (by kernel_rfl)) (by kernel_rfl)) (by kernel_rfl))
theorem over : Rows.fnAlwaysOkRow.holds Try.pinned (OpenSpec.ofChange Rows.fnAlwaysOkSpec) :=
  OpenClaim.holds_of_wide 13 Try.f13 rfl rfl rfl rfl rfl rfl rfl ⟨rfl, rfl, rfl, rfl, rfl⟩ rfl rfl rfl rfl rfl (by kernel_rfl) Try.func13 closed
    (of_decide_eq_true (by kernel_rfl)) (by unfold Func.isWrapper; first | (rw [if_pos (by decide +kernel)]; kernel_rfl) | (rw [if_neg (by decide +kernel)]; exact ⟨rfl, rfl⟩))
    (fun os started H enc _ => lifted os started H enc)

theorem proved : Rows.FnAlwaysOkSaid := over
end Go.Proofs.Ytcpdcokcckbggaa.fnAlwaysOk

