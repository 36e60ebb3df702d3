/- A law of stage 11: what follows has a proof. It answers true, whatever the code. No condition. -/
import Derived.Test.YtilgkheefhobgaaDrawPu
import Derived.Test.YtilgkheefhobgaaMerged34
import Derived.Test.YtilgkheefhobgaaMerged27
import Derived.Test.YtilgkheefhobgaaMerged10
import Derived.Deep.RegionHeld3
import Derived.Deep.Cut
namespace Go.Proofs.Ytilgkheefhobgaa
open Go.RowKit Go.Joins
theorem found_proves (p : Int) (s : List Cl) (ms : List (Int × Int)) : (findF p s ms).isSome = true → provesF p s ms (foundS (findF p s ms)) (foundG (findF p s ms)) = true := by
  intro h
  obtain ⟨t, ht⟩ := Option.isSome_iff_exists.1 h
  rw [ht]
  exact find_proof ht
theorem found_nothing (p : Int) (s : List Cl) (ms : List (Int × Int)) : (findF p s ms).isSome = false → foundG (findF p s ms) = 0 ∧ (foundS (findF p s ms)).length = 0 := by
  intro h
  cases hf : findF p s ms with
  | none => exact ⟨rfl, rfl⟩
  | some t => rw [hf] at h; cases h
end Go.Proofs.Ytilgkheefhobgaa
namespace Go.Proofs.Ytilgkheefhobgaa.fnFindProof
open Go.ChangeShapes Go.WideShapes Go.ChangeAt Go.RowKit Go.Joins
attribute [local irreducible] holds tabN tabV holdsV sameV followsV alwaysV matterV mirV mirOk mcells tmOf claimOk mayT mayV ctabV ctabN storyV storyOk storyN storyT ctermV ctermL denyV denyOk ccells clashV followsF provesF findF foundS foundG tbF readF textF nats8 scells
open Go.ChangeMaps (open_string shut_string)
set_option linter.unusedVariables false
set_option maxRecDepth 100000 in
set_option maxHeartbeats 8000000 in
theorem walk (a0 : Value) (n0 : Nat) (w : World) (w0 : RdBytes w w.heap.size a0 n0) :
    Calls Try.prog 5 #[a0] w fun e w' => e = .returned (.bool true) ∧ Below w.heap.size w w' := by
  have hr := w0
  by_cases hbig : n0 ≤ 1048576
  case neg =>
    obtain ⟨ao, cap, rfl, hl, hm, hc⟩ := w0
    have hbig' := code_big hbig
    unfold maxLen at hm
    clear hc hr hbig
    go_enter Try.func5, Try.ntmps5
    go_wp2
    go_ret
    exact ⟨rfl, Below.refl _ _⟩
  have hbig' : (n0 : Int) ≤ 1048576 := by omega
  clear hbig
  obtain ⟨ao, cap, rfl, hl, hm, hc⟩ := w0
  have Hr := Lib.hid hr
  clear hc hr hl hm
  go_enter Try.func5, Try.ntmps5
  go_wp2_with fail
  refine (drawFindProof _ _ _ Hr.out).mono ?_
  rintro e w1 ⟨p, v, qs, g, cap, ms, hp1, hp4, rfl, hst, hqs, hq7, hown, hi, hn, hB1⟩
  have HS1 := Lib.hid hst.rd
  have HM1 := Lib.hid (RdMarks.of_own hown hi)
  obtain ⟨qo, qcap, rfl⟩ := own_len hst.1
  clear hst hown hi
  have hfi := fun B u u2 W h h2 h3 => implFindProof p qs ms B u u2 W h h2 h3
  have hfs := fun B u u2 W h h2 h3 => specFindProof p qs ms B u u2 W h h2 h3
  have hfo := fun B u u2 W h h2 h3 => implFollowsFrom p qs ms B u u2 W h h2 h3
  obtain ⟨hs64, hl15, hI⟩ := found_small (p := p) (qs := qs) (ms := ms)
  have hiff := find_iff (p := p) (s := qs.map (·.2)) (ms := ms)
  rw [← hiff] at hfo
  have hpr := fun B u u2 pv W h h2 h3 h4 => implProofOk p (foundG (findF p (qs.map (·.2)) ms)) qs ms (foundS (findF p (qs.map (·.2)) ms)) B u u2 pv W h h2 h3 h4 (find_i64 _ _ _)
  have hyes := found_proves p (qs.map (·.2)) ms
  have hno := found_nothing p (qs.map (·.2)) ms
  have Hs64 := Lib.hid hs64
  have Hfi := Lib.hid hfi
  have Hfs := Lib.hid hfs
  have Hfo := Lib.hid hfo
  have Hpr := Lib.hid hpr
  clear hfi hfs hfo hpr hs64 hiff hI
  generalize provesF p (qs.map (·.2)) ms (foundS (findF p (qs.map (·.2)) ms)) (foundG (findF p (qs.map (·.2)) ms)) = pr at *
  generalize foundS (findF p (qs.map (·.2)) ms) = sp at *
  generalize foundG (findF p (qs.map (·.2)) ms) = fi at *
  generalize (findF p (qs.map (·.2)) ms).isSome = ok at *
  have Hl15 := Lib.hid hl15; clear hl15
  go_wp2_with fail
  refine (Hfi.out _ _ _ _ HS1.out HM1.out (Nat.le_refl _)).mono ?_
  rintro e w2 ⟨vP, rfl, hoP, hb2⟩
  have HS2 := Lib.hid ((HS1.out.below (w' := w2) hb2.block).mono hb2.size)
  have HM2 := Lib.hid ((HM1.out.below (w' := w2) hb2.block).mono hb2.size)
  have hB2 : Below w.heap.size w w2 := hB1.trans (hb2.mono hB1.size)
  have hrP := RdSplits.of_own hoP Hs64.out
  obtain ⟨oP, cP, hvP⟩ := own_len hoP
  subst hvP
  obtain ⟨w3, hw3, xP, yP, hb3, hs3⟩ := new_two w2 (.int .i64 fi) (.slice oP sp.length cP) 34
  have HP3 := Lib.hid ((hrP.below (w' := w3) hb3.block).mono hb3.size)
  have HS3 := Lib.hid ((HS2.out.below (w' := w3) hb3.block).mono hb3.size)
  have HM3 := Lib.hid ((HM2.out.below (w' := w3) hb3.block).mono hb3.size)
  have hB3 : Below w.heap.size w w3 := hB2.trans (hb3.mono hB2.size)
  have hszP : w2.heap.size < w3.heap.size := hs3
  go_upto_region 5 with fail
  rw [← hw3]
  clear hw3 hb2 hb3 hoP hrP hs3
  clear HS1 HM1 HS2 HM2
  go_wp2_with fail
  refine (Hfs.out _ _ _ _ HS3.out HM3.out (Nat.le_refl _)).mono ?_
  rintro e w4 ⟨vX, rfl, hoX, hb4⟩
  have HS4 := Lib.hid ((HS3.out.below (w' := w4) hb4.block).mono hb4.size)
  have HM4 := Lib.hid ((HM3.out.below (w' := w4) hb4.block).mono hb4.size)
  have hB4 : Below w.heap.size w w4 := hB3.trans (hb4.mono hB3.size)
  have hrX := RdSplits.of_own hoX Hs64.out
  obtain ⟨oX, cX, hvX⟩ := own_len hoX
  subst hvX
  have HP4 := Lib.hid ((HP3.out.below (w' := w4) hb4.block).mono hb4.size)
  have hs34 := hb4.size
  have xP' := (hb4.cell (p := ⟨w2.heap.size, 0, none⟩) (by show w2.heap.size < w3.heap.size; omega)).trans xP
  have yP' := (hb4.cell (p := ⟨w2.heap.size, 1, none⟩) (by show w2.heap.size < w3.heap.size; omega)).trans yP
  clear xP yP
  have xP := xP'
  have yP := yP'
  clear xP' yP'
  obtain ⟨w5, hw5, xX, yX, hb5, hs5⟩ := new_two w4 (.int .i64 fi) (.slice oX sp.length cX) 34
  have HX5 := Lib.hid ((hrX.below (w' := w5) hb5.block).mono hb5.size)
  have HS5 := Lib.hid ((HS4.out.below (w' := w5) hb5.block).mono hb5.size)
  have HM5 := Lib.hid ((HM4.out.below (w' := w5) hb5.block).mono hb5.size)
  have hB5 : Below w.heap.size w w5 := hB4.trans (hb5.mono hB4.size)
  have HP5 := Lib.hid ((HP4.out.below (w' := w5) hb5.block).mono hb5.size)
  have hs45 := hb5.size
  have xP' := (hb5.cell (p := ⟨w2.heap.size, 0, none⟩) (by show w2.heap.size < w4.heap.size; omega)).trans xP
  have yP' := (hb5.cell (p := ⟨w2.heap.size, 1, none⟩) (by show w2.heap.size < w4.heap.size; omega)).trans yP
  clear xP yP
  have xP := xP'
  have yP := yP'
  clear xP' yP'
  have hszX : w4.heap.size < w5.heap.size := hs5
  go_upto_region 6 with fail
  rw [← hw5]
  clear hw5 hb4 hb5 hoX hrX hs5
  clear HS3 HM3 HS4 HM4 HP3 HP4
  have Hsame := Lib.hid (sameProof sp fi w5.heap.size w5.heap.size _ _ w5 HP5.out HX5.out (Nat.le_refl _) (Nat.le_refl _))
  generalize sp.length = L at *
  go_wp2_with fail
  refine Hsame.out.mono ?_
  rintro e w6 ⟨rfl, hb6⟩
  have HS6 := Lib.hid ((HS5.out.below (w' := w6) hb6.block).mono hb6.size)
  have HM6 := Lib.hid ((HM5.out.below (w' := w6) hb6.block).mono hb6.size)
  have HP6 := Lib.hid ((HP5.out.below (w' := w6) hb6.block).mono hb6.size)
  have hB6 : Below w.heap.size w w6 := hB5.trans (hb6.mono hB5.size)
  have xP' := (hb6.cell (p := ⟨w2.heap.size, 0, none⟩) (by show w2.heap.size < w5.heap.size; omega)).trans xP
  have yP' := (hb6.cell (p := ⟨w2.heap.size, 1, none⟩) (by show w2.heap.size < w5.heap.size; omega)).trans yP
  clear xP yP
  have xP := xP'
  have yP := yP'
  clear xP' yP'
  have hs56 := hb6.size
  clear hb6 Hsame HX5 xX yX
  cases ok with
  | false =>
    obtain ⟨h1, h2⟩ := hno rfl
    subst h1
    have hL0 : (L : Int) = 0 := by omega
    go_wp2_with fail
    refine (Hfo.out _ _ _ _ HS6.out HM6.out (Nat.le_refl _)).mono ?_
    rintro e w7 ⟨rfl, hb7⟩
    have hB7 : Below w.heap.size w w7 := hB6.trans (hb7.mono hB6.size)
    clear hb7
    go_wp2_with fail
    refine (alive _).mono ?_
    rintro e w' ⟨rfl, rfl⟩
    go_wp2
    go_ret
    exact ⟨rfl, hB7⟩
  | true =>
    have hp := hyes rfl
    rw [hp] at Hpr
    go_wp2_with fail
    refine (Hfo.out _ _ _ _ HS6.out HM6.out (Nat.le_refl _)).mono ?_
    rintro e w7 ⟨rfl, hb7⟩
    have hs67 := hb7.size
    have HS7 := Lib.hid ((HS6.out.below (w' := w7) hb7.block).mono hb7.size)
    have HM7 := Lib.hid ((HM6.out.below (w' := w7) hb7.block).mono hb7.size)
    have HP7 := Lib.hid ((HP6.out.below (w' := w7) hb7.block).mono hb7.size)
    have hB7 : Below w.heap.size w w7 := hB6.trans (hb7.mono hB6.size)
    have xP' := (hb7.cell (p := ⟨w2.heap.size, 0, none⟩) (by show w2.heap.size < w6.heap.size; omega)).trans xP
    have yP' := (hb7.cell (p := ⟨w2.heap.size, 1, none⟩) (by show w2.heap.size < w6.heap.size; omega)).trans yP
    clear xP yP
    have xP := xP'
    have yP := yP'
    clear xP' yP'
    clear hb7
    go_wp2_with fail
    refine (Hpr.out _ _ _ _ _ HS7.out HM7.out HP7.out (Nat.le_refl _)).mono ?_
    rintro e w8 ⟨rfl, hb8⟩
    have hB8 : Below w.heap.size w w8 := hB7.trans (hb8.mono hB7.size)
    clear hb8
    go_wp2
    go_ret
    exact ⟨rfl, hB8⟩

set_option maxRecDepth 100000 in
theorem lifted (os : Os) (started : os.Started) (H : Type) (enc : TypeId × Value → H) :
    ReturnsInHanded {} Try.checked os 5 .any (Rows.fnFindProofSpec.pre6 enc Try.prog Try.f5 Rows.fnFindProofRow.domain false) (Rows.fnFindProofSpec.post enc Try.prog Try.f5 false true false false) := by
  refine returnsInHanded_of_change (C := Try.checked) Try.own started (by kernel_rfl) Try.func5
    (ChangeSpec.witness6 (enc := enc) (C := Try.checked) false ⟨#[], #[.slice none 0 0], []⟩ 8 (by kernel_rfl) (by kernel_rfl) (by kernel_rfl) (by kernel_rfl)) ?_
  intro W base args ds gs before hval0 hW hcnd _
  have hval : ∀ (j : Nat) t v, Try.f5.params[j]? = some t → args[j]? = some v → Value.okWide Try.prog W .any base t v := hval0
  have hW' := hW
  obtain ⟨p, q, hA0, hV, rfl, hfz, hnd⟩ := hW
  have hA : DataW.TrodAll enc Try.prog W 0 (fun _ => true) true Try.f5.params.toList args.toList ds p := hA0
  rw [Try.params5] at hA hval
  obtain ⟨v0, vs0, d0, ds0, p0, q0, hargs, rfl, rfl, h0, r0⟩ := trodAll_cons hA
  obtain ⟨rfl, rfl, rfl⟩ := trodAll_nil r0
  obtain rfl : args = #[v0] := by cases args; simp_all
  obtain ⟨rfl, rfl⟩ := trodVars_none hV
  obtain ⟨a0, len0, cap0, rfl⟩ := okWide_slice Try.underlying22 (hval 0 22 v0 rfl rfl)
  have k0 := h0
  have lt0 : ∀ x ∈ p0, x.block < W.heap.size := by obtain ⟨m, hm⟩ := k0; exact DataW.trod_lt m _ _ _ hm
  obtain ⟨z0, w0⟩ : ∃ zs, IsRow .u8 W a0 len0 cap0 zs := by
    obtain ⟨fuel, hf⟩ := h0
    rcases open_ints Try.underlying22 Try.underlying5 (by kernel_rfl) hf with ⟨hcs, _⟩ | ⟨x, l, c, zs, hcs, _, hl, hm, hz, _, hcell, hwz⟩
    · simp [Value.cells] at hcs
      obtain ⟨rfl, rfl, rfl⟩ := hcs
      exact ⟨[], .inl ⟨rfl, rfl, rfl, rfl⟩⟩
    · simp [Value.cells] at hcs
      obtain ⟨rfl, rfl, rfl⟩ := hcs
      exact ⟨zs, .inr ⟨_, rfl, hl, hm, by simpa using hz, hcell, hwz⟩⟩
  clear hA0 hval0
  refine (walk _ _ W (RdBytes.of_row w0)).mono fun e W' ⟨he, bel⟩ => ?_
  subst he
  exact ⟨_, rfl, _, _, _, [], _, [], hW', trodAll_mk1 (shut_bool Try.underlying4 _), (trodAll_cons_mk (Below.trod Try.laidOut (by kernel_rfl) (of_decide_eq_true (by kernel_rfl)) k0 bel lt0) trodAll_mk0), rfl, bel.frame _, fun h => by cases h⟩

theorem closed : joinedFacts Try.pinned.checked.prog 5 Try.f5 Rows.fnFindProofSpec Rows.fnFindProofRow = true := by
  unfold joinedFacts
  exact (and_tt (and_tt (and_tt (and_tt (and_tt (and_tt (and_tt (and_tt (and_tt (and_tt (and_tt (and_tt (and_tt (and_tt (and_tt (and_tt (and_tt (and_tt (and_tt (and_tt (and_tt (and_tt (and_tt (and_tt (and_tt (and_tt (and_tt (and_tt (and_tt (and_tt (and_tt (by kernel_rfl) (by kernel_rfl)) (by kernel_rfl)) (by kernel_rfl)) (by kernel_rfl)) (by kernel_rfl)) (by kernel_rfl)) (by kernel_rfl)) (by kernel_rfl)) (by kernel_rfl)) (by kernel_rfl)) (by kernel_rfl)) (by kernel_rfl)) (by kernel_rfl)) (by kernel_rfl)) (by kernel_rfl)) (by kernel_rfl)) (by kernel_rfl)) (by kernel_rfl)) (by kernel_rfl)) (by kernel_rfl)) (by kernel_rfl)) (by kernel_rfl)) (by kernel_rfl)) (by kernel_rfl)) Try.mayEnter0) (lifted_tt Try.lifts0 rfl)) (make_tt Try.make0 rfl)) (by kernel_rfl)) (by kernel_rfl)) (by kernel_rfl)) (by kernel_rfl))
theorem over : Rows.fnFindProofRow.holds Try.pinned (OpenSpec.ofChange Rows.fnFindProofSpec) :=
  OpenClaim.holds_of_wide 5 Try.f5 rfl rfl rfl rfl rfl rfl rfl ⟨rfl, rfl, rfl, rfl, rfl⟩ rfl rfl rfl rfl rfl (by kernel_rfl) Try.func5 closed
    (of_decide_eq_true (by kernel_rfl)) (by unfold Func.isWrapper; first | (rw [if_pos (by decide +kernel)]; kernel_rfl) | (rw [if_neg (by decide +kernel)]; exact ⟨rfl, rfl⟩))
    (fun os started H enc _ => lifted os started H enc)

theorem proved : Rows.FnFindProofSaid := over
end Go.Proofs.Ytilgkheefhobgaa.fnFindProof

