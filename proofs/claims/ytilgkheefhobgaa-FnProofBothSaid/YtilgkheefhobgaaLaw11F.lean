/- A law of stage 11: from a clash all follows. It answers true, whatever the code. No condition. -/
import Derived.Test.YtilgkheefhobgaaDrawPu
import Derived.Test.YtilgkheefhobgaaMerged34
import Derived.Test.YtilgkheefhobgaaMerged27
import Derived.Test.YtilgkheefhobgaaMerged10
import Derived.Deep.RegionHeld3
import Derived.Deep.Cut
import Derived.Test.YtilgkheefhobgaaMerged29
import Derived.Test.YtilgkheefhobgaaOneI
import Derived.Lib.AppendZeros
namespace Go.Proofs.Ytilgkheefhobgaa
open Go.RowKit Go.Joins
theorem not_runs11 (w : World) (B : Nat) (u : Value) (ms : List (Int × Int)) (hr : RdMarks w B u ms) (hB : B ≤ w.heap.size) (hlen : ms.length ≤ 2000) : ∃ (f2 : Option Addr) (g2 : Nat) (w2 : World) (f4 : Option Addr) (g4 : Nat) (w4 : World),
    (Builtin.append_ #[TS, TS] TS #[.slice (some ⟨w.heap.size, 0, none⟩) 0 0, u]).run Try.prog (w.alloc (.cells #[] TM)) = .ok (.slice f2 ms.length g2) w2 ∧
    (Builtin.append_ #[TS, TS] TS #[.slice f2 ms.length g2, .slice (some ⟨w2.heap.size, 0, none⟩) 1 1]).run Try.prog (w2.alloc (.cells #[.int .i64 2, .int .i64 0] TM)) = .ok (.slice f4 (ms.length + 1) g4) w4 ∧
    w4.ownsRow w.heap.size TM 2 (.slice f4 (ms.length + 1) g4) (ms.length + 1) (mcells (ms ++ [(2, 0)])) ∧ Below w.heap.size w w4 := by
  obtain ⟨im, hmi, hmz0, hmz1, hmz2⟩ := info_parts Try.infoM
  have hb1 : Below w.heap.size w (w.alloc (.cells #[] TM)) := (Below.refl _ _).alloc (Nat.le_refl _) _
  have hmade : (w.alloc (.cells #[] TM)).ownsRow w.heap.size TM 2 (.slice (some ⟨w.heap.size, 0, none⟩) 0 0) 0 [] := World.ownsRow_made _ _ 0 (Nat.le_refl _) (by unfold maxLen; omega) rfl
  obtain ⟨v2, w2, hrun2, ho2, hg2, _⟩ := append_rd hmi hmz0 hmz1 hmz2 hmade (hr.below (w' := w.alloc (.cells #[] TM)) (fun q hq => hb1.block q (by omega))) (by omega) hb1.size
  have hb2 := hb1.grown hg2 hb1.size (fun q hq => (hmade.lt q hq).1)
  rw [Nat.zero_add, List.nil_append] at ho2
  obtain ⟨f2, g2, rfl⟩ := own_len ho2
  have hb3 : Below w.heap.size w (w2.alloc (.cells #[.int .i64 2, .int .i64 0] TM)) := hb2.alloc hb2.size _
  have ho3 := ho2.alloc (.cells #[.int .i64 2, .int .i64 0] TM)
  have hl3 : RdMarks (w2.alloc (.cells #[.int .i64 2, .int .i64 0] TM)) (w2.alloc (.cells #[.int .i64 2, .int .i64 0] TM)).heap.size (.slice (some ⟨w2.heap.size, 0, none⟩) 1 1) [(2, 0)] :=
    RdMarks.of_own (own_new w2 _ 2 0 (Nat.le_refl _)) (I64s_one (I64_small (by omega) (by omega)) (I64_small (by omega) (by omega)))
  obtain ⟨v4, w4, hrun4, ho4, hg4, _⟩ := append_rd hmi hmz0 hmz1 hmz2 ho3 hl3 (by simp; omega) hb3.size
  have hb4 := hb3.grown hg4 hb3.size (fun q hq => (ho3.lt q hq).1)
  rw [← mcells_append, show ms.length + [((2 : Int), (0 : Int))].length = ms.length + 1 from rfl] at ho4
  obtain ⟨f4, g4, rfl⟩ := own_len ho4
  exact ⟨f2, g2, w2, f4, g4, w4, hrun2, hrun4, ho4, hb4⟩
end Go.Proofs.Ytilgkheefhobgaa
namespace Go.Proofs.Ytilgkheefhobgaa.fnProofBoth
open Go.ChangeShapes Go.WideShapes Go.ChangeAt Go.RowKit Go.Joins
attribute [local irreducible] holds tabN tabV holdsV sameV followsV alwaysV matterV mirV mirOk mcells tmOf claimOk mayT mayV ctabV ctabN storyV storyOk storyN storyT ctermV ctermL denyV denyOk ccells clashV followsF provesF findF foundS foundG tbF readF textF nats8 scells
open Go.ChangeMaps (open_string shut_string)
set_option linter.unusedVariables false
set_option maxRecDepth 100000 in
set_option maxHeartbeats 8000000 in
theorem walk (a0 : Value) (n0 : Nat) (w : World) (w0 : RdBytes w w.heap.size a0 n0) :
    Calls Try.prog 6 #[a0] w fun e w' => e = .returned (.bool true) ∧ Below w.heap.size w w' := by
  have hr := w0
  by_cases hbig : n0 ≤ 1048576
  case neg =>
    obtain ⟨ao, cap, rfl, hl, hm, hc⟩ := w0
    have hbig' := code_big hbig
    unfold maxLen at hm
    clear hc hr hbig
    go_enter Try.func6, Try.ntmps6
    go_wp2
    go_ret
    exact ⟨rfl, Below.refl _ _⟩
  have hbig' : (n0 : Int) ≤ 1048576 := by omega
  clear hbig
  obtain ⟨ao, cap, rfl, hl, hm, hc⟩ := w0
  have Hr := Lib.hid hr
  clear hc hr hl hm
  go_enter Try.func6, Try.ntmps6
  go_wp2_with fail
  refine (drawFindProof _ _ _ Hr.out).mono ?_
  rintro e w1 ⟨p, v, qs, g, cap, ms, hp1, hp4, rfl, hst, hqs, hq7, hown, hi, hn, hB1⟩
  have hi2 : I64s (ms ++ [(2, 0)]) := I64s_append hi (I64s_one (I64_small (by omega) (by omega)) (I64_small (by omega) (by omega)))
  obtain ⟨f2, g2, wa, f4, g4, w2, hrun2, hrun4, hown4, hb2⟩ := not_runs11 w1 w1.heap.size _ ms (RdMarks.of_own hown hi) (Nat.le_refl _) (by omega)
  have hln : (ms ++ [((2 : Int), (0 : Int))]).length = ms.length + 1 := by simp
  rw [← hln] at hown4
  have HN2 := Lib.hid (RdMarks.of_own hown4 hi2)
  rw [hln] at HN2
  have Hrun2 := Lib.hid hrun2
  have Hrun4 := Lib.hid hrun4
  have HS1 := Lib.hid hst.rd
  have HM1 := Lib.hid (RdMarks.of_own hown hi)
  obtain ⟨qo, qcap, rfl⟩ := own_len hst.1
  clear hst hown hi
  have HS2 := Lib.hid ((HS1.out.below (w' := w2) hb2.block).mono hb2.size)
  have HM2 := Lib.hid ((HM1.out.below (w' := w2) hb2.block).mono hb2.size)
  have hB2 : Below w.heap.size w w2 := hB1.trans (hb2.mono hB1.size)
  clear hrun2 hrun4 hown4 hi2 hb2 hln
  have hfa := fun B u u2 W h h2 h3 => implFindProof p qs ms B u u2 W h h2 h3
  have hfb := fun B u u2 W h h2 h3 => implFindProof p qs (ms ++ [(2, 0)]) B u u2 W h h2 h3
  rw [find_iff] at hfa hfb
  have hso := fun B u W h h2 => specStoryOk p qs B u W h h2
  have hta := fun B u W h => specTermOk p ms B u W h
  have htb := fun B u W h => specTermOk p (ms ++ [(2, 0)]) B u W h
  have hcl := fun B u W h h2 => implClashOk p qs B u W h h2
  have hbc := fun h1 h2 h3 => both_clash (p := p) (s := qs.map (·.2)) (ms := ms) h1 h2 h3
  have Hfa := Lib.hid hfa
  have Hfb := Lib.hid hfb
  have Hso := Lib.hid hso
  have Hta := Lib.hid hta
  have Htb := Lib.hid htb
  have Hcl := Lib.hid hcl
  clear hfa hfb hso hta htb hcl
  generalize followsF p (qs.map (·.2)) ms = oa at *
  generalize followsF p (qs.map (·.2)) (ms ++ [(2, 0)]) = ob at *
  generalize clashV p (qs.map (·.2)) = cv at *
  generalize storyOk p (qs.map (·.2)) = so at *
  generalize termOk p ms = ta at *
  generalize termOk p (ms ++ [(2, 0)]) = tb at *
  generalize foundS (findF p (qs.map (·.2)) ms) = sa at *
  generalize foundG (findF p (qs.map (·.2)) ms) = ga at *
  generalize foundS (findF p (qs.map (·.2)) (ms ++ [(2, 0)])) = sb at *
  generalize foundG (findF p (qs.map (·.2)) (ms ++ [(2, 0)])) = gb at *
  go_upto_region 5 with (first
    | (at_builtin; refine Lib.wpList_append_run _ rfl (.tmp 20) (.tmp 21) _ _ rfl _ _ rfl rfl _ _ Hrun2.out ?_)
    | (at_builtin; refine Lib.wpList_append_run _ rfl (.tmp 22) (.tmp 24) _ _ rfl _ _ rfl rfl _ _ Hrun4.out ?_)
    | fail)
  clear Hrun2 Hrun4 HS1 HM1
  go_wp2_with fail
  refine (Hso.out _ _ _ HS2.out (Nat.le_refl _)).mono ?_
  rintro e w3 ⟨rfl, hb3⟩
  have HS3 := Lib.hid ((HS2.out.below (w' := w3) hb3.block).mono hb3.size)
  have HM3 := Lib.hid ((HM2.out.below (w' := w3) hb3.block).mono hb3.size)
  have HN3 := Lib.hid ((HN2.out.below (w' := w3) hb3.block).mono hb3.size)
  have hB3 : Below w.heap.size w w3 := hB2.trans (hb3.mono hB2.size)
  clear hb3
  cases so with
  | false =>
    clear hbc
    go_wp2_with fail
    refine (alive _).mono ?_
    rintro e w' ⟨rfl, rfl⟩
    go_wp2
    go_ret
    exact ⟨rfl, hB3⟩
  | true =>
  go_wp2_with fail
  refine (Hta.out _ _ _ HM3.out).mono ?_
  rintro e w' ⟨rfl, rfl⟩
  cases ta with
  | false =>
    clear hbc
    go_wp2_with fail
    refine (alive _).mono ?_
    rintro e w' ⟨rfl, rfl⟩
    go_wp2
    go_ret
    exact ⟨rfl, hB3⟩
  | true =>
  go_wp2_with fail
  refine (Htb.out _ _ _ HN3.out).mono ?_
  rintro e w' ⟨rfl, rfl⟩
  cases tb with
  | false =>
    clear hbc
    go_wp2_with fail
    refine (alive _).mono ?_
    rintro e w' ⟨rfl, rfl⟩
    go_wp2
    go_ret
    exact ⟨rfl, hB3⟩
  | true =>
  have hbc' := hbc (by trivial) (by trivial) (by trivial)
  clear hbc
  go_wp2_with fail
  refine (Hfa.out _ _ _ _ HS3.out HM3.out (Nat.le_refl _)).mono ?_
  rintro e w4 ⟨v4, rfl, ho4, hb4⟩
  have HS4 := Lib.hid ((HS3.out.below (w' := w4) hb4.block).mono hb4.size)
  have HM4 := Lib.hid ((HM3.out.below (w' := w4) hb4.block).mono hb4.size)
  have HN4 := Lib.hid ((HN3.out.below (w' := w4) hb4.block).mono hb4.size)
  have hB4 : Below w.heap.size w w4 := hB3.trans (hb4.mono hB3.size)
  obtain ⟨o4, c4, hv4⟩ := own_len ho4
  subst hv4
  obtain ⟨w5, hw5, _, _, hb5, _⟩ := new_two w4 (.int .i64 ga) (.slice o4 sa.length c4) 34
  have HS5 := Lib.hid ((HS4.out.below (w' := w5) hb5.block).mono hb5.size)
  have HM5 := Lib.hid ((HM4.out.below (w' := w5) hb5.block).mono hb5.size)
  have HN5 := Lib.hid ((HN4.out.below (w' := w5) hb5.block).mono hb5.size)
  have hB5 : Below w.heap.size w w5 := hB4.trans (hb5.mono hB4.size)
  clear hb4 hb5 ho4
  generalize sa.length = La at *
  go_upto_region 8 with fail
  rw [← hw5]
  clear hw5
  go_wp2_with fail
  refine (Hfb.out _ _ _ _ HS5.out HN5.out (Nat.le_refl _)).mono ?_
  rintro e w6 ⟨v6, rfl, ho6, hb6⟩
  have HS6 := Lib.hid ((HS5.out.below (w' := w6) hb6.block).mono hb6.size)
  have HM6 := Lib.hid ((HM5.out.below (w' := w6) hb6.block).mono hb6.size)
  have HN6 := Lib.hid ((HN5.out.below (w' := w6) hb6.block).mono hb6.size)
  have hB6 : Below w.heap.size w w6 := hB5.trans (hb6.mono hB5.size)
  obtain ⟨o6, c6, hv6⟩ := own_len ho6
  subst hv6
  obtain ⟨w7, hw7, _, _, hb7, _⟩ := new_two w6 (.int .i64 gb) (.slice o6 sb.length c6) 34
  have HS7 := Lib.hid ((HS6.out.below (w' := w7) hb7.block).mono hb7.size)
  have HM7 := Lib.hid ((HM6.out.below (w' := w7) hb7.block).mono hb7.size)
  have HN7 := Lib.hid ((HN6.out.below (w' := w7) hb7.block).mono hb7.size)
  have hB7 : Below w.heap.size w w7 := hB6.trans (hb7.mono hB6.size)
  clear hb6 hb7 ho6
  generalize sb.length = Lb at *
  go_upto_region 9 with fail
  rw [← hw7]
  clear hw7
  cases oa <;> cases ob
  all_goals
    subst hbc'
    go_wp2_with fail
    refine (alive _).mono ?_
    rintro e w' ⟨rfl, rfl⟩
    go_wp2_with fail
    refine (Hcl.out _ _ _ HS7.out (Nat.le_refl _)).mono ?_
    rintro e w8 ⟨rfl, hb8⟩
    have hB8 : Below w.heap.size w w8 := hB7.trans (hb8.mono hB7.size)
    clear hb8
    go_wp2
    go_ret
    exact ⟨rfl, hB8⟩

set_option maxRecDepth 100000 in
theorem lifted (os : Os) (started : os.Started) (H : Type) (enc : TypeId × Value → H) :
    ReturnsInHanded {} Try.checked os 6 .any (Rows.fnProofBothSpec.pre6 enc Try.prog Try.f6 Rows.fnProofBothRow.domain false) (Rows.fnProofBothSpec.post enc Try.prog Try.f6 false true false false) := by
  refine returnsInHanded_of_change (C := Try.checked) Try.own started (by kernel_rfl) Try.func6
    (ChangeSpec.witness6 (enc := enc) (C := Try.checked) false ⟨#[], #[.slice none 0 0], []⟩ 8 (by kernel_rfl) (by kernel_rfl) (by kernel_rfl) (by kernel_rfl)) ?_
  intro W base args ds gs before hval0 hW hcnd _
  have hval : ∀ (j : Nat) t v, Try.f6.params[j]? = some t → args[j]? = some v → Value.okWide Try.prog W .any base t v := hval0
  have hW' := hW
  obtain ⟨p, q, hA0, hV, rfl, hfz, hnd⟩ := hW
  have hA : DataW.TrodAll enc Try.prog W 0 (fun _ => true) true Try.f6.params.toList args.toList ds p := hA0
  rw [Try.params6] at hA hval
  obtain ⟨v0, vs0, d0, ds0, p0, q0, hargs, rfl, rfl, h0, r0⟩ := trodAll_cons hA
  obtain ⟨rfl, rfl, rfl⟩ := trodAll_nil r0
  obtain rfl : args = #[v0] := by cases args; simp_all
  obtain ⟨rfl, rfl⟩ := trodVars_none hV
  obtain ⟨a0, len0, cap0, rfl⟩ := okWide_slice Try.underlying22 (hval 0 22 v0 rfl rfl)
  have k0 := h0
  have lt0 : ∀ x ∈ p0, x.block < W.heap.size := by obtain ⟨m, hm⟩ := k0; exact DataW.trod_lt m _ _ _ hm
  obtain ⟨z0, w0⟩ : ∃ zs, IsRow .u8 W a0 len0 cap0 zs := by
    obtain ⟨fuel, hf⟩ := h0
    rcases open_ints Try.underlying22 Try.underlying5 (by kernel_rfl) hf with ⟨hcs, _⟩ | ⟨x, l, c, zs, hcs, _, hl, hm, hz, _, hcell, hwz⟩
    · simp [Value.cells] at hcs
      obtain ⟨rfl, rfl, rfl⟩ := hcs
      exact ⟨[], .inl ⟨rfl, rfl, rfl, rfl⟩⟩
    · simp [Value.cells] at hcs
      obtain ⟨rfl, rfl, rfl⟩ := hcs
      exact ⟨zs, .inr ⟨_, rfl, hl, hm, by simpa using hz, hcell, hwz⟩⟩
  clear hA0 hval0
  refine (walk _ _ W (RdBytes.of_row w0)).mono fun e W' ⟨he, bel⟩ => ?_
  subst he
  exact ⟨_, rfl, _, _, _, [], _, [], hW', trodAll_mk1 (shut_bool Try.underlying4 _), (trodAll_cons_mk (Below.trod Try.laidOut (by kernel_rfl) (of_decide_eq_true (by kernel_rfl)) k0 bel lt0) trodAll_mk0), rfl, bel.frame _, fun h => by cases h⟩

theorem closed : joinedFacts Try.pinned.checked.prog 6 Try.f6 Rows.fnProofBothSpec Rows.fnProofBothRow = true := by
  unfold joinedFacts
  exact (and_tt (and_tt (and_tt (and_tt (and_tt (and_tt (and_tt (and_tt (and_tt (and_tt (and_tt (and_tt (and_tt (and_tt (and_tt (and_tt (and_tt (and_tt (and_tt (and_tt (and_tt (and_tt (and_tt (and_tt (and_tt (and_tt (and_tt (and_tt (and_tt (and_tt (and_tt (by kernel_rfl) (by kernel_rfl)) (by kernel_rfl)) (by kernel_rfl)) (by kernel_rfl)) (by kernel_rfl)) (by kernel_rfl)) (by kernel_rfl)) (by kernel_rfl)) (by kernel_rfl)) (by kernel_rfl)) (by kernel_rfl)) (by kernel_rfl)) (by kernel_rfl)) (by kernel_rfl)) (by kernel_rfl)) (by kernel_rfl)) (by kernel_rfl)) (by kernel_rfl)) (by kernel_rfl)) (by kernel_rfl)) (by kernel_rfl)) (by kernel_rfl)) (by kernel_rfl)) (by kernel_rfl)) Try.mayEnter0) (lifted_tt Try.lifts0 rfl)) (make_tt Try.make0 rfl)) (by kernel_rfl)) (by kernel_rfl)) (by kernel_rfl)) (by kernel_rfl))
theorem over : Rows.fnProofBothRow.holds Try.pinned (OpenSpec.ofChange Rows.fnProofBothSpec) :=
  OpenClaim.holds_of_wide 6 Try.f6 rfl rfl rfl rfl rfl rfl rfl ⟨rfl, rfl, rfl, rfl, rfl⟩ rfl rfl rfl rfl rfl (by kernel_rfl) Try.func6 closed
    (of_decide_eq_true (by kernel_rfl)) (by unfold Func.isWrapper; first | (rw [if_pos (by decide +kernel)]; kernel_rfl) | (rw [if_neg (by decide +kernel)]; exact ⟨rfl, rfl⟩))
    (fun os started H enc _ => lifted os started H enc)

theorem proved : Rows.FnProofBothSaid := over
end Go.Proofs.Ytilgkheefhobgaa.fnProofBoth

